/- What a watch tells of a name; an end is taken away. -/
import Derived.Test.YtconfkjchjcjgaaKWatch
namespace Go.Proofs.Ytconfkjchjcjgaa
open Go.RowKit Go.Maps Go.WideMaps
set_option linter.unusedVariables false

section
variable {w w' : World} {S T : Nat → Prop} {b mb nn : Nat} {M : DataW Unit} {v : Value} {now : Int} {f : Nat → En} {n q : Nat} {L : List It}
theorem look_none (h : WtAt w S b mb nn M v now f n L) {s : ByteArray} (hs : s.size ≤ maxLen) (hg : getL L s = none) :
    (Instr.lookup 56 (.map (some mb)) (.string s) false).run Try.prog w = .ok (.pointer none) w := by
  obtain ⟨u, ps, hrun, hv⟩ := h.map.lookup lawS Try.underlying56 (zeroP w) (zd := .nil) (zp := []) rfl (keyS s hs)
  rw [h.keys.no _ _ (fun k hk e => getL_none hg _ (h.like.to k hk) (lst_inj e))] at hv
  rw [hrun, ptrR_nil hv]
theorem look_some (h : WtAt w S b mb nn M v now f n L) {s : ByteArray} (hs : s.size ≤ maxLen) {k : Nat} (hk : k < n) (hn : (f k).nm = s) :
    (Instr.lookup 56 (.map (some mb)) (.string s) false).run Try.prog w = .ok (.pointer (some ⟨(f k).blk, 0, none⟩)) w := by
  obtain ⟨u, ps, hrun, hv⟩ := h.map.lookup lawS Try.underlying56 (zeroP w) (zd := .nil) (zp := []) rfl (keyS s hs)
  rw [← hn, h.keys.at_ k hk] at hv
  rw [← hn] at hrun ⊢
  rw [hrun, ptrR_at hv]
theorem WtAt.find (h : WtAt w S b mb nn M v now f n L) {s : ByteArray} {x : It} (hg : getL L s = some x) : ∃ k, k < n ∧ (f k).nm = s ∧ (f k).at_ = x.at_ := by
  obtain ⟨hx, hn⟩ := getL_some hg
  obtain ⟨k, hk, e⟩ := h.like.of x hx
  exact ⟨k, hk, by rw [← hn, ← e]; rfl, by rw [← e]; rfl⟩
theorem neqE (d : Nat) (w : World) : (binOp .neq 71 (.pointer (some ⟨d, 0, none⟩)) (.pointer none)).run Try.prog w = .ok (.bool true) w := by
  have h : ∀ k : Nat, (Op.equalIn (k + 1) 71 (.pointer (some ⟨d, 0, none⟩)) (.pointer none)).run Try.prog w = .ok false w := fun k => by
    simp [Op.equalIn, run_underlying Try.underlying71]
  simp only [binOp]
  simp [Op.equal, Op.maxDepth, h 9999]
theorem leftNo_any (h : Wt w S b now L q) {s : ByteArray} (hs : s.size ≤ maxLen) (hg : getL L s = none) :
    Calls Try.prog 16 #[.pointer (some ⟨b, 0, none⟩), .string s] w fun e w' => e = .returned (.tuple #[.int .i64 0, .bool false]) ∧ w = w' := by
  obtain ⟨mb, nn, M, v, f, n, h, _⟩ := h
  have c3 := h.c3
  have cn := Lib.hid (nobodys_any b w h.c0)
  have hl := look_none h hs hg
  clear h
  go_enter Try.func16, Try.ntmps16
  go_wp2_with (go_at_call 37; refine cn.out.mono ?_; rintro e w' ⟨rfl, rfl⟩)
  go_returns
  exact ⟨rfl, rfl⟩
set_option maxHeartbeats 1000000 in
theorem left_any (h : Wt w S b now L q) {s : ByteArray} (hs : s.size ≤ maxLen) {x : It} (hg : getL L s = some x) (hnow : 0 ≤ now ∧ now ≤ 4611686018427387904) :
    Calls Try.prog 16 #[.pointer (some ⟨b, 0, none⟩), .string s] w fun e w' => e = .returned (.tuple #[.int .i64 (x.at_ - now), .bool true]) ∧ Below w.heap.size w w' := by
  obtain ⟨mb, nn, M, v, f, n, h, _⟩ := h
  obtain ⟨k, hk, hn, ha⟩ := h.find hg
  have hat := h.ats x (getL_some hg).1
  have c1 := h.c1
  have c3 := h.c3
  have cn := Lib.hid (nobodys_any b w h.c0)
  have hl := look_some h hs hk hn
  have e1 : w.cell? ⟨(f k).blk, 1, none⟩ = some (.int .i64 (f k).at_) := by simpa [eCells] using (h.hn.ends k hk).cell 1
  rw [ha] at e1
  have hx := x.at_
  generalize (f k).blk = eb at *
  generalize x.at_ = t at *
  clear h hn ha
  go_enter Try.func16, Try.ntmps16
  go_wp2_with (go_at_call 37; refine cn.out.mono ?_; rintro e w' ⟨rfl, rfl⟩)
  go_quiet (fail)
  go_wp2
  go_returns
  exact ⟨rfl, bDrewN (Below.refl _ _) _⟩

theorem str_ne {l m : List UInt8} (h : l ≠ m) : (Lit.string l) ≠ .string m := fun e => h (by injection e)
theorem Keys.less {f' : Nat → En} (h : Keys M f (n + 1)) (nms : ∀ j k, j < n + 1 → k < n + 1 → (f j).nm = (f k).nm → j = k) {i : Nat} (hi : i < n + 1) (hl : Less1 f f' n i) : Keys (M.del (.string (lst (f i).nm))) f' n := by
  refine ⟨fun k hk z => ?_, fun l z hno => ?_⟩
  · obtain ⟨j, hj, hne, e⟩ := hl.to k hk
    rw [e, atKey_del_other (str_ne fun q => hne (nms j i hj hi (lst_inj q)))]
    exact h.at_ j hj z
  · by_cases e : l = lst (f i).nm
    · rw [e, atKey_del_same]
    · rw [atKey_del_other (str_ne e)]
      refine h.no l z fun j hj q => ?_
      by_cases hji : j = i
      · rw [hji] at q; exact e q.symm
      · obtain ⟨k, hk, e'⟩ := hl.of j hj hji
        exact hno k hk (by rw [e']; exact q)

set_option maxHeartbeats 4000000 in
set_option maxRecDepth 100000 in
theorem forget_any (h : WtAt w S b mb nn M v now f (n + 1) L) {k : Nat} (hk : k < n + 1) (hq : nn ≤ q ∧ n + 1 ≤ q ∧ L.length ≤ q) :
    Calls Try.prog 41 #[.pointer (some ⟨b, 0, none⟩), .pointer (some ⟨(f k).blk, 0, none⟩)] w fun e w' => e = .returned (.tuple #[]) ∧ Wt w' S b now (rmv (f k).nm L) q ∧ Outs S w w' := by
  obtain ⟨g, cap, rfl, ha⟩ := h.hn.ha (Nat.succ_pos n)
  have H := Lib.hid h
  have e2 := ha.e2 hk
  have hd : Below w.heap.size w w.drew := bDrewN (Below.refl _ _) 1
  have cr := remove_any (ha.go hd) hk h.hp
  unfold hV at cr
  have CR := Lib.hid cr
  have hmb := h.map
  have HSZ := Lib.hid (h.size _ (h.like.to k hk))
  obtain ⟨eb, heb⟩ : ∃ eb, eb = (f k).blk := ⟨_, rfl⟩
  rw [← heb] at e2 ⊢
  have HEB := Lib.hid heb
  clear h ha cr heb hmb
  go_enter Try.func41, Try.ntmps41
  go_wp2
  go_still_tail 8, (by kernel_rfl)
  change wpList _ _ _ _ _ w.drew
  clear e2
  go_wp2_with fail
  go_at_call 50
  refine CR.out.mono ?_
  rintro e w1 ⟨⟨x, rfl⟩, f', ha1, hp1, hl1, ho1, p, hw1⟩
  rw [← HEB.out] at hw1
  have hTS : ∀ k, (k = b ∨ Hs g f (n + 1) k) → S k := by
    rintro k (e | e | ⟨j, hj, e⟩)
    · rw [e]; exact H.out.sb
    · rw [e]; exact H.out.sv g rfl
    · rw [e]; exact H.out.se j hj
  have hTm : ¬ (mb = b ∨ Hs g f (n + 1) mb) := by
    rintro (e | e | ⟨j, hj, e⟩)
    · exact Whole.ne_map H.out.hn.top H.out.map e.symm
    · exact ownRow_ne_map H.out.hn.row rfl H.out.map e.symm
    · exact Whole.ne_map (H.out.hn.ends j hj) H.out.map e.symm
  have hmap1 := ownsMap_block_kept H.out.map (ho1.block mb H.out.map.lt hTm)
  have e0 : w1.cell? ⟨eb, 0, none⟩ = some (.string (f k).nm) := by simpa [eCells] using hw1.cell 0
  have c3 : w1.cell? ⟨b, 3, none⟩ = some (.map (some mb)) := by simpa using ha1.top.cell 3
  have hks := keyS (f k).nm HSZ.out
  have HA1 := Lib.hid ha1
  have HP1 := Lib.hid hp1
  have HL1 := Lib.hid hl1
  have HO1 := Lib.hid ((Outs.of (S := fun k => k = b ∨ Hs g f (n + 1) k) hd).same ho1)
  clear ha1 hp1 hl1 ho1 hw1 hd
  go_wp2
  go_still_tail 8, (by kernel_rfl)
  change wpList _ _ _ _ _ w1.drew
  have hmap2 : w1.drew.ownsMap Try.prog 9 ptrR mb nn M := ownsMap_block_kept hmap1 rfl
  clear e0 c3 hmap1
  go_wp2_with (at_delete; refine wpList_delete_own _ rfl _ _ 56 9 rfl 71 lawS Try.underlying56 ptrR mb nn M rfl hmap2 _ _ rfl hks ?_; intro w3 hm3 ht3; go_frame)
  go_end0
  have ho3 : Outs (fun k => k = mb) w1 w3 := by
    have := turned_outs (H := Unit) (S := fun k => k = mb) ht3 rfl
    exact ⟨this.os, this.tape, this.output, this.size, this.block⟩
  have hgS : ∀ k, k = mb → S k := fun k e => by rw [e]; exact H.out.sm
  have hHA := HA1.out.hn
  refine ⟨rfl, ⟨mb, nn, _, .slice (some ⟨g, 0, none⟩) n cap, f', n, { hn := ?_, hp := HP1.out, map := hm3, keys := H.out.keys.less H.out.nms hk HL1.out, like := H.out.like.less H.out.nod hk H.out.nms HL1.out, nms := ?_, srt := srt_rmv H.out.srt _, nod := nod_rmv H.out.nod _, size := ?_, ats := ?_, sb := H.out.sb, sm := H.out.sm, sv := ?_, se := ?_, lt := ?_ }, hq.1, by omega, Nat.le_trans (rmv_length _ _) hq.2.2⟩, ?_⟩
  · refine hHA.outs ho3 (fun e => ?_) (fun k hk e => ?_) (fun k hk e => ?_)
    · exact Whole.ne_map H.out.hn.top H.out.map e
    · have : g = k := by simpa [Value.ownBlock] using hk
      rw [← this] at e
      exact ownRow_ne_map H.out.hn.row rfl H.out.map e
    · obtain ⟨j, hj, _, q⟩ := HL1.out.to k hk
      rw [q] at e
      exact Whole.ne_map (H.out.hn.ends j hj) H.out.map e
  · intro j k hj hk' e
    obtain ⟨a, ha, _, q1⟩ := HL1.out.to j hj
    obtain ⟨c, hc, _, q2⟩ := HL1.out.to k hk'
    rw [q1, q2] at e
    have := H.out.nms a c ha hc e
    exact HA1.out.inj j k hj hk' (by rw [q1, q2, this])
  · exact fun x hx => H.out.size x (mem_rmv.1 hx).1
  · exact fun x hx => H.out.ats x (mem_rmv.1 hx).1
  · exact fun g' hg' => H.out.sv g' hg'
  · intro j hj
    obtain ⟨a, ha, _, q1⟩ := HL1.out.to j hj
    rw [q1]
    exact H.out.se a ha
  · exact fun j hj => Nat.lt_of_lt_of_le (H.out.lt j hj) (Nat.le_trans HO1.out.size ho3.size)
  · exact ((HO1.out.mono hTS).same (ho3.mono hgS))
end
end Go.Proofs.Ytconfkjchjcjgaa
