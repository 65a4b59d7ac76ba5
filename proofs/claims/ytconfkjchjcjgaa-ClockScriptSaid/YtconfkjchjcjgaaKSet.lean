/- A name is set, set anew, or dropped. -/
import Derived.Test.YtconfkjchjcjgaaKWat2
namespace Go.Proofs.Ytconfkjchjcjgaa
open Go.RowKit Go.Maps Go.WideMaps
set_option linter.unusedVariables false

section
variable {w w' : World} {S T : Nat → Prop} {b mb nn : Nat} {M : DataW Unit} {v : Value} {now : Int} {f : Nat → En} {n q : Nat} {L : List It}

theorem dropNo_any (h : Wt w S b now L q) {s : ByteArray} (hs : s.size ≤ maxLen) (hg : getL L s = none) :
    Calls Try.prog 19 #[.pointer (some ⟨b, 0, none⟩), .string s] w fun e w' => e = .returned (.int .i64 6) ∧ w = w' := by
  obtain ⟨mb, nn, M, v, f, n, h, _⟩ := h
  have c3 := h.c3
  have cn := Lib.hid (nobodys_any b w h.c0)
  have hl := look_none h hs hg
  clear h
  go_enter Try.func19, Try.ntmps19
  go_wp2_with (go_at_call 37; refine cn.out.mono ?_; rintro e w' ⟨rfl, rfl⟩)
  go_ret
  exact ⟨rfl, rfl⟩
set_option maxHeartbeats 1000000 in
theorem drop_any (h : Wt w S b now L q) {s : ByteArray} (hs : s.size ≤ maxLen) {x : It} (hg : getL L s = some x) :
    Calls Try.prog 19 #[.pointer (some ⟨b, 0, none⟩), .string s] w fun e w' => e = .returned (.int .i64 0) ∧ Wt w' S b now (rmv s L) q ∧ Outs S w w' := by
  obtain ⟨mb, nn, M, v, f, n, h, h1, h2, h3⟩ := h
  obtain ⟨k, hk, hn, ha⟩ := h.find hg
  have c3 := h.c3
  have cn := Lib.hid (nobodys_any b w h.c0)
  have hl := look_some h hs hk hn
  obtain ⟨n, rfl⟩ : ∃ m, n = m + 1 := ⟨n - 1, by omega⟩
  have cf := forget_any h hk ⟨h1, h2, h3⟩
  rw [hn] at cf
  have CF := Lib.hid cf
  clear h hn cf
  go_enter Try.func19, Try.ntmps19
  go_wp2_with (first
    | (go_at_call 37; refine cn.out.mono ?_; rintro e w' ⟨rfl, rfl⟩)
    | (go_at_call 41; refine CF.out.mono ?_; rintro e w' ⟨rfl, ht, ho⟩; have HT := Lib.hid ht; have HO := Lib.hid ho; clear ht ho))
  go_ret
  exact ⟨rfl, HT.out, HO.out⟩

/-- one that is set anew, in memory -/
theorem Hn.anew (h : Hn w b mb now v f n) {k : Nat} (hk : k < n) (t : Int) : Hn (w.setCell ⟨(f k).blk, 1, none⟩ (.int .i64 t)) b mb now v (fun j => if j = k then { f k with at_ := t } else f j) n := by
  have hb : ∀ j, ((fun j => if j = k then { f k with at_ := t } else f j) j).blk = (f j).blk := fun j => by
    by_cases e : j = k
    · simp [e]
    · simp [e]
  have ht := h.ends k hk
  have hij : ∀ a c, a < n → c < n → (f a).blk = (f c).blk → a = c := fun a c ha hc e => h.inj a c ha hc (h.dis a c ha hc e)
  refine ⟨h.top.far (p := ⟨(f k).blk, 1, none⟩) (Whole.ne h.top ht (by decide)) _, ?_, h.max, fun j hj => ?_, fun a c ha hc e => ?_, fun a c ha hc e => ?_⟩
  · have : ptrs (fun j => if j = k then { f k with at_ := t } else f j) n = ptrs f n := by
      unfold ptrs
      refine List.map_congr_left fun j _ => ?_
      unfold pE
      rw [hb j]
    rw [this]
    exact ownRow_block_kept h.row fun g hg => Below.heap_setCell _ _ _ _ (ownRow_ne h.row hg ht (by decide))
  · by_cases e : j = k
    · subst e
      have := ht.put 1 (.int .i64 t)
      simpa [eCells] using this
    · simp only [e, if_false]
      exact (h.ends j hj).far (p := ⟨(f k).blk, 1, none⟩) (fun q => e (hij j k hj hk q)) _
  · have q := congrArg En.blk e
    rw [hb, hb] at q
    exact hij a c ha hc q
  · rw [hb, hb] at e
    rw [hij a c ha hc e]
theorem Keys.anew (h : Keys M f n) {k : Nat} (t : Int) : Keys M (fun j => if j = k then { f k with at_ := t } else f j) n := by
  have hb : ∀ j, ((fun j => if j = k then { f k with at_ := t } else f j) j).blk = (f j).blk := fun j => by
    by_cases e : j = k
    · simp [e]
    · simp [e]
  have hm : ∀ j, ((fun j => if j = k then { f k with at_ := t } else f j) j).nm = (f j).nm := fun j => by
    by_cases e : j = k
    · simp [e]
    · simp [e]
  refine ⟨fun j hj z => by rw [hb, hm]; exact h.at_ j hj z, fun l z hl => h.no l z fun j hj => ?_⟩
  have := hl j hj
  rwa [hm] at this
theorem nms_rea {f f' : Nat → En} (hr : Rea f f' n) (hinj : ∀ j k, j < n → k < n → f j = f k → j = k) (h : ∀ j k, j < n → k < n → (f j).nm = (f k).nm → j = k) : ∀ j k, j < n → k < n → (f' j).nm = (f' k).nm → j = k := by
  intro j k hj hk e
  obtain ⟨a, ha, e1⟩ := hr.to j hj
  obtain ⟨c, hc, e2⟩ := hr.to k hk
  rw [e1, e2] at e
  exact hr.inj hinj j k hj hk (by rw [e1, e2, h a c ha hc e])

set_option maxHeartbeats 4000000 in
set_option maxRecDepth 100000 in
theorem setAnew_any (h : Wt w S b now L q) {s : ByteArray} (hs : s.size ≤ maxLen) (hs0 : s.toList.isEmpty = false) {x : It} (hg : getL L s = some x) (hnow : 0 ≤ now ∧ now ≤ 4611686018427387904) {t : Int} (ht : 1 ≤ t ∧ t ≤ 1073741824) :
    Calls Try.prog 14 #[.pointer (some ⟨b, 0, none⟩), .string s, .int .i64 t] w fun e w' => e = .returned (.int .i64 0) ∧ Wt w' S b now (setL L ⟨s, now + t⟩) (q + 1) ∧ Outs S w w' := by
  obtain ⟨mb, nn, M, v, f, n, h, h1, h2, h3⟩ := h
  obtain ⟨k, hk, hn, ha⟩ := h.find hg
  have c1 := h.c1
  have c3 := h.c3
  have cn := Lib.hid (nobodys_any b w h.c0)
  have hl := look_some h hs hk hn
  have hne := neqE (f k).blk w
  have e1 : w.cell? ⟨(f k).blk, 1, none⟩ = some (.int .i64 (f k).at_) := by simpa [eCells] using (h.hn.ends k hk).cell 1
  have fz := (h.hn.ends k hk).frozen 1
  have HAN := h.hn.anew hk (now + t)
  have ho1 : Outs S w (w.setCell ⟨(f k).blk, 1, none⟩ (.int .i64 (now + t))) := (Outs.refl S w).setCell (p := ⟨(f k).blk, 1, none⟩) (.inl (h.se k hk)) _
  have hmp : (w.setCell ⟨(f k).blk, 1, none⟩ (.int .i64 (now + t))).ownsMap Try.prog 9 ptrR mb nn M := h.map.setCell (Whole.ne_map (h.hn.ends k hk) h.map).symm _
  have t1 : decide (t < 1) = false := decide_eq_false (by omega)
  have t2 : decide (1073741824 < t) = false := decide_eq_false (by omega)
  have H := Lib.hid h
  have HA := Lib.hid HAN
  have HO := Lib.hid ho1
  have HM := Lib.hid hmp
  have HNM := Lib.hid hn
  obtain ⟨eb, heb⟩ : ∃ eb, (f k).blk = eb := ⟨_, rfl⟩
  rw [heb] at e1 fz hl hne HA HO HM
  have HEB := Lib.hid heb
  generalize (f k).at_ = old at *
  clear h HAN ho1 hmp hn heb ha
  go_enter Try.func14, Try.ntmps14
  go_wp2_with (go_at_call 37; refine cn.out.mono ?_; rintro e w' ⟨rfl, rfl⟩)
  generalize w.setCell ⟨eb, 1, none⟩ (.int .i64 (now + t)) = w1 at *
  clear c1 c3 hl hne e1 fz
  obtain ⟨g, cap, rfl, ha1⟩ := HA.out.ha (by omega)
  have hbk : ((fun j => if j = k then { f k with at_ := now + t } else f j) k).blk = eb := by simp [HEB.out]
  have e2 : w1.cell? ⟨eb, 2, none⟩ = some (.int .i64 k) := by
    have := ha1.e2 hk
    rwa [hbk] at this
  have hd : Below w1.heap.size w1 w1.drew := bDrewN (Below.refl _ _) 1
  have cf := fix_any (ha1.go hd) hk (H.out.hp.hole ltE_ord k { f k with at_ := now + t })
  unfold hV at cf
  have CF := Lib.hid cf
  clear ha1 cf hbk
  go_still_tail 8, (by kernel_rfl)
  change wpList _ _ _ _ _ w1.drew
  clear e2
  go_wp2_with fail
  go_at_call 38
  refine CF.out.mono ?_
  rintro e w2 ⟨rfl, f2, hat, hp2⟩
  have HAT := Lib.hid hat
  have HP2 := Lib.hid hp2
  clear hat hp2 CF
  go_wp2
  go_ret
  have h := H.out
  have hinj1 := HA.out.inj
  have hm : ∀ j, ((fun j => if j = k then { f k with at_ := now + t } else f j) j).nm = (f j).nm := fun j => by
    by_cases e : j = k
    · simp [e]
    · simp [e]
  have hb : ∀ j, ((fun j => if j = k then { f k with at_ := now + t } else f j) j).blk = (f j).blk := fun j => by
    by_cases e : j = k
    · simp [e]
    · simp [e]
  have hTS : ∀ i, Hs g (fun j => if j = k then { f k with at_ := now + t } else f j) n i → S i := by
    rintro i (e | ⟨j, hj, e⟩)
    · rw [e]; exact h.sv g rfl
    · rw [hb] at e; rw [e]; exact h.se j hj
  have hTm : ¬ Hs g (fun j => if j = k then { f k with at_ := now + t } else f j) n mb := by
    rintro (e | ⟨j, hj, e⟩)
    · exact ownRow_ne_map h.hn.row rfl h.map e.symm
    · rw [hb] at e; exact Whole.ne_map (h.hn.ends j hj) h.map e.symm
  have ho2 := ((Outs.of (S := Hs g (fun j => if j = k then { f k with at_ := now + t } else f j) n) hd).same HAT.out.outs)
  have hlk := (h.like.anew hk h.nms (now + t)).rea HAT.out.rea
  rw [HNM.out] at hlk
  refine ⟨rfl, ⟨mb, nn, M, .slice (some ⟨g, 0, none⟩) n cap, f2, n, { hn := HAT.out.ha.hn, hp := HP2.out, map := ?_, keys := (h.keys.anew (k := k) (now + t)).rea HAT.out.rea, like := hlk, nms := ?_, srt := srt_set h.srt _, nod := nod_set h.nod _, size := ?_, ats := ?_, sb := h.sb, sm := h.sm, sv := h.sv, se := ?_, lt := ?_ }, by omega, by omega, by unfold setL; rw [ins_length]; have : (rmv s L).length ≤ L.length := rmv_length s L; show (rmv s L).length + 1 ≤ q + 1; omega⟩, HO.out.same (ho2.mono hTS)⟩
  · exact ownsMap_block_kept HM.out (ho2.block mb HM.out.lt hTm)
  · exact nms_rea HAT.out.rea hinj1 fun a c ha hc e => by
      rw [hm, hm] at e
      exact h.nms a c ha hc e
  · intro y hy
    rcases mem_set.1 hy with rfl | ⟨hy, _⟩
    · exact hs
    · exact h.size y hy
  · intro y hy
    rcases mem_set.1 hy with rfl | ⟨hy, _⟩
    · exact ⟨by show 0 ≤ now + t; omega, by show now + t ≤ now + 1073741824; omega⟩
    · exact h.ats y hy
  · intro j hj
    obtain ⟨a, ha, e⟩ := HAT.out.rea.to j hj
    rw [e, hb]
    exact h.se a ha
  · intro i hi
    exact Nat.lt_of_lt_of_le (h.lt i hi) (Nat.le_trans HO.out.size ho2.size)

theorem setBad_any (h : Wt w S b now L q) {s : ByteArray} {t : Int} (hb : (t < 1 ∨ 1073741824 < t) ∨ s.toList.isEmpty = true) :
    Calls Try.prog 14 #[.pointer (some ⟨b, 0, none⟩), .string s, .int .i64 t] w fun e w' => e = .returned (.int .i64 2) ∧ w = w' := by
  obtain ⟨mb, nn, M, v, f, n, h, h1, h2, h3⟩ := h
  have cn := Lib.hid (nobodys_any b w h.c0)
  clear h
  by_cases c1 : t < 1
  · have t1 : decide (t < 1) = true := decide_eq_true c1
    clear hb
    go_enter Try.func14, Try.ntmps14
    go_wp2_with (go_at_call 37; refine cn.out.mono ?_; rintro e w' ⟨rfl, rfl⟩)
    go_ret
    exact ⟨rfl, rfl⟩
  have t1 : decide (t < 1) = false := decide_eq_false c1
  by_cases c2 : 1073741824 < t
  · have t2 : decide (1073741824 < t) = true := decide_eq_true c2
    clear hb
    go_enter Try.func14, Try.ntmps14
    go_wp2_with (go_at_call 37; refine cn.out.mono ?_; rintro e w' ⟨rfl, rfl⟩)
    go_ret
    exact ⟨rfl, rfl⟩
  have t2 : decide (1073741824 < t) = false := decide_eq_false c2
  have c3 : s.toList.isEmpty = true := by
    rcases hb with (q | q) | q
    · exact absurd q c1
    · exact absurd q c2
    · exact q
  clear hb c1 c2
  go_enter Try.func14, Try.ntmps14
  go_wp2_with (go_at_call 37; refine cn.out.mono ?_; rintro e w' ⟨rfl, rfl⟩)
  go_ret
  exact ⟨rfl, rfl⟩
end
end Go.Proofs.Ytconfkjchjcjgaa
