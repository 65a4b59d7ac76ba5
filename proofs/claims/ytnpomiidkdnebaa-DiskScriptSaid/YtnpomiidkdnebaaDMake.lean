/- A file comes to the disk; the program's Make. -/
import Derived.Test.YtnpomiidkdnebaaDSync
namespace Go.Proofs.Ytnpomiidkdnebaa
open Go.RowKit Go.Maps Go.WideMaps
set_option linter.unusedVariables false

section
variable {S : Nat → Prop} {d mb nn : Nat} {M : DataW Unit} {blk : Nm → Nat} {vs : Nm → Value} {D : Dsk}

theorem keyLit (l : Nm) : WideAt.IsKeyLit (.string l) := by
  first | exact trivial | simp [WideAt.IsKeyLit] | exact ⟨⟩

theorem DkAt.addFile {w w' : World} (h : DkAt w S d mb nn M blk vs D) {l : Nm} (hf : find D.files l = none) (nb n' : Nat) (D' : Dsk) (hfiles : D'.files = ins ⟨l, [], 0⟩ D.files)
    (hsz : w.heap.size ≤ w'.heap.size) (ho : ∀ k, k < w.heap.size → k ≠ mb → w'.heap[k]? = w.heap[k]?) (htc : topCells d mb D' = topCells d mb D) (hnb : w.heap.size ≤ nb) (hnb' : nb < w'.heap.size)
    (hW : Whole w' nb 69 #[.slice none 0 0, .int .i64 0]) (hM : w'.ownsMap Try.prog 9 ptrR mb n' (M.put (.string l) (.lit (.int .i64 nb)))) :
    DkAt w' (More S w w') d mb n' (M.put (.string l) (.lit (.int .i64 nb))) (fun x => if x = l then nb else blk x) (fun x => if x = l then .slice none 0 0 else vs x) D' := by
  have hfd : ∀ m, find D'.files m = if l = m then some ⟨l, [], 0⟩ else find D.files m := fun m => by rw [hfiles, find_ins hf]
  have other : ∀ m f', find D'.files m = some f' → m ≠ l → find D.files m = some f' := by
    intro m f' hm hne
    rw [hfd, if_neg (Ne.symm hne)] at hm
    exact hm
  refine { top := by rw [htc]; exact (ho d (h.lt _ h.sd) h.top_map).trans h.top, map := hM, key := ?_, fil := ?_, inj := ?_, sd := .inl h.sd, sm := .inl h.sm, sb := ?_, lt := ?_ }
  · intro m z
    rw [hfd]
    by_cases e : l = m
    · subst e
      rw [atKey_put_same h.map.isMap (keyLit l)]
      simp
    · rw [atKey_put_other (fun e' => e (by injection e' with e'; exact e'.symm)), h.key, if_neg e]
      cases find D.files m <;> simp [Ne.symm e]
  · intro m f' hm
    by_cases e : m = l
    · subst e
      rw [hfd, if_pos rfl] at hm
      obtain rfl := Option.some.inj hm
      simp only [if_pos]
      exact ⟨hW, World.ownsRow_nil w' 0 5 1⟩
    · have hq := other m f' hm e
      simp only [if_neg e]
      exact ⟨(ho _ (h.blt hq) (h.ne_map hq)).trans (h.fil m f' hq).1, ownRow_block_kept (h.fil m f' hq).2 fun k hk => ho _ (h.rlt hq hk) (h.ne_rowm hq hk)⟩
  · intro m m' f1 f2 h1 h2 hne
    by_cases e1 : m = l
    · have e2 : m' ≠ l := fun e => hne (e1.trans e.symm)
      have hq := other m' f2 h2 e2
      simp only [if_pos e1, if_neg e2]
      exact ⟨fun e => by have := h.blt hq; omega, fun k hk => by simp [Value.ownBlock] at hk⟩
    · have hq := other m f1 h1 e1
      by_cases e2 : m' = l
      · simp only [if_neg e1, if_pos e2]
        exact ⟨fun e => by have := h.blt hq; omega, fun k hk hk' => by simp [Value.ownBlock] at hk'⟩
      · simp only [if_neg e1, if_neg e2]
        exact h.inj m m' f1 f2 hq (other m' f2 h2 e2) hne
  · intro m f' hm
    by_cases e : m = l
    · simp only [if_pos e]
      exact ⟨.inr ⟨hnb, hnb'⟩, fun k hk => by simp [Value.ownBlock] at hk⟩
    · have hq := other m f' hm e
      simp only [if_neg e]
      exact ⟨.inl (h.sb m f' hq).1, fun k hk => .inl ((h.sb m f' hq).2 k hk)⟩
  · intro k hk
    rcases hk with hk | hk
    · exact Nat.lt_of_lt_of_le (h.lt k hk) hsz
    · exact hk.2

set_option maxHeartbeats 1000000 in
set_option maxRecDepth 5000 in
theorem make1_any (s : ByteArray) (hs : s.size ≤ maxLen) (b1 b2 : Nat) (w : World) (h : DkAt w S d mb nn M blk vs D) (hnn : nn ≤ D.steps) (hst : D.steps + 100 ≤ 9223372036854775807) (hf : find D.files (lst s) = none)
    (h1 : Whole w b1 23 #[.pointer (some ⟨d, 0, none⟩)]) (h2 : Whole w b2 9 #[.string s]) :
    Calls Try.prog 35 #[.pointer (some ⟨b1, 0, none⟩), .pointer (some ⟨b2, 0, none⟩)] w fun e w2 => e = .returned (.tuple #[]) ∧ ∃ S', Dk 1 w2 S' d { D with files := ins ⟨lst s, [], 0⟩ D.files } ∧ Turn S S' w w2 := by
  have c1 : w.cell? ⟨b1, 0, none⟩ = some (.pointer (some ⟨d, 0, none⟩)) := h1.cell 0
  have c2 : w.cell? ⟨b2, 0, none⟩ = some (.string s) := h2.cell 0
  have c5 := h.c5
  have hb : Below w.heap.size w ((w.alloc (.cells #[.slice none 0 0, .int .i64 0] 69)).drew) := ((Below.refl _ w).alloc (Nat.le_refl _) _).drew
  have hW : Whole ((w.alloc (.cells #[.slice none 0 0, .int .i64 0] 69)).drew) w.heap.size 69 #[.slice none 0 0, .int .i64 0] := (Whole.new w _ _).drew
  obtain ⟨w3, hrun, hM, hg⟩ := (h.go hb).map.update lawS Try.underlying52 (by unfold maxLen; omega) (keyS s hs) (val := .pointer (some ⟨w.heap.size, 0, none⟩)) (d := .lit (.int .i64 (w.heap.size : Nat))) (ps := []) rfl
  have hd := h.addFile hf (w' := w3) w.heap.size (nn + 1) { D with files := ins ⟨lst s, [], 0⟩ D.files } rfl (Nat.le_trans hb.size hg.size)
    (fun k hk hne => (hg.block k (Nat.lt_of_lt_of_le hk hb.size) (fun e => hne (by injection e))).trans (hb.block k hk))
    (by simp only [topCells, left]; rw [used_ins]; simp) (Nat.le_refl _) (Nat.lt_of_lt_of_le hW.lt hg.size)
    (hW.grown hg (fun e => by injection e with e; have := h.lt _ h.sm; omega)) hM
  have hT : Turn S (More S w w3) w w3 := ⟨((Outs.refl S w).then hb (Nat.le_refl _)).grown hg (fun k hk => by cases hk; exact .inl h.sm), more_new⟩
  have HD := Lib.hid hd
  have HT := Lib.hid hT
  have k1 : (w.alloc (.cells #[.slice none 0 0, .int .i64 0] 69)).cell? ⟨b1, 0, none⟩ = some (.pointer (some ⟨d, 0, none⟩)) := (h1.alloc _).cell 0
  have k2 : (w.alloc (.cells #[.slice none 0 0, .int .i64 0] 69)).cell? ⟨b2, 0, none⟩ = some (.string s) := (h2.alloc _).cell 0
  have k5 : (w.alloc (.cells #[.slice none 0 0, .int .i64 0] 69)).cell? ⟨d, 5, none⟩ = some (.map (some mb)) := (h.top.alloc _).cell 5
  clear hd hT hM hg hW hb
  go_enter Try.func35, Try.ntmps35
  go_region
  all_goals go_wp2
  all_goals go_returns
  all_goals exact ⟨by simp, _, ⟨mb, _, _, _, _, HD.out, by show nn + 1 ≤ D.steps + 1; omega⟩, HT.out⟩

theorem make1_enters : ∀ args w, (callFunc 35 args).run Try.prog w = .ok (.enter 35 args) w := enters_of Try.func35 (by kernel_rfl) rfl

theorem one_text' (s : ByteArray) (hs : s.size ≤ 9223372036854775807) (w : World) (b : Nat) (t : TypeId) (h : Whole w b t #[.string s]) : ∀ j, j < ([⟨s, hs⟩] : List Txt).length → w.cell? ⟨b, j, none⟩ = some (encT ([⟨s, hs⟩] : List Txt)[j]!) := by
  intro j hj
  obtain rfl : j = 0 := by simpa using hj
  exact h.cell 0

set_option maxHeartbeats 2000000 in
set_option maxRecDepth 5000 in
theorem make_any (s : ByteArray) (hs : s.size ≤ 9223372036854775807) (w : World) (h : Dk 0 w S d D) (hr : Room D) :
    Calls Try.prog 10 #[.pointer (some ⟨d, 0, none⟩), .string s] w fun e w' => e = .returned (.int .i64 (dMake D (lst s)).1) ∧ ∃ S', Dk 0 w' S' d (dMake D (lst s)).2 ∧ Turn S S' w w' := by
  obtain ⟨mb, nn, M, blk, vs, h, hnn⟩ := h
  obtain ⟨W1, hW1⟩ : ∃ W1, W1 = ((w.alloc (.cells #[.pointer (some ⟨d, 0, none⟩)] 23)).alloc (.cells #[.string s] 9)).alloc (.cells #[.string s] 9) := ⟨_, rfl⟩
  have hb : Below w.heap.size w W1 := by rw [hW1]; exact (((Below.refl _ w).alloc (Nat.le_refl _) _).alloc (by simp) _).alloc (by simp; omega) _
  have x1 : Whole W1 w.heap.size 23 #[.pointer (some ⟨d, 0, none⟩)] := by rw [hW1]; exact ((Whole.new w _ _).alloc _).alloc _
  have x2 : Whole W1 (w.heap.size + 1) 9 #[.string s] := by
    rw [hW1]
    have := Whole.new (w.alloc (.cells #[.pointer (some ⟨d, 0, none⟩)] 23)) 9 #[.string s]
    rw [World.size_alloc] at this
    exact this.alloc _
  have x3 : Whole W1 (w.heap.size + 2) 9 #[.string s] := by
    rw [hW1]
    have := Whole.new ((w.alloc (.cells #[.pointer (some ⟨d, 0, none⟩)] 23)).alloc (.cells #[.string s] 9)) 9 #[.string s]
    rw [World.size_alloc, World.size_alloc] at this
    exact this
  have h1 := h.go hb
  have hcon := refusal_any [⟨s, hs⟩] (w.heap.size + 2) 1 1 W1 ⟨mb, nn, M, blk, vs, h1, hnn⟩ rfl (by decide) (one_text' s hs _ _ _ x3)
  have he : ask D ([(⟨s, hs⟩ : Txt)].map (lst ·.1)) = ask D [lst s] := rfl
  rw [he] at hcon
  have hD : Dk 0 w S d D := ⟨mb, nn, M, blk, vs, h, hnn⟩
  have HX := Lib.hid hW1
  clear hW1
  by_cases ha : ask D [lst s] = 0
  · rw [ha] at hcon
    -- the search
    have hlook : ∀ n, (Instr.lookup 52 (.map (some mb)) (.string s) false).run Try.prog (W1.drewN n) = .ok (fptr D blk (lst s)) (W1.drewN n) := fun n => look_at (h1.go (bDrewN (Below.refl _ _) n)) s hs
    cases hf : find D.files (lst s) with
    | none =>
      have e1 : dMake D (lst s) = dStep D (ins ⟨lst s, [], 0⟩) := by simp [dMake, ha, hf]
      have e2 : fptr D blk (lst s) = .pointer none := by simp [fptr, hf]
      rw [e1]
      rw [e2] at hlook
      clear e1 e2
      go_enter Try.func10, Try.ntmps10
      go_wp2_with fail
      rw [← HX.out]
      refine hcon.mono ?_
      rintro e w' ⟨rfl, q, rfl⟩
      have c1 : (W1.drewN q).cell? ⟨w.heap.size, 0, none⟩ = some (.pointer (some ⟨d, 0, none⟩)) := x1.cell 0
      have c2 : (W1.drewN q).cell? ⟨w.heap.size + 1, 0, none⟩ = some (.string s) := x2.cell 0
      have c5 : (W1.drewN q).cell? ⟨d, 5, none⟩ = some (.map (some mb)) := h1.c5
      have hq := h1.go (bDrewN (Below.refl _ W1) q)
      have hlookq : ∀ n, (Instr.lookup 52 (.map (some mb)) (.string s) false).run Try.prog ((W1.drewN q).drewN n) = .ok (.pointer none) ((W1.drewN q).drewN n) := fun n => by rw [World.drewN_drewN]; exact hlook _
      have x1q : Whole (W1.drewN q) w.heap.size 23 #[.pointer (some ⟨d, 0, none⟩)] := x1
      have x2q : Whole (W1.drewN q) (w.heap.size + 1) 9 #[.string s] := x2
      have hbq := bDrewN hb q
      clear hcon hlook x1 x2 x3 h1 hb HX
      generalize W1.drewN q = W2 at *
      go_wp2
      go_quiet (fail)
      go_wp2_with fail
      have hcon2 := step_any 35 #[.pointer (some ⟨w.heap.size, 0, none⟩), .pointer (some ⟨w.heap.size + 1, 0, none⟩)] (ins ⟨lst s, [], 0⟩) (W2.drewN nq) (hq.go (bDrewN (Below.refl _ _) nq)) hnn (by have := hr.steps; omega) hr.f0 hr.f1 make1_enters
        (fun w3 h3 ho hsz => make1_any s hs w.heap.size (w.heap.size + 1) w3 h3 hnn (by have := hr.steps; show D.steps + 100 ≤ _; omega) hf ((show Whole (W2.drewN nq) _ _ _ from x1q).outs ho (fun e => Nat.lt_irrefl _ (h.lt _ e))) ((show Whole (W2.drewN nq) _ _ _ from x2q).outs ho (fun e => by have := h.lt _ e; omega)))
      refine hcon2.mono ?_
      rintro e w3 ⟨rfl, S', hk, ht⟩
      have HK := Lib.hid hk
      have HT := Lib.hid ((Turn.below (bDrewN hbq nq)).trans ht)
      clear hcon2 hk ht hq hlookq x1q x2q hbq
      go_wp2
      go_returns
      exact ⟨by simp, S', HK.out, HT.out⟩
    | some f =>
      have e1 : dMake D (lst s) = (7, D) := by simp [dMake, ha, hf]
      have e2 : fptr D blk (lst s) = .pointer (some ⟨blk (lst s), 0, none⟩) := by simp [fptr, hf]
      rw [e1]
      rw [e2] at hlook
      clear e1 e2
      generalize blk (lst s) = bk at *
      go_enter Try.func10, Try.ntmps10
      go_wp2_with fail
      rw [← HX.out]
      refine hcon.mono ?_
      rintro e w' ⟨rfl, q, rfl⟩
      have c1 : (W1.drewN q).cell? ⟨w.heap.size, 0, none⟩ = some (.pointer (some ⟨d, 0, none⟩)) := x1.cell 0
      have c2 : (W1.drewN q).cell? ⟨w.heap.size + 1, 0, none⟩ = some (.string s) := x2.cell 0
      have c5 : (W1.drewN q).cell? ⟨d, 5, none⟩ = some (.map (some mb)) := h1.c5
      have hlookq : ∀ n, (Instr.lookup 52 (.map (some mb)) (.string s) false).run Try.prog ((W1.drewN q).drewN n) = .ok (.pointer (some ⟨bk, 0, none⟩)) ((W1.drewN q).drewN n) := fun n => by rw [World.drewN_drewN]; exact hlook _
      have hbq := bDrewN hb q
      clear hcon hlook x1 x2 x3 h1 hb HX
      generalize W1.drewN q = W2 at *
      go_wp2
      go_quiet (fail)
      go_wp2
      go_returns
      exact ⟨by simp, S, hD.go (bDrewN hbq nq), Turn.below (bDrewN hbq nq)⟩
  · have e1 : dMake D (lst s) = (ask D [lst s], D) := by simp [dMake, ha]
    rw [e1]
    have hn : (ask D [lst s] != 0) = true := by simpa using ha
    generalize ask D [lst s] = c at *
    have HB := Lib.hid hb
    clear hb e1 ha h h1
    go_enter Try.func10, Try.ntmps10
    go_wp2_with fail
    rw [← HX.out]
    refine hcon.mono ?_
    rintro e w' ⟨rfl, q, rfl⟩
    go_wp2
    go_returns
    exact ⟨by simp, S, hD.go (bDrewN HB.out q), Turn.below (bDrewN HB.out q)⟩
end
end Go.Proofs.Ytnpomiidkdnebaa
