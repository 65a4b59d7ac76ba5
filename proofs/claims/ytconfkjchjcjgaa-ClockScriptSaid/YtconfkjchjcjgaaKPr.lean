/- The program's watch and the document's, side by side, and a box beside them. -/
import Derived.Test.YtconfkjchjcjgaaKRNm
import Derived.Test.YtconfkjchjcjgaaKLives
import Derived.Test.YtconfkjchjcjgaaKOnce
namespace Go.Proofs.Ytconfkjchjcjgaa
open Go.RowKit
set_option linter.unusedVariables false

theorem sameT_self (a : List Nm) : sameT a a = true := decide_eq_true rfl
theorem row_outs {w w' : World} {B x n k : Nat} {e : TypeId} {v : Value} {xs : List Value} (h : w.ownsRow B e k v n xs) (ho : Outs (fun j => j = x) w w') (hx : x < B) : w'.ownsRow B e k v n xs :=
  ownRow_block_kept h fun g hg => ho.block g (ownRow_block h hg).2.1 (fun e => by have := (ownRow_block h hg).1; omega)

structure Pr8 (w0 w : World) (b x g : Nat) (C : Array Value) (T : Int) (L : List It) (q : Nat) (T2 : Int) (L2 : List It) : Prop where
  st : ∃ S R : Nat → Prop, Wt w S b T L q ∧ Rw w R x T2 L2 ∧ (∀ k, S k → w0.heap.size ≤ k) ∧ (∀ k, R k → w0.heap.size ≤ k) ∧ (∀ k, S k → ¬ R k) ∧ ¬ S g ∧ ¬ R g
  box : Whole w g 50 C
  gB : w0.heap.size ≤ g
  below : Below w0.heap.size w0 w
section
variable {w0 w w' : World} {b x g : Nat} {C : Array Value} {T T2 : Int} {L L2 : List It} {q : Nat}
theorem Pr8.go (h : Pr8 w0 w b x g C T L q T2 L2) (hb : Below w.heap.size w w') : Pr8 w0 w' b x g C T L q T2 L2 := by
  obtain ⟨⟨S, R, h1, h2, h3, h4, h5, h6, h7⟩, hx, hg, hl⟩ := h
  exact ⟨⟨S, R, h1.go hb, h2.go hb, h3, h4, h5, h6, h7⟩, hx.below hb hx.lt, hg, hl.trans (hb.mono hl.size)⟩
theorem Pr8.facts (h : Pr8 w0 w b x g C T L q T2 L2) : Nod L ∧ L.length ≤ q ∧ ∀ y ∈ L, 0 ≤ y.at_ ∧ y.at_ ≤ T + 1073741824 := by
  obtain ⟨⟨S, R, ⟨mb, nn, M, v, f, n, h1, _, _, h3⟩, _⟩, _⟩ := h
  exact ⟨h1.nod, h3, h1.ats⟩
theorem Pr8.xlt (h : Pr8 w0 w b x g C T L q T2 L2) : x < w.heap.size := by
  obtain ⟨⟨S, R, h1, h2, _⟩, _⟩ := h
  exact h2.lt _ h2.sx
theorem Pr8.xt (h : Pr8 w0 w b x g C T L q T2 L2) : w.cell? ⟨x, 0, none⟩ = some (.int .i64 T2) := by
  obtain ⟨⟨S, R, h1, ⟨A, n, c, h2⟩, _⟩, _⟩ := h
  exact h2.c0
theorem pr_now (h : Pr8 w0 w b x g C T L q T2 L2) : Calls Try.prog 18 #[.pointer (some ⟨b, 0, none⟩)] w fun e w' => e = .returned (.int .i64 T) ∧ w = w' := by
  obtain ⟨⟨S, R, h1, _⟩, _⟩ := h
  exact now_any h1
theorem pr_set (h : Pr8 w0 w b x g C T L q T2 L2) {s : ByteArray} (hs : s.size ≤ 140737488351232) (hs0 : s.toList.isEmpty = false) (hnow : 0 ≤ T ∧ T ≤ 4611686018427387904) {t : Int} (ht : 1 ≤ t ∧ t ≤ 1073741824) (hq : q < 1000000) :
    Calls Try.prog 14 #[.pointer (some ⟨b, 0, none⟩), .string s, .int .i64 t] w fun e w' => e = .returned (.int .i64 0) ∧ Pr8 w0 w' b x g C T (setL L ⟨s, T + t⟩) (q + 1) T2 L2 := by
  obtain ⟨⟨S, R, h1, h2, h3, h4, h5, h6, h7⟩, hx, hg0, hl⟩ := h
  cases hg : getL L s with
  | none =>
    refine (setNew_any h1 (by unfold maxLen; omega) (by omega) hs0 hg hnow ht hq).mono ?_
    rintro e w' ⟨rfl, hw, ho⟩
    refine ⟨rfl, ⟨_, R, hw, h2.outs ho (fun k hk hs => h5 k hs hk), fun k hk => ?_, h4, fun k hk hr => ?_, fun hk => ?_, h7⟩, hx.outs ho h6, hg0, hl.trans (ho.below h3 hl.size)⟩
    · rcases hk with hk | hk
      · exact h3 k hk
      · exact Nat.le_trans hl.size hk.1
    · rcases hk with hk | hk
      · exact h5 k hk hr
      · have := h2.lt k hr; omega
    · rcases hk with hk | hk
      · exact h6 hk
      · have := hx.lt; omega
  | some z =>
    refine (setAnew_any h1 (by unfold maxLen; omega) hs0 hg hnow ht).mono ?_
    rintro e w' ⟨rfl, hw, ho⟩
    exact ⟨rfl, ⟨S, R, hw, h2.outs ho (fun k hk hs => h5 k hs hk), h3, h4, h5, h6, h7⟩, hx.outs ho h6, hg0, hl.trans (ho.below h3 hl.size)⟩
theorem pr_setBad (h : Pr8 w0 w b x g C T L q T2 L2) {s : ByteArray} {t : Int} (hb : (t < 1 ∨ 1073741824 < t) ∨ s.toList.isEmpty = true) :
    Calls Try.prog 14 #[.pointer (some ⟨b, 0, none⟩), .string s, .int .i64 t] w fun e w' => e = .returned (.int .i64 2) ∧ w = w' := by
  obtain ⟨⟨S, R, h1, _⟩, _⟩ := h
  exact setBad_any h1 hb
theorem pr_tick (h : Pr8 w0 w b x g C T L q T2 L2) (hq : q ≤ 1000000) (hnow : 0 ≤ T ∧ T ≤ 4611686018426000000) {t : Int} (ht : 0 ≤ t ∧ t ≤ 1048576) :
    Calls Try.prog 15 #[.pointer (some ⟨b, 0, none⟩), .int .i64 t] w fun e w' => ∃ A n c, e = .returned (.tuple #[.slice A n c, .int .i64 0]) ∧ n = (due (T + t) L).length ∧ w'.ownsRow w.heap.size 9 1 (.slice A n c) n (cT (due (T + t) L)) ∧ Pr8 w0 w' b x g C (T + t) (rest (T + t) L) q T2 L2 := by
  obtain ⟨⟨S, R, h1, h2, h3, h4, h5, h6, h7⟩, hx, hg0, hl⟩ := h
  refine (tick_any h1 hq hnow ht).mono ?_
  rintro e w' ⟨v, rfl, hrow, hw, ho⟩
  obtain ⟨A, c, rfl, hr, -⟩ := own_open hrow
  exact ⟨A, _, c, rfl, rfl, hrow, ⟨S, R, hw, h2.outs ho (fun k hk hs => h5 k hs hk), h3, h4, h5, h6, h7⟩, hx.outs ho h6, hg0, hl.trans (ho.below h3 hl.size)⟩
theorem pr_tickBad (h : Pr8 w0 w b x g C T L q T2 L2) {t : Int} (hb : t < 0 ∨ 1048576 < t) :
    Calls Try.prog 15 #[.pointer (some ⟨b, 0, none⟩), .int .i64 t] w fun e w' => e = .returned (.tuple #[.slice none 0 0, .int .i64 2]) ∧ w = w' := by
  obtain ⟨⟨S, R, h1, _⟩, _⟩ := h
  exact tickBad_any h1 hb
theorem pr_drop (h : Pr8 w0 w b x g C T L q T2 L2) {s : ByteArray} (hs : s.size ≤ 140737488351232) :
    Calls Try.prog 19 #[.pointer (some ⟨b, 0, none⟩), .string s] w fun e w' => e = .returned (.int .i64 (dropE L s)) ∧ Pr8 w0 w' b x g C T (rmv s L) q T2 L2 := by
  obtain ⟨⟨S, R, h1, h2, h3, h4, h5, h6, h7⟩, hx, hg0, hl⟩ := id h
  cases hg : getL L s with
  | none =>
    have e0 : dropE L s = 6 := by unfold dropE; rw [hg]
    rw [e0, rmv_none (getL_none hg)]
    refine (dropNo_any h1 (by unfold maxLen; omega) hg).mono ?_
    rintro e w' ⟨rfl, rfl⟩
    exact ⟨rfl, h⟩
  | some z =>
    have e0 : dropE L s = 0 := by unfold dropE; rw [hg]
    rw [e0]
    refine (drop_any h1 (by unfold maxLen; omega) hg).mono ?_
    rintro e w' ⟨rfl, hw, ho⟩
    exact ⟨rfl, ⟨S, R, hw, h2.outs ho (fun k hk hs => h5 k hs hk), h3, h4, h5, h6, h7⟩, hx.outs ho h6, hg0, hl.trans (ho.below h3 hl.size)⟩
theorem pr_left (h : Pr8 w0 w b x g C T L q T2 L2) {s : ByteArray} (hs : s.size ≤ 140737488351232) (hnow : 0 ≤ T ∧ T ≤ 4611686018427387904) :
    Calls Try.prog 16 #[.pointer (some ⟨b, 0, none⟩), .string s] w fun e w' => e = .returned (.tuple #[.int .i64 (leftV L T s), .bool (leftB L s)]) ∧ Pr8 w0 w' b x g C T L q T2 L2 := by
  obtain ⟨⟨S, R, h1, h2, h3, h4, h5, h6, h7⟩, hx, hg0, hl⟩ := id h
  cases hg : getL L s with
  | none =>
    have e0 : leftV L T s = 0 := by unfold leftV; rw [hg]
    have e1 : leftB L s = false := by unfold leftB; rw [hg]; rfl
    rw [e0, e1]
    refine (leftNo_any h1 (by unfold maxLen; omega) hg).mono ?_
    rintro e w' ⟨rfl, rfl⟩
    exact ⟨rfl, h⟩
  | some z =>
    have e0 : leftV L T s = z.at_ - T := by unfold leftV; rw [hg]
    have e1 : leftB L s = true := by unfold leftB; rw [hg]; rfl
    rw [e0, e1]
    refine (left_any h1 (by unfold maxLen; omega) hg hnow).mono ?_
    rintro e w' ⟨rfl, hb⟩
    exact ⟨rfl, h.go hb⟩
theorem pr_names (h : Pr8 w0 w b x g C T L q T2 L2) (hq : q ≤ 1000000) :
    Calls Try.prog 29 #[.pointer (some ⟨b, 0, none⟩)] w fun e w' => ∃ A n c, e = .returned (.slice A n c) ∧ n = (nmsOf L).length ∧ Rds w' w'.heap.size A (cS (nmsOf L)) ∧ Below w.heap.size w w' := by
  obtain ⟨⟨S, R, h1, _⟩, _⟩ := h
  refine (namesW_any h1 hq).mono ?_
  rintro e w' ⟨v, rfl, hrow, hb⟩
  obtain ⟨A, c, rfl, hr, -⟩ := own_open hrow
  exact ⟨A, _, c, rfl, rfl, hr, hb⟩
theorem pr_rnames (h : Pr8 w0 w b x g C T L q T2 L2) :
    Calls Try.prog 30 #[.pointer (some ⟨x, 0, none⟩)] w fun e w' => ∃ A n c, e = .returned (.slice A n c) ∧ n = (nmsOf L2).length ∧ Rds w' w'.heap.size A (cS (nmsOf L2)) ∧ Below w.heap.size w w' := by
  obtain ⟨⟨S, R, h1, h2, _⟩, _⟩ := h
  refine (rnames_any h2).mono ?_
  rintro e w' ⟨v, rfl, hrow, hb⟩
  obtain ⟨A, c, rfl, hr, -⟩ := own_open hrow
  exact ⟨A, _, c, rfl, rfl, hr, hb⟩
theorem pr_rleft (h : Pr8 w0 w b x g C T L q T2 L2) (s : ByteArray) (hT : 0 ≤ T2 ∧ T2 ≤ 4611686018427387904) (hat : ∀ y ∈ L2, 0 ≤ y.at_ ∧ y.at_ ≤ 4611686018427387904) :
    Calls Try.prog 28 #[.pointer (some ⟨x, 0, none⟩), .string s] w fun e w' => e = .returned (.tuple #[.int .i64 (leftV L2 T2 s), .bool (leftB L2 s)]) ∧ Pr8 w0 w' b x g C T L q T2 L2 := by
  obtain ⟨⟨S, R, h1, h2, h3, h4, h5, h6, h7⟩, hx, hg0, hl⟩ := id h
  refine (rleft_any h2 s hT hat).mono ?_
  rintro e w' ⟨rfl, hb⟩
  exact ⟨rfl, h.go hb⟩
theorem pr_rdrop (h : Pr8 w0 w b x g C T L q T2 L2) (hnod : Nod L2) (s : ByteArray) :
    Calls Try.prog 27 #[.pointer (some ⟨x, 0, none⟩), .string s] w fun e w' => e = .returned (.int .i64 (dropE L2 s)) ∧ Pr8 w0 w' b x g C T L q T2 (rmv s L2) := by
  obtain ⟨⟨S, R, h1, h2, h3, h4, h5, h6, h7⟩, hx, hg0, hl⟩ := h
  have hsx := h2.sx
  refine (rdrop_any h2 hnod s).mono ?_
  rintro e w' ⟨rfl, hw, ho⟩
  refine ⟨rfl, ⟨S, _, h1.outs ho (fun k hk e => h5 k hk (by rw [e]; exact hsx)), hw, h3, fun k hk => ?_, fun k hk hr => ?_, h6, fun hk => ?_⟩, hx.outs ho (fun e => h7 (by rw [e]; exact hsx)), hg0, hl.trans (ho.below (fun k hk => by rw [hk]; exact h4 _ hsx) hl.size)⟩
  · rcases hk with hk | hk
    · exact h4 k hk
    · exact Nat.le_trans hl.size hk.1
  · rcases hr with hr | hr
    · exact h5 k hk hr
    · have := h1.lt k hk; omega
  · rcases hk with hk | hk
    · exact h7 hk
    · have := hx.lt; omega
theorem pr_rset (h : Pr8 w0 w b x g C T L q T2 L2) (hnod : Nod L2) (s : ByteArray) (hs0 : s.toList.isEmpty = false) (hT : 0 ≤ T2 ∧ T2 ≤ 4611686018426000000) {t : Int} (ht : 1 ≤ t ∧ t ≤ 1073741824) (hfl : L2.length < 1000000) :
    Calls Try.prog 26 #[.pointer (some ⟨x, 0, none⟩), .string s, .int .i64 t] w fun e w' => e = .returned (.int .i64 0) ∧ Pr8 w0 w' b x g C T L q T2 (setL L2 ⟨s, T2 + t⟩) := by
  obtain ⟨⟨S, R, h1, h2, h3, h4, h5, h6, h7⟩, hx, hg0, hl⟩ := h
  have hsx := h2.sx
  refine (rset_any h2 hnod s hs0 hT ht hfl).mono ?_
  rintro e w' ⟨rfl, wm, hom, hw, ho2⟩
  have ho : Outs (fun k => k = x) w w' := hom.trans ho2 (fun i hi => .inl hi)
  have hsm := hom.size
  refine ⟨rfl, ⟨S, _, h1.outs ho (fun k hk e => h5 k hk (by rw [e]; exact hsx)), hw, h3, fun k hk => ?_, fun k hk hr => ?_, h6, fun hk => ?_⟩, hx.outs ho (fun e => h7 (by rw [e]; exact hsx)), hg0, hl.trans (ho.below (fun k hk => by rw [hk]; exact h4 _ hsx) hl.size)⟩
  · have := hl.size
    rcases hk with (hk | hk) | hk
    · exact h4 k hk
    · omega
    · omega
  · have := h1.lt k hk
    rcases hr with (hr | hr) | hr
    · exact h5 k hk hr
    · omega
    · omega
  · have := hx.lt
    rcases hk with (hk | hk) | hk
    · exact h7 hk
    · omega
    · omega
theorem pr_rtick (h : Pr8 w0 w b x g C T L q T2 L2) (hT : 0 ≤ T2 ∧ T2 ≤ 4611686018426000000) {t : Int} (ht : 0 ≤ t ∧ t ≤ 1048576) :
    Calls Try.prog 25 #[.pointer (some ⟨x, 0, none⟩), .int .i64 t] w fun e w' => ∃ A n c, e = .returned (.tuple #[.slice A n c, .int .i64 0]) ∧ n = (due (T2 + t) L2).length ∧ Rds w' w'.heap.size A (cT (due (T2 + t) L2)) ∧ Pr8 w0 w' b x g C T L q (T2 + t) (rest (T2 + t) L2) ∧ Outs (fun k => k = x) w w' := by
  obtain ⟨⟨S, R, h1, h2, h3, h4, h5, h6, h7⟩, hx, hg0, hl⟩ := h
  have hsx := h2.sx
  refine (rtick_any h2 hT ht).mono ?_
  rintro e w' ⟨v, rfl, hrow, hw, ho⟩
  obtain ⟨A, c, rfl, hr, -⟩ := own_open hrow
  exact ⟨A, _, c, rfl, rfl, hr, ⟨⟨S, R, h1.outs ho (fun k hk e => h5 k hk (by rw [e]; exact hsx)), hw, h3, h4, h5, h6, h7⟩, hx.outs ho (fun e => h7 (by rw [e]; exact hsx)), hg0, hl.trans (ho.below (fun k hk => by rw [hk]; exact h4 _ hsx) hl.size)⟩, ho⟩

/-- without a box -/
structure Pr0 (w0 w : World) (b x : Nat) (T : Int) (L : List It) (q : Nat) : Prop where
  st : ∃ S R : Nat → Prop, Wt w S b T L q ∧ Rw w R x T L ∧ (∀ k, S k → w0.heap.size ≤ k) ∧ (∀ k, R k → w0.heap.size ≤ k) ∧ (∀ k, S k → ¬ R k)
  below : Below w0.heap.size w0 w
theorem Pr8.bare (h : Pr8 w0 w b x g C T L q T L) : Pr0 w0 w b x T L q := by
  obtain ⟨⟨S, R, h1, h2, h3, h4, h5, h6, h7⟩, hx, hg0, hl⟩ := h
  exact ⟨⟨S, R, h1, h2, h3, h4, h5⟩, hl⟩
theorem Pr0.box (h : Pr0 w0 w b x T L q) (C : Array Value) : Pr8 w0 (w.alloc (.cells C 50)) b x w.heap.size C T L q T L := by
  obtain ⟨⟨S, R, h1, h2, h3, h4, h5⟩, hl⟩ := h
  have hb : Below w.heap.size w (w.alloc (.cells C 50)) := (Below.refl _ w).alloc (Nat.le_refl _) _
  exact ⟨⟨S, R, h1.go hb, h2.go hb, h3, h4, h5, fun hs => by have := h1.lt _ hs; omega, fun hr => by have := h2.lt _ hr; omega⟩, Whole.new _ _ _, hl.size, hl.trans (hb.mono hl.size)⟩
theorem pr_new (h : Below w0.heap.size w0 w) : Calls Try.prog 13 #[] w fun e w' => ∃ b, e = .returned (.pointer (some ⟨b, 0, none⟩)) ∧ Below w0.heap.size w0 w' ∧ Pr0 w0 (w'.alloc (.cells #[.int .i64 0, .slice none 0 0] 48)) b w'.heap.size 0 [] 0 := by
  refine (at_new h).mono ?_
  rintro e w' ⟨b, rfl, ⟨⟨S, h1, h2⟩, h3⟩⟩
  have hb : Below w'.heap.size w' (w'.alloc (.cells #[.int .i64 0, .slice none 0 0] 48)) := (Below.refl _ w').alloc (Nat.le_refl _) _
  refine ⟨b, rfl, h3, ⟨S, fun k => k = w'.heap.size, h1.go hb, ⟨none, 0, 0, { top := Whole.new _ _ _, len := rfl, cap := Nat.le_refl _, cmax := Nat.zero_le _, few := Nat.zero_le _, nil_ := fun _ => ⟨rfl, rfl⟩, rds := fun e => absurd rfl e, inR := fun ad _ e => (by cases e), sx := rfl, lt := fun k hk => by simp [hk] }⟩, h2, fun k hk => by rw [hk]; exact h3.size, fun k hs hk => ?_⟩, h3.trans (hb.mono h3.size)⟩
  have := h1.lt k hs
  omega
end
end Go.Proofs.Ytconfkjchjcjgaa
