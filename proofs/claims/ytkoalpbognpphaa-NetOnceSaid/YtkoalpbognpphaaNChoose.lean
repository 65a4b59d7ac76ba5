/- slices.choosePivotOrdered over uint64: some place within; nothing that lay turns. -/
import Derived.Test.YtkoalpbognpphaaNPiv
namespace Go.Proofs.Ytkoalpbognpphaa
open Go.RowKit Go.Sort
set_option linter.unusedVariables false

set_option maxHeartbeats 4000000 in
theorem choose_any {w : World} {g c N : Nat} {d : Array Int} (h : SR w g c N w d) (cap a b : Nat) (hab : 12 < b - a) (hb : b ≤ N) (hN : N < 4611686018427387904) :
    Calls Try.prog 57 #[.slice (some ⟨g, 0, none⟩) N cap, .int .i64 a, .int .i64 b] w fun e w' =>
      (∃ (p : Nat) (k : Int), a ≤ p ∧ p < b ∧ e = .returned (.tuple #[.int .i64 p, .int .i64 k])) ∧ w.grownBy w' none := by
  obtain ⟨G, hG, hcw, hfw⟩ := h.names
  have HG := Lib.hid hG
  have hgl := h.lt
  clear h hG hfw
  have h0 : Pv (w.alloc (.cells #[.int .i64 0] 3)) g N w.heap.size G (w.alloc (.cells #[.int .i64 0] 3)) 0 :=
    ⟨Only.refl _ _, fun t ht => (World.cell?_alloc_lt w _ _ (by simpa using hgl)).trans (hcw t ht), ⟨0, Nat.le_refl _, Whole.new w 3 _⟩, by omega⟩
  have H0 := Lib.hid h0
  clear h0 hcw
  have out : ∀ {w' : World} {m : Nat} (_ : Pv (w.alloc (.cells #[.int .i64 0] 3)) g N w.heap.size G w' m), w.grownBy w' none := fun h =>
    have hg := h.gr
    ⟨hg.os, hg.tape, hg.output, by have := hg.size; simp at this; omega, fun i hi _ => (hg.block i (by simp; omega) (fun e => by cases e; omega)).trans (Below.heap_alloc w _ i hi)⟩
  have OUT : Hid (∀ (w' : World) (m : Nat), Pv (w.alloc (.cells #[.int .i64 0] 3)) g N w.heap.size G w' m → w.grownBy w' none) := Lib.hid fun _ _ h => out h
  clear out
  obtain ⟨q, hq⟩ : ∃ q, (b - a) / 4 = q := ⟨_, rfl⟩
  have hq3 : 3 ≤ q := by omega
  have hq4 : 4 * q ≤ b - a := by omega
  have hdv : ((b : Int) - (a : Int)) / 4 = (q : Int) := by omega
  have hdt : ((b : Int) - (a : Int)).tdiv 4 = (q : Int) := by rw [Int.tdiv_eq_ediv_of_nonneg (by omega)]; exact hdv
  go_enter Try.func57, Try.ntmps57
  have h8 : (8 : Int) ≤ (b : Int) - a := by omega
  by_cases h50 : 50 ≤ b - a
  · have h50' : (50 : Int) ≤ (b : Int) - a := by omega
    have hq12 : 12 ≤ q := by omega
    go_wp2_with fail
    go_at_call 68
    have c1 := adjacent_any H0.out (by omega) cap (a + q) (by omega) (by omega) hN
    rw [show ((a + q : Nat) : Int) = (a : Int) + q by omega] at c1
    refine c1.mono ?_
    clear c1
    rintro e w1 ⟨⟨x, hx, rfl⟩, h1⟩
    have hx' : a ≤ x ∧ x < b := by unfold One3 at hx; omega
    clear hx
    have H1 := Lib.hid h1
    clear h1
    go_wp2_with fail
    go_at_call 68
    have c2 := adjacent_any H1.out.now (by omega) cap (a + q * 2) (by omega) (by omega) hN
    rw [show ((a + q * 2 : Nat) : Int) = (a : Int) + q * 2 by omega] at c2
    refine c2.mono ?_
    clear c2
    rintro e w2 ⟨⟨y, hy, rfl⟩, h2⟩
    have hy' : a ≤ y ∧ y < b := by unfold One3 at hy; omega
    clear hy
    have H2 := Lib.hid (H1.out.trans h2)
    clear h2 H1
    go_wp2_with fail
    go_at_call 68
    have c3 := adjacent_any H2.out.now (by omega) cap (a + q * 3) (by omega) (by omega) hN
    rw [show ((a + q * 3 : Nat) : Int) = (a : Int) + q * 3 by omega] at c3
    refine c3.mono ?_
    clear c3
    rintro e w3 ⟨⟨z, hz, rfl⟩, h3⟩
    have hz' : a ≤ z ∧ z < b := by unfold One3 at hz; omega
    clear hz
    have H3 := Lib.hid (H2.out.trans h3)
    clear h3 H2
    go_wp2_with fail
    go_at_call 69
    refine (median_any H3.out.now (by omega) cap x y z (by omega) (by omega) (by omega) hN).mono ?_
    rintro e w4 ⟨⟨u, hu, rfl⟩, h4⟩
    have hu' : a ≤ u ∧ u < b := by unfold One3 at hu; omega
    clear hu
    have h4 := H3.out.trans h4
    obtain ⟨s, hs, hbox⟩ := h4.box
    have hc := hbox.cell 0
    simp only [List.getElem?_toArray, List.getElem?_cons_zero] at hc
    have H4 := Lib.hid h4
    clear h4 H3 hbox
    go_wp2
    all_goals go_returns
    all_goals exact ⟨⟨u, _, hu'.1, hu'.2, rfl⟩, OUT.out _ _ H4.out⟩
  · have h50' : ¬ (50 : Int) ≤ (b : Int) - a := by omega
    go_wp2_with fail
    go_at_call 69
    have c1 := median_any H0.out (by omega) cap (a + q) (a + q * 2) (a + q * 3) (by omega) (by omega) (by omega) hN
    rw [show ((a + q : Nat) : Int) = (a : Int) + q by omega, show ((a + q * 2 : Nat) : Int) = (a : Int) + q * 2 by omega, show ((a + q * 3 : Nat) : Int) = (a : Int) + q * 3 by omega] at c1
    refine c1.mono ?_
    clear c1
    rintro e w4 ⟨⟨u, hu, rfl⟩, h4⟩
    have hu' : a ≤ u ∧ u < b := by unfold One3 at hu; omega
    clear hu
    obtain ⟨s, hs, hbox⟩ := h4.box
    have hc := hbox.cell 0
    simp only [List.getElem?_toArray, List.getElem?_cons_zero] at hc
    have H4 := Lib.hid h4
    clear h4 hbox
    go_wp2
    all_goals go_returns
    all_goals exact ⟨⟨u, _, hu'.1, hu'.2, rfl⟩, OUT.out _ _ H4.out⟩
end Go.Proofs.Ytkoalpbognpphaa
