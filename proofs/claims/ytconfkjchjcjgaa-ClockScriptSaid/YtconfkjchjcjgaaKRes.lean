/- What Keeps and Wait answer, of the program and of the document, in the same words. -/
import Derived.Test.YtconfkjchjcjgaaKLend
import Derived.Test.YtconfkjchjcjgaaKOpen
namespace Go.Proofs.Ytconfkjchjcjgaa
open Go.RowKit
set_option linter.unusedVariables false

def ownX (node : Nat) (X : List (List Int)) : List Int := X.map fun xs => xs.getD node 0
def badX (X : List (List Int)) : Bool := X.any fun xs => xs.any badB
theorem own_x (node : Nat) (rs : List Ro) : ownOf node rs = ownX node (rs.map Ro.xs) := by simp [ownOf, ownX]
theorem bad_x (rs : List Ro) : badC rs = badX (rs.map Ro.xs) := by
  unfold badC badX
  rw [List.any_map]
  rfl
/-- what may be asked -/
def FitX (X : List (List Int)) (node d : Int) : Prop := (0 ≤ d ∧ d ≤ 500) ∧ (0 ≤ node ∧ node ≤ 63) ∧ badX X = false
noncomputable def resX (X : List (List Int)) (node d : Int) : Bool := @ite _ (FitX X node d) (Classical.propDecidable _) (kpB d (ownX node.toNat X)) false
noncomputable def errX (X : List (List Int)) (node d : Int) : Int := @ite _ (FitX X node d) (Classical.propDecidable _) 0 2
theorem resX_yes {X : List (List Int)} {node d : Int} (h : FitX X node d) : resX X node d = kpB d (ownX node.toNat X) ∧ errX X node d = 0 := ⟨by unfold resX; rw [if_pos h], by unfold errX; rw [if_pos h]⟩
theorem resX_no {X : List (List Int)} {node d : Int} (h : ¬ FitX X node d) : resX X node d = false ∧ errX X node d = 2 := ⟨by unfold resX; rw [if_neg h], by unfold errX; rw [if_neg h]⟩
noncomputable def waitR (l d : Int) : Int := @ite _ (WaitFits l d) (Classical.propDecidable _) (waitOf l d) 0
noncomputable def waitE (l d : Int) : Int := @ite _ (WaitFits l d) (Classical.propDecidable _) 0 2

theorem keepX_any {A : Option Addr} {rs : List Ro} {n c : Nat} {node d : Int} (w : World) (hn : rs.length = n) (hm : n ≤ 200) (hC : Course w w.heap.size A rs) {X : List (List Int)} (hX : rs.map Ro.xs = X) :
    Calls Try.prog 11 #[.slice A n c, .int .i64 node, .int .i64 d] w fun e w' => e = .returned (.tuple #[.bool (resX X node d), .int .i64 (errX X node d)]) ∧ Below w.heap.size w w' := by
  by_cases h : FitX X node d
  · obtain ⟨e1, e2⟩ := resX_yes h
    rw [e1, e2]
    obtain ⟨hd, hnd, hb⟩ := h
    obtain ⟨m, rfl⟩ : ∃ m : Nat, node = m := ⟨node.toNat, by omega⟩
    have := keep_any (c := c) (node := m) (d := d) w hn hC ⟨⟨hd, hnd⟩, by omega, by rw [bad_x, hX]; exact hb⟩
    rw [own_x, hX] at this
    simpa using this
  · obtain ⟨e1, e2⟩ := resX_no h
    rw [e1, e2]
    refine (keepBad_any (c := c) w hn (by omega) hC fun q => h ⟨q.1.1, q.1.2, by rw [← hX, ← bad_x]; exact q.2.2⟩).mono ?_
    rintro e w' ⟨rfl, rfl⟩
    exact ⟨rfl, Below.refl _ _⟩
theorem refX_any {A : Option Addr} {rs : List Ro} {n c : Nat} {node d : Int} (w : World) (hn : rs.length = n) (hm : n ≤ 200) (hC : Course w w.heap.size A rs) {X : List (List Int)} (hX : rs.map Ro.xs = X) :
    Calls Try.prog 22 #[.slice A n c, .int .i64 node, .int .i64 d] w fun e w' => e = .returned (.tuple #[.bool (resX X node d), .int .i64 (errX X node d)]) ∧ Below w.heap.size w w' := by
  by_cases hb : (0 ≤ d ∧ d ≤ 500) ∧ 0 ≤ node ∧ node ≤ 63
  · obtain ⟨hd, hnd⟩ := hb
    obtain ⟨m, rfl⟩ : ∃ m : Nat, node = m := ⟨node.toNat, by omega⟩
    have h := refKeep_any (c := c) (node := m) (d := d) w hn hm hC hd.1 hd.2 (by omega)
    have e : resB rs m d = resX X m d ∧ resE rs = errX X m d := by
      unfold resB resE
      rw [bad_x, hX, own_x, hX]
      by_cases q : badX X = true
      · obtain ⟨e1, e2⟩ := resX_no (X := X) (node := m) (d := d) fun z => by rw [z.2.2] at q; cases q
        rw [if_pos q, if_pos q, e1, e2]
        exact ⟨rfl, rfl⟩
      · obtain ⟨e1, e2⟩ := resX_yes (X := X) (node := m) (d := d) ⟨hd, hnd, by simpa using q⟩
        rw [if_neg q, if_neg q, e1, e2]
        exact ⟨by simp, rfl⟩
    rw [e.1, e.2] at h
    exact h
  · obtain ⟨e1, e2⟩ := resX_no (X := X) (node := node) (d := d) fun z => hb ⟨z.1, z.2.1⟩
    rw [e1, e2]
    refine (refKeepOut_any (rs := rs) w hm hb).mono ?_
    rintro e w' ⟨rfl, rfl⟩
    exact ⟨rfl, Below.refl _ _⟩
theorem waitX_any (l d : Int) (w : World) : Calls Try.prog 10 #[.int .i64 l, .int .i64 d] w fun e w' => e = .returned (.tuple #[.int .i64 (waitR l d), .int .i64 (waitE l d)]) ∧ w = w' := by
  by_cases h : WaitFits l d
  · rw [show waitR l d = waitOf l d by unfold waitR; rw [if_pos h], show waitE l d = 0 by unfold waitE; rw [if_pos h]]
    exact wait_any h w
  · rw [show waitR l d = 0 by unfold waitR; rw [if_neg h], show waitE l d = 2 by unfold waitE; rw [if_neg h]]
    exact waitBad_any h w
theorem refWaitX_any (l d : Int) (w : World) : Calls Try.prog 23 #[.int .i64 l, .int .i64 d] w fun e w' => e = .returned (.tuple #[.int .i64 (waitR l d), .int .i64 (waitE l d)]) ∧ w = w' := by
  by_cases h : WaitFits l d
  · rw [show waitR l d = waitOf l d by unfold waitR; rw [if_pos h], show waitE l d = 0 by unfold waitE; rw [if_pos h]]
    exact refWait_any h w
  · rw [show waitR l d = 0 by unfold waitR; rw [if_neg h], show waitE l d = 2 by unfold waitE; rw [if_neg h]]
    exact refWaitBad_any h w
end Go.Proofs.Ytconfkjchjcjgaa
