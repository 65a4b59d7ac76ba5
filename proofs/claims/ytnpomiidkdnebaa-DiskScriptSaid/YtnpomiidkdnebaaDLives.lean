/- The walk over the example that every statement of the layer asks first. -/
import Derived.Test.YtnpomiidkdnebaaDOk
import Derived.Laws.MakeOwn
namespace Go.Proofs.Ytnpomiidkdnebaa
open Go.RowKit
set_option linter.unusedVariables false

theorem made8 (n : Nat) : (madeCells (Value.int .u8 0).cells (n * 1)).toList = c8 (List.replicate n 0) := by
  rw [show (Value.int .u8 0).cells = #[.int .u8 0] from rfl, Nat.mul_one]
  unfold madeCells
  apply List.ext_getElem
  · simp [c8]
  · intro i h1 h2
    simp [c8, Nat.mod_one]

/-- a new slice of n bytes 0 -/
theorem made_run (w : World) (n : Nat) (N : Int) (hN : N = n) (hn : n ≤ 1048576) : ∃ w', (Instr.makeSlice 29 (.int .i64 N) (.int .i64 N)).run Try.prog w = .ok (.slice (some ⟨w.heap.size, 0, none⟩) n n) w' ∧ Rds w' w'.heap.size (some ⟨w.heap.size, 0, none⟩) (c8 (List.replicate n 0)) ∧ Below w.heap.size w w' := by
  subst hN
  obtain ⟨i0, hi, hz0, hz1, hz2⟩ := info_parts info8
  obtain ⟨w9, hrun, hown, hgr⟩ := run_make_full (P := Try.prog) w w.heap.size 29 5 i0 (.int .u8 0) 1 Try.underlying29 hi hz0 hz1 .i64 .i64 n (by rw [hz2]; omega) (by unfold maxLen; omega) (Nat.le_refl _)
  rw [made8] at hown
  exact ⟨w9, hrun, Rds.ofOwn hown, (Below.refl _ _).grown hgr (Nat.le_refl _) (by simp)⟩

def nA : ByteArray := ByteArray.mk #[97]
def z70 : List Int := List.replicate 70 0
def dA1 : Dsk := ⟨100, [⟨[97], [], 0⟩], false, -1, 1⟩
def dA2 : Dsk := ⟨100, [⟨[97], z70, 0⟩], false, -1, 3⟩
def dA3 : Dsk := ⟨100, [⟨[97], z70, 70⟩], false, -1, 4⟩
theorem eA1 : dMake (dNew 100) (lst nA) = (0, dA1) := by rfl
theorem eA2 : dAppend dA1 (lst nA) z70 = (0, dA2) := by kernel_rfl
theorem eA3 : dSync dA2 (lst nA) = (0, dA3) := by kernel_rfl
theorem okA1 : Okd dA1 := by have := okd_make (okd_new 100 (by decide)) (lst nA); rw [eA1] at this; exact this
theorem okA2 : Okd dA2 := by have := okd_append okA1 (lst nA) z70; rw [eA2] at this; exact this
theorem okA3 : Okd dA3 := by have := okd_sync okA2 (lst nA); rw [eA3] at this; exact this

theorem Turn.go {S S' : Nat → Prop} {B : Nat} {w w1 w2 : World} (h : Below B w w1) (hB : B ≤ w.heap.size) (ht : Turn S S' w1 w2) (hS : ∀ k, S k → B ≤ k) : Below B w w2 ∧ ∀ k, S' k → B ≤ k := by
  refine ⟨h.trans (ht.outs.below hS (Nat.le_trans hB h.size)), fun k hk => ?_⟩
  rcases ht.new k hk with e | e
  · exact hS k e
  · exact Nat.le_trans (Nat.le_trans hB h.size) e

set_option maxHeartbeats 2000000 in
set_option maxRecDepth 5000 in
theorem lives_any (w : World) : Calls Try.prog 8 #[] w fun e w' => e = .returned (.bool true) ∧ Below w.heap.size w w' := by
  go_enter Try.func8, Try.ntmps8
  go_wp2_with fail
  refine (new_any 100 (by decide) w).mono ?_
  rintro e w1 ⟨S1, d, rfl, hk1, hb1, hS1⟩
  go_wp2_with fail
  have hm := make_any nA (by decide) w1 hk1 (okd_room (okd_new 100 (by decide)) (by decide))
  rw [eA1] at hm
  refine hm.mono ?_
  rintro e w2 ⟨rfl, S2, hk2, ht2⟩
  obtain ⟨hb2, hS2⟩ := Turn.go hb1 (Nat.le_refl _) ht2 hS1
  obtain ⟨w3, hrun, hr3, hb3⟩ := made_run w2 70 70 rfl (by decide)
  have hk3 := hk2.go hb3
  have hb3' : Below w.heap.size w w3 := hb2.trans (hb3.mono hb2.size)
  have hlt2 := hk2.lt
  clear hm hk1 hb1 hS1 ht2
  go_wp2_with fail
  have ha := append_any nA (by decide) z70 (some ⟨w2.heap.size, 0, none⟩) 70 70 w3 hk3 (okd_room okA1 (by decide)) okA1 rfl (by decide) (by decide) (fun e => by cases e) hr3 (fun ad e _ hs => by obtain rfl := Option.some.inj e; exact Nat.lt_irrefl _ (hlt2 _ hs))
  rw [eA2] at ha
  refine ha.mono ?_
  rintro e w4 ⟨rfl, S4, hk4, ht4⟩
  obtain ⟨hb4, hS4⟩ := Turn.go hb3' (Nat.le_refl _) ht4 hS2
  clear ha hrun hr3 hk2 hk3 hb2 hb3 hb3' hlt2 ht4
  go_wp2_with fail
  have hs := sync_any nA (by decide) w4 hk4 (okd_room okA2 (by decide))
  rw [eA3] at hs
  refine hs.mono ?_
  rintro e w5 ⟨rfl, S5, hk5, ht5⟩
  obtain ⟨hb5, hS5⟩ := Turn.go hb4 (Nat.le_refl _) ht5 hS4
  clear hs hk4 hb4 hS4 ht5
  go_wp2_with fail
  refine (steps_any w5 hk5).mono ?_
  rintro e w6 ⟨rfl, hw6⟩
  rw [hw6]
  clear hw6 w6
  go_wp2_with fail
  refine (on_any w5 hk5).mono ?_
  rintro e w6 ⟨rfl, hw6⟩
  rw [hw6]
  clear hw6 w6
  go_wp2_with fail
  have hl := left_any w5 hk5
  rw [show dLeft dA3 = 30 by kernel_rfl] at hl
  refine hl.mono ?_
  rintro e w6 ⟨rfl, hw6⟩
  rw [hw6]
  clear hw6 w6 hl
  go_wp2
  go_returns
  exact ⟨by simp, hb5⟩
end Go.Proofs.Ytnpomiidkdnebaa
