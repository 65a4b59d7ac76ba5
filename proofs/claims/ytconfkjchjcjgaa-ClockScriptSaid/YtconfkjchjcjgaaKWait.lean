/- The wait for a lease. -/
import Derived.Test.YtconfkjchjcjgaaBase
import Derived.Test.YtconfkjchjcjgaaKDrift
import Derived.IntWalk
namespace Go.Proofs.Ytconfkjchjcjgaa
open Go.RowKit
set_option linter.unusedVariables false

/-- a drift out of its bounds -/
def noDr (d : Int) : Bool := decide (d < 0) || decide (500 < d)
theorem noDr_true {d : Int} (h : d < 0 ∨ 500 < d) : noDr d = true := by simp [noDr, h]
theorem noDr_false {d : Int} (h0 : 0 ≤ d) (h1 : d ≤ 500) : noDr d = false := by simp [noDr]; omega
theorem noDrift_any (d : Int) (w : World) : Calls Try.prog 32 #[.int .i64 d] w fun e w' => e = .returned (.bool (noDr d)) ∧ w = w' := by
  unfold noDr
  go_enter Try.func32, Try.ntmps32
  by_cases h : d < 0
  · go_wp2
    go_ret
    exact ⟨by simp [h], rfl⟩
  · have h' : decide (d < 0) = false := decide_eq_false h
    go_wp2
    go_ret
    exact ⟨by simp, rfl⟩
theorem noDrift_yes {d : Int} (h : d < 0 ∨ 500 < d) (w : World) : Calls Try.prog 32 #[.int .i64 d] w fun e w' => e = .returned (.bool true) ∧ w = w' := by
  rw [← noDr_true h]; exact noDrift_any d w
theorem noDrift_no {d : Int} (h0 : 0 ≤ d) (h1 : d ≤ 500) (w : World) : Calls Try.prog 32 #[.int .i64 d] w fun e w' => e = .returned (.bool false) ∧ w = w' := by
  rw [← noDr_false h0 h1]; exact noDrift_any d w

/-- what the wait is asked for -/
def WaitFits (l d : Int) : Prop := (0 ≤ d ∧ d ≤ 500) ∧ 1 ≤ l ∧ l ≤ 1048576
set_option maxHeartbeats 1000000 in
theorem waitBad_any {l d : Int} (h : ¬ WaitFits l d) (w : World) : Calls Try.prog 10 #[.int .i64 l, .int .i64 d] w fun e w' => e = .returned (.tuple #[.int .i64 0, .int .i64 2]) ∧ w = w' := by
  by_cases hd : d < 0 ∨ 500 < d
  · have c := noDrift_yes hd w
    clear h hd
    go_enter Try.func10, Try.ntmps10
    go_wp2_with (go_at_call 32; refine c.mono ?_; rintro e w' ⟨rfl, rfl⟩)
    go_returns
    exact ⟨rfl, rfl⟩
  · have c := noDrift_no (d := d) (by omega) (by omega) w
    have hl : l < 1 ∨ 1048576 < l := by unfold WaitFits at h; omega
    clear h hd
    rcases hl with hl | hl
    · go_enter Try.func10, Try.ntmps10
      go_wp2_with (go_at_call 32; refine c.mono ?_; rintro e w' ⟨rfl, rfl⟩)
      go_returns
      exact ⟨rfl, rfl⟩
    · have hl' : decide (l < 1) = false := decide_eq_false (by omega)
      go_enter Try.func10, Try.ntmps10
      go_wp2_with (go_at_call 32; refine c.mono ?_; rintro e w' ⟨rfl, rfl⟩)
      go_returns
      exact ⟨rfl, rfl⟩
set_option maxHeartbeats 2000000 in
theorem wait_any {l d : Int} (h : WaitFits l d) (w : World) : Calls Try.prog 10 #[.int .i64 l, .int .i64 d] w fun e w' => e = .returned (.tuple #[.int .i64 (waitOf l d), .int .i64 0]) ∧ w = w' := by
  obtain ⟨⟨h0, h1⟩, h2, h3⟩ := h
  have c := noDrift_no h0 h1 w
  obtain ⟨b0, b1, b2, b3, b4⟩ := wait_bound h0 h1 h2 h3
  have d1 : decide (l < 1) = false := decide_eq_false (by omega)
  have d2 : decide (1048576 < l) = false := decide_eq_false (by omega)
  have hq : 0 ≤ ((l + 2) * (1000 + d) + (1000 - d) - 1) / (1000 - d) := Int.ediv_nonneg (by omega) (by omega)
  have hq2 : ((l + 2) * (1000 + d) + (1000 - d) - 1) / (1000 - d) ≤ 1572869000 := by unfold waitOf at b4; omega
  clear b3 b4
  unfold waitOf
  go_enter Try.func10, Try.ntmps10
  go_wp2_with (go_at_call 32; refine c.mono ?_; rintro e w' ⟨rfl, rfl⟩)
  go_returns
  exact ⟨rfl, rfl⟩
end Go.Proofs.Ytconfkjchjcjgaa
