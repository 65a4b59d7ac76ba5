/- The document's wait. -/
import Derived.Test.YtconfkjchjcjgaaKWait
namespace Go.Proofs.Ytconfkjchjcjgaa
open Go.RowKit
set_option linter.unusedVariables false

theorem half_bound {lo hi d : Int} (h0 : 0 ≤ d) (h1 : d ≤ 500) (a : 2 ≤ lo) (b : lo < hi) (c : hi ≤ 1099511627776) : (2 ≤ (lo + hi) / 2 ∧ lo ≤ (lo + hi) / 2 ∧ (lo + hi) / 2 < hi) ∧ 0 ≤ ((lo + hi) / 2 - 2) * (1000 - d) ∧ ((lo + hi) / 2 - 2) * (1000 - d) ≤ 1099511627776000 := by
  have h : 2 ≤ (lo + hi) / 2 ∧ lo ≤ (lo + hi) / 2 ∧ (lo + hi) / 2 < hi := by omega
  generalize (lo + hi) / 2 = m at *
  have p := Int.mul_nonneg (show (0 : Int) ≤ m - 2 by omega) (show (0 : Int) ≤ 1000 - d by omega)
  have q := Int.mul_le_mul_of_nonneg_left (show 1000 - d ≤ 1000 by omega) (show (0 : Int) ≤ m - 2 by omega)
  omega
set_option maxHeartbeats 1000000 in
theorem refWaitBad_any {l d : Int} (h : ¬ WaitFits l d) (w : World) : Calls Try.prog 23 #[.int .i64 l, .int .i64 d] w fun e w' => e = .returned (.tuple #[.int .i64 0, .int .i64 2]) ∧ w = w' := by
  by_cases c1 : l < 1
  · have t1 : decide (l < 1) = true := decide_eq_true c1
    clear h
    go_enter Try.func23, Try.ntmps23
    go_wp2
    go_returns
    exact ⟨rfl, rfl⟩
  have t1 : decide (l < 1) = false := decide_eq_false c1
  by_cases c2 : 1048576 < l
  · have t2 : decide (1048576 < l) = true := decide_eq_true c2
    clear h c1
    go_enter Try.func23, Try.ntmps23
    go_wp2
    go_returns
    exact ⟨rfl, rfl⟩
  have t2 : decide (1048576 < l) = false := decide_eq_false c2
  by_cases c3 : d < 0
  · have t3 : decide (d < 0) = true := decide_eq_true c3
    clear h c1 c2
    go_enter Try.func23, Try.ntmps23
    go_wp2
    go_returns
    exact ⟨rfl, rfl⟩
  have t3 : decide (d < 0) = false := decide_eq_false c3
  have c4 : 500 < d := by unfold WaitFits at h; omega
  have t4 : decide (500 < d) = true := decide_eq_true c4
  clear h c1 c2 c3
  go_enter Try.func23, Try.ntmps23
  go_wp2
  go_returns
  exact ⟨rfl, rfl⟩
set_option maxHeartbeats 2000000 in
set_option maxRecDepth 100000 in
theorem refWait_any {l d : Int} (h : WaitFits l d) (w : World) : Calls Try.prog 23 #[.int .i64 l, .int .i64 d] w fun e w' => e = .returned (.tuple #[.int .i64 (waitOf l d), .int .i64 0]) ∧ w = w' := by
  obtain ⟨⟨h0, h1⟩, h2, h3⟩ := h
  obtain ⟨b0, b1, b2, b3, b4⟩ := wait_bound h0 h1 h2 h3
  have t1 : decide (l < 1) = false := decide_eq_false (by omega)
  have t2 : decide (1048576 < l) = false := decide_eq_false (by omega)
  have t3 : decide (d < 0) = false := decide_eq_false (by omega)
  have t4 : decide (500 < d) = false := decide_eq_false (by omega)
  have HW : ∀ m, Hid ((l + 2) * (1000 + d) ≤ (m - 2) * (1000 - d) ↔ waitOf l d ≤ m) := fun m => Lib.hid (wait_iff h0 h1)
  generalize waitOf l d = W at *
  clear b2
  go_enter Try.func23, Try.ntmps23
  go_wp2
  go_loop [7, 8] (fun lo hi => ∃ x y : Int, lo = .int .i64 x ∧ hi = .int .i64 y ∧ 2 ≤ x ∧ x ≤ W ∧ W ≤ y ∧ y ≤ 1099511627776) (fun lo hi => (intOf hi - intOf lo).toNat)
  case atStart => exact ⟨2, 1099511627776, rfl, rfl, by omega, by omega, by omega, by omega⟩
  case round =>
    obtain ⟨x, y, rfl, rfl, hx, hxW, hWy, hy⟩ := hrel
    by_cases hlt : x < y
    · obtain ⟨⟨m1, m2, m3⟩, p1, p2⟩ := half_bound h0 h1 hx hlt hy
      have HM := HW ((x + y) / 2)
      by_cases hm : (l + 2) * (1000 + d) ≤ ((x + y) / 2 - 2) * (1000 - d)
      · have hW := HM.out.1 hm
        clear HM HW
        go_wp2
        go_round
        case rel => exact ⟨x, (x + y) / 2, rfl, rfl, by omega, by omega, by omega, by omega⟩
        case measure => simp [intOf]; omega
      · have hW : W ≤ (x + y) / 2 → False := fun e => hm (HM.out.2 e)
        have hW2 : (x + y) / 2 < W := Int.not_le.1 hW
        clear HM HW hW
        have t5 : decide ((l + 2) * (1000 + d) ≤ ((x + y) / 2 - 2) * (1000 - d)) = false := decide_eq_false hm
        go_wp2
        go_round
        case rel => exact ⟨(x + y) / 2 + 1, y, rfl, rfl, by omega, by omega, by omega, by omega⟩
        case measure => simp [intOf]; omega
    · obtain rfl : x = W := by omega
      clear HW
      go_wp2
      go_returns
      exact ⟨rfl, rfl⟩
end Go.Proofs.Ytconfkjchjcjgaa
