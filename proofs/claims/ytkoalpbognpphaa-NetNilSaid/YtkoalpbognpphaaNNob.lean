/- What a net that is not there, or that nobody made, answers. -/
import Derived.Test.YtkoalpbognpphaaNNew
namespace Go.Proofs.Ytkoalpbognpphaa
open Go.RowKit Go.Maps
set_option linter.unusedVariables false

set_option maxHeartbeats 2000000 in
set_option maxRecDepth 100000 in
theorem nobLose_any (x : Int) {w : World} {p : Option Addr} (h : Nob w p) : Calls Try.prog 14 #[.pointer p, .int .u64 x] w fun e w' => e = .returned (.int .i64 1) ∧ Below w.heap.size w w' := by
  have H := Lib.hid h
  clear h
  go_enter Try.func14, Try.ntmps14
  go_wp2_with fail
  go_at_call 35
  refine (nobFind_any x H.out).mono ?_
  rintro e w1 ⟨rfl, hb⟩
  simp only [zeroL]
  have HB := Lib.hid hb
  clear hb
  go_wp2
  go_ret
  exact ⟨rfl, HB.out.alloc HB.out.size _⟩
set_option maxHeartbeats 2000000 in
set_option maxRecDepth 100000 in
theorem nobDouble_any (x : Int) {w : World} {p : Option Addr} (h : Nob w p) : Calls Try.prog 10 #[.pointer p, .int .u64 x] w fun e w' => e = .returned (.tuple #[.int .u64 0, .int .i64 1]) ∧ Below w.heap.size w w' := by
  have H := Lib.hid h
  clear h
  go_enter Try.func10, Try.ntmps10
  go_wp2_with fail
  go_at_call 35
  refine (nobFind_any x H.out).mono ?_
  rintro e w1 ⟨rfl, hb⟩
  simp only [zeroL]
  have HB := Lib.hid hb
  clear hb
  go_wp2
  go_returns
  exact ⟨rfl, HB.out.alloc HB.out.size _⟩
theorem nobSent_any {w : World} {p : Option Addr} (h : Nob w p) : Calls Try.prog 25 #[.pointer p] w fun e w' => e = .returned (.int .u64 0) ∧ w' = w := by
  have H := Lib.hid h
  clear h
  go_enter Try.func25, Try.ntmps25
  go_wp2_with (go_at_call 31; refine (nob_any H.out).mono ?_; rintro e w' ⟨rfl, rfl⟩)
  go_ret
  exact ⟨rfl, rfl⟩
theorem nobFlight_any {w : World} {p : Option Addr} (h : Nob w p) : Calls Try.prog 28 #[.pointer p] w fun e w' => e = .returned (.slice none 0 0) ∧ w' = w := by
  have H := Lib.hid h
  clear h
  go_enter Try.func28, Try.ntmps28
  go_wp2_with (go_at_call 31; refine (nob_any H.out).mono ?_; rintro e w' ⟨rfl, rfl⟩)
  go_ret
  exact ⟨rfl, rfl⟩
theorem nobTo_any (t : Int) {w : World} {p : Option Addr} (h : Nob w p) : Calls Try.prog 13 #[.pointer p, .int .i64 t] w fun e w' => e = .returned (.slice none 0 0) ∧ w' = w := by
  have H := Lib.hid h
  clear h
  go_enter Try.func13, Try.ntmps13
  go_wp2_with (go_at_call 31; refine (nob_any H.out).mono ?_; rintro e w' ⟨rfl, rfl⟩)
  go_ret
  exact ⟨rfl, rfl⟩
set_option maxRecDepth 100000 in
theorem nobClear_any (t : Int) {w : World} {p : Option Addr} (h : Nob w p) : Calls Try.prog 23 #[.pointer p, .int .i64 t] w fun e w' => e = .returned (.tuple #[]) ∧ w' = w := by
  have H := Lib.hid h
  clear h
  go_enter Try.func23, Try.ntmps23
  go_wp2_with (go_at_call 13; refine (nobTo_any t H.out).mono ?_; rintro e w' ⟨rfl, rfl⟩)
  go_loopw [10] (fun vi wr => vi = .int .i64 0 ∧ wr = w') (fun vi _ => 0)
  case atStart => exact ⟨rfl, rfl⟩
  case round =>
    obtain ⟨rfl, rfl⟩ := hrel
    go_wp2
    go_end0
    exact ⟨rfl, rfl⟩
end Go.Proofs.Ytkoalpbognpphaa
