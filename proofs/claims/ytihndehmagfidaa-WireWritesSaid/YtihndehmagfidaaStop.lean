/- The walks over the methods of a wire.Reader that has stopped, or is none. -/
import Derived.Test.YtihndehmagfidaaRd
namespace Go.Proofs.Ytihndehmagfidaa
open Go.RowKit
set_option linter.unusedVariables false

section
variable {w : World} {r : Option Addr}

theorem uint_stop (h : Stp w r true) : Calls Try.prog 19 #[.pointer r] w fun e w' => e = .returned (.int .u64 0) ∧ w' = w := by
  have H : Hid (Stp w r true) := Lib.hid h
  clear h
  go_enter Try.func19, Try.ntmps19
  go_wp2_with fail
  refine H.out.now.mono ?_
  rintro e w1 ⟨rfl, rfl⟩
  go_wp2
  go_ret
  exact ⟨rfl, rfl⟩
theorem int_stop (h : Stp w r true) : Calls Try.prog 31 #[.pointer r] w fun e w' => e = .returned (.int .i64 0) ∧ w' = w := by
  have H : Hid (Stp w r true) := Lib.hid h
  clear h
  go_enter Try.func31, Try.ntmps31
  go_wp2_with fail
  refine H.out.now.mono ?_
  rintro e w1 ⟨rfl, rfl⟩
  go_wp2
  go_ret
  exact ⟨rfl, rfl⟩
theorem bool_stop (h : Stp w r true) : Calls Try.prog 17 #[.pointer r] w fun e w' => e = .returned (.bool false) ∧ w' = w := by
  have H : Hid (Stp w r true) := Lib.hid h
  clear h
  go_enter Try.func17, Try.ntmps17
  go_wp2_with fail
  refine H.out.now.mono ?_
  rintro e w1 ⟨rfl, rfl⟩
  go_wp2
  go_ret
  exact ⟨rfl, rfl⟩
theorem text_stop (h : Stp w r true) : Calls Try.prog 34 #[.pointer r] w fun e w' => e = .returned (.string ⟨#[]⟩) ∧ w' = w := by
  have H : Hid (Stp w r true) := Lib.hid h
  clear h
  go_enter Try.func34, Try.ntmps34
  go_wp2_with fail
  refine H.out.now.mono ?_
  rintro e w1 ⟨rfl, rfl⟩
  go_wp2
  go_ret
  exact ⟨rfl, rfl⟩
theorem count_stop (h : Stp w r true) (most : Int) : Calls Try.prog 36 #[.pointer r, .int .i64 most] w fun e w' => e = .returned (.int .i64 0) ∧ w' = w := by
  have H : Hid (Stp w r true) := Lib.hid h
  clear h
  go_enter Try.func36, Try.ntmps36
  go_wp2_with fail
  refine H.out.now.mono ?_
  rintro e w1 ⟨rfl, rfl⟩
  go_wp2
  go_ret
  exact ⟨rfl, rfl⟩
theorem fail_stop (h : Stp w r true) (k : Int) : Calls Try.prog 38 #[.pointer r, .int .i64 k] w fun e w' => e = .returned (.tuple #[]) ∧ w' = w := by
  have H : Hid (Stp w r true) := Lib.hid h
  clear h
  go_enter Try.func38, Try.ntmps38
  go_wp2_with fail
  refine H.out.now.mono ?_
  rintro e w1 ⟨rfl, rfl⟩
  go_wp2
  go_end0
  exact ⟨rfl, rfl⟩
theorem done_stop {E : Int} (hE : E ≠ 0) (h : Ers w r E) : Calls Try.prog 40 #[.pointer r] w fun e w' => e = .returned (.int .i64 E) ∧ ∃ n, w' = w.drewN n := by
  have H : Hid (Stp w r true) := Lib.hid (h.off hE)
  have HE : Hid (Ers w r E) := Lib.hid h
  clear h hE
  go_enter Try.func40, Try.ntmps40
  go_wp2_with fail
  go_quiet ((go_at_call 45; exact Calls.quiet_of_same (H.out _)))
  go_wp2_with fail
  refine (HE.out _).mono ?_
  rintro e w1 ⟨rfl, rfl⟩
  go_wp2
  go_ret
  exact ⟨rfl, _, rfl⟩
end
end Go.Proofs.Ytihndehmagfidaa
