/- The walk over the examples that every statement of the layer asks first. -/
import Derived.Test.YtnmnkkohfcbmfaaCApi
namespace Go.Proofs.Ytnmnkkohfcbmfaa
open Go.RowKit
set_option linter.unusedVariables false

set_option maxHeartbeats 800000 in
theorem clives_any (w : World) : Calls Try.prog 13 #[] w fun e w' => e = .returned (.bool true) ∧ Below w.heap.size w w' := by
  have hconv := conv_same
  go_enter Try.func13, Try.ntmps13
  go_wp2_with fail
  have hr1 := Rds.madeF w 5 [49, 50, 51, 52, 53, 54, 55, 56, 57] #[.int .u8 49, .int .u8 50, .int .u8 51, .int .u8 52, .int .u8 53, .int .u8 54, .int .u8 55, .int .u8 56, .int .u8 57] (9, 10) rfl
  have hb1 : Below w.heap.size w (w.alloc (.cells #[.int .u8 49, .int .u8 50, .int .u8 51, .int .u8 52, .int .u8 53, .int .u8 54, .int .u8 55, .int .u8 56, .int .u8 57] 5 (9, 10))) := (Below.refl _ _).alloc (Nat.le_refl _) _
  generalize w.alloc (.cells #[.int .u8 49, .int .u8 50, .int .u8 51, .int .u8 52, .int .u8 53, .int .u8 54, .int .u8 55, .int .u8 56, .int .u8 57] 5 (9, 10)) = v1 at *
  refine (sum_any _ [49, 50, 51, 52, 53, 54, 55, 56, 57] 9 _ v1 (by decide) (by unfold Byt; decide) hr1).mono ?_
  rintro e u1 ⟨rfl, rfl⟩
  rw [show mor 0 [49, 50, 51, 52, 53, 54, 55, 56, 57] = 3421780262 from by decide +kernel]
  clear hr1
  go_wp2_with fail
  have hr2 := Rds.madeF u1 5 [49, 50, 51, 52] #[.int .u8 49, .int .u8 50, .int .u8 51, .int .u8 52] (4, 5) rfl
  have hb2 : Below w.heap.size w (u1.alloc (.cells #[.int .u8 49, .int .u8 50, .int .u8 51, .int .u8 52] 5 (4, 5))) := hb1.alloc hb1.size _
  generalize u1.alloc (.cells #[.int .u8 49, .int .u8 50, .int .u8 51, .int .u8 52] 5 (4, 5)) = v2 at *
  refine (sum_any _ [49, 50, 51, 52] 4 _ v2 (by decide) (by unfold Byt; decide) hr2).mono ?_
  rintro e u2 ⟨rfl, rfl⟩
  rw [show mor 0 [49, 50, 51, 52] = 2615402659 from by decide +kernel]
  clear hr2
  go_wp2_with fail
  have hr3 := Rds.madeF u2 5 [53, 54, 55, 56, 57] #[.int .u8 53, .int .u8 54, .int .u8 55, .int .u8 56, .int .u8 57] (5, 6) rfl
  have hb3 : Below w.heap.size w (u2.alloc (.cells #[.int .u8 53, .int .u8 54, .int .u8 55, .int .u8 56, .int .u8 57] 5 (5, 6))) := hb2.alloc hb2.size _
  generalize u2.alloc (.cells #[.int .u8 53, .int .u8 54, .int .u8 55, .int .u8 56, .int .u8 57] 5 (5, 6)) = v3 at *
  refine (more_any 2615402659 _ [53, 54, 55, 56, 57] 5 _ v3 (by decide) (by decide) (by unfold Byt; decide) hr3).mono ?_
  rintro e u3 ⟨rfl, rfl⟩
  rw [show mor 2615402659 [53, 54, 55, 56, 57] = 3421780262 from by decide +kernel]
  clear hr3
  go_wp2
  go_ret
  exact ⟨rfl, hb3⟩

end Go.Proofs.Ytnmnkkohfcbmfaa
