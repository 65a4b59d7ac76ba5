/- The worked examples of the chapter on the checksum come out as they are written. No condition. -/
import Derived.Test.YtnmnkkohfcbmfaaCLives
namespace Go.Proofs.Ytnmnkkohfcbmfaa
open Go.RowKit
set_option linter.unusedVariables false

set_option maxHeartbeats 3200000 in
set_option maxRecDepth 1000000 in
theorem cnames_walk (w : World) : Calls Try.prog 3 #[] w fun e w' => e = .returned (.bool true) ∧ Below w.heap.size w w' := by
  have hconv := conv_same
  go_enter Try.func3, Try.ntmps3
  go_wp2_with fail
  have hr1 := Rds.madeF w 5 [49, 50, 51, 52] #[.int .u8 49, .int .u8 50, .int .u8 51, .int .u8 52] (4, 5) rfl
  have hb1 : Below w.heap.size w (w.alloc (.cells #[.int .u8 49, .int .u8 50, .int .u8 51, .int .u8 52] 5 (4, 5))) := (Below.refl _ _).alloc (Nat.le_refl _) _
  generalize w.alloc (.cells #[.int .u8 49, .int .u8 50, .int .u8 51, .int .u8 52] 5 (4, 5)) = v1 at *
  refine (sum_any _ [49, 50, 51, 52] 4 _ v1 (by decide) (by unfold Byt; decide) hr1).mono ?_
  rintro e u1 ⟨rfl, rfl⟩
  rw [show mor 0 [49, 50, 51, 52] = 2615402659 from by decide +kernel]
  clear hr1
  go_wp2_with fail
  have hr2 := Rds.madeF u1 5 [53, 54, 55, 56, 57] #[.int .u8 53, .int .u8 54, .int .u8 55, .int .u8 56, .int .u8 57] (5, 6) rfl
  have hb2 : Below w.heap.size w (u1.alloc (.cells #[.int .u8 53, .int .u8 54, .int .u8 55, .int .u8 56, .int .u8 57] 5 (5, 6))) := hb1.alloc hb1.size _
  generalize u1.alloc (.cells #[.int .u8 53, .int .u8 54, .int .u8 55, .int .u8 56, .int .u8 57] 5 (5, 6)) = v2 at *
  refine (sum_any _ [53, 54, 55, 56, 57] 5 _ v2 (by decide) (by unfold Byt; decide) hr2).mono ?_
  rintro e u2 ⟨rfl, rfl⟩
  rw [show mor 0 [53, 54, 55, 56, 57] = 320708720 from by decide +kernel]
  clear hr2
  go_wp2_with fail
  refine (joined_any 2615402659 320708720 5 u2 (by decide) (by decide) (by decide)).mono ?_
  rintro e v3 ⟨rfl, hc3⟩
  have hb3 := hb2.trans (hc3.mono hb2.size)
  rw [show joiX 2615402659 320708720 5 = 3421780262 from by decide +kernel, show errN 5 = 0 from by decide]
  clear hc3
  go_wp2_with fail
  refine (zeros_any 0 1 v3 (by decide) (by decide)).mono ?_
  rintro e v4 ⟨rfl, hc4⟩
  have hb4 := hb3.trans (hc4.mono hb3.size)
  rw [show zerX 0 1 = 3523407757 from by decide +kernel, show errN 1 = 0 from by decide]
  clear hc4
  go_wp2_with fail
  refine (zeros_any 0 (-1) v4 (by decide) (by decide)).mono ?_
  rintro e v5 ⟨rfl, hc5⟩
  have hb5 := hb4.trans (hc5.mono hb4.size)
  rw [show zerX 0 (-1) = 0 from by decide +kernel, show errN (-1) = 2 from by decide]
  clear hc5
  go_wp2_with fail
  have hr6 := Rds.madeF v5 5 [49, 50, 51, 52, 53, 54, 55, 56, 48] #[.int .u8 49, .int .u8 50, .int .u8 51, .int .u8 52, .int .u8 53, .int .u8 54, .int .u8 55, .int .u8 56, .int .u8 48] (9, 10) rfl
  have hb6 : Below w.heap.size w (v5.alloc (.cells #[.int .u8 49, .int .u8 50, .int .u8 51, .int .u8 52, .int .u8 53, .int .u8 54, .int .u8 55, .int .u8 56, .int .u8 48] 5 (9, 10))) := hb5.alloc hb5.size _
  generalize v5.alloc (.cells #[.int .u8 49, .int .u8 50, .int .u8 51, .int .u8 52, .int .u8 53, .int .u8 54, .int .u8 55, .int .u8 56, .int .u8 48] 5 (9, 10)) = v6 at *
  refine (sum_any _ [49, 50, 51, 52, 53, 54, 55, 56, 48] 9 _ v6 (by decide) (by unfold Byt; decide) hr6).mono ?_
  rintro e u6 ⟨rfl, rfl⟩
  rw [show mor 0 [49, 50, 51, 52, 53, 54, 55, 56, 48] = 2988999042 from by decide +kernel]
  clear hr6
  go_wp2_with fail
  refine (changed_any 2988999042 48 57 8 9 u6 (by decide) (by decide) (by decide) (by decide) (by decide)).mono ?_
  rintro e v7 ⟨rfl, hc7⟩
  have hb7 := hb6.trans (hc7.mono hb6.size)
  rw [show chaX 2988999042 8 48 57 9 = 3421780262 from by decide +kernel, show errC 8 9 = 0 from by decide]
  clear hc7
  go_wp2_with fail
  refine (clives_any v7).mono ?_
  rintro e x1 ⟨rfl, hx1⟩
  have hy1 := hb7.trans (hx1.mono hb7.size)
  go_wp2_with fail
  refine (sum_any none [] 0 0 x1 (by decide) (by intro z hz; cases hz) Rds.nil_).mono ?_
  rintro e x2 ⟨rfl, rfl⟩
  rw [show mor 0 [] = 0 from by decide +kernel]
  go_wp2_with fail
  have hr8 := Rds.madeF x2 5 [0] #[.int .u8 0] (0, 0) rfl
  have hb8 : Below w.heap.size w (x2.alloc (.cells #[.int .u8 0] 5 (0, 0))) := hy1.alloc hy1.size _
  generalize x2.alloc (.cells #[.int .u8 0] 5) = v8 at *
  refine (sum_any _ [0] 1 _ v8 (by decide) (by unfold Byt; decide) hr8).mono ?_
  rintro e u8 ⟨rfl, rfl⟩
  rw [show mor 0 [0] = 3523407757 from by decide +kernel]
  clear hr8
  go_wp2
  go_ret
  exact ⟨rfl, hb8⟩

open Go.ChangeShapes Go.WideShapes Go.ChangeAt
set_option maxRecDepth 100000 in
theorem cnames_lifted (os : Os) (started : os.Started) (H : Type) (enc : TypeId × Value → H) :
    ReturnsInHanded {} Try.checked os 3 .any (Rows.crcNamesSpec.pre6 enc Try.prog Try.f3 Rows.crcNamesRow.domain false) (Rows.crcNamesSpec.post enc Try.prog Try.f3 false true false false) := by
  refine returnsInHanded_of_change_sized (C := Try.checked) own started (by kernel_rfl) Try.func3
    (ChangeSpec.witness6 (enc := enc) (C := Try.checked) false ⟨#[], #[], []⟩ 8 (by kernel_rfl) (by kernel_rfl) (by kernel_rfl) (by kernel_rfl)) ?_
  intro W base args ds gs before hval0 hW _ hsz0 _
  have hsz : (DataW.weightsEach Try.prog (Try.f3.params.toList ++ Rows.crcNamesSpec.plain.varTypes Try.prog) (ds ++ gs)).all (· ≤ reachBytes) = true := hsz0
  have hval : ∀ (j : Nat) t v, Try.f3.params[j]? = some t → args[j]? = some v → Value.okWide Try.prog W .any base t v := hval0
  have hW' := hW
  obtain ⟨p, q, hA0, hV, rfl, _, _⟩ := hW
  have hA : DataW.TrodAll enc Try.prog W 0 (fun _ => true) true Try.f3.params.toList args.toList ds p := hA0
  rw [Try.params3] at hA hval hsz
  obtain ⟨hargs, rfl, rfl⟩ := trodAll_nil hA
  obtain rfl : args = #[] := by cases args; simp_all
  exact law_close laid rfl hW' (by kernel_rfl) rfl Try.underlying4 rfl (cnames_walk _)

theorem crcNames_holds : Rows.CrcNamesSaid :=
  OpenClaim.holds_of_wide 3 Try.f3 rfl rfl rfl rfl rfl rfl rfl ⟨rfl, rfl, rfl, rfl, rfl⟩ rfl rfl rfl rfl rfl (by kernel_rfl) Try.func3 (by kernel_rfl)
    (of_decide_eq_true (by kernel_rfl)) (by unfold Func.isWrapper; first | (rw [if_pos (by decide +kernel)]; kernel_rfl) | (rw [if_neg (by decide +kernel)]; exact ⟨rfl, rfl⟩))
    (fun os started H enc _ => cnames_lifted os started H enc)

#print axioms crcNames_holds
end Go.Proofs.Ytnmnkkohfcbmfaa
