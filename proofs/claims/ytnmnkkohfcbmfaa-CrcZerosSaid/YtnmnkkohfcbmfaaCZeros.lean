/- Zeros in a row can be turned over at one go, however many: for every sum, and all numbers. No condition. -/
import Derived.Test.YtnmnkkohfcbmfaaCLives
import Derived.Test.YtnmnkkohfcbmfaaCPick
namespace Go.Proofs.Ytnmnkkohfcbmfaa
open Go.RowKit Go.Lib
set_option linter.unusedVariables false

theorem zerX_nat (s n : Nat) : zerX s n = com (its (8 * n) (com s)) := by
  unfold zerX
  rw [if_neg (by omega), Int.toNat_natCast]

set_option maxHeartbeats 3200000 in
set_option maxRecDepth 1000000 in
theorem zeros_walk (x n m : Int) (w : World) (hx : 0 ≤ x ∧ x ≤ 4294967295) (hn : -9223372036854775808 ≤ n ∧ n ≤ 9223372036854775807) (hm : -9223372036854775808 ≤ m ∧ m ≤ 9223372036854775807) :
    Calls Try.prog 7 #[.int .u32 x, .int .i64 n, .int .i64 m] w fun e w' => e = .returned (.bool true) ∧ Below w.heap.size w w' := by
  obtain ⟨X, rfl⟩ : ∃ X : Nat, x = X := ⟨x.toNat, by omega⟩
  have hX : X < 4294967296 := by omega
  have hB := Nat.le_refl w.heap.size
  have HN := Lib.hid hn
  have HM := Lib.hid hm
  obtain ⟨i0, hi, hz0, hz1, hz2⟩ := info_parts info8
  have HI := Lib.hid hi
  have HI0 := Lib.hid hz0
  have HI1 := Lib.hid hz1
  have HI2 := Lib.hid hz2
  clear hx hn hm hi hz0 hz1 hz2
  go_enter Try.func7, Try.ntmps7
  go_wp2_with fail
  refine (clives_any _).mono ?_
  rintro e w1 ⟨rfl, hb1⟩
  go_wp2_with fail
  refine (pick_any n 2305843009213693952 w1 (by decide) (by decide) HN.out).mono ?_
  rintro e w2 ⟨⟨N, rfl, hN⟩, rfl⟩
  go_wp2_with fail
  refine (pick_any m 2305843009213693952 w2 (by decide) (by decide) HM.out).mono ?_
  rintro e w3 ⟨⟨M, rfl, hM⟩, rfl⟩
  go_wp2_with fail
  refine (zeros_any X N w3 hX (by omega)).mono ?_
  rintro e w4 ⟨rfl, hb4'⟩
  rw [show errN (N : Int) = 0 from if_neg (by omega)]
  have hb4 := belowGo hb1 hB hb4'
  have hA : zerX X N < 4294967296 := by rw [zerX_nat]; exact com_lt _
  have HA := Lib.hid (zerX_nat X N)
  clear hb1 hb4'
  generalize zerX X N = S at *
  go_wp2_with fail
  refine (zeros_any S M w4 hA (by omega)).mono ?_
  rintro e w5 ⟨rfl, hb5'⟩
  rw [show errN (M : Int) = 0 from if_neg (by omega)]
  have hb5 := belowGo hb4 hB hb5'
  have HS := Lib.hid (zerX_nat S M)
  clear hb4 hb5'
  generalize zerX S M = S2 at *
  have hNM : (N : Int) + (M : Int) ≤ 4611686018427387904 := by omega
  go_wp2_with fail
  refine (zeros_any X ((N : Int) + (M : Int)) w5 hX (by omega)).mono ?_
  rintro e w6 ⟨rfl, hb6'⟩
  rw [show errN ((N : Int) + (M : Int)) = 0 from if_neg (by omega)]
  have hb6 := belowGo hb5 hB hb6'
  have h2 : zerX X ((N : Int) + (M : Int)) = S2 := by
    rw [show (N : Int) + (M : Int) = ((N + M : Nat) : Int) by omega, zerX_nat, HS.out, HA.out, com_com (its_lt _ (com_lt _)), ← its_add, ← Nat.mul_add]
  rw [h2]
  clear hb5 hb6' h2
  go_wp2_with fail
  refine (pick_any (N : Int) 100 w6 (by decide) (by decide) ⟨by omega, by omega⟩).mono ?_
  rintro e w7 ⟨⟨K, rfl, hK⟩, rfl⟩
  go_wp2_with fail
  refine (zeros_any X K w7 hX (by omega)).mono ?_
  rintro e w8 ⟨rfl, hb8'⟩
  rw [show errN (K : Int) = 0 from if_neg (by omega)]
  have hb8 := belowGo hb6 hB hb8'
  have hz := zerX_nat X K
  rw [← mor_zeros] at hz
  rw [hz]
  clear hb6 hb8' hz
  obtain ⟨w9, hrun, hown, hgr⟩ := run_make_full (P := Try.prog) w8 w8.heap.size 27 5 i0 (.int .u8 0) 1 Try.underlying27 HI.out HI0.out HI1.out .i64 .i64 K (by rw [HI2.out]; omega) (by unfold maxLen; omega) (Nat.le_refl _)
  have hb9' : Below w8.heap.size w8 w9 := (Below.refl _ _).grown hgr (Nat.le_refl _) (by simp)
  have hw9 := own_whole hown
  rw [show (madeCells (Value.int .u8 0).cells (K * 1)).toList = c8 (List.replicate K 0) by rw [show (Value.int .u8 0).cells = #[.int .u8 0] from rfl, made1]; simp [c8]] at hw9
  have hr9 := Whole.reads hw9
  have hb9 := belowGo hb8 hB hb9'
  clear hown hgr hb8 hb9' hw9
  have hmk : ∀ z ∈ List.replicate K (0 : Int), 0 ≤ z ∧ z ≤ 255 := by
    intro z hz
    rw [List.eq_of_mem_replicate hz]
    decide
  have hlen : (List.replicate K (0 : Int)).length = K := List.length_replicate
  have hmo := more_any X (some ⟨w8.heap.size, 0, none⟩) (List.replicate K 0) K w9.heap.size w9 hX (by rw [hlen]; omega) hmk hr9
  rw [hlen] at hmo
  clear hmk hlen hr9
  generalize mor X (List.replicate K 0) = R at *
  have HMO := Lib.hid hmo
  clear hmo
  go_wp2_with fail
  refine HMO.out.mono ?_
  rintro e w10 ⟨rfl, rfl⟩
  go_wp2
  go_ret
  exact ⟨rfl, hb9⟩

open Go.ChangeShapes Go.WideShapes Go.ChangeAt
set_option maxRecDepth 100000 in
theorem czeros_lifted (os : Os) (started : os.Started) (H : Type) (enc : TypeId × Value → H) :
    ReturnsInHanded {} Try.checked os 7 .any (Rows.crcZerosSpec.pre6 enc Try.prog Try.f7 Rows.crcZerosRow.domain false) (Rows.crcZerosSpec.post enc Try.prog Try.f7 false true false false) := by
  refine returnsInHanded_of_change_sized (C := Try.checked) own started (by kernel_rfl) Try.func7
    (ChangeSpec.witness6 (enc := enc) (C := Try.checked) false ⟨#[], #[.int .u32 0, .int .i64 0, .int .i64 0], []⟩ 8 (by kernel_rfl) (by kernel_rfl) (by kernel_rfl) (by kernel_rfl)) ?_
  intro W base args ds gs before hval0 hW _ hsz0 _
  have hsz : (DataW.weightsEach Try.prog (Try.f7.params.toList ++ Rows.crcZerosSpec.plain.varTypes Try.prog) (ds ++ gs)).all (· ≤ reachBytes) = true := hsz0
  have hval : ∀ (j : Nat) t v, Try.f7.params[j]? = some t → args[j]? = some v → Value.okWide Try.prog W .any base t v := hval0
  have hW' := hW
  obtain ⟨p, q, hA0, hV, rfl, _, _⟩ := hW
  have hA : DataW.TrodAll enc Try.prog W 0 (fun _ => true) true Try.f7.params.toList args.toList ds p := hA0
  rw [Try.params7] at hA hval hsz
  obtain ⟨v0, vs0, d0, ds0, p0, q0, hargs, rfl, rfl, h0, r0⟩ := trodAll_cons hA
  obtain ⟨v1, vs1, d1, ds1, p1, q1, rfl, rfl, rfl, h1, r1⟩ := trodAll_cons r0
  obtain ⟨v2, vs2, d2, ds2, p2, q2, rfl, rfl, rfl, h2, r2⟩ := trodAll_cons r1
  obtain ⟨rfl, rfl, rfl⟩ := trodAll_nil r2
  obtain rfl : args = #[v0, v1, v2] := by cases args; simp_all
  obtain ⟨a0, rfl, rfl, rfl, w0⟩ := open_int Try.underlying22 (hval 0 22 v0 rfl rfl) h0
  have b0 := bounds_u32 w0
  obtain ⟨a1, rfl, rfl, rfl, w1⟩ := open_int Try.underlying3 (hval 1 3 v1 rfl rfl) h1
  have b1 := bounds_i64 w1
  obtain ⟨a2, rfl, rfl, rfl, w2⟩ := open_int Try.underlying3 (hval 2 3 v2 rfl rfl) h2
  have b2 := bounds_i64 w2
  exact law_close laid rfl hW' (by kernel_rfl) rfl Try.underlying4 rfl (zeros_walk a0 a1 a2 W b0 b1 b2)

theorem crcZeros_holds : Rows.CrcZerosSaid :=
  OpenClaim.holds_of_wide 7 Try.f7 rfl rfl rfl rfl rfl rfl rfl ⟨rfl, rfl, rfl, rfl, rfl⟩ rfl rfl rfl rfl rfl (by kernel_rfl) Try.func7 (by kernel_rfl)
    (of_decide_eq_true (by kernel_rfl)) (by unfold Func.isWrapper; first | (rw [if_pos (by decide +kernel)]; kernel_rfl) | (rw [if_neg (by decide +kernel)]; exact ⟨rfl, rfl⟩))
    (fun os started H enc _ => czeros_lifted os started H enc)

#print axioms crcZeros_holds
end Go.Proofs.Ytnmnkkohfcbmfaa
