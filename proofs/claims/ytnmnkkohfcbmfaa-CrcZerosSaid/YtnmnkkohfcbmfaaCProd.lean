/- The walks over the document's product and power: steps told by what they make of the highest bit. No condition but that the numbers are of their types. -/
import Derived.Test.YtnmnkkohfcbmfaaCStep
namespace Go.Proofs.Ytnmnkkohfcbmfaa
open Go.RowKit
set_option linter.unusedVariables false

set_option maxHeartbeats 800000 in
theorem product_any (s b : Nat) (w : World) (hs : s < 4294967296) (hb : b < 4294967296) :
    Calls Try.prog 26 #[.int .u32 s, .int .u32 b] w fun e w' => e = .returned (.int .u32 (prod s b)) ∧ w' = w := by
  go_enter Try.func26, Try.ntmps26
  go_wp2
  go_loop [1, 5, 6] (fun x o i => ∃ (k X O : Nat), k ≤ 32 ∧ i = .int .i64 ((k : Int) - 1) ∧ x = .int .u32 X ∧ o = .int .u32 O ∧ X < 4294967296 ∧ O < 4294967296 ∧ X = its (32 - k) b ∧ O ^^^ part (fun j => its (31 - j) b) s k = prod s b) (fun _ _ i => (intOf i + 1).toNat)
  case atStart => exact ⟨32, b, 0, by omega, rfl, rfl, rfl, hb, by omega, rfl, by rw [Nat.zero_xor]; rfl⟩
  case round =>
    obtain ⟨k, X, O, hk, rfl, rfl, rfl, hX, hO, hX2, hO2⟩ := hrel
    have HX := Lib.hid hX2
    have HO := Lib.hid hO2
    clear hX2 hO2
    cases k with
    | zero =>
      go_wp2
      go_ret
      refine ⟨?_, rfl⟩
      have h := HO.out
      unfold part at h
      rw [Nat.xor_zero] at h
      rw [← h]
      rfl
    | succ k =>
      have hk1 : ((k + 1 : Nat) : Int) - 1 = k := by omega
      rw [hk1]
      have hx := u32_xor_nat O X hO hX
      have hm := bit_key s k hs
      rcases Nat.mod_two_eq_zero_or_one (s / 2 ^ k) with hbit | hbit
      · rw [hbit] at hm
        have HB := Lib.hid hbit
        clear hbit
        go_wp2_with (simp only [hm])
        refine (times_any X w hX).mono ?_
        rintro e w1 ⟨rfl, rfl⟩
        go_wp2
        go_round
        case rel =>
          refine ⟨k, _, O, by omega, by go_num, rfl, rfl, stp_lt hX, hO, ?_, ?_⟩
          · rw [HX.out, ← its_next, show 32 - (k + 1) + 1 = 32 - k by omega]
          · have h := HO.out
            have hb2 := HB.out
            have hx2 := HX.out
            rw [show 32 - (k + 1) = 31 - k by omega] at hx2
            unfold part at h
            rw [if_neg (by rw [hb2]; decide), Nat.xor_zero] at h
            exact h
        case measure => simp [intOf] <;> omega
      · rw [hbit] at hm
        have HB := Lib.hid hbit
        clear hbit
        go_wp2_with (simp only [hm, hx])
        refine (times_any X w hX).mono ?_
        rintro e w1 ⟨rfl, rfl⟩
        go_wp2
        go_round
        case rel =>
          refine ⟨k, _, O ^^^ X, by omega, by go_num, rfl, rfl, stp_lt hX, xlt hO hX, ?_, ?_⟩
          · rw [HX.out, ← its_next, show 32 - (k + 1) + 1 = 32 - k by omega]
          · have h := HO.out
            have hb2 := HB.out
            have hx2 := HX.out
            rw [show 32 - (k + 1) = 31 - k by omega] at hx2
            unfold part at h
            rw [if_pos hb2, ← hx2, Nat.xor_comm (part _ s k), ← Nat.xor_assoc] at h
            exact h
        case measure => simp [intOf] <;> omega

set_option maxHeartbeats 800000 in
theorem power_any (n : Nat) (w : World) (hn : n ≤ 9223372036854775807) :
    Calls Try.prog 27 #[.int .i64 n] w fun e w' => e = .returned (.int .u32 (its (8 * n) 2147483648)) ∧ w' = w := by
  go_enter Try.func27, Try.ntmps27
  go_wp2
  go_loop [0, 3, 4] (fun m o q => ∃ (k a j : Nat), m = .int .i64 k ∧ k ≤ n ∧ o = .int .u32 (its a 2147483648) ∧ q = .int .u32 (its j 2147483648) ∧ a + j * k = 8 * n) (fun m _ _ => (intOf m).toNat)
  case atStart => exact ⟨n, 0, 8, rfl, Nat.le_refl _, rfl, by rfl, by omega⟩
  case round =>
    obtain ⟨k, a, j, rfl, hk, rfl, rfl, hS⟩ := hrel
    have HS := Lib.hid hS
    clear hS
    have ho : its a 2147483648 < 4294967296 := its_lt _ (by decide)
    have hq : its j 2147483648 < 4294967296 := its_lt _ (by decide)
    have h1 := prod_its j (its a 2147483648) ho
    have h2 := prod_its j (its j 2147483648) hq
    rw [← its_add] at h1 h2
    have H1 := Lib.hid h1
    have H2 := Lib.hid h2
    clear h1 h2
    generalize hO : its a 2147483648 = O at *
    generalize hQ : its j 2147483648 = Q at *
    have HO := Lib.hid hO
    have HQ := Lib.hid hQ
    clear hO hQ
    by_cases hk0 : 0 < k
    · rcases Nat.mod_two_eq_zero_or_one k with hbit | hbit
      · have hbi : (k : Int) % 2 = 0 := by omega
        have HB := Lib.hid hbit
        clear hbit
        go_wp2_with fail
        refine (product_any Q Q w hq hq).mono ?_
        rintro e w1 ⟨rfl, rfl⟩
        go_wp2
        go_round
        case rel =>
          refine ⟨k / 2, a, j + j, by go_num, by omega, by rw [← HO.out], by rw [H2.out], ?_⟩
          rw [← HS.out, ← Nat.mul_two, Nat.mul_assoc, show 2 * (k / 2) = k by have := HB.out; omega]
        case measure => simp [intOf] <;> omega
      · have hbi : (k : Int) % 2 = 1 := by omega
        have HB := Lib.hid hbit
        clear hbit
        go_wp2_with fail
        refine (product_any O Q w ho hq).mono ?_
        rintro e w1 ⟨rfl, rfl⟩
        go_wp2_with fail
        refine (product_any Q Q w1 hq hq).mono ?_
        rintro e w2 ⟨rfl, rfl⟩
        go_wp2
        go_round
        case rel =>
          refine ⟨k / 2, a + j, j + j, by go_num, by omega, by rw [H1.out], by rw [H2.out], ?_⟩
          have h := HB.out
          rw [← HS.out, ← Nat.mul_two, Nat.mul_assoc, show 2 * (k / 2) = k - 1 by omega, Nat.add_assoc]
          congr 1
          obtain ⟨m, rfl⟩ : ∃ m, k = m + 1 := ⟨k - 1, by omega⟩
          rw [Nat.mul_add, Nat.add_sub_cancel, Nat.mul_one, Nat.add_comm]
        case measure => simp [intOf] <;> omega
    · obtain rfl : k = 0 := by omega
      have hfin : O = its (8 * n) 2147483648 := by rw [← HO.out, ← HS.out]; simp
      go_wp2
      go_ret
      exact ⟨by rw [← hfin]; rfl, rfl⟩

end Go.Proofs.Ytnmnkkohfcbmfaa
