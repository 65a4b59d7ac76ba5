/- The walks over Zeros, Joined and Changed, the program's and the document's: both are what the plain steps tell. No condition but that the numbers are of their types. -/
import Derived.Test.YtnmnkkohfcbmfaaCArr2
import Derived.Test.YtnmnkkohfcbmfaaEnd
import Derived.Lib.SlBytesConst
namespace Go.Proofs.Ytnmnkkohfcbmfaa
open Go.RowKit
set_option linter.unusedVariables false

/-- The error's number where a count below 0 is handed in. -/
def errN (n : Int) : Int := if n < 0 then 2 else 0
def zerX (s : Nat) (n : Int) : Nat := if n < 0 then 0 else com (its (8 * n.toNat) (com s))
def joiX (a b : Nat) (n : Int) : Nat := if n < 0 then 0 else its (8 * n.toNat) a ^^^ b
def errC (at_ n : Int) : Int := if n < 1 ∨ at_ < 0 ∨ n ≤ at_ then 2 else 0
def chaX (s : Nat) (at_ : Int) (o c : Nat) (n : Int) : Nat := if n < 1 ∨ at_ < 0 ∨ n ≤ at_ then 0 else s ^^^ its (8 * (n - 1 - at_).toNat) (its 8 (o ^^^ c))

theorem zeros_any (s : Nat) (n : Int) (w : World) (hs : s < 4294967296) (hn : n ≤ 9223372036854775807) :
    Calls Try.prog 11 #[.int .u32 s, .int .i64 n] w fun e w' => e = .returned (.tuple #[.int .u32 (zerX s n : Nat), .int .i64 (errN n)]) ∧ Below w.heap.size w w' := by
  have hsg : IntKind.u32.signed = false := rfl
  by_cases h : n < 0
  · rw [show errN n = 2 from if_pos h, show zerX s n = 0 from if_pos h]
    go_enter Try.func11, Try.ntmps11
    go_wp2
    go_ret2
    exact ⟨rfl, Below.refl _ _⟩
  · rw [show errN n = 0 from if_neg h, show zerX s n = com (its (8 * n.toNat) (com s)) from if_neg h]
    obtain ⟨m, rfl⟩ : ∃ m : Nat, n = m := ⟨n.toNat, by omega⟩
    have h1 := not_key s hs
    have hl := its_lt (8 * m) (com_lt s)
    have h2 := not_key _ hl
    rw [Int.toNat_natCast]
    go_enter Try.func11, Try.ntmps11
    go_wp2_with (simp only [h1])
    refine (stepped_any (com s) m w (com_lt s) (by omega)).mono ?_
    rintro e w1 ⟨rfl, hb⟩
    go_wp2
    go_ret2
    exact ⟨rfl, hb⟩

theorem joined_any (a b : Nat) (n : Int) (w : World) (ha : a < 4294967296) (hb : b < 4294967296) (hn : n ≤ 9223372036854775807) :
    Calls Try.prog 9 #[.int .u32 a, .int .u32 b, .int .i64 n] w fun e w' => e = .returned (.tuple #[.int .u32 (joiX a b n : Nat), .int .i64 (errN n)]) ∧ Below w.heap.size w w' := by
  by_cases h : n < 0
  · rw [show errN n = 2 from if_pos h, show joiX a b n = 0 from if_pos h]
    go_enter Try.func9, Try.ntmps9
    go_wp2
    go_ret2
    exact ⟨rfl, Below.refl _ _⟩
  · rw [show errN n = 0 from if_neg h, show joiX a b n = its (8 * n.toNat) a ^^^ b from if_neg h]
    obtain ⟨m, rfl⟩ : ∃ m : Nat, n = m := ⟨n.toNat, by omega⟩
    have hl := its_lt (8 * m) ha
    have h2 := u32_xor_nat _ b hl hb
    rw [Int.toNat_natCast]
    go_enter Try.func9, Try.ntmps9
    go_wp2_with fail
    refine (stepped_any a m w ha (by omega)).mono ?_
    rintro e w1 ⟨rfl, hbb⟩
    go_wp2
    go_ret2
    exact ⟨rfl, hbb⟩

set_option maxHeartbeats 800000 in
theorem changed_any (s o c : Nat) (at_ n : Int) (w : World) (hs : s < 4294967296) (ho : o < 256) (hc : c < 256) (hn : n ≤ 9223372036854775807) (hn0 : -9223372036854775808 ≤ n) :
    Calls Try.prog 12 #[.int .u32 s, .int .i64 at_, .int .u8 o, .int .u8 c, .int .i64 n] w fun e w' => e = .returned (.tuple #[.int .u32 (chaX s at_ o c n : Nat), .int .i64 (errC at_ n)]) ∧ Below w.heap.size w w' := by
  by_cases h : n < 1 ∨ at_ < 0 ∨ n ≤ at_
  · rw [show errC at_ n = 2 from if_pos h, show chaX s at_ o c n = 0 from if_pos h]
    rcases (show n < 1 ∨ (1 ≤ n ∧ at_ < 0) ∨ (1 ≤ n ∧ 0 ≤ at_ ∧ n ≤ at_) by omega) with h1 | ⟨h1, h2⟩ | ⟨h1, h2, h3⟩
    · clear h
      go_enter Try.func12, Try.ntmps12
      go_wp2
      go_ret2
      exact ⟨rfl, Below.refl _ _⟩
    · clear h
      go_enter Try.func12, Try.ntmps12
      go_wp2
      go_ret2
      exact ⟨rfl, Below.refl _ _⟩
    · clear h
      go_enter Try.func12, Try.ntmps12
      go_wp2
      go_ret2
      exact ⟨rfl, Below.refl _ _⟩
  · rw [show errC at_ n = 0 from if_neg h, show chaX s at_ o c n = s ^^^ its (8 * (n - 1 - at_).toNat) (its 8 (o ^^^ c)) from if_neg h]
    have h1 : 1 ≤ n := by omega
    have h2 : 0 ≤ at_ := by omega
    have h3 : at_ < n := by omega
    clear h
    obtain ⟨m, hm⟩ : ∃ m : Nat, n - 1 - at_ = m := ⟨(n - 1 - at_).toNat, by omega⟩
    have hd : mor 0 [(o : Int)] ^^^ mor 0 [(c : Int)] = its 8 (o ^^^ c) := mor_two (by omega) (by omega)
    have hx := u32_xor_nat _ _ (mor_lt 0 [(o : Int)]) (mor_lt 0 [(c : Int)])
    rw [hd] at hx
    have hdl : its 8 (o ^^^ c) < 4294967296 := its_lt 8 (xlt (by omega) (by omega))
    have hl := its_lt (8 * m) hdl
    have h4 := u32_xor_nat s _ hs hl
    rw [hm, Int.toNat_natCast]
    generalize its 8 (o ^^^ c) = D at *
    clear hd
    go_enter Try.func12, Try.ntmps12
    go_wp2_with fail
    have hr1 := Rds.made w 5 [(o : Int)] #[.int .u8 o] rfl
    have hb1 : Below w.heap.size w (w.alloc (.cells #[.int .u8 o] 5)) := (Below.refl _ _).alloc (Nat.le_refl _) _
    generalize w.alloc (.cells #[.int .u8 o] 5) = w1 at *
    refine (sum_any _ [(o : Int)] 1 _ w1 (by simp) (by intro z hz; simp at hz; omega) hr1).mono ?_
    rintro e w2 ⟨rfl, rfl⟩
    go_wp2_with fail
    have hr2 := Rds.made w2 5 [(c : Int)] #[.int .u8 c] rfl
    have hb2 := hb1.alloc hb1.size (.cells #[.int .u8 c] 5)
    generalize w2.alloc (.cells #[.int .u8 c] 5) = w3 at *
    refine (sum_any _ [(c : Int)] 1 _ w3 (by simp) (by intro z hz; simp at hz; omega) hr2).mono ?_
    rintro e w4 ⟨rfl, rfl⟩
    go_wp2_with fail
    refine (stepped_any D m w4 hdl (by omega)).mono ?_
    rintro e w5 ⟨rfl, hb5⟩
    go_wp2
    go_ret2
    exact ⟨rfl, hb2.trans (hb5.mono hb2.size)⟩

theorem refZeros_any (s : Nat) (n : Int) (w : World) (hs : s < 4294967296) (hn : n ≤ 9223372036854775807) :
    Calls Try.prog 19 #[.int .u32 s, .int .i64 n] w fun e w' => e = .returned (.tuple #[.int .u32 (zerX s n : Nat), .int .i64 (errN n)]) ∧ w' = w := by
  have hsg : IntKind.u32.signed = false := rfl
  by_cases h : n < 0
  · rw [show errN n = 2 from if_pos h, show zerX s n = 0 from if_pos h]
    go_enter Try.func19, Try.ntmps19
    go_wp2
    go_ret2
    exact ⟨rfl, rfl⟩
  · rw [show errN n = 0 from if_neg h, show zerX s n = com (its (8 * n.toNat) (com s)) from if_neg h]
    obtain ⟨m, rfl⟩ : ∃ m : Nat, n = m := ⟨n.toNat, by omega⟩
    have h1 := not_key s hs
    have hl := its_lt (8 * m) (com_lt s)
    have h2 := not_key _ hl
    have hp := prod_its (8 * m) (com s) (com_lt s)
    rw [Int.toNat_natCast]
    go_enter Try.func19, Try.ntmps19
    go_wp2_with (simp only [h1])
    refine (power_any m w (by omega)).mono ?_
    rintro e w1 ⟨rfl, rfl⟩
    go_wp2_with fail
    refine (product_any (com s) _ w1 (com_lt s) (its_lt _ (by decide))).mono ?_
    rintro e w2 ⟨rfl, rfl⟩
    rw [hp]
    go_wp2
    go_ret2
    exact ⟨rfl, rfl⟩

theorem refJoined_any (a b : Nat) (n : Int) (w : World) (ha : a < 4294967296) (hb : b < 4294967296) (hn : n ≤ 9223372036854775807) :
    Calls Try.prog 20 #[.int .u32 a, .int .u32 b, .int .i64 n] w fun e w' => e = .returned (.tuple #[.int .u32 (joiX a b n : Nat), .int .i64 (errN n)]) ∧ w' = w := by
  by_cases h : n < 0
  · rw [show errN n = 2 from if_pos h, show joiX a b n = 0 from if_pos h]
    go_enter Try.func20, Try.ntmps20
    go_wp2
    go_ret2
    exact ⟨rfl, rfl⟩
  · rw [show errN n = 0 from if_neg h, show joiX a b n = its (8 * n.toNat) a ^^^ b from if_neg h]
    obtain ⟨m, rfl⟩ : ∃ m : Nat, n = m := ⟨n.toNat, by omega⟩
    have hl := its_lt (8 * m) ha
    have h2 := u32_xor_nat _ b hl hb
    have hp := prod_its (8 * m) a ha
    rw [Int.toNat_natCast]
    go_enter Try.func20, Try.ntmps20
    go_wp2_with fail
    refine (power_any m w (by omega)).mono ?_
    rintro e w1 ⟨rfl, rfl⟩
    go_wp2_with fail
    refine (product_any a _ w1 ha (its_lt _ (by decide))).mono ?_
    rintro e w2 ⟨rfl, rfl⟩
    rw [hp]
    go_wp2
    go_ret2
    exact ⟨rfl, rfl⟩

set_option maxHeartbeats 800000 in
set_option maxRecDepth 1000000 in
theorem refChanged_any (s o c : Nat) (at_ n : Int) (w : World) (hs : s < 4294967296) (ho : o < 256) (hc : c < 256) (hn : n ≤ 9223372036854775807) (hn0 : -9223372036854775808 ≤ n) :
    Calls Try.prog 21 #[.int .u32 s, .int .i64 at_, .int .u8 o, .int .u8 c, .int .i64 n] w fun e w' => e = .returned (.tuple #[.int .u32 (chaX s at_ o c n : Nat), .int .i64 (errC at_ n)]) ∧ w' = w := by
  by_cases h : n < 1 ∨ at_ < 0 ∨ n ≤ at_
  · rw [show errC at_ n = 2 from if_pos h, show chaX s at_ o c n = 0 from if_pos h]
    rcases (show n < 1 ∨ (1 ≤ n ∧ at_ < 0) ∨ (1 ≤ n ∧ 0 ≤ at_ ∧ n ≤ at_) by omega) with h1 | ⟨h1, h2⟩ | ⟨h1, h2, h3⟩
    all_goals (clear h; go_enter Try.func21, Try.ntmps21; go_wp2; go_ret2; exact ⟨rfl, rfl⟩)
  · rw [show errC at_ n = 0 from if_neg h, show chaX s at_ o c n = s ^^^ its (8 * (n - 1 - at_).toNat) (its 8 (o ^^^ c)) from if_neg h]
    have h1 : 1 ≤ n := by omega
    have h2 : 0 ≤ at_ := by omega
    have h3 : at_ < n := by omega
    clear h
    obtain ⟨m, hm⟩ : ∃ m : Nat, n - 1 - at_ = m := ⟨(n - 1 - at_).toNat, by omega⟩
    have hx := u8_xor_nat o c ho hc
    have hD : o ^^^ c < 256 := Nat.xor_lt_two_pow (n := 8) ho hc
    have hD' : ((o ^^^ c : Nat) : Int) < 256 := by omega
    have hdl : its 8 (o ^^^ c) < 4294967296 := its_lt 8 (by omega)
    have hl := its_lt (8 * m) hdl
    have h4 := u32_xor_nat s _ hs hl
    have hp := prod_its (8 * m) _ hdl
    have HM := Lib.hid hm
    rw [hm, Int.toNat_natCast]
    generalize o ^^^ c = D at *
    go_enter Try.func21, Try.ntmps21
    go_wp2_with (simp only [hx])
    go_loop [12, 13] (fun x i => ∃ (j Y : Nat), j ≤ 8 ∧ i = .int .i64 j ∧ x = .int .u32 Y ∧ Y = its j D) (fun _ i => 8 - (intOf i).toNat)
    case atStart => exact ⟨0, _, by omega, rfl, rfl, rfl⟩
    case round =>
      obtain ⟨j, Y, hj, rfl, rfl, hY2⟩ := hrel
      have hYl : Y < 4294967296 := by rw [hY2]; exact its_lt _ (by omega)
      have HY := Lib.hid hY2
      clear hY2 hx
      by_cases hj8 : j < 8
      · go_wp2_with fail
        refine (times_any Y w hYl).mono ?_
        rintro e w1 ⟨rfl, rfl⟩
        go_wp2
        go_round
        case rel => exact ⟨j + 1, _, by omega, by go_num, rfl, by rw [its_next, ← HY.out]⟩
        case measure => simp [intOf] <;> omega
      · obtain rfl : j = 8 := by omega
        obtain rfl : Y = its 8 D := HY.out
        go_wp2_with (simp only [hm])
        refine (power_any m w (by omega)).mono ?_
        rintro e w1 ⟨rfl, rfl⟩
        go_wp2_with fail
        refine (product_any (its 8 D) _ w1 hdl (its_lt _ (by decide))).mono ?_
        rintro e w2 ⟨rfl, rfl⟩
        rw [hp]
        go_wp2
        go_ret2
        exact ⟨rfl, rfl⟩

theorem conv_same (w : World) (C : Array Value) (n c : Nat) : (convert 27 27 (.slice (some ⟨w.heap.size, 0, none⟩) n c)).run Try.prog (w.alloc (.cells C 5)) = .ok (.slice (some ⟨w.heap.size, 0, none⟩) n c) (w.alloc (.cells C 5 (C.size, C.size + 1))) :=
  Lib.run_convert_bytes_const w 27 5 C n c Try.underlying27 Try.underlying5

theorem Rds.madeF (w : World) (t : TypeId) (zs : List Int) (cs : Array Value) (fr : Nat × Nat) (h : cs.toList = c8 zs) : Rds (w.alloc (.cells cs t fr)) (w.heap.size + 1) (some ⟨w.heap.size, 0, none⟩) (c8 zs) := by
  intro _
  refine ⟨_, rfl, by simp, fun j u hu => ?_⟩
  have hadd : (⟨w.heap.size, 0, none⟩ : Addr).add j = ⟨w.heap.size, j, none⟩ := by unfold Addr.add; split <;> simp_all
  rw [hadd, cell_of_row _ _ j cs t fr (heap_alloc_new w _), ← hu, ← h]
  simp

end Go.Proofs.Ytnmnkkohfcbmfaa
