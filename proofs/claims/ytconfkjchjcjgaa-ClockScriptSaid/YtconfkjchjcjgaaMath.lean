/- Plain mathematics of numbers as bytes: the digits of a number, and what is read from bytes. No program is named here. -/
import Derived.WalkKit
import Derived.Laws.Bits64b
import Derived.Laws.BitsLemmas
import Derived.IntWalk
namespace Go.Proofs.Ytconfkjchjcjgaa

/-- the digits of x to the base 128, the lowest first, 128 added to all but the last: at most k + 1 of them -/
def encF : Nat → Int → List Int
  | 0, x => [x]
  | k + 1, x => if x < 128 then [x] else (x % 128 + 128) :: encF k (x / 128)
def enc (x : Int) : List Int := encF 9 x

theorem encF_more : ∀ (k : Nat) (x : Int), 0 ≤ x → x < 128 ^ (k + 1) → encF (k + 1) x = encF k x
  | 0, x, h0, h1 => by
    have : x < 128 := by simpa using h1
    simp [encF, this]
  | k + 1, x, h0, h1 => by
    have e : encF (k + 1 + 1) x = if x < 128 then [x] else (x % 128 + 128) :: encF (k + 1) (x / 128) := rfl
    rw [e]
    have e2 : encF (k + 1) x = if x < 128 then [x] else (x % 128 + 128) :: encF k (x / 128) := rfl
    rw [e2]
    by_cases hx : x < 128
    · simp [hx]
    · rw [if_neg hx, if_neg hx, encF_more k (x / 128) (by omega) (by
        have : x < 128 ^ (k + 1) * 128 := by rw [← Int.pow_succ]; exact h1
        omega)]
theorem encF_length : ∀ (k : Nat) (x : Int), (encF k x).length ≤ k + 1
  | 0, x => by simp [encF]
  | k + 1, x => by
    unfold encF
    split
    · simp
    · have := encF_length k (x / 128); simp; omega
theorem encF_pos : ∀ (k : Nat) (x : Int), 1 ≤ (encF k x).length
  | 0, x => by simp [encF]
  | k + 1, x => by unfold encF; split <;> simp
theorem enc_length (x : Int) : (enc x).length ≤ 10 := encF_length 9 x
theorem enc_pos (x : Int) : 1 ≤ (enc x).length := encF_pos 9 x
theorem enc_small {x : Int} (h : x < 128) : enc x = [x] := by simp [enc, encF, h]
theorem enc_step {x : Int} (h : 128 ≤ x) (h1 : x ≤ 18446744073709551615) : enc x = (x % 128 + 128) :: enc (x / 128) := by
  have e : encF 9 x = if x < 128 then [x] else (x % 128 + 128) :: encF 8 (x / 128) := rfl
  show encF 9 x = _ :: encF 9 (x / 128)
  rw [e, if_neg (by omega), encF_more 8 (x / 128) (by omega) (by omega)]
theorem encF_range : ∀ (k : Nat) (x : Int), 0 ≤ x → x < 256 * 128 ^ k → ∀ z ∈ encF k x, 0 ≤ z ∧ z ≤ 255
  | 0, x, h0, h1, z, hz => by simp [encF] at hz; subst hz; simp at h1; omega
  | k + 1, x, h0, h1, z, hz => by
    unfold encF at hz
    split at hz
    · simp at hz; omega
    · rcases List.mem_cons.1 hz with rfl | hz
      · omega
      · refine encF_range k (x / 128) (by omega) ?_ z hz
        have : x < 256 * 128 ^ k * 128 := by
          have e : (256 : Int) * 128 ^ (k + 1) = 256 * 128 ^ k * 128 := by rw [Int.pow_succ, Int.mul_assoc]
          omega
        omega
theorem enc_range {x : Int} (h : 0 ≤ x) (h1 : x ≤ 18446744073709551615) : ∀ z ∈ enc x, 0 ≤ z ∧ z ≤ 255 := encF_range 9 x h (by omega)

theorem or128 : ∀ m : Fin 256, (m.val ||| 128) = m.val % 128 + 128 := by decide +kernel
/-- the byte of a digit that is not the last -/
theorem or_digit (x : Int) : Go.bits .or .u8 (x % 256) 128 = x % 128 + 128 := by
  obtain ⟨n, hn⟩ := Int.eq_ofNat_of_zero_le (show 0 ≤ x % 256 by omega)
  have hb : n < 256 := by omega
  rw [hn, show (128 : Int) = ((128 : Nat) : Int) from rfl, (bits_nat .u8 8 (by decide) wraps_u8 n 128 (by omega) (by decide)).2, or128 ⟨n, hb⟩]
  show ((n % 128 + 128 : Nat) : Int) = _
  omega

/-- what ReadUint tells of bytes, from the place i on, with x read so far: the number, how many bytes it has, the error -/
def dec : Int → Nat → List Int → Int × Int × Int
  | _, _, [] => (0, 0, 4)
  | x, i, d :: r =>
    if i = 9 ∧ d ≠ 1 then (0, 0, 5)
    else if 128 ≤ d then dec (x + d % 128 * 2 ^ (7 * i)) (i + 1) r
    else if d = 0 ∧ 0 < i then (0, 0, 5)
    else (x + d % 128 * 2 ^ (7 * i), i + 1, 0)
/-- the same, as the machine reckons it -/
def decR : Int → Nat → List Int → Int × Int × Int
  | _, _, [] => (0, 0, 4)
  | x, i, d :: r =>
    if i = 9 ∧ d ≠ 1 then (0, 0, 5)
    else if 128 ≤ d then decR (Go.bits .or .u64 x (IntKind.u64.wrap (d % 128 * 2 ^ (7 * i)))) (i + 1) r
    else if d = 0 ∧ 0 < i then (0, 0, 5)
    else (Go.bits .or .u64 x (IntKind.u64.wrap (d % 128 * 2 ^ (7 * i))), i + 1, 0)

theorem or_add (x t : Int) (i : Nat) (hi : 7 * i ≤ 63) (hx0 : 0 ≤ x) (hx : x < 2 ^ (7 * i)) (ht0 : 0 ≤ t) (ht : t * 2 ^ (7 * i) ≤ 18446744073709551615) :
    Go.bits .or .u64 x (IntKind.u64.wrap (t * 2 ^ (7 * i))) = x + t * 2 ^ (7 * i) := by
  obtain ⟨a, rfl⟩ := Int.eq_ofNat_of_zero_le hx0
  obtain ⟨b, rfl⟩ := Int.eq_ofNat_of_zero_le ht0
  have hcast : ((2 ^ (7 * i) : Nat) : Int) = 2 ^ (7 * i) := by simp
  have ha : a < 2 ^ (7 * i) := by rw [← hcast] at hx; exact_mod_cast hx
  have hp : 2 ^ (7 * i) ≤ 2 ^ 63 := Nat.pow_le_pow_right (by decide) hi
  have hw : IntKind.u64.wrap ((b : Int) * 2 ^ (7 * i)) = ((2 ^ (7 * i) * b : Nat) : Int) := by
    rw [IntWalk.u64_in _ ⟨Int.mul_nonneg (by omega) (by rw [← hcast]; omega), ht⟩, Int.natCast_mul, hcast, Int.mul_comm]
  have hb : 2 ^ (7 * i) * b ≤ 18446744073709551615 := by
    rw [← hcast, Int.mul_comm, ← Int.natCast_mul] at ht
    generalize 2 ^ (7 * i) * b = q at ht ⊢
    omega
  rw [hw, bits_or_u64_nat a _ (by omega) (by omega), Nat.or_comm, ← Nat.two_pow_add_eq_or_of_lt ha b]
  rw [Int.natCast_add, Int.natCast_mul, hcast]
  rw [Int.mul_comm, Int.add_comm]

theorem decR_dec : ∀ (l : List Int) (x : Int) (i : Nat), i ≤ 9 → 0 ≤ x → x < 2 ^ (7 * i) → (∀ z ∈ l, 0 ≤ z ∧ z ≤ 255) → decR x i l = dec x i l
  | [], _, _, _, _, _, _ => rfl
  | d :: r, x, i, hi, hx0, hx, hz => by
    have hd := hz d (by simp)
    unfold decR dec
    by_cases h9 : i = 9 ∧ d ≠ 1
    · rw [if_pos h9, if_pos h9]
    · rw [if_neg h9, if_neg h9]
      have hpos : (0 : Int) < 2 ^ (7 * i) := Int.pow_pos (by decide)
      have hstep : x + d % 128 * 2 ^ (7 * i) < 2 ^ (7 * (i + 1)) := by
        have e : (2 : Int) ^ (7 * (i + 1)) = 128 * 2 ^ (7 * i) := by
          rw [show 7 * (i + 1) = 7 * i + 7 by omega, Int.pow_add, Int.mul_comm]; rfl
        have h1 : d % 128 * 2 ^ (7 * i) ≤ 127 * 2 ^ (7 * i) := Int.mul_le_mul_of_nonneg_right (by omega) (by omega)
        omega
      have hbound : d % 128 * 2 ^ (7 * i) ≤ 18446744073709551615 := by
        by_cases h : i = 9
        · subst h
          have : d = 1 := by omega
          subst this
          rw [show (1 : Int) % 128 = 1 from rfl, Int.one_mul, show 7 * 9 = 63 from rfl]
          exact Int.le_of_lt (by decide)
        · have hp : (2 : Int) ^ (7 * (i + 1)) ≤ 2 ^ 63 := by
            have h : (2 : Nat) ^ (7 * (i + 1)) ≤ 2 ^ 63 := Nat.pow_le_pow_right (by decide) (by omega)
            have hc : ((2 ^ (7 * (i + 1)) : Nat) : Int) = 2 ^ (7 * (i + 1)) := by simp
            rw [← hc]
            exact Int.ofNat_le.2 h
          omega
      have e := or_add x (d % 128) i (by omega) hx0 hx (by omega) hbound
      rw [e]
      by_cases h128 : 128 ≤ d
      · rw [if_pos h128, if_pos h128]
        refine decR_dec r _ (i + 1) (by omega) ?_ hstep (fun z hz' => hz z (by simp [hz']))
        have : 0 ≤ d % 128 * 2 ^ (7 * i) := Int.mul_nonneg (by omega) (by omega)
        omega
      · rw [if_neg h128, if_neg h128]

/-- bytes: each from 0 to 255 -/
def Byt (zs : List Int) : Prop := ∀ z ∈ zs, 0 ≤ z ∧ z ≤ 255
theorem Byt.drop {zs : List Int} (h : Byt zs) (k : Nat) : Byt (zs.drop k) := fun z hz => h z (List.mem_of_mem_drop hz)
theorem Byt.take {zs : List Int} (h : Byt zs) (k : Nat) : Byt (zs.take k) := fun z hz => h z (List.mem_of_mem_take hz)
theorem Byt.append {a b : List Int} (h : Byt a) (h' : Byt b) : Byt (a ++ b) := fun z hz => (List.mem_append.1 hz).elim (h z) (h' z)

/-- the signed number that stands behind a number -/
def zig (x : Int) : Int := if x % 2 = 0 then x / 2 else -(x / 2) - 1
theorem and_one {x : Int} (h0 : 0 ≤ x) (h1 : x ≤ 18446744073709551615) : Go.bits .and .u64 x 1 = x % 2 := by
  obtain ⟨n, rfl⟩ := Int.eq_ofNat_of_zero_le h0
  rw [show (1 : Int) = ((1 : Nat) : Int) from rfl, bits_and_u64_nat n 1 (by omega) (by omega), Nat.and_one_is_mod]
  omega
theorem zig_of {x : Int} (h0 : 0 ≤ x) (h1 : x ≤ 18446744073709551615) : Go.bits .xor .i64 (x / 2) (-(x % 2)) = zig x := by
  obtain ⟨n, hn⟩ := Int.eq_ofNat_of_zero_le (show 0 ≤ x / 2 by omega)
  have hb : n < 9223372036854775808 := by omega
  unfold zig Go.bits
  rw [hn]
  have h1 : (BitVec.ofInt 64 ((n : Nat) : Int)) = BitVec.ofNat 64 n := by rw [BitVec.ofInt_natCast]
  show IntKind.i64.wrap ((BitVec.ofInt 64 (n : Int) ^^^ BitVec.ofInt 64 (-(x % 2))).toNat : Int) = _
  rw [h1]
  by_cases he : x % 2 = 0
  · rw [he, if_pos rfl]
    have : BitVec.ofInt 64 (-0) = 0#64 := by decide
    rw [this, BitVec.xor_zero, BitVec.toNat_ofNat, Nat.mod_eq_of_lt (by omega), IntKind.wrap_i64]
    omega
  · rw [show x % 2 = 1 by omega, if_neg (by decide)]
    have : BitVec.ofInt 64 (-1) = BitVec.allOnes 64 := by decide
    rw [this, BitVec.xor_allOnes, BitVec.toNat_not, BitVec.toNat_ofNat, Nat.mod_eq_of_lt (by omega), IntKind.wrap_i64]
    omega
/-- what dec tells lies within its bounds -/
def DecOk (m : Nat) (R : Int × Int × Int) : Prop :=
  ∃ (X : Int) (n : Nat) (E : Int), R = (X, (n : Int), E) ∧ 0 ≤ X ∧ X ≤ 18446744073709551615 ∧ n ≤ m ∧ (E = 0 → 1 ≤ n) ∧ (E ≠ 0 → X = 0 ∧ n = 0) ∧ (E = 0 ∨ E = 3 ∨ E = 4 ∨ E = 5)

theorem pow_split (i : Nat) : (2 : Int) ^ (7 * (i + 1)) = 128 * 2 ^ (7 * i) := by
  rw [show 7 * (i + 1) = 7 * i + 7 by omega, Int.pow_add, Int.mul_comm]; rfl
theorem pow_63 (i : Nat) (h : i ≤ 9) : (2 : Int) ^ (7 * i) ≤ 9223372036854775808 := by
  have h : (2 : Nat) ^ (7 * i) ≤ 2 ^ 63 := Nat.pow_le_pow_right (by decide) (by omega)
  have hc : ((2 ^ (7 * i) : Nat) : Int) = 2 ^ (7 * i) := by simp
  rw [← hc]
  omega

theorem dec_ok : ∀ (l : List Int) (x : Int) (i : Nat), i ≤ 9 → 0 ≤ x → x < 2 ^ (7 * i) → Byt l → DecOk (i + l.length) (dec x i l)
  | [], _, i, _, _, _, _ => ⟨0, 0, 4, rfl, by omega, by omega, by omega, by omega, by omega, by omega⟩
  | d :: r, x, i, hi, hx0, hx, hz => by
    have hd := hz d (by simp)
    unfold dec
    by_cases h9 : i = 9 ∧ d ≠ 1
    · rw [if_pos h9]; exact ⟨0, 0, 5, rfl, by omega, by omega, by omega, by omega, by omega, by omega⟩
    · rw [if_neg h9]
      have hpos : (0 : Int) < 2 ^ (7 * i) := Int.pow_pos (by decide)
      have h1 : d % 128 * 2 ^ (7 * i) ≤ 127 * 2 ^ (7 * i) := Int.mul_le_mul_of_nonneg_right (by omega) (by omega)
      have h2 : 0 ≤ d % 128 * 2 ^ (7 * i) := Int.mul_nonneg (by omega) (by omega)
      have hstep : x + d % 128 * 2 ^ (7 * i) < 2 ^ (7 * (i + 1)) := by rw [pow_split]; omega
      by_cases h128 : 128 ≤ d
      · rw [if_pos h128]
        obtain ⟨X, n, E, h⟩ := dec_ok r _ (i + 1) (by omega) (by omega) hstep (fun z hz' => hz z (by simp [hz']))
        exact ⟨X, n, E, h.1, h.2.1, h.2.2.1, by have := h.2.2.2.1; simp; omega, h.2.2.2.2⟩
      · rw [if_neg h128]
        by_cases h0 : d = 0 ∧ 0 < i
        · rw [if_pos h0]; exact ⟨0, 0, 5, rfl, by omega, by omega, by omega, by omega, by omega, by omega⟩
        · rw [if_neg h0]
          refine ⟨_, i + 1, 0, rfl, by omega, ?_, by rw [List.length_cons]; omega, by omega, by omega, by omega⟩
          have hp := pow_63 i hi
          by_cases h : i = 9
          · have : d = 1 := by omega
            subst this
            rw [show (1 : Int) % 128 = 1 from rfl, Int.one_mul]
            omega
          · have hp2 := pow_63 (i + 1) (by omega)
            omega

/-- a number that may not be above most, from the beginning of l: the number, how many bytes, the error -/
def num (most : Int) (l : List Int) : Int × Int × Int :=
  if (dec 0 0 l).2.2 = 0 then (if most < (dec 0 0 l).1 then (0, 0, 3) else ((dec 0 0 l).1, (dec 0 0 l).2.1, 0))
  else (0, 0, (dec 0 0 l).2.2)
theorem num_ok (most : Int) (l : List Int) (hz : Byt l) (h0 : 0 ≤ most) : DecOk l.length (num most l) ∧ (num most l).1 ≤ most := by
  obtain ⟨X, n, E, h⟩ := dec_ok l 0 0 (by omega) (by omega) (by decide) hz
  unfold num
  rw [h.1]
  simp only
  by_cases hE : E = 0
  · rw [if_pos hE]
    by_cases hX : most < X
    · rw [if_pos hX]
      exact ⟨⟨0, 0, 3, rfl, by omega, by omega, by omega, by omega, by omega, by omega⟩, h0⟩
    · rw [if_neg hX]
      exact ⟨⟨X, n, 0, rfl, h.2.1, h.2.2.1, by have := h.2.2.2.1; omega, fun _ => h.2.2.2.2.1 hE, by omega, by omega⟩, by simp; omega⟩
  · rw [if_neg hE]
    exact ⟨⟨0, 0, E, rfl, by omega, by omega, by omega, by omega, by omega, h.2.2.2.2.2.2⟩, h0⟩

theorem dec_enc : ∀ (l : List Int) (x : Int) (i : Nat) (X N : Int), i ≤ 9 → (∀ z ∈ l, 0 ≤ z ∧ z ≤ 255) → dec x i l = (X, N, 0) →
    ∃ (Y : Int) (m : Nat), X = x + Y * 2 ^ (7 * i) ∧ N = i + m ∧ 1 ≤ m ∧ m ≤ l.length ∧ 0 ≤ Y ∧ encF (9 - i) Y = l.take m ∧ (0 < i → 0 < Y)
  | [], x, i, X, N, _, _, h => by simp [dec] at h
  | d :: r, x, i, X, N, hi, hz, h => by
    have hd := hz d (by simp)
    unfold dec at h
    by_cases h9 : i = 9 ∧ d ≠ 1
    · rw [if_pos h9] at h; simp at h
    · rw [if_neg h9] at h
      by_cases h128 : 128 ≤ d
      · rw [if_pos h128] at h
        have hi9 : i < 9 := by
          rcases Nat.lt_or_ge i 9 with h' | h'
          · exact h'
          · exact absurd ⟨by omega, by omega⟩ h9
        obtain ⟨Y, m, h1, h2, h3, h4, h5, h6, h7⟩ := dec_enc r _ (i + 1) X N (by omega) (fun z hz' => hz z (by simp [hz'])) h
        have hY := h7 (by omega)
        refine ⟨d % 128 + 128 * Y, m + 1, ?_, by omega, by omega, by rw [List.length_cons]; omega, by omega, ?_, fun _ => by omega⟩
        · rw [h1, pow_split, Int.add_mul, Int.mul_comm 128 Y, Int.mul_assoc Y 128]
          omega
        · rw [show 9 - i = (9 - (i + 1)) + 1 by omega]
          show (if d % 128 + 128 * Y < 128 then [d % 128 + 128 * Y] else ((d % 128 + 128 * Y) % 128 + 128) :: encF (9 - (i + 1)) ((d % 128 + 128 * Y) / 128)) = _
          rw [if_neg (by omega), show (d % 128 + 128 * Y) / 128 = Y by omega, show (d % 128 + 128 * Y) % 128 + 128 = d by omega, h6]
          rfl
      · rw [if_neg h128] at h
        by_cases h0 : d = 0 ∧ 0 < i
        · rw [if_pos h0] at h; simp at h
        · rw [if_neg h0] at h
          simp only [Prod.mk.injEq] at h
          refine ⟨d, 1, ?_, by omega, by omega, by rw [List.length_cons]; omega, by omega, ?_, fun hi0 => by omega⟩
          · rw [← h.1, Int.emod_eq_of_lt hd.1 (by omega)]
          · cases hk : 9 - i with
            | zero => rfl
            | succ k => simp [encF, show d < 128 by omega]

theorem dec_enc0 {l : List Int} {X N : Int} (hz : Byt l) (h : dec 0 0 l = (X, N, 0)) : ∃ m : Nat, N = m ∧ 1 ≤ m ∧ m ≤ l.length ∧ enc X = l.take m := by
  obtain ⟨Y, m, h1, h2, h3, h4, _, h6, _⟩ := dec_enc l 0 0 X N (by omega) hz h
  refine ⟨m, by omega, h3, h4, ?_⟩
  have : X = Y := by rw [h1]; simp
  subst this
  exact h6

/-- digits that are read back, whatever stands behind them -/
theorem enc_dec : ∀ (k : Nat) (Y x : Int) (i : Nat) (more : List Int), i + k = 9 → 0 ≤ Y → Y < 2 ^ (64 - 7 * i) → (0 < i → 0 < Y) → dec x i (encF k Y ++ more) = (x + Y * 2 ^ (7 * i), (i : Int) + (encF k Y).length, 0)
  | 0, Y, x, i, more, hi, h0, h1, hp => by
    have h9 : i = 9 := by omega
    subst h9
    have hY : Y = 1 := by
      have : Y < 2 := by simpa using h1
      have := hp (by omega)
      omega
    subst hY
    simp [encF, dec]
  | k + 1, Y, x, i, more, hi, h0, h1, hp => by
    unfold encF
    by_cases hlt : Y < 128
    · rw [if_pos hlt]
      show dec x i (Y :: more) = _
      unfold dec
      rw [if_neg (by omega), if_neg (by omega), if_neg (by omega), Int.emod_eq_of_lt h0 hlt]
      simp
    · rw [if_neg hlt]
      show dec x i ((Y % 128 + 128) :: (encF k (Y / 128) ++ more)) = _
      unfold dec
      rw [if_neg (by omega), if_pos (by omega), enc_dec k (Y / 128) _ (i + 1) more (by omega) (by omega) ?_ (fun _ => by omega)]
      · have e : x + (Y % 128 + 128) % 128 * 2 ^ (7 * i) + Y / 128 * 2 ^ (7 * (i + 1)) = x + Y * 2 ^ (7 * i) := by
          rw [pow_split, show (Y % 128 + 128) % 128 = Y % 128 by omega, ← Int.mul_assoc, Int.add_assoc, ← Int.add_mul]
          congr 2
          omega
        rw [e, List.length_cons]
        simp only [Prod.mk.injEq, true_and, and_true]
        omega
      · have e : (2 : Int) ^ (64 - 7 * i) = 128 * 2 ^ (64 - 7 * (i + 1)) := by
          rw [show 64 - 7 * i = (64 - 7 * (i + 1)) + 7 by omega, Int.pow_add, Int.mul_comm]; rfl
        rw [e] at h1
        omega
theorem enc_dec0 {Y : Int} (h0 : 0 ≤ Y) (h1 : Y ≤ 18446744073709551615) (more : List Int) : dec 0 0 (enc Y ++ more) = (Y, ((enc Y).length : Int), 0) := by
  have := enc_dec 9 Y 0 0 more (by omega) h0 (by show Y < 2 ^ 64; omega) (by omega)
  rw [show encF 9 Y = enc Y from rfl] at this
  rw [this]
  simp

/-- a first part of a number's digits is too short -/
theorem enc_short : ∀ (k : Nat) (Y x : Int) (i j : Nat), i + k = 9 → 0 ≤ Y → j < (encF k Y).length → dec x i ((encF k Y).take j) = (0, 0, 4)
  | _, _, _, _, 0, _, _, _ => by simp [dec]
  | 0, Y, x, i, j + 1, _, _, hj => by simp [encF] at hj
  | k + 1, Y, x, i, j + 1, hi, h0, hj => by
    unfold encF at hj ⊢
    by_cases hlt : Y < 128
    · rw [if_pos hlt] at hj; simp at hj
    · rw [if_neg hlt] at hj ⊢
      show dec x i ((Y % 128 + 128) :: (encF k (Y / 128)).take j) = _
      unfold dec
      rw [if_neg (by omega), if_pos (by omega)]
      exact enc_short k (Y / 128) _ (i + 1) j (by omega) (by omega) (by simpa using hj)
theorem enc_short0 {Y : Int} (h0 : 0 ≤ Y) {j : Nat} (hj : j < (enc Y).length) : dec 0 0 ((enc Y).take j) = (0, 0, 4) := enc_short 9 Y 0 0 j (by omega) h0 hj

/-- the number that a signed number is written as -/
def zag (x : Int) : Int := if 0 ≤ x then 2 * x else -2 * x - 1
theorem zag_range {x : Int} (h : -9223372036854775808 ≤ x ∧ x ≤ 9223372036854775807) : 0 ≤ zag x ∧ zag x ≤ 18446744073709551615 := by unfold zag; split <;> omega
theorem zig_zag (x : Int) : zig (zag x) = x := by
  unfold zig zag
  by_cases h : 0 ≤ x
  · rw [if_pos h, if_pos (by omega)]; omega
  · rw [if_neg h, if_neg (by omega)]; omega

theorem xor_zero64 (a : Int) : Go.bits .xor .i64 a 0 = IntKind.i64.wrap a := by
  show IntKind.i64.wrap ((BitVec.ofInt 64 a ^^^ BitVec.ofInt 64 0).toNat : Int) = _
  rw [show BitVec.ofInt 64 0 = 0#64 by decide, BitVec.xor_zero, BitVec.toNat_ofInt, IntKind.wrap_i64, IntKind.wrap_i64]
  omega
theorem xor_ones64 (a : Int) : Go.bits .xor .i64 a (-1) = IntKind.i64.wrap (-a - 1) := by
  show IntKind.i64.wrap ((BitVec.ofInt 64 a ^^^ BitVec.ofInt 64 (-1)).toNat : Int) = _
  rw [show BitVec.ofInt 64 (-1) = BitVec.allOnes 64 by decide, BitVec.xor_allOnes, BitVec.toNat_not, BitVec.toNat_ofInt, IntKind.wrap_i64, IntKind.wrap_i64]
  omega
theorem zag_of {x : Int} (h : -9223372036854775808 ≤ x ∧ x ≤ 9223372036854775807) : IntKind.u64.wrap (Go.bits .xor .i64 (RowKit.wrap64 (x * 2)) (x / 9223372036854775808)) = zag x := by
  unfold zag
  by_cases h0 : 0 ≤ x
  · rw [if_pos h0, show x / 9223372036854775808 = 0 by omega, xor_zero64, IntKind.wrap_u64, IntKind.wrap_i64]
    unfold RowKit.wrap64
    omega
  · rw [if_neg h0, show x / 9223372036854775808 = -1 by omega, xor_ones64, IntKind.wrap_u64, IntKind.wrap_i64]
    unfold RowKit.wrap64
    omega

theorem num_enc {Y most : Int} (h0 : 0 ≤ Y) (h1 : Y ≤ most) (h2 : most ≤ 18446744073709551615) (more : List Int) : num most (enc Y ++ more) = (Y, ((enc Y).length : Int), 0) := by
  unfold num
  rw [enc_dec0 h0 (by omega)]
  simp only
  rw [if_pos trivial, if_neg (by omega)]
end Go.Proofs.Ytconfkjchjcjgaa
