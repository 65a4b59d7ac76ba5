/- Bits of bytes turned, and what that does to their sum. -/
import Derived.Test.YtbmllljieoeihaaCMath
import Derived.Test.YtbmllljieoeihaaCStep
namespace Go.Proofs.Ytbmllljieoeihaa
open Go.RowKit Go.Lib
set_option linter.unusedVariables false

theorem its_one (k i : Nat) (h : i ≤ k) : its k (2 ^ i) = its (k - i) 1 := by
  have h1 := its_pow i 0
  rw [Nat.zero_add, Nat.pow_zero] at h1
  rw [← h1, ← its_add, show i + (k - i) = k by omega]

/-- The bit p of the bytes turned. -/
def turn (L : List Int) (p : Nat) : List Int := L.set (p / 8) (((L.getD (p / 8) 0).toNat ^^^ 2 ^ (p % 8) : Nat) : Int)

theorem turn_length (L : List Int) (p : Nat) : (turn L p).length = L.length := by unfold turn; simp

theorem turn_range {L : List Int} (hL : Byt L) {p : Nat} (hp : p < 8 * L.length) : (L.getD (p / 8) 0).toNat ^^^ 2 ^ (p % 8) < 256 := by
  have hlt : p / 8 < L.length := by omega
  have h := hL _ (List.getElem_mem hlt)
  have hg : L.getD (p / 8) 0 = L[p / 8] := by simp [List.getD, hlt]
  have h2 : 2 ^ (p % 8) < 2 ^ 8 := Nat.pow_lt_pow_right (by decide) (by omega)
  rw [hg]
  exact Nat.xor_lt_two_pow (n := 8) (by omega) h2

theorem turn_byt {L : List Int} (hL : Byt L) {p : Nat} (hp : p < 8 * L.length) : Byt (turn L p) := by
  have h := turn_range hL hp
  intro z hz
  rcases List.mem_or_eq_of_mem_set hz with hz | hz
  · exact hL z hz
  · subst hz
    omega

theorem turn_mor {L : List Int} (hL : Byt L) {r i : Nat} (hp : r + i < 8 * L.length) : mor 0 (turn L (r + i)) = mor 0 L ^^^ its (8 * L.length - r) (2 ^ i) := by
  have h := turn_range hL hp
  unfold turn
  rw [mor_set hL _ (by omega) (by omega), Int.toNat_natCast, xor_cancel, its_one 8 ((r + i) % 8) (by omega), ← its_add, its_one (8 * L.length - r) i (by omega)]
  congr 2
  omega

theorem mod_bit (s n : Nat) : s % 2 ^ (n + 1) = s % 2 ^ n ^^^ (if s / 2 ^ n % 2 = 1 then 2 ^ n else 0) := by
  rw [← part_pow, ← part_pow]
  rfl

theorem bit_val (O k : Nat) (hO : O < 256) (hk : k < 8) : bits .xor .u8 (O : Int) (2 ^ k % 256) = ((O ^^^ 2 ^ k : Nat) : Int) := by
  have h2 : 2 ^ k < 2 ^ 8 := Nat.pow_lt_pow_right (by decide) hk
  have e : (2 : Int) ^ k = ((2 ^ k : Nat) : Int) := by simp
  rw [e]
  generalize 2 ^ k = m at *
  rw [show (m : Int) % 256 = m by omega, u8_xor_nat _ _ (by omega) (by omega)]

end Go.Proofs.Ytbmllljieoeihaa
