/- The walks over one bit's step: the program's halved, the document's times: both are the plain step. No condition. -/
import Derived.Test.YtbmllljieoeihaaBase
import Derived.Test.YtbmllljieoeihaaCMath
namespace Go.Proofs.Ytbmllljieoeihaa
open Go.RowKit
set_option linter.unusedVariables false

theorem mask1 (s : Nat) (h : s < 4294967296) : bits .and .u32 (s : Int) 1 = ((s % 2 : Nat) : Int) := by
  rw [show (1 : Int) = ((1 : Nat) : Int) by rfl, u32_and_nat s 1 h (by decide), Nat.and_one_is_mod]

theorem bit_key (s k : Nat) (h : s < 4294967296) : bits .and .u32 ((s : Int) / 2 ^ k) 1 = ((s / 2 ^ k % 2 : Nat) : Int) := by
  have e : (s : Int) / 2 ^ k = ((s / 2 ^ k : Nat) : Int) := by
    rw [Int.natCast_ediv, Int.natCast_pow]
    rfl
  rw [e]
  exact mask1 _ (Nat.lt_of_le_of_lt (Nat.div_le_self _ _) h)

theorem halved_key (s : Nat) (h : s < 4294967296) :
    bits .xor .u32 ((s : Int) / 2) (bits .and .u32 (-((s : Int) % 2) % 4294967296) 3988292384) = ((stp s : Nat) : Int) := by
  unfold stp
  rcases Nat.mod_two_eq_zero_or_one s with hs | hs
  · rw [hs, show (s : Int) % 2 = 0 by omega, show bits .and .u32 (-0 % 4294967296) 3988292384 = ((0 : Nat) : Int) by decide, show (s : Int) / 2 = ((s / 2 : Nat) : Int) by omega, u32_xor_nat _ _ (by omega) (by decide)]
    rfl
  · rw [hs, show (s : Int) % 2 = 1 by omega, show bits .and .u32 (-1 % 4294967296) 3988292384 = ((3988292384 : Nat) : Int) by decide, show (s : Int) / 2 = ((s / 2 : Nat) : Int) by omega, u32_xor_nat _ _ (by omega) (by decide)]
    rfl

theorem halved_any (s : Nat) (w : World) (h : s < 4294967296) :
    Calls Try.prog 34 #[.int .u32 s] w fun e w' => e = .returned (.int .u32 (stp s)) ∧ w' = w := by
  have h1 := mask1 s h
  have h2 := halved_key s h
  go_enter Try.func34, Try.ntmps34
  go_wp2_with (simp only [h1])
  go_ret
  exact ⟨rfl, rfl⟩

theorem times_any (s : Nat) (w : World) (h : s < 4294967296) :
    Calls Try.prog 36 #[.int .u32 s] w fun e w' => e = .returned (.int .u32 (stp s)) ∧ w' = w := by
  have h1 := mask1 s h
  have hm : ∀ a b : Nat, a % 2 = b → ((a % 2 : Nat) : Int) = (b : Int) := fun a b h => by rw [h]
  have hx : s % 2 = 1 → bits .xor .u32 ((s : Int) / 2) 3988292384 = ((stp s : Nat) : Int) := by
    intro hs
    unfold stp
    rw [hs, show (s : Int) / 2 = ((s / 2 : Nat) : Int) by omega, show (3988292384 : Int) = ((3988292384 : Nat) : Int) by rfl, u32_xor_nat _ _ (by omega) (by decide)]
    rfl
  have hy : s % 2 = 0 → (s : Int) / 2 = ((stp s : Nat) : Int) := by
    intro hs
    unfold stp
    rw [hs]
    simp
  rcases Nat.mod_two_eq_zero_or_one s with hs | hs
  · have h3 := hy hs
    rw [hs] at h1
    clear hx hy hm
    go_enter Try.func36, Try.ntmps36
    go_wp2_with (simp only [h1])
    go_ret
    exact ⟨rfl, rfl⟩
  · have h3 := hx hs
    rw [hs] at h1
    clear hx hy hm
    go_enter Try.func36, Try.ntmps36
    go_wp2_with (simp only [h1])
    go_ret
    exact ⟨rfl, rfl⟩

end Go.Proofs.Ytbmllljieoeihaa
