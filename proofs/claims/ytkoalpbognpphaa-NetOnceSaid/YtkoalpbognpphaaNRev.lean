/- slices.reverseRangeOrdered over uint64: a permutation. -/
import Derived.Test.YtkoalpbognpphaaNRow
import Derived.Deep.LoopGhost
namespace Go.Proofs.Ytkoalpbognpphaa
open Go.RowKit Go.Sort
set_option linter.unusedVariables false

theorem perm_swp {a b i j N : Nat} {d dk : Array Int} (h : PermIn a b d dk) (hs : dk.size = N) (hb : b ≤ N) (hi : a ≤ i ∧ i < b) (hj : a ≤ j ∧ j < b) : PermIn a b d (Sort.swp dk i j) :=
  Sort.permIn_trans _ _ _ a b h (Sort.swp_permIn dk a b i j hi.1 hi.2 hj.1 hj.2 (by omega))

set_option maxHeartbeats 4000000 in
set_option maxRecDepth 1000000 in
theorem rev_any {g c N : Nat} {d : Array Int} {w : World} (h : SR w g c N w d) (cap a b : Nat) (hab : a < b) (hb : b ≤ N) (hN : N < 4611686018427387904) :
    Calls Try.prog 58 #[.slice (some ⟨g, 0, none⟩) N cap, .int .i64 a, .int .i64 b] w fun e w' => e = .returned (.tuple #[]) ∧ ∃ d', SR w g c N w' d' ∧ PermIn a b d d' := by
  have HS := Lib.hid h
  clear h
  go_enter Try.func58, Try.ntmps58
  go_wp2
  go_loopg [6, 7] (b - a) (fun k s6 s7 wr => ∃ (i j : Nat) (dk : Array Int), s6 = .int .i64 i ∧ s7 = .int .i64 j ∧ a ≤ i ∧ i ≤ j + 1 ∧ j < b ∧ j - i ≤ k ∧ (j = i - 1 ∨ i ≤ j) ∧ SR w g c N wr dk ∧ PermIn a b d dk)
  case atStart => exact ⟨a, b - 1, d, rfl, by congr 1; omega, Nat.le_refl _, by omega, by omega, by omega, .inr (by omega), HS.out, Sort.permIn_refl _ _ _⟩
  case round =>
    obtain ⟨i, j, dk, rfl, rfl, hai, hij, hjb, hk, hc, hs, hp⟩ := hrel
    obtain ⟨G, hG, hcw, hfw⟩ := hs.names
    have HJ := Lib.hid hs
    have HG := Lib.hid hG
    have HP := Lib.hid hp
    clear hs hG hp
    by_cases hlt : i < j
    · have hiN : i < N := by omega
      have hjN : j < N := by omega
      go_wp2
      go_region
      go_wp2
      go_roundg (j - 1 - (i + 1))
      case measure => omega
      case rel =>
        exact ⟨i + 1, j - 1, Sort.swp dk i j, by go_num, by congr 1; omega, by omega, by omega, by omega, by omega, by omega, (HJ.out.drewN _).swp hiN hjN (HG.out _) (HG.out _), perm_swp HP.out HJ.out.len hb ⟨hai, by omega⟩ ⟨by omega, hjb⟩⟩
    · go_wp2
      go_end0
      exact ⟨rfl, dk, HJ.out, HP.out⟩
end Go.Proofs.Ytkoalpbognpphaa
