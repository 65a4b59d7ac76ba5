/- What the two partitions keep between their steps. -/
import Derived.Test.YtkoalpbognpphaaNRev
namespace Go.Proofs.Ytkoalpbognpphaa
open Go.RowKit Go.Sort
set_option linter.unusedVariables false

/-- the row while it is parted: left of i all is P, right of j nothing is -/
structure Pt (w : World) (g c N a b : Nat) (P : Int → Bool) (p : Int) (d : Array Int) (i j : Nat) (wr : World) (dk : Array Int) : Prop where
  sr : SR w g c N wr dk
  perm : PermIn a b d dk
  at_ : dk[a]! = p
  lo : a < i
  mid : i ≤ j + 1
  hi : j < b
  bN : b ≤ N
  left : ∀ k, a < k → k < i → P dk[k]! = true
  right : ∀ k, j < k → k < b → P dk[k]! = false

section
variable {w wr : World} {g c N a b i j : Nat} {P : Int → Bool} {p : Int} {d dk : Array Int}
theorem Pt.drewN (h : Pt w g c N a b P p d i j wr dk) (n : Nat) : Pt w g c N a b P p d i j (wr.drewN n) dk := { h with sr := h.sr.drewN n }
theorem Pt.drew (h : Pt w g c N a b P p d i j wr dk) : Pt w g c N a b P p d i j wr.drew dk := { h with sr := h.sr.drew }
theorem Pt.up (h : Pt w g c N a b P p d i j wr dk) (hij : i ≤ j) (hp : P dk[i]! = true) : Pt w g c N a b P p d (i + 1) j wr dk := by
  have hlo := h.lo
  refine ⟨h.sr, h.perm, h.at_, by omega, by omega, h.hi, h.bN, fun k h1 h2 => ?_, h.right⟩
  rcases Nat.lt_or_ge k i with h3 | h3
  · exact h.left k h1 h3
  · obtain rfl : k = i := by omega
    exact hp
theorem Pt.down (h : Pt w g c N a b P p d i j wr dk) (hij : i ≤ j) (hp : P dk[j]! = false) : Pt w g c N a b P p d i (j - 1) wr dk := by
  have hlo := h.lo
  have hhi := h.hi
  refine ⟨h.sr, h.perm, h.at_, hlo, by omega, by omega, h.bN, h.left, fun k h1 h2 => ?_⟩
  rcases Nat.lt_or_ge j k with h3 | h3
  · exact h.right k h3 h2
  · obtain rfl : k = j := by omega
    exact hp
theorem Pt.swap (h : Pt w g c N a b P p d i j wr dk) (hij : i ≤ j) (h1 : P dk[i]! = false) (h2 : P dk[j]! = true) {x y : Int} (hx : x = dk[j]!) (hy : y = dk[i]!) :
    i < j ∧ Pt w g c N a b P p d (i + 1) (j - 1) ((wr.setCell ⟨g, i, none⟩ (.int .u64 x)).setCell ⟨g, j, none⟩ (.int .u64 y)) (Sort.swp dk i j) := by
  have hlo := h.lo
  have hhi := h.hi
  have hbN := h.bN
  have hs := h.sr.len
  have hne : i ≠ j := by rintro rfl; rw [h1] at h2; cases h2
  have hg := fun k => Sort.swp_get dk (i := i) (j := j) (by omega) (by omega) k
  refine ⟨by omega, h.sr.swp (by omega) (by omega) hx hy, perm_swp h.perm h.sr.len h.bN ⟨by omega, by omega⟩ ⟨by omega, by omega⟩, ?_, by omega, by omega, by omega, hbN, fun k k1 k2 => ?_, fun k k1 k2 => ?_⟩
  · rw [hg, if_neg (by omega), if_neg (by omega)]; exact h.at_
  · rw [hg, if_neg (by omega)]
    by_cases e : k = i
    · rw [if_pos e]; exact h2
    · rw [if_neg e]; exact h.left k k1 (by omega)
  · rw [hg]
    by_cases e : k = j
    · rw [if_pos e]; exact h1
    · rw [if_neg e, if_neg (by omega)]; exact h.right k (by omega) k2
/-- at the start, the pivot brought to a -/
theorem Pt.start {q : Nat} (h : SR w g c N wr d) (ha : a ≤ q) (hq : q < b) (hb : b ≤ N) (h2 : a + 1 ≤ b) {x y : Int} (hx : x = d[q]!) (hy : y = d[a]!) :
    Pt w g c N a b P d[q]! d (a + 1) (b - 1) ((wr.setCell ⟨g, a, none⟩ (.int .u64 x)).setCell ⟨g, q, none⟩ (.int .u64 y)) (Sort.swp d a q) :=
  ⟨h.swp (by omega) (by omega) hx hy, perm_swp (Sort.permIn_refl _ _ _) h.len hb ⟨Nat.le_refl _, by omega⟩ ⟨ha, hq⟩, by
      rw [Sort.swp_get d (by have := h.len; omega) (by have := h.len; omega)]
      split
      · next e => rw [← e]
      · rw [if_pos rfl], by omega, by omega, by omega, hb, fun k h1 h3 => by omega, fun k h1 h3 => by omega⟩
/-- at the end of partition, the pivot brought to j -/
theorem Pt.done (h : Pt w g c N a b P p d i j wr dk) (hij : j < i) {x y : Int} (hx : x = dk[a]!) (hy : y = dk[j]!) :
    SR w g c N ((wr.setCell ⟨g, j, none⟩ (.int .u64 x)).setCell ⟨g, a, none⟩ (.int .u64 y)) (Sort.swp dk j a) ∧ PermIn a b d (Sort.swp dk j a) ∧ a ≤ j ∧ j < b ∧ (Sort.swp dk j a)[j]! = p ∧
      (∀ k, a ≤ k → k < j → P (Sort.swp dk j a)[k]! = true) ∧ ∀ k, j < k → k < b → P (Sort.swp dk j a)[k]! = false := by
  have hlo := h.lo
  have hhi := h.hi
  have hmid := h.mid
  have hbN := h.bN
  have hs := h.sr.len
  have hg := fun k => Sort.swp_get dk (i := j) (j := a) (by omega) (by omega) k
  refine ⟨h.sr.swp (by omega) (by omega) hx hy, perm_swp h.perm h.sr.len h.bN ⟨by omega, by omega⟩ ⟨by omega, by omega⟩, by omega, hhi, ?_, fun k k1 k2 => ?_, fun k k1 k2 => ?_⟩
  · rw [hg]
    split
    · next e => rw [e]; exact h.at_
    · rw [if_pos rfl]; exact h.at_
  · rw [hg]
    by_cases e : k = a
    · rw [if_pos e]; exact h.left j (by omega) (by omega)
    · rw [if_neg e, if_neg (by omega)]; exact h.left k (by omega) (by omega)
  · rw [hg, if_neg (by omega), if_neg (by omega)]; exact h.right k k1 k2
end
end Go.Proofs.Ytkoalpbognpphaa
