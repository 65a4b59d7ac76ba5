/- What a round of pdqsort makes of a row of numbers: plain mathematics. -/
import Derived.Test.YtkoalpbognpphaaNRow
namespace Go.Proofs.Ytkoalpbognpphaa
open Go.RowKit Go.Sort
set_option linter.unusedVariables false

/-- whatever sorts what is left sorts the whole -/
def Fin' (a b : Nat) (d : Array Int) (a' b' : Nat) (dk : Array Int) : Prop :=
  ∀ R, PermIn a' b' dk R → SortedIn ltInt a' b' R → PermIn a b d R ∧ SortedIn ltInt a b R

theorem lt_t {x y : Int} : ltInt x y = true ↔ x < y := by unfold ltInt; simp
theorem lt_f {x y : Int} : ltInt x y = false ↔ y ≤ x := by unfold ltInt; simp

/-- x at m, less to the left, no less to the right -/
structure Parted (a m b : Nat) (x : Int) (d : Array Int) : Prop where
  lo : a ≤ m
  hi : m < b
  size : b ≤ d.size
  left : ∀ k, a ≤ k → k < m → d[k]! < x
  at_ : d[m]! = x
  right : ∀ k, m < k → k < b → x ≤ d[k]!

section
variable {a m b : Nat} {x : Int} {d d' : Array Int}
theorem Parted.sortLeft (h : Parted a m b x d) (p : PermIn a m d d') : Parted a m b x d' := by
  have hm := h.lo
  have hh := h.hi
  refine ⟨hm, hh, by rw [p.1]; exact h.size, permIn_all d d' a m (· < x) (by have := h.size; omega) p h.left, ?_, fun k k1 k2 => ?_⟩
  · rw [p.2.1 m (.inr (Nat.le_refl m))]; exact h.at_
  · rw [p.2.1 k (.inr (by omega))]; exact h.right k k1 k2
theorem Parted.sortRight (h : Parted a m b x d) (p : PermIn (m + 1) b d d') : Parted a m b x d' := by
  have hm := h.lo
  have hh := h.hi
  refine ⟨hm, hh, by rw [p.1]; exact h.size, fun k k1 k2 => ?_, ?_, fun k k1 k2 => permIn_all d d' (m + 1) b (x ≤ ·) h.size p (fun i i1 i2 => h.right i (by omega) i2) k (by omega) k2⟩
  · rw [p.2.1 k (.inl (by omega))]; exact h.left k k1 k2
  · rw [p.2.1 m (.inl (by omega))]; exact h.at_
theorem Parted.whole (h : Parted a m b x d) (s1 : SortedIn ltInt a m d) (s2 : SortedIn ltInt (m + 1) b d) : SortedIn ltInt a b d := by
  intro i j hi hij hj
  have at_ := h.at_
  by_cases e1 : j < m
  · exact s1 i j hi hij e1
  by_cases e2 : m < i
  · exact s2 i j (by omega) hij hj
  have hle : d[i]! ≤ x := by
    rcases Nat.lt_or_ge i m with q | q
    · exact Int.le_of_lt (h.left i hi q)
    · obtain rfl : i = m := by omega
      exact Int.le_of_eq at_
  have hge : x ≤ d[j]! := by
    rcases Nat.lt_or_ge m j with q | q
    · exact h.right j q hj
    · obtain rfl : j = m := by omega
      exact Int.le_of_eq at_.symm
  exact lt_f.2 (Int.le_trans hle hge)
theorem Parted.perm (h : Parted a m b x d) : (PermIn a m d d' → PermIn a b d d') ∧ (PermIn (m + 1) b d d' → PermIn a b d d') :=
  ⟨permIn_mono d d' a m a b (Nat.le_refl a) (Nat.le_of_lt h.hi) h.size, permIn_mono d d' (m + 1) b a b (by have := h.lo; omega) (Nat.le_refl b) h.size⟩
theorem keep_sorted {i j : Nat} (s : SortedIn ltInt i j d) (h : ∀ k, i ≤ k → k < j → d'[k]! = d[k]!) : SortedIn ltInt i j d' := by
  intro p q hp hpq hq
  rw [h p hp (by omega), h q (by omega) hq]
  exact s p q hp hpq hq
/-- the left part is sorted; the right one is what is left -/
theorem Parted.thenRight {d0 : Array Int} (h : Parted a m b x d) (p0 : PermIn a b d0 d) (p : PermIn a m d d') (s : SortedIn ltInt a m d') : Sort.Below ltInt (m + 1) b d' ∧ Fin' a b d0 (m + 1) b d' := by
  have h' := h.sortLeft p
  refine ⟨.inr fun i i1 i2 => ?_, fun R pR sR => ?_⟩
  · rw [Nat.add_sub_cancel, h'.at_]; exact lt_f.2 (h'.right i (by omega) i2)
  · exact ⟨permIn_trans _ _ _ a b p0 (permIn_trans _ _ _ a b (h.perm.1 p) (h'.perm.2 pR)), (h'.sortRight pR).whole (keep_sorted s fun k _ k2 => pR.2.1 k (.inl (by omega))) sR⟩
/-- the right part is sorted; the left one is what is left -/
theorem Parted.thenLeft {d0 : Array Int} (h : Parted a m b x d) (p0 : PermIn a b d0 d) (hB : Sort.Below ltInt a b d) (p : PermIn (m + 1) b d d') (s : SortedIn ltInt (m + 1) b d') : Sort.Below ltInt a m d' ∧ Fin' a b d0 a m d' := by
  have h' := h.sortRight p
  have hm := h.lo
  have hh := h.hi
  refine ⟨?_, fun R pR sR => ?_⟩
  · rcases hB with e | e
    · exact .inl e
    · refine .inr fun i i1 i2 => ?_
      rw [p.2.1 i (.inl (by omega)), p.2.1 (a - 1) (.inl (by omega))]
      exact e i i1 (by omega)
  · exact ⟨permIn_trans _ _ _ a b p0 (permIn_trans _ _ _ a b (h.perm.2 p) (h'.perm.1 pR)), (h'.sortLeft pR).whole sR (keep_sorted s fun k k1 _ => pR.2.1 k (.inr (by omega)))⟩
/-- those equal to x stand ahead, those above it are what is left -/
theorem equals {d0 : Array Int} (hm : a < m) (hmb : m ≤ b) (hs : b ≤ d.size) (p0 : PermIn a b d0 d) (hge : ∀ k, a ≤ k → k < b → x ≤ d[k]!) (hlo : ∀ k, a ≤ k → k < m → d[k]! ≤ x) (hhi : ∀ k, m ≤ k → k < b → x < d[k]!) :
    Sort.Below ltInt m b d ∧ Fin' a b d0 m b d := by
  refine ⟨.inr fun i i1 i2 => lt_f.2 ?_, fun R pR sR => ⟨permIn_trans _ _ _ a b p0 (permIn_mono _ _ m b a b (by omega) (Nat.le_refl b) hs pR), ?_⟩⟩
  · have := hlo (m - 1) (by omega) (by omega)
    have := hhi i i1 i2
    omega
  · have hR := permIn_all d R m b (x < ·) hs pR hhi
    have hE : ∀ k, a ≤ k → k < m → R[k]! = x := fun k k1 k2 => by
      rw [pR.2.1 k (.inl k2)]
      exact Int.le_antisymm (hlo k k1 k2) (hge k k1 (by omega))
    intro i j hi hij hj
    by_cases e : m ≤ i
    · exact sR i j e hij hj
    · refine lt_f.2 ?_
      rw [hE i hi (by omega)]
      rcases Nat.lt_or_ge j m with q | q
      · exact Int.le_of_eq (hE j (by omega) q).symm
      · exact Int.le_of_lt (hR j q hj)
theorem Fin'.comp {a b a' b' a2 b2 : Nat} {d0 dk d2 : Array Int} (h : Fin' a b d0 a' b' dk) (k : Fin' a' b' dk a2 b2 d2) : Fin' a b d0 a2 b2 d2 := fun R p s => h R (k R p s).1 (k R p s).2
theorem Fin'.refl : Fin' a b d a b d := fun _ p s => ⟨p, s⟩
end
end Go.Proofs.Ytkoalpbognpphaa
