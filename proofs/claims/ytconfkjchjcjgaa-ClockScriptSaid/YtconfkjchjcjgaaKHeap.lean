/- Heaps as plain mathematics: an array is a function from places, of which the first n count. No program is named here. -/
import Derived.Test.YtconfkjchjcjgaaWords
namespace Go.Proofs.Ytconfkjchjcjgaa
set_option linter.unusedVariables false

section
variable {α : Type} {lt : α → α → Bool} {f g h : Nat → α} {n i j : Nat}

/-- the place above -/
def par (k : Nat) : Nat := (k - 1) / 2
/-- two places changed -/
def swp (f : Nat → α) (i j : Nat) : Nat → α := fun k => if k = i then f j else if k = j then f i else f k
/-- the same elements at other places -/
structure Rea (f g : Nat → α) (n : Nat) : Prop where
  to : ∀ k, k < n → ∃ j, j < n ∧ g k = f j
  of : ∀ k, k < n → ∃ j, j < n ∧ f k = g j
  inj : (∀ j k, j < n → k < n → f j = f k → j = k) → ∀ j k, j < n → k < n → g j = g k → j = k
  far : ∀ k, n ≤ k → g k = f k

theorem Rea.refl (f : Nat → α) (n : Nat) : Rea f f n := ⟨fun k hk => ⟨k, hk, rfl⟩, fun k hk => ⟨k, hk, rfl⟩, fun h => h, fun _ _ => rfl⟩
theorem Rea.trans (a : Rea f g n) (b : Rea g h n) : Rea f h n :=
  ⟨fun k hk => by
    obtain ⟨j, hj, e⟩ := b.to k hk
    obtain ⟨i, hi, e'⟩ := a.to j hj
    exact ⟨i, hi, e.trans e'⟩,
   fun k hk => by
    obtain ⟨j, hj, e⟩ := a.of k hk
    obtain ⟨i, hi, e'⟩ := b.of j hj
    exact ⟨i, hi, e.trans e'⟩,
   fun hh => b.inj (a.inj hh), fun k hk => (b.far k hk).trans (a.far k hk)⟩
theorem swp_i (f : Nat → α) (i j : Nat) : swp f i j i = f j := by simp [swp]
theorem swp_j (f : Nat → α) (i j : Nat) : swp f i j j = f i := by
  unfold swp
  split
  · rename_i h; rw [h]
  · simp
theorem swp_far (f : Nat → α) {i j k : Nat} (hi : k ≠ i) (hj : k ≠ j) : swp f i j k = f k := by simp [swp, hi, hj]
theorem Rea.swp (f : Nat → α) (hi : i < n) (hj : j < n) : Rea f (swp f i j) n := by
  refine ⟨fun k hk => ?_, fun k hk => ?_, fun hh a b ha hb e => ?_, fun k hk => swp_far f (by omega) (by omega)⟩
  · by_cases h1 : k = i
    · exact ⟨j, hj, by rw [h1, swp_i]⟩
    · by_cases h2 : k = j
      · exact ⟨i, hi, by rw [h2, swp_j]⟩
      · exact ⟨k, hk, swp_far f h1 h2⟩
  · by_cases h1 : k = i
    · exact ⟨j, hj, by rw [h1, swp_j]⟩
    · by_cases h2 : k = j
      · exact ⟨i, hi, by rw [h2, swp_i]⟩
      · exact ⟨k, hk, (swp_far f h1 h2).symm⟩
  · have key : ∀ k, k < n → ∃ m, m < n ∧ Go.Proofs.Ytconfkjchjcjgaa.swp f i j k = f m ∧ m = (if k = i then j else if k = j then i else k) := fun k hk => by
      by_cases h1 : k = i
      · exact ⟨j, hj, by rw [h1, swp_i], by simp [h1]⟩
      · by_cases h2 : k = j
        · exact ⟨i, hi, by rw [h2, swp_j], by rw [if_neg h1, if_pos h2]⟩
        · exact ⟨k, hk, swp_far f h1 h2, by rw [if_neg h1, if_neg h2]⟩
    obtain ⟨m, hm, e1, e2⟩ := key a ha
    obtain ⟨m', hm', e1', e2'⟩ := key b hb
    have := hh m m' hm hm' (by rw [← e1, ← e1', e])
    rw [e2, e2'] at this
    split at this <;> split at this <;> (try split at this) <;> (try split at this) <;> omega
theorem Rea.more (a : Rea f g n) {m : Nat} (hm : n ≤ m) : Rea f g m := by
  refine ⟨fun k hk => ?_, fun k hk => ?_, fun hh x y hx hy e => ?_, fun k hk => a.far k (by omega)⟩
  · by_cases h1 : k < n
    · obtain ⟨j, hj, e⟩ := a.to k h1
      exact ⟨j, by omega, e⟩
    · exact ⟨k, hk, a.far k (by omega)⟩
  · by_cases h1 : k < n
    · obtain ⟨j, hj, e⟩ := a.of k h1
      exact ⟨j, by omega, e⟩
    · exact ⟨k, hk, (a.far k (by omega)).symm⟩
  · by_cases hx1 : x < n <;> by_cases hy1 : y < n
    · exact a.inj (fun j k hj hk => hh j k (by omega) (by omega)) x y hx1 hy1 e
    · exfalso
      obtain ⟨j, hj, e1⟩ := a.to x hx1
      rw [e1, a.far y (by omega)] at e
      have := hh j y (by omega) hy e
      omega
    · exfalso
      obtain ⟨j, hj, e1⟩ := a.to y hy1
      rw [e1, a.far x (by omega)] at e
      have := hh x j hx (by omega) e
      omega
    · rw [a.far x (by omega), a.far y (by omega)] at e
      exact hh x y hx hy e

/-- a heap -/
def Hp (lt : α → α → Bool) (f : Nat → α) (n : Nat) : Prop := ∀ k, 0 < k → k < n → lt (f k) (f (par k)) = false
/-- a heap but for what stands at i -/
structure Hole (lt : α → α → Bool) (f : Nat → α) (n i : Nat) : Prop where
  else_ : ∀ k, 0 < k → k < n → k ≠ i → par k ≠ i → lt (f k) (f (par k)) = false
  over : ∀ k, 0 < k → k < n → par k = i → 0 < i → lt (f k) (f (par i)) = false
/-- a heap but for what stands at i and above it -/
structure Up (lt : α → α → Bool) (f : Nat → α) (n i : Nat) : Prop where
  else_ : ∀ k, 0 < k → k < n → k ≠ i → lt (f k) (f (par k)) = false
  over : ∀ k, 0 < k → k < n → par k = i → 0 < i → lt (f k) (f (par i)) = false
/-- a heap but for what stands at i and below it -/
structure Down (lt : α → α → Bool) (f : Nat → α) (n i : Nat) : Prop where
  else_ : ∀ k, 0 < k → k < n → par k ≠ i → lt (f k) (f (par k)) = false
  over : ∀ k, 0 < k → k < n → par k = i → 0 < i → lt (f k) (f (par i)) = false

structure Ord (lt : α → α → Bool) : Prop where
  asy : ∀ a b, lt a b = true → lt b a = false
  tr : ∀ a b c, lt a b = false → lt b c = false → lt a c = false

theorem Hp.top (O : Ord lt) (hp : Hp lt f n) : ∀ k, k < n → lt (f k) (f 0) = false := by
  intro k
  induction k using Nat.strongRecOn with
  | _ k ih =>
    intro hk
    by_cases h0 : k = 0
    · subst h0
      cases e : lt (f 0) (f 0)
      · rfl
      · have := O.asy _ _ e; rw [e] at this; exact this
    · have h1 : par k < k := by unfold par; omega
      exact O.tr _ _ _ (hp k (by omega) hk) (ih (par k) h1 (by omega))
theorem par_lt {k : Nat} (h : 0 < k) : par k < k := by unfold par; omega
theorem Hp.hole (hp : Hp lt f n) (O : Ord lt) (i : Nat) (x : α) : Hole lt (fun k => if k = i then x else f k) n i := by
  refine ⟨fun k h0 hk h1 h2 => ?_, fun k h0 hk h1 hi => ?_⟩
  · simp only [h1, h2, if_false]
    exact hp k h0 hk
  · have h2 : k ≠ i := by have := par_lt h0; omega
    have h3 : par i ≠ i := by have := par_lt hi; omega
    simp only [h2, h3, if_false]
    have a := hp k h0 hk
    rw [h1] at a
    have hin : i < n := by have := par_lt h0; omega
    exact O.tr _ _ _ a (hp i hi hin)
theorem Hp.up (hp : Hp lt f n) (x : α) : Up lt (fun k => if k = n then x else f k) (n + 1) n := by
  refine ⟨fun k h0 hk h1 => ?_, fun k h0 hk h1 hi => ?_⟩
  · have h2 : par k ≠ n := by have := par_lt h0; omega
    simp only [h1, h2, if_false]
    exact hp k h0 (by omega)
  · have := par_lt h0
    omega
/-- the walk up has come to its end -/
theorem Up.done (hu : Up lt f n i) (h : i = 0 ∨ lt (f i) (f (par i)) = false) : Hp lt f n := by
  intro k h0 hk
  by_cases h1 : k = i
  · subst h1
    rcases h with h | h
    · omega
    · exact h
  · exact hu.else_ k h0 hk h1
theorem Up.step (O : Ord lt) (hu : Up lt f n i) (hi : 0 < i) (hin : i < n) (h : lt (f i) (f (par i)) = true) : Up lt (swp f (par i) i) n (par i) := by
  have hpi := par_lt hi
  refine ⟨fun k h0 hk h1 => ?_, fun k h0 hk h1 hp => ?_⟩
  · have hpk := par_lt h0
    by_cases hki : k = i
    · subst hki
      rw [swp_j, swp_i]
      exact O.asy _ _ h
    · rw [swp_far f h1 hki]
      by_cases h2 : par k = par i
      · rw [h2, swp_i]
        have a := hu.else_ k h0 hk hki
        rw [h2] at a
        exact O.tr _ _ _ a (O.asy _ _ h)
      · by_cases h3 : par k = i
        · rw [h3, swp_j]
          exact hu.over k h0 hk h3 hi
        · rw [swp_far f h2 h3]
          exact hu.else_ k h0 hk hki
  · have hpk := par_lt h0
    have hpp := par_lt hp
    rw [swp_far f (show par (par i) ≠ par i by omega) (by omega)]
    have b := hu.else_ (par i) hp (by omega) (by omega)
    by_cases hki : k = i
    · subst hki
      rw [swp_j]
      exact b
    · rw [swp_far f (by omega) hki]
      have a := hu.else_ k h0 hk hki
      rw [h1] at a
      exact O.tr _ _ _ a b
/-- the walk down: at its first place -/
theorem Hole.up (hh : Hole lt f n i) (h : ∀ k, 0 < k → k < n → par k = i → lt (f k) (f i) = false) : Up lt f n i :=
  ⟨fun k h0 hk h1 => by
    by_cases h2 : par k = i
    · rw [h2]; exact h k h0 hk h2
    · exact hh.else_ k h0 hk h1 h2, hh.over⟩
theorem Down.done (hd : Down lt f n i) (h : ∀ k, 0 < k → k < n → par k = i → lt (f k) (f i) = false) : Hp lt f n := fun k h0 hk => by
  by_cases h2 : par k = i
  · rw [h2]; exact h k h0 hk h2
  · exact hd.else_ k h0 hk h2
theorem Down.hole (hd : Down lt f n i) : Hole lt f n i := ⟨fun k h0 hk _ h2 => hd.else_ k h0 hk h2, hd.over⟩
/-- one step down, to the lesser one below -/
theorem Hole.step (O : Ord lt) (hh : Hole lt f n i) (hj0 : 0 < j) (hjn : j < n) (hj : par j = i) (hl : lt (f j) (f i) = true) (hmin : ∀ k, 0 < k → k < n → par k = i → lt (f k) (f j) = false) : Down lt (swp f i j) n j := by
  have hij := par_lt hj0
  refine ⟨fun k h0 hk h1 => ?_, fun k h0 hk h1 hp => ?_⟩
  · have hpk := par_lt h0
    by_cases hki : k = i
    · subst hki
      rw [swp_i, swp_far f (by omega) h1]
      exact hh.over j hj0 hjn hj (by omega)
    · by_cases hkj : k = j
      · subst hkj
        rw [swp_j, hj, swp_i]
        exact O.asy _ _ hl
      · rw [swp_far f hki hkj]
        by_cases h2 : par k = i
        · rw [h2, swp_i]
          exact hmin k h0 hk h2
        · rw [swp_far f h2 h1]
          exact hh.else_ k h0 hk hki h2
  · have hpk := par_lt h0
    rw [swp_far f (by omega) (by omega), hj, swp_i]
    have := hh.else_ k h0 hk (by omega) (by omega)
    rwa [h1] at this
/-- the heap without its last one -/
theorem Hp.less (hp : Hp lt f n) {m : Nat} (hm : m ≤ n) : Hp lt f m := fun k h0 hk => hp k h0 (by omega)
/-- the last one put into another's place -/
theorem Hp.cut (O : Ord lt) (hp : Hp lt f (n + 1)) (hi : i < n) : Hole lt (swp f i n) n i := by
  have h := (hp.less (Nat.le_succ n)).hole O i (f n)
  refine ⟨fun k h0 hk h1 h2 => ?_, fun k h0 hk h1 hp' => ?_⟩
  · have := h.else_ k h0 hk h1 h2
    have hpk := par_lt h0
    rw [swp_far f h1 (by omega), swp_far f h2 (by omega)]
    simpa [h1, h2] using this
  · have := h.over k h0 hk h1 hp'
    have hpk := par_lt h0
    have hpi := par_lt hp'
    rw [swp_far f (by omega) (by omega), swp_far f (by omega) (by omega)]
    have e1 : k ≠ i := by omega
    have e2 : par i ≠ i := by omega
    simpa [e1, e2] using this
end
end Go.Proofs.Ytconfkjchjcjgaa
