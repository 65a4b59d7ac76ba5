/- Names that are set once, and told once, as plain mathematics. -/
import Derived.Test.YtconfkjchjcjgaaKList
namespace Go.Proofs.Ytconfkjchjcjgaa
set_option linter.unusedVariables false

theorem nodup_len {l m : List It} (hl : l.Nodup) (h : ∀ x ∈ l, x ∈ m) : l.length ≤ m.length := by
  induction l generalizing m with
  | nil => exact Nat.zero_le _
  | cons x l ih =>
    rw [List.nodup_cons] at hl
    have hx := h x List.mem_cons_self
    have h2 := ih (m := m.erase x) hl.2 fun y hy => by
      have hne : y ≠ x := fun e => hl.1 (by rw [← e]; exact hy)
      exact (List.mem_erase_of_ne hne).2 (h y (List.mem_cons_of_mem _ hy))
    rw [List.length_erase_of_mem hx] at h2
    have := List.length_pos_of_mem hx
    rw [List.length_cons]
    omega
theorem mem_due {t : Int} {L : List It} (h : Srt L) {x : It} : x ∈ due t L ↔ x ∈ L ∧ x.at_ ≤ t := by
  induction L with
  | nil => simp [due]
  | cons y L ih =>
    unfold Srt at h
    rw [List.pairwise_cons] at h
    unfold due at ih ⊢
    rw [List.takeWhile_cons]
    by_cases hy : y.at_ ≤ t
    · rw [if_pos (by simpa using hy), List.mem_cons, List.mem_cons, ih h.2]
      constructor
      · rintro (rfl | ⟨h1, h2⟩)
        · exact ⟨.inl rfl, hy⟩
        · exact ⟨.inr h1, h2⟩
      · rintro ⟨rfl | h1, h2⟩
        · exact .inl rfl
        · exact .inr ⟨h1, h2⟩
    · rw [if_neg (by simpa using hy)]
      constructor
      · intro e; cases e
      · rintro ⟨h1, h2⟩
        rcases List.mem_cons.1 h1 with rfl | h1
        · exact absurd h2 hy
        · have := ltI_at (h.1 _ h1)
          omega
theorem mem_rest {t : Int} {L : List It} (h : Srt L) {x : It} : x ∈ rest t L ↔ x ∈ L ∧ t < x.at_ := by
  induction L with
  | nil => simp [rest]
  | cons y L ih =>
    have h' := h
    unfold Srt at h
    rw [List.pairwise_cons] at h
    unfold rest at ih ⊢
    rw [List.dropWhile_cons]
    by_cases hy : y.at_ ≤ t
    · rw [if_pos (by simpa using hy), ih h.2]
      constructor
      · rintro ⟨h1, h2⟩; exact ⟨List.mem_cons_of_mem _ h1, h2⟩
      · rintro ⟨h1, h2⟩
        rcases List.mem_cons.1 h1 with rfl | h1
        · omega
        · exact ⟨h1, h2⟩
    · rw [if_neg (by simpa using hy)]
      constructor
      · intro h1
        refine ⟨h1, ?_⟩
        rcases List.mem_cons.1 h1 with rfl | h1
        · omega
        · have := ltI_at (h.1 _ h1); omega
      · exact fun q => q.1
theorem due_sub (t : Int) (L : List It) : (due t L).Sublist L := List.takeWhile_sublist _
theorem rest_sub (t : Int) (L : List It) : (rest t L).Sublist L := List.dropWhile_sublist _
theorem nod_nodup {L : List It} (h : Nod L) : L.Nodup := h.imp fun e q => e (by rw [q])

/-- what is left of each name, and the watch's list -/
structure Rl (F : Nat → Int) (nm : Nat → ByteArray) (N : Nat) (L : List It) : Prop where
  nn : ∀ k, k < N → 0 ≤ F k
  to : ∀ k, k < N → 0 < F k → (⟨nm k, F k⟩ : It) ∈ L
  of : ∀ x ∈ L, ∃ k, k < N ∧ nm k = x.nm ∧ F k = x.at_ ∧ 0 < F k
  one : ∀ j k, j < N → k < N → 0 < F j → 0 < F k → nm j = nm k → j = k
section
variable {F : Nat → Int} {nm : Nat → ByteArray} {N i : Nat} {L : List It} {t : Int}
theorem Rl.start (nm : Nat → ByteArray) (N : Nat) : Rl (fun _ => 0) nm N [] := ⟨fun _ _ => Int.le_refl _, fun _ _ h => absurd h (by decide), fun x hx => (by cases hx), fun _ _ _ _ h => absurd h (by decide)⟩
/-- left, behind a name's setting -/
def anewF (F : Nat → Int) (nm : Nat → ByteArray) (i k : Nat) (t : Int) (j : Nat) : Int := if j = i then t else if j < k ∧ nm j = nm i then 0 else F j
theorem Rl.set (h : Rl F nm N L) (hi : i < N) (ht : 0 < t) (hz : ∀ k, i ≤ k → k < N → F k = 0) : Rl (anewF F nm i i t) nm N (setL L ⟨nm i, t⟩) := by
  have e0 : ∀ j, anewF F nm i i t j = if j = i then t else if j < i ∧ nm j = nm i then 0 else F j := fun _ => rfl
  refine ⟨fun k hk => ?_, fun k hk hp => ?_, fun x hx => ?_, fun j k hj hk h1 h2 e => ?_⟩
  · rw [e0]
    split
    · omega
    · split
      · omega
      · exact h.nn k hk
  · rw [e0] at hp ⊢
    by_cases hki : k = i
    · rw [if_pos hki, hki]
      exact mem_set.2 (.inl rfl)
    · rw [if_neg hki] at hp ⊢
      by_cases hq : k < i ∧ nm k = nm i
      · rw [if_pos hq] at hp; omega
      · rw [if_neg hq] at hp ⊢
        refine mem_set.2 (.inr ⟨h.to k hk hp, fun e => hq ⟨?_, e⟩⟩)
        rcases Nat.lt_or_ge k i with q | q
        · exact q
        · have := hz k q hk; omega
  · rcases mem_set.1 hx with rfl | ⟨hx, hne⟩
    · exact ⟨i, hi, rfl, by rw [e0, if_pos rfl], by rw [e0, if_pos rfl]; exact ht⟩
    · obtain ⟨k, hk, e1, e2, e3⟩ := h.of x hx
      have hki : k ≠ i := fun e => by rw [e] at e3; have := hz i (Nat.le_refl _) hi; omega
      have hq : ¬ (k < i ∧ nm k = nm i) := fun q => hne (by rw [← e1]; exact q.2)
      exact ⟨k, hk, e1, by rw [e0, if_neg hki, if_neg hq]; exact e2, by rw [e0, if_neg hki, if_neg hq]; exact e3⟩
  · rw [e0] at h1 h2
    have key : ∀ k, k < N → 0 < (if k = i then t else if k < i ∧ nm k = nm i then 0 else F k) → k ≠ i → 0 < F k ∧ nm k ≠ nm i := fun k hk hp hki => by
      rw [if_neg hki] at hp
      by_cases hq : k < i ∧ nm k = nm i
      · rw [if_pos hq] at hp; omega
      · rw [if_neg hq] at hp
        refine ⟨hp, fun e => hq ⟨?_, e⟩⟩
        rcases Nat.lt_or_ge k i with q | q
        · exact q
        · have := hz k q hk; omega
    by_cases c1 : j = i <;> by_cases c2 : k = i
    · omega
    · exact absurd (by rw [← e, c1]) (key k hk h2 c2).2
    · exact absurd (by rw [e, c2]) (key j hj h1 c1).2
    · exact h.one j k hj hk (key j hj h1 c1).1 (key k hk h2 c2).1 e
/-- left, behind a tick -/
def pastF (F : Nat → Int) (t : Int) (k j : Nat) : Int := if j < k ∧ 0 < F j ∧ F j ≤ t then 0 else F j
theorem Rl.tick (h : Rl F nm N L) (hs : Srt L) : Rl (pastF F t N) nm N (rest t L) := by
  have key : ∀ k, k < N → 0 < pastF F t N k → pastF F t N k = F k ∧ 0 < F k ∧ t < F k := fun k hk hp => by
    unfold pastF at hp ⊢
    split at hp
    · omega
    · rename_i hq
      rw [if_neg hq]
      exact ⟨rfl, hp, by rcases Int.lt_or_le t (F k) with q | q; exact q; exact absurd ⟨hk, hp, q⟩ hq⟩
  refine ⟨fun k hk => ?_, fun k hk hp => ?_, fun x hx => ?_, fun j k hj hk h1 h2 e => ?_⟩
  · unfold pastF
    split
    · omega
    · exact h.nn k hk
  · obtain ⟨e, h1, h2⟩ := key k hk hp
    rw [e]
    exact (mem_rest hs).2 ⟨h.to k hk h1, h2⟩
  · obtain ⟨h1, h2⟩ := (mem_rest hs).1 hx
    obtain ⟨k, hk, e1, e2, e3⟩ := h.of x h1
    have hq : ¬ (k < N ∧ 0 < F k ∧ F k ≤ t) := fun q => by omega
    exact ⟨k, hk, e1, by unfold pastF; rw [if_neg hq]; exact e2, by unfold pastF; rw [if_neg hq]; exact e3⟩
  · exact h.one j k hj hk (key j hj h1).2.1 (key k hk h2).2.1 e
/-- how many are told -/
def cnt (F : Nat → Int) (t : Int) : Nat → Nat
  | 0 => 0
  | k + 1 => cnt F t k + if 0 < F k ∧ F k ≤ t then 1 else 0
theorem cnt_succ (F : Nat → Int) (t : Int) (k : Nat) : cnt F t (k + 1) = cnt F t k + if 0 < F k ∧ F k ≤ t then 1 else 0 := rfl
theorem cnt_le (F : Nat → Int) (t : Int) : ∀ k, cnt F t k ≤ k
  | 0 => Nat.le_refl _
  | k + 1 => by rw [cnt_succ]; have := cnt_le F t k; split <;> omega
theorem cnt_filter (F : Nat → Int) (t : Int) (k : Nat) : cnt F t k = ((List.range k).filter fun j => decide (0 < F j ∧ F j ≤ t)).length := by
  induction k with
  | zero => rfl
  | succ k ih =>
    rw [List.range_succ, List.filter_append, List.length_append, ← ih]
    rw [cnt_succ]
    by_cases h : 0 < F k ∧ F k ≤ t
    · rw [if_pos h, List.filter_cons_of_pos (by simpa using h)]; rfl
    · rw [if_neg h, List.filter_cons_of_neg (by simpa using h)]; rfl
theorem Rl.count (h : Rl F nm N L) (hs : Srt L) (hn : Nod L) : cnt F t N = (due t L).length := by
  rw [cnt_filter, ← List.length_map (f := fun k => (⟨nm k, F k⟩ : It))]
  have mem : ∀ j, j ∈ (List.range N).filter (fun j => decide (0 < F j ∧ F j ≤ t)) ↔ j < N ∧ 0 < F j ∧ F j ≤ t := fun j => by
    rw [List.mem_filter, List.mem_range, decide_eq_true_eq]
  apply Nat.le_antisymm
  · refine nodup_len ?_ fun x hx => ?_
    · refine List.pairwise_map.2 ?_
      have hp : ((List.range N).filter fun j => decide (0 < F j ∧ F j ≤ t)).Nodup := List.Pairwise.filter _ List.nodup_range
      refine List.Pairwise.imp_of_mem (fun {a c} ha hc hne e => ?_) hp
      have h1 := (mem a).1 ha
      have h2 := (mem c).1 hc
      exact hne (h.one a c h1.1 h2.1 h1.2.1 h2.2.1 (congrArg It.nm e))
    · obtain ⟨k, hk, rfl⟩ := List.mem_map.1 hx
      have h1 := (mem k).1 hk
      exact (mem_due hs).2 ⟨h.to k h1.1 h1.2.1, h1.2.2⟩
  · refine nodup_len ((nod_nodup hn).sublist (due_sub t L)) fun x hx => ?_
    obtain ⟨h1, h2⟩ := (mem_due hs).1 hx
    obtain ⟨k, hk, e1, e2, e3⟩ := h.of x h1
    refine List.mem_map.2 ⟨k, (mem k).2 ⟨hk, e3, by omega⟩, ?_⟩
    rw [e1, e2]
end
end Go.Proofs.Ytconfkjchjcjgaa
