/- Clocks that keep to a drift, as plain mathematics. No program is named here. -/
import Derived.Test.YtconfkjchjcjgaaWords
namespace Go.Proofs.Ytconfkjchjcjgaa
set_option linter.unusedVariables false

/-- how far a clock has gone on behind the first k steps -/
def pre (own : List Int) (k : Nat) : Int := (own.take k).sum
theorem pre_zero (own : List Int) : pre own 0 = 0 := by simp [pre]
theorem pre_succ (own : List Int) (k : Nat) (h : k < own.length) : pre own (k + 1) = pre own k + own[k] := by
  unfold pre
  rw [List.take_succ_eq_append_getElem h, List.sum_append]
  simp
/-- ahead of the slowest, of the fastest, in thousandths -/
def osl (d : Int) (own : List Int) (k : Nat) : Int := 1000 * pre own k - (1000 - d) * k
def ofs (d : Int) (own : List Int) (k : Nat) : Int := 1000 * pre own k - (1000 + d) * k
def Pair (d : Int) (own : List Int) (j k : Nat) : Prop := osl d own j - 2000 ≤ osl d own k ∧ ofs d own k ≤ ofs d own j + 2000
/-- each part keeps to the drift -/
def Kp (d : Int) (own : List Int) : Prop := ∀ k, k ≤ own.length → ∀ j, j < k → Pair d own j k
noncomputable def kpB (d : Int) (own : List Int) : Bool := @decide (Kp d own) (Classical.propDecidable _)
theorem kpB_true {d : Int} {own : List Int} (h : Kp d own) : kpB d own = true := by unfold kpB; exact @decide_eq_true _ (Classical.propDecidable _) h
theorem kpB_false {d : Int} {own : List Int} (h : ¬ Kp d own) : kpB d own = false := by unfold kpB; exact @decide_eq_false _ (Classical.propDecidable _) h
theorem kpB_iff {d : Int} {own : List Int} : kpB d own = true ↔ Kp d own := by unfold kpB; exact @decide_eq_true_iff _ (Classical.propDecidable _)
theorem osl_zero (d : Int) (own : List Int) : osl d own 0 = 0 := by simp [osl, pre_zero]
theorem ofs_zero (d : Int) (own : List Int) : ofs d own 0 = 0 := by simp [ofs, pre_zero]

/-- in the document's own words -/
theorem pair_iff {d : Int} {own : List Int} {j k : Nat} : Pair d own j k ↔ (1000 * ((k : Int) - j) - ((k : Int) - j) * d - 2000 ≤ 1000 * (pre own k - pre own j) ∧ 1000 * (pre own k - pre own j) ≤ 1000 * ((k : Int) - j) + ((k : Int) - j) * d + 2000) := by
  unfold Pair osl ofs
  have e1 : (1000 - d) * (k : Int) = 1000 * k - k * d := by rw [Int.sub_mul, Int.mul_comm d]
  have e2 : (1000 - d) * (j : Int) = 1000 * j - j * d := by rw [Int.sub_mul, Int.mul_comm d]
  have e3 : (1000 + d) * (k : Int) = 1000 * k + k * d := by rw [Int.add_mul, Int.mul_comm d]
  have e4 : (1000 + d) * (j : Int) = 1000 * j + j * d := by rw [Int.add_mul, Int.mul_comm d]
  have e5 : ((k : Int) - j) * d = k * d - j * d := by rw [Int.sub_mul]
  rw [e1, e2, e3, e4, e5]
  constructor <;> intro h <;> omega

/-- how far the walk over the sums has come -/
structure Way (d : Int) (own : List Int) (k : Nat) (M L : Int) : Prop where
  fine : ∀ k', k' < k → ∀ j, j < k' → Pair d own j k'
  most : ∀ j, j < k → osl d own j ≤ M
  mostAt : M = 0 ∨ ∃ j, j < k ∧ M = osl d own j
  least : ∀ j, j < k → L ≤ ofs d own j
  leastAt : L = 0 ∨ ∃ j, j < k ∧ L = ofs d own j
theorem Way.start (d : Int) (own : List Int) : Way d own 0 0 0 := ⟨fun _ h => by omega, fun _ h => by omega, .inl rfl, fun _ h => by omega, .inl rfl⟩
theorem Way.bad {d : Int} {own : List Int} {k : Nat} {M L : Int} (w : Way d own k M L) (hk : k ≤ own.length) (h : osl d own k < M - 2000 ∨ L + 2000 < ofs d own k) : ¬ Kp d own := by
  intro hp
  have hz := osl_zero d own
  have hz' := ofs_zero d own
  rcases h with h | h
  · rcases w.mostAt with e | ⟨j, hj, e⟩
    · have h0 : 0 < k := by
        rcases Nat.eq_zero_or_pos k with q | q
        · subst q; omega
        · exact q
      have := (hp k hk 0 h0).1
      omega
    · have := (hp k hk j hj).1
      omega
  · rcases w.leastAt with e | ⟨j, hj, e⟩
    · have h0 : 0 < k := by
        rcases Nat.eq_zero_or_pos k with q | q
        · subst q; omega
        · exact q
      have := (hp k hk 0 h0).2
      omega
    · have := (hp k hk j hj).2
      omega
theorem Way.step {d : Int} {own : List Int} {k : Nat} {M L : Int} (w : Way d own k M L) (h1 : M - 2000 ≤ osl d own k) (h2 : ofs d own k ≤ L + 2000) : Way d own (k + 1) (max M (osl d own k)) (min L (ofs d own k)) := by
  refine ⟨fun k' hk' j hj => ?_, fun j hj => ?_, ?_, fun j hj => ?_, ?_⟩
  · by_cases e : k' = k
    · subst e
      have a := w.most j hj
      have b := w.least j hj
      exact ⟨by omega, by omega⟩
    · exact w.fine k' (by omega) j hj
  · by_cases e : j = k
    · subst e; omega
    · have := w.most j (by omega); omega
  · by_cases e : M ≤ osl d own k
    · exact .inr ⟨k, by omega, by omega⟩
    · rcases w.mostAt with q | ⟨j, hj, q⟩
      · left; omega
      · exact .inr ⟨j, by omega, by omega⟩
  · by_cases e : j = k
    · subst e; omega
    · have := w.least j (by omega); omega
  · by_cases e : ofs d own k ≤ L
    · exact .inr ⟨k, by omega, by omega⟩
    · rcases w.leastAt with q | ⟨j, hj, q⟩
      · left; omega
      · exact .inr ⟨j, by omega, by omega⟩
theorem Way.done {d : Int} {own : List Int} {M L : Int} (w : Way d own (own.length + 1) M L) : Kp d own := fun k hk j hj => w.fine k (by omega) j hj

/-- numbers of a course -/
def InB (own : List Int) : Prop := ∀ x ∈ own, 0 ≤ x ∧ x ≤ 1048576
theorem pre_bound {own : List Int} (h : InB own) : ∀ k, k ≤ own.length → 0 ≤ pre own k ∧ pre own k ≤ k * 1048576
  | 0, _ => by simp [pre_zero]
  | k + 1, hk => by
    have ih := pre_bound h k (by omega)
    rw [pre_succ own k (by omega)]
    have := h own[k] (List.getElem_mem _)
    have e : ((k + 1 : Nat) : Int) * 1048576 = (k : Int) * 1048576 + 1048576 := by omega
    rw [e]
    omega
theorem pre_bound40 {own : List Int} (h : InB own) (hn : own.length ≤ 1048576) (k : Nat) (hk : k ≤ own.length) : 0 ≤ pre own k ∧ pre own k ≤ 1099511627776 := by
  have := pre_bound h k hk
  omega
theorem mul_bound {d : Int} {k : Nat} (h0 : 0 ≤ d) (h1 : d ≤ 500) (hk : k ≤ 1048576) : (0 ≤ (1000 - d) * (k : Int) ∧ (1000 - d) * (k : Int) ≤ 1048576000) ∧ (0 ≤ (1000 + d) * (k : Int) ∧ (1000 + d) * (k : Int) ≤ 1572864000) := by
  have a := Int.mul_nonneg (show (0 : Int) ≤ 1000 - d by omega) (show (0 : Int) ≤ (k : Int) by omega)
  have b := Int.mul_nonneg (show (0 : Int) ≤ 1000 + d by omega) (show (0 : Int) ≤ (k : Int) by omega)
  have c := Int.mul_le_mul_of_nonneg_right (show 1000 - d ≤ 1000 by omega) (show (0 : Int) ≤ (k : Int) by omega)
  have e := Int.mul_le_mul_of_nonneg_right (show 1000 + d ≤ 1500 by omega) (show (0 : Int) ≤ (k : Int) by omega)
  omega

/-- the wait -/
def waitOf (lease d : Int) : Int := ((lease + 2) * (1000 + d) + (1000 - d) - 1) / (1000 - d) + 2
theorem wait_bound {lease d : Int} (h0 : 0 ≤ d) (h1 : d ≤ 500) (h2 : 1 ≤ lease) (h3 : lease ≤ 1048576) : 0 ≤ (lease + 2) * (1000 + d) ∧ (lease + 2) * (1000 + d) ≤ 1572867000 ∧ 0 ≤ (lease + 2) * (1000 + d) + (1000 - d) - 1 ∧ 2 ≤ waitOf lease d ∧ waitOf lease d ≤ 1572869000 := by
  have a := Int.mul_nonneg (show (0 : Int) ≤ lease + 2 by omega) (show (0 : Int) ≤ 1000 + d by omega)
  have b := Int.mul_le_mul_of_nonneg_left (show 1000 + d ≤ 1500 by omega) (show (0 : Int) ≤ lease + 2 by omega)
  have hq : ((lease + 2) * (1000 + d) + (1000 - d) - 1) / (1000 - d) ≤ (lease + 2) * (1000 + d) + (1000 - d) - 1 := Int.ediv_le_self _ (by omega)
  have hq0 : 0 ≤ ((lease + 2) * (1000 + d) + (1000 - d) - 1) / (1000 - d) := Int.ediv_nonneg (by omega) (by omega)
  unfold waitOf
  refine ⟨a, by omega, by omega, by omega, by omega⟩
/-- who has gone on by it has surely waited: the least such number -/
theorem wait_iff {lease d m : Int} (h0 : 0 ≤ d) (h1 : d ≤ 500) : (lease + 2) * (1000 + d) ≤ (m - 2) * (1000 - d) ↔ waitOf lease d ≤ m := by
  unfold waitOf
  have hp : (0 : Int) < 1000 - d := by omega
  generalize (lease + 2) * (1000 + d) = X
  generalize 1000 - d = c at hp
  constructor
  · intro h
    have : (X + c - 1) / c < m - 2 + 1 := by
      rw [Int.ediv_lt_iff_lt_mul hp, Int.add_mul, Int.one_mul]
      omega
    omega
  · intro h
    have h2 : (X + c - 1) / c < m - 2 + 1 := by omega
    rw [Int.ediv_lt_iff_lt_mul hp, Int.add_mul, Int.one_mul] at h2
    omega
/-- P8.4 -/
theorem lease_over {d : Int} {a b : List Int} {i k : Nat} {lease : Int} (h0 : 0 ≤ d) (h1 : d ≤ 500) (hl : 1 ≤ lease) (hlen : a.length = b.length) (ha : Kp d a) (hb : Kp d b) (hik : i < k) (hk : k ≤ a.length) (hw : waitOf lease d ≤ pre a k - pre a i) : lease ≤ pre b k - pre b i := by
  have hA := (pair_iff.1 (ha k hk i hik)).2
  have hB := (pair_iff.1 (hb k (by omega) i hik)).1
  have hw' := (wait_iff (lease := lease) h0 h1).2 hw
  generalize pre a k - pre a i = x at hA hw'
  generalize pre b k - pre b i = y at hB ⊢
  have hg : (0 : Int) < (k : Int) - i := by omega
  generalize (k : Int) - i = g at hA hB hg
  -- 1000 (x - 2) ≤ g (1000 + d);  g (1000 - d) ≤ 1000 (y + 2);  (lease + 2)(1000 + d) ≤ (x - 2)(1000 - d)
  have q1 : 1000 * (x - 2) ≤ g * (1000 + d) := by rw [Int.mul_add]; omega
  have q2 : g * (1000 - d) ≤ 1000 * (y + 2) := by rw [Int.mul_sub]; omega
  have r1 := Int.mul_le_mul_of_nonneg_right q1 (show (0 : Int) ≤ 1000 - d by omega)
  have r2 := Int.mul_le_mul_of_nonneg_right q2 (show (0 : Int) ≤ 1000 + d by omega)
  have r3 := Int.mul_le_mul_of_nonneg_left hw' (show (0 : Int) ≤ 1000 by omega)
  have e1 : g * (1000 + d) * (1000 - d) = g * (1000 - d) * (1000 + d) := by rw [Int.mul_assoc, Int.mul_comm (1000 + d), ← Int.mul_assoc]
  have e2 : 1000 * (x - 2) * (1000 - d) = 1000 * ((x - 2) * (1000 - d)) := Int.mul_assoc _ _ _
  have e3 : 1000 * (y + 2) * (1000 + d) = 1000 * ((y + 2) * (1000 + d)) := Int.mul_assoc _ _ _
  rw [e1, e2] at r1
  rw [e3] at r2
  have r4 : (lease + 2) * (1000 + d) ≤ (y + 2) * (1000 + d) := by omega
  have := Int.le_of_mul_le_mul_right r4 (show (0 : Int) < 1000 + d by omega)
  omega
end Go.Proofs.Ytconfkjchjcjgaa
