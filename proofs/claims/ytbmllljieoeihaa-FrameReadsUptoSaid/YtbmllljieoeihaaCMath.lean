/- The plain mathematics of the checksum: one bit's step is linear and loses nothing; many steps; sums over bytes. No condition. -/
import Derived.WalkKit
import Derived.Test.YtbmllljieoeihaaMath
import Derived.Laws.BitsAllLaws
namespace Go.Proofs.Ytbmllljieoeihaa
set_option linter.unusedVariables false

/-- One bit's step. -/
def stp (s : Nat) : Nat := s / 2 ^^^ (if s % 2 = 1 then 3988292384 else 0)

theorem xlt {a b : Nat} (ha : a < 4294967296) (hb : b < 4294967296) : a ^^^ b < 4294967296 := Nat.xor_lt_two_pow (n := 32) ha hb

theorem xor_cancel (a b : Nat) : a ^^^ (a ^^^ b) = b := by rw [← Nat.xor_assoc, Nat.xor_self, Nat.zero_xor]

theorem stp_lt {s : Nat} (h : s < 4294967296) : stp s < 4294967296 := by
  unfold stp
  refine xlt (by omega) ?_
  split <;> omega

theorem xor_half (a b : Nat) : (a ^^^ b) / 2 = a / 2 ^^^ b / 2 := by
  have := Nat.shiftRight_xor_distrib (a := a) (b := b) (i := 1)
  simpa [Nat.shiftRight_eq_div_pow] using this

theorem xor_odd (a b : Nat) : (a ^^^ b) % 2 = (a % 2 + b % 2) % 2 := by
  have h := Nat.testBit_xor a b 0
  simp only [Nat.testBit_zero] at h
  rcases Nat.mod_two_eq_zero_or_one a with ha | ha <;> rcases Nat.mod_two_eq_zero_or_one b with hb | hb <;> rcases Nat.mod_two_eq_zero_or_one (a ^^^ b) with hc | hc <;> simp_all

theorem stp_xor (a b : Nat) : stp (a ^^^ b) = stp a ^^^ stp b := by
  unfold stp
  rw [xor_half, xor_odd]
  rcases Nat.mod_two_eq_zero_or_one a with ha | ha <;> rcases Nat.mod_two_eq_zero_or_one b with hb | hb <;> simp only [ha, hb]
  · simp
  · simp [Nat.xor_assoc]
  · simp only [↓reduceIte, Nat.xor_zero, Nat.zero_ne_one]
    rw [Nat.xor_assoc, Nat.xor_comm (b / 2), ← Nat.xor_assoc]
  · simp only [Nat.reduceAdd, Nat.reduceMod, ↓reduceIte, Nat.zero_ne_one, Nat.xor_zero]
    rw [Nat.xor_comm (b / 2), Nat.xor_assoc, ← Nat.xor_assoc 3988292384, Nat.xor_self, Nat.zero_xor]

theorem stp_zero : stp 0 = 0 := by decide

theorem stp_inj {s : Nat} (h : s < 4294967296) (h0 : stp s = 0) : s = 0 := by
  unfold stp at h0
  rcases Nat.mod_two_eq_zero_or_one s with hs | hs
  · simp [hs] at h0
    omega
  · simp only [hs, ↓reduceIte] at h0
    have e : s / 2 = 3988292384 := by
      have := congrArg (· ^^^ 3988292384) h0
      simpa [Nat.xor_assoc] using this
    omega

/-- Many steps. -/
def its : Nat → Nat → Nat
  | 0, s => s
  | k + 1, s => its k (stp s)

theorem its_lt (k : Nat) : ∀ {s : Nat}, s < 4294967296 → its k s < 4294967296 := by
  induction k with
  | zero => intro s h; exact h
  | succ k ih => intro s h; exact ih (stp_lt h)

theorem its_xor (k : Nat) : ∀ a b : Nat, its k (a ^^^ b) = its k a ^^^ its k b := by
  induction k with
  | zero => intro a b; rfl
  | succ k ih => intro a b; simp only [its, stp_xor, ih]

theorem its_zero (k : Nat) : its k 0 = 0 := by
  induction k with
  | zero => rfl
  | succ k ih => simp only [its, stp_zero, ih]

theorem its_add (k j : Nat) : ∀ s, its (k + j) s = its j (its k s) := by
  induction k with
  | zero => intro s; simp [its]
  | succ k ih => intro s; rw [show k + 1 + j = (k + j) + 1 by omega]; simp only [its, ih]

theorem its_stp (k s : Nat) : its k (stp s) = stp (its k s) := by
  rw [show its k (stp s) = its (k + 1) s from rfl, its_add k 1]
  rfl

theorem its_next (k s : Nat) : its (k + 1) s = stp (its k s) := by rw [its_add k 1]; rfl

theorem its_inj (k : Nat) : ∀ {s : Nat}, s < 4294967296 → its k s = 0 → s = 0 := by
  induction k with
  | zero => intro s _ h; exact h
  | succ k ih => intro s h h0; exact stp_inj h (ih (stp_lt h) h0)

/-- A bit of a number goes down by one place a step, as long as there is room below. -/
theorem its_pow (k : Nat) : ∀ j : Nat, its k (2 ^ (j + k)) = 2 ^ j := by
  induction k with
  | zero => intro j; rfl
  | succ k ih =>
    intro j
    have : stp (2 ^ (j + (k + 1))) = 2 ^ (j + k) := by
      unfold stp
      rw [show j + (k + 1) = (j + k) + 1 by omega, Nat.pow_succ]
      simp
    simp only [its, this, ih]

/-- The bits of s below n, each with what stands for it. -/
def part (f : Nat → Nat) (s : Nat) : Nat → Nat
  | 0 => 0
  | n + 1 => part f s n ^^^ (if s / 2 ^ n % 2 = 1 then f n else 0)

theorem part_lt {f : Nat → Nat} (hf : ∀ j, f j < 4294967296) (s n : Nat) : part f s n < 4294967296 := by
  induction n with
  | zero => exact (by decide : (0 : Nat) < 4294967296)
  | succ n ih =>
    unfold part
    refine xlt ih ?_
    split
    · exact hf n
    · omega

theorem its_part (k : Nat) (f : Nat → Nat) (s n : Nat) : its k (part f s n) = part (fun j => its k (f j)) s n := by
  induction n with
  | zero => exact its_zero k
  | succ n ih =>
    unfold part
    rw [its_xor, ih]
    split
    · rfl
    · rw [its_zero]

theorem part_congr {f g : Nat → Nat} {s : Nat} : ∀ {n : Nat}, (∀ j, j < n → f j = g j) → part f s n = part g s n
  | 0, _ => rfl
  | n + 1, h => by
    unfold part
    rw [part_congr (n := n) (fun j hj => h j (by omega)), h n (by omega)]

theorem part_pow (s n : Nat) : part (fun j => 2 ^ j) s n = s % 2 ^ n := by
  induction n with
  | zero => simp [part, Nat.mod_one]
  | succ n ih =>
    unfold part
    rw [ih]
    apply Nat.eq_of_testBit_eq
    intro i
    rw [Nat.testBit_xor, Nat.testBit_mod_two_pow, Nat.testBit_mod_two_pow]
    have hb : s / 2 ^ n % 2 = 1 ↔ s.testBit n = true := by
      rw [Nat.testBit_eq_decide_div_mod_eq]
      simp
    by_cases hs : s.testBit n = true
    · rw [if_pos (hb.2 hs), Nat.testBit_two_pow]
      rcases Nat.lt_trichotomy i n with h | h | h
      · have : ¬ n = i := by omega
        have h2 : i < n + 1 := by omega
        simp [h, h2, this]
      · subst h
        simp [hs]
      · have h1 : ¬ i < n := by omega
        have h2 : ¬ i < n + 1 := by omega
        have h3 : ¬ n = i := by omega
        simp [h1, h2, h3]
    · rw [if_neg (fun h => hs (hb.1 h)), Nat.zero_testBit]
      rcases Nat.lt_trichotomy i n with h | h | h
      · have h2 : i < n + 1 := by omega
        simp [h, h2]
      · subst h
        simp [hs]
      · have h1 : ¬ i < n := by omega
        have h2 : ¬ i < n + 1 := by omega
        simp [h1, h2]

/-- The step that makes b of the highest bit, done to s. -/
def prod (s b : Nat) : Nat := part (fun j => its (31 - j) b) s 32

theorem prod_lt (s : Nat) {b : Nat} (hb : b < 4294967296) : prod s b < 4294967296 := part_lt (fun j => its_lt _ hb) s 32

/-- The highest bit's own step is none; so the step that makes what k steps make of it is k steps. -/
theorem prod_its (k s : Nat) (hs : s < 4294967296) : prod s (its k 2147483648) = its k s := by
  have h0 : prod s 2147483648 = s := by
    unfold prod
    rw [part_congr (g := fun j => 2 ^ j) (fun j hj => by
      have := its_pow (31 - j) j
      rw [show j + (31 - j) = 31 by omega] at this
      exact this), part_pow]
    exact Nat.mod_eq_of_lt hs
  conv => rhs; rw [← h0]
  unfold prod
  rw [its_part]
  refine part_congr (fun j hj => ?_)
  rw [← its_add, ← its_add, Nat.add_comm]

/-- All 32 bits turned. -/
def com (s : Nat) : Nat := 4294967295 - s
theorem com_lt (s : Nat) : com s < 4294967296 := by unfold com; omega
theorem com_xor {s : Nat} (h : s < 4294967296) : com s = 4294967295 ^^^ s := by
  unfold com
  apply Nat.eq_of_testBit_eq
  intro i
  rw [show 4294967295 - s = 2 ^ 32 - (s + 1) by omega, Nat.testBit_two_pow_sub_succ (by omega), Nat.testBit_xor,
    show (4294967295 : Nat) = 2 ^ 32 - 1 by rfl, Nat.testBit_two_pow_sub_one]
  by_cases hi : i < 32
  · simp [hi]
  · have : s.testBit i = false := Nat.testBit_lt_two_pow (Nat.lt_of_lt_of_le h (show (2 : Nat) ^ 32 ≤ 2 ^ i from Nat.pow_le_pow_right (by decide) (by omega)))
    simp [hi, this]
theorem com_com {s : Nat} (h : s < 4294967296) : com (com s) = s := by unfold com; omega

/-- The sum over bytes, its bits not turned at either end. -/
def fld (s : Nat) (zs : List Int) : Nat := zs.foldl (fun x z => its 8 (x ^^^ z.toNat)) s

theorem fld_lt : ∀ {zs : List Int} {s : Nat}, Byt zs → s < 4294967296 → fld s zs < 4294967296
  | [], _, _, h => h
  | z :: r, s, hz, h => by
    have := hz z (by simp)
    exact fld_lt (zs := r) (fun x hx => hz x (by simp [hx])) (its_lt 8 (xlt h (by omega)))

theorem fld_append (s : Nat) (a b : List Int) : fld s (a ++ b) = fld (fld s a) b := by unfold fld; rw [List.foldl_append]

theorem fld_snoc (s : Nat) (a : List Int) (z : Int) : fld s (a ++ [z]) = its 8 (fld s a ^^^ z.toNat) := by rw [fld_append]; rfl

theorem fld_xor : ∀ (zs : List Int) (s t : Nat), fld (s ^^^ t) zs = fld s zs ^^^ its (8 * zs.length) t
  | [], s, t => rfl
  | z :: r, s, t => by
    have e : s ^^^ t ^^^ z.toNat = (s ^^^ z.toNat) ^^^ t := by rw [Nat.xor_assoc, Nat.xor_comm t, ← Nat.xor_assoc]
    show fld (its 8 (s ^^^ t ^^^ z.toNat)) r = fld (its 8 (s ^^^ z.toNat)) r ^^^ _
    rw [e, its_xor, fld_xor r, ← its_add, List.length_cons, show 8 + 8 * r.length = 8 * (r.length + 1) by omega]

theorem fld_zeros (n s : Nat) : fld s (List.replicate n 0) = its (8 * n) s := by
  induction n generalizing s with
  | zero => rfl
  | succ n ih =>
    rw [List.replicate_succ, show 8 * (n + 1) = 8 + 8 * n by omega, its_add, ← ih]
    show fld (its 8 (s ^^^ (0 : Int).toNat)) _ = _
    simp

/-- What one changed byte does. -/
theorem fld_change (s : Nat) (p q : List Int) (o c : Int) :
    fld s (p ++ c :: q) = fld s (p ++ o :: q) ^^^ its (8 * q.length) (its 8 (o.toNat ^^^ c.toNat)) := by
  rw [fld_append, fld_append]
  show fld (its 8 (fld s p ^^^ c.toNat)) q = fld (its 8 (fld s p ^^^ o.toNat)) q ^^^ _
  rw [← fld_xor, ← its_xor]
  congr 2
  rw [Nat.xor_assoc, xor_cancel]

theorem fld_set (s : Nat) (zs : List Int) (i : Nat) (hi : i < zs.length) (c : Int) :
    fld s (zs.set i c) = fld s zs ^^^ its (8 * (zs.length - 1 - i)) (its 8 ((zs.getD i 0).toNat ^^^ c.toNat)) := by
  have e : zs = zs.take i ++ zs[i] :: zs.drop (i + 1) := by
    rw [← List.drop_eq_getElem_cons hi, List.take_append_drop]
  have e2 : zs.set i c = zs.take i ++ c :: zs.drop (i + 1) := by
    rw [List.set_eq_take_append_cons_drop, if_pos hi]
  have hg : zs.getD i 0 = zs[i] := by simp [List.getD, hi]
  rw [e2, hg]
  have h := fld_change s (zs.take i) (zs.drop (i + 1)) zs[i] c
  rw [← e] at h
  rw [h, List.length_drop, show zs.length - (i + 1) = zs.length - 1 - i by omega]

/-- The checksum of bytes behind a sum. -/
def mor (s : Nat) (zs : List Int) : Nat := com (fld (com s) zs)

theorem mor_lt (s : Nat) (zs : List Int) : mor s zs < 4294967296 := com_lt _

theorem mor_append {s : Nat} {a : List Int} (ha : Byt a) (b : List Int) : mor s (a ++ b) = mor (mor s a) b := by
  unfold mor
  rw [fld_append, com_com (fld_lt ha (com_lt _))]

/-- The sum of two pieces, told by their own sums. -/
theorem mor_join {s : Nat} (hs : s < 4294967296) {b : List Int} (hb : Byt b) : mor s b = its (8 * b.length) s ^^^ mor 0 b := by
  unfold mor
  have h0 : com 0 = 4294967295 := rfl
  rw [h0, com_xor (fld_lt hb (com_lt _)), com_xor (fld_lt hb (by omega)), com_xor hs, fld_xor, Nat.xor_comm (its _ _), Nat.xor_assoc]

theorem mor_zeros (s n : Nat) : mor s (List.replicate n 0) = com (its (8 * n) (com s)) := by
  unfold mor
  rw [fld_zeros]

theorem mor_set {s : Nat} {zs : List Int} (hz : Byt zs) (i : Nat) (hi : i < zs.length) {c : Int} (hc : 0 ≤ c ∧ c ≤ 255) :
    mor s (zs.set i c) = mor s zs ^^^ its (8 * (zs.length - 1 - i)) (its 8 ((zs.getD i 0).toNat ^^^ c.toNat)) := by
  have hz' : Byt (zs.set i c) := by
    intro z h
    rcases List.mem_or_eq_of_mem_set h with h | h
    · exact hz z h
    · subst h; exact hc
  unfold mor
  rw [com_xor (fld_lt hz' (com_lt _)), com_xor (fld_lt hz (com_lt _)), fld_set _ _ _ hi, Nat.xor_assoc]

/-- One byte's sum and another's differ as the bytes do. -/
theorem mor_two {x y : Int} (hx : 0 ≤ x ∧ x ≤ 255) (hy : 0 ≤ y ∧ y ≤ 255) : mor 0 [x] ^^^ mor 0 [y] = its 8 (x.toNat ^^^ y.toNat) := by
  have h := mor_set (s := 0) (zs := [x]) (fun z hz => by simp at hz; subst hz; exact hx) 0 (by simp) hy
  have h0 : its (8 * ([x].length - 1 - 0)) (its 8 (([x].getD 0 0).toNat ^^^ y.toNat)) = its 8 (x.toNat ^^^ y.toNat) := rfl
  rw [h0] at h
  rw [show mor 0 [y] = mor 0 ([x].set 0 y) from rfl, h, xor_cancel]

end Go.Proofs.Ytbmllljieoeihaa
