/- Several texts, each a section: CMath, Words, Base, CStep, CTurn, FMath, FMath2. -/
import Derived.WalkKit
import Derived.Test.YtfiebjfdlplpjaaGreatDoorM01
import Derived.Laws.BitsAllLaws
import Derived.Below
import Derived.Laws.OwnMore
import Derived.OwnWalk
import Derived.Deep.AppendLies
import Derived.Deep.Draws
import Derived.Laws.Rows
import Derived.Maps.AppendAt
import Derived.Lib.Hide
import Derived.OneCell
import Derived.Laws.BytesArg
import Derived.Test.YtfiebjfdlplpjaaGreatDoorRows
import Derived.Outline
import Derived.BigQuiet
import Derived.Deep.QuietTactic
import Derived.Handy
section
/- The plain mathematics of the checksum: one bit's step is linear and loses nothing; many steps; sums over bytes. No condition. -/
namespace Go.Proofs.YtfiebjfdlplpjaaGreatDoor
set_option linter.unusedVariables false

/-- One bit's step. -/
def stp (s : Nat) : Nat := s / 2 ^^^ (if s % 2 = 1 then 3988292384 else 0)

theorem xlt {a b : Nat} (ha : a < 4294967296) (hb : b < 4294967296) : a ^^^ b < 4294967296 := Nat.xor_lt_two_pow (n := 32) ha hb

theorem xor_cancel (a b : Nat) : a ^^^ (a ^^^ b) = b := by rw [← Nat.xor_assoc, Nat.xor_self, Nat.zero_xor]

theorem stp_lt {s : Nat} (h : s < 4294967296) : stp s < 4294967296 := by
  unfold stp
  refine xlt (by omega) ?_
  split <;> omega

theorem xor_half (a b : Nat) : (a ^^^ b) / 2 = a / 2 ^^^ b / 2 := by
  have := Nat.shiftRight_xor_distrib (a := a) (b := b) (i := 1)
  simpa [Nat.shiftRight_eq_div_pow] using this

theorem xor_odd (a b : Nat) : (a ^^^ b) % 2 = (a % 2 + b % 2) % 2 := by
  have h := Nat.testBit_xor a b 0
  simp only [Nat.testBit_zero] at h
  rcases Nat.mod_two_eq_zero_or_one a with ha | ha <;> rcases Nat.mod_two_eq_zero_or_one b with hb | hb <;> rcases Nat.mod_two_eq_zero_or_one (a ^^^ b) with hc | hc <;> simp_all

theorem stp_xor (a b : Nat) : stp (a ^^^ b) = stp a ^^^ stp b := by
  unfold stp
  rw [xor_half, xor_odd]
  rcases Nat.mod_two_eq_zero_or_one a with ha | ha <;> rcases Nat.mod_two_eq_zero_or_one b with hb | hb <;> simp only [ha, hb]
  · simp
  · simp [Nat.xor_assoc]
  · simp only [↓reduceIte, Nat.xor_zero, Nat.zero_ne_one]
    rw [Nat.xor_assoc, Nat.xor_comm (b / 2), ← Nat.xor_assoc]
  · simp only [Nat.reduceAdd, Nat.reduceMod, ↓reduceIte, Nat.zero_ne_one, Nat.xor_zero]
    rw [Nat.xor_comm (b / 2), Nat.xor_assoc, ← Nat.xor_assoc 3988292384, Nat.xor_self, Nat.zero_xor]

theorem stp_zero : stp 0 = 0 := by decide

theorem stp_inj {s : Nat} (h : s < 4294967296) (h0 : stp s = 0) : s = 0 := by
  unfold stp at h0
  rcases Nat.mod_two_eq_zero_or_one s with hs | hs
  · simp [hs] at h0
    omega
  · simp only [hs, ↓reduceIte] at h0
    have e : s / 2 = 3988292384 := by
      have := congrArg (· ^^^ 3988292384) h0
      simpa [Nat.xor_assoc] using this
    omega

/-- Many steps. -/
def its : Nat → Nat → Nat
  | 0, s => s
  | k + 1, s => its k (stp s)

theorem its_lt (k : Nat) : ∀ {s : Nat}, s < 4294967296 → its k s < 4294967296 := by
  induction k with
  | zero => intro s h; exact h
  | succ k ih => intro s h; exact ih (stp_lt h)

theorem its_xor (k : Nat) : ∀ a b : Nat, its k (a ^^^ b) = its k a ^^^ its k b := by
  induction k with
  | zero => intro a b; rfl
  | succ k ih => intro a b; simp only [its, stp_xor, ih]

theorem its_zero (k : Nat) : its k 0 = 0 := by
  induction k with
  | zero => rfl
  | succ k ih => simp only [its, stp_zero, ih]

theorem its_add (k j : Nat) : ∀ s, its (k + j) s = its j (its k s) := by
  induction k with
  | zero => intro s; simp [its]
  | succ k ih => intro s; rw [show k + 1 + j = (k + j) + 1 by omega]; simp only [its, ih]

theorem its_stp (k s : Nat) : its k (stp s) = stp (its k s) := by
  rw [show its k (stp s) = its (k + 1) s from rfl, its_add k 1]
  rfl

theorem its_next (k s : Nat) : its (k + 1) s = stp (its k s) := by rw [its_add k 1]; rfl

theorem its_inj (k : Nat) : ∀ {s : Nat}, s < 4294967296 → its k s = 0 → s = 0 := by
  induction k with
  | zero => intro s _ h; exact h
  | succ k ih => intro s h h0; exact stp_inj h (ih (stp_lt h) h0)

/-- A bit of a number goes down by one place a step, as long as there is room below. -/
theorem its_pow (k : Nat) : ∀ j : Nat, its k (2 ^ (j + k)) = 2 ^ j := by
  induction k with
  | zero => intro j; rfl
  | succ k ih =>
    intro j
    have : stp (2 ^ (j + (k + 1))) = 2 ^ (j + k) := by
      unfold stp
      rw [show j + (k + 1) = (j + k) + 1 by omega, Nat.pow_succ]
      simp
    simp only [its, this, ih]

/-- The bits of s below n, each with what stands for it. -/
def cpart (f : Nat → Nat) (s : Nat) : Nat → Nat
  | 0 => 0
  | n + 1 => cpart f s n ^^^ (if s / 2 ^ n % 2 = 1 then f n else 0)

theorem part_lt {f : Nat → Nat} (hf : ∀ j, f j < 4294967296) (s n : Nat) : cpart f s n < 4294967296 := by
  induction n with
  | zero => exact (by decide : (0 : Nat) < 4294967296)
  | succ n ih =>
    unfold cpart
    refine xlt ih ?_
    split
    · exact hf n
    · omega

theorem its_part (k : Nat) (f : Nat → Nat) (s n : Nat) : its k (cpart f s n) = cpart (fun j => its k (f j)) s n := by
  induction n with
  | zero => exact its_zero k
  | succ n ih =>
    unfold cpart
    rw [its_xor, ih]
    split
    · rfl
    · rw [its_zero]

theorem part_congr {f g : Nat → Nat} {s : Nat} : ∀ {n : Nat}, (∀ j, j < n → f j = g j) → cpart f s n = cpart g s n
  | 0, _ => rfl
  | n + 1, h => by
    unfold cpart
    rw [part_congr (n := n) (fun j hj => h j (by omega)), h n (by omega)]

theorem part_pow (s n : Nat) : cpart (fun j => 2 ^ j) s n = s % 2 ^ n := by
  induction n with
  | zero => simp [cpart, Nat.mod_one]
  | succ n ih =>
    unfold cpart
    rw [ih]
    apply Nat.eq_of_testBit_eq
    intro i
    rw [Nat.testBit_xor, Nat.testBit_mod_two_pow, Nat.testBit_mod_two_pow]
    have hb : s / 2 ^ n % 2 = 1 ↔ s.testBit n = true := by
      rw [Nat.testBit_eq_decide_div_mod_eq]
      simp
    by_cases hs : s.testBit n = true
    · rw [if_pos (hb.2 hs), Nat.testBit_two_pow]
      rcases Nat.lt_trichotomy i n with h | h | h
      · have : ¬ n = i := by omega
        have h2 : i < n + 1 := by omega
        simp [h, h2, this]
      · subst h
        simp [hs]
      · have h1 : ¬ i < n := by omega
        have h2 : ¬ i < n + 1 := by omega
        have h3 : ¬ n = i := by omega
        simp [h1, h2, h3]
    · rw [if_neg (fun h => hs (hb.1 h)), Nat.zero_testBit]
      rcases Nat.lt_trichotomy i n with h | h | h
      · have h2 : i < n + 1 := by omega
        simp [h, h2]
      · subst h
        simp [hs]
      · have h1 : ¬ i < n := by omega
        have h2 : ¬ i < n + 1 := by omega
        simp [h1, h2]

/-- The step that makes b of the highest bit, done to s. -/
def prod (s b : Nat) : Nat := cpart (fun j => its (31 - j) b) s 32

theorem prod_lt (s : Nat) {b : Nat} (hb : b < 4294967296) : prod s b < 4294967296 := part_lt (fun j => its_lt _ hb) s 32

/-- The highest bit's own step is none; so the step that makes what k steps make of it is k steps. -/
theorem prod_its (k s : Nat) (hs : s < 4294967296) : prod s (its k 2147483648) = its k s := by
  have h0 : prod s 2147483648 = s := by
    unfold prod
    rw [part_congr (g := fun j => 2 ^ j) (fun j hj => by
      have := its_pow (31 - j) j
      rw [show j + (31 - j) = 31 by omega] at this
      exact this), part_pow]
    exact Nat.mod_eq_of_lt hs
  conv => rhs; rw [← h0]
  unfold prod
  rw [its_part]
  refine part_congr (fun j hj => ?_)
  rw [← its_add, ← its_add, Nat.add_comm]

/-- All 32 bits turned. -/
def com (s : Nat) : Nat := 4294967295 - s
theorem com_lt (s : Nat) : com s < 4294967296 := by unfold com; omega
theorem com_xor {s : Nat} (h : s < 4294967296) : com s = 4294967295 ^^^ s := by
  unfold com
  apply Nat.eq_of_testBit_eq
  intro i
  rw [show 4294967295 - s = 2 ^ 32 - (s + 1) by omega, Nat.testBit_two_pow_sub_succ (by omega), Nat.testBit_xor,
    show (4294967295 : Nat) = 2 ^ 32 - 1 by rfl, Nat.testBit_two_pow_sub_one]
  by_cases hi : i < 32
  · simp [hi]
  · have : s.testBit i = false := Nat.testBit_lt_two_pow (Nat.lt_of_lt_of_le h (show (2 : Nat) ^ 32 ≤ 2 ^ i from Nat.pow_le_pow_right (by decide) (by omega)))
    simp [hi, this]
theorem com_com {s : Nat} (h : s < 4294967296) : com (com s) = s := by unfold com; omega

/-- The sum over bytes, its bits not turned at either end. -/
def fld (s : Nat) (zs : List Int) : Nat := zs.foldl (fun x z => its 8 (x ^^^ z.toNat)) s

theorem fld_lt : ∀ {zs : List Int} {s : Nat}, Byt zs → s < 4294967296 → fld s zs < 4294967296
  | [], _, _, h => h
  | z :: r, s, hz, h => by
    have := hz z (by simp)
    exact fld_lt (zs := r) (fun x hx => hz x (by simp [hx])) (its_lt 8 (xlt h (by omega)))

theorem fld_append (s : Nat) (a b : List Int) : fld s (a ++ b) = fld (fld s a) b := by unfold fld; rw [List.foldl_append]

theorem fld_snoc (s : Nat) (a : List Int) (z : Int) : fld s (a ++ [z]) = its 8 (fld s a ^^^ z.toNat) := by rw [fld_append]; rfl

theorem fld_xor : ∀ (zs : List Int) (s t : Nat), fld (s ^^^ t) zs = fld s zs ^^^ its (8 * zs.length) t
  | [], s, t => rfl
  | z :: r, s, t => by
    have e : s ^^^ t ^^^ z.toNat = (s ^^^ z.toNat) ^^^ t := by rw [Nat.xor_assoc, Nat.xor_comm t, ← Nat.xor_assoc]
    show fld (its 8 (s ^^^ t ^^^ z.toNat)) r = fld (its 8 (s ^^^ z.toNat)) r ^^^ _
    rw [e, its_xor, fld_xor r, ← its_add, List.length_cons, show 8 + 8 * r.length = 8 * (r.length + 1) by omega]

theorem fld_zeros (n s : Nat) : fld s (List.replicate n 0) = its (8 * n) s := by
  induction n generalizing s with
  | zero => rfl
  | succ n ih =>
    rw [List.replicate_succ, show 8 * (n + 1) = 8 + 8 * n by omega, its_add, ← ih]
    show fld (its 8 (s ^^^ (0 : Int).toNat)) _ = _
    simp

/-- What one changed byte does. -/
theorem fld_change (s : Nat) (p q : List Int) (o c : Int) :
    fld s (p ++ c :: q) = fld s (p ++ o :: q) ^^^ its (8 * q.length) (its 8 (o.toNat ^^^ c.toNat)) := by
  rw [fld_append, fld_append]
  show fld (its 8 (fld s p ^^^ c.toNat)) q = fld (its 8 (fld s p ^^^ o.toNat)) q ^^^ _
  rw [← fld_xor, ← its_xor]
  congr 2
  rw [Nat.xor_assoc, xor_cancel]

theorem fld_set (s : Nat) (zs : List Int) (i : Nat) (hi : i < zs.length) (c : Int) :
    fld s (zs.set i c) = fld s zs ^^^ its (8 * (zs.length - 1 - i)) (its 8 ((zs.getD i 0).toNat ^^^ c.toNat)) := by
  have e : zs = zs.take i ++ zs[i] :: zs.drop (i + 1) := by
    rw [← List.drop_eq_getElem_cons hi, List.take_append_drop]
  have e2 : zs.set i c = zs.take i ++ c :: zs.drop (i + 1) := by
    rw [List.set_eq_take_append_cons_drop, if_pos hi]
  have hg : zs.getD i 0 = zs[i] := by simp [List.getD, hi]
  rw [e2, hg]
  have h := fld_change s (zs.take i) (zs.drop (i + 1)) zs[i] c
  rw [← e] at h
  rw [h, List.length_drop, show zs.length - (i + 1) = zs.length - 1 - i by omega]

/-- The checksum of bytes behind a sum. -/
def mor (s : Nat) (zs : List Int) : Nat := com (fld (com s) zs)

theorem mor_lt (s : Nat) (zs : List Int) : mor s zs < 4294967296 := com_lt _

theorem mor_append {s : Nat} {a : List Int} (ha : Byt a) (b : List Int) : mor s (a ++ b) = mor (mor s a) b := by
  unfold mor
  rw [fld_append, com_com (fld_lt ha (com_lt _))]

/-- The sum of two pieces, told by their own sums. -/
theorem mor_join {s : Nat} (hs : s < 4294967296) {b : List Int} (hb : Byt b) : mor s b = its (8 * b.length) s ^^^ mor 0 b := by
  unfold mor
  have h0 : com 0 = 4294967295 := rfl
  rw [h0, com_xor (fld_lt hb (com_lt _)), com_xor (fld_lt hb (by omega)), com_xor hs, fld_xor, Nat.xor_comm (its _ _), Nat.xor_assoc]

theorem mor_zeros (s n : Nat) : mor s (List.replicate n 0) = com (its (8 * n) (com s)) := by
  unfold mor
  rw [fld_zeros]

theorem mor_set {s : Nat} {zs : List Int} (hz : Byt zs) (i : Nat) (hi : i < zs.length) {c : Int} (hc : 0 ≤ c ∧ c ≤ 255) :
    mor s (zs.set i c) = mor s zs ^^^ its (8 * (zs.length - 1 - i)) (its 8 ((zs.getD i 0).toNat ^^^ c.toNat)) := by
  have hz' : Byt (zs.set i c) := by
    intro z h
    rcases List.mem_or_eq_of_mem_set h with h | h
    · exact hz z h
    · subst h; exact hc
  unfold mor
  rw [com_xor (fld_lt hz' (com_lt _)), com_xor (fld_lt hz (com_lt _)), fld_set _ _ _ hi, Nat.xor_assoc]

/-- One byte's sum and another's differ as the bytes do. -/
theorem mor_two {x y : Int} (hx : 0 ≤ x ∧ x ≤ 255) (hy : 0 ≤ y ∧ y ≤ 255) : mor 0 [x] ^^^ mor 0 [y] = its 8 (x.toNat ^^^ y.toNat) := by
  have h := mor_set (s := 0) (zs := [x]) (fun z hz => by simp at hz; subst hz; exact hx) 0 (by simp) hy
  have h0 : its (8 * ([x].length - 1 - 0)) (its 8 (([x].getD 0 0).toNat ^^^ y.toNat)) = its 8 (x.toNat ^^^ y.toNat) := rfl
  rw [h0] at h
  rw [show mor 0 [y] = mor 0 ([x].set 0 y) from rfl, h, xor_cancel]

end Go.Proofs.YtfiebjfdlplpjaaGreatDoor
end

section
/- Words of ours for slices of single cells in memory, and an append whose source may be nil. No program is named here. -/
namespace Go.Proofs.YtfiebjfdlplpjaaGreatDoor
open Go.RowKit

/-- the cells that bytes take -/
def c8 (zs : List Int) : List Value := zs.map (Value.int .u8)

theorem c8_append (a b : List Int) : c8 (a ++ b) = c8 a ++ c8 b := by simp [c8]
theorem c8_length (a : List Int) : (c8 a).length = a.length := by simp [c8]
theorem c8_one (a : List Int) : ∀ u ∈ c8 a, u.oneCell' = true := by
  intro u hu
  obtain ⟨_, _, rfl⟩ := List.mem_map.1 hu
  rfl
theorem c8_get {zs : List Int} {j : Nat} (h : j < zs.length) : (c8 zs)[j]? = some (.int .u8 zs[j]) := by simp [c8, h]
theorem c8_inj : ∀ {a b : List Int}, c8 a = c8 b → a = b
  | [], [], _ => rfl
  | [], _ :: _, h => by simp [c8] at h
  | _ :: _, [], h => by simp [c8] at h
  | x :: a, y :: b, h => by
    simp only [c8, List.map_cons, List.cons.injEq] at h
    obtain ⟨h1, h2⟩ := h
    rw [c8_inj (a := a) (b := b) h2]
    injection h1 with _ h1
    rw [h1]

/-- a slice's places hold the list xs, each place below block lim; where the list is empty nothing is said -/
def Rds (w : World) (lim : Nat) (A : Option Addr) (xs : List Value) : Prop :=
  xs ≠ [] → ∃ ad, A = some ad ∧ ad.block < lim ∧ ∀ j u, xs[j]? = some u → w.cell? (ad.add j) = some u

theorem blk_add (a : Addr) (n : Nat) : (a.add n).block = a.block := by unfold Addr.add; split <;> rfl
theorem add_twice (a : Addr) (i j : Nat) : (a.add i).add j = a.add (i + j) := by
  unfold Addr.add
  by_cases hi : i = 0 <;> by_cases hj : j = 0 <;> simp [hi, hj, Nat.add_assoc]

section
variable {w w' : World} {lim : Nat} {A : Option Addr} {xs : List Value}
theorem Rds.none_ : Rds w lim none [] := fun h => absurd rfl h
theorem Rds.nil_ {A : Option Addr} : Rds w lim A [] := fun h => absurd rfl h
theorem Rds.at_ {k : Nat} {u : Value} (h : Rds w lim A xs) (hk : xs[k]? = some u) : ∃ ad, A = some ad ∧ ad.block < lim ∧ w.cell? (ad.add k) = some u := by
  have hne : xs ≠ [] := by rintro rfl; simp at hk
  obtain ⟨ad, e, hb, hc⟩ := h hne
  exact ⟨ad, e, hb, hc k u hk⟩
theorem Rds.keep (h : Rds w lim A xs) (hk : ∀ p : Addr, p.block < lim → w'.cell? p = w.cell? p) : Rds w' lim A xs := fun hne => by
  obtain ⟨ad, e, hb, hc⟩ := h hne
  exact ⟨ad, e, hb, fun j u hu => (hk _ (by rw [blk_add]; exact hb)).trans (hc j u hu)⟩
theorem Rds.more {lim' : Nat} (h : Rds w lim A xs) (hl : lim ≤ lim') : Rds w lim' A xs := fun hne => by
  obtain ⟨ad, e, hb, hc⟩ := h hne
  exact ⟨ad, e, by omega, hc⟩
theorem Rds.below (h : Rds w lim A xs) (hb : Below lim w w') : Rds w' lim A xs := h.keep fun _ hp => hb.cell hp
theorem Rds.drew (h : Rds w lim A xs) : Rds w.drew lim A xs := h
theorem Rds.drewN (h : Rds w lim A xs) (n : Nat) : Rds (w.drewN n) lim A xs := h
theorem Rds.alloc (h : Rds w lim A xs) (hl : lim ≤ w.heap.size) (o : Obj) : Rds (w.alloc o) lim A xs := h.keep fun p hp => World.cell?_alloc_lt w o p (by omega)
theorem Rds.grown {row : Option Nat} (h : Rds w lim A xs) (hg : w.grownBy w' row) (hl : lim ≤ w.heap.size) (hr : ∀ g, row = some g → lim ≤ g) : Rds w' lim A xs :=
  h.keep fun p hp => World.cell?_of_block (hg.block p.block (by omega) (fun e => by have := hr _ e.symm; omega))
theorem Rds.drop (h : Rds w lim A xs) (k cap : Nat) (hc : xs.length ≤ cap) : Rds w lim (if cap = k then A else A.map (·.add k)) (xs.drop k) := by
  intro hne
  have hk : k < xs.length := by
    rcases Nat.lt_or_ge k xs.length with h1 | h1
    · exact h1
    · exact absurd (List.drop_eq_nil_of_le h1) hne
  obtain ⟨ad, rfl, hb, hcell⟩ := h (by rintro rfl; simp at hk)
  rw [if_neg (by omega)]
  refine ⟨ad.add k, rfl, by rw [blk_add]; exact hb, fun j u hu => ?_⟩
  rw [add_twice]
  exact hcell _ u (by rw [← hu, List.getElem?_drop])
theorem Rds.take (h : Rds w lim A xs) (k : Nat) : Rds w lim A (xs.take k) := by
  intro hne
  obtain ⟨ad, e, hb, hc⟩ := h (by rintro rfl; simp at hne)
  refine ⟨ad, e, hb, fun j u hu => hc j u ?_⟩
  rw [List.getElem?_take] at hu
  split at hu
  · exact hu
  · cases hu
theorem Rds.ofOwn {base : Nat} {e : TypeId} {n c : Nat} (h : w.ownsRow base e 1 (.slice A n c) n xs) : Rds w w.heap.size A xs := by
  intro hne
  rcases h.2 with ⟨hv, hn⟩ | ⟨g, cap, cur, hv, _, hh, _⟩
  · have := h.1
    rw [hn] at this
    exact absurd (List.eq_nil_of_length_eq_zero (by simpa using this)) hne
  · injection hv with hA
    subst hA
    exact ⟨_, rfl, (Array.getElem?_eq_some_iff.1 hh).1, h.cells (g := g) rfl⟩
end

/-- a block that holds just these cells, none of them frozen -/
def Whole (w : World) (g : Nat) (t : TypeId) (cs : Array Value) : Prop := w.heap[g]? = some (.cells cs t (0, 0))

section
variable {w w' : World} {g : Nat} {t : TypeId} {cs : Array Value}
theorem Whole.lt (h : Whole w g t cs) : g < w.heap.size := (Array.getElem?_eq_some_iff.1 h).1
theorem Whole.cell (h : Whole w g t cs) (i : Nat) : w.cell? ⟨g, i, none⟩ = cs[i]? := cell_of_row w g i cs t (0, 0) h
theorem Whole.frozen (h : Whole w g t cs) (i : Nat) : w.frozen? ⟨g, i, none⟩ = false := by
  unfold Whole at h
  simp [World.frozen?, h]
theorem Whole.new (w : World) (t : TypeId) (cs : Array Value) : Whole (w.alloc (.cells cs t)) w.heap.size t cs := heap_alloc_new w _
theorem Whole.alloc (h : Whole w g t cs) (o : Obj) : Whole (w.alloc o) g t cs := (Below.heap_alloc w o g h.lt).trans h
theorem Whole.put (h : Whole w g t cs) (i : Nat) (u : Value) : Whole (w.setCell ⟨g, i, none⟩ u) g t (cs.setIfInBounds i u) := by
  unfold Whole at h ⊢
  simp [World.setCell, Array.getElem?_modify, h]
theorem Whole.far (h : Whole w g t cs) {p : Addr} (hp : g ≠ p.block) (u : Value) : Whole (w.setCell p u) g t cs := (Below.heap_setCell w p u g hp).trans h
theorem Whole.below {B : Nat} (h : Whole w g t cs) (hb : Below B w w') (hg : g < B) : Whole w' g t cs := (hb.block g hg).trans h
theorem Whole.grown {row : Option Nat} (h : Whole w g t cs) (hb : w.grownBy w' row) (hg : some g ≠ row) : Whole w' g t cs := (hb.block g h.lt hg).trans h
theorem Whole.drew (h : Whole w g t cs) : Whole w.drew g t cs := h
theorem Whole.drewN (h : Whole w g t cs) (n : Nat) : Whole (w.drewN n) g t cs := h
end

/-- only block g, and what is new, has turned -/
theorem Only.refl (w : World) (g : Nat) : w.grownBy w (some g) := World.grownBy.refl w _
theorem Only.trans {a b c : World} {g : Option Nat} (h : a.grownBy b g) (k : b.grownBy c g) : a.grownBy c g :=
  ⟨k.os.trans h.os, k.tape.trans h.tape, k.output.trans h.output, Nat.le_trans h.size k.size, fun i hi hn => (k.block i (Nat.lt_of_lt_of_le hi h.size) hn).trans (h.block i hi hn)⟩
theorem Only.drewN {a b : World} {g : Option Nat} (h : a.grownBy b g) (n : Nat) : a.grownBy (b.drewN n) g := ⟨h.os, h.tape, h.output, h.size, h.block⟩
theorem Only.drew {a b : World} {g : Option Nat} (h : a.grownBy b g) : a.grownBy b.drew g := ⟨h.os, h.tape, h.output, h.size, h.block⟩
theorem Only.put {a b : World} {g : Nat} (h : a.grownBy b (some g)) (i : Nat) (u : Value) : a.grownBy (b.setCell ⟨g, i, none⟩ u) (some g) :=
  Only.trans h ⟨rfl, rfl, rfl, by simp [World.setCell], fun k hk hn => Below.heap_setCell _ _ _ _ (fun e => hn (by rw [e]))⟩

theorem one_new (w : World) (t : TypeId) (u : Value) : ∀ j u', [u][j]? = some u' → (w.alloc (.cells #[u] t)).cell? ((⟨w.heap.size, 0, none⟩ : Addr).add j) = some u' := by
  intro j u' h
  match j, h with
  | 0, h =>
    simp at h
    subst h
    exact (Whole.new w t #[u]).cell 0

/-- 'append(s, u)' of one cell to a row of the call's own -/
theorem app_one {P : Program} (w : World) {ops : Array Oper} {rest : List Oper} {o : Oper} {a : Act} {Q : Exit → Act → World → Prop} (hgd : o.guard = none) (s x : Operand) (t : TypeId)
    (ho : o.op = .call { callee := .builtin .append, args := #[s, x], argTypes := #[t, t] })
    (B : Nat) (e : TypeId) (i : TypeInfo) (z : Value) (bytes : Nat) (ht : P.underlying t = some (.slice e)) (hi : P.info? e = some i) (hz : i.zero = some z)
    (hsize : i.size = 1) (hby : i.bytes = bytes) (hzs : z.cells.size = 1)
    (v : Value) (n : Nat) (xs : List Value) (hs : a.eval s = v) (hown : w.ownsRow B e 1 v n xs) (u : Value) (hx : a.eval x = .slice (some ⟨w.heap.size, 0, none⟩) 1 1) (h1 : u.oneCell' = true)
    (hn : n + 1 ≤ maxLen) (hbytes : (n + 1) * bytes ≤ 140737488355328) (hB : B ≤ w.heap.size)
    (h : ∀ v' w', w'.ownsRow B e 1 v' (n + 1) (xs ++ [u]) → Below B w w' → wpList P ops Q rest (a.put o.dst v') w') : wpList P ops Q (o :: rest) a (w.alloc (.cells #[u] e)) := by
  refine wpList_append_own _ hgd s x t ho B e i z 1 bytes ht hi hz hsize hby hzs (by decide) v n xs hs (hown.alloc _) ⟨w.heap.size, 0, none⟩ 1 1 [u] hx rfl (one_new w e u) (by simpa using h1) hn hbytes (by simp; omega) ?_
  intro v' w' hown' hg _
  refine h v' w' hown' (((Below.refl B w).alloc hB _).grown hg (by simp; omega) (fun k hk => (hown.lt k hk).1))

/-- string(b), b a slice of bytes, nil or not -/
theorem conv_text {P : Program} (w : World) (src e dst : TypeId) (hs : P.underlying src = some (.slice e)) (he : P.underlying e = some (.int .u8)) (hd : P.underlying dst = some .string)
    {lim : Nat} {A : Option Addr} {zs : List Int} (h : Rds w lim A (c8 zs)) (c : Nat) : (convert src dst (.slice A zs.length c)).run P w = .ok (.string (strOfNums zs)) w := by
  cases A with
  | none =>
    have hz : zs = [] := by
      cases zs with
      | nil => rfl
      | cons z zs => obtain ⟨ad, e, _⟩ := h (by simp [c8]); cases e
    subst hz
    exact run_convert_bytes_nil w src e hs he 0 c dst hd
  | some ad =>
    have hl : (loadCells ad zs.length).run P w = .ok (zs.map (Value.int .u8)).toArray w := by
      have := run_loadCells_list (P := P) w ad (c8 zs) (fun j v hj => by
        obtain ⟨ad', e, _, hc⟩ := h.at_ hj
        obtain rfl := Option.some.inj e
        exact hc)
      simpa [c8] using this
    rw [run_convert_bytes_string w src dst e _ zs.length c hs he hd, run_bytesToString w _ zs.length c zs hl, foldl_push_bytes]
    simp [strOfNums, ByteArray.empty, ByteArray.emptyWithCapacity]
    rfl

/-- what a row of the call's own is as a slice -/
theorem own_open {w : World} {B : Nat} {e : TypeId} {n : Nat} {v : Value} {xs : List Value} (h : w.ownsRow B e 1 v n xs) :
    ∃ A c, v = .slice A n c ∧ Rds w w.heap.size A xs ∧ n ≤ c ∧ c ≤ maxLen ∧ (A = none → n = 0 ∧ c = 0) := by
  rcases h.2 with ⟨rfl, rfl⟩ | ⟨g, cap, cur, rfl, _, _, h1, h2, _⟩
  · exact ⟨none, 0, rfl, Rds.ofOwn h, Nat.le_refl _, by unfold maxLen; omega, fun _ => ⟨rfl, rfl⟩⟩
  · exact ⟨_, cap, rfl, Rds.ofOwn h, h1, h2, fun h => by cases h⟩

/-- a new block of bytes reads as these bytes -/
theorem Rds.made (w : World) (t : TypeId) (zs : List Int) (cs : Array Value) (h : cs.toList = c8 zs) : Rds (w.alloc (.cells cs t)) (w.heap.size + 1) (some ⟨w.heap.size, 0, none⟩) (c8 zs) := by
  intro _
  refine ⟨_, rfl, by simp, fun j u hu => ?_⟩
  have hadd : (⟨w.heap.size, 0, none⟩ : Addr).add j = ⟨w.heap.size, j, none⟩ := by unfold Addr.add; split <;> simp_all
  rw [hadd, (Whole.new w t cs).cell j, ← hu, ← h]
  simp

/-- 'append(s, x...)' to a row of the call's own, x a slice that is nil or not -/
theorem run_app_many {P : Program} (w : World) (t ty e : TypeId) (i : TypeInfo) (z : Value) (bytes : Nat) (ht : P.underlying t = some (.slice e)) (hi : P.info? e = some i) (hz : i.zero = some z)
    (hsize : i.size = 1) (hby : i.bytes = bytes) (hzs : z.cells.size = 1) (B : Nat) (v : Value) (n : Nat) (xs : List Value) (hown : w.ownsRow B e 1 v n xs)
    (A : Option Addr) (c lim : Nat) (news : List Value) (hr : Rds w lim A news) (hA : A = none → c = 0) (h1 : ∀ u ∈ news, u.oneCell' = true) (hn : n + news.length ≤ maxLen) (hbytes : (n + news.length) * bytes ≤ 140737488355328) (hB : B ≤ w.heap.size) :
    ∃ v' w', (Builtin.append_ #[t, t] ty #[v, .slice A news.length c]).run P w = .ok v' w' ∧ w'.ownsRow B e 1 v' (n + news.length) (xs ++ news) ∧ Below B w w' := by
  cases A with
  | none =>
    have hnews : news = [] := by
      cases news with
      | nil => rfl
      | cons u us => obtain ⟨ad, e, _⟩ := hr (by simp); cases e
    subst hnews
    obtain rfl := hA rfl
    exact ⟨v, w, run_append_owned_none (P := P) w B t ty e i 1 ht hi v n xs hown, by simpa using hown, Below.refl _ _⟩
  | some ad =>
    have hcells : ∀ j u, news[j]? = some u → w.cell? (ad.add j) = some u := fun j u hu => by
      obtain ⟨ad', e, _, hc⟩ := hr.at_ hu
      obtain rfl := Option.some.inj e
      exact hc
    obtain ⟨v', w', hrun, h2, h3, _⟩ := run_append_own (P := P) w B t ty e i z 1 bytes ht hi hz hsize hby hzs (by decide) v n xs hown ad news.length c news (by simp) hcells h1 hn hbytes hB
    exact ⟨v', w', hrun, h2, (Below.refl B w).grown h3 hB (fun k hk => (hown.lt k hk).1)⟩

theorem app_many {P : Program} (w : World) {ops : Array Oper} {rest : List Oper} {o : Oper} {a : Act} {Q : Exit → Act → World → Prop} (hgd : o.guard = none) (s x : Operand) (t : TypeId)
    (ho : o.op = .call { callee := .builtin .append, args := #[s, x], argTypes := #[t, t] })
    (B : Nat) (e : TypeId) (i : TypeInfo) (z : Value) (bytes : Nat) (ht : P.underlying t = some (.slice e)) (hi : P.info? e = some i) (hz : i.zero = some z)
    (hsize : i.size = 1) (hby : i.bytes = bytes) (hzs : z.cells.size = 1) (v : Value) (n : Nat) (xs : List Value) (hs : a.eval s = v) (hown : w.ownsRow B e 1 v n xs)
    (A : Option Addr) (m c lim : Nat) (news : List Value) (hx : a.eval x = .slice A m c) (hm : m = news.length) (hr : Rds w lim A news) (hA : A = none → c = 0) (h1 : ∀ u ∈ news, u.oneCell' = true) (hn : n + m ≤ maxLen) (hbytes : (n + m) * bytes ≤ 140737488355328) (hB : B ≤ w.heap.size)
    (h : ∀ v' w', w'.ownsRow B e 1 v' (n + m) (xs ++ news) → Below B w w' → wpList P ops Q rest (a.put o.dst v') w') : wpList P ops Q (o :: rest) a w := by
  subst hm
  refine wpList_plain hgd fun K hK => ?_
  obtain ⟨v', w', hrun, h2, h3⟩ := run_app_many (P := P) w t o.type e i z bytes ht hi hz hsize hby hzs B v n xs hown A c lim news hr hA h1 hn hbytes hB
  unfold Oper.wp
  simp [execOp, ho, resolve, invoke, builtin, hs, hx, hrun, Result.andThen]
  exact hK _ _ (h v' w' h2 h3)
end Go.Proofs.YtfiebjfdlplpjaaGreatDoor
end

section
/- What every seat's walks stand on: the imports, and the row of the type of bytes. -/
namespace Go.Proofs.YtfiebjfdlplpjaaGreatDoor
open Go.RowKit
set_option linter.unusedVariables false

theorem info8 : (Tryz.prog.info? 5).map (fun i => (i.zero, i.size, i.bytes)) = some (some (.int .u8 0), 1, 1) := by kernel_rfl

end Go.Proofs.YtfiebjfdlplpjaaGreatDoor
end

section
/- The walks over one bit's step: the program's halved, the document's times: both are the plain step. No condition. -/
namespace Go.Proofs.YtfiebjfdlplpjaaGreatDoor
open Go.RowKit
set_option linter.unusedVariables false

theorem mask1 (s : Nat) (h : s < 4294967296) : bits .and .u32 (s : Int) 1 = ((s % 2 : Nat) : Int) := by
  rw [show (1 : Int) = ((1 : Nat) : Int) by rfl, u32_and_nat s 1 h (by decide), Nat.and_one_is_mod]

theorem bit_key (s k : Nat) (h : s < 4294967296) : bits .and .u32 ((s : Int) / 2 ^ k) 1 = ((s / 2 ^ k % 2 : Nat) : Int) := by
  have e : (s : Int) / 2 ^ k = ((s / 2 ^ k : Nat) : Int) := by
    rw [Int.natCast_ediv, Int.natCast_pow]
    rfl
  rw [e]
  exact mask1 _ (Nat.lt_of_le_of_lt (Nat.div_le_self _ _) h)

theorem halved_key (s : Nat) (h : s < 4294967296) :
    bits .xor .u32 ((s : Int) / 2) (bits .and .u32 (-((s : Int) % 2) % 4294967296) 3988292384) = ((stp s : Nat) : Int) := by
  unfold stp
  rcases Nat.mod_two_eq_zero_or_one s with hs | hs
  · rw [hs, show (s : Int) % 2 = 0 by omega, show bits .and .u32 (-0 % 4294967296) 3988292384 = ((0 : Nat) : Int) by decide, show (s : Int) / 2 = ((s / 2 : Nat) : Int) by omega, u32_xor_nat _ _ (by omega) (by decide)]
    rfl
  · rw [hs, show (s : Int) % 2 = 1 by omega, show bits .and .u32 (-1 % 4294967296) 3988292384 = ((3988292384 : Nat) : Int) by decide, show (s : Int) / 2 = ((s / 2 : Nat) : Int) by omega, u32_xor_nat _ _ (by omega) (by decide)]
    rfl

theorem halved_any (s : Nat) (w : World) (h : s < 4294967296) :
    Calls Tryz.prog 83 #[.int .u32 s] w fun e w' => e = .returned (.int .u32 (stp s)) ∧ w' = w := by
  have h1 := mask1 s h
  have h2 := halved_key s h
  go_enter Tryz.func83, Tryz.ntmps83
  go_wp2_with (simp only [h1])
  go_ret
  exact ⟨rfl, rfl⟩

end Go.Proofs.YtfiebjfdlplpjaaGreatDoor
end

section
/- Bits of bytes turned, and what that does to their sum. -/
namespace Go.Proofs.YtfiebjfdlplpjaaGreatDoor
open Go.RowKit Go.Lib
set_option linter.unusedVariables false

theorem its_one (k i : Nat) (h : i ≤ k) : its k (2 ^ i) = its (k - i) 1 := by
  have h1 := its_pow i 0
  rw [Nat.zero_add, Nat.pow_zero] at h1
  rw [← h1, ← its_add, show i + (k - i) = k by omega]

/-- The bit p of the bytes turned. -/
def turn (L : List Int) (p : Nat) : List Int := L.set (p / 8) (((L.getD (p / 8) 0).toNat ^^^ 2 ^ (p % 8) : Nat) : Int)

theorem turn_length (L : List Int) (p : Nat) : (turn L p).length = L.length := by unfold turn; simp

theorem turn_range {L : List Int} (hL : Byt L) {p : Nat} (hp : p < 8 * L.length) : (L.getD (p / 8) 0).toNat ^^^ 2 ^ (p % 8) < 256 := by
  have hlt : p / 8 < L.length := by omega
  have h := hL _ (List.getElem_mem hlt)
  have hg : L.getD (p / 8) 0 = L[p / 8] := by simp [List.getD, hlt]
  have h2 : 2 ^ (p % 8) < 2 ^ 8 := Nat.pow_lt_pow_right (by decide) (by omega)
  rw [hg]
  exact Nat.xor_lt_two_pow (n := 8) (by omega) h2

theorem turn_byt {L : List Int} (hL : Byt L) {p : Nat} (hp : p < 8 * L.length) : Byt (turn L p) := by
  have h := turn_range hL hp
  intro z hz
  rcases List.mem_or_eq_of_mem_set hz with hz | hz
  · exact hL z hz
  · subst hz
    omega

theorem turn_mor {L : List Int} (hL : Byt L) {r i : Nat} (hp : r + i < 8 * L.length) : mor 0 (turn L (r + i)) = mor 0 L ^^^ its (8 * L.length - r) (2 ^ i) := by
  have h := turn_range hL hp
  unfold turn
  rw [mor_set hL _ (by omega) (by omega), Int.toNat_natCast, xor_cancel, its_one 8 ((r + i) % 8) (by omega), ← its_add, its_one (8 * L.length - r) i (by omega)]
  congr 2
  omega

theorem mod_bit (s n : Nat) : s % 2 ^ (n + 1) = s % 2 ^ n ^^^ (if s / 2 ^ n % 2 = 1 then 2 ^ n else 0) := by
  rw [← part_pow, ← part_pow]
  rfl

theorem bit_val (O k : Nat) (hO : O < 256) (hk : k < 8) : bits .xor .u8 (O : Int) (2 ^ k % 256) = ((O ^^^ 2 ^ k : Nat) : Int) := by
  have h2 : 2 ^ k < 2 ^ 8 := Nat.pow_lt_pow_right (by decide) hk
  have e : (2 : Int) ^ k = ((2 ^ k : Nat) : Int) := by simp
  rw [e]
  generalize 2 ^ k = m at *
  rw [show (m : Int) % 256 = m by omega, u8_xor_nat _ _ (by omega) (by omega)]

end Go.Proofs.YtfiebjfdlplpjaaGreatDoor
end

section
/- Frames as plain mathematics: their bytes, what is read of bytes, and what follows: frames are read back, first parts are torn, turned bits are seen. No program is named here. -/
namespace Go.Proofs.YtfiebjfdlplpjaaGreatDoor
open Go.RowKit Go.Lib
set_option linter.unusedVariables false

/-- the n lowest bytes of x -/
def le : Nat → Nat → List Int
  | 0, _ => []
  | n + 1, x => ((x % 256 : Nat) : Int) :: le n (x / 256)
/-- the number that bytes are, the lowest first -/
def un : List Int → Nat
  | [] => 0
  | z :: r => z.toNat + 256 * un r

theorem le_length : ∀ (n x : Nat), (le n x).length = n
  | 0, _ => rfl
  | n + 1, x => by simp [le, le_length n]
theorem le_byt : ∀ (n x : Nat), Byt (le n x)
  | 0, _ => fun z hz => by cases hz
  | n + 1, x => fun z hz => by
    rcases List.mem_cons.1 hz with rfl | hz
    · omega
    · exact le_byt n _ z hz
theorem un_le : ∀ (n x : Nat), x < 256 ^ n → un (le n x) = x
  | 0, x, h => by simp at h; subst h; rfl
  | n + 1, x, h => by
    have h1 : x / 256 < 256 ^ n := by
      rw [Nat.pow_succ] at h
      exact Nat.div_lt_of_lt_mul (by omega)
    simp only [le, un, un_le n _ h1]
    omega
theorem un_lt : ∀ {zs : List Int}, Byt zs → un zs < 256 ^ zs.length
  | [], _ => by simp [un]
  | z :: r, h => by
    have h1 := h z (List.mem_cons_self ..)
    have h2 := un_lt (zs := r) (fun y hy => h y (List.mem_cons_of_mem _ hy))
    simp only [un, List.length_cons, Nat.pow_succ]
    omega
theorem Byt.tail {z : Int} {r : List Int} (h : Byt (z :: r)) : Byt r := fun y hy => h y (List.mem_cons_of_mem _ hy)
theorem Byt.head {z : Int} {r : List Int} (h : Byt (z :: r)) : 0 ≤ z ∧ z ≤ 255 := h z (List.mem_cons_self ..)

theorem its_shift (k : Nat) : ∀ b : Nat, its k (b * 2 ^ k) = b := by
  induction k with
  | zero => intro b; simp [its]
  | succ k ih =>
    intro b
    have h : stp (b * 2 ^ (k + 1)) = b * 2 ^ k := by
      have e : b * 2 ^ (k + 1) = 2 * (b * 2 ^ k) := by rw [Nat.pow_succ]; (rw [Nat.mul_comm (2 ^ k) 2, ← Nat.mul_assoc, ← Nat.mul_assoc, Nat.mul_comm b 2])
      unfold stp
      rw [e, if_neg (by omega), Nat.xor_zero]
      omega
    show its k (stp (b * 2 ^ (k + 1))) = b
    rw [h, ih]

theorem byte_xor {z u : Nat} (hz : z < 256) : z ^^^ 256 * u = z + 256 * u := by
  apply Nat.eq_of_testBit_eq
  intro j
  rw [Nat.add_comm, show 256 * u = 2 ^ 8 * u by rfl, Nat.testBit_two_pow_mul_add u (by omega : z < 2 ^ 8), Nat.testBit_xor, Nat.testBit_two_pow_mul]
  by_cases h : j < 8
  · simp [h, show ¬ 8 ≤ j by omega]
  · have : z.testBit j = false := Nat.testBit_lt_two_pow (Nat.lt_of_lt_of_le hz (Nat.pow_le_pow_right (n := 2) (by decide) (by omega : 8 ≤ j)))
    simp [h, this, show 8 ≤ j by omega]

/-- bytes that follow, as one number -/
theorem fld_un : ∀ (D : List Int) (S : Nat), Byt D → fld S D = its (8 * D.length) (S ^^^ un D)
  | [], S, _ => by simp [fld, un, its]
  | z :: r, S, h => by
    have hz := h.head
    have ih := fld_un r (its 8 (S ^^^ z.toNat)) h.tail
    show fld (its 8 (S ^^^ z.toNat)) r = _
    have e8 : its 8 (256 * un r) = un r := by
      have := its_shift 8 (un r)
      rwa [Nat.mul_comm] at this
    rw [ih, List.length_cons, Nat.mul_add, Nat.mul_one, Nat.add_comm (8 * r.length) 8, its_add]
    congr 1
    conv => lhs; rw [← e8]
    rw [← its_xor, Nat.xor_assoc, un, byte_xor (by omega)]

/-- the constant that bytes with their own sum behind them come to -/
def resid : Nat := com (its 32 4294967295)

theorem com_inj {a b : Nat} (ha : a < 4294967296) (hb : b < 4294967296) (h : com a = com b) : a = b := by
  unfold com at h
  omega

theorem mor_four (t : Nat) (ht : t < 4294967296) {D : List Int} (hD : Byt D) (h4 : D.length = 4) : mor t D = com (its 32 (com t ^^^ un D)) := by
  unfold mor
  rw [fld_un D _ hD, h4]

theorem resid_iff {s : Nat} {A D : List Int} (hA : Byt A) (hD : Byt D) (h4 : D.length = 4) : un D = mor s A ↔ mor s (A ++ D) = resid := by
  have hl := mor_lt s A
  have hu : un D < 4294967296 := by have := un_lt hD; rw [h4] at this; exact this
  rw [mor_append hA, mor_four _ hl hD h4]
  generalize mor s A = t at *
  unfold resid
  constructor
  · rintro rfl
    rw [com_xor hl, Nat.xor_assoc, Nat.xor_self, Nat.xor_zero]
  · intro h
    have hc : com t ^^^ un D < 4294967296 := xlt (com_lt t) hu
    have h2 := com_inj (its_lt 32 hc) (its_lt 32 (by decide)) h
    have h3 : its 32 ((com t ^^^ un D) ^^^ 4294967295) = 0 := by rw [its_xor, h2, Nat.xor_self]
    have h4 := its_inj 32 (xlt hc (by decide)) h3
    have h5 : com t ^^^ un D = 4294967295 := by
      have := congrArg (· ^^^ 4294967295) h4
      simp only [Nat.xor_assoc, Nat.xor_self, Nat.xor_zero, Nat.zero_xor] at this
      exact this
    have h6 : un D = com t ^^^ 4294967295 := by rw [← h5, xor_cancel]
    rw [h6, com_xor hl, Nat.xor_comm 4294967295 t, Nat.xor_assoc, Nat.xor_self, Nat.xor_zero]

/-- a frame -/
structure Fr where
  k : Int
  body : List Int

def hd4 (k : Int) (m : Nat) : List Int := k :: le 3 m
/-- the sum of a frame's head -/
def hsum (k : Int) (m : Nat) : Nat := mor 0 (hd4 k m)
/-- a frame's bytes -/
def fby (f : Fr) : List Int := hd4 f.k f.body.length ++ (le 4 (hsum f.k f.body.length) ++ (f.body ++ le 4 (mor (hsum f.k f.body.length) f.body)))
def Fok (f : Fr) : Prop := (0 ≤ f.k ∧ f.k ≤ 255) ∧ Byt f.body ∧ f.body.length ≤ 1048576

theorem hd4_length (k : Int) (m : Nat) : (hd4 k m).length = 4 := by simp [hd4, le_length]
theorem fby_length (f : Fr) : (fby f).length = f.body.length + 12 := by
  simp only [fby, List.length_append, hd4_length, le_length]
  omega
theorem hd4_byt {k : Int} (hk : 0 ≤ k ∧ k ≤ 255) (m : Nat) : Byt (hd4 k m) := by
  intro z hz
  rcases List.mem_cons.1 hz with rfl | hz
  · exact hk
  · exact le_byt 3 m z hz
theorem fby_byt {f : Fr} (h : Fok f) : Byt (fby f) := (hd4_byt h.1 _).append ((le_byt 4 _).append (h.2.1.append (le_byt 4 _)))

/-- the sum that a head must have; its length -/
def hs (b : List Int) : Nat := mor 0 (b.take 4)
def sz (b : List Int) : Nat := un ((b.drop 1).take 3)

/-- how many bytes the frame at the beginning has, or why there is none -/
def mea (b : List Int) : Nat × Nat :=
  if b.length < 8 then (0, 4) else
  if un ((b.drop 4).take 4) ≠ hs b ∨ 1048576 < sz b then (0, 5) else
  if b.length < sz b + 12 then (0, 4) else
  if un ((b.drop (8 + sz b)).take 4) ≠ mor (hs b) ((b.drop 8).take (sz b)) then (0, 5) else (sz b + 12, 0)

/-- the frame that is read where there is one -/
def fra (b : List Int) : Fr := ⟨b.headD 0, (b.drop 8).take ((mea b).1 - 12)⟩

theorem mea_ok {b : List Int} (h : (mea b).2 = 0) : (mea b).1 = sz b + 12 ∧ sz b ≤ 1048576 ∧ sz b + 12 ≤ b.length := by
  unfold mea at h ⊢
  split at h
  · simp at h
  split at h
  · simp at h
  split at h
  · simp at h
  split at h
  · simp at h
  · rename_i h1 h2 h3 h4
    rw [if_neg h1, if_neg h2, if_neg h3, if_neg h4]
    exact ⟨rfl, by omega, by omega⟩
theorem mea_err {b : List Int} (h : (mea b).2 ≠ 0) : (mea b).1 = 0 := by
  unfold mea at h ⊢
  split
  · rfl
  split
  · rfl
  split
  · rfl
  split
  · rfl
  · rename_i h1 h2 h3 h4
    rw [if_neg h1, if_neg h2, if_neg h3, if_neg h4] at h
    exact absurd rfl h
theorem mea_le {b : List Int} (h : (mea b).2 = 0) : 12 ≤ (mea b).1 ∧ (mea b).1 ≤ b.length := by
  obtain ⟨h1, h2, h3⟩ := mea_ok h
  omega
theorem fra_length {b : List Int} (h : (mea b).2 = 0) : (fra b).body.length = (mea b).1 - 12 := by
  have := mea_le h
  simp only [fra, List.length_take, List.length_drop]
  omega
theorem fra_byt {b : List Int} (h : Byt b) : Byt (fra b).body := (h.drop 8).take _

/-- what is scanned: the frames, how many bytes they have, and why no more -/
def scn (b : List Int) : List Fr × Nat × Nat :=
  if h : (mea b).2 = 0 then (fra b :: (scn (b.drop (mea b).1)).1, (mea b).1 + (scn (b.drop (mea b).1)).2.1, (scn (b.drop (mea b).1)).2.2)
  else ([], 0, if b.length = 0 then 0 else (mea b).2)
termination_by b.length
decreasing_by all_goals (have := mea_le h; simp only [List.length_drop]; omega)

theorem scn_more {b : List Int} (h : (mea b).2 = 0) : scn b = (fra b :: (scn (b.drop (mea b).1)).1, (mea b).1 + (scn (b.drop (mea b).1)).2.1, (scn (b.drop (mea b).1)).2.2) := by
  rw [scn, dif_pos h]
theorem scn_end {b : List Int} (h : (mea b).2 ≠ 0) : scn b = ([], 0, if b.length = 0 then 0 else (mea b).2) := by
  rw [scn, dif_neg h]

/-- the places behind frames -/
def plc : Nat → List Fr → List Int
  | _, [] => []
  | at_, f :: r => ((at_ + (f.body.length + 12) : Nat) : Int) :: plc (at_ + (f.body.length + 12)) r

end Go.Proofs.YtfiebjfdlplpjaaGreatDoor
end

section
/- What follows of frames: they are read back, first parts are torn, turned bits are seen. No program is named here. -/
namespace Go.Proofs.YtfiebjfdlplpjaaGreatDoor
open Go.RowKit Go.Lib
set_option linter.unusedVariables false

theorem cut8 {A B R : List Int} (hA : A.length = 4) (hB : B.length = 4) :
    (A ++ (B ++ R)).take 4 = A ∧ ((A ++ (B ++ R)).drop 4).take 4 = B ∧ (A ++ (B ++ R)).drop 8 = R ∧ ((A ++ (B ++ R)).drop 1).take 3 = A.drop 1 := by
  match A, hA with
  | [a0, a1, a2, a3], _ =>
    match B, hB with
    | [b0, b1, b2, b3], _ => exact ⟨rfl, rfl, rfl, rfl⟩

theorem mea_head {k : Int} {m : Nat} (hm : m ≤ 1048576) (R : List Int) :
    mea (hd4 k m ++ (le 4 (hsum k m) ++ R)) = if R.length < m + 4 then (0, 4) else if un ((R.drop m).take 4) ≠ mor (hsum k m) (R.take m) then (0, 5) else (m + 12, 0) := by
  obtain ⟨h1, h2, h3, h4⟩ := cut8 (A := hd4 k m) (B := le 4 (hsum k m)) (R := R) (hd4_length k m) (le_length 4 _)
  have hl : (hd4 k m ++ (le 4 (hsum k m) ++ R)).length = 8 + R.length := by simp only [List.length_append, hd4_length, le_length]; omega
  have hsz : sz (hd4 k m ++ (le 4 (hsum k m) ++ R)) = m := by
    unfold sz
    rw [h4]
    show un (le 3 m) = m
    exact un_le 3 m (by have : (256 : Nat) ^ 3 = 16777216 := by decide
                        omega)
  have hhs : hs (hd4 k m ++ (le 4 (hsum k m) ++ R)) = hsum k m := by unfold hs; rw [h1]; rfl
  have hun : un (le 4 (hsum k m)) = hsum k m := un_le 4 _ (mor_lt _ _)
  unfold mea
  rw [hsz, hhs, hl, h2, hun, ← List.drop_drop, h3]
  rw [if_neg (by omega), if_neg (by omega)]
  by_cases h : R.length < m + 4
  · rw [if_pos h, if_pos (by omega)]
  · rw [if_neg h, if_neg (by omega)]

theorem fra_head {k : Int} {m : Nat} {R : List Int} : fra (hd4 k m ++ (le 4 (hsum k m) ++ R)) = ⟨k, R.take ((mea (hd4 k m ++ (le 4 (hsum k m) ++ R))).1 - 12)⟩ := by
  obtain ⟨h1, h2, h3, h4⟩ := cut8 (A := hd4 k m) (B := le 4 (hsum k m)) (R := R) (hd4_length k m) (le_length 4 _)
  unfold fra
  rw [h3]
  rfl

theorem fby_split (f : Fr) (more : List Int) : fby f ++ more = hd4 f.k f.body.length ++ (le 4 (hsum f.k f.body.length) ++ (f.body ++ (le 4 (mor (hsum f.k f.body.length) f.body) ++ more))) := by
  simp only [fby, List.append_assoc]

theorem mea_fby (f : Fr) (hf : Fok f) (more : List Int) : mea (fby f ++ more) = (f.body.length + 12, 0) := by
  rw [fby_split, mea_head hf.2.2]
  rw [if_neg (by simp only [List.length_append, le_length]; omega), if_neg]
  rw [List.drop_left, List.take_left, show (le 4 (mor (hsum f.k f.body.length) f.body) ++ more).take 4 = le 4 (mor (hsum f.k f.body.length) f.body) from List.take_left' (le_length 4 _)]
  rw [un_le 4 _ (mor_lt _ _)]
  simp

theorem fra_fby (f : Fr) (hf : Fok f) (more : List Int) : fra (fby f ++ more) = f := by
  have h := mea_fby f hf more
  rw [fby_split] at h ⊢
  rw [fra_head, h]
  simp

theorem scn_fby (f : Fr) (hf : Fok f) (more : List Int) : scn (fby f ++ more) = (f :: (scn more).1, f.body.length + 12 + (scn more).2.1, (scn more).2.2) := by
  have h := mea_fby f hf more
  rw [scn_more (by rw [h]), h, fra_fby f hf more]
  have hd : (fby f ++ more).drop (f.body.length + 12) = more := by
    rw [← fby_length f, List.drop_left]
  rw [hd]

/-- a first part that ends within a frame -/
theorem mea_torn (f : Fr) (hf : Fok f) {n : Nat} (hn : n < f.body.length + 12) : mea ((fby f).take n) = (0, 4) := by
  by_cases h8 : n < 8
  · unfold mea
    rw [if_pos (by simp only [List.length_take]; omega)]
  · have hl4 : (hd4 f.k f.body.length).length = 4 := hd4_length _ _
    have e : (fby f).take n = hd4 f.k f.body.length ++ (le 4 (hsum f.k f.body.length) ++ (f.body ++ le 4 (mor (hsum f.k f.body.length) f.body)).take (n - 8)) := by
      rw [fby, List.take_append, hl4, List.take_of_length_le (by omega), List.take_append, le_length, List.take_of_length_le (by rw [le_length]; omega), show n - 4 - 4 = n - 8 by omega]
    rw [e, mea_head hf.2.2, if_pos]
    simp only [List.length_take, List.length_append, le_length]
    omega

/-- frames' bytes, one behind the other -/
def fbs (fs : List Fr) : List Int := (fs.map fby).flatten
/-- how many of the frames lie whole in the first n bytes, and how many bytes they have -/
def whl : List Fr → Nat → Nat × Nat
  | [], _ => (0, 0)
  | f :: r, n => if f.body.length + 12 ≤ n then ((whl r (n - (f.body.length + 12))).1 + 1, f.body.length + 12 + (whl r (n - (f.body.length + 12))).2) else (0, 0)

theorem scn_nil : scn [] = ([], 0, 0) := by
  rw [scn_end (by unfold mea; simp)]
  rfl

theorem scn_torn : ∀ (fs : List Fr), (∀ f ∈ fs, Fok f) → ∀ n, n ≤ (fbs fs).length → scn ((fbs fs).take n) = (fs.take (whl fs n).1, (whl fs n).2, if (whl fs n).2 = n then 0 else 4)
  | [], _, n, hn => by
    simp [fbs] at hn
    subst hn
    simp [fbs, whl, scn_nil]
  | f :: r, h, n, hn => by
    have hf := h f (List.mem_cons_self ..)
    have hl := fby_length f
    have e : fbs (f :: r) = fby f ++ fbs r := by simp [fbs]
    rw [e] at hn ⊢
    rw [List.length_append] at hn
    rw [whl]
    by_cases hle : f.body.length + 12 ≤ n
    · rw [if_pos hle]
      have e2 : (fby f ++ fbs r).take n = fby f ++ (fbs r).take (n - (f.body.length + 12)) := by
        rw [List.take_append, hl, List.take_of_length_le (by omega)]
      have ih := scn_torn r (fun g hg => h g (List.mem_cons_of_mem _ hg)) (n - (f.body.length + 12)) (by omega)
      rw [e2, scn_fby f hf, ih]
      generalize whl r (n - (f.body.length + 12)) = W
      simp only [List.take_succ_cons]
      congr 2
      by_cases h2 : W.2 = n - (f.body.length + 12)
      · rw [if_pos h2, if_pos (by omega)]
      · rw [if_neg h2, if_neg (by omega)]
    · rw [if_neg hle]
      have e2 : (fby f ++ fbs r).take n = (fby f).take n := by
        rw [List.take_append, show n - (fby f).length = 0 by omega, List.take_zero, List.append_nil]
      have ht := mea_torn f hf (n := n) (by omega)
      rw [e2, scn_end (by rw [ht]; decide), ht]
      simp only [List.length_take, hl, List.take_zero]
      congr 2
      by_cases h2 : n = 0
      · subst h2; simp
      · rw [if_neg (by omega), if_neg (by omega)]

theorem whl_all : ∀ (fs : List Fr), whl fs (fbs fs).length = (fs.length, (fbs fs).length)
  | [] => rfl
  | f :: r => by
    have e : (fbs (f :: r)).length = f.body.length + 12 + (fbs r).length := by simp [fbs, fby_length]
    rw [whl, e, if_pos (by omega), show f.body.length + 12 + (fbs r).length - (f.body.length + 12) = (fbs r).length by omega, whl_all r]
    rfl

theorem scn_all (fs : List Fr) (h : ∀ f ∈ fs, Fok f) : scn (fbs fs) = (fs, (fbs fs).length, 0) := by
  have := scn_torn fs h (fbs fs).length (Nat.le_refl _)
  rw [whl_all, List.take_length, List.take_length] at this
  simpa using this

/-- the bits of X from the place r on turned, the first n of them, as far as the bytes go -/
def tns (r X : Nat) : Nat → List Int → List Int
  | 0, L => L
  | n + 1, L => if X / 2 ^ n % 2 = 1 ∧ r + n < 8 * L.length then turn (tns r X n L) (r + n) else tns r X n L

theorem tns_length (r X : Nat) : ∀ (n : Nat) (L : List Int), (tns r X n L).length = L.length
  | 0, L => rfl
  | n + 1, L => by
    rw [tns]
    split
    · rw [turn_length, tns_length r X n L]
    · exact tns_length r X n L
theorem tns_byt (r X : Nat) : ∀ (n : Nat) {L : List Int}, Byt L → Byt (tns r X n L)
  | 0, L, h => h
  | n + 1, L, h => by
    rw [tns]
    split
    · exact turn_byt (tns_byt r X n h) (by rw [tns_length]; omega)
    · exact tns_byt r X n h

theorem turn_take {L : List Int} {p m : Nat} (hm : m ≤ L.length) : (turn L p).take m = if p < 8 * m then turn (L.take m) p else L.take m := by
  unfold turn
  rw [List.take_set]
  by_cases h : p < 8 * m
  · rw [if_pos h]
    congr 3
    simp only [List.getD_eq_getElem?_getD, List.getElem?_take, if_pos (show p / 8 < m by omega)]
  · rw [if_neg h, List.set_eq_of_length_le (by rw [List.length_take]; omega)]

theorem tns_take (r X : Nat) : ∀ (n : Nat) (L : List Int) (m : Nat), m ≤ L.length → (tns r X n L).take m = tns r X n (L.take m)
  | 0, L, m, h => rfl
  | n + 1, L, m, h => by
    have hlm : (L.take m).length = m := by rw [List.length_take]; omega
    have ih := tns_take r X n L m h
    rw [tns, tns, hlm]
    by_cases h1 : X / 2 ^ n % 2 = 1 ∧ r + n < 8 * L.length
    · rw [if_pos h1, turn_take (by rw [tns_length]; exact h), ih]
      by_cases h2 : r + n < 8 * m
      · rw [if_pos h2, if_pos ⟨h1.1, h2⟩]
      · rw [if_neg h2, if_neg (fun h => h2 h.2)]
    · rw [if_neg h1, if_neg (fun h2 => h1 ⟨h2.1, by omega⟩), ih]

/-- the bits that are turned, as a number -/
def brs (r X n m : Nat) : Nat := X % 2 ^ (min n (8 * m - r))

theorem tns_mor (r X : Nat) : ∀ (n : Nat) {L : List Int}, Byt L → mor 0 (tns r X n L) = mor 0 L ^^^ its (8 * L.length - r) (brs r X n L.length)
  | 0, L, h => by simp [tns, brs, Nat.mod_one, its_zero]
  | n + 1, L, h => by
    have ih := tns_mor r X n h
    have hb := mod_bit X n
    unfold brs at ih ⊢
    rw [tns]
    by_cases hin : r + n < 8 * L.length
    · rw [show min n (8 * L.length - r) = n by omega] at ih
      rw [show min (n + 1) (8 * L.length - r) = n + 1 by omega, hb]
      by_cases hbit : X / 2 ^ n % 2 = 1
      · rw [if_pos ⟨hbit, hin⟩, if_pos hbit, turn_mor (tns_byt r X n h) (by rw [tns_length]; exact hin), ih, tns_length, Nat.xor_assoc, ← its_xor]
      · rw [if_neg (fun h => hbit h.1), if_neg hbit, Nat.xor_zero, ih]
    · rw [if_neg (fun h => hin h.2), ih, show min n (8 * L.length - r) = 8 * L.length - r by omega, show min (n + 1) (8 * L.length - r) = 8 * L.length - r by omega]

theorem brs_none {r X n m : Nat} (h : brs r X n m = 0) {i : Nat} (hi : i < n) (hm : r + i < 8 * m) : ¬ X / 2 ^ i % 2 = 1 := by
  intro hb
  unfold brs at h
  have h1 : X % 2 ^ (i + 1) = 0 := by
    have hd : 2 ^ (i + 1) ∣ 2 ^ (min n (8 * m - r)) := Nat.pow_dvd_pow 2 (by omega)
    have := Nat.mod_mod_of_dvd X hd
    rw [h] at this
    simpa using this.symm
  have h2 := Nat.mod_pow_succ (x := X) (b := 2) (k := i)
  rw [h1, hb] at h2
  have h3 : 0 < 2 ^ i := Nat.pow_pos (by decide)
  omega

theorem tns_none (r X : Nat) {m : Nat} : ∀ (n : Nat) {L : List Int}, L.length = m → brs r X n m = 0 → tns r X n L = L
  | 0, L, _, _ => rfl
  | n + 1, L, hL, h => by
    have h0 : brs r X n m = 0 := by
      unfold brs at h ⊢
      have hd : 2 ^ (min n (8 * m - r)) ∣ 2 ^ (min (n + 1) (8 * m - r)) := Nat.pow_dvd_pow 2 (by omega)
      have := Nat.mod_mod_of_dvd X hd
      rw [h] at this
      simpa using this.symm
    rw [tns, if_neg (fun hc => brs_none h (by omega) (by rw [← hL]; exact hc.2) hc.1)]
    exact tns_none r X n hL h0

theorem brs_lt {r X n m : Nat} (hX : X < 4294967296) : brs r X n m < 4294967296 := Nat.lt_of_le_of_lt (Nat.mod_le _ _) hX

/-- where a bit is turned the sum is another -/
theorem tns_seen {r X n : Nat} (hX : X < 4294967296) {L : List Int} (hL : Byt L) (h : brs r X n L.length ≠ 0) : mor 0 (tns r X n L) ≠ mor 0 L := by
  intro e
  rw [tns_mor r X n hL] at e
  have e2 := xor_cancel (mor 0 L) (its (8 * L.length - r) (brs r X n L.length))
  rw [e, Nat.xor_self] at e2
  exact h (its_inj _ (brs_lt hX) e2.symm)

theorem mor_other {s s' : Nat} (hs : s < 4294967296) (hs' : s' < 4294967296) {a b : List Int} (ha : Byt a) (hb : Byt b) (hl : a.length = b.length) (h : mor s a = mor s b) : mor s' a = mor s' b := by
  rw [mor_join hs ha, mor_join hs hb, hl] at h
  have h2 : mor 0 a = mor 0 b := by
    have := congrArg (its (8 * b.length) s ^^^ ·) h
    simpa only [xor_cancel] using this
  rw [mor_join hs' ha, mor_join hs' hb, hl, h2]

/-- bits turned within 32 side by side of a frame are seen, whatever stands behind -/
theorem mea_turned (f : Fr) (hf : Fok f) {r X : Nat} (hX : X < 4294967296) (h : brs r X 32 (f.body.length + 12) ≠ 0) (more : List Int) : mea (tns r X 32 (fby f) ++ more) = (0, 5) := by
  have hl := fby_length f
  have hby := fby_byt hf
  have hlt := tns_length r X 32 (fby f)
  have hbt := tns_byt r X 32 hby
  have hh4 := hd4_byt hf.1 f.body.length
  have hd8 : (fby f).take 8 = hd4 f.k f.body.length ++ le 4 (hsum f.k f.body.length) := by
    rw [fby, ← List.append_assoc]
    have e8 : (hd4 f.k f.body.length ++ le 4 (hsum f.k f.body.length)).length = 8 := by simp [hd4_length, le_length]
    exact List.take_left' e8
  have ht8 := tns_take r X 32 (fby f) 8 (by omega)
  by_cases hA : brs r X 32 8 = 0
  · -- the head stands as it did
    have h8l : ((fby f).take 8).length = 8 := by rw [List.length_take]; omega
    rw [tns_none r X 32 h8l hA, hd8] at ht8
    obtain ⟨R, hR⟩ : ∃ R, R = (tns r X 32 (fby f)).drop 8 := ⟨_, rfl⟩
    have e : tns r X 32 (fby f) = hd4 f.k f.body.length ++ (le 4 (hsum f.k f.body.length) ++ R) := by
      rw [← List.append_assoc, ← ht8, hR, List.take_append_drop]
    have hRl : R.length = f.body.length + 4 := by rw [hR, List.length_drop, hlt, hl]; omega
    have hRb : Byt R := by rw [hR]; exact hbt.drop 8
    have hne := tns_seen (r := r) (n := 32) hX hby (by rw [hl]; exact h)
    rw [e, List.append_assoc, List.append_assoc, mea_head hf.2.2, if_neg (by rw [List.length_append]; omega), if_pos]
    intro hun
    apply hne
    rw [e]
    rw [List.drop_append, List.take_append, List.take_append, show f.body.length - R.length = 0 by omega, List.drop_zero, List.take_zero, List.append_nil] at hun
    rw [List.length_drop, show 4 - (R.length - f.body.length) = 0 by omega, List.take_zero, List.append_nil, List.take_of_length_le (by rw [List.length_drop]; omega)] at hun
    have hs1 := (resid_iff (hRb.take f.body.length) (hRb.drop f.body.length) (by rw [List.length_drop]; omega)).1 hun
    rw [List.take_append_drop] at hs1
    have hs2 := (resid_iff (s := hsum f.k f.body.length) hf.2.1 (le_byt 4 (mor (hsum f.k f.body.length) f.body)) (le_length 4 _)).1 (un_le 4 _ (mor_lt _ _))
    have hbb : Byt (f.body ++ le 4 (mor (hsum f.k f.body.length) f.body)) := hf.2.1.append (le_byt 4 _)
    have hll : R.length = (f.body ++ le 4 (mor (hsum f.k f.body.length) f.body)).length := by rw [List.length_append, le_length, hRl]
    have hs3 := mor_other (mor_lt 0 (hd4 f.k f.body.length ++ le 4 (hsum f.k f.body.length))) (mor_lt 0 (hd4 f.k f.body.length ++ le 4 (hsum f.k f.body.length))) hRb hbb hll
      (mor_other (mor_lt _ _) (mor_lt 0 (hd4 f.k f.body.length ++ le 4 (hsum f.k f.body.length))) hRb hbb hll (hs1.trans hs2.symm))
    have hH : Byt (hd4 f.k f.body.length ++ le 4 (hsum f.k f.body.length)) := hh4.append (le_byt 4 _)
    rw [fby, ← List.append_assoc, mor_append hH, hs3, ← mor_append hH, List.append_assoc]
  · -- the head is another one
    have hne := tns_seen (r := r) (n := 32) (L := (fby f).take 8) hX (hby.take 8) (by rw [List.length_take, hl, show min 8 (f.body.length + 12) = 8 by omega]; exact hA)
    rw [← ht8, hd8] at hne
    have hs2 := (resid_iff (s := 0) hh4 (le_byt 4 (hsum f.k f.body.length)) (le_length 4 _)).1 (un_le 4 _ (mor_lt _ _))
    rw [hs2] at hne
    obtain ⟨A, hAe⟩ : ∃ A, A = (tns r X 32 (fby f)).take 4 := ⟨_, rfl⟩
    obtain ⟨D, hDe⟩ : ∃ D, D = ((tns r X 32 (fby f)).drop 4).take 4 := ⟨_, rfl⟩
    have e8 : (tns r X 32 (fby f)).take 8 = A ++ D := by
      rw [hAe, hDe, show 8 = 4 + 4 by rfl, List.take_add]
    have hA4 : Byt A := by rw [hAe]; exact hbt.take 4
    have hD4 : Byt D := by rw [hDe]; exact (hbt.drop 4).take 4
    have hDl : D.length = 4 := by rw [hDe, List.length_take, List.length_drop, hlt, hl]; omega
    have hun : un D ≠ mor 0 A := fun hu => hne (by rw [e8]; exact (resid_iff hA4 hD4 hDl).1 hu)
    unfold mea
    rw [if_neg (by rw [List.length_append, hlt, hl]; omega), if_pos]
    left
    unfold hs
    rw [List.drop_append, List.take_append, List.take_append, hlt, hl, List.length_drop, hlt, hl, show 4 - (f.body.length + 12) = 0 by omega, show 4 - (f.body.length + 12 - 4) = 0 by omega, List.take_zero, List.append_nil, List.take_zero, List.append_nil, ← hAe, ← hDe]
    exact hun

end Go.Proofs.YtfiebjfdlplpjaaGreatDoor
end
