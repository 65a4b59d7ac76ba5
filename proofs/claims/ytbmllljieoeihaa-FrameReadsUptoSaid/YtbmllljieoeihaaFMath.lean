/- Frames as plain mathematics: their bytes, what is read of bytes, and what follows: frames are read back, first parts are torn, turned bits are seen. No program is named here. -/
import Derived.Test.YtbmllljieoeihaaCTurn
namespace Go.Proofs.Ytbmllljieoeihaa
open Go.RowKit Go.Lib
set_option linter.unusedVariables false

/-- the n lowest bytes of x -/
def le : Nat → Nat → List Int
  | 0, _ => []
  | n + 1, x => ((x % 256 : Nat) : Int) :: le n (x / 256)
/-- the number that bytes are, the lowest first -/
def un : List Int → Nat
  | [] => 0
  | z :: r => z.toNat + 256 * un r

theorem le_length : ∀ (n x : Nat), (le n x).length = n
  | 0, _ => rfl
  | n + 1, x => by simp [le, le_length n]
theorem le_byt : ∀ (n x : Nat), Byt (le n x)
  | 0, _ => fun z hz => by cases hz
  | n + 1, x => fun z hz => by
    rcases List.mem_cons.1 hz with rfl | hz
    · omega
    · exact le_byt n _ z hz
theorem un_le : ∀ (n x : Nat), x < 256 ^ n → un (le n x) = x
  | 0, x, h => by simp at h; subst h; rfl
  | n + 1, x, h => by
    have h1 : x / 256 < 256 ^ n := by
      rw [Nat.pow_succ] at h
      exact Nat.div_lt_of_lt_mul (by omega)
    simp only [le, un, un_le n _ h1]
    omega
theorem un_lt : ∀ {zs : List Int}, Byt zs → un zs < 256 ^ zs.length
  | [], _ => by simp [un]
  | z :: r, h => by
    have h1 := h z (List.mem_cons_self ..)
    have h2 := un_lt (zs := r) (fun y hy => h y (List.mem_cons_of_mem _ hy))
    simp only [un, List.length_cons, Nat.pow_succ]
    omega
theorem Byt.tail {z : Int} {r : List Int} (h : Byt (z :: r)) : Byt r := fun y hy => h y (List.mem_cons_of_mem _ hy)
theorem Byt.head {z : Int} {r : List Int} (h : Byt (z :: r)) : 0 ≤ z ∧ z ≤ 255 := h z (List.mem_cons_self ..)

theorem its_shift (k : Nat) : ∀ b : Nat, its k (b * 2 ^ k) = b := by
  induction k with
  | zero => intro b; simp [its]
  | succ k ih =>
    intro b
    have h : stp (b * 2 ^ (k + 1)) = b * 2 ^ k := by
      have e : b * 2 ^ (k + 1) = 2 * (b * 2 ^ k) := by rw [Nat.pow_succ]; (rw [Nat.mul_comm (2 ^ k) 2, ← Nat.mul_assoc, ← Nat.mul_assoc, Nat.mul_comm b 2])
      unfold stp
      rw [e, if_neg (by omega), Nat.xor_zero]
      omega
    show its k (stp (b * 2 ^ (k + 1))) = b
    rw [h, ih]

theorem byte_xor {z u : Nat} (hz : z < 256) : z ^^^ 256 * u = z + 256 * u := by
  apply Nat.eq_of_testBit_eq
  intro j
  rw [Nat.add_comm, show 256 * u = 2 ^ 8 * u by rfl, Nat.testBit_two_pow_mul_add u (by omega : z < 2 ^ 8), Nat.testBit_xor, Nat.testBit_two_pow_mul]
  by_cases h : j < 8
  · simp [h, show ¬ 8 ≤ j by omega]
  · have : z.testBit j = false := Nat.testBit_lt_two_pow (Nat.lt_of_lt_of_le hz (Nat.pow_le_pow_right (n := 2) (by decide) (by omega : 8 ≤ j)))
    simp [h, this, show 8 ≤ j by omega]

/-- bytes that follow, as one number -/
theorem fld_un : ∀ (D : List Int) (S : Nat), Byt D → fld S D = its (8 * D.length) (S ^^^ un D)
  | [], S, _ => by simp [fld, un, its]
  | z :: r, S, h => by
    have hz := h.head
    have ih := fld_un r (its 8 (S ^^^ z.toNat)) h.tail
    show fld (its 8 (S ^^^ z.toNat)) r = _
    have e8 : its 8 (256 * un r) = un r := by
      have := its_shift 8 (un r)
      rwa [Nat.mul_comm] at this
    rw [ih, List.length_cons, Nat.mul_add, Nat.mul_one, Nat.add_comm (8 * r.length) 8, its_add]
    congr 1
    conv => lhs; rw [← e8]
    rw [← its_xor, Nat.xor_assoc, un, byte_xor (by omega)]

/-- the constant that bytes with their own sum behind them come to -/
def resid : Nat := com (its 32 4294967295)

theorem com_inj {a b : Nat} (ha : a < 4294967296) (hb : b < 4294967296) (h : com a = com b) : a = b := by
  unfold com at h
  omega

theorem mor_four (t : Nat) (ht : t < 4294967296) {D : List Int} (hD : Byt D) (h4 : D.length = 4) : mor t D = com (its 32 (com t ^^^ un D)) := by
  unfold mor
  rw [fld_un D _ hD, h4]

theorem resid_iff {s : Nat} {A D : List Int} (hA : Byt A) (hD : Byt D) (h4 : D.length = 4) : un D = mor s A ↔ mor s (A ++ D) = resid := by
  have hl := mor_lt s A
  have hu : un D < 4294967296 := by have := un_lt hD; rw [h4] at this; exact this
  rw [mor_append hA, mor_four _ hl hD h4]
  generalize mor s A = t at *
  unfold resid
  constructor
  · rintro rfl
    rw [com_xor hl, Nat.xor_assoc, Nat.xor_self, Nat.xor_zero]
  · intro h
    have hc : com t ^^^ un D < 4294967296 := xlt (com_lt t) hu
    have h2 := com_inj (its_lt 32 hc) (its_lt 32 (by decide)) h
    have h3 : its 32 ((com t ^^^ un D) ^^^ 4294967295) = 0 := by rw [its_xor, h2, Nat.xor_self]
    have h4 := its_inj 32 (xlt hc (by decide)) h3
    have h5 : com t ^^^ un D = 4294967295 := by
      have := congrArg (· ^^^ 4294967295) h4
      simp only [Nat.xor_assoc, Nat.xor_self, Nat.xor_zero, Nat.zero_xor] at this
      exact this
    have h6 : un D = com t ^^^ 4294967295 := by rw [← h5, xor_cancel]
    rw [h6, com_xor hl, Nat.xor_comm 4294967295 t, Nat.xor_assoc, Nat.xor_self, Nat.xor_zero]

/-- a frame -/
structure Fr where
  k : Int
  body : List Int

def hd4 (k : Int) (m : Nat) : List Int := k :: le 3 m
/-- the sum of a frame's head -/
def hsum (k : Int) (m : Nat) : Nat := mor 0 (hd4 k m)
/-- a frame's bytes -/
def fby (f : Fr) : List Int := hd4 f.k f.body.length ++ (le 4 (hsum f.k f.body.length) ++ (f.body ++ le 4 (mor (hsum f.k f.body.length) f.body)))
def Fok (f : Fr) : Prop := (0 ≤ f.k ∧ f.k ≤ 255) ∧ Byt f.body ∧ f.body.length ≤ 1048576

theorem hd4_length (k : Int) (m : Nat) : (hd4 k m).length = 4 := by simp [hd4, le_length]
theorem fby_length (f : Fr) : (fby f).length = f.body.length + 12 := by
  simp only [fby, List.length_append, hd4_length, le_length]
  omega
theorem hd4_byt {k : Int} (hk : 0 ≤ k ∧ k ≤ 255) (m : Nat) : Byt (hd4 k m) := by
  intro z hz
  rcases List.mem_cons.1 hz with rfl | hz
  · exact hk
  · exact le_byt 3 m z hz
theorem fby_byt {f : Fr} (h : Fok f) : Byt (fby f) := (hd4_byt h.1 _).append ((le_byt 4 _).append (h.2.1.append (le_byt 4 _)))

/-- the sum that a head must have; its length -/
def hs (b : List Int) : Nat := mor 0 (b.take 4)
def sz (b : List Int) : Nat := un ((b.drop 1).take 3)

/-- how many bytes the frame at the beginning has, or why there is none -/
def mea (b : List Int) : Nat × Nat :=
  if b.length < 8 then (0, 4) else
  if un ((b.drop 4).take 4) ≠ hs b ∨ 1048576 < sz b then (0, 5) else
  if b.length < sz b + 12 then (0, 4) else
  if un ((b.drop (8 + sz b)).take 4) ≠ mor (hs b) ((b.drop 8).take (sz b)) then (0, 5) else (sz b + 12, 0)

/-- the frame that is read where there is one -/
def fra (b : List Int) : Fr := ⟨b.headD 0, (b.drop 8).take ((mea b).1 - 12)⟩

theorem mea_ok {b : List Int} (h : (mea b).2 = 0) : (mea b).1 = sz b + 12 ∧ sz b ≤ 1048576 ∧ sz b + 12 ≤ b.length := by
  unfold mea at h ⊢
  split at h
  · simp at h
  split at h
  · simp at h
  split at h
  · simp at h
  split at h
  · simp at h
  · rename_i h1 h2 h3 h4
    rw [if_neg h1, if_neg h2, if_neg h3, if_neg h4]
    exact ⟨rfl, by omega, by omega⟩
theorem mea_err {b : List Int} (h : (mea b).2 ≠ 0) : (mea b).1 = 0 := by
  unfold mea at h ⊢
  split
  · rfl
  split
  · rfl
  split
  · rfl
  split
  · rfl
  · rename_i h1 h2 h3 h4
    rw [if_neg h1, if_neg h2, if_neg h3, if_neg h4] at h
    exact absurd rfl h
theorem mea_le {b : List Int} (h : (mea b).2 = 0) : 12 ≤ (mea b).1 ∧ (mea b).1 ≤ b.length := by
  obtain ⟨h1, h2, h3⟩ := mea_ok h
  omega
theorem fra_length {b : List Int} (h : (mea b).2 = 0) : (fra b).body.length = (mea b).1 - 12 := by
  have := mea_le h
  simp only [fra, List.length_take, List.length_drop]
  omega
theorem fra_byt {b : List Int} (h : Byt b) : Byt (fra b).body := (h.drop 8).take _

/-- what is scanned: the frames, how many bytes they have, and why no more -/
def scn (b : List Int) : List Fr × Nat × Nat :=
  if h : (mea b).2 = 0 then (fra b :: (scn (b.drop (mea b).1)).1, (mea b).1 + (scn (b.drop (mea b).1)).2.1, (scn (b.drop (mea b).1)).2.2)
  else ([], 0, if b.length = 0 then 0 else (mea b).2)
termination_by b.length
decreasing_by all_goals (have := mea_le h; simp only [List.length_drop]; omega)

theorem scn_more {b : List Int} (h : (mea b).2 = 0) : scn b = (fra b :: (scn (b.drop (mea b).1)).1, (mea b).1 + (scn (b.drop (mea b).1)).2.1, (scn (b.drop (mea b).1)).2.2) := by
  rw [scn, dif_pos h]
theorem scn_end {b : List Int} (h : (mea b).2 ≠ 0) : scn b = ([], 0, if b.length = 0 then 0 else (mea b).2) := by
  rw [scn, dif_neg h]

/-- the places behind frames -/
def plc : Nat → List Fr → List Int
  | _, [] => []
  | at_, f :: r => ((at_ + (f.body.length + 12) : Nat) : Int) :: plc (at_ + (f.body.length + 12)) r

end Go.Proofs.Ytbmllljieoeihaa
