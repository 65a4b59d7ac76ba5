/- Several texts, each a section: CTurn, FMath, FMath2, JMath, JScan, DApp1. -/
import Derived.Test.YtbobakfcmkaijaaGreatDoorM06
import Derived.Test.YtbobakfcmkaijaaGreatDoorM05
import Derived.Deep.RegionLaw
section
/- Bits of bytes turned, and what that does to their sum. -/
namespace Go.Proofs.YtbobakfcmkaijaaGreatDoor
open Go.RowKit Go.Lib
set_option linter.unusedVariables false

theorem its_one (k i : Nat) (h : i ≤ k) : its k (2 ^ i) = its (k - i) 1 := by
  have h1 := its_pow i 0
  rw [Nat.zero_add, Nat.pow_zero] at h1
  rw [← h1, ← its_add, show i + (k - i) = k by omega]

/-- The bit p of the bytes turned. -/
def turn (L : List Int) (p : Nat) : List Int := L.set (p / 8) (((L.getD (p / 8) 0).toNat ^^^ 2 ^ (p % 8) : Nat) : Int)

theorem turn_length (L : List Int) (p : Nat) : (turn L p).length = L.length := by unfold turn; simp

theorem turn_range {L : List Int} (hL : Byt L) {p : Nat} (hp : p < 8 * L.length) : (L.getD (p / 8) 0).toNat ^^^ 2 ^ (p % 8) < 256 := by
  have hlt : p / 8 < L.length := by omega
  have h := hL _ (List.getElem_mem hlt)
  have hg : L.getD (p / 8) 0 = L[p / 8] := by simp [List.getD, hlt]
  have h2 : 2 ^ (p % 8) < 2 ^ 8 := Nat.pow_lt_pow_right (by decide) (by omega)
  rw [hg]
  exact Nat.xor_lt_two_pow (n := 8) (by omega) h2

theorem turn_byt {L : List Int} (hL : Byt L) {p : Nat} (hp : p < 8 * L.length) : Byt (turn L p) := by
  have h := turn_range hL hp
  intro z hz
  rcases List.mem_or_eq_of_mem_set hz with hz | hz
  · exact hL z hz
  · subst hz
    omega

theorem turn_mor {L : List Int} (hL : Byt L) {r i : Nat} (hp : r + i < 8 * L.length) : mor 0 (turn L (r + i)) = mor 0 L ^^^ its (8 * L.length - r) (2 ^ i) := by
  have h := turn_range hL hp
  unfold turn
  rw [mor_set hL _ (by omega) (by omega), Int.toNat_natCast, xor_cancel, its_one 8 ((r + i) % 8) (by omega), ← its_add, its_one (8 * L.length - r) i (by omega)]
  congr 2
  omega

theorem mod_bit (s n : Nat) : s % 2 ^ (n + 1) = s % 2 ^ n ^^^ (if s / 2 ^ n % 2 = 1 then 2 ^ n else 0) := by
  rw [← part_pow, ← part_pow]
  rfl

theorem bit_val (O k : Nat) (hO : O < 256) (hk : k < 8) : bits .xor .u8 (O : Int) (2 ^ k % 256) = ((O ^^^ 2 ^ k : Nat) : Int) := by
  have h2 : 2 ^ k < 2 ^ 8 := Nat.pow_lt_pow_right (by decide) hk
  have e : (2 : Int) ^ k = ((2 ^ k : Nat) : Int) := by simp
  rw [e]
  generalize 2 ^ k = m at *
  rw [show (m : Int) % 256 = m by omega, u8_xor_nat _ _ (by omega) (by omega)]

end Go.Proofs.YtbobakfcmkaijaaGreatDoor
end

section
/- Frames as plain mathematics: their bytes, what is read of bytes, and what follows: frames are read back, first parts are torn, turned bits are seen. No program is named here. -/
namespace Go.Proofs.YtbobakfcmkaijaaGreatDoor
open Go.RowKit Go.Lib
set_option linter.unusedVariables false

/-- the n lowest bytes of x -/
def le : Nat → Nat → List Int
  | 0, _ => []
  | n + 1, x => ((x % 256 : Nat) : Int) :: le n (x / 256)
/-- the number that bytes are, the lowest first -/
def un : List Int → Nat
  | [] => 0
  | z :: r => z.toNat + 256 * un r

theorem le_length : ∀ (n x : Nat), (le n x).length = n
  | 0, _ => rfl
  | n + 1, x => by simp [le, le_length n]
theorem le_byt : ∀ (n x : Nat), Byt (le n x)
  | 0, _ => fun z hz => by cases hz
  | n + 1, x => fun z hz => by
    rcases List.mem_cons.1 hz with rfl | hz
    · omega
    · exact le_byt n _ z hz
theorem un_le : ∀ (n x : Nat), x < 256 ^ n → un (le n x) = x
  | 0, x, h => by simp at h; subst h; rfl
  | n + 1, x, h => by
    have h1 : x / 256 < 256 ^ n := by
      rw [Nat.pow_succ] at h
      exact Nat.div_lt_of_lt_mul (by omega)
    simp only [le, un, un_le n _ h1]
    omega
theorem un_lt : ∀ {zs : List Int}, Byt zs → un zs < 256 ^ zs.length
  | [], _ => by simp [un]
  | z :: r, h => by
    have h1 := h z (List.mem_cons_self ..)
    have h2 := un_lt (zs := r) (fun y hy => h y (List.mem_cons_of_mem _ hy))
    simp only [un, List.length_cons, Nat.pow_succ]
    omega
theorem Byt.tail {z : Int} {r : List Int} (h : Byt (z :: r)) : Byt r := fun y hy => h y (List.mem_cons_of_mem _ hy)
theorem Byt.head {z : Int} {r : List Int} (h : Byt (z :: r)) : 0 ≤ z ∧ z ≤ 255 := h z (List.mem_cons_self ..)

theorem its_shift (k : Nat) : ∀ b : Nat, its k (b * 2 ^ k) = b := by
  induction k with
  | zero => intro b; simp [its]
  | succ k ih =>
    intro b
    have h : stp (b * 2 ^ (k + 1)) = b * 2 ^ k := by
      have e : b * 2 ^ (k + 1) = 2 * (b * 2 ^ k) := by rw [Nat.pow_succ]; (rw [Nat.mul_comm (2 ^ k) 2, ← Nat.mul_assoc, ← Nat.mul_assoc, Nat.mul_comm b 2])
      unfold stp
      rw [e, if_neg (by omega), Nat.xor_zero]
      omega
    show its k (stp (b * 2 ^ (k + 1))) = b
    rw [h, ih]

theorem byte_xor {z u : Nat} (hz : z < 256) : z ^^^ 256 * u = z + 256 * u := by
  apply Nat.eq_of_testBit_eq
  intro j
  rw [Nat.add_comm, show 256 * u = 2 ^ 8 * u by rfl, Nat.testBit_two_pow_mul_add u (by omega : z < 2 ^ 8), Nat.testBit_xor, Nat.testBit_two_pow_mul]
  by_cases h : j < 8
  · simp [h, show ¬ 8 ≤ j by omega]
  · have : z.testBit j = false := Nat.testBit_lt_two_pow (Nat.lt_of_lt_of_le hz (Nat.pow_le_pow_right (n := 2) (by decide) (by omega : 8 ≤ j)))
    simp [h, this, show 8 ≤ j by omega]

/-- bytes that follow, as one number -/
theorem fld_un : ∀ (D : List Int) (S : Nat), Byt D → fld S D = its (8 * D.length) (S ^^^ un D)
  | [], S, _ => by simp [fld, un, its]
  | z :: r, S, h => by
    have hz := h.head
    have ih := fld_un r (its 8 (S ^^^ z.toNat)) h.tail
    show fld (its 8 (S ^^^ z.toNat)) r = _
    have e8 : its 8 (256 * un r) = un r := by
      have := its_shift 8 (un r)
      rwa [Nat.mul_comm] at this
    rw [ih, List.length_cons, Nat.mul_add, Nat.mul_one, Nat.add_comm (8 * r.length) 8, its_add]
    congr 1
    conv => lhs; rw [← e8]
    rw [← its_xor, Nat.xor_assoc, un, byte_xor (by omega)]

/-- the constant that bytes with their own sum behind them come to -/
def resid : Nat := com (its 32 4294967295)

theorem com_inj {a b : Nat} (ha : a < 4294967296) (hb : b < 4294967296) (h : com a = com b) : a = b := by
  unfold com at h
  omega

theorem mor_four (t : Nat) (ht : t < 4294967296) {D : List Int} (hD : Byt D) (h4 : D.length = 4) : mor t D = com (its 32 (com t ^^^ un D)) := by
  unfold mor
  rw [fld_un D _ hD, h4]

theorem resid_iff {s : Nat} {A D : List Int} (hA : Byt A) (hD : Byt D) (h4 : D.length = 4) : un D = mor s A ↔ mor s (A ++ D) = resid := by
  have hl := mor_lt s A
  have hu : un D < 4294967296 := by have := un_lt hD; rw [h4] at this; exact this
  rw [mor_append hA, mor_four _ hl hD h4]
  generalize mor s A = t at *
  unfold resid
  constructor
  · rintro rfl
    rw [com_xor hl, Nat.xor_assoc, Nat.xor_self, Nat.xor_zero]
  · intro h
    have hc : com t ^^^ un D < 4294967296 := xlt (com_lt t) hu
    have h2 := com_inj (its_lt 32 hc) (its_lt 32 (by decide)) h
    have h3 : its 32 ((com t ^^^ un D) ^^^ 4294967295) = 0 := by rw [its_xor, h2, Nat.xor_self]
    have h4 := its_inj 32 (xlt hc (by decide)) h3
    have h5 : com t ^^^ un D = 4294967295 := by
      have := congrArg (· ^^^ 4294967295) h4
      simp only [Nat.xor_assoc, Nat.xor_self, Nat.xor_zero, Nat.zero_xor] at this
      exact this
    have h6 : un D = com t ^^^ 4294967295 := by rw [← h5, xor_cancel]
    rw [h6, com_xor hl, Nat.xor_comm 4294967295 t, Nat.xor_assoc, Nat.xor_self, Nat.xor_zero]

/-- a frame -/
structure Fr where
  k : Int
  body : List Int

def hd4 (k : Int) (m : Nat) : List Int := k :: le 3 m
/-- the sum of a frame's head -/
def hsum (k : Int) (m : Nat) : Nat := mor 0 (hd4 k m)
/-- a frame's bytes -/
def fby (f : Fr) : List Int := hd4 f.k f.body.length ++ (le 4 (hsum f.k f.body.length) ++ (f.body ++ le 4 (mor (hsum f.k f.body.length) f.body)))
def Fok (f : Fr) : Prop := (0 ≤ f.k ∧ f.k ≤ 255) ∧ Byt f.body ∧ f.body.length ≤ 1048576

theorem hd4_length (k : Int) (m : Nat) : (hd4 k m).length = 4 := by simp [hd4, le_length]
theorem fby_length (f : Fr) : (fby f).length = f.body.length + 12 := by
  simp only [fby, List.length_append, hd4_length, le_length]
  omega
theorem hd4_byt {k : Int} (hk : 0 ≤ k ∧ k ≤ 255) (m : Nat) : Byt (hd4 k m) := by
  intro z hz
  rcases List.mem_cons.1 hz with rfl | hz
  · exact hk
  · exact le_byt 3 m z hz
theorem fby_byt {f : Fr} (h : Fok f) : Byt (fby f) := (hd4_byt h.1 _).append ((le_byt 4 _).append (h.2.1.append (le_byt 4 _)))

/-- the sum that a head must have; its length -/
def hs (b : List Int) : Nat := mor 0 (b.take 4)
def sz (b : List Int) : Nat := un ((b.drop 1).take 3)

/-- how many bytes the frame at the beginning has, or why there is none -/
def mea (b : List Int) : Nat × Nat :=
  if b.length < 8 then (0, 4) else
  if un ((b.drop 4).take 4) ≠ hs b ∨ 1048576 < sz b then (0, 5) else
  if b.length < sz b + 12 then (0, 4) else
  if un ((b.drop (8 + sz b)).take 4) ≠ mor (hs b) ((b.drop 8).take (sz b)) then (0, 5) else (sz b + 12, 0)

/-- the frame that is read where there is one -/
def fra (b : List Int) : Fr := ⟨b.headD 0, (b.drop 8).take ((mea b).1 - 12)⟩

theorem mea_ok {b : List Int} (h : (mea b).2 = 0) : (mea b).1 = sz b + 12 ∧ sz b ≤ 1048576 ∧ sz b + 12 ≤ b.length := by
  unfold mea at h ⊢
  split at h
  · simp at h
  split at h
  · simp at h
  split at h
  · simp at h
  split at h
  · simp at h
  · rename_i h1 h2 h3 h4
    rw [if_neg h1, if_neg h2, if_neg h3, if_neg h4]
    exact ⟨rfl, by omega, by omega⟩
theorem mea_err {b : List Int} (h : (mea b).2 ≠ 0) : (mea b).1 = 0 := by
  unfold mea at h ⊢
  split
  · rfl
  split
  · rfl
  split
  · rfl
  split
  · rfl
  · rename_i h1 h2 h3 h4
    rw [if_neg h1, if_neg h2, if_neg h3, if_neg h4] at h
    exact absurd rfl h
theorem mea_le {b : List Int} (h : (mea b).2 = 0) : 12 ≤ (mea b).1 ∧ (mea b).1 ≤ b.length := by
  obtain ⟨h1, h2, h3⟩ := mea_ok h
  omega
theorem fra_length {b : List Int} (h : (mea b).2 = 0) : (fra b).body.length = (mea b).1 - 12 := by
  have := mea_le h
  simp only [fra, List.length_take, List.length_drop]
  omega
theorem fra_byt {b : List Int} (h : Byt b) : Byt (fra b).body := (h.drop 8).take _

/-- what is scanned: the frames, how many bytes they have, and why no more -/
def scn (b : List Int) : List Fr × Nat × Nat :=
  if h : (mea b).2 = 0 then (fra b :: (scn (b.drop (mea b).1)).1, (mea b).1 + (scn (b.drop (mea b).1)).2.1, (scn (b.drop (mea b).1)).2.2)
  else ([], 0, if b.length = 0 then 0 else (mea b).2)
termination_by b.length
decreasing_by all_goals (have := mea_le h; simp only [List.length_drop]; omega)

theorem scn_more {b : List Int} (h : (mea b).2 = 0) : scn b = (fra b :: (scn (b.drop (mea b).1)).1, (mea b).1 + (scn (b.drop (mea b).1)).2.1, (scn (b.drop (mea b).1)).2.2) := by
  rw [scn, dif_pos h]
theorem scn_end {b : List Int} (h : (mea b).2 ≠ 0) : scn b = ([], 0, if b.length = 0 then 0 else (mea b).2) := by
  rw [scn, dif_neg h]

/-- the places behind frames -/
def plc : Nat → List Fr → List Int
  | _, [] => []
  | at_, f :: r => ((at_ + (f.body.length + 12) : Nat) : Int) :: plc (at_ + (f.body.length + 12)) r

end Go.Proofs.YtbobakfcmkaijaaGreatDoor
end

section
/- What follows of frames: they are read back, first parts are torn, turned bits are seen. No program is named here. -/
namespace Go.Proofs.YtbobakfcmkaijaaGreatDoor
open Go.RowKit Go.Lib
set_option linter.unusedVariables false

theorem cut8 {A B R : List Int} (hA : A.length = 4) (hB : B.length = 4) :
    (A ++ (B ++ R)).take 4 = A ∧ ((A ++ (B ++ R)).drop 4).take 4 = B ∧ (A ++ (B ++ R)).drop 8 = R ∧ ((A ++ (B ++ R)).drop 1).take 3 = A.drop 1 := by
  match A, hA with
  | [a0, a1, a2, a3], _ =>
    match B, hB with
    | [b0, b1, b2, b3], _ => exact ⟨rfl, rfl, rfl, rfl⟩

theorem mea_head {k : Int} {m : Nat} (hm : m ≤ 1048576) (R : List Int) :
    mea (hd4 k m ++ (le 4 (hsum k m) ++ R)) = if R.length < m + 4 then (0, 4) else if un ((R.drop m).take 4) ≠ mor (hsum k m) (R.take m) then (0, 5) else (m + 12, 0) := by
  obtain ⟨h1, h2, h3, h4⟩ := cut8 (A := hd4 k m) (B := le 4 (hsum k m)) (R := R) (hd4_length k m) (le_length 4 _)
  have hl : (hd4 k m ++ (le 4 (hsum k m) ++ R)).length = 8 + R.length := by simp only [List.length_append, hd4_length, le_length]; omega
  have hsz : sz (hd4 k m ++ (le 4 (hsum k m) ++ R)) = m := by
    unfold sz
    rw [h4]
    show un (le 3 m) = m
    exact un_le 3 m (by have : (256 : Nat) ^ 3 = 16777216 := by decide
                        omega)
  have hhs : hs (hd4 k m ++ (le 4 (hsum k m) ++ R)) = hsum k m := by unfold hs; rw [h1]; rfl
  have hun : un (le 4 (hsum k m)) = hsum k m := un_le 4 _ (mor_lt _ _)
  unfold mea
  rw [hsz, hhs, hl, h2, hun, ← List.drop_drop, h3]
  rw [if_neg (by omega), if_neg (by omega)]
  by_cases h : R.length < m + 4
  · rw [if_pos h, if_pos (by omega)]
  · rw [if_neg h, if_neg (by omega)]

theorem fra_head {k : Int} {m : Nat} {R : List Int} : fra (hd4 k m ++ (le 4 (hsum k m) ++ R)) = ⟨k, R.take ((mea (hd4 k m ++ (le 4 (hsum k m) ++ R))).1 - 12)⟩ := by
  obtain ⟨h1, h2, h3, h4⟩ := cut8 (A := hd4 k m) (B := le 4 (hsum k m)) (R := R) (hd4_length k m) (le_length 4 _)
  unfold fra
  rw [h3]
  rfl

theorem fby_split (f : Fr) (more : List Int) : fby f ++ more = hd4 f.k f.body.length ++ (le 4 (hsum f.k f.body.length) ++ (f.body ++ (le 4 (mor (hsum f.k f.body.length) f.body) ++ more))) := by
  simp only [fby, List.append_assoc]

theorem mea_fby (f : Fr) (hf : Fok f) (more : List Int) : mea (fby f ++ more) = (f.body.length + 12, 0) := by
  rw [fby_split, mea_head hf.2.2]
  rw [if_neg (by simp only [List.length_append, le_length]; omega), if_neg]
  rw [List.drop_left, List.take_left, show (le 4 (mor (hsum f.k f.body.length) f.body) ++ more).take 4 = le 4 (mor (hsum f.k f.body.length) f.body) from List.take_left' (le_length 4 _)]
  rw [un_le 4 _ (mor_lt _ _)]
  simp

theorem fra_fby (f : Fr) (hf : Fok f) (more : List Int) : fra (fby f ++ more) = f := by
  have h := mea_fby f hf more
  rw [fby_split] at h ⊢
  rw [fra_head, h]
  simp

theorem scn_fby (f : Fr) (hf : Fok f) (more : List Int) : scn (fby f ++ more) = (f :: (scn more).1, f.body.length + 12 + (scn more).2.1, (scn more).2.2) := by
  have h := mea_fby f hf more
  rw [scn_more (by rw [h]), h, fra_fby f hf more]
  have hd : (fby f ++ more).drop (f.body.length + 12) = more := by
    rw [← fby_length f, List.drop_left]
  rw [hd]

/-- a first part that ends within a frame -/
theorem mea_torn (f : Fr) (hf : Fok f) {n : Nat} (hn : n < f.body.length + 12) : mea ((fby f).take n) = (0, 4) := by
  by_cases h8 : n < 8
  · unfold mea
    rw [if_pos (by simp only [List.length_take]; omega)]
  · have hl4 : (hd4 f.k f.body.length).length = 4 := hd4_length _ _
    have e : (fby f).take n = hd4 f.k f.body.length ++ (le 4 (hsum f.k f.body.length) ++ (f.body ++ le 4 (mor (hsum f.k f.body.length) f.body)).take (n - 8)) := by
      rw [fby, List.take_append, hl4, List.take_of_length_le (by omega), List.take_append, le_length, List.take_of_length_le (by rw [le_length]; omega), show n - 4 - 4 = n - 8 by omega]
    rw [e, mea_head hf.2.2, if_pos]
    simp only [List.length_take, List.length_append, le_length]
    omega

/-- frames' bytes, one behind the other -/
def fbs (fs : List Fr) : List Int := (fs.map fby).flatten
/-- how many of the frames lie whole in the first n bytes, and how many bytes they have -/
def whl : List Fr → Nat → Nat × Nat
  | [], _ => (0, 0)
  | f :: r, n => if f.body.length + 12 ≤ n then ((whl r (n - (f.body.length + 12))).1 + 1, f.body.length + 12 + (whl r (n - (f.body.length + 12))).2) else (0, 0)

theorem scn_nil : scn [] = ([], 0, 0) := by
  rw [scn_end (by unfold mea; simp)]
  rfl

theorem scn_torn : ∀ (fs : List Fr), (∀ f ∈ fs, Fok f) → ∀ n, n ≤ (fbs fs).length → scn ((fbs fs).take n) = (fs.take (whl fs n).1, (whl fs n).2, if (whl fs n).2 = n then 0 else 4)
  | [], _, n, hn => by
    simp [fbs] at hn
    subst hn
    simp [fbs, whl, scn_nil]
  | f :: r, h, n, hn => by
    have hf := h f (List.mem_cons_self ..)
    have hl := fby_length f
    have e : fbs (f :: r) = fby f ++ fbs r := by simp [fbs]
    rw [e] at hn ⊢
    rw [List.length_append] at hn
    rw [whl]
    by_cases hle : f.body.length + 12 ≤ n
    · rw [if_pos hle]
      have e2 : (fby f ++ fbs r).take n = fby f ++ (fbs r).take (n - (f.body.length + 12)) := by
        rw [List.take_append, hl, List.take_of_length_le (by omega)]
      have ih := scn_torn r (fun g hg => h g (List.mem_cons_of_mem _ hg)) (n - (f.body.length + 12)) (by omega)
      rw [e2, scn_fby f hf, ih]
      generalize whl r (n - (f.body.length + 12)) = W
      simp only [List.take_succ_cons]
      congr 2
      by_cases h2 : W.2 = n - (f.body.length + 12)
      · rw [if_pos h2, if_pos (by omega)]
      · rw [if_neg h2, if_neg (by omega)]
    · rw [if_neg hle]
      have e2 : (fby f ++ fbs r).take n = (fby f).take n := by
        rw [List.take_append, show n - (fby f).length = 0 by omega, List.take_zero, List.append_nil]
      have ht := mea_torn f hf (n := n) (by omega)
      rw [e2, scn_end (by rw [ht]; decide), ht]
      simp only [List.length_take, hl, List.take_zero]
      congr 2
      by_cases h2 : n = 0
      · subst h2; simp
      · rw [if_neg (by omega), if_neg (by omega)]

theorem whl_all : ∀ (fs : List Fr), whl fs (fbs fs).length = (fs.length, (fbs fs).length)
  | [] => rfl
  | f :: r => by
    have e : (fbs (f :: r)).length = f.body.length + 12 + (fbs r).length := by simp [fbs, fby_length]
    rw [whl, e, if_pos (by omega), show f.body.length + 12 + (fbs r).length - (f.body.length + 12) = (fbs r).length by omega, whl_all r]
    rfl

theorem scn_all (fs : List Fr) (h : ∀ f ∈ fs, Fok f) : scn (fbs fs) = (fs, (fbs fs).length, 0) := by
  have := scn_torn fs h (fbs fs).length (Nat.le_refl _)
  rw [whl_all, List.take_length, List.take_length] at this
  simpa using this

/-- the bits of X from the place r on turned, the first n of them, as far as the bytes go -/
def tns (r X : Nat) : Nat → List Int → List Int
  | 0, L => L
  | n + 1, L => if X / 2 ^ n % 2 = 1 ∧ r + n < 8 * L.length then turn (tns r X n L) (r + n) else tns r X n L

theorem tns_length (r X : Nat) : ∀ (n : Nat) (L : List Int), (tns r X n L).length = L.length
  | 0, L => rfl
  | n + 1, L => by
    rw [tns]
    split
    · rw [turn_length, tns_length r X n L]
    · exact tns_length r X n L
theorem tns_byt (r X : Nat) : ∀ (n : Nat) {L : List Int}, Byt L → Byt (tns r X n L)
  | 0, L, h => h
  | n + 1, L, h => by
    rw [tns]
    split
    · exact turn_byt (tns_byt r X n h) (by rw [tns_length]; omega)
    · exact tns_byt r X n h

theorem turn_take {L : List Int} {p m : Nat} (hm : m ≤ L.length) : (turn L p).take m = if p < 8 * m then turn (L.take m) p else L.take m := by
  unfold turn
  rw [List.take_set]
  by_cases h : p < 8 * m
  · rw [if_pos h]
    congr 3
    simp only [List.getD_eq_getElem?_getD, List.getElem?_take, if_pos (show p / 8 < m by omega)]
  · rw [if_neg h, List.set_eq_of_length_le (by rw [List.length_take]; omega)]

theorem tns_take (r X : Nat) : ∀ (n : Nat) (L : List Int) (m : Nat), m ≤ L.length → (tns r X n L).take m = tns r X n (L.take m)
  | 0, L, m, h => rfl
  | n + 1, L, m, h => by
    have hlm : (L.take m).length = m := by rw [List.length_take]; omega
    have ih := tns_take r X n L m h
    rw [tns, tns, hlm]
    by_cases h1 : X / 2 ^ n % 2 = 1 ∧ r + n < 8 * L.length
    · rw [if_pos h1, turn_take (by rw [tns_length]; exact h), ih]
      by_cases h2 : r + n < 8 * m
      · rw [if_pos h2, if_pos ⟨h1.1, h2⟩]
      · rw [if_neg h2, if_neg (fun h => h2 h.2)]
    · rw [if_neg h1, if_neg (fun h2 => h1 ⟨h2.1, by omega⟩), ih]

/-- the bits that are turned, as a number -/
def brs (r X n m : Nat) : Nat := X % 2 ^ (min n (8 * m - r))

theorem tns_mor (r X : Nat) : ∀ (n : Nat) {L : List Int}, Byt L → mor 0 (tns r X n L) = mor 0 L ^^^ its (8 * L.length - r) (brs r X n L.length)
  | 0, L, h => by simp [tns, brs, Nat.mod_one, its_zero]
  | n + 1, L, h => by
    have ih := tns_mor r X n h
    have hb := mod_bit X n
    unfold brs at ih ⊢
    rw [tns]
    by_cases hin : r + n < 8 * L.length
    · rw [show min n (8 * L.length - r) = n by omega] at ih
      rw [show min (n + 1) (8 * L.length - r) = n + 1 by omega, hb]
      by_cases hbit : X / 2 ^ n % 2 = 1
      · rw [if_pos ⟨hbit, hin⟩, if_pos hbit, turn_mor (tns_byt r X n h) (by rw [tns_length]; exact hin), ih, tns_length, Nat.xor_assoc, ← its_xor]
      · rw [if_neg (fun h => hbit h.1), if_neg hbit, Nat.xor_zero, ih]
    · rw [if_neg (fun h => hin h.2), ih, show min n (8 * L.length - r) = 8 * L.length - r by omega, show min (n + 1) (8 * L.length - r) = 8 * L.length - r by omega]

theorem brs_none {r X n m : Nat} (h : brs r X n m = 0) {i : Nat} (hi : i < n) (hm : r + i < 8 * m) : ¬ X / 2 ^ i % 2 = 1 := by
  intro hb
  unfold brs at h
  have h1 : X % 2 ^ (i + 1) = 0 := by
    have hd : 2 ^ (i + 1) ∣ 2 ^ (min n (8 * m - r)) := Nat.pow_dvd_pow 2 (by omega)
    have := Nat.mod_mod_of_dvd X hd
    rw [h] at this
    simpa using this.symm
  have h2 := Nat.mod_pow_succ (x := X) (b := 2) (k := i)
  rw [h1, hb] at h2
  have h3 : 0 < 2 ^ i := Nat.pow_pos (by decide)
  omega

theorem tns_none (r X : Nat) {m : Nat} : ∀ (n : Nat) {L : List Int}, L.length = m → brs r X n m = 0 → tns r X n L = L
  | 0, L, _, _ => rfl
  | n + 1, L, hL, h => by
    have h0 : brs r X n m = 0 := by
      unfold brs at h ⊢
      have hd : 2 ^ (min n (8 * m - r)) ∣ 2 ^ (min (n + 1) (8 * m - r)) := Nat.pow_dvd_pow 2 (by omega)
      have := Nat.mod_mod_of_dvd X hd
      rw [h] at this
      simpa using this.symm
    rw [tns, if_neg (fun hc => brs_none h (by omega) (by rw [← hL]; exact hc.2) hc.1)]
    exact tns_none r X n hL h0

theorem brs_lt {r X n m : Nat} (hX : X < 4294967296) : brs r X n m < 4294967296 := Nat.lt_of_le_of_lt (Nat.mod_le _ _) hX

/-- where a bit is turned the sum is another -/
theorem tns_seen {r X n : Nat} (hX : X < 4294967296) {L : List Int} (hL : Byt L) (h : brs r X n L.length ≠ 0) : mor 0 (tns r X n L) ≠ mor 0 L := by
  intro e
  rw [tns_mor r X n hL] at e
  have e2 := xor_cancel (mor 0 L) (its (8 * L.length - r) (brs r X n L.length))
  rw [e, Nat.xor_self] at e2
  exact h (its_inj _ (brs_lt hX) e2.symm)

theorem mor_other {s s' : Nat} (hs : s < 4294967296) (hs' : s' < 4294967296) {a b : List Int} (ha : Byt a) (hb : Byt b) (hl : a.length = b.length) (h : mor s a = mor s b) : mor s' a = mor s' b := by
  rw [mor_join hs ha, mor_join hs hb, hl] at h
  have h2 : mor 0 a = mor 0 b := by
    have := congrArg (its (8 * b.length) s ^^^ ·) h
    simpa only [xor_cancel] using this
  rw [mor_join hs' ha, mor_join hs' hb, hl, h2]

/-- bits turned within 32 side by side of a frame are seen, whatever stands behind -/
theorem mea_turned (f : Fr) (hf : Fok f) {r X : Nat} (hX : X < 4294967296) (h : brs r X 32 (f.body.length + 12) ≠ 0) (more : List Int) : mea (tns r X 32 (fby f) ++ more) = (0, 5) := by
  have hl := fby_length f
  have hby := fby_byt hf
  have hlt := tns_length r X 32 (fby f)
  have hbt := tns_byt r X 32 hby
  have hh4 := hd4_byt hf.1 f.body.length
  have hd8 : (fby f).take 8 = hd4 f.k f.body.length ++ le 4 (hsum f.k f.body.length) := by
    rw [fby, ← List.append_assoc]
    have e8 : (hd4 f.k f.body.length ++ le 4 (hsum f.k f.body.length)).length = 8 := by simp [hd4_length, le_length]
    exact List.take_left' e8
  have ht8 := tns_take r X 32 (fby f) 8 (by omega)
  by_cases hA : brs r X 32 8 = 0
  · -- the head stands as it did
    have h8l : ((fby f).take 8).length = 8 := by rw [List.length_take]; omega
    rw [tns_none r X 32 h8l hA, hd8] at ht8
    obtain ⟨R, hR⟩ : ∃ R, R = (tns r X 32 (fby f)).drop 8 := ⟨_, rfl⟩
    have e : tns r X 32 (fby f) = hd4 f.k f.body.length ++ (le 4 (hsum f.k f.body.length) ++ R) := by
      rw [← List.append_assoc, ← ht8, hR, List.take_append_drop]
    have hRl : R.length = f.body.length + 4 := by rw [hR, List.length_drop, hlt, hl]; omega
    have hRb : Byt R := by rw [hR]; exact hbt.drop 8
    have hne := tns_seen (r := r) (n := 32) hX hby (by rw [hl]; exact h)
    rw [e, List.append_assoc, List.append_assoc, mea_head hf.2.2, if_neg (by rw [List.length_append]; omega), if_pos]
    intro hun
    apply hne
    rw [e]
    rw [List.drop_append, List.take_append, List.take_append, show f.body.length - R.length = 0 by omega, List.drop_zero, List.take_zero, List.append_nil] at hun
    rw [List.length_drop, show 4 - (R.length - f.body.length) = 0 by omega, List.take_zero, List.append_nil, List.take_of_length_le (by rw [List.length_drop]; omega)] at hun
    have hs1 := (resid_iff (hRb.take f.body.length) (hRb.drop f.body.length) (by rw [List.length_drop]; omega)).1 hun
    rw [List.take_append_drop] at hs1
    have hs2 := (resid_iff (s := hsum f.k f.body.length) hf.2.1 (le_byt 4 (mor (hsum f.k f.body.length) f.body)) (le_length 4 _)).1 (un_le 4 _ (mor_lt _ _))
    have hbb : Byt (f.body ++ le 4 (mor (hsum f.k f.body.length) f.body)) := hf.2.1.append (le_byt 4 _)
    have hll : R.length = (f.body ++ le 4 (mor (hsum f.k f.body.length) f.body)).length := by rw [List.length_append, le_length, hRl]
    have hs3 := mor_other (mor_lt 0 (hd4 f.k f.body.length ++ le 4 (hsum f.k f.body.length))) (mor_lt 0 (hd4 f.k f.body.length ++ le 4 (hsum f.k f.body.length))) hRb hbb hll
      (mor_other (mor_lt _ _) (mor_lt 0 (hd4 f.k f.body.length ++ le 4 (hsum f.k f.body.length))) hRb hbb hll (hs1.trans hs2.symm))
    have hH : Byt (hd4 f.k f.body.length ++ le 4 (hsum f.k f.body.length)) := hh4.append (le_byt 4 _)
    rw [fby, ← List.append_assoc, mor_append hH, hs3, ← mor_append hH, List.append_assoc]
  · -- the head is another one
    have hne := tns_seen (r := r) (n := 32) (L := (fby f).take 8) hX (hby.take 8) (by rw [List.length_take, hl, show min 8 (f.body.length + 12) = 8 by omega]; exact hA)
    rw [← ht8, hd8] at hne
    have hs2 := (resid_iff (s := 0) hh4 (le_byt 4 (hsum f.k f.body.length)) (le_length 4 _)).1 (un_le 4 _ (mor_lt _ _))
    rw [hs2] at hne
    obtain ⟨A, hAe⟩ : ∃ A, A = (tns r X 32 (fby f)).take 4 := ⟨_, rfl⟩
    obtain ⟨D, hDe⟩ : ∃ D, D = ((tns r X 32 (fby f)).drop 4).take 4 := ⟨_, rfl⟩
    have e8 : (tns r X 32 (fby f)).take 8 = A ++ D := by
      rw [hAe, hDe, show 8 = 4 + 4 by rfl, List.take_add]
    have hA4 : Byt A := by rw [hAe]; exact hbt.take 4
    have hD4 : Byt D := by rw [hDe]; exact (hbt.drop 4).take 4
    have hDl : D.length = 4 := by rw [hDe, List.length_take, List.length_drop, hlt, hl]; omega
    have hun : un D ≠ mor 0 A := fun hu => hne (by rw [e8]; exact (resid_iff hA4 hD4 hDl).1 hu)
    unfold mea
    rw [if_neg (by rw [List.length_append, hlt, hl]; omega), if_pos]
    left
    unfold hs
    rw [List.drop_append, List.take_append, List.take_append, hlt, hl, List.length_drop, hlt, hl, show 4 - (f.body.length + 12) = 0 by omega, show 4 - (f.body.length + 12 - 4) = 0 by omega, List.take_zero, List.append_nil, List.take_zero, List.append_nil, ← hAe, ← hDe]
    exact hun

end Go.Proofs.YtbobakfcmkaijaaGreatDoor
end

section
/- A journal as plain mathematics: its segments, what each call answers and makes of it and of its disk; what Open finds. No program is named here. -/
namespace Go.Proofs.YtbobakfcmkaijaaGreatDoor
set_option linter.unusedVariables false

/-- a segment: the number of its first record, its records -/
structure Sg where
  num : Nat
  recs : List (List Int)
/-- a journal in memory -/
structure Jn where
  off : Bool
  next : Nat
  segs : List Sg

def rcF (r : List Int) : Fr := ⟨1, r⟩
def rsz (rs : List (List Int)) : Nat := (rs.map (fun r => r.length + 12)).sum
def Sg.size (s : Sg) : Nat := rsz s.recs
/-- the bytes that records take -/
def sby (rs : List (List Int)) : List Int := fbs (rs.map rcF)
theorem sby_length : ∀ rs : List (List Int), (sby rs).length = rsz rs
  | [] => rfl
  | r :: rs => by
    have ih := sby_length rs
    unfold sby fbs rsz at ih ⊢
    simp only [List.map_cons, List.flatten_cons, List.length_append, List.sum_cons, fby_length] at ih ⊢
    rw [ih]
    rfl
theorem sby_append (a b : List (List Int)) : sby (a ++ b) = sby a ++ sby b := by simp [sby, fbs]
theorem sby_one (b : List Int) : sby [b] = fby (rcF b) := by simp [sby, fbs]
theorem rsz_append (a b : List (List Int)) : rsz (a ++ b) = rsz a + rsz b := by simp [rsz]
theorem rsz_one (b : List Int) : rsz [b] = b.length + 12 := by simp [rsz]

/-! ## the calls -/
def Jn.last (J : Jn) : Sg := J.segs.getLastD ⟨0, []⟩
def jEnd (J : Jn) (e : Int) : Jn := if e = 10 then { J with off := true } else J
/-- a step of the disk's, and what it makes of the journal -/
def jStep (J : Jn) (r : Int × Dsk) : Int × Dsk × Jn := (r.1, r.2, jEnd J r.1)
def jBegin (J : Jn) (n : Nat) : Jn := { J with segs := J.segs ++ [⟨n, []⟩], next := n }
def addRec (l : List Sg) (r : List Int) : List Sg := l.dropLast ++ [⟨(l.getLastD ⟨0, []⟩).num, (l.getLastD ⟨0, []⟩).recs ++ [r]⟩]
def jNote (J : Jn) (r : List Int) : Jn := { J with segs := addRec J.segs r, next := J.next + 1 }
def jSyncLast (l : Nm) (D : Dsk) (J : Jn) : Int × Dsk × Jn := if J.segs = [] then (0, D, J) else jStep J (dSync D (segN l J.last.num))
def jNew (l : Nm) (D : Dsk) (J : Jn) : Int × Dsk × Jn :=
  if (dMake D (segN l J.next)).1 = 0 then (0, (dMake D (segN l J.next)).2, jBegin J J.next) else jStep J (dMake D (segN l J.next))
def jExtend (l : Nm) (D : Dsk) (J : Jn) : Int × Dsk × Jn :=
  if J.segs ≠ [] ∧ J.last.size < 4096 then (0, D, J)
  else if maxNo < J.next then (2, D, J)
  else if (jSyncLast l D J).1 = 0 then jNew l (jSyncLast l D J).2.1 (jSyncLast l D J).2.2 else jSyncLast l D J
def jPut (l : Nm) (D : Dsk) (J : Jn) (b : List Int) : Nat × Int × Dsk × Jn :=
  if (dAppend D (segN l J.last.num) (fby (rcF b))).1 = 0 then (J.next, 0, (dAppend D (segN l J.last.num) (fby (rcF b))).2, jNote J b)
  else (0, jStep J (dAppend D (segN l J.last.num) (fby (rcF b))))
def jAppend (l : Nm) (D : Dsk) (J : Jn) (b : List Int) : Nat × Int × Dsk × Jn :=
  if J.off then (0, 10, D, J) else if 65536 < b.length then (0, 3, D, J)
  else if (jExtend l D J).1 = 0 then jPut l (jExtend l D J).2.1 (jExtend l D J).2.2 b else (0, jExtend l D J)
def jRefused (D : Dsk) (J : Jn) : Bool := J.off || D.off
def jSync (l : Nm) (D : Dsk) (J : Jn) : Int × Dsk × Jn := if jRefused D J then (10, D, { J with off := true }) else jSyncLast l D J
def jAll (J : Jn) : List (List Int) := J.segs.flatMap (·.recs)
def jFirst (J : Jn) : Nat := match J.segs with | [] => J.next | s :: _ => s.num

/-! ## what Open finds -/
def recsOf (b : List Int) : List (List Int) := ((scn b).1.takeWhile (fun f => decide (f.k = 1))).map (·.body)
/-- a file's bytes; nothing where it is not there -/
def byts (D : Dsk) (l : Nm) : List Int := match find D.files l with | some f => f.bs | none => []
/-- the segments that are gone into, of those numbers, where the next one's is asked -/
def goOver (look : Nat → List Int) : Option Nat → List Nat → List Sg
  | _, [] => []
  | nx, n :: r =>
    if nx.isSome && nx != some n then []
    else if rsz (recsOf (look n)) = (look n).length then ⟨n, recsOf (look n)⟩ :: goOver look (some (n + (recsOf (look n)).length)) r
    else [⟨n, recsOf (look n)⟩]
/-- steps of a disk, one after another, until one has an error -/
def seqD : Dsk → List (Dsk → Int × Dsk) → Int × Dsk
  | D, [] => (0, D)
  | D, f :: r => if (f D).1 = 0 then seqD (f D).2 r else f D
def cutSteps (l : Nm) (b : List Int) (n : Nat) : List (Dsk → Int × Dsk) :=
  [fun D => dMake D (cutN l), fun D => dAppend D (cutN l) b, fun D => dSync D (cutN l), fun D => dRename D (cutN l) (segN l n)]
def remSteps (l : Nm) (ns : List Nat) : List (Dsk → Int × Dsk) := ns.map fun n D => dRemove D (segN l n)
def half (l : Nm) (D : Dsk) : Bool := (names D).contains (cutN l)
def rid (l : Nm) (D : Dsk) : Int × Dsk := if half l D then dRemove D (cutN l) else (0, D)
def found (l : Nm) (D : Dsk) (ns : List Nat) : List Sg := goOver (fun n => byts D (segN l n)) none ns
def lastOf (ss : List Sg) : Sg := ss.getLastD ⟨0, []⟩
def nextOf (ss : List Sg) : Nat := if ss = [] then 1 else (lastOf ss).num + (lastOf ss).recs.length
/-- is the last segment cut? -/
def isCut (l : Nm) (D : Dsk) (ss : List Sg) : Bool := decide (ss ≠ [] ∧ (lastOf ss).size ≠ (byts D (segN l (lastOf ss).num)).length)
def cutD (l : Nm) (D : Dsk) (ss : List Sg) : Int × Dsk :=
  if isCut l D ss then seqD D (cutSteps l ((byts D (segN l (lastOf ss).num)).take (lastOf ss).size) (lastOf ss).num) else (0, D)
def jnOf (ss : List Sg) : Jn := ⟨false, nextOf ss, ss⟩
/-- the numbers of a journal's segments on a disk -/
def jnums (l : Nm) (D : Dsk) : List Nat := nos l (names D)
def restD (l : Nm) (D : Dsk) (ns : List Nat) (ss : List Sg) : Int × Dsk :=
  if (cutD l D ss).1 = 0 then seqD (cutD l D ss).2 (remSteps l (ns.drop ss.length)) else cutD l D ss
def jOpen (l : Nm) (D : Dsk) : Int × Dsk :=
  if (rid l D).1 = 0 then restD l (rid l D).2 (jnums l D) (found l (rid l D).2 (jnums l D)) else rid l D
def opened (l : Nm) (D : Dsk) : Jn := jnOf (found l (rid l D).2 (jnums l D))

/-! ## what whole bytes say -/
def Goodr (r : List Int) : Prop := Byt r ∧ r.length ≤ 65536
theorem fok_rc {r : List Int} (h : Goodr r) : Fok (rcF r) := ⟨by simp [rcF], h.1, by have := h.2; show r.length ≤ _; omega⟩
theorem fok_all {rs : List (List Int)} (h : ∀ r ∈ rs, Goodr r) : ∀ f ∈ rs.map rcF, Fok f := by
  intro f hf
  obtain ⟨r, hr, rfl⟩ := List.mem_map.1 hf
  exact fok_rc (h r hr)
theorem takeW_rc : ∀ rs : List (List Int), ((rs.map rcF).takeWhile (fun f => decide (f.k = 1))).map (·.body) = rs
  | [] => rfl
  | r :: rs => by
    have ih := takeW_rc rs
    rw [List.map_cons, List.takeWhile_cons]
    simp only [show (rcF r).k = 1 from rfl, decide_true, if_true, List.map_cons, ih]
    rfl
/-- how many records lie whole in the first n bytes -/
def whr (rs : List (List Int)) (n : Nat) : Nat := (whl (rs.map rcF) n).1
theorem whl_size : ∀ (rs : List (List Int)) (n : Nat), (whl (rs.map rcF) n).2 = rsz (rs.take (whr rs n))
  | [], n => rfl
  | r :: rs, n => by
    have ih := whl_size rs (n - ((rcF r).body.length + 12))
    unfold whr at ih ⊢
    rw [List.map_cons, whl]
    split
    · simp only [List.take_succ_cons]
      rw [show rsz (r :: List.take (whl (rs.map rcF) (n - ((rcF r).body.length + 12))).1 rs) = (r.length + 12) + rsz (List.take (whl (rs.map rcF) (n - ((rcF r).body.length + 12))).1 rs) by simp [rsz], ← ih]
      rfl
    · rfl
theorem recsOf_take {rs : List (List Int)} (h : ∀ r ∈ rs, Goodr r) {n : Nat} (hn : n ≤ (sby rs).length) : recsOf ((sby rs).take n) = rs.take (whr rs n) := by
  unfold recsOf
  rw [sby, scn_torn _ (fok_all h) n hn]
  show (((rs.map rcF).take (whr rs n)).takeWhile _).map _ = _
  rw [← List.map_take, takeW_rc]
theorem whr_le (rs : List (List Int)) (n : Nat) : whr rs n ≤ rs.length := by
  unfold whr
  induction rs generalizing n with
  | nil => exact Nat.le_refl _
  | cons r rs ih =>
    rw [List.map_cons, whl]
    split
    · have := ih (n - ((rcF r).body.length + 12))
      simp only [List.length_cons]
      omega
    · exact Nat.zero_le _
theorem whr_size_le (rs : List (List Int)) (n : Nat) : rsz (rs.take (whr rs n)) ≤ n := by
  rw [← whl_size]
  induction rs generalizing n with
  | nil => exact Nat.zero_le _
  | cons r rs ih =>
    rw [List.map_cons, whl]
    split
    · have := ih (n - ((rcF r).body.length + 12))
      show (rcF r).body.length + 12 + _ ≤ n
      omega
    · exact Nat.zero_le _
/-- what lies whole in fewer bytes lies whole in more -/
theorem whr_mono (rs : List (List Int)) {n m : Nat} (h : n ≤ m) : whr rs n ≤ whr rs m := by
  unfold whr
  induction rs generalizing n m with
  | nil => exact Nat.le_refl _
  | cons r rs ih =>
    rw [List.map_cons, whl, whl]
    by_cases h1 : (rcF r).body.length + 12 ≤ n
    · rw [if_pos h1, if_pos (by omega)]
      have := ih (n := n - ((rcF r).body.length + 12)) (m := m - ((rcF r).body.length + 12)) (by omega)
      show _ + 1 ≤ _ + 1
      omega
    · rw [if_neg h1]
      exact Nat.zero_le _
theorem whr_append (rs ts : List (List Int)) (n : Nat) : whr rs n ≤ whr (rs ++ ts) n := by
  unfold whr
  induction rs generalizing n with
  | nil => exact Nat.zero_le _
  | cons r rs ih =>
    rw [List.cons_append, List.map_cons, List.map_cons, whl, whl]
    split
    · have := ih (n - ((rcF r).body.length + 12))
      show _ + 1 ≤ _ + 1
      omega
    · exact Nat.zero_le _
theorem whr_all (rs : List (List Int)) : whr rs (rsz rs) = rs.length := by
  unfold whr
  have := whl_all (rs.map rcF)
  rw [show (fbs (rs.map rcF)).length = rsz rs from sby_length rs] at this
  rw [this]
  simp
theorem whr_ge {rs : List (List Int)} {n : Nat} (h : rsz rs ≤ n) : whr rs n = rs.length := by
  have h1 := whr_mono rs h
  rw [whr_all] at h1
  have := whr_le rs n
  omega
/-- all of the bytes are records: just where they are all there -/
theorem whole_iff (rs : List (List Int)) {n : Nat} (hn : n ≤ rsz rs) : rsz (rs.take (whr rs n)) = n ∧ whr rs n = rs.length → n = rsz rs := by
  rintro ⟨h1, h2⟩
  rw [h2, List.take_length] at h1
  exact h1.symm

/-! ## chains -/
def Chn : Nat → List Sg → Prop
  | _, [] => True
  | a, s :: r => s.num = a ∧ Chn (a + s.recs.length) r
def cnt (ss : List Sg) : Nat := (ss.map (·.recs.length)).sum
theorem chn_append : ∀ (a : Nat) (p q : List Sg), Chn a (p ++ q) ↔ Chn a p ∧ Chn (a + cnt p) q
  | a, [], q => by simp [Chn, cnt]
  | a, s :: p, q => by
    have ih := chn_append (a + s.recs.length) p q
    simp only [List.cons_append, Chn, ih, cnt, List.map_cons, List.sum_cons]
    rw [Nat.add_assoc]
    constructor
    · rintro ⟨h1, h2, h3⟩; exact ⟨⟨h1, h2⟩, h3⟩
    · rintro ⟨⟨h1, h2⟩, h3⟩; exact ⟨h1, h2, h3⟩
theorem cnt_append (p q : List Sg) : cnt (p ++ q) = cnt p + cnt q := by simp [cnt]
theorem cnt_all (ss : List Sg) : (ss.flatMap (·.recs)).length = cnt ss := by
  induction ss with
  | nil => rfl
  | cons s r ih => simp only [List.flatMap_cons, List.length_append, ih, cnt, List.map_cons, List.sum_cons]

theorem getLastD_snoc (p : List Sg) (s d : Sg) : (p ++ [s]).getLastD d = s := by simp
theorem lastOf_snoc (p : List Sg) (s : Sg) : lastOf (p ++ [s]) = s := getLastD_snoc p s _

/-- the walk over whole segments up to the last one -/
theorem goOver_lies (look : Nat → List Int) (a : Nat) (s : Sg) (k : Nat) (hk : k ≤ rsz s.recs) : ∀ (p : List Sg) (more : List Nat) (nx : Option Nat) (b : Nat), (nx = none ∨ nx = some b) → Chn b (p ++ [s]) →
    (∀ x ∈ p ++ [s], ∀ r ∈ x.recs, Goodr r) → (∀ x ∈ p, look x.num = sby x.recs) → look s.num = (sby s.recs).take k → (k = rsz s.recs → more = []) →
    goOver look nx (p.map (·.num) ++ s.num :: more) = p ++ [⟨s.num, s.recs.take (whr s.recs k)⟩] ∨ (more ≠ [] ∧ rsz (s.recs.take (whr s.recs k)) = k)
  | [], more, nx, b, hnx, hc, hg, hp, hl, hmore => by
    have hn : s.num = b := hc.1
    have hgs : ∀ r ∈ s.recs, Goodr r := hg s (by simp)
    have hrec : recsOf (look s.num) = s.recs.take (whr s.recs k) := by rw [hl, recsOf_take hgs (by rw [sby_length]; exact hk)]
    have hlen : (look s.num).length = k := by rw [hl, List.length_take, sby_length]; omega
    have h0 : (nx.isSome && nx != some s.num) = false := by rcases hnx with rfl | rfl <;> simp [hn]
    by_cases he : rsz (s.recs.take (whr s.recs k)) = k
    · cases more with
      | nil =>
        left
        simp only [List.map_nil, List.nil_append, goOver, h0, hrec, hlen, he, if_true, Bool.false_eq_true, if_false]
      | cons x r => exact .inr ⟨by simp, he⟩
    · left
      simp only [List.map_nil, List.nil_append, goOver, h0, hrec, hlen, he, Bool.false_eq_true, if_false]
  | x :: p, more, nx, b, hnx, hc, hg, hp, hl, hmore => by
    have hn : x.num = b := hc.1
    have hgx : ∀ r ∈ x.recs, Goodr r := hg x (by simp)
    have hlx := hp x (by simp)
    have hrec : recsOf (look x.num) = x.recs := by
      have := recsOf_take hgx (n := (sby x.recs).length) (Nat.le_refl _)
      rw [List.take_length] at this
      rw [hlx, this, sby_length, whr_all, List.take_length]
    have hlen : rsz x.recs = (look x.num).length := by rw [hlx, sby_length]
    have h0 : (nx.isSome && nx != some x.num) = false := by rcases hnx with rfl | rfl <;> simp [hn]
    have ih := goOver_lies look a s k hk p more (some (b + x.recs.length)) (b + x.recs.length) (.inr rfl) hc.2 (fun y hy => hg y (by simp at hy ⊢; exact .inr hy)) (fun y hy => hp y (by simp [hy])) hl hmore
    rcases ih with ih | ih
    · left
      simp only [List.map_cons, List.cons_append, goOver, h0, hrec, hlen, Bool.false_eq_true, if_false, if_true]
      rw [hn, ih, ← hn]
    · exact .inr ih
end Go.Proofs.YtbobakfcmkaijaaGreatDoor
end

section
/- What goes over a journal's segments, step by step, as plain mathematics. No program is named here. -/
namespace Go.Proofs.YtbobakfcmkaijaaGreatDoor
set_option linter.unusedVariables false

theorem rsz_count (rs : List (List Int)) : rs.length ≤ rsz rs := by
  induction rs with
  | nil => exact Nat.le_refl _
  | cons r rs ih =>
    simp only [rsz, List.map_cons, List.sum_cons, List.length_cons] at ih ⊢
    omega
/-- the bytes of frames -/
def fsz (fs : List Fr) : Nat := (fs.map (fun f => f.body.length + 12)).sum
theorem fsz_rsz (fs : List Fr) : rsz (fs.map (·.body)) = fsz fs := by
  unfold rsz fsz
  rw [List.map_map]
  rfl
theorem fsz_append (a b : List Fr) : fsz (a ++ b) = fsz a + fsz b := by simp [fsz]
theorem fsz_cons (f : Fr) (fs : List Fr) : fsz (f :: fs) = f.body.length + 12 + fsz fs := by simp [fsz]
theorem scn_sum : ∀ (n : Nat) (b : List Int), b.length ≤ n → fsz (scn b).1 = (scn b).2.1 ∧ (scn b).2.1 ≤ b.length := by
  intro n
  induction n with
  | zero =>
    intro b hb
    obtain rfl := List.eq_nil_of_length_eq_zero (Nat.le_zero.1 hb)
    rw [scn_nil]
    exact ⟨rfl, Nat.le_refl _⟩
  | succ n ih =>
    intro b hb
    by_cases h : (mea b).2 = 0
    · have hm := mea_le h
      have hf := fra_length h
      have := ih (b.drop (mea b).1) (by rw [List.length_drop]; omega)
      rw [List.length_drop] at this
      rw [scn_more h]
      simp only [fsz_cons]
      omega
    · rw [scn_end h]
      exact ⟨rfl, Nat.zero_le _⟩
theorem scn_fits (b : List Int) : fsz (scn b).1 ≤ b.length := by
  have := scn_sum b.length b (Nat.le_refl _)
  omega
/-- the records that lie ahead of the first frame of another kind -/
theorem recsOf_stop {b : List Int} {q : Nat} (hq : q < (scn b).1.length) (hall : ∀ k (h : k < q), ((scn b).1[k]'(by omega)).k = 1) (hk : ((scn b).1[q]).k ≠ 1) :
    recsOf b = ((scn b).1.take q).map (·.body) ∧ rsz (recsOf b) ≠ b.length := by
  have hsplit : (scn b).1 = (scn b).1.take q ++ (scn b).1[q] :: (scn b).1.drop (q + 1) := by rw [List.getElem_cons_drop, List.take_append_drop]
  have htake : (scn b).1.takeWhile (fun f => decide (f.k = 1)) = (scn b).1.take q := by
    conv => lhs; rw [hsplit]
    rw [List.takeWhile_append_of_pos, List.takeWhile_cons, if_neg (by simpa using hk), List.append_nil]
    intro f hf
    obtain ⟨k, hkl, rfl⟩ := List.mem_iff_getElem.1 hf
    rw [List.length_take] at hkl
    rw [List.getElem_take]
    simpa using hall k (by omega)
  have h1 : recsOf b = ((scn b).1.take q).map (·.body) := by rw [recsOf, htake]
  refine ⟨h1, ?_⟩
  rw [h1, fsz_rsz]
  have hfit := scn_fits b
  conv at hfit => lhs; rw [hsplit]
  rw [fsz_append, fsz_cons] at hfit
  omega
theorem takeW_self {α : Type} (p : α → Bool) : ∀ l : List α, (∀ x ∈ l, p x = true) → l.takeWhile p = l
  | [], _ => rfl
  | x :: l, h => by
    rw [List.takeWhile_cons, if_pos (h x (by simp)), takeW_self p l fun y hy => h y (by simp [hy])]
theorem recsOf_all {b : List Int} (hall : ∀ k (h : k < (scn b).1.length), ((scn b).1[k]).k = 1) : recsOf b = (scn b).1.map (·.body) := by
  unfold recsOf
  congr 1
  refine takeW_self _ _ fun f hf => ?_
  obtain ⟨k, hkl, rfl⟩ := List.mem_iff_getElem.1 hf
  simpa using hall k hkl
theorem recsOf_fits (b : List Int) : rsz (recsOf b) ≤ b.length := by
  refine Nat.le_trans ?_ (scn_fits b)
  unfold recsOf
  rw [fsz_rsz]
  have h := List.takeWhile_append_dropWhile (p := fun f => decide (f.k = 1)) (l := (scn b).1)
  conv => rhs; rw [← h]
  rw [fsz_append]
  omega
theorem recsOf_byt {b : List Int} (hb : Byt b) : ∀ r ∈ recsOf b, Byt r := by
  have : ∀ (n : Nat) (b : List Int), b.length ≤ n → Byt b → ∀ f ∈ (scn b).1, Byt f.body := by
    intro n
    induction n with
    | zero =>
      intro b hl hb f hf
      obtain rfl := List.eq_nil_of_length_eq_zero (Nat.le_zero.1 hl)
      rw [scn_nil] at hf
      cases hf
    | succ n ih =>
      intro b hl hb f hf
      by_cases h : (mea b).2 = 0
      · rw [scn_more h] at hf
        rcases List.mem_cons.1 hf with rfl | hf
        · exact fra_byt hb
        · have hm := mea_le h
          exact ih _ (by rw [List.length_drop]; omega) (hb.drop _) f hf
      · rw [scn_end h] at hf
        cases hf
  intro r hr
  obtain ⟨f, hf, rfl⟩ := List.mem_map.1 hr
  exact this b.length b (Nat.le_refl _) hb f (List.takeWhile_subset _ hf)

/-! ## step by step -/
/-- what stands ahead of number k: all gone into -/
structure GoIn (look : Nat → List Int) (ns : List Nat) (k : Nat) (nx : Nat) (ss : List Sg) : Prop where
  split : goOver look none ns = ss ++ goOver look (if k = 0 then none else some nx) (ns.drop k)
  len : ss.length = k
  mem : ∀ x ∈ ss, x.num ∈ ns ∧ x.recs = recsOf (look x.num) ∧ rsz x.recs = (look x.num).length
  nx : k ≠ 0 → nx = nextOf ss
theorem GoIn.start (look : Nat → List Int) (ns : List Nat) (nx : Nat) : GoIn look ns 0 nx [] := ⟨rfl, rfl, (fun x hx => (by cases hx)), fun h => absurd rfl h⟩
theorem nextOf_snoc (ss : List Sg) (s : Sg) : nextOf (ss ++ [s]) = s.num + s.recs.length := by
  unfold nextOf
  rw [if_neg (by simp), lastOf_snoc]
section
variable {look : Nat → List Int} {ns : List Nat} {k nx : Nat} {ss : List Sg}
theorem GoIn.done (h : GoIn look ns k nx ss) (hk : ns.length ≤ k) : goOver look none ns = ss := by
  rw [h.split, List.drop_eq_nil_of_le hk]
  simp [goOver]
/-- another number than the next one -/
theorem GoIn.other (h : GoIn look ns k nx ss) (hk : k < ns.length) (h0 : k ≠ 0) (hn : ns[k] ≠ nx) : goOver look none ns = ss := by
  rw [h.split, if_neg h0, ← List.getElem_cons_drop hk]
  have hne : ¬ nx = ns[k] := Ne.symm hn
  simp [goOver, hne]
theorem GoIn.goes (h : GoIn look ns k nx ss) (hk : k < ns.length) (hn : k = 0 ∨ ns[k] = nx) : goOver look none ns = ss ++ if rsz (recsOf (look ns[k])) = (look ns[k]).length then ⟨ns[k], recsOf (look ns[k])⟩ :: goOver look (some (ns[k] + (recsOf (look ns[k])).length)) (ns.drop (k + 1)) else [⟨ns[k], recsOf (look ns[k])⟩] := by
  rw [h.split, ← List.getElem_cons_drop hk]
  congr 1
  rcases hn with hn | hn
  · rw [if_pos hn]
    simp [goOver]
  · by_cases h0 : k = 0
    · rw [if_pos h0]
      simp [goOver]
    · rw [if_neg h0, ← hn]
      simp [goOver]
theorem GoIn.next (h : GoIn look ns k nx ss) (hk : k < ns.length) (hn : k = 0 ∨ ns[k] = nx) (he : rsz (recsOf (look ns[k])) = (look ns[k]).length) : GoIn look ns (k + 1) (ns[k] + (recsOf (look ns[k])).length) (ss ++ [⟨ns[k], recsOf (look ns[k])⟩]) := by
  refine ⟨?_, by simp [h.len], fun x hx => ?_, fun _ => by rw [nextOf_snoc]⟩
  · rw [h.goes hk hn, if_pos he, if_neg (by omega)]
    simp
  · rcases List.mem_append.1 hx with hx | hx
    · exact h.mem x hx
    · obtain rfl := List.mem_singleton.1 hx
      exact ⟨List.getElem_mem _, rfl, he⟩
theorem GoIn.stop (h : GoIn look ns k nx ss) (hk : k < ns.length) (hn : k = 0 ∨ ns[k] = nx) (he : rsz (recsOf (look ns[k])) ≠ (look ns[k]).length) : goOver look none ns = ss ++ [⟨ns[k], recsOf (look ns[k])⟩] := by
  rw [h.goes hk hn, if_neg he]
end
end Go.Proofs.YtbobakfcmkaijaaGreatDoor
end

section
/- Bytes come behind a file's end. -/
namespace Go.Proofs.YtbobakfcmkaijaaGreatDoor
open Go.RowKit Go.Maps Go.WideMaps
set_option linter.unusedVariables false

/-- 'append(s, x...)' to a row of the call's own, x a slice that is nil or not: only the row's own block has turned, or the row is new -/
theorem run_app_at {P : Program} (w : World) (t ty e : TypeId) (i : TypeInfo) (z : Value) (ht : P.underlying t = some (.slice e)) (hi : P.info? e = some i) (hz : i.zero = some z) (hsize : i.size = 1) (hby : i.bytes = 1) (hzs : z.cells.size = 1)
    {B : Nat} {v : Value} {n : Nat} {xs : List Value} (hown : w.ownsRow B e 1 v n xs) {A : Option Addr} {c lim m : Nat} {news : List Value} (hr : Rds w lim A news) (hA : A = none → c = 0) (h1 : ∀ u ∈ news, u.oneCell' = true) (hm : news.length = m)
    (hn : n + m ≤ 140737488355328) (hB : B ≤ w.heap.size) :
    ∃ v' w', (Builtin.append_ #[t, t] ty #[v, .slice A m c]).run P w = .ok v' w' ∧ w'.ownsRow B e 1 v' (n + m) (xs ++ news) ∧ w.grownBy w' v.ownBlock ∧ (v'.ownBlock = v.ownBlock ∨ v'.ownBlock = some w.heap.size) := by
  subst hm
  cases A with
  | none =>
    have hnews : news = [] := by
      cases news with
      | nil => rfl
      | cons u us => obtain ⟨ad, e, _⟩ := hr (by simp); cases e
    subst hnews
    obtain rfl := hA rfl
    exact ⟨v, w, run_append_owned_none (P := P) w B t ty e i 1 ht hi v n xs hown, by simpa using hown, World.grownBy.refl w _, .inl rfl⟩
  | some ad =>
    have hcells : ∀ j u, news[j]? = some u → w.cell? (ad.add j) = some u := fun j u hu => by
      obtain ⟨ad', e, _, hc⟩ := hr.at_ hu
      obtain rfl := Option.some.inj e
      exact hc
    obtain ⟨v', w', hrun, h2, h3, _, h4⟩ := run_append_own_at (P := P) w B t ty e i z 1 1 ht hi hz hsize hby hzs (by decide) v n xs hown ad news.length c news (by simp) hcells h1 (by unfold maxLen; omega) (by omega) hB
    exact ⟨v', w', hrun, h2, h3, h4⟩

/-- an append whose run is known, as a step of a region that draws -/
theorem step_run {P : Program} {w w' : World} {ops : Array Oper} {o : Oper} {a : Act} {K : Act → World → Prop} {Q : Exit → Act → World → Prop} {E : Prop} (hgd : o.guard = none) (s x : Operand) (t : TypeId)
    (ho : o.op = .call { callee := .builtin .append, args := #[s, x], argTypes := #[t, t] }) (v u v' : Value) (hs : a.eval s = v) (hx : a.eval x = u) (hrun : (Builtin.append_ #[t, t] o.type #[v, u]).run P w = .ok v' w')
    (h : K (a.put o.dst v') w') : if Region.wanted o (yielded ops a.tmps) = true then Oper.wp P o a w K Q else E := by
  have hw : Region.wanted o (yielded ops a.tmps) = true := by simp [Region.wanted, hgd]
  rw [if_pos hw]
  unfold Oper.wp
  simp [execOp, ho, resolve, invoke, builtin, hs, hx, hrun, Result.andThen]
  exact h

section
variable {S : Nat → Prop} {d mb nn : Nat} {M : DataW Unit} {blk : Nm → Nat} {vs : Nm → Value} {D : Dsk}

def putb (p : List Int) (f : Fl) : Fl := { f with bs := f.bs ++ p }

set_option maxHeartbeats 2000000 in
set_option maxRecDepth 8000 in
theorem append1_any {l : Nm} {f : Fl} (p : List Int) (Ap : Option Addr) (m c b1 b2 b3 : Nat) (w : World) (h : DkAt w S d mb nn M blk vs D) (hs : Srt D.files) (hf : find D.files l = some f) (hpm : p.length = m) (hm : m ≤ 64) (hlen : f.bs.length ≤ 70368744177664)
    (hL0 : -70368744177664 ≤ left D) (hL1 : left D ≤ 70368744177664)
    (h1 : Whole w b1 69 #[.pointer (some ⟨blk l, 0, none⟩)]) (h2 : Whole w b2 30 #[.slice Ap m c]) (h3 : Whole w b3 23 #[.pointer (some ⟨d, 0, none⟩)]) (hr : Rds w w.heap.size Ap (c8 p)) (hA0 : Ap = none → c = 0)
    (n1 : ¬ S b1) (n2 : ¬ S b2) (n3 : ¬ S b3) :
    Calls Tryz.prog 84 #[.pointer (some ⟨b1, 0, none⟩), .pointer (some ⟨b2, 0, none⟩), .pointer (some ⟨b3, 0, none⟩)] w fun e w2 => e = .returned (.tuple #[]) ∧ ∃ S' vs', DkAt w2 S' d mb nn M blk vs' { D with files := put1 l p D.files } ∧ Turn S S' w w2 := by
  obtain ⟨hW, hR⟩ := h.fil l f hf
  obtain ⟨i0, hi, hz0, hz1, hz2⟩ := info_parts info8
  have hWd : Whole w.drew (blk l) 100 #[vs l, .int .i64 f.sy] := hW
  have hRd : w.drew.ownsRow 0 5 1 (vs l) f.bs.length (c8 f.bs) := hR
  have hrd : Rds w.drew w.heap.size Ap (c8 p) := hr
  obtain ⟨v', w2, hrun, hR2, hg, hloc⟩ := run_app_at (P := Tryz.prog) w.drew 30 30 5 i0 (.int .u8 0) Tryz.underlying30 hi hz0 hz1 hz2 rfl hRd hrd hA0 (c8_one p) (by rw [c8_length, hpm]) (by omega) (Nat.zero_le _)
  obtain ⟨A', c', rfl, hr2, hnc2, _, _⟩ := own_open hR2
  obtain ⟨A, cp, hv, _, hnc, _, _⟩ := own_open hR
  rw [← c8_append] at hR2
  have hg1 : ∀ k, k < w.heap.size → (vs l).ownBlock ≠ some k → w2.heap[k]? = w.heap[k]? := fun k hk hne => hg.block k hk (fun e => hne e.symm)
  have hsz : w.heap.size ≤ w2.heap.size := hg.size
  have hbw : Whole w2 (blk l) 100 #[vs l, .int .i64 f.sy] := (hg1 _ (h.blt hf) (fun e => h.ne_rowb hf hf e rfl)).trans hW
  -- behind the bytes
  have hfile : DkAt (w2.setCell ⟨blk l, 0, none⟩ (.slice A' (f.bs.length + m) c')) (More S w (w2.setCell ⟨blk l, 0, none⟩ (.slice A' (f.bs.length + m) c'))) d mb nn M blk (fun x => if x = l then .slice A' (f.bs.length + m) c' else vs x) { D with files := put1 l p D.files, room := D.room + m } := by
    refine h.turnFile hf (putb p) (fun _ => rfl) _ _ rfl (by simp [World.setCell]; exact hsz) ?_ ?_ ?_ ?_ ?_
    · intro k hk e1 e2 e3
      rw [Below.heap_setCell _ _ _ _ e2]
      exact hg1 k hk e3
    · have e : topCells d mb { D with files := put1 l p D.files, room := D.room + m } = topCells d mb D := by
        simp only [topCells, left]
        rw [used_put1 hs hf, hpm]
        congr 5
        omega
      rw [e]
      exact (show Whole w2 d _ _ from (hg1 _ (h.lt _ h.sd) (fun e => h.ne_row hf e rfl)).trans h.top).far (p := ⟨blk l, 0, none⟩) (h.ne_blk hf).symm _
    · exact hbw.put 0 _
    · refine ownRow_block_kept (w := w2) ?_ fun g hg' => Below.heap_setCell _ _ _ _ (fun e => ?_)
      · simp only [putb, List.length_append, hpm]
        exact hR2
      · rcases hloc with hl | hl
        · rw [hl] at hg'
          exact h.ne_rowb hf hf hg' e
        · rw [hl] at hg'
          injection hg' with hg'
          have := h.blt hf
          have e2 : g = blk l := e
          have e4 : w.drew.heap.size = w.heap.size := rfl
          omega
    · rcases hloc with hl | hl
      · exact .inl hl
      · exact .inr fun k hk => by rw [hl] at hk; injection hk with hk; have e4 : w.drew.heap.size = w.heap.size := rfl; omega
  have hT1 : Turn S (More S w (w2.setCell ⟨blk l, 0, none⟩ (.slice A' (f.bs.length + m) c'))) w (w2.setCell ⟨blk l, 0, none⟩ (.slice A' (f.bs.length + m) c')) := by
    refine ⟨((((Outs.refl S w).drew).grown hg (fun k hk => .inl ((h.sb l f hf).2 k hk))).setCell (p := ⟨blk l, 0, none⟩) (.inl (h.sb l f hf).1) _), more_new⟩
  have hll : left { D with files := put1 l p D.files, room := D.room + m } = left D := by
    simp only [left]
    rw [used_put1 hs hf, hpm]
    omega
  have c1 : w.cell? ⟨b1, 0, none⟩ = some (.pointer (some ⟨blk l, 0, none⟩)) := h1.cell 0
  have c2 : w.cell? ⟨b2, 0, none⟩ = some (.slice Ap m c) := h2.cell 0
  have w0 : w.cell? ⟨blk l, 0, none⟩ = some (.slice A f.bs.length cp) := by rw [← hv]; exact hW.cell 0
  have x0 : w2.cell? ⟨blk l, 0, none⟩ = some (.slice A f.bs.length cp) := by rw [← hv]; exact hbw.cell 0
  have xb1 : w2.cell? ⟨b1, 0, none⟩ = some (.pointer (some ⟨blk l, 0, none⟩)) := (show Whole w2 b1 _ _ from (hg1 _ h1.lt (fun e => n1 ((h.sb l f hf).2 _ e))).trans h1).cell 0
  have xf : w2.frozen? ⟨blk l, 0, none⟩ = false := hbw.frozen 0
  rw [hv] at hrun
  have hT1o := hT1.outs
  have y2 := h2.outs hT1o n2
  have y3 := h3.outs hT1o n3
  generalize hW3 : w2.setCell ⟨blk l, 0, none⟩ (.slice A' (f.bs.length + m) c') = w3 at *
  have d2 : w3.cell? ⟨d, 2, none⟩ = some (.int .i64 (left D)) := by rw [hfile.c2, hll]
  have df : w3.frozen? ⟨d, 2, none⟩ = false := hfile.fz 2
  have z2 : w3.cell? ⟨b2, 0, none⟩ = some (.slice Ap m c) := y2.cell 0
  have z3 : w3.cell? ⟨b3, 0, none⟩ = some (.pointer (some ⟨d, 0, none⟩)) := y3.cell 0
  have hfin : ∃ S' vs', DkAt ((w3.setCell ⟨d, 2, none⟩ (.int .i64 (left D - m))).drew) S' d mb nn M blk vs' { D with files := put1 l p D.files } ∧ Turn S S' w ((w3.setCell ⟨d, 2, none⟩ (.int .i64 (left D - m))).drew) := by
    refine ⟨_, _, (DkAt.roomy (D := { D with files := put1 l p D.files }) (r := D.room + m) hfile _ ?_).go (bDrewN (Below.refl _ _) 1), ⟨(hT1o.setCell (p := ⟨d, 2, none⟩) (.inl h.sd) _).drew, hT1.new⟩⟩
    simp only [left]
    rw [used_put1 hs hf, hpm]
    omega
  have HF := Lib.hid hfin
  have HW3 := Lib.hid hW3
  clear hfin hfile hT1 hT1o y2 y3 hbw hg1 hg hR2 hr2 hrd hRd hWd hW hR hr h1 h2 h3 hv hll hloc hW3 h hf
  generalize f.bs.length = N at *
  generalize left D = LL at *
  generalize blk l = bk at *
  go_enter Tryz.func84, Tryz.ntmps84
  go_wp2
  go_region_law (refine step_run rfl (.tmp 7) (.tmp 8) 30 rfl _ _ _ rfl rfl hrun ?_)
  all_goals (
    rw [HW3.out]
    go_wp2
    go_still_tail 9, (by kernel_rfl)
    change wpList _ _ _ _ _ w3.drew
    go_wp2
    go_returns
    exact ⟨by simp, HF.out⟩)
theorem append1_enters : ∀ args w, (callFunc 84 args).run Tryz.prog w = .ok (.enter 84 args) w := enters_of Tryz.func84 (by kernel_rfl) rfl
end
end Go.Proofs.YtbobakfcmkaijaaGreatDoor
end
