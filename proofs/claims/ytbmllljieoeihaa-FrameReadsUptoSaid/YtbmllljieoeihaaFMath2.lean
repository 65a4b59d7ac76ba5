/- What follows of frames: they are read back, first parts are torn, turned bits are seen. No program is named here. -/
import Derived.Test.YtbmllljieoeihaaFMath
namespace Go.Proofs.Ytbmllljieoeihaa
open Go.RowKit Go.Lib
set_option linter.unusedVariables false

theorem cut8 {A B R : List Int} (hA : A.length = 4) (hB : B.length = 4) :
    (A ++ (B ++ R)).take 4 = A ∧ ((A ++ (B ++ R)).drop 4).take 4 = B ∧ (A ++ (B ++ R)).drop 8 = R ∧ ((A ++ (B ++ R)).drop 1).take 3 = A.drop 1 := by
  match A, hA with
  | [a0, a1, a2, a3], _ =>
    match B, hB with
    | [b0, b1, b2, b3], _ => exact ⟨rfl, rfl, rfl, rfl⟩

theorem mea_head {k : Int} {m : Nat} (hm : m ≤ 1048576) (R : List Int) :
    mea (hd4 k m ++ (le 4 (hsum k m) ++ R)) = if R.length < m + 4 then (0, 4) else if un ((R.drop m).take 4) ≠ mor (hsum k m) (R.take m) then (0, 5) else (m + 12, 0) := by
  obtain ⟨h1, h2, h3, h4⟩ := cut8 (A := hd4 k m) (B := le 4 (hsum k m)) (R := R) (hd4_length k m) (le_length 4 _)
  have hl : (hd4 k m ++ (le 4 (hsum k m) ++ R)).length = 8 + R.length := by simp only [List.length_append, hd4_length, le_length]; omega
  have hsz : sz (hd4 k m ++ (le 4 (hsum k m) ++ R)) = m := by
    unfold sz
    rw [h4]
    show un (le 3 m) = m
    exact un_le 3 m (by have : (256 : Nat) ^ 3 = 16777216 := by decide
                        omega)
  have hhs : hs (hd4 k m ++ (le 4 (hsum k m) ++ R)) = hsum k m := by unfold hs; rw [h1]; rfl
  have hun : un (le 4 (hsum k m)) = hsum k m := un_le 4 _ (mor_lt _ _)
  unfold mea
  rw [hsz, hhs, hl, h2, hun, ← List.drop_drop, h3]
  rw [if_neg (by omega), if_neg (by omega)]
  by_cases h : R.length < m + 4
  · rw [if_pos h, if_pos (by omega)]
  · rw [if_neg h, if_neg (by omega)]

theorem fra_head {k : Int} {m : Nat} {R : List Int} : fra (hd4 k m ++ (le 4 (hsum k m) ++ R)) = ⟨k, R.take ((mea (hd4 k m ++ (le 4 (hsum k m) ++ R))).1 - 12)⟩ := by
  obtain ⟨h1, h2, h3, h4⟩ := cut8 (A := hd4 k m) (B := le 4 (hsum k m)) (R := R) (hd4_length k m) (le_length 4 _)
  unfold fra
  rw [h3]
  rfl

theorem fby_split (f : Fr) (more : List Int) : fby f ++ more = hd4 f.k f.body.length ++ (le 4 (hsum f.k f.body.length) ++ (f.body ++ (le 4 (mor (hsum f.k f.body.length) f.body) ++ more))) := by
  simp only [fby, List.append_assoc]

theorem mea_fby (f : Fr) (hf : Fok f) (more : List Int) : mea (fby f ++ more) = (f.body.length + 12, 0) := by
  rw [fby_split, mea_head hf.2.2]
  rw [if_neg (by simp only [List.length_append, le_length]; omega), if_neg]
  rw [List.drop_left, List.take_left, show (le 4 (mor (hsum f.k f.body.length) f.body) ++ more).take 4 = le 4 (mor (hsum f.k f.body.length) f.body) from List.take_left' (le_length 4 _)]
  rw [un_le 4 _ (mor_lt _ _)]
  simp

theorem fra_fby (f : Fr) (hf : Fok f) (more : List Int) : fra (fby f ++ more) = f := by
  have h := mea_fby f hf more
  rw [fby_split] at h ⊢
  rw [fra_head, h]
  simp

theorem scn_fby (f : Fr) (hf : Fok f) (more : List Int) : scn (fby f ++ more) = (f :: (scn more).1, f.body.length + 12 + (scn more).2.1, (scn more).2.2) := by
  have h := mea_fby f hf more
  rw [scn_more (by rw [h]), h, fra_fby f hf more]
  have hd : (fby f ++ more).drop (f.body.length + 12) = more := by
    rw [← fby_length f, List.drop_left]
  rw [hd]

/-- a first part that ends within a frame -/
theorem mea_torn (f : Fr) (hf : Fok f) {n : Nat} (hn : n < f.body.length + 12) : mea ((fby f).take n) = (0, 4) := by
  by_cases h8 : n < 8
  · unfold mea
    rw [if_pos (by simp only [List.length_take]; omega)]
  · have hl4 : (hd4 f.k f.body.length).length = 4 := hd4_length _ _
    have e : (fby f).take n = hd4 f.k f.body.length ++ (le 4 (hsum f.k f.body.length) ++ (f.body ++ le 4 (mor (hsum f.k f.body.length) f.body)).take (n - 8)) := by
      rw [fby, List.take_append, hl4, List.take_of_length_le (by omega), List.take_append, le_length, List.take_of_length_le (by rw [le_length]; omega), show n - 4 - 4 = n - 8 by omega]
    rw [e, mea_head hf.2.2, if_pos]
    simp only [List.length_take, List.length_append, le_length]
    omega

/-- frames' bytes, one behind the other -/
def fbs (fs : List Fr) : List Int := (fs.map fby).flatten
/-- how many of the frames lie whole in the first n bytes, and how many bytes they have -/
def whl : List Fr → Nat → Nat × Nat
  | [], _ => (0, 0)
  | f :: r, n => if f.body.length + 12 ≤ n then ((whl r (n - (f.body.length + 12))).1 + 1, f.body.length + 12 + (whl r (n - (f.body.length + 12))).2) else (0, 0)

theorem scn_nil : scn [] = ([], 0, 0) := by
  rw [scn_end (by unfold mea; simp)]
  rfl

theorem scn_torn : ∀ (fs : List Fr), (∀ f ∈ fs, Fok f) → ∀ n, n ≤ (fbs fs).length → scn ((fbs fs).take n) = (fs.take (whl fs n).1, (whl fs n).2, if (whl fs n).2 = n then 0 else 4)
  | [], _, n, hn => by
    simp [fbs] at hn
    subst hn
    simp [fbs, whl, scn_nil]
  | f :: r, h, n, hn => by
    have hf := h f (List.mem_cons_self ..)
    have hl := fby_length f
    have e : fbs (f :: r) = fby f ++ fbs r := by simp [fbs]
    rw [e] at hn ⊢
    rw [List.length_append] at hn
    rw [whl]
    by_cases hle : f.body.length + 12 ≤ n
    · rw [if_pos hle]
      have e2 : (fby f ++ fbs r).take n = fby f ++ (fbs r).take (n - (f.body.length + 12)) := by
        rw [List.take_append, hl, List.take_of_length_le (by omega)]
      have ih := scn_torn r (fun g hg => h g (List.mem_cons_of_mem _ hg)) (n - (f.body.length + 12)) (by omega)
      rw [e2, scn_fby f hf, ih]
      generalize whl r (n - (f.body.length + 12)) = W
      simp only [List.take_succ_cons]
      congr 2
      by_cases h2 : W.2 = n - (f.body.length + 12)
      · rw [if_pos h2, if_pos (by omega)]
      · rw [if_neg h2, if_neg (by omega)]
    · rw [if_neg hle]
      have e2 : (fby f ++ fbs r).take n = (fby f).take n := by
        rw [List.take_append, show n - (fby f).length = 0 by omega, List.take_zero, List.append_nil]
      have ht := mea_torn f hf (n := n) (by omega)
      rw [e2, scn_end (by rw [ht]; decide), ht]
      simp only [List.length_take, hl, List.take_zero]
      congr 2
      by_cases h2 : n = 0
      · subst h2; simp
      · rw [if_neg (by omega), if_neg (by omega)]

theorem whl_all : ∀ (fs : List Fr), whl fs (fbs fs).length = (fs.length, (fbs fs).length)
  | [] => rfl
  | f :: r => by
    have e : (fbs (f :: r)).length = f.body.length + 12 + (fbs r).length := by simp [fbs, fby_length]
    rw [whl, e, if_pos (by omega), show f.body.length + 12 + (fbs r).length - (f.body.length + 12) = (fbs r).length by omega, whl_all r]
    rfl

theorem scn_all (fs : List Fr) (h : ∀ f ∈ fs, Fok f) : scn (fbs fs) = (fs, (fbs fs).length, 0) := by
  have := scn_torn fs h (fbs fs).length (Nat.le_refl _)
  rw [whl_all, List.take_length, List.take_length] at this
  simpa using this

/-- the bits of X from the place r on turned, the first n of them, as far as the bytes go -/
def tns (r X : Nat) : Nat → List Int → List Int
  | 0, L => L
  | n + 1, L => if X / 2 ^ n % 2 = 1 ∧ r + n < 8 * L.length then turn (tns r X n L) (r + n) else tns r X n L

theorem tns_length (r X : Nat) : ∀ (n : Nat) (L : List Int), (tns r X n L).length = L.length
  | 0, L => rfl
  | n + 1, L => by
    rw [tns]
    split
    · rw [turn_length, tns_length r X n L]
    · exact tns_length r X n L
theorem tns_byt (r X : Nat) : ∀ (n : Nat) {L : List Int}, Byt L → Byt (tns r X n L)
  | 0, L, h => h
  | n + 1, L, h => by
    rw [tns]
    split
    · exact turn_byt (tns_byt r X n h) (by rw [tns_length]; omega)
    · exact tns_byt r X n h

theorem turn_take {L : List Int} {p m : Nat} (hm : m ≤ L.length) : (turn L p).take m = if p < 8 * m then turn (L.take m) p else L.take m := by
  unfold turn
  rw [List.take_set]
  by_cases h : p < 8 * m
  · rw [if_pos h]
    congr 3
    simp only [List.getD_eq_getElem?_getD, List.getElem?_take, if_pos (show p / 8 < m by omega)]
  · rw [if_neg h, List.set_eq_of_length_le (by rw [List.length_take]; omega)]

theorem tns_take (r X : Nat) : ∀ (n : Nat) (L : List Int) (m : Nat), m ≤ L.length → (tns r X n L).take m = tns r X n (L.take m)
  | 0, L, m, h => rfl
  | n + 1, L, m, h => by
    have hlm : (L.take m).length = m := by rw [List.length_take]; omega
    have ih := tns_take r X n L m h
    rw [tns, tns, hlm]
    by_cases h1 : X / 2 ^ n % 2 = 1 ∧ r + n < 8 * L.length
    · rw [if_pos h1, turn_take (by rw [tns_length]; exact h), ih]
      by_cases h2 : r + n < 8 * m
      · rw [if_pos h2, if_pos ⟨h1.1, h2⟩]
      · rw [if_neg h2, if_neg (fun h => h2 h.2)]
    · rw [if_neg h1, if_neg (fun h2 => h1 ⟨h2.1, by omega⟩), ih]

/-- the bits that are turned, as a number -/
def brs (r X n m : Nat) : Nat := X % 2 ^ (min n (8 * m - r))

theorem tns_mor (r X : Nat) : ∀ (n : Nat) {L : List Int}, Byt L → mor 0 (tns r X n L) = mor 0 L ^^^ its (8 * L.length - r) (brs r X n L.length)
  | 0, L, h => by simp [tns, brs, Nat.mod_one, its_zero]
  | n + 1, L, h => by
    have ih := tns_mor r X n h
    have hb := mod_bit X n
    unfold brs at ih ⊢
    rw [tns]
    by_cases hin : r + n < 8 * L.length
    · rw [show min n (8 * L.length - r) = n by omega] at ih
      rw [show min (n + 1) (8 * L.length - r) = n + 1 by omega, hb]
      by_cases hbit : X / 2 ^ n % 2 = 1
      · rw [if_pos ⟨hbit, hin⟩, if_pos hbit, turn_mor (tns_byt r X n h) (by rw [tns_length]; exact hin), ih, tns_length, Nat.xor_assoc, ← its_xor]
      · rw [if_neg (fun h => hbit h.1), if_neg hbit, Nat.xor_zero, ih]
    · rw [if_neg (fun h => hin h.2), ih, show min n (8 * L.length - r) = 8 * L.length - r by omega, show min (n + 1) (8 * L.length - r) = 8 * L.length - r by omega]

theorem brs_none {r X n m : Nat} (h : brs r X n m = 0) {i : Nat} (hi : i < n) (hm : r + i < 8 * m) : ¬ X / 2 ^ i % 2 = 1 := by
  intro hb
  unfold brs at h
  have h1 : X % 2 ^ (i + 1) = 0 := by
    have hd : 2 ^ (i + 1) ∣ 2 ^ (min n (8 * m - r)) := Nat.pow_dvd_pow 2 (by omega)
    have := Nat.mod_mod_of_dvd X hd
    rw [h] at this
    simpa using this.symm
  have h2 := Nat.mod_pow_succ (x := X) (b := 2) (k := i)
  rw [h1, hb] at h2
  have h3 : 0 < 2 ^ i := Nat.pow_pos (by decide)
  omega

theorem tns_none (r X : Nat) {m : Nat} : ∀ (n : Nat) {L : List Int}, L.length = m → brs r X n m = 0 → tns r X n L = L
  | 0, L, _, _ => rfl
  | n + 1, L, hL, h => by
    have h0 : brs r X n m = 0 := by
      unfold brs at h ⊢
      have hd : 2 ^ (min n (8 * m - r)) ∣ 2 ^ (min (n + 1) (8 * m - r)) := Nat.pow_dvd_pow 2 (by omega)
      have := Nat.mod_mod_of_dvd X hd
      rw [h] at this
      simpa using this.symm
    rw [tns, if_neg (fun hc => brs_none h (by omega) (by rw [← hL]; exact hc.2) hc.1)]
    exact tns_none r X n hL h0

theorem brs_lt {r X n m : Nat} (hX : X < 4294967296) : brs r X n m < 4294967296 := Nat.lt_of_le_of_lt (Nat.mod_le _ _) hX

/-- where a bit is turned the sum is another -/
theorem tns_seen {r X n : Nat} (hX : X < 4294967296) {L : List Int} (hL : Byt L) (h : brs r X n L.length ≠ 0) : mor 0 (tns r X n L) ≠ mor 0 L := by
  intro e
  rw [tns_mor r X n hL] at e
  have e2 := xor_cancel (mor 0 L) (its (8 * L.length - r) (brs r X n L.length))
  rw [e, Nat.xor_self] at e2
  exact h (its_inj _ (brs_lt hX) e2.symm)

theorem mor_other {s s' : Nat} (hs : s < 4294967296) (hs' : s' < 4294967296) {a b : List Int} (ha : Byt a) (hb : Byt b) (hl : a.length = b.length) (h : mor s a = mor s b) : mor s' a = mor s' b := by
  rw [mor_join hs ha, mor_join hs hb, hl] at h
  have h2 : mor 0 a = mor 0 b := by
    have := congrArg (its (8 * b.length) s ^^^ ·) h
    simpa only [xor_cancel] using this
  rw [mor_join hs' ha, mor_join hs' hb, hl, h2]

/-- bits turned within 32 side by side of a frame are seen, whatever stands behind -/
theorem mea_turned (f : Fr) (hf : Fok f) {r X : Nat} (hX : X < 4294967296) (h : brs r X 32 (f.body.length + 12) ≠ 0) (more : List Int) : mea (tns r X 32 (fby f) ++ more) = (0, 5) := by
  have hl := fby_length f
  have hby := fby_byt hf
  have hlt := tns_length r X 32 (fby f)
  have hbt := tns_byt r X 32 hby
  have hh4 := hd4_byt hf.1 f.body.length
  have hd8 : (fby f).take 8 = hd4 f.k f.body.length ++ le 4 (hsum f.k f.body.length) := by
    rw [fby, ← List.append_assoc]
    have e8 : (hd4 f.k f.body.length ++ le 4 (hsum f.k f.body.length)).length = 8 := by simp [hd4_length, le_length]
    exact List.take_left' e8
  have ht8 := tns_take r X 32 (fby f) 8 (by omega)
  by_cases hA : brs r X 32 8 = 0
  · -- the head stands as it did
    have h8l : ((fby f).take 8).length = 8 := by rw [List.length_take]; omega
    rw [tns_none r X 32 h8l hA, hd8] at ht8
    obtain ⟨R, hR⟩ : ∃ R, R = (tns r X 32 (fby f)).drop 8 := ⟨_, rfl⟩
    have e : tns r X 32 (fby f) = hd4 f.k f.body.length ++ (le 4 (hsum f.k f.body.length) ++ R) := by
      rw [← List.append_assoc, ← ht8, hR, List.take_append_drop]
    have hRl : R.length = f.body.length + 4 := by rw [hR, List.length_drop, hlt, hl]; omega
    have hRb : Byt R := by rw [hR]; exact hbt.drop 8
    have hne := tns_seen (r := r) (n := 32) hX hby (by rw [hl]; exact h)
    rw [e, List.append_assoc, List.append_assoc, mea_head hf.2.2, if_neg (by rw [List.length_append]; omega), if_pos]
    intro hun
    apply hne
    rw [e]
    rw [List.drop_append, List.take_append, List.take_append, show f.body.length - R.length = 0 by omega, List.drop_zero, List.take_zero, List.append_nil] at hun
    rw [List.length_drop, show 4 - (R.length - f.body.length) = 0 by omega, List.take_zero, List.append_nil, List.take_of_length_le (by rw [List.length_drop]; omega)] at hun
    have hs1 := (resid_iff (hRb.take f.body.length) (hRb.drop f.body.length) (by rw [List.length_drop]; omega)).1 hun
    rw [List.take_append_drop] at hs1
    have hs2 := (resid_iff (s := hsum f.k f.body.length) hf.2.1 (le_byt 4 (mor (hsum f.k f.body.length) f.body)) (le_length 4 _)).1 (un_le 4 _ (mor_lt _ _))
    have hbb : Byt (f.body ++ le 4 (mor (hsum f.k f.body.length) f.body)) := hf.2.1.append (le_byt 4 _)
    have hll : R.length = (f.body ++ le 4 (mor (hsum f.k f.body.length) f.body)).length := by rw [List.length_append, le_length, hRl]
    have hs3 := mor_other (mor_lt 0 (hd4 f.k f.body.length ++ le 4 (hsum f.k f.body.length))) (mor_lt 0 (hd4 f.k f.body.length ++ le 4 (hsum f.k f.body.length))) hRb hbb hll
      (mor_other (mor_lt _ _) (mor_lt 0 (hd4 f.k f.body.length ++ le 4 (hsum f.k f.body.length))) hRb hbb hll (hs1.trans hs2.symm))
    have hH : Byt (hd4 f.k f.body.length ++ le 4 (hsum f.k f.body.length)) := hh4.append (le_byt 4 _)
    rw [fby, ← List.append_assoc, mor_append hH, hs3, ← mor_append hH, List.append_assoc]
  · -- the head is another one
    have hne := tns_seen (r := r) (n := 32) (L := (fby f).take 8) hX (hby.take 8) (by rw [List.length_take, hl, show min 8 (f.body.length + 12) = 8 by omega]; exact hA)
    rw [← ht8, hd8] at hne
    have hs2 := (resid_iff (s := 0) hh4 (le_byt 4 (hsum f.k f.body.length)) (le_length 4 _)).1 (un_le 4 _ (mor_lt _ _))
    rw [hs2] at hne
    obtain ⟨A, hAe⟩ : ∃ A, A = (tns r X 32 (fby f)).take 4 := ⟨_, rfl⟩
    obtain ⟨D, hDe⟩ : ∃ D, D = ((tns r X 32 (fby f)).drop 4).take 4 := ⟨_, rfl⟩
    have e8 : (tns r X 32 (fby f)).take 8 = A ++ D := by
      rw [hAe, hDe, show 8 = 4 + 4 by rfl, List.take_add]
    have hA4 : Byt A := by rw [hAe]; exact hbt.take 4
    have hD4 : Byt D := by rw [hDe]; exact (hbt.drop 4).take 4
    have hDl : D.length = 4 := by rw [hDe, List.length_take, List.length_drop, hlt, hl]; omega
    have hun : un D ≠ mor 0 A := fun hu => hne (by rw [e8]; exact (resid_iff hA4 hD4 hDl).1 hu)
    unfold mea
    rw [if_neg (by rw [List.length_append, hlt, hl]; omega), if_pos]
    left
    unfold hs
    rw [List.drop_append, List.take_append, List.take_append, hlt, hl, List.length_drop, hlt, hl, show 4 - (f.body.length + 12) = 0 by omega, show 4 - (f.body.length + 12 - 4) = 0 by omega, List.take_zero, List.append_nil, List.take_zero, List.append_nil, ← hAe, ← hDe]
    exact hun

end Go.Proofs.Ytbmllljieoeihaa
