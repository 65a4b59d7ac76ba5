/- Several texts, each a section: JName, JTest, JNum, SBack, SName, CMath, CStep. -/
import Derived.Test.YtbobakfcmkaijaaGreatDoorM03
import Derived.Lib.ItoaNum
import Derived.Test.YtbobakfcmkaijaaGreatDoorM01
import Derived.Lib.Strings
import Derived.Test.YtbobakfcmkaijaaGreatDoorM02
import Derived.Lib.AppendIntMem
import Derived.Lib.ItoaLen
import Derived.Test.YtbobakfcmkaijaaGreatDoorM05
import Derived.Lib.IndexLaws
import Derived.Lib.IndexMore
import Derived.Lib.CutLaws
import Derived.Lib.ParseIntB
import Derived.WalkKit
import Derived.Laws.BitsAllLaws
section
/- The names of a journal's files as plain mathematics: a number's twelve digits, told and read back, in order. No program is named here. -/
namespace Go.Proofs.YtbobakfcmkaijaaGreatDoor
set_option linter.unusedVariables false

/-- one digit -/
def d1 (x : Nat) : UInt8 := UInt8.ofNat (48 + x % 10)
/-- the k lowest digits of a number, the highest first -/
def dig : Nat → Nat → Nm
  | 0, _ => []
  | k + 1, n => dig k (n / 10) ++ [d1 n]
/-- digits, read on behind a number -/
def rdg : Nat → Nm → Option Nat
  | a, [] => some a
  | a, c :: r => if 48 ≤ c.toNat ∧ c.toNat ≤ 57 then rdg (a * 10 + (c.toNat - 48)) r else none

theorem d1_toNat (x : Nat) : (d1 x).toNat = 48 + x % 10 := by
  unfold d1
  rw [UInt8.toNat_ofNat']
  have : x % 10 < 10 := Nat.mod_lt _ (by decide)
  omega
theorem dig_length : ∀ (k n : Nat), (dig k n).length = k
  | 0, _ => rfl
  | k + 1, n => by simp [dig, dig_length k]
theorem rdg_append : ∀ (a b : Nm) (x : Nat), rdg x (a ++ b) = (rdg x a).bind (fun y => rdg y b)
  | [], b, x => rfl
  | c :: r, b, x => by
    simp only [List.cons_append, rdg]
    split
    · exact rdg_append r b _
    · rfl
theorem rdg_dig : ∀ (k n x : Nat), n < 10 ^ k → rdg x (dig k n) = some (x * 10 ^ k + n)
  | 0, n, x, h => by
    simp at h
    subst h
    simp [dig, rdg]
  | k + 1, n, x, h => by
    have h1 : n / 10 < 10 ^ k := by
      rw [Nat.pow_succ] at h
      omega
    rw [dig, rdg_append, rdg_dig k _ x h1]
    show rdg _ [d1 n] = _
    have hd := d1_toNat n
    have h10 : n % 10 < 10 := Nat.mod_lt _ (by decide)
    simp only [rdg, hd]
    rw [if_pos (by omega), Nat.pow_succ]
    congr 1
    rw [Nat.add_mul, ← Nat.mul_assoc]
    generalize x * 10 ^ k * 10 = m
    omega
theorem u8_ext {a b : UInt8} (h : a.toNat = b.toNat) : a = b := UInt8.toNat_inj.1 h
theorem rdg_back : ∀ (k : Nat) (l : Nm) (n : Nat), l.length = k → rdg 0 l = some n → l = dig k n ∧ n < 10 ^ k
  | 0, l, n, hl, h => by
    obtain rfl := List.eq_nil_of_length_eq_zero hl
    simp only [rdg, Option.some.injEq] at h
    subst h
    exact ⟨rfl, by decide⟩
  | k + 1, l, n, hl, h => by
    have hne : l ≠ [] := by rintro rfl; simp at hl
    have he := (List.dropLast_concat_getLast hne).symm
    generalize l.getLast hne = c at he
    generalize hq : l.dropLast = r at he
    subst he
    have hrl : r.length = k := by simpa using hl
    rw [rdg_append] at h
    cases hr : rdg 0 r with
    | none => rw [hr] at h; cases h
    | some y =>
      rw [hr] at h
      have h2 : rdg y [c] = some n := h
      obtain ⟨h3, h4⟩ := rdg_back k r y hrl hr
      simp only [rdg] at h2
      split at h2
      · rename_i hc
        obtain rfl := Option.some.inj h2
        have e1 : (y * 10 + (c.toNat - 48)) / 10 = y := by omega
        refine ⟨?_, by rw [Nat.pow_succ]; omega⟩
        rw [dig, e1, ← h3]
        congr 2
        refine u8_ext ?_
        rw [d1_toNat]
        omega
      · cases h2
theorem append_lt {a b : Nm} (h : a < b) (hl : a.length = b.length) (c d : Nm) : a ++ c < b ++ d := by
  induction a generalizing b with
  | nil =>
    cases b with
    | nil => exact absurd h (List.lt_irrefl _)
    | cons y b => simp at hl
  | cons x a ih =>
    cases b with
    | nil => simp at hl
    | cons y b =>
      rw [List.cons_lt_cons_iff] at h
      rw [List.cons_append, List.cons_append, List.cons_lt_cons_iff]
      rcases h with h | ⟨h1, h2⟩
      · exact .inl h
      · exact .inr ⟨h1, ih h2 (by simpa using hl)⟩
theorem lt_append (a : Nm) {c d : Nm} (h : c < d) : a ++ c < a ++ d := by
  induction a with
  | nil => exact h
  | cons x a ih => rw [List.cons_append, List.cons_append, List.cons_lt_cons_iff]; exact .inr ⟨rfl, ih⟩
theorem dig_lt : ∀ (k a b : Nat), a < b → b < 10 ^ k → dig k a < dig k b
  | 0, a, b, h, hb => by simp at hb; omega
  | k + 1, a, b, h, hb => by
    rw [Nat.pow_succ] at hb
    rcases Nat.lt_or_ge (a / 10) (b / 10) with h1 | h1
    · exact append_lt (dig_lt k _ _ h1 (by omega)) (by simp [dig_length]) _ _
    · have e : a / 10 = b / 10 := by omega
      rw [dig, dig, e]
      refine lt_append _ ?_
      rw [List.cons_lt_cons_iff]
      left
      show (d1 a).toNat < (d1 b).toNat
      rw [d1_toNat, d1_toNat]
      omega

/-- the name of the segment of that number -/
def segN (l : Nm) (n : Nat) : Nm := l ++ (45 :: dig 12 n)
def cutN (l : Nm) : Nm := l ++ [45, 99, 117, 116]
/-- the number that a file's name tells -/
def segNo (l f : Nm) : Option Nat := if (l ++ [45]).isPrefixOf f && decide ((f.drop (l.length + 1)).length = 12) then rdg 0 (f.drop (l.length + 1)) else none
def maxNo : Nat := 999999999999

theorem segNo_segN (l : Nm) {n : Nat} (h : n ≤ maxNo) : segNo l (segN l n) = some n := by
  have hd : (segN l n).drop (l.length + 1) = dig 12 n := by
    unfold segN
    rw [List.drop_append, List.drop_eq_nil_of_le (by omega), show l.length + 1 - l.length = 1 by omega]
    rfl
  unfold segNo
  rw [hd, dig_length, rdg_dig 12 n 0 (by unfold maxNo at h; omega)]
  have : (l ++ [45]).isPrefixOf (segN l n) = true := by
    rw [List.isPrefixOf_iff_prefix]
    exact ⟨dig 12 n, by simp [segN]⟩
  simp [this]
theorem segNo_back {l f : Nm} {n : Nat} (h : segNo l f = some n) : f = segN l n ∧ n ≤ maxNo := by
  unfold segNo at h
  split at h
  · rename_i hc
    simp only [Bool.and_eq_true, decide_eq_true_eq, List.isPrefixOf_iff_prefix] at hc
    obtain ⟨⟨r, hr⟩, h2⟩ := hc
    obtain ⟨h3, h4⟩ := rdg_back 12 _ n h2 h
    refine ⟨?_, by unfold maxNo; omega⟩
    have hd : f.drop (l.length + 1) = r := by
      rw [← hr, List.drop_append, List.drop_eq_nil_of_le (by simp)]
      simp
    rw [hd] at h3
    rw [← hr, h3]
    simp [segN]
  · cases h
theorem segN_lt (l : Nm) {a b : Nat} (h : a < b) (hb : b ≤ maxNo) : segN l a < segN l b := by
  refine lt_append _ ?_
  rw [List.cons_lt_cons_iff]
  exact .inr ⟨rfl, dig_lt 12 a b h (by unfold maxNo at hb; omega)⟩
theorem segN_inj {l : Nm} {a b : Nat} (ha : a ≤ maxNo) (hb : b ≤ maxNo) (h : segN l a = segN l b) : a = b := by
  have h1 := segNo_segN l ha
  rw [h, segNo_segN l hb] at h1
  exact (Option.some.inj h1).symm
theorem segN_lt_iff (l : Nm) {a b : Nat} (ha : a ≤ maxNo) (hb : b ≤ maxNo) : segN l a < segN l b ↔ a < b := by
  refine ⟨fun h => ?_, fun h => segN_lt l h hb⟩
  rcases Nat.lt_trichotomy a b with h1 | h1 | h1
  · exact h1
  · subst h1; exact absurd h (List.lt_irrefl _)
  · exact absurd (List.lt_trans h (segN_lt l h1 ha)) (List.lt_irrefl _)
theorem segNo_cut (l : Nm) : segNo l (cutN l) = none := by
  unfold segNo
  have : (cutN l).drop (l.length + 1) = [99, 117, 116] := by
    unfold cutN
    rw [List.drop_append, List.drop_eq_nil_of_le (by omega), show l.length + 1 - l.length = 1 by omega]
    rfl
  rw [this]
  simp
theorem segN_ne_cut (l : Nm) (n : Nat) : segN l n ≠ cutN l := by
  intro h
  have := congrArg List.length h
  simp [segN, cutN, dig_length] at this

/-- as the library tells a number: zeros ahead of its digits -/
theorem zero_dig : ∀ k, List.replicate k (48 : UInt8) = dig k 0
  | 0 => rfl
  | k + 1 => by
    rw [List.replicate_succ', zero_dig k]
    rfl
theorem dig_dec : ∀ (k n : Nat), n < 10 ^ (k + 1) → List.replicate (k + 1 - (Lib.decDigits n).length) 48 ++ Lib.decDigits n = dig (k + 1) n
  | k, n, h => by
    by_cases hs : n < 10
    · rw [Lib.decDigits_one hs]
      show List.replicate k 48 ++ _ = dig k (n / 10) ++ [d1 n]
      rw [zero_dig, show n / 10 = 0 by omega, d1, Nat.mod_eq_of_lt hs]
    · cases k with
      | zero => simp at h; omega
      | succ k =>
        have ih := dig_dec k (n / 10) (by rw [Nat.pow_succ] at h; omega)
        rw [Lib.decDigits, dif_neg hs]
        show _ = dig (k + 1) (n / 10) ++ [d1 n]
        rw [← ih, List.length_append, List.append_assoc]
        simp only [List.length_singleton]
        rw [show k + 1 + 1 - ((Lib.decDigits (n / 10)).length + 1) = k + 1 - (Lib.decDigits (n / 10)).length by omega]
        rfl
theorem dec_len {n : Nat} (h : n ≤ maxNo) : (Lib.decDigits n).length ≤ 12 := by
  rw [Lib.decDigits_length]
  have : ∀ (k n : Nat), n < 10 ^ (k + 1) → Lib.nDigits n ≤ k + 1 := by
    intro k
    induction k with
    | zero => intro n h; rw [Lib.nDigits_small (by simpa using h)]; omega
    | succ k ih =>
      intro n h
      by_cases hs : n < 10
      · rw [Lib.nDigits_small hs]; omega
      · rw [Lib.nDigits_big hs]
        have := ih (n / 10) (by rw [Nat.pow_succ] at h; omega)
        omega
  exact this 11 n (by unfold maxNo at h; omega)
theorem segN_dec (l : Nm) {n : Nat} (h : n ≤ maxNo) : l ++ [45] ++ List.replicate (12 - (Lib.decDigits n).length) 48 ++ Lib.decDigits n = segN l n := by
  rw [List.append_assoc, dig_dec 11 n (by unfold maxNo at h; omega), segN]
  simp

/-! ## the segments among a disk's files -/
/-- the numbers of a journal's segments among files' names -/
def nos (l : Nm) (fs : List Nm) : List Nat := fs.filterMap (segNo l)
theorem nos_mem {l : Nm} {fs : List Nm} {n : Nat} : n ∈ nos l fs ↔ n ≤ maxNo ∧ segN l n ∈ fs := by
  unfold nos
  rw [List.mem_filterMap]
  constructor
  · rintro ⟨f, hf, h⟩
    obtain ⟨rfl, h2⟩ := segNo_back h
    exact ⟨h2, hf⟩
  · rintro ⟨h1, h2⟩
    exact ⟨_, h2, segNo_segN l h1⟩
theorem nos_rise {l : Nm} {fs : List Nm} (h : fs.Pairwise (· < ·)) : (nos l fs).Pairwise (· < ·) := by
  unfold nos
  rw [List.pairwise_filterMap]
  refine h.imp ?_
  intro a b hab x hx y hy
  obtain ⟨rfl, h1⟩ := segNo_back hx
  obtain ⟨rfl, h2⟩ := segNo_back hy
  exact (segN_lt_iff l h1 h2).1 hab
theorem rise_ext : ∀ {a b : List Nat}, a.Pairwise (· < ·) → b.Pairwise (· < ·) → (∀ n, n ∈ a ↔ n ∈ b) → a = b
  | [], [], _, _, _ => rfl
  | [], y :: b, _, _, h => absurd ((h y).2 (by simp)) (by simp)
  | x :: a, [], _, _, h => absurd ((h x).1 (by simp)) (by simp)
  | x :: a, y :: b, ha, hb, h => by
    obtain ⟨ha1, ha2⟩ := List.pairwise_cons.1 ha
    obtain ⟨hb1, hb2⟩ := List.pairwise_cons.1 hb
    have exy : x = y := by
      rcases List.mem_cons.1 ((h x).1 (by simp)) with e | e
      · exact e
      · rcases List.mem_cons.1 ((h y).2 (by simp)) with e' | e'
        · exact e'.symm
        · have := hb1 x e
          have := ha1 y e'
          omega
    subst exy
    congr 1
    refine rise_ext ha2 hb2 fun n => ?_
    have hn := h n
    rw [List.mem_cons, List.mem_cons] at hn
    constructor
    · intro hm
      rcases hn.1 (.inr hm) with e | e
      · have := ha1 n hm; omega
      · exact e
    · intro hm
      rcases hn.2 (.inr hm) with e | e
      · have := hb1 n hm; omega
      · exact e
theorem find_isSome {fs : List Fl} {l : Nm} : (find fs l).isSome ↔ l ∈ fs.map (·.nm) := by
  rw [List.mem_map]
  constructor
  · intro h
    obtain ⟨f, hf⟩ := Option.isSome_iff_exists.1 h
    exact ⟨f, find_some hf⟩
  · rintro ⟨f, hf, h⟩
    cases hq : find fs l with
    | none => exact absurd h (find_none hq f hf)
    | some g => rfl
end Go.Proofs.YtbobakfcmkaijaaGreatDoor
end

section
/- The program's test of a journal's name. -/
namespace Go.Proofs.YtbobakfcmkaijaaGreatDoor
open Go.RowKit
set_option linter.unusedVariables false

def okL (b : UInt8) : Bool := decide (97 ≤ b.toNat) && decide (b.toNat ≤ 122)
/-- a journal's name: 1 to 8 small letters -/
def okJ (l : Nm) : Bool := decide (1 ≤ l.length) && (decide (l.length ≤ 8) && l.all okL)

theorem okJ_long {l : Nm} (h : 8 < l.length) : okJ l = false := by simp [okJ]; omega
theorem okJ_short {l : Nm} (h1 : 1 ≤ l.length) (h2 : l.length ≤ 8) : okJ l = l.all okL := by
  have a : decide (1 ≤ l.length) = true := by simpa using h1
  have b : decide (l.length ≤ 8) = true := by simpa using h2
  unfold okJ
  rw [a, b]
  rfl
theorem okJ_len {l : Nm} (h : okJ l = true) : 1 ≤ l.length ∧ l.length ≤ 8 := by
  simp only [okJ, Bool.and_eq_true, decide_eq_true_eq] at h
  exact ⟨h.1, h.2.1⟩
theorem okJ_all {l : Nm} (h : okJ l = true) : l.all okL = true := by
  simp only [okJ, Bool.and_eq_true] at h
  exact h.2.2
theorem okN_of {l : Nm} (h1 : 1 ≤ l.length) (h2 : l.length ≤ 24) (h : ∀ b ∈ l, 33 ≤ b.toNat ∧ b.toNat ≤ 126) : okN l = true := by
  simp only [okN, Bool.and_eq_true, decide_eq_true_eq, List.all_eq_true]
  exact ⟨h1, h2, h⟩
theorem dig_chars : ∀ (k n : Nat), ∀ b ∈ dig k n, 48 ≤ b.toNat ∧ b.toNat ≤ 57
  | 0, n, b, hb => by cases hb
  | k + 1, n, b, hb => by
    rw [dig, List.mem_append] at hb
    rcases hb with hb | hb
    · exact dig_chars k _ b hb
    · obtain rfl := List.mem_singleton.1 hb
      rw [d1_toNat]
      have := Nat.mod_lt n (show 10 > 0 by decide)
      omega
theorem okL_chars {l : Nm} (h : okJ l = true) : ∀ b ∈ l, 33 ≤ b.toNat ∧ b.toNat ≤ 126 := by
  intro b hb
  have := List.all_eq_true.1 (okJ_all h) b hb
  simp only [okL, Bool.and_eq_true, decide_eq_true_eq] at this
  omega
/-- the names that a journal gives its files may be -/
theorem okN_seg {l : Nm} (h : okJ l = true) (n : Nat) : okN (segN l n) = true := by
  obtain ⟨h1, h2⟩ := okJ_len h
  refine okN_of (by simp [segN]; omega) (by simp [segN, dig_length]; omega) fun b hb => ?_
  rcases List.mem_append.1 hb with hb | hb
  · exact okL_chars h b hb
  · rcases List.mem_cons.1 hb with rfl | hb
    · decide
    · have := dig_chars 12 n b hb; omega
theorem okN_cut {l : Nm} (h : okJ l = true) : okN (cutN l) = true := by
  obtain ⟨h1, h2⟩ := okJ_len h
  refine okN_of (by simp [cutN]) (by simp [cutN]; omega) fun b hb => ?_
  rcases List.mem_append.1 hb with hb | hb
  · exact okL_chars h b hb
  · simp only [List.mem_cons, List.not_mem_nil, or_false] at hb
    rcases hb with rfl | rfl | rfl | rfl <;> decide

set_option maxHeartbeats 800000 in
theorem jmayNot_any (s : ByteArray) (hs : s.size ≤ 9223372036854775807) (w : World) :
    Calls Tryz.prog 128 #[.string s] w fun e w' => e = .returned (.bool (!okJ s.data.toList)) ∧ ∃ n, w' = w.drewN n := by
  have hsz : s.size = s.data.toList.length := by simp
  have hl : s.toList = s.data.toList := Lib.toList_data s
  have he : (ByteArray.mk #[]).toList = [] := by rw [Lib.toList_data]
  by_cases h0 : s.size = 0
  · have hn : s.data.toList = [] := List.eq_nil_of_length_eq_zero (by omega)
    have hq : s.toList = [] := by rw [hl, hn]
    have hf : okJ s.data.toList = false := by rw [hn]; rfl
    rw [hf]
    clear hf hn hl he hsz
    go_enter Tryz.func128, Tryz.ntmps128
    go_wp2
    go_ret
    exact ⟨by simp, 0, rfl⟩
  · have hq : ¬ s.toList = [] := by
      rw [hl]
      intro hn
      rw [hn] at hsz
      exact h0 hsz
    have hq1 : s.toList.isEmpty = false := by simpa using hq
    by_cases h24 : 8 < s.size
    · rw [okJ_long (by omega)]
      have h24' : (8 : Int) < s.size := by omega
      clear hl he hsz h24
      go_enter Tryz.func128, Tryz.ntmps128
      go_wp2
      go_ret
      exact ⟨by simp, 0, rfl⟩
    · rw [okJ_short (by omega) (by omega)]
      have h24' : ¬ (8 : Int) < s.size := by omega
      have HL := Lib.hid hl
      have HS := Lib.hid hsz
      generalize hr : s.data.toList.all okL = r
      have HR := Lib.hid hr
      clear hr
      clear hl he hsz h24
      go_enter Tryz.func128, Tryz.ntmps128
      go_wp2
      go_loopw [13] (fun i wr => ∃ k : Nat, k ≤ s.size ∧ i = .int .i64 k ∧ (s.data.toList.take k).all okL = true ∧ ∃ n, wr = w.drewN n) (fun i _ => s.size - (intOf i).toNat)
      case atStart => exact ⟨0, Nat.zero_le _, rfl, rfl, 0, rfl⟩
      case round =>
        obtain ⟨k, hk, rfl, hall, n, rfl⟩ := hrel
        have HA := Lib.hid hall
        clear hall
        by_cases hlt : k < s.size
        · have hg : s.data[k]'(by exact hlt) = s.data.toList[k]'(by rw [← HS.out]; exact hlt) := by simp
          have hkl : k < s.data.toList.length := by rw [← HS.out]; exact hlt
          have hb : okL (s.data.toList[k]'hkl) = decide (97 ≤ ((s[k]'hlt).toNat : Int) ∧ ((s[k]'hlt).toNat : Int) ≤ 122) := by
            have e : s[k]'hlt = s.data.toList[k]'hkl := by rw [← hg]; rfl
            rw [e]
            simp only [okL, Bool.decide_and]
            congr 1 <;> exact decide_eq_decide.2 (by omega)
          have bad : okL (s.data.toList[k]'hkl) = false → s.data.toList.all okL = false := fun h => by
            rw [List.all_eq_false]
            exact ⟨_, List.getElem_mem hkl, by rw [h]; decide⟩
          have HB := Lib.hid hb
          have HBad := Lib.hid bad
          clear hg hb bad
          go_wp2
          all_goals first
            | (go_roundw
               case rel =>
                 refine ⟨k + 1, by omega, by go_num, ?_, n, rfl⟩
                 rw [List.take_add_one, List.getElem?_eq_getElem hkl, List.all_append, HA.out]
                 simp only [Option.toList_some, List.all_cons, List.all_nil, Bool.and_true, Bool.true_and]
                 rw [HB.out]
                 exact decide_eq_true (by omega)
               case measure => simp [intOf]; omega)
            | (go_ret
               refine ⟨?_, n, rfl⟩
               rw [← HR.out, HBad.out (by rw [HB.out]; exact decide_eq_false (by omega))]
               rfl)
        · go_wp2
          go_ret
          refine ⟨?_, n, rfl⟩
          have := HA.out
          rw [List.take_of_length_le (by rw [← HS.out]; omega)] at this
          rw [← HR.out, this]
          rfl
end Go.Proofs.YtbobakfcmkaijaaGreatDoor
end

section
/- The names that the program gives a journal's segments, and what it reads of them. -/
namespace Go.Proofs.YtbobakfcmkaijaaGreatDoor
open Go.RowKit Go.Sort
set_option linter.unusedVariables false

/-- the library's table of powers of ten stands -/
def Pow (w : World) : Prop := Lib.TabIs Tryz.prog w "internal/strconv.uint64pow10" .u64 Lib.pow10Tab
theorem gPow : Tryz.prog.globalNamed "internal/strconv.uint64pow10" = some 0 := by kernel_rfl
theorem Pow.of {w w' : World} (h : Pow w) (hb : w'.heap[0]? = w.heap[0]?) : Pow w' := by
  unfold Pow Lib.TabIs World.var? at h ⊢
  rw [gPow] at h ⊢
  simp only [Option.bind_some] at h ⊢
  rw [hb]
  exact h
theorem Pow.lt {w : World} (h : Pow w) : 0 < w.heap.size := by
  unfold Pow Lib.TabIs World.var? at h
  rw [gPow] at h
  simp only [Option.bind_some] at h
  rcases Nat.lt_or_ge 0 w.heap.size with h1 | h1
  · exact h1
  · rw [Array.getElem?_eq_none h1] at h
    cases h
theorem Pow.go {w w' : World} (h : Pow w) (hb : Below w.heap.size w w') : Pow w' := h.of (hb.block _ h.lt)
theorem Pow.outs {S : Nat → Prop} {w w' : World} (h : Pow w) (ho : Outs S w w') (hn : ¬ S 0) : Pow w' := h.of (ho.block _ h.lt hn)
theorem grow_below (w : World) (k : Nat) (os : Array Obj) : Below w.heap.size w (grow (w.drewN k) os) :=
  ⟨rfl, rfl, rfl, by simp [grow], fun g hg => by
    simp only [grow, World.drewN]
    exact Array.getElem?_append_left hg⟩

set_option maxHeartbeats 1600000 in
set_option maxRecDepth 100000 in
theorem ifmt_any (u : Nat) (hu64 : u < 18446744073709551616) (w : World) (hp : Pow w) :
    Calls Tryz.prog 114 #[.int .u64 u, .int .i64 10] w fun e w' => e = .returned (.string ⟨(Lib.decDigits u).toArray⟩) ∧ Below w.heap.size w w' := by
  by_cases hs : u < 100
  · have hs' : (u : Int) < 100 := by omega
    go_enter Tryz.func114, Tryz.ntmps114
    go_wp2_with fail
    refine (Tryz.internal_strconv_small u hs _).mono ?_
    rintro e w' ⟨rfl, rfl⟩
    go_wp2
    go_returns
    exact ⟨by simp, Below.refl _ _⟩
  · have hs' : ¬ (u : Int) < 100 := by omega
    have hu1 : 1 ≤ u := by omega
    have hnd20 : Lib.nDigits u ≤ 20 := Lib.nDigits_le20 u hu64
    have hb3 : Lib.nDigits u ≤ 24 := by omega
    have hal : Tryz.prog.arrayLen 167 = 24 := by kernel_rfl
    have hsl : ∀ W, (Instr.sliceAt 167 (.pointer (some ⟨w.heap.size, 0, none⟩)) none (some (.int .i64 (Lib.nDigits u : Int))) none).run Tryz.prog W = .ok (.slice (some ⟨w.heap.size, 0, none⟩) (Lib.nDigits u) 24) W := fun W => by
      rw [run_sliceAt_array_h W 167 ⟨w.heap.size, 0, none⟩ (by simp [Program.arrayLen, Program.elem, Tryz.underlying167]) .i64 (Lib.nDigits u : Int) (by omega) (by rw [hal]; omega)]
      go_simp
    clear hal
    have hH0 := Lib.holds_zero0 w 167 (Lib.nDigits u) hb3
    have hfmt := Tryz.internal_strconv_formatBase10 w.heap.size 0 24 u (Array.replicate (Lib.nDigits u) 0) (w.alloc (.cells Lib.zeros24 167)) hH0 (by rw [Array.size_replicate]; exact Lib.lt_pow_nDigits u) hu64 (by rw [Array.size_replicate]; omega)
    rw [Array.size_replicate] at hfmt
    have hnm := Tryz.internal_strconv_numDigits u hu1 hu64 (w.alloc (.cells Lib.zeros24 167)) (hp.go ((Below.refl _ _).alloc (Nat.le_refl _) _))
    have HH0 := Lib.hid hH0
    clear hH0
    go_enter Tryz.func114, Tryz.ntmps114
    go_wp2_with fail
    refine hnm.mono ?_
    rintro e w' ⟨rfl, rfl⟩
    go_wp2_with fail
    refine hfmt.mono ?_
    rintro e w' ⟨rfl, k, v', dk, rfl, hF⟩
    have hcv : (convert 30 9 (.slice (some ⟨w.heap.size, 0, none⟩) (Lib.nDigits u) 24)).run Tryz.prog ((putRow (fun (b : UInt8) => Value.int .u8 (b.toNat : Int)) (w.alloc (.cells Lib.zeros24 167)) w.heap.size 0 dk).drewN k) = .ok (.string ⟨(Lib.decDigits u).toArray⟩) ((putRow (fun (b : UInt8) => Value.int .u8 (b.toNat : Int)) (w.alloc (.cells Lib.zeros24 167)) w.heap.size 0 dk).drewN k) := by
      have h := run_convert_bytes_back (P := Tryz.prog) ((putRow (fun (b : UInt8) => Value.int .u8 (b.toNat : Int)) (w.alloc (.cells Lib.zeros24 167)) w.heap.size 0 dk).drewN k) 30 9 5 ⟨w.heap.size, 0, none⟩ 24 (Lib.decDigits u) Tryz.underlying30 Tryz.underlying5 Tryz.underlying9 (fun j hj => by
        rw [Lib.row_is_numeral hF j hj, Lib.add_plain, World.cell?_drewN]
        exact cell?_putRow (fun (b : UInt8) => Value.int .u8 (b.toNat : Int)) _ w.heap.size 0 _ dk HH0.out (by rw [hF.size, Array.size_replicate]) j (by rw [hF.size]; rw [Lib.decDigits_length] at hj; exact hj))
      rw [Lib.decDigits_length] at h
      exact h
    obtain ⟨os, eo⟩ := Lib.fin_at w (.cells Lib.zeros24 167) dk k 0
    have hbel := grow_below w k os
    rw [← eo] at hbel
    have HB := Lib.hid hbel
    clear hbel eo hF hfmt hnm HH0
    generalize (putRow (fun (b : UInt8) => Value.int .u8 (b.toNat : Int)) (w.alloc (.cells Lib.zeros24 167)) w.heap.size 0 dk).drewN k = w2 at *
    go_wp2
    go_returns
    exact ⟨by simp, HB.out⟩

theorem fmt_any (u : Nat) (hu64 : u < 18446744073709551616) (w : World) (hp : Pow w) :
    Calls Tryz.prog 91 #[.int .u64 u, .int .i64 10] w fun e w' => e = .returned (.string ⟨(Lib.decDigits u).toArray⟩) ∧ Below w.heap.size w w' := by
  have h := ifmt_any u hu64 w hp
  go_enter Tryz.func91, Tryz.ntmps91
  go_wp2_with fail
  refine h.mono ?_
  rintro e w' ⟨rfl, hb⟩
  go_wp2
  go_returns
  exact ⟨by simp, hb⟩

theorem rep_zero : ∀ k, Lib.repeatL [48] k = List.replicate k (48 : UInt8)
  | 0 => rfl
  | k + 1 => by
    rw [Lib.repeatL, rep_zero k, List.replicate_succ]
    rfl
/-- the name of a segment -/
def strOf (l : Nm) : ByteArray := ⟨l.toArray⟩
theorem segName_any (s : ByteArray) (n : Nat) (hs : s.size ≤ 1000) (hn : n ≤ maxNo) (w : World) (hp : Pow w) :
    Calls Tryz.prog 86 #[.string s, .int .u64 n] w fun e w' => e = .returned (.string (strOf (segN s.data.toList n))) ∧ Below w.heap.size w w' := by
  have hn64 : n < 18446744073709551616 := by unfold maxNo at hn; omega
  have hf := fmt_any n hn64 w hp
  have hlen := dec_len hn
  have hsz : (ByteArray.mk (Lib.decDigits n).toArray).size = (Lib.decDigits n).length := by simp [ByteArray.size]
  have hE := segN_dec s.data.toList hn
  generalize hd : Lib.decDigits n = ds at *
  have hsub : (12 : Int) - (ds.length : Int) = ((12 - ds.length : Nat) : Int) := by omega
  have HE := Lib.hid hE
  have HS := Lib.hid hsz
  have HB := Lib.hid hsub
  clear hE hd hsub
  go_enter Tryz.func86, Tryz.ntmps86
  go_wp2_with fail
  refine hf.mono ?_
  rintro e w1 ⟨rfl, hb1⟩
  go_wp2_with fail
  rw [HB.out]
  refine (Tryz.strings_Repeat (ByteArray.mk #[48]) (12 - ds.length) w1 (by omega) (by show 1 * (12 - ds.length) ≤ _; omega)).mono ?_
  rintro e w2 ⟨rfl, hb2⟩
  have hb12 : Below w.heap.size w w2 := hb1.trans (hb2.mono hb1.size)
  have hout : s ++ ByteArray.mk #[45] ++ ByteArray.mk (Lib.repeatL (ByteArray.mk #[48]).data.toList (12 - ds.length)).toArray ++ ByteArray.mk ds.toArray = strOf (segN s.data.toList n) := by
    rw [← HE.out]
    apply ByteArray.ext
    apply Array.ext'
    simp only [ByteArray.data_append, Array.toList_append, strOf]
    show _ ++ _ ++ (Lib.repeatL [48] _).toArray.toList ++ _ = _
    rw [rep_zero]
  have HO := Lib.hid hout
  have hrl : (Lib.repeatL [48] (12 - ds.length)).length = 12 - ds.length := by rw [rep_zero, List.length_replicate]
  have hq1 : ¬ 9223372036854775807 < s.size + 1 + (Lib.repeatL [48] (12 - ds.length)).length := by omega
  have hq2 : ¬ 9223372036854775807 < s.size + 1 + (Lib.repeatL [48] (12 - ds.length)).length + ds.length := by omega
  clear hout hf hsz hrl
  go_wp2
  go_returns
  exact ⟨by simp; exact HO.out, hb12⟩

/-- what a file's name tells: the number, and whether it is a segment's name -/
def segV (o : Option Nat) : Value := match o with | some n => .tuple #[.int .u64 n, .bool true] | none => .tuple #[.int .u64 0, .bool false]
theorem rdg_bad {a b : Nm} {c : UInt8} {x y : Nat} (h : rdg x a = some y) (hc : ¬ (48 ≤ c.toNat ∧ c.toNat ≤ 57)) : rdg x (a ++ c :: b) = none := by
  rw [rdg_append, h]
  show rdg y (c :: b) = none
  simp only [rdg, if_neg hc]
theorem rdg_good {a : Nm} {c : UInt8} {x y : Nat} (h : rdg x a = some y) (hc : 48 ≤ c.toNat ∧ c.toNat ≤ 57) : rdg x (a ++ [c]) = some (y * 10 + (c.toNat - 48)) := by
  rw [rdg_append, h]
  show rdg y [c] = _
  simp only [rdg, if_pos hc]
set_option maxHeartbeats 1600000 in
theorem segNo_any (s f : ByteArray) (hs : s.size ≤ 1000) (w : World) :
    Calls Tryz.prog 161 #[.string s, .string f] w fun e w' => e = .returned (segV (segNo s.data.toList f.data.toList)) ∧ ∃ q, w' = w.drewN q := by
  have hsp : (s ++ ByteArray.mk #[45]).data.toList = s.data.toList ++ [45] := by simp
  have hcut := Tryz.strings_CutPrefix f (s ++ ByteArray.mk #[45]) w
  rw [hsp] at hcut
  have hq0 : ¬ 9223372036854775807 < s.size + 1 := by omega
  by_cases hpre : Lib.hasPrefix f.data.toList (s.data.toList ++ [45]) = true
  · have ht : Lib.trimPrefix f.data.toList (s.data.toList ++ [45]) = f.data.toList.drop (s.data.toList.length + 1) := by
      unfold Lib.trimPrefix
      rw [if_pos hpre]
      simp
    rw [ht, hpre] at hcut
    have hno : segNo s.data.toList f.data.toList = if (f.data.toList.drop (s.data.toList.length + 1)).length = 12 then rdg 0 (f.data.toList.drop (s.data.toList.length + 1)) else none := by
      unfold segNo
      have h1 : (s.data.toList ++ [45]).isPrefixOf f.data.toList = true := hpre
      rw [h1]
      simp
    rw [hno]
    generalize f.data.toList.drop (s.data.toList.length + 1) = dl at *
    clear hpre ht hno hsp
    obtain ⟨D, hD⟩ : ∃ D : ByteArray, D = ByteArray.mk dl.toArray := ⟨_, rfl⟩
    rw [← hD] at hcut
    obtain rfl : dl = D.data.toList := by rw [hD]
    clear hD
    have hsz : D.size = D.data.toList.length := by simp
    by_cases h12 : D.data.toList.length = 12
    · rw [if_pos h12]
      generalize hr : rdg 0 D.data.toList = res
      have HR := Lib.hid hr
      have hD12 : D.size = 12 := by omega
      have h12i : ((D.size : Int) != 12) = false := by simp [hD12]
      have H12 := Lib.hid hD12
      have HL := Lib.hid h12
      clear hr hsz h12 hD12
      go_enter Tryz.func161, Tryz.ntmps161
      go_wp2_with fail
      refine hcut.mono ?_
      rintro e w' ⟨rfl, rfl⟩
      go_wp2
      go_loopw [24, 4] (fun i n wr => ∃ k N : Nat, k ≤ D.size ∧ i = .int .i64 k ∧ n = .int .u64 N ∧ rdg 0 (D.data.toList.take k) = some N ∧ N < 10 ^ k ∧ ∃ q, wr = w'.drewN q) (fun i _ _ => D.size - (intOf i).toNat)
      case atStart => exact ⟨0, 0, Nat.zero_le _, rfl, rfl, rfl, by decide, 0, rfl⟩
      case round =>
        obtain ⟨k, N, hk, rfl, rfl, hn, hN, q, rfl⟩ := hrel
        have HN := Lib.hid hn
        have hN12 : N < 10 ^ 12 := Nat.lt_of_lt_of_le hN (Nat.pow_le_pow_right (by decide) (by rw [← H12.out]; exact hk))
        have HNk := Lib.hid hN
        clear hn hN
        by_cases hlt : k < D.size
        · have hkl : k < D.data.toList.length := by rw [HL.out]; rw [H12.out] at hlt; exact hlt
          have ec : D[k]'hlt = D.data.toList[k]'hkl := by
            have hg : D.data[k]'(by exact hlt) = D.data.toList[k]'hkl := by simp
            rw [← hg]; rfl
          have htake : D.data.toList.take (k + 1) = D.data.toList.take k ++ [D[k]'hlt] := by rw [List.take_add_one, List.getElem?_eq_getElem hkl, ec]; rfl
          have hall : D.data.toList = D.data.toList.take k ++ (D[k]'hlt) :: D.data.toList.drop (k + 1) := by
            rw [ec, List.getElem_cons_drop, List.take_append_drop]
          have HT := Lib.hid htake
          have HA := Lib.hid hall
          clear ec htake hall
          generalize hcc : D[k]'hlt = c at *
          by_cases hc : 48 ≤ c.toNat ∧ c.toNat ≤ 57
          · have h1 : ¬ ((c.toNat : Int) < 48) := by omega
            have h2 : ¬ ((57 : Int) < c.toNat) := by omega
            have h3 : 0 ≤ (c.toNat : Int) - 48 := by omega
            have h4 : N * 10 + (c.toNat - 48) < 18446744073709551616 := by omega
            have HC := Lib.hid hc
            have hk12 : k < 12 := by have := H12.out; omega
            clear hc
            go_wp2
            go_roundw
            case rel =>
              refine ⟨k + 1, N * 10 + (c.toNat - 48), by omega, by go_num, ?_, ?_, ?_, q, rfl⟩
              · have := HC.out
                congr 1
                omega
              · rw [HT.out]
                exact rdg_good HN.out HC.out
              · have := HC.out
                have := HNk.out
                rw [Nat.pow_succ]
                omega
            case measure => simp [intOf]; omega
          · have HC := Lib.hid hc
            have hn0 : res = none := by
              rw [← HR.out, HA.out]
              exact rdg_bad HN.out hc
            subst hn0
            have h1 : (c.toNat : Int) < 48 ∨ (57 : Int) < c.toNat := by omega
            rcases h1 with h1 | h1
            · clear hc
              go_wp2
              go_returns
              exact ⟨rfl, _, rfl⟩
            · have h2 : ¬ ((c.toNat : Int) < 48) := by omega
              clear hc
              go_wp2
              go_returns
              exact ⟨rfl, _, rfl⟩
        · have hn0 : res = some N := by
            have := HN.out
            rw [List.take_of_length_le (by rw [HL.out]; rw [H12.out] at hlt; omega), HR.out] at this
            exact this
          subst hn0
          go_wp2
          go_returns
          exact ⟨rfl, _, rfl⟩
    · rw [if_neg h12]
      have h12i : ((D.size : Int) != 12) = true := by simp; omega
      clear hsz h12
      go_enter Tryz.func161, Tryz.ntmps161
      go_wp2_with fail
      refine hcut.mono ?_
      rintro e w' ⟨rfl, rfl⟩
      go_wp2
      go_returns
      exact ⟨rfl, 0, rfl⟩
  · have hp2 : Lib.hasPrefix f.data.toList (s.data.toList ++ [45]) = false := by simpa using hpre
    have hno : segNo s.data.toList f.data.toList = none := by
      unfold segNo
      have h1 : (s.data.toList ++ [45]).isPrefixOf f.data.toList = false := hp2
      rw [h1]
      simp
    rw [hno]
    rw [hp2] at hcut
    clear hno hpre hp2 hsp
    go_enter Tryz.func161, Tryz.ntmps161
    go_wp2_with fail
    refine hcut.mono ?_
    rintro e w' ⟨rfl, rfl⟩
    go_wp2
    go_returns
    exact ⟨rfl, 0, rfl⟩
end Go.Proofs.YtbobakfcmkaijaaGreatDoor
end

section
/- The library's walk over a list of texts, from the last one on, as an iterator. -/
namespace Go.Proofs.YtbobakfcmkaijaaGreatDoor
open Go.RowKit Go.Shelf
set_option linter.unusedVariables false
attribute [local go_sem] Oper.semAt_some

abbrev Ib (n : Nat) := { k : Nat // k < n }
/-- what is handed to the round: the place, the text there -/
def encT6 (fs : List Nm) (n : Nat) (x : Ib n) : Array Value := #[.int .i64 ((n - 1 - x.1 : Nat) : Int), .string (strOf (fs.getD (n - 1 - x.1) []))]
def uptoB (n k : Nat) : List (Ib n) := (List.range k).filterMap (fun i => if h : i < n then some ⟨i, h⟩ else none)
theorem uptoB_succ {n k : Nat} (h : k < n) : uptoB n (k + 1) = uptoB n k ++ [⟨k, h⟩] := by
  unfold uptoB
  rw [List.range_succ, List.filterMap_append]
  simp [h]
theorem uptoB_vals {n : Nat} : ∀ {k : Nat}, k ≤ n → (uptoB n k).map (·.1) = List.range k
  | 0, _ => rfl
  | k + 1, h => by
    rw [uptoB_succ (by omega), List.map_append, uptoB_vals (by omega), List.range_succ]
    rfl
theorem uptoB_length {n k : Nat} (h : k ≤ n) : (uptoB n k).length = k := by
  have := congrArg List.length (uptoB_vals h)
  simpa using this

set_option maxRecDepth 100000 in
set_option maxHeartbeats 2000000 in
theorem back1_in (m : Nat) (hm : 1 ≤ m) (fs : List Nm) (l b1 g n c : Nat) (A : Option Addr) (hA : 0 < n → A = some ⟨g, 0, none⟩) (hnc : n ≤ c) (hn : n ≤ 1099511627776) (J Jx : List (Ib n) → World → Prop)
    (hY : ∀ pre x W, J pre W → pre.length < n → YieldAt Fence.wide (m - 1) Tryz.prog l (encT6 fs n x) W fun e W' =>
      (e = .returned (.bool true) ∧ J (pre ++ [x]) W' ∧ Two b1 g W W') ∨ (e = .returned (.bool false) ∧ Jx (pre ++ [x]) W'))
    (W : World) (h1 : Whole W b1 60 #[.slice A n c]) (hc : ∀ j, j < n → W.cell? ⟨g, j, none⟩ = some (.string (strOf (fs.getD j [])))) (h0 : J [] W) :
    CallsIn Fence.wide m Tryz.prog 99 #[.func (.yield l) #[] #[], .pointer (some ⟨b1, 0, none⟩)] W fun e W' => (∃ v, e = .returned v) ∧
      ((∃ ys, ys = uptoB n n ∧ J ys W') ∨ (∃ pre, (∃ k, k ≤ n ∧ pre = uptoB n k) ∧ Jx pre W')) := by
  refine callsIn_of_wp Tryz.func99 rfl trivial ?_ rfl
  simp only [Tryz.ntmps99, List.size_toArray, List.length_cons, List.length_nil, Nat.reduceAdd, Nat.reduceSub, Array.replicate_succ, Array.replicate_zero, List.push_toArray, List.append_toArray, List.nil_append, List.cons_append]
  have c0 : W.cell? ⟨b1, 0, none⟩ = some (.slice A n c) := h1.cell 0
  gi_wp2
  gi_loopw [3] (fun i wr => ∃ k : Nat, k ≤ n ∧ i = .int .i64 ((n : Int) - 1 - k) ∧ J (uptoB n k) wr ∧ Two b1 g W wr) (fun i _ => (intOf i + 1).toNat)
  case atStart => exact ⟨0, Nat.zero_le _, by simp, h0, rfl, rfl⟩
  case round =>
    obtain ⟨k, hk, rfl, hJs, hnx⟩ := hrel
    have c1 : wr.cell? ⟨b1, 0, none⟩ = some (.slice A n c) := (show Whole wr b1 _ _ from hnx.1.trans h1).cell 0
    by_cases hlt : k < n
    · have hY2 := hY (uptoB n k) ⟨k, hlt⟩ wr hJs (by rw [uptoB_length hk]; exact hlt)
      dsimp only [encT6] at hY2
      obtain rfl : A = some ⟨g, 0, none⟩ := hA (by omega)
      have hcell : wr.cell? ⟨g, n - 1 - k, none⟩ = some (.string (strOf (fs.getD (n - 1 - k) []))) := (World.cell?_of_block (a := ⟨g, n - 1 - k, none⟩) hnx.2).trans (hc _ (by omega))
      obtain ⟨i, hi⟩ : ∃ i, i = n - 1 - k := ⟨_, rfl⟩
      have hii : (n : Int) - 1 - k = (i : Int) := by omega
      have hin : i < n := by omega
      rw [← hi] at hY2 hcell
      rw [hii]
      generalize strOf (fs.getD i []) = tx at *
      have HI := Lib.hid hi
      have HII := Lib.hid hii
      clear hi hii
      obtain ⟨fn, tmps, assign, body, hy, hR⟩ := hY2
      gi_wp2
      refine hR.mono ?_
      rintro e W3 (⟨rfl, hJ3, hk3⟩ | ⟨rfl, hJx3⟩)
      · have hnx3 : Two b1 g W W3 := ⟨hk3.1.trans hnx.1, hk3.2.trans hnx.2⟩
        have c2' : W3.cell? ⟨b1, 0, none⟩ = some (.slice (some ⟨g, 0, none⟩) n c) := (show Whole W3 b1 _ _ from hnx3.1.trans h1).cell 0
        gi_wp2
        go_roundw
        case rel => exact ⟨k + 1, by omega, by have e := HII.out; rw [show (n : Int) - 1 - (k + 1 : Nat) = (i : Int) - 1 by omega], by rw [uptoB_succ hlt]; exact hJ3, hnx3⟩
        case measure => have := HII.out; simp [intOf]; try omega
      · gi_wp2
        refine bodyPost_ret (results_none rfl _ _ _) rfl ?_
        exact ⟨⟨_, rfl⟩, .inr ⟨_, ⟨k + 1, by omega, (uptoB_succ hlt).symm⟩, hJx3⟩⟩
    · obtain rfl : k = n := by omega
      have hge : ¬ (0 : Int) ≤ (k : Int) - 1 - k := by omega
      gi_wp2
      go_end0
      exact ⟨⟨_, rfl⟩, .inl hJs⟩

theorem backward_any (A : Option Addr) (n c : Nat) (w : World) :
    Calls Tryz.prog 70 #[.slice A n c] w fun e w' => e = .returned (.func (.func 99) #[] #[.pointer (some ⟨w.heap.size, 0, none⟩)]) ∧ w' = w.alloc (.cells #[.slice A n c] 60) := by
  go_enter Tryz.func70, Tryz.ntmps70
  go_wp2
  go_returns
  exact ⟨by simp, rfl⟩

theorem back_stops (m : Nat) (hm : 1 ≤ m) (fs : List Nm) (b1 g n c : Nat) (A : Option Addr) (hA : 0 < n → A = some ⟨g, 0, none⟩) (hnc : n ≤ c) (hn : n ≤ 1099511627776) (w : World)
    (h1 : Whole w b1 60 #[.slice A n c]) (hg : 0 < n → g < w.heap.size) (hc : ∀ j, j < n → w.cell? ⟨g, j, none⟩ = some (.string (strOf (fs.getD j [])))) :
    SeqStopsK Fence.wide m Tryz.prog 99 #[.pointer (some ⟨b1, 0, none⟩)] (encT6 fs n) (Two b1 g) (fun ys => ys = uptoB n n) (fun pre => ∃ k, k ≤ n ∧ pre = uptoB n k) n w := fun l J Jx W hW hJ _ hY h0 =>
  back1_in m hm fs l b1 g n c A hA hnc hn J Jx hY W (h1.below hW h1.lt) (fun j hj => by rw [hW.cell (p := ⟨g, j, none⟩) (hg (by omega))]; exact hc j hj) h0
end Go.Proofs.YtbobakfcmkaijaaGreatDoor
end

section
/- The names of a checkpoint's files as plain mathematics. No program is named here. -/
namespace Go.Proofs.YtbobakfcmkaijaaGreatDoor
set_option linter.unusedVariables false

/-- what stands between a checkpoint's name and a snapshot's number -/
def markS : Nm := [45, 115, 110, 97, 112, 45]
/-- the name of the file of the snapshot of that number -/
def snapN (l : Nm) (n : Nat) : Nm := l ++ (markS ++ dig 12 n)
def halfN (l : Nm) : Nm := l ++ [45, 115, 110, 97, 112, 110, 101, 119]
abbrev lM : Nm := [109]
theorem okM : okJ lM = true := by decide

/-- the number that a file's name tells -/
def snapNo (l f : Nm) : Option Nat := if (l ++ markS).isPrefixOf f && decide ((f.drop (l.length + 6)).length = 12) then rdg 0 (f.drop (l.length + 6)) else none
theorem snapNo_snapN (l : Nm) {n : Nat} (h : n ≤ maxNo) : snapNo l (snapN l n) = some n := by
  have hd : (snapN l n).drop (l.length + 6) = dig 12 n := by
    unfold snapN
    rw [List.drop_append, List.drop_eq_nil_of_le (by omega), show l.length + 6 - l.length = 6 by omega]
    rfl
  unfold snapNo
  rw [hd, dig_length, rdg_dig 12 n 0 (by unfold maxNo at h; omega)]
  have : (l ++ markS).isPrefixOf (snapN l n) = true := by
    rw [List.isPrefixOf_iff_prefix]
    exact ⟨dig 12 n, by simp [snapN]⟩
  simp [this]
theorem snapNo_back {l f : Nm} {n : Nat} (h : snapNo l f = some n) : f = snapN l n ∧ n ≤ maxNo := by
  unfold snapNo at h
  split at h
  · rename_i hc
    simp only [Bool.and_eq_true, decide_eq_true_eq, List.isPrefixOf_iff_prefix] at hc
    obtain ⟨⟨r, hr⟩, h2⟩ := hc
    obtain ⟨h3, h4⟩ := rdg_back 12 _ n h2 h
    refine ⟨?_, by unfold maxNo; omega⟩
    have hd : f.drop (l.length + 6) = r := by
      rw [← hr, List.drop_append, List.drop_eq_nil_of_le (by simp [markS])]
      simp [markS]
    rw [hd] at h3
    rw [← hr, h3]
    simp [snapN]
  · cases h
theorem snapN_lt (l : Nm) {a b : Nat} (h : a < b) (hb : b ≤ maxNo) : snapN l a < snapN l b :=
  lt_append _ (lt_append _ (dig_lt 12 a b h (by unfold maxNo at hb; omega)))
theorem snapN_inj {l : Nm} {a b : Nat} (ha : a ≤ maxNo) (hb : b ≤ maxNo) (h : snapN l a = snapN l b) : a = b := by
  have h1 := snapNo_snapN l ha
  rw [h, snapNo_snapN l hb] at h1
  exact (Option.some.inj h1).symm
theorem snapN_length (l : Nm) (n : Nat) : (snapN l n).length = l.length + 18 := by simp [snapN, markS, dig_length]
theorem segN_length (l : Nm) (n : Nat) : (segN l n).length = l.length + 13 := by simp [segN, dig_length]
theorem halfN_length (l : Nm) : (halfN l).length = l.length + 8 := by simp [halfN]
theorem cutN_length (l : Nm) : (cutN l).length = l.length + 4 := by simp [cutN]
theorem snap_ne_seg (l : Nm) (a b : Nat) : snapN l a ≠ segN l b := fun h => by
  have := congrArg List.length h
  rw [snapN_length, segN_length] at this
  omega
theorem snap_ne_half (l : Nm) (a : Nat) : snapN l a ≠ halfN l := fun h => by
  have := congrArg List.length h
  rw [snapN_length, halfN_length] at this
  omega
theorem snap_ne_cut (l : Nm) (a : Nat) : snapN l a ≠ cutN l := fun h => by
  have := congrArg List.length h
  rw [snapN_length, cutN_length] at this
  omega
theorem seg_ne_half (l : Nm) (a : Nat) : segN l a ≠ halfN l := fun h => by
  have := congrArg List.length h
  rw [segN_length, halfN_length] at this
  omega
theorem half_ne_cut (l : Nm) : halfN l ≠ cutN l := fun h => by
  have := congrArg List.length h
  rw [halfN_length, cutN_length] at this
  omega
theorem segNo_snap (l : Nm) (n : Nat) : segNo l (snapN l n) = none := by
  cases h : segNo l (snapN l n) with
  | none => rfl
  | some k => exact absurd (segNo_back h).1 (snap_ne_seg l n k)
theorem segNo_half (l : Nm) : segNo l (halfN l) = none := by
  cases h : segNo l (halfN l) with
  | none => rfl
  | some k => exact absurd (segNo_back h).1.symm (seg_ne_half l k)
theorem snapNo_half (l : Nm) : snapNo l (halfN l) = none := by
  cases h : snapNo l (halfN l) with
  | none => rfl
  | some k => exact absurd (snapNo_back h).1.symm (snap_ne_half l k)
theorem snapNo_seg (l : Nm) (n : Nat) : snapNo l (segN l n) = none := by
  cases h : snapNo l (segN l n) with
  | none => rfl
  | some k => exact absurd (snapNo_back h).1.symm (snap_ne_seg l k n)

/-! ## in order -/
theorem seg_lt_snap (l : Nm) (a b : Nat) : segN l a < snapN l b := by
  refine lt_append l ?_
  unfold markS
  rw [List.cons_append, List.cons_lt_cons_iff]
  refine .inr ⟨rfl, ?_⟩
  have hl := dig_length 12 a
  have hc := dig_chars 12 a
  cases hd : dig 12 a with
  | nil => rw [hd] at hl; cases hl
  | cons c r =>
    rw [hd] at hc
    have := hc c (by simp)
    rw [List.cons_append, List.cons_lt_cons_iff]
    left
    show c.toNat < (115 : UInt8).toNat
    have e : (115 : UInt8).toNat = 115 := rfl
    omega
theorem snap_lt_half (l : Nm) (a : Nat) : snapN l a < halfN l := by
  refine lt_append l ?_
  unfold markS
  repeat (first | (rw [List.cons_append, List.cons_lt_cons_iff]; refine .inr ⟨rfl, ?_⟩) | (rw [List.cons_append, List.cons_lt_cons_iff]; exact .inl (by decide)))

/-! ## what the library reads of such a name -/
def noMark (f : Nm) : Prop := Lib.cut f markS = (f, [], false)
theorem noMark_of {f : Nm} (h : Lib.index f markS = -1) : noMark f := by
  unfold noMark Lib.cut
  rw [h, if_neg (by decide)]
theorem index_no {c : UInt8} : ∀ {f sub : Nm}, c ∈ sub → c ∉ f → Lib.index f sub = -1
  | [], sub, h, _ => by
    unfold Lib.index
    rw [if_neg]
    intro h0
    have : sub = [] := by simpa using h0
    rw [this] at h
    cases h
  | b :: l, sub, h, hf => by
    have ih := index_no (f := l) h (fun hh => hf (by simp [hh]))
    unfold Lib.index
    rw [ih, if_neg]
    · rfl
    · intro hp
      rw [List.isPrefixOf_iff_prefix] at hp
      exact hf (hp.subset h)
theorem noMark_seg (n : Nat) : noMark (segN lM n) := by
  refine noMark_of (index_no (c := 115) (by decide) fun h => ?_)
  unfold segN at h
  rcases List.mem_append.1 h with h | h
  · exact absurd h (by decide)
  · rcases List.mem_cons.1 h with h | h
    · exact absurd h (by decide)
    · have := dig_chars 12 n 115 h
      have e : (115 : UInt8).toNat = 115 := rfl
      omega
theorem noMark_half : noMark (halfN lM) := by unfold noMark; decide
theorem cut_snap (n : Nat) : Lib.cut (snapN lM n) markS = (lM, dig 12 n, true) := by
  have h : Lib.index (snapN lM n) markS = 1 := by
    show Lib.index (109 :: (markS ++ dig 12 n)) markS = 1
    have h0 : Lib.index (markS ++ dig 12 n) markS = 0 := by
      show Lib.index (45 :: ([115, 110, 97, 112, 45] ++ dig 12 n)) markS = 0
      unfold Lib.index
      rw [if_pos]
      rw [List.isPrefixOf_iff_prefix]
      exact ⟨dig 12 n, rfl⟩
    unfold Lib.index
    rw [h0, if_neg (by intro h; cases h)]
    rfl
  unfold Lib.cut
  rw [h, if_pos (by decide)]
  refine Prod.ext rfl (Prod.ext ?_ rfl)
  show (snapN lM n).drop 7 = _
  rfl
theorem rdg_ge : ∀ (l : Nm) (a y : Nat), rdg a l = some y → a ≤ y
  | [], a, y, h => by
    simp only [rdg, Option.some.injEq] at h
    omega
  | c :: r, a, y, h => by
    unfold rdg at h
    split at h
    · have := rdg_ge r _ y h
      omega
    · cases h
theorem parse_rdg : ∀ (l : Nm) (a y : Nat), y ≤ maxNo → rdg a l = some y → Lib.parseUintM (2 ^ 64 - 1) a l = .ok y
  | [], a, y, _, h => by
    simp only [rdg, Option.some.injEq] at h
    subst h
    rfl
  | c :: r, a, y, hy, h => by
    unfold rdg at h
    split at h
    · rename_i hc
      have h1 := rdg_ge r _ y h
      unfold maxNo at hy
      unfold Lib.parseUintM
      rw [if_pos hc, if_neg (by omega), if_neg (by omega)]
      exact parse_rdg r _ y hy h
    · cases h
theorem parse_twelve {n : Nat} (h : n ≤ maxNo) : Lib.parseUintB 64 (dig 12 n) = .ok n := by
  unfold Lib.parseUintB
  rw [if_neg]
  · refine parse_rdg _ 0 n h ?_
    rw [rdg_dig 12 n 0 (by unfold maxNo at h; omega), Nat.zero_mul, Nat.zero_add]
  · intro h0
    have := dig_length 12 n
    rw [h0] at this
    cases this
end Go.Proofs.YtbobakfcmkaijaaGreatDoor
end

section
/- The plain mathematics of the checksum: one bit's step is linear and loses nothing; many steps; sums over bytes. No condition. -/
namespace Go.Proofs.YtbobakfcmkaijaaGreatDoor
set_option linter.unusedVariables false

/-- One bit's step. -/
def stp (s : Nat) : Nat := s / 2 ^^^ (if s % 2 = 1 then 3988292384 else 0)

theorem xlt {a b : Nat} (ha : a < 4294967296) (hb : b < 4294967296) : a ^^^ b < 4294967296 := Nat.xor_lt_two_pow (n := 32) ha hb

theorem xor_cancel (a b : Nat) : a ^^^ (a ^^^ b) = b := by rw [← Nat.xor_assoc, Nat.xor_self, Nat.zero_xor]

theorem stp_lt {s : Nat} (h : s < 4294967296) : stp s < 4294967296 := by
  unfold stp
  refine xlt (by omega) ?_
  split <;> omega

theorem xor_half (a b : Nat) : (a ^^^ b) / 2 = a / 2 ^^^ b / 2 := by
  have := Nat.shiftRight_xor_distrib (a := a) (b := b) (i := 1)
  simpa [Nat.shiftRight_eq_div_pow] using this

theorem xor_odd (a b : Nat) : (a ^^^ b) % 2 = (a % 2 + b % 2) % 2 := by
  have h := Nat.testBit_xor a b 0
  simp only [Nat.testBit_zero] at h
  rcases Nat.mod_two_eq_zero_or_one a with ha | ha <;> rcases Nat.mod_two_eq_zero_or_one b with hb | hb <;> rcases Nat.mod_two_eq_zero_or_one (a ^^^ b) with hc | hc <;> simp_all

theorem stp_xor (a b : Nat) : stp (a ^^^ b) = stp a ^^^ stp b := by
  unfold stp
  rw [xor_half, xor_odd]
  rcases Nat.mod_two_eq_zero_or_one a with ha | ha <;> rcases Nat.mod_two_eq_zero_or_one b with hb | hb <;> simp only [ha, hb]
  · simp
  · simp [Nat.xor_assoc]
  · simp only [↓reduceIte, Nat.xor_zero, Nat.zero_ne_one]
    rw [Nat.xor_assoc, Nat.xor_comm (b / 2), ← Nat.xor_assoc]
  · simp only [Nat.reduceAdd, Nat.reduceMod, ↓reduceIte, Nat.zero_ne_one, Nat.xor_zero]
    rw [Nat.xor_comm (b / 2), Nat.xor_assoc, ← Nat.xor_assoc 3988292384, Nat.xor_self, Nat.zero_xor]

theorem stp_zero : stp 0 = 0 := by decide

theorem stp_inj {s : Nat} (h : s < 4294967296) (h0 : stp s = 0) : s = 0 := by
  unfold stp at h0
  rcases Nat.mod_two_eq_zero_or_one s with hs | hs
  · simp [hs] at h0
    omega
  · simp only [hs, ↓reduceIte] at h0
    have e : s / 2 = 3988292384 := by
      have := congrArg (· ^^^ 3988292384) h0
      simpa [Nat.xor_assoc] using this
    omega

/-- Many steps. -/
def its : Nat → Nat → Nat
  | 0, s => s
  | k + 1, s => its k (stp s)

theorem its_lt (k : Nat) : ∀ {s : Nat}, s < 4294967296 → its k s < 4294967296 := by
  induction k with
  | zero => intro s h; exact h
  | succ k ih => intro s h; exact ih (stp_lt h)

theorem its_xor (k : Nat) : ∀ a b : Nat, its k (a ^^^ b) = its k a ^^^ its k b := by
  induction k with
  | zero => intro a b; rfl
  | succ k ih => intro a b; simp only [its, stp_xor, ih]

theorem its_zero (k : Nat) : its k 0 = 0 := by
  induction k with
  | zero => rfl
  | succ k ih => simp only [its, stp_zero, ih]

theorem its_add (k j : Nat) : ∀ s, its (k + j) s = its j (its k s) := by
  induction k with
  | zero => intro s; simp [its]
  | succ k ih => intro s; rw [show k + 1 + j = (k + j) + 1 by omega]; simp only [its, ih]

theorem its_stp (k s : Nat) : its k (stp s) = stp (its k s) := by
  rw [show its k (stp s) = its (k + 1) s from rfl, its_add k 1]
  rfl

theorem its_next (k s : Nat) : its (k + 1) s = stp (its k s) := by rw [its_add k 1]; rfl

theorem its_inj (k : Nat) : ∀ {s : Nat}, s < 4294967296 → its k s = 0 → s = 0 := by
  induction k with
  | zero => intro s _ h; exact h
  | succ k ih => intro s h h0; exact stp_inj h (ih (stp_lt h) h0)

/-- A bit of a number goes down by one place a step, as long as there is room below. -/
theorem its_pow (k : Nat) : ∀ j : Nat, its k (2 ^ (j + k)) = 2 ^ j := by
  induction k with
  | zero => intro j; rfl
  | succ k ih =>
    intro j
    have : stp (2 ^ (j + (k + 1))) = 2 ^ (j + k) := by
      unfold stp
      rw [show j + (k + 1) = (j + k) + 1 by omega, Nat.pow_succ]
      simp
    simp only [its, this, ih]

/-- The bits of s below n, each with what stands for it. -/
def cpart (f : Nat → Nat) (s : Nat) : Nat → Nat
  | 0 => 0
  | n + 1 => cpart f s n ^^^ (if s / 2 ^ n % 2 = 1 then f n else 0)

theorem part_lt {f : Nat → Nat} (hf : ∀ j, f j < 4294967296) (s n : Nat) : cpart f s n < 4294967296 := by
  induction n with
  | zero => exact (by decide : (0 : Nat) < 4294967296)
  | succ n ih =>
    unfold cpart
    refine xlt ih ?_
    split
    · exact hf n
    · omega

theorem its_part (k : Nat) (f : Nat → Nat) (s n : Nat) : its k (cpart f s n) = cpart (fun j => its k (f j)) s n := by
  induction n with
  | zero => exact its_zero k
  | succ n ih =>
    unfold cpart
    rw [its_xor, ih]
    split
    · rfl
    · rw [its_zero]

theorem part_congr {f g : Nat → Nat} {s : Nat} : ∀ {n : Nat}, (∀ j, j < n → f j = g j) → cpart f s n = cpart g s n
  | 0, _ => rfl
  | n + 1, h => by
    unfold cpart
    rw [part_congr (n := n) (fun j hj => h j (by omega)), h n (by omega)]

theorem part_pow (s n : Nat) : cpart (fun j => 2 ^ j) s n = s % 2 ^ n := by
  induction n with
  | zero => simp [cpart, Nat.mod_one]
  | succ n ih =>
    unfold cpart
    rw [ih]
    apply Nat.eq_of_testBit_eq
    intro i
    rw [Nat.testBit_xor, Nat.testBit_mod_two_pow, Nat.testBit_mod_two_pow]
    have hb : s / 2 ^ n % 2 = 1 ↔ s.testBit n = true := by
      rw [Nat.testBit_eq_decide_div_mod_eq]
      simp
    by_cases hs : s.testBit n = true
    · rw [if_pos (hb.2 hs), Nat.testBit_two_pow]
      rcases Nat.lt_trichotomy i n with h | h | h
      · have : ¬ n = i := by omega
        have h2 : i < n + 1 := by omega
        simp [h, h2, this]
      · subst h
        simp [hs]
      · have h1 : ¬ i < n := by omega
        have h2 : ¬ i < n + 1 := by omega
        have h3 : ¬ n = i := by omega
        simp [h1, h2, h3]
    · rw [if_neg (fun h => hs (hb.1 h)), Nat.zero_testBit]
      rcases Nat.lt_trichotomy i n with h | h | h
      · have h2 : i < n + 1 := by omega
        simp [h, h2]
      · subst h
        simp [hs]
      · have h1 : ¬ i < n := by omega
        have h2 : ¬ i < n + 1 := by omega
        simp [h1, h2]

/-- The step that makes b of the highest bit, done to s. -/
def prod (s b : Nat) : Nat := cpart (fun j => its (31 - j) b) s 32

theorem prod_lt (s : Nat) {b : Nat} (hb : b < 4294967296) : prod s b < 4294967296 := part_lt (fun j => its_lt _ hb) s 32

/-- The highest bit's own step is none; so the step that makes what k steps make of it is k steps. -/
theorem prod_its (k s : Nat) (hs : s < 4294967296) : prod s (its k 2147483648) = its k s := by
  have h0 : prod s 2147483648 = s := by
    unfold prod
    rw [part_congr (g := fun j => 2 ^ j) (fun j hj => by
      have := its_pow (31 - j) j
      rw [show j + (31 - j) = 31 by omega] at this
      exact this), part_pow]
    exact Nat.mod_eq_of_lt hs
  conv => rhs; rw [← h0]
  unfold prod
  rw [its_part]
  refine part_congr (fun j hj => ?_)
  rw [← its_add, ← its_add, Nat.add_comm]

/-- All 32 bits turned. -/
def com (s : Nat) : Nat := 4294967295 - s
theorem com_lt (s : Nat) : com s < 4294967296 := by unfold com; omega
theorem com_xor {s : Nat} (h : s < 4294967296) : com s = 4294967295 ^^^ s := by
  unfold com
  apply Nat.eq_of_testBit_eq
  intro i
  rw [show 4294967295 - s = 2 ^ 32 - (s + 1) by omega, Nat.testBit_two_pow_sub_succ (by omega), Nat.testBit_xor,
    show (4294967295 : Nat) = 2 ^ 32 - 1 by rfl, Nat.testBit_two_pow_sub_one]
  by_cases hi : i < 32
  · simp [hi]
  · have : s.testBit i = false := Nat.testBit_lt_two_pow (Nat.lt_of_lt_of_le h (show (2 : Nat) ^ 32 ≤ 2 ^ i from Nat.pow_le_pow_right (by decide) (by omega)))
    simp [hi, this]
theorem com_com {s : Nat} (h : s < 4294967296) : com (com s) = s := by unfold com; omega

/-- The sum over bytes, its bits not turned at either end. -/
def fld (s : Nat) (zs : List Int) : Nat := zs.foldl (fun x z => its 8 (x ^^^ z.toNat)) s

theorem fld_lt : ∀ {zs : List Int} {s : Nat}, Byt zs → s < 4294967296 → fld s zs < 4294967296
  | [], _, _, h => h
  | z :: r, s, hz, h => by
    have := hz z (by simp)
    exact fld_lt (zs := r) (fun x hx => hz x (by simp [hx])) (its_lt 8 (xlt h (by omega)))

theorem fld_append (s : Nat) (a b : List Int) : fld s (a ++ b) = fld (fld s a) b := by unfold fld; rw [List.foldl_append]

theorem fld_snoc (s : Nat) (a : List Int) (z : Int) : fld s (a ++ [z]) = its 8 (fld s a ^^^ z.toNat) := by rw [fld_append]; rfl

theorem fld_xor : ∀ (zs : List Int) (s t : Nat), fld (s ^^^ t) zs = fld s zs ^^^ its (8 * zs.length) t
  | [], s, t => rfl
  | z :: r, s, t => by
    have e : s ^^^ t ^^^ z.toNat = (s ^^^ z.toNat) ^^^ t := by rw [Nat.xor_assoc, Nat.xor_comm t, ← Nat.xor_assoc]
    show fld (its 8 (s ^^^ t ^^^ z.toNat)) r = fld (its 8 (s ^^^ z.toNat)) r ^^^ _
    rw [e, its_xor, fld_xor r, ← its_add, List.length_cons, show 8 + 8 * r.length = 8 * (r.length + 1) by omega]

theorem fld_zeros (n s : Nat) : fld s (List.replicate n 0) = its (8 * n) s := by
  induction n generalizing s with
  | zero => rfl
  | succ n ih =>
    rw [List.replicate_succ, show 8 * (n + 1) = 8 + 8 * n by omega, its_add, ← ih]
    show fld (its 8 (s ^^^ (0 : Int).toNat)) _ = _
    simp

/-- What one changed byte does. -/
theorem fld_change (s : Nat) (p q : List Int) (o c : Int) :
    fld s (p ++ c :: q) = fld s (p ++ o :: q) ^^^ its (8 * q.length) (its 8 (o.toNat ^^^ c.toNat)) := by
  rw [fld_append, fld_append]
  show fld (its 8 (fld s p ^^^ c.toNat)) q = fld (its 8 (fld s p ^^^ o.toNat)) q ^^^ _
  rw [← fld_xor, ← its_xor]
  congr 2
  rw [Nat.xor_assoc, xor_cancel]

theorem fld_set (s : Nat) (zs : List Int) (i : Nat) (hi : i < zs.length) (c : Int) :
    fld s (zs.set i c) = fld s zs ^^^ its (8 * (zs.length - 1 - i)) (its 8 ((zs.getD i 0).toNat ^^^ c.toNat)) := by
  have e : zs = zs.take i ++ zs[i] :: zs.drop (i + 1) := by
    rw [← List.drop_eq_getElem_cons hi, List.take_append_drop]
  have e2 : zs.set i c = zs.take i ++ c :: zs.drop (i + 1) := by
    rw [List.set_eq_take_append_cons_drop, if_pos hi]
  have hg : zs.getD i 0 = zs[i] := by simp [List.getD, hi]
  rw [e2, hg]
  have h := fld_change s (zs.take i) (zs.drop (i + 1)) zs[i] c
  rw [← e] at h
  rw [h, List.length_drop, show zs.length - (i + 1) = zs.length - 1 - i by omega]

/-- The checksum of bytes behind a sum. -/
def mor (s : Nat) (zs : List Int) : Nat := com (fld (com s) zs)

theorem mor_lt (s : Nat) (zs : List Int) : mor s zs < 4294967296 := com_lt _

theorem mor_append {s : Nat} {a : List Int} (ha : Byt a) (b : List Int) : mor s (a ++ b) = mor (mor s a) b := by
  unfold mor
  rw [fld_append, com_com (fld_lt ha (com_lt _))]

/-- The sum of two pieces, told by their own sums. -/
theorem mor_join {s : Nat} (hs : s < 4294967296) {b : List Int} (hb : Byt b) : mor s b = its (8 * b.length) s ^^^ mor 0 b := by
  unfold mor
  have h0 : com 0 = 4294967295 := rfl
  rw [h0, com_xor (fld_lt hb (com_lt _)), com_xor (fld_lt hb (by omega)), com_xor hs, fld_xor, Nat.xor_comm (its _ _), Nat.xor_assoc]

theorem mor_zeros (s n : Nat) : mor s (List.replicate n 0) = com (its (8 * n) (com s)) := by
  unfold mor
  rw [fld_zeros]

theorem mor_set {s : Nat} {zs : List Int} (hz : Byt zs) (i : Nat) (hi : i < zs.length) {c : Int} (hc : 0 ≤ c ∧ c ≤ 255) :
    mor s (zs.set i c) = mor s zs ^^^ its (8 * (zs.length - 1 - i)) (its 8 ((zs.getD i 0).toNat ^^^ c.toNat)) := by
  have hz' : Byt (zs.set i c) := by
    intro z h
    rcases List.mem_or_eq_of_mem_set h with h | h
    · exact hz z h
    · subst h; exact hc
  unfold mor
  rw [com_xor (fld_lt hz' (com_lt _)), com_xor (fld_lt hz (com_lt _)), fld_set _ _ _ hi, Nat.xor_assoc]

/-- One byte's sum and another's differ as the bytes do. -/
theorem mor_two {x y : Int} (hx : 0 ≤ x ∧ x ≤ 255) (hy : 0 ≤ y ∧ y ≤ 255) : mor 0 [x] ^^^ mor 0 [y] = its 8 (x.toNat ^^^ y.toNat) := by
  have h := mor_set (s := 0) (zs := [x]) (fun z hz => by simp at hz; subst hz; exact hx) 0 (by simp) hy
  have h0 : its (8 * ([x].length - 1 - 0)) (its 8 (([x].getD 0 0).toNat ^^^ y.toNat)) = its 8 (x.toNat ^^^ y.toNat) := rfl
  rw [h0] at h
  rw [show mor 0 [y] = mor 0 ([x].set 0 y) from rfl, h, xor_cancel]

end Go.Proofs.YtbobakfcmkaijaaGreatDoor
end

section
/- The walks over one bit's step: the program's halved, the document's times: both are the plain step. No condition. -/
namespace Go.Proofs.YtbobakfcmkaijaaGreatDoor
open Go.RowKit
set_option linter.unusedVariables false

theorem mask1 (s : Nat) (h : s < 4294967296) : bits .and .u32 (s : Int) 1 = ((s % 2 : Nat) : Int) := by
  rw [show (1 : Int) = ((1 : Nat) : Int) by rfl, u32_and_nat s 1 h (by decide), Nat.and_one_is_mod]

theorem bit_key (s k : Nat) (h : s < 4294967296) : bits .and .u32 ((s : Int) / 2 ^ k) 1 = ((s / 2 ^ k % 2 : Nat) : Int) := by
  have e : (s : Int) / 2 ^ k = ((s / 2 ^ k : Nat) : Int) := by
    rw [Int.natCast_ediv, Int.natCast_pow]
    rfl
  rw [e]
  exact mask1 _ (Nat.lt_of_le_of_lt (Nat.div_le_self _ _) h)

theorem halved_key (s : Nat) (h : s < 4294967296) :
    bits .xor .u32 ((s : Int) / 2) (bits .and .u32 (-((s : Int) % 2) % 4294967296) 3988292384) = ((stp s : Nat) : Int) := by
  unfold stp
  rcases Nat.mod_two_eq_zero_or_one s with hs | hs
  · rw [hs, show (s : Int) % 2 = 0 by omega, show bits .and .u32 (-0 % 4294967296) 3988292384 = ((0 : Nat) : Int) by decide, show (s : Int) / 2 = ((s / 2 : Nat) : Int) by omega, u32_xor_nat _ _ (by omega) (by decide)]
    rfl
  · rw [hs, show (s : Int) % 2 = 1 by omega, show bits .and .u32 (-1 % 4294967296) 3988292384 = ((3988292384 : Nat) : Int) by decide, show (s : Int) / 2 = ((s / 2 : Nat) : Int) by omega, u32_xor_nat _ _ (by omega) (by decide)]
    rfl

theorem halved_any (s : Nat) (w : World) (h : s < 4294967296) :
    Calls Tryz.prog 107 #[.int .u32 s] w fun e w' => e = .returned (.int .u32 (stp s)) ∧ w' = w := by
  have h1 := mask1 s h
  have h2 := halved_key s h
  go_enter Tryz.func107, Tryz.ntmps107
  go_wp2_with (simp only [h1])
  go_ret
  exact ⟨rfl, rfl⟩

end Go.Proofs.YtbobakfcmkaijaaGreatDoor
end
