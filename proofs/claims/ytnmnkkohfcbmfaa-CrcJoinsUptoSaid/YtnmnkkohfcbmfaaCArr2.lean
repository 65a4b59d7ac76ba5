/- The walks over the program's squares and stepped: so many bytes 0 are so many steps. No condition but that the numbers are of their types. -/
import Derived.Test.YtnmnkkohfcbmfaaCArr
namespace Go.Proofs.Ytnmnkkohfcbmfaa
open Go.RowKit
set_option linter.unusedVariables false

/-- The step over 2^j bytes 0, as its 32 words. -/
def sq (j : Nat) : List Value := mat (its (8 * 2 ^ j) 2147483648)

/-- The first c of the steps lie side by side. -/
def Sqs (L : List Value) (c : Nat) : Prop := ∀ j, j < c → ∀ i, i < 32 → L[j * 32 + i]? = (sq j)[i]?

theorem sq_next (j : Nat) : mat (prod (its (8 * 2 ^ j) 2147483648) (its (8 * 2 ^ j) 2147483648)) = sq (j + 1) := by
  unfold sq
  rw [prod_its _ _ (its_lt _ (by decide)), ← its_add, show 8 * 2 ^ j + 8 * 2 ^ j = 8 * 2 ^ (j + 1) by rw [Nat.pow_succ]; omega]

theorem sq_zero : mat 8388608 = sq 0 := by
  unfold sq
  rw [show 8 * 2 ^ 0 = 8 by rfl, show its 8 2147483648 = 8388608 from its_pow 8 23]

theorem sq_length (j : Nat) : (sq j).length = 32 := mat_length _

/-- The block of 32 words that is laid in, and what stands beside it. -/
theorem lay_get (L M : List Value) (k : Nat) (hL : k + M.length ≤ L.length) (i : Nat) :
    (L.take k ++ (M ++ L.drop (k + M.length)))[i]? = if k ≤ i ∧ i < k + M.length then M[i - k]? else L[i]? := by
  have hk : (L.take k).length = k := by rw [List.length_take]; omega
  by_cases h1 : i < k
  · rw [List.getElem?_append_left (by omega), if_neg (by omega), List.getElem?_take, if_pos h1]
  · rw [List.getElem?_append_right (by omega), hk]
    by_cases h2 : i < k + M.length
    · rw [if_pos (by omega), List.getElem?_append_left (by omega)]
    · rw [if_neg (by omega), List.getElem?_append_right (by omega), List.getElem?_drop]
      congr 1
      omega

theorem lay_length (L M : List Value) (k : Nat) (hL : k + M.length ≤ L.length) : (L.take k ++ (M ++ L.drop (k + M.length))).length = L.length := by
  simp only [List.length_append, List.length_take, List.length_drop]
  omega

theorem Sqs.lay {L : List Value} {c : Nat} (h : Sqs L c) (hL : c * 32 + 32 ≤ L.length) : Sqs (L.take (c * 32) ++ (sq c ++ L.drop (c * 32 + (sq c).length))) (c + 1) := by
  intro j hj i hi
  rw [lay_get _ _ _ (by rw [sq_length]; exact hL), sq_length]
  by_cases he : j = c
  · subst he
    rw [if_pos (by omega), Nat.add_sub_cancel_left]
  · rw [if_neg (by omega)]
    exact h j (by omega) i hi

theorem lay_one {L M : List Value} {k : Nat} (hL : ∀ v ∈ L, v.oneCell' = true) (hM : ∀ v ∈ M, v.oneCell' = true) : ∀ v ∈ L.take k ++ (M ++ L.drop (k + M.length)), v.oneCell' = true := by
  intro v hv
  rcases List.mem_append.1 hv with h | h
  · exact hL v (List.mem_of_mem_take h)
  · rcases List.mem_append.1 h with h | h
    · exact hM v h
    · exact hL v (List.mem_of_mem_drop h)

def zero2016 : List Value := List.replicate 2016 (.int .u32 0)
theorem info48' : (Try.prog.info? 48).map (fun i => (i.zero, i.size)) = some (some (.agg zero2016.toArray), 2016) := by kernel_rfl

set_option maxHeartbeats 1600000 in
theorem squares_any (count : Nat) (w : World) (hc : count ≤ 63) :
    Calls Try.prog 29 #[.int .i64 count] w fun e w' => ∃ L : List Value, e = .returned (.agg L.toArray) ∧ L.length = 2016 ∧ Sqs L count ∧ (∀ v ∈ L, v.oneCell' = true) ∧ Below w.heap.size w w' := by
  have hz : zero2016.length = 2016 := List.length_replicate
  have hz1 : ∀ v ∈ zero2016, v.oneCell' = true := by
    intro v hv
    rw [List.eq_of_mem_replicate hv]
    rfl
  generalize hZ : zero2016 = Z at *
  have hi48 : (Try.prog.info? 48).map (fun i => (i.zero, i.size)) = some (some (.agg Z.toArray), 2016) := by rw [← hZ]; exact info48'
  have HI := Lib.hid hi48
  have HZ := Lib.hid hz
  have HZ1 := Lib.hid hz1
  clear hZ hz hz1 hi48
  have hw2 := (Whole.new w 48 Z.toArray).alloc (.cells Z.toArray 48)
  have hw3 := Whole.new (w.alloc (.cells Z.toArray 48)) 48 Z.toArray
  simp only [World.size_alloc] at hw3
  have hb3 : Below w.heap.size w ((w.alloc (.cells Z.toArray 48)).alloc (.cells Z.toArray 48)) := ((Below.refl _ _).alloc (Nat.le_refl _) _).alloc (by simp) _
  have hs3 : w.heap.size + 1 < ((w.alloc (.cells Z.toArray 48)).alloc (.cells Z.toArray 48)).heap.size := by simp
  have HW2 := Lib.hid hw2
  have HW3 := Lib.hid hw3
  have HB3 := Lib.hid hb3
  clear hw2 hw3 hb3
  go_enter Try.func29, Try.ntmps29
  go_wp2_with (refine wpList_alloc_row _ rfl 48 rfl Z 2016 HI.out ?_)
  generalize ((w.alloc (.cells Z.toArray 48)).alloc (.cells Z.toArray 48)) = w3 at *
  refine (stepWith_any 8388608 w3 (by decide)).mono ?_
  rintro e w4 ⟨rfl, hb4⟩
  have hw4 := HW3.out.below hb4 hs3
  have hv4 := HW2.out.below hb4 (by omega)
  have hbb4 := HB3.out.trans (hb4.mono HB3.out.size)
  rw [sq_zero]
  have h0l := sq_length 0
  have h01 : ∀ v ∈ sq 0, v.oneCell' = true := mat_one _
  have hS1 := Lib.hid (Sqs.lay (L := Z) (c := 0) (fun j hj => by omega) (by rw [HZ.out]; decide))
  have hL1 := Lib.hid (lay_length Z (sq 0) (0 * 32) (by rw [HZ.out, h0l]; decide))
  generalize hS0 : sq 0 = S0 at *
  have HS0 := Lib.hid hS0
  clear hS0
  go_wp2_with (refine wpList_store_row _ rfl 47 _ _ rfl 32 size47 (w.heap.size + 1) 0 48 Z S0 rfl rfl hw4 h0l (by rw [HZ.out]; decide) h01 ?_; intro w5 hw5 hb5 hk5)
  have HO1 := Lib.hid (lay_one (k := 0 * 32) HZ1.out h01)
  rw [show (0 : Nat) = 0 * 32 by rfl] at hw5
  have hbb5 := hb5 _ _ hbb4 (by omega)
  have hv5 := hk5 _ _ _ (by omega) hv4
  clear hb5 hk5 hw4 hv4 hbb4 hb4
  generalize hL5 : Z.take (0 * 32) ++ (S0 ++ Z.drop (0 * 32 + S0.length)) = L5 at *
  clear hL5
  go_loopw [4] (fun s wr => ∃ (i : Nat) (L : List Value), 1 ≤ i ∧ i ≤ 63 ∧ s = .int .i64 i ∧ L.length = 2016 ∧ Sqs L i ∧ (∀ v ∈ L, v.oneCell' = true) ∧ Whole wr (w.heap.size + 1) 48 L.toArray ∧ Whole wr w.heap.size 48 Z.toArray ∧ Below w.heap.size w wr ∧ w.heap.size + 1 < wr.heap.size) (fun s _ => 63 - (intOf s).toNat)
  case atStart => exact ⟨1, L5, by omega, by omega, rfl, by rw [hL1.out, HZ.out], hS1.out, HO1.out, hw5, hv5, hbb5, hw5.lt⟩
  case round =>
    obtain ⟨i, L, hi1, hi63, rfl, hL, hS, hO, hw, hv, hb, hsz⟩ := hrel
    have HL := Lib.hid hL
    have HS := Lib.hid hS
    have HO := Lib.hid hO
    have HW := Lib.hid hw
    have HV := Lib.hid hv
    have HB := Lib.hid hb
    clear hL hS hO hv hb hw5 hv5 hbb5
    by_cases hlt : i < count
    · have hM : (sq (i - 1)).length = 32 := sq_length _
      have hget : ∀ j v, (sq (i - 1))[j]? = some v → L.toArray[(i - 1) * 32 + j]? = some v := by
        intro j v hj
        have hj32 : j < 32 := by
          have := (List.getElem?_eq_some_iff.1 hj).1
          rw [hM] at this
          exact this
        rw [List.getElem?_toArray, HS.out (i - 1) (by omega) j hj32]
        exact hj
      have hnx := sq_next (i - 1)
      rw [show i - 1 + 1 = i by omega] at hnx
      have hmt : sq (i - 1) = mat (its (8 * 2 ^ (i - 1)) 2147483648) := rfl
      have HMT := Lib.hid hmt
      have HNX := Lib.hid hnx
      clear hmt hnx
      have hki : ((i : Int) - 1).toNat = i - 1 := by omega
      have hnn : (0 : Int) ≤ (i : Int) - 1 := by omega
      have h63 : (i : Int) - 1 < 63 := by omega
      generalize hM' : sq (i - 1) = M at *
      clear hM'
      go_wp2_with (first | simp only [hki] | (refine wpList_load_row _ rfl 47 _ rfl 32 22 Try.underlying47 32 size47 (w.heap.size + 1) ((i - 1) * 32) 48 L.toArray M rfl hw hM hget ?_))
      rw [HMT.out]
      have hl : its (8 * 2 ^ (i - 1)) 2147483648 < 4294967296 := its_lt _ (by decide)
      refine (squared_any _ wr hl).mono ?_
      rintro e w6 ⟨rfl, hb6⟩
      have hw6 := HW.out.below hb6 hsz
      have hv6 := HV.out.below hb6 (by omega)
      have hbb6 := HB.out.trans (hb6.mono HB.out.size)
      rw [HNX.out]
      have hN := sq_length i
      have hN1 : ∀ v ∈ sq i, v.oneCell' = true := mat_one _
      have hSi := Lib.hid (HS.out.lay (by rw [HL.out]; omega))
      have hLi := Lib.hid (lay_length L (sq i) (i * 32) (by rw [HL.out, hN]; omega))
      have hOi := Lib.hid (lay_one (k := i * 32) HO.out hN1)
      clear hw hsz hget hM
      generalize hNe : sq i = N at *
      clear hNe
      go_wp2_with (refine wpList_store_row _ rfl 47 _ _ rfl 32 size47 (w.heap.size + 1) (i * 32) 48 L N rfl rfl hw6 hN (by rw [HL.out]; omega) hN1 ?_; intro w7 hw7 hb7 hk7)
      go_roundw
      case rel => exact ⟨i + 1, _, by omega, by omega, by go_num, by rw [hLi.out, HL.out], hSi.out, hOi.out, hw7, hk7 _ _ _ (by omega) hv6, hb7 _ _ hbb6 (by omega), hw7.lt⟩
      case measure => simp [intOf] <;> omega
    · have hv := HV.out
      have hLn := HL.out
      have hO1 := HO.out
      go_wp2_with (first
        | (refine wpList_load_row _ rfl 48 _ rfl 63 47 Try.underlying48 2016 size48 (w.heap.size + 1) 0 48 L.toArray L rfl hw hLn (fun j v h => by simpa using h) ?_)
        | (refine wpList_store_row _ rfl 48 _ _ rfl 2016 size48 w.heap.size 0 48 Z L rfl rfl hv hLn (by rw [HZ.out]; decide) hO1 ?_; intro w7 hw7 hb7 hk7))
      have hN2 : Z.take 0 ++ (L ++ Z.drop (0 + L.length)) = L := by
        rw [Nat.zero_add, List.drop_of_length_le (by rw [HZ.out, hLn]; exact Nat.le_refl _)]
        simp
      rw [hN2] at hw7
      refine bodyPost_ret (v := .agg L.toArray) (results_row rfl _ w7 63 47 Try.underlying48 2016 size48 w.heap.size 48 L rfl hw7 hLn) rfl ⟨L, rfl, hLn, fun j hj => HS.out j (by omega), hO1, hb7 _ _ HB.out (Nat.le_refl _)⟩

theorem bit_key64 (n k : Nat) (h : n ≤ 9223372036854775807) : bits .and .i64 ((n : Int) / 2 ^ k) 1 = ((n / 2 ^ k % 2 : Nat) : Int) := by
  have e : (n : Int) / 2 ^ k = ((n / 2 ^ k : Nat) : Int) := by
    rw [Int.natCast_ediv, Int.natCast_pow]
    rfl
  have hle : n / 2 ^ k ≤ n := Nat.div_le_self _ _
  rw [e]
  generalize n / 2 ^ k = m at *
  have h1 := (bits_nat .i64 63 (by decide) (fun n h0 h1 => by rw [IntKind.wrap_i64]; omega) m 1 (by omega) (by decide)).1
  rw [show (1 : Int) = ((1 : Nat) : Int) by rfl, h1, Nat.and_one_is_mod]

set_option maxHeartbeats 1600000 in
theorem stepped_any (s n : Nat) (w : World) (hs : s < 4294967296) (hn : n ≤ 9223372036854775807) :
    Calls Try.prog 23 #[.int .u32 s, .int .i64 n] w fun e w' => e = .returned (.int .u32 (its (8 * n) s)) ∧ Below w.heap.size w w' := by
  have hz : zero2016.length = 2016 := List.length_replicate
  generalize hZ : zero2016 = Z at *
  have hi48 : (Try.prog.info? 48).map (fun i => (i.zero, i.size)) = some (some (.agg Z.toArray), 2016) := by rw [← hZ]; exact info48'
  have HI := Lib.hid hi48
  have HZ := Lib.hid hz
  clear hZ hz hi48
  have hnn : (n : Int) ≤ 9223372036854775807 := by omega
  go_enter Try.func23, Try.ntmps23
  go_wp2_with fail
  refine (len_any n w hn).mono ?_
  rintro e w1 ⟨⟨c, rfl, hc, hnc⟩, rfl⟩
  have HC := Lib.hid hnc
  clear hnc
  go_wp2_with fail
  refine (squares_any c w1 hc).mono ?_
  rintro e w2 ⟨L, rfl, hL, hS, hO, hb2⟩
  have HL := Lib.hid hL
  have HS := Lib.hid hS
  have hw3 := Whole.new w2 48 Z.toArray
  have hb3 : Below w1.heap.size w1 (w2.alloc (.cells Z.toArray 48)) := hb2.alloc hb2.size _
  have hg : w1.heap.size ≤ w2.heap.size := hb2.size
  have hN2 : Z.take 0 ++ (L ++ Z.drop (0 + L.length)) = L := by
    rw [Nat.zero_add, List.drop_of_length_le (by rw [HZ.out, hL]; exact Nat.le_refl _)]
    simp
  clear hS hb2
  go_wp2_with (first
    | refine wpList_alloc_row _ rfl 48 rfl Z 2016 HI.out ?_
    | (refine wpList_store_row _ rfl 48 _ _ rfl 2016 size48 w2.heap.size 0 48 Z L rfl rfl hw3 hL (by rw [HZ.out]; decide) hO ?_; intro w7 hw7 hb7 hk7))
  rw [hN2] at hw7
  have hbb7 := hb7 _ _ hb3 hg
  clear hN2 hb7 hk7 hw3 hb3 hO hL
  go_loopw [0, 14] (fun x q wr => ∃ (i X : Nat), i ≤ c ∧ q = .int .i64 i ∧ x = .int .u32 X ∧ X = its (8 * (n % 2 ^ i)) s ∧ Whole wr w2.heap.size 48 L.toArray ∧ Below w1.heap.size w1 wr) (fun _ q _ => c - (intOf q).toNat)
  case atStart => exact ⟨0, s, by omega, rfl, rfl, by rw [Nat.pow_zero, Nat.mod_one]; rfl, hw7, hbb7⟩
  case round =>
    obtain ⟨i, X, hi, rfl, rfl, hX, hw, hb⟩ := hrel
    have hXl : X < 4294967296 := by rw [hX]; exact its_lt _ hs
    have HX := Lib.hid hX
    have HW := Lib.hid hw
    have HB := Lib.hid hb
    clear hX hw7 hbb7 hb
    by_cases hlt : i < c
    · have hm := bit_key64 n i hn
      have hmod : n % 2 ^ (i + 1) = n % 2 ^ i + 2 ^ i * (n / 2 ^ i % 2) := Nat.mod_pow_succ
      have HMOD := Lib.hid hmod
      clear hmod
      rcases Nat.mod_two_eq_zero_or_one (n / 2 ^ i) with hbit | hbit
      · rw [hbit] at hm
        have HBIT := Lib.hid hbit
        clear hbit
        go_wp2_with (simp only [hm])
        go_roundw
        case rel => exact ⟨i + 1, X, by omega, by go_num, rfl, by rw [HX.out, HMOD.out, HBIT.out]; rfl, HW.out, HB.out⟩
        case measure => simp [intOf] <;> omega
      · rw [hbit] at hm
        have HBIT := Lib.hid hbit
        clear hbit
        have hM : (sq i).length = 32 := sq_length _
        have hget : ∀ j v, (sq i)[j]? = some v → L.toArray[i * 32 + j]? = some v := by
          intro j v hj
          have hj32 : j < 32 := by
            have := (List.getElem?_eq_some_iff.1 hj).1
            rw [hM] at this
            exact this
          rw [List.getElem?_toArray, HS.out i (by omega) j hj32]
          exact hj
        have HMT := Lib.hid (show sq i = mat (its (8 * 2 ^ i) 2147483648) from rfl)
        have HP := Lib.hid (prod_its (8 * 2 ^ i) X hXl)
        have hl : its (8 * 2 ^ i) 2147483648 < 4294967296 := its_lt _ (by decide)
        generalize sq i = M at *
        go_wp2_with (first | simp only [hm] | (refine wpList_load_row _ rfl 47 _ rfl 32 22 Try.underlying47 32 size47 w2.heap.size (i * 32) 48 L.toArray M rfl hw hM hget ?_))
        rw [HMT.out]
        refine (of_any _ X wr hl hXl).mono ?_
        rintro e w6 ⟨rfl, hb6⟩
        have hw6 := HW.out.below hb6 (by have := HW.out.lt; omega)
        have hbb6 := HB.out.trans (hb6.mono HB.out.size)
        rw [HP.out]
        clear hw hget hM hm
        go_wp2
        go_roundw
        case rel =>
          refine ⟨i + 1, _, by omega, by go_num, rfl, ?_, hw6, hbb6⟩
          rw [HX.out, ← its_add, HMOD.out, HBIT.out, Nat.mul_one, Nat.mul_add]
        case measure => simp [intOf] <;> omega
    · obtain rfl : i = c := by omega
      have hfin : X = its (8 * n) s := by rw [HX.out, Nat.mod_eq_of_lt HC.out]
      go_wp2
      go_ret
      exact ⟨by rw [← hfin]; rfl, HB.out⟩

end Go.Proofs.Ytnmnkkohfcbmfaa
