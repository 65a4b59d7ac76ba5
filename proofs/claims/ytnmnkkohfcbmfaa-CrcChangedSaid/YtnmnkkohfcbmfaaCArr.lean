/- The walks over the program's steps over zeros, kept as arrays of 32 words. No condition but that the numbers are of their types. -/
import Derived.Test.YtnmnkkohfcbmfaaCMore
import Derived.Test.YtnmnkkohfcbmfaaCProd
import Derived.Test.YtnmnkkohfcbmfaaCLen
import Derived.Test.YtnmnkkohfcbmfaaRow
namespace Go.Proofs.Ytnmnkkohfcbmfaa
open Go.RowKit
set_option linter.unusedVariables false

/-- The step over zeros that makes last of the highest bit, as its 32 words. -/
def mat (last : Nat) : List Value := (List.range 32).map fun j => Value.int .u32 (its (31 - j) last : Nat)

theorem mat_length (last : Nat) : (mat last).length = 32 := by simp [mat]
theorem mat_get (last j : Nat) (h : j < 32) : (mat last)[j]? = some (.int .u32 (its (31 - j) last : Nat)) := by
  unfold mat
  rw [List.getElem?_map, List.getElem?_range h]
  rfl
theorem info47 : (Try.prog.info? 47).map (fun i => (i.zero, i.size)) = some (some (.agg (Array.replicate 32 (.int .u32 0))), 32) := by kernel_rfl

theorem size47 : (Try.prog.info? 47).map (·.size) = some 32 := by kernel_rfl
theorem size48 : (Try.prog.info? 48).map (·.size) = some 2016 := by kernel_rfl
theorem info48 : (Try.prog.info? 48).map (fun i => (i.zero, i.size)) = some (some (.agg (List.replicate 2016 (.int .u32 0)).toArray), 2016) := by kernel_rfl

theorem mask_key (x : Nat) (hx : x < 4294967296) (b : Nat) (hb : b < 2) : bits .and .u32 (x : Int) (-(b : Int) % 4294967296) = ((if b = 1 then x else 0 : Nat) : Int) := by
  rcases (show b = 0 ∨ b = 1 by omega) with rfl | rfl
  · rw [show (-((0 : Nat) : Int) % 4294967296) = ((0 : Nat) : Int) by decide, u32_and_nat _ _ hx (by decide), Nat.and_zero]
    rfl
  · rw [show (-((1 : Nat) : Int) % 4294967296) = ((4294967295 : Nat) : Int) by decide, u32_and_nat _ _ hx (by decide), show 4294967295 = 2 ^ 32 - 1 by rfl, Nat.and_two_pow_sub_one_eq_mod, Nat.mod_eq_of_lt hx]
    rfl

set_option maxHeartbeats 800000 in
theorem of_any (last s : Nat) (w : World) (hl : last < 4294967296) (hs : s < 4294967296) :
    Calls Try.prog 30 #[.agg (mat last).toArray, .int .u32 s] w fun e w' => e = .returned (.int .u32 (prod s last)) ∧ Below w.heap.size w w' := by
  have hsz := mat_length last
  have hw1 := Whole.new w 47 (mat last).toArray
  have hb1 : Below w.heap.size w (w.alloc (.cells (mat last).toArray 47)) := (Below.refl _ _).alloc (Nat.le_refl _) _
  generalize hM : mat last = M at *
  have HM := Lib.hid hM
  have HS := Lib.hid hsz
  clear hM hsz
  go_enter Try.func30, Try.ntmps30
  go_wp2_with (refine wpList_load_row _ rfl 47 _ rfl 32 22 Try.underlying47 32 size47 w.heap.size 0 47 M.toArray M rfl hw1 HS.out (fun j v h => by simpa using h) ?_)
  have hsg : IntKind.u32.signed = false := rfl
  go_loop [5, 9] (fun x i => ∃ (k X : Nat), k ≤ 32 ∧ i = .int .i64 k ∧ x = .int .u32 X ∧ X = part (fun j => its (31 - j) last) s k) (fun _ i => 32 - (intOf i).toNat)
  case atStart => exact ⟨0, 0, by omega, rfl, rfl, rfl⟩
  case round =>
    obtain ⟨k, X, hk, rfl, rfl, hX⟩ := hrel
    have hXl : X < 4294967296 := by rw [hX]; exact part_lt (fun j => its_lt _ hl) s k
    have HX := Lib.hid hX
    clear hX
    by_cases hlt : k < 32
    · have hget : M[k]? = some (.int .u32 (its (31 - k) last : Nat)) := by rw [← HM.out]; exact mat_get last k hlt
      have hget2 : M.toArray[k]? = some (.int .u32 (its (31 - k) last : Nat)) := by simpa using hget
      have hy : its (31 - k) last < 4294967296 := its_lt _ hl
      have hm := bit_key s k hs
      have HN := Lib.hid (show part (fun j => its (31 - j) last) s (k + 1) = X ^^^ (if s / 2 ^ k % 2 = 1 then its (31 - k) last else 0) by rw [HX.out]; rfl)
      generalize its (31 - k) last = Y at *
      have hbl : s / 2 ^ k % 2 < 2 := Nat.mod_lt _ (by decide)
      have hmk := mask_key Y hy _ hbl
      generalize s / 2 ^ k % 2 = b at *
      have hf : (if b = 1 then Y else 0) < 4294967296 := by split <;> omega
      have hxx := u32_xor_nat X _ hXl hf
      generalize (if b = 1 then Y else 0) = Z at *
      have hidx := run_index_word (P := Try.prog) (t := 47) M.toArray .i64 k _ Try.underlying47 hlt Try.sizeOf22 Try.isAgg22 hget2
      go_wp2_with (simp only [hm, hmk, hxx])
      go_round
      case rel => exact ⟨k + 1, _, by omega, by go_num, rfl, HN.out.symm⟩
      case measure => simp [intOf] <;> omega
    · obtain rfl : k = 32 := by omega
      go_wp2
      go_ret
      exact ⟨by rw [HX.out]; rfl, hb1⟩

def zero32 : List Value := List.replicate 32 (.int .u32 0)
theorem info47' : (Try.prog.info? 47).map (fun i => (i.zero, i.size)) = some (some (.agg zero32.toArray), 32) := by kernel_rfl

theorem mat_eq (last : Nat) (L : List Value) (hL : L.length = 32) (h : ∀ j, j < 32 → L[j]? = some (.int .u32 (its (31 - j) last : Nat))) : L = mat last := by
  apply List.ext_getElem?
  intro j
  by_cases hj : j < 32
  · rw [h j hj, mat_get last j hj]
  · rw [List.getElem?_eq_none (by omega), List.getElem?_eq_none (by rw [mat_length]; omega)]

set_option maxHeartbeats 1600000 in
theorem stepWith_any (last : Nat) (w : World) (hl : last < 4294967296) :
    Calls Try.prog 33 #[.int .u32 last] w fun e w' => e = .returned (.agg (mat last).toArray) ∧ Below w.heap.size w w' := by
  have hz : zero32.length = 32 := rfl
  have hz31 : zero32[31]? = some (.int .u32 0) := rfl
  have HZ := Lib.hid hz
  have hw2a := Whole.new w 47 zero32.toArray
  have hw2 := hw2a.alloc (.cells zero32.toArray 47)
  have hw3 := Whole.new (w.alloc (.cells zero32.toArray 47)) 47 zero32.toArray
  have hb3 : Below w.heap.size w ((w.alloc (.cells zero32.toArray 47)).alloc (.cells zero32.toArray 47)) := ((Below.refl _ _).alloc (Nat.le_refl _) _).alloc (by simp) _
  clear hz hw2a
  simp only [World.size_alloc] at hw3
  have hcell : ((w.alloc (.cells zero32.toArray 47)).alloc (.cells zero32.toArray 47)).cell? ⟨w.heap.size + 1, 31, none⟩ = some (.int .u32 0) := by
    rw [hw3.cell]
    simpa using hz31
  have hfr := hw3.frozen 31
  clear hz31
  generalize hZ : zero32 = Z at *
  have hi47 : (Try.prog.info? 47).map (fun i => (i.zero, i.size)) = some (some (.agg Z.toArray), 32) := by rw [← hZ]; exact info47'
  have HI := Lib.hid hi47
  clear hZ hi47
  clear hw2 hw3 hb3
  go_enter Try.func33, Try.ntmps33
  go_wp2_with (refine wpList_alloc_row _ rfl 47 rfl Z 32 HI.out ?_)
  have hL0 : (Z.set 31 (Value.int .u32 last)).length = 32 := by simpa using HZ.out
  have hw3 : Whole ((w.alloc (.cells Z.toArray 47)).alloc (.cells (Z.set 31 (Value.int .u32 last)).toArray 47)) (w.heap.size + 1) 47 (Z.set 31 (Value.int .u32 last)).toArray := by
    have := Whole.new (w.alloc (.cells Z.toArray 47)) 47 (Z.set 31 (Value.int .u32 last)).toArray
    simpa only [World.size_alloc] using this
  have hw2 := (Whole.new w 47 Z.toArray).alloc (.cells (Z.set 31 (Value.int .u32 last)).toArray 47)
  have hb3 : Below w.heap.size w ((w.alloc (.cells Z.toArray 47)).alloc (.cells (Z.set 31 (Value.int .u32 last)).toArray 47)) := ((Below.refl _ _).alloc (Nat.le_refl _) _).alloc (by simp) _
  have hg31 : (Z.set 31 (Value.int .u32 last))[31]? = some (.int .u32 last) := by simp [HZ.out]
  go_loopw [4] (fun i wr => ∃ (k : Nat) (L : List Value), k ≤ 31 ∧ i = .int .i64 k ∧ L.length = 32 ∧ (∀ j, k ≤ j → j < 32 → L[j]? = some (.int .u32 (its (31 - j) last : Nat))) ∧ Whole wr (w.heap.size + 1) 47 L.toArray ∧ Whole wr w.heap.size 47 Z.toArray ∧ Below w.heap.size w wr) (fun i _ => (intOf i).toNat)
  case atStart =>
    refine ⟨31, _, by omega, rfl, hL0, ?_, hw3, hw2, hb3⟩
    intro j h1 h2
    obtain rfl : j = 31 := by omega
    exact hg31
  case round =>
    obtain ⟨k, L, hk, rfl, hL, hall, hw, hwz, hb⟩ := hrel
    clear hL0 hw3 hw2 hb3 hg31 hcell hfr
    have HL := Lib.hid hL
    have HA := Lib.hid hall
    have HW := Lib.hid hw
    have HWZ := Lib.hid hwz
    have HB := Lib.hid hb
    clear hL hall hb
    by_cases h0 : 0 < k
    · have hc1 := hw.cell k
      rw [show L.toArray[k]? = some (.int .u32 (its (31 - k) last : Nat)) by simpa using HA.out k (Nat.le_refl _) (by omega)] at hc1
      have hy : its (31 - k) last < 4294967296 := its_lt _ hl
      have HY := Lib.hid (show stp (its (31 - k) last) = its (31 - (k - 1)) last by rw [← its_next, show 31 - k + 1 = 31 - (k - 1) by omega])
      generalize its (31 - k) last = Y at *
      have hc2 : ∃ v, wr.cell? ⟨w.heap.size + 1, k - 1, none⟩ = some v := by
        rw [hw.cell]
        exact ⟨L[k - 1]'(by have := HL.out; omega), by simp [show k - 1 < L.length by have := HL.out; omega]⟩
      obtain ⟨v, hc2⟩ := hc2
      have hf2 := hw.frozen (k - 1)
      have hkn : ((k : Int) - 1).toNat = k - 1 := by omega
      have hki : (k : Int) - 1 = ((k - 1 : Nat) : Int) := by omega
      clear hw hwz
      go_wp2_with fail
      refine (halved_any Y wr hy).mono ?_
      rintro e w1 ⟨rfl, rfl⟩
      go_wp2
      go_roundw
      case rel =>
        refine ⟨k - 1, L.set (k - 1) (.int .u32 (stp Y : Nat)), by omega, rfl, by rw [List.length_set]; exact HL.out, ?_, ?_, HWZ.out.far (by simp) _, HB.out.setCell (by simp) _⟩
        · intro j h1 h2
          rw [List.getElem?_set]
          by_cases hj : k - 1 = j
          · subst hj
            rw [if_pos rfl, if_pos (by rw [HL.out]; omega), HY.out]
          · rw [if_neg hj]
            exact HA.out j (by omega) h2
        · have := HW.out.put (k - 1) (.int .u32 (stp Y : Nat))
          rwa [List.setIfInBounds_toArray] at this
      case measure => simp [intOf] <;> omega
    · obtain rfl : k = 0 := by omega
      have hM := mat_eq last L HL.out (fun j hj => HA.out j (Nat.zero_le _) hj)
      have HM := Lib.hid hM
      have h1c : ∀ v ∈ L, v.oneCell' = true := by
        intro v hv
        rw [hM] at hv
        simp only [mat, List.mem_map] at hv
        obtain ⟨j, _, rfl⟩ := hv
        rfl
      have HO := Lib.hid h1c
      clear hM h1c
      go_wp2_with (first
        | refine wpList_load_row _ rfl 47 _ rfl 32 22 Try.underlying47 32 size47 (w.heap.size + 1) 0 47 L.toArray L rfl hw HL.out (fun j v h => by simpa using h) ?_
        | (refine wpList_store_row _ rfl 47 _ _ rfl 32 size47 w.heap.size 0 47 Z L rfl rfl hwz HL.out (by rw [HZ.out]; decide) HO.out ?_; intro w5 hw5 hb5 hk5))
      have hfin : Z.take 0 ++ (L ++ Z.drop (0 + L.length)) = L := by
        rw [Nat.zero_add, List.drop_of_length_le (by rw [HZ.out, HL.out]; exact Nat.le_refl _)]
        simp
      rw [hfin] at hw5
      refine bodyPost_ret (v := .agg L.toArray) (results_row rfl _ w5 32 22 Try.underlying47 32 size47 w.heap.size 47 L rfl hw5 HL.out) rfl ⟨by rw [HM.out], hb5 _ _ HB.out (Nat.le_refl _)⟩

theorem mat_one (last : Nat) : ∀ v ∈ mat last, v.oneCell' = true := by
  intro v hv
  simp only [mat, List.mem_map] at hv
  obtain ⟨j, _, rfl⟩ := hv
  rfl

set_option maxHeartbeats 1600000 in
theorem squared_any (last : Nat) (w : World) (hl : last < 4294967296) :
    Calls Try.prog 34 #[.agg (mat last).toArray] w fun e w' => e = .returned (.agg (mat (prod last last)).toArray) ∧ Below w.heap.size w w' := by
  have hM := mat_length last
  have hz : zero32.length = 32 := rfl
  have h31 : (mat last)[31]? = some (.int .u32 last) := mat_get last 31 (by decide)
  have hp := prod_lt last hl
  have hof := fun w => of_any last last w hl hl
  generalize mat last = M at *
  have hw1 := (Whole.new w 47 M.toArray).alloc (.cells zero32.toArray 47)
  have hw2 := Whole.new (w.alloc (.cells M.toArray 47)) 47 zero32.toArray
  have hb2 : Below w.heap.size w ((w.alloc (.cells M.toArray 47)).alloc (.cells zero32.toArray 47)) := ((Below.refl _ _).alloc (Nat.le_refl _) _).alloc (by simp) _
  simp only [World.size_alloc] at hw2
  have hcell : ((w.alloc (.cells M.toArray 47)).alloc (.cells zero32.toArray 47)).cell? ⟨w.heap.size, 31, none⟩ = some (.int .u32 last) := by
    rw [hw1.cell]
    simpa using h31
  have hs2 : w.heap.size + 1 < ((w.alloc (.cells M.toArray 47)).alloc (.cells zero32.toArray 47)).heap.size := by simp
  generalize hZ : zero32 = Z at *
  have hi47 : (Try.prog.info? 47).map (fun i => (i.zero, i.size)) = some (some (.agg Z.toArray), 32) := by rw [← hZ]; exact info47'
  have HI := Lib.hid hi47
  have HZ := Lib.hid hz
  have HW1 := Lib.hid hw1
  have HW2 := Lib.hid hw2
  have HB2 := Lib.hid hb2
  have HM := Lib.hid hM
  have HO := Lib.hid hof
  clear hZ hi47 hz hw2 hb2 hM hof
  go_enter Try.func34, Try.ntmps34
  go_wp2_with (first
    | refine wpList_alloc_row _ rfl 47 rfl Z 32 HI.out ?_
    | refine wpList_load_row _ rfl 47 _ rfl 32 22 Try.underlying47 32 size47 w.heap.size 0 47 M.toArray M rfl hw1 HM.out (fun j v h => by simpa using h) ?_)
  clear hw1 hcell
  generalize ((w.alloc (.cells M.toArray 47)).alloc (.cells Z.toArray 47)) = w2 at *
  refine (HO.out w2).mono ?_
  rintro e w3 ⟨rfl, hb3⟩
  go_wp2_with fail
  refine (stepWith_any _ w3 hp).mono ?_
  rintro e w4 ⟨rfl, hb4⟩
  have hb24 : Below w2.heap.size w2 w4 := hb3.trans (hb4.mono hb3.size)
  have hw4 := HW2.out.below hb24 hs2
  have hbb := HB2.out.trans (hb24.mono HB2.out.size)
  have hN := mat_length (prod last last)
  have hN1 := mat_one (prod last last)
  have hN2 : Z.take 0 ++ (mat (prod last last) ++ Z.drop (0 + (mat (prod last last)).length)) = mat (prod last last) := by
    rw [Nat.zero_add, List.drop_of_length_le (by rw [HZ.out, hN]; exact Nat.le_refl _)]
    simp
  generalize hNe : mat (prod last last) = N at *
  have HNe := Lib.hid hNe
  clear hNe
  go_wp2_with (refine wpList_store_row _ rfl 47 _ _ rfl 32 size47 (w.heap.size + 1) 0 47 Z N rfl rfl hw4 hN (by rw [HZ.out]; decide) hN1 ?_; intro w5 hw5 hb5 hk5)
  rw [hN2] at hw5
  refine bodyPost_ret (v := .agg N.toArray) (results_row rfl _ w5 32 22 Try.underlying47 32 size47 (w.heap.size + 1) 47 N rfl hw5 hN) rfl ⟨by rw [HNe.out], hb5 _ _ hbb (by omega)⟩

end Go.Proofs.Ytnmnkkohfcbmfaa
