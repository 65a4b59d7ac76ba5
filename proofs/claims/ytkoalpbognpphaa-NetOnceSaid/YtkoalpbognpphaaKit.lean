/- The walks over the kit's Own and Kept. -/
import Derived.Test.YtkoalpbognpphaaBase
import Derived.Laws.CopyOwn
import Derived.Laws.MakeOwn
namespace Go.Proofs.Ytkoalpbognpphaa
open Go.RowKit
set_option linter.unusedVariables false

theorem own_whole {w : World} {B g n : Nat} {e : TypeId} {xs : List Value} (h : w.ownsRow B e 1 (.slice (some ⟨g, 0, none⟩) n n) n xs) : Whole w g e xs.toArray := by
  rcases h.2 with ⟨h1, _⟩ | ⟨g', cap, cur, h1, _, h2, _, _, h3, h4⟩
  · cases h1
  · injection h1 with ha _ hc
    injection ha with ha
    injection ha with ha
    subst ha
    subst hc
    have : cur = xs.toArray := by
      rw [← h4, Nat.mul_one, List.take_of_length_le (by simp; omega)]
    rw [← this]
    exact h2

theorem made1 (z : Value) (n : Nat) : (madeCells #[z] (n * 1)).toList = List.replicate n z := by
  rw [Nat.mul_one]
  unfold madeCells
  apply List.ext_getElem
  · simp
  · intro i h1 h2
    simp [Nat.mod_one]

theorem c8_set (L : List Int) (k : Nat) (z : Int) : (c8 L).toArray.setIfInBounds k (.int .u8 z) = (c8 (L.set k z)).toArray := by
  simp [c8, List.map_set]

/-- copy(dst, src) into the head of a block known whole, src nil or not, no longer than dst -/
theorem copy_head {P : Program} (w : World) (T e ty : TypeId) (hu : P.underlying T = some (.slice e)) (hs : (P.info? e).map (·.size) = some 1) {g m cap c lim : Nat} {old : List Value} {A : Option Addr} {xs : List Value} {te : TypeId}
    (hw : Whole w g te old.toArray) (hr : Rds w lim A xs) (hle : xs.length ≤ m) (hm : xs.length ≤ old.length) (h1 : ∀ u ∈ xs, u.oneCell' = true) {n : Nat} (hn : n = xs.length) :
    ∃ w', (Builtin.copy_ #[T, T] ty #[.slice (some ⟨g, 0, none⟩) m cap, .slice A n c]).run P w = .ok (.int .i64 n) w' ∧ Whole w' g te (xs ++ old.drop xs.length).toArray ∧ ∀ B w0, Below B w0 w → B ≤ g → Below B w0 w' := by
  subst hn
  have hmin : Nat.min xs.length m = xs.length := Nat.min_eq_left hle
  by_cases h0 : xs = []
  · subst h0
    exact ⟨w, run_copy_none (P := P) w T T ty e _ A m cap 0 c hu hs (Nat.min_eq_left (Nat.zero_le _)), by simpa using hw, fun B w0 hb _ => hb⟩
  · obtain ⟨ad, rfl, _, hsrc⟩ := hr h0
    refine ⟨_, run_copy_row (P := P) w T T ty e g 0 m cap ad xs.length c old.toArray te xs hu hs hw hmin.symm hsrc (by simpa using hm) h1, ?_, fun B w0 hb hB => below_setRow hb hB _⟩
    have := setRow_heap w g _ ((old.toArray.toList.take 0 ++ xs ++ old.toArray.toList.drop (0 + xs.length)).toArray) te (0, 0) hw
    unfold Whole
    rw [this]
    simp

set_option maxHeartbeats 800000 in
set_option maxRecDepth 100000 in
theorem own_any (A : Option Addr) (zs : List Int) (c : Nat) (w : World) (hl : zs.length ≤ 140737488351232) (hr : Rds w w.heap.size A (c8 zs)) :
    Calls Try.prog 16 #[.slice A zs.length c] w fun e w' =>
      ∃ g, e = .returned (.slice (some ⟨g, 0, none⟩) zs.length (zs.length + 5)) ∧ Whole w' g 5 (c8 (zs ++ List.replicate 5 222)).toArray ∧ w.heap.size ≤ g ∧ Below w.heap.size w w' := by
  obtain ⟨i0, hi, hz0, hz1, hz2⟩ := info_parts info8
  have hsz : (Try.prog.info? 5).map (·.size) = some 1 := by rw [hi]; simp [hz1]
  go_enter Try.func16, Try.ntmps16
  go_wp2_with (at_make; go_loud (refine wpList_make_full _ rfl _ _ 29 rfl w.heap.size 5 i0 (.int .u8 0) 1 Try.underlying29 hi hz0 hz1 .i64 .i64 _ _ (zs.length + 5) rfl rfl (by omega) (by omega) (by rw [hz2]; omega) (by unfold maxLen; omega) (Nat.le_refl _) ?_))
  intro w1 hown1 hg1
  have hb1 : Below w.heap.size w w1 := (Below.refl _ _).grown hg1 (Nat.le_refl _) (by simp)
  have hw1 := own_whole hown1
  have hw2 : Whole w1 w.heap.size 5 (c8 (List.replicate (zs.length + 5) 0)).toArray := by
    have h := made1 (.int .u8 0) (zs.length + 5)
    rw [Nat.mul_one] at h
    rw [h] at hw1
    rwa [show c8 (List.replicate (zs.length + 5) 0) = List.replicate (zs.length + 5) (Value.int .u8 0) by simp [c8]]
  have hr1 := hr.below hb1
  obtain ⟨w2, hrun, hw3, hk⟩ := copy_head (P := Try.prog) w1 29 5 3 Try.underlying29 hsz (m := zs.length + 5) (cap := zs.length + 5) (c := c) hw2 hr1 (by rw [c8_length]; omega) (by simp [c8]) (c8_one zs) (c8_length zs).symm
  have hb2 := hk _ _ hb1 (Nat.le_refl _)
  rw [show c8 zs ++ (c8 (List.replicate (zs.length + 5) 0)).drop (c8 zs).length = c8 (zs ++ List.replicate 5 0) by simp [c8]] at hw3
  clear hw1 hw2 hown1 hk hb1 hg1
  have HW3 : Hid (Whole w2 w.heap.size 5 (c8 (zs ++ List.replicate 5 0)).toArray) := Lib.hid hw3
  clear hw3
  go_wp2
  go_loopw [4] (fun i wr => ∃ (k : Nat) (L : List Int), zs.length ≤ k ∧ k ≤ zs.length + 5 ∧ i = .int .i64 k ∧ L.length = zs.length + 5 ∧ L.take k = zs ++ List.replicate (k - zs.length) 222 ∧ Whole wr w.heap.size 5 (c8 L).toArray ∧ Below w.heap.size w wr) (fun i _ => zs.length + 5 - (intOf i).toNat)
  case atStart => exact ⟨zs.length, zs ++ List.replicate 5 0, Nat.le_refl _, by omega, rfl, by simp, by simp, HW3.out, hb2⟩
  case round =>
    obtain ⟨k, L, hk0, hk, rfl, hL, ht, hw, hb⟩ := hrel
    have HL := Lib.hid hL
    have HT := Lib.hid ht
    have HWh := Lib.hid hw
    clear hL ht
    by_cases hlt : k < zs.length + 5
    · have hcell : wr.cell? ⟨w.heap.size, k, none⟩ = some (.int .u8 (L[k]'(by have := HL.out; omega))) := by
        rw [hw.cell k]
        simp [c8, show k < L.length by have := HL.out; omega]
      have hf := hw.frozen k
      clear hw
      go_wp2
      go_roundw
      case rel =>
        refine ⟨k + 1, L.set k 222, by omega, by omega, by go_num, by simp [HL.out], ?_, ?_, hb.setCell (Nat.le_refl _) _⟩
        · rw [List.take_set, List.take_add_one, HT.out]
          have hkl : k < L.length := by have := HL.out; omega
          rw [List.getElem?_eq_getElem hkl, show k + 1 - zs.length = (k - zs.length) + 1 by omega, List.replicate_succ', ← List.append_assoc]
          have hlen : (zs ++ List.replicate (k - zs.length) 222).length = k := by simp; omega
          rw [List.set_append_right _ _ (by omega), hlen, Nat.sub_self]
          rfl
        · have := HWh.out.put k (.int .u8 222)
          rwa [c8_set] at this
      case measure => simp [intOf]; omega
    · clear hw
      go_wp2
      go_ret
      have hfin : L = zs ++ List.replicate 5 222 := by
        have h := HT.out
        obtain rfl : k = zs.length + 5 := by omega
        rw [List.take_of_length_le (by have := HL.out; omega)] at h
        rw [h]
        congr 2
        omega
      refine ⟨w.heap.size, by simp, by rw [← hfin]; exact HWh.out, Nat.le_refl _, hb⟩

set_option maxHeartbeats 800000 in
set_option maxRecDepth 100000 in
theorem kept_any (A : Option Addr) (zs : List Int) (c g lim : Nat) (w : World) (hl : zs.length ≤ 140737488351232) (hr : Rds w lim A (c8 zs)) (hw : Whole w g 5 (c8 (zs ++ List.replicate 5 222)).toArray) :
    Calls Try.prog 18 #[.slice (some ⟨g, 0, none⟩) zs.length (zs.length + 5), .slice A zs.length c] w fun e w' => e = .returned (.bool true) ∧ ∃ n, w' = w.drewN n := by
  have hne : ((zs.length : Int) != (zs.length : Int)) = false := by simp
  have HW := Lib.hid hw
  clear hw
  go_enter Try.func18, Try.ntmps18
  go_wp2
  go_loopw [6] (fun i wr => ∃ k n : Nat, k ≤ zs.length ∧ i = .int .i64 k ∧ wr = w.drewN n) (fun i _ => zs.length - (intOf i).toNat)
  case atStart => exact ⟨0, 0, Nat.zero_le _, rfl, rfl⟩
  case round =>
    obtain ⟨k, n, hk, rfl, rfl⟩ := hrel
    by_cases hlt : k < zs.length
    · obtain ⟨ad, rfl, _, hcell⟩ := hr.at_ (c8_get hlt)
      have hcell' : w.cell? ⟨g, k, none⟩ = some (.int .u8 zs[k]) := by
        rw [HW.out.cell k]
        have e : (zs ++ List.replicate 5 (222 : Int))[k]? = some zs[k] := by
          rw [List.getElem?_append_left hlt, List.getElem?_eq_getElem hlt]
        simp only [c8, List.getElem?_toArray, List.getElem?_map, e]
        rfl
      generalize zs[k] = x at *
      have hx : (x != x) = false := by simp
      go_wp2
      go_quiet (fail)
      go_wp2
      go_roundw
      case rel => exact ⟨k + 1, _, by omega, by go_num, rfl⟩
      case measure => simp [intOf]; omega
    · go_wp2
      go_loop [7] (fun i => ∃ k : Nat, zs.length ≤ k ∧ k ≤ zs.length + 5 ∧ i = .int .i64 k) (fun i => zs.length + 5 - (intOf i).toNat)
      case atStart => exact ⟨zs.length, Nat.le_refl _, by omega, rfl⟩
      case round =>
        obtain ⟨j, hj0, hj1, rfl⟩ := hrel
        by_cases hjt : j < zs.length + 5
        · have hcell' : (w.drewN n).cell? ⟨g, j, none⟩ = some (.int .u8 222) := by
            have h := HW.out.cell j
            show w.cell? _ = _
            rw [h]
            have e : (zs ++ List.replicate 5 (222 : Int))[j]? = some 222 := by
              rw [List.getElem?_append_right hj0, List.getElem?_replicate, if_pos (by omega)]
            simp only [c8, List.getElem?_toArray, List.getElem?_map, e]
            rfl
          go_wp2
          go_round
          case rel => exact ⟨j + 1, by omega, by omega, by go_num⟩
          case measure => simp [intOf]; omega
        · go_wp2
          go_ret
          exact ⟨rfl, n, rfl⟩

theorem own_reads {w : World} {g : Nat} {zs : List Int} (h : Whole w g 5 (c8 (zs ++ List.replicate 5 222)).toArray) : Rds w w.heap.size (some ⟨g, 0, none⟩) (c8 zs) := by
  intro _
  refine ⟨_, rfl, h.lt, fun j u hu => ?_⟩
  have hadd : (⟨g, 0, none⟩ : Addr).add j = ⟨g, j, none⟩ := by unfold Addr.add; split <;> simp_all
  rw [hadd, h.cell j]
  have hj : j < (c8 zs).length := (List.getElem?_eq_some_iff.1 hu).1
  rw [c8_append]
  simp only [List.getElem?_toArray]
  rw [List.getElem?_append_left hj, hu]
theorem Rds.go {w1 w2 : World} {A : Option Addr} {xs : List Value} (hr : Rds w1 w1.heap.size A xs) (hb : Below w1.heap.size w1 w2) : Rds w2 w2.heap.size A xs := (hr.below hb).more hb.size
theorem Whole.go {w1 w2 : World} {g : Nat} {t : TypeId} {cs : Array Value} (h : Whole w1 g t cs) (hb : Below w1.heap.size w1 w2) : Whole w2 g t cs := h.below hb h.lt
theorem belowGo {B : Nat} {w w1 w2 : World} (h : Below B w w1) (hB : B ≤ w.heap.size) (hb : Below w1.heap.size w1 w2) : Below B w w2 := h.trans (hb.mono (Nat.le_trans hB h.size))
theorem Rds.now {w : World} {A : Option Addr} {xs : List Value} (hr : Rds w w.heap.size A xs) (n : Nat) : Rds (w.drewN n) (w.drewN n).heap.size A xs := hr
end Go.Proofs.Ytkoalpbognpphaa
