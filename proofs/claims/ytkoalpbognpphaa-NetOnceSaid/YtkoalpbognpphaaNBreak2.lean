/- slices.breakPatternsOrdered over uint64: a permutation. -/
import Derived.Test.YtkoalpbognpphaaNBreak
namespace Go.Proofs.Ytkoalpbognpphaa
open Go.RowKit Go.Sort
set_option linter.unusedVariables false

set_option maxHeartbeats 8000000 in
set_option maxRecDepth 1000000 in
theorem break_any {g c N : Nat} {d : Array Int} {w : World} (h : SR w g c N w d) (cap a b : Nat) (hab : 12 < b - a) (hb : b ≤ N) (hN : N < 4611686018427387904) :
    Calls Try.prog 56 #[.slice (some ⟨g, 0, none⟩) N cap, .int .i64 a, .int .i64 b] w fun e w' => e = .returned (.tuple #[]) ∧ ∃ d', SR w g c N w' d' ∧ PermIn a b d d' := by
  obtain ⟨n, hn⟩ : ∃ n, b - a = n := ⟨_, rfl⟩
  have hnI : (b : Int) - (a : Int) = (n : Int) := by omega
  obtain ⟨q, hq⟩ : ∃ q, n / 4 = q := ⟨_, rfl⟩
  have hqI : (n : Int) / 4 = (q : Int) := by omega
  have hqT : (n : Int).tdiv 4 = (q : Int) := by rw [Int.tdiv_eq_ediv_of_nonneg (by omega)]; exact hqI
  have hq3 : 3 ≤ q := by omega
  have hq4 : 4 * q ≤ n := by omega
  have hwn : IntKind.u64.wrap (n : Int) = (n : Int) := by rw [IntKind.wrap_u64]; omega
  have hgl := h.lt
  have h0 : SR w g c N (w.alloc (.cells #[.int .u64 n] 95)) d := h.alloc _
  have hb0 : Whole (w.alloc (.cells #[.int .u64 n] 95)) w.heap.size 95 #[.int .u64 n] := Whole.new w 95 _
  have HS := Lib.hid h0
  have HB := Lib.hid hb0
  clear h h0 hb0
  go_enter Try.func56, Try.ntmps56
  go_wp2_with fail
  go_at_call 66
  refine (nextpow_any n _ (by omega) (by omega)).mono ?_
  rintro e w1 ⟨⟨m, hm1, hm2, rfl⟩, rfl⟩
  go_wp2
  generalize w.alloc (.cells #[.int .u64 n] 95) = w1 at HS HB ⊢
  go_loopw [9] (fun vi wr => ∃ (i : Nat) (dk : Array Int) (x : Int), vi = .int .i64 i ∧ a + q * 2 - 1 ≤ i ∧ i ≤ a + q * 2 + 2 ∧ SR w g c N wr dk ∧ PermIn a b d dk ∧ U64 x ∧ Whole wr w.heap.size 95 #[.int .u64 x]) (fun vi _ => a + q * 2 + 3 - (intOf vi).toNat)
  case atStart => exact ⟨a + q * 2 - 1, d, n, by congr 1; omega, Nat.le_refl _, by omega, HS.out, Sort.permIn_refl _ _ _, ⟨by omega, by omega⟩, HB.out⟩
  case round =>
    obtain ⟨i, dk, x, rfl, hi1, hi2, hs, hp, hx, hbx⟩ := hrel
    have HJ := Lib.hid hs
    have HP := Lib.hid hp
    clear hs hp
    by_cases hie : i ≤ a + q * 2 + 1
    · have hieI : (i : Int) ≤ (a : Int) + q * 2 + 1 := by omega
      go_wp2_with fail
      go_at_call 67
      refine (next_any hx hbx).mono ?_
      clear hx hbx
      rintro e w3 ⟨y, hy, rfl, hg3, hw3⟩
      obtain ⟨o, ho, hom⟩ := and_u64 y ((m : Int) - 1) hy ⟨by omega, by omega⟩
      have HY := Lib.hid hy
      have HG3 := Lib.hid hg3
      have HW3 := Lib.hid hw3
      have H3 := Lib.hid (HJ.out.far hg3 (Nat.le_refl _) (by omega))
      clear hy hg3 hw3
      go_wp2_with fail
      · have hno : n ≤ o := by assumption
        obtain ⟨o2, ho2⟩ : ∃ o2, o - n = o2 := ⟨_, rfl⟩
        have ho2I : (o : Int) - (n : Int) = (o2 : Int) := by omega
        have ho2n : o2 < n := by omega
        rw [ho2I]
        clear ho2I ho
        obtain ⟨G, hG, hcw, hfw⟩ := H3.out.names
        have HG := Lib.hid hG
        clear hG
        have i0 : i < N := by omega
        have i1 : a + o2 < N := by omega
        have hboth := H3.out.both i0 i1 (HG.out (a + o2))
        go_region
        have H5 := Lib.hid ((H3.out.swp i0 i1 (HG.out (a + o2)) (HG.out i)).drew)
        have HW5 := Lib.hid ((Whole.far (p := ⟨g, i, none⟩) (HW3.out) (by show w.heap.size ≠ g; omega) (.int .u64 (G (a + o2)))).far (p := ⟨g, a + o2, none⟩) (by show w.heap.size ≠ g; omega) (.int .u64 (G i))).drew
        go_wp2
        go_roundw
        case rel => exact ⟨i + 1, _, y, by go_num, by omega, by omega, H5.out, perm_swp HP.out HJ.out.len hb ⟨by omega, by omega⟩ ⟨by omega, by omega⟩, HY.out, HW5.out⟩
        case measure => first | (simp [intOf]; done) | (simp [intOf]; omega)
      · have hno : ¬ n ≤ o := by assumption
        obtain ⟨o2, ho2⟩ : ∃ o2, o = o2 := ⟨_, rfl⟩
        subst ho2
        clear ho
        obtain ⟨G, hG, hcw, hfw⟩ := H3.out.names
        have HG := Lib.hid hG
        clear hG
        have i0 : i < N := by omega
        have i1 : a + o < N := by omega
        have hboth := H3.out.both i0 i1 (HG.out (a + o))
        go_region
        have H5 := Lib.hid ((H3.out.swp i0 i1 (HG.out (a + o)) (HG.out i)).drew)
        have HW5 := Lib.hid ((Whole.far (p := ⟨g, i, none⟩) (HW3.out) (by show w.heap.size ≠ g; omega) (.int .u64 (G (a + o)))).far (p := ⟨g, a + o, none⟩) (by show w.heap.size ≠ g; omega) (.int .u64 (G i))).drew
        go_wp2
        go_roundw
        case rel => exact ⟨i + 1, _, y, by go_num, by omega, by omega, H5.out, perm_swp HP.out HJ.out.len hb ⟨by omega, by omega⟩ ⟨by omega, by omega⟩, HY.out, HW5.out⟩
        case measure => first | (simp [intOf]; done) | (simp [intOf]; omega)
    · have hieI : decide ((i : Int) ≤ (a : Int) + q * 2 + 1) = false := decide_eq_false (by omega)
      go_wp2
      go_end0
      exact ⟨rfl, dk, HJ.out, HP.out⟩
end Go.Proofs.Ytkoalpbognpphaa
