/- slices.heapSortOrdered over uint64. -/
import Derived.Test.YtkoalpbognpphaaNHeap
namespace Go.Proofs.Ytkoalpbognpphaa
open Go.RowKit Go.Sort
set_option linter.unusedVariables false

set_option maxHeartbeats 8000000 in
set_option maxRecDepth 1000000 in
theorem heap_any {g c N : Nat} {d : Array Int} {w : World} (h : SR w g c N w d) (cap a b : Nat) (hab : a < b) (hb : b ≤ N) (hN : N < 4611686018427387904) :
    Calls Try.prog 55 #[.slice (some ⟨g, 0, none⟩) N cap, .int .i64 a, .int .i64 b] w fun e w' => e = .returned (.tuple #[]) ∧ SR w g c N w' (Sort.heapSort ltInt d a b) := by
  obtain ⟨hi, hhi⟩ : ∃ hi, b - a = hi := ⟨_, rfl⟩
  have hI : (b : Int) - (a : Int) = (hi : Int) := by omega
  obtain ⟨m, hm⟩ : ∃ m, (hi - 1) / 2 = m := ⟨_, rfl⟩
  have hmI : ((hi : Int) - 1) / 2 = (m : Int) := by omega
  have hmT : ((hi : Int) - 1).tdiv 2 = (m : Int) := by rw [Int.tdiv_eq_ediv_of_nonneg (by omega)]; exact hmI
  have hmh : m < hi := by omega
  have HS := Lib.hid h
  clear h
  have goal : Sort.heapSort ltInt d a b = heapPop ltInt a hi (heapBuild ltInt hi a (m + 1) d) := by unfold Sort.heapSort; rw [hhi, hm]
  have GOAL := Lib.hid goal
  clear goal
  go_enter Try.func55, Try.ntmps55
  go_wp2
  go_loopw [9] (fun vi wr => ∃ (k : Nat) (dk : Array Int), vi = .int .i64 ((k : Int) - 1) ∧ k ≤ m + 1 ∧ SR w g c N wr dk ∧ heapBuild ltInt hi a k dk = heapBuild ltInt hi a (m + 1) d) (fun vi _ => (intOf vi + 1).toNat)
  case atStart => exact ⟨m + 1, d, by congr 1; omega, Nat.le_refl _, HS.out, rfl⟩
  case round =>
    obtain ⟨k, dk, rfl, hk, hs, hO⟩ := hrel
    have HK := Lib.hid hs
    have HO := Lib.hid hO
    clear hs hO
    by_cases h0 : k = 0
    · subst h0
      have HO2 := Lib.hid (show dk = heapBuild ltInt hi a (m + 1) d from HO.out)
      clear HO
      go_wp2
      go_loopw [10] (fun vi w2 => ∃ (k : Nat) (dj : Array Int), vi = .int .i64 ((k : Int) - 1) ∧ k ≤ hi ∧ SR w g c N w2 dj ∧ heapPop ltInt a k dj = heapPop ltInt a hi dk) (fun vi _ => (intOf vi + 1).toNat)
      case atStart => exact ⟨hi, dk, by first | rfl | (congr 1; omega), Nat.le_refl _, HK.out, rfl⟩
      case round =>
        obtain ⟨k, dj, rfl, hk, hs, hP⟩ := hrel
        have HJ := Lib.hid hs
        have HP := Lib.hid hP
        clear hs hP
        by_cases h0 : k = 0
        · subst h0
          go_wp2
          go_end0
          refine ⟨rfl, ?_⟩
          rw [GOAL.out, ← HO2.out, ← HP.out]
          exact HJ.out
        · obtain ⟨i, rfl⟩ : ∃ i, k = i + 1 := ⟨k - 1, by omega⟩
          have e1 : ((i + 1 : Nat) : Int) - 1 = (i : Int) := by omega
          rw [e1]
          obtain ⟨G, hG, hcw, hfw⟩ := HJ.out.names
          have HG := Lib.hid hG
          clear hG
          have i0 : a < N := by omega
          have i1 : a + i < N := by omega
          have hboth := HJ.out.both i0 i1 (HG.out (a + i))
          go_wp2
          go_region
          have hk2 := (HJ.out.swp i0 i1 (HG.out (a + i)) (HG.out a)).drew
          have HK2 := Lib.hid hk2
          clear hk2 hboth hcw hfw
          go_wp2_with fail
          go_at_call 65
          refine (sift_any HK2.out.now cap 0 i a (Nat.zero_le _) (by omega) hN).mono ?_
          rintro e w3 ⟨rfl, h3⟩
          have H3 := Lib.hid (HK2.out.trans h3)
          clear h3
          go_wp2
          go_roundw
          case rel =>
            (repeat apply Exists.intro); exact ⟨⟨i, _, rfl, by omega, H3.out, by rw [← HP.out]; rfl⟩, rfl⟩
          case measure => first | (simp [intOf]; done) | (simp [intOf]; omega)
    · obtain ⟨i, rfl⟩ : ∃ i, k = i + 1 := ⟨k - 1, by omega⟩
      have e1 : ((i + 1 : Nat) : Int) - 1 = (i : Int) := by omega
      rw [e1]
      go_wp2_with fail
      go_at_call 65
      refine (sift_any HK.out.now cap i hi a (by omega) (by omega) hN).mono ?_
      rintro e w3 ⟨rfl, h3⟩
      have H3 := Lib.hid (HK.out.trans h3)
      clear h3
      go_wp2
      go_roundw
      case rel => exact ⟨i, _, rfl, by omega, H3.out, by rw [← HO.out]; rfl⟩
      case measure => first | (simp [intOf]; done) | (simp [intOf]; omega)
end Go.Proofs.Ytkoalpbognpphaa
