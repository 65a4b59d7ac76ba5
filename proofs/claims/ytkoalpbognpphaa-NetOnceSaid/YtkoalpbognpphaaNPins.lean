/- slices.partialInsertionSortOrdered over uint64: written by gen_pins.py. -/
import Derived.Test.YtkoalpbognpphaaNRow
import Derived.Deep.QuietTactic
import Derived.BigQuiet
import Derived.Handy
namespace Go.Proofs.Ytkoalpbognpphaa
open Go.RowKit Go.Sort
set_option linter.unusedVariables false

section
variable {α : Type} [Inhabited α] (lt : α → α → Bool)
theorem scan_go (d : Array α) (b i : Nat) (h : i < b) (hl : lt d[i]! d[i - 1]! = false) : scanSorted lt d b i = scanSorted lt d b (i + 1) := by
  rw [scanSorted, hl]
  simp [h]
theorem scan_stop (d : Array α) (b i : Nat) (h : ¬ i < b ∨ lt d[i]! d[i - 1]! = true) : scanSorted lt d b i = i := by
  rw [scanSorted]
  rcases h with h | h
  · simp [h]
  · simp [h]
theorem down_go (j : Nat) (d : Array α) (hj : 1 ≤ j) (hl : lt d[j]! d[j - 1]! = true) : shiftDown lt (j - 1) (Sort.swp d j (j - 1)) = shiftDown lt j d := by
  obtain ⟨k, rfl⟩ : ∃ k, j = k + 1 := ⟨j - 1, by omega⟩
  rw [Nat.add_sub_cancel] at hl ⊢
  rw [shiftDown.eq_2, hl]
  rfl
theorem down_stop {j : Nat} {d : Array α} (h : ¬ 1 ≤ j ∨ lt d[j]! d[j - 1]! = false) : shiftDown lt j d = d := by
  cases j with
  | zero => rfl
  | succ k =>
    rcases h with h | h
    · omega
    · rw [Nat.add_sub_cancel] at h
      rw [shiftDown.eq_2, h]
      rfl
theorem up_go (b j : Nat) (d : Array α) (hj : j < b) (hl : lt d[j]! d[j - 1]! = true) : shiftUp lt b (j + 1) (Sort.swp d j (j - 1)) = shiftUp lt b j d := by
  conv => rhs; rw [shiftUp]
  rw [if_pos hj, hl]
  rfl
theorem up_stop {b j : Nat} {d : Array α} (h : ¬ j < b ∨ lt d[j]! d[j - 1]! = false) : shiftUp lt b j d = d := by
  rw [shiftUp]
  rcases h with h | h
  · rw [if_neg h]
  · split
    · rw [h]; rfl
    · rfl
end

set_option maxHeartbeats 32000000 in
set_option maxRecDepth 1000000 in
theorem pins_any {g c N : Nat} {d : Array Int} {w : World} (h : SR w g c N w d) (cap a b : Nat) (hab : a < b) (hb : b ≤ N) (hN : N < 4611686018427387904) :
    Calls Try.prog 59 #[.slice (some ⟨g, 0, none⟩) N cap, .int .i64 a, .int .i64 b] w fun e w' => e = .returned (.bool (partialInsertionSort ltInt d a b).2) ∧ SR w g c N w' (partialInsertionSort ltInt d a b).1 := by
  have HS := Lib.hid h
  clear h
  have hdef : partialInsertionSort ltInt d a b = partialIns ltInt a b 5 (a + 1) d := rfl
  have HDEF := Lib.hid hdef
  clear hdef
  go_enter Try.func59, Try.ntmps59
  go_wp2
  go_loopw [7, 8] (fun v7 v8 wr => ∃ (t i : Nat) (dk : Array Int), v7 = .int .i64 i ∧ v8 = .int .i64 t ∧ t ≤ 5 ∧ a < i ∧ i ≤ b ∧ SR w g c N wr dk ∧ partialIns ltInt a b (5 - t) i dk = partialIns ltInt a b 5 (a + 1) d) (fun _ v8 _ => 6 - (intOf v8).toNat)
  case atStart => exact ⟨0, a + 1, d, by go_num, rfl, by omega, by omega, by omega, HS.out, rfl⟩
  case round =>
    obtain ⟨t, i, dk, rfl, rfl, ht5, hai, hib, hs, hR⟩ := hrel
    have HK := Lib.hid hs
    have HR := Lib.hid hR
    clear hs hR
    by_cases ht : t < 5
    · go_wp2
      go_loopw [7] (fun vi w2 => ∃ (i2 : Nat), vi = .int .i64 i2 ∧ i ≤ i2 ∧ i2 ≤ b ∧ SR w g c N w2 dk ∧ scanSorted ltInt dk b i2 = scanSorted ltInt dk b i) (fun vi _ => b + 1 - (intOf vi).toNat)
      case atStart => exact ⟨i, rfl, Nat.le_refl _, hib, HK.out, rfl⟩
      case round =>
        obtain ⟨i2, rfl, hi2, hi2b, hs, hE⟩ := hrel
        obtain ⟨G, hG, hcw, hfw⟩ := hs.names
        have HJ := Lib.hid hs
        have HG := Lib.hid hG
        have HE := Lib.hid hE
        clear hs hG hE
        have hsucc := partialIns_succ (lt := ltInt) a b (5 - (t + 1)) i dk
        rw [show 5 - (t + 1) + 1 = 5 - t by omega] at hsucc
        by_cases hi2c : i2 < b
        · have j0 : i2 < N := by omega
          have j1 : i2 - 1 < N := by omega
          have HSU := Lib.hid hsucc
          clear hsucc
          have hne : ((i2 : Int) == (b : Int)) = false := beq_eq_false_iff_ne.2 (by omega)
          by_cases h50 : b - a < 50
          · have h50I : (b : Int) - (a : Int) < 50 := by omega
            go_wp2
            go_quiet (first | (go_at_call 60; refine Calls.quiet_of_same (less_any _ _ _)))
            go_wp2_with fail
            · rename (!ltInt (G i2) (G (i2 - 1))) = true => hl
              go_roundw
              case rel =>
                have he : scanSorted ltInt dk b (i2 + 1) = scanSorted ltInt dk b i := by
                  rw [← HE.out, scan_go ltInt dk b i2 hi2c (by rw [← HG.out, ← HG.out]; simpa using hl)]
                first
                  | exact ⟨i2 + 1, by go_num, by omega, by omega, HJ.out.drewN nq, he⟩
                  | ((repeat apply Exists.intro); exact ⟨⟨i2 + 1, by go_num, by omega, by omega, HJ.out.drewN nq, he⟩, rfl⟩)
              case measure => first | (simp [intOf]; done) | (simp [intOf]; omega)
            · rename (!ltInt (G i2) (G (i2 - 1))) = false => hl
              have he : scanSorted ltInt dk b i = i2 := by
                rw [← HE.out, scan_stop ltInt dk b i2 (.inr (by rw [← HG.out, ← HG.out]; simpa using hl))]
              have hsucc := HSU.out
              rw [he, if_neg (show ¬ i2 = b by omega)] at hsucc
              clear he hl
              rw [if_pos h50] at hsucc
              have HSU2 := Lib.hid hsucc
              clear hsucc
              go_wp2
              go_ret
              rw [HDEF.out, ← HR.out, HSU2.out]
              exact ⟨rfl, HJ.out.drewN nq⟩
          · have h50I : decide ((b : Int) - (a : Int) < 50) = false := decide_eq_false (by omega)
            go_wp2
            go_quiet (first | (go_at_call 60; refine Calls.quiet_of_same (less_any _ _ _)))
            go_wp2_with fail
            · rename (!ltInt (G i2) (G (i2 - 1))) = true => hl
              go_roundw
              case rel =>
                have he : scanSorted ltInt dk b (i2 + 1) = scanSorted ltInt dk b i := by
                  rw [← HE.out, scan_go ltInt dk b i2 hi2c (by rw [← HG.out, ← HG.out]; simpa using hl)]
                first
                  | exact ⟨i2 + 1, by go_num, by omega, by omega, HJ.out.drewN nq, he⟩
                  | ((repeat apply Exists.intro); exact ⟨⟨i2 + 1, by go_num, by omega, by omega, HJ.out.drewN nq, he⟩, rfl⟩)
              case measure => first | (simp [intOf]; done) | (simp [intOf]; omega)
            · rename (!ltInt (G i2) (G (i2 - 1))) = false => hl
              have he : scanSorted ltInt dk b i = i2 := by
                rw [← HE.out, scan_stop ltInt dk b i2 (.inr (by rw [← HG.out, ← HG.out]; simpa using hl))]
              have hsucc := HSU.out
              rw [he, if_neg (show ¬ i2 = b by omega)] at hsucc
              clear he hl
              rw [if_neg h50] at hsucc
              obtain ⟨d1, hd1⟩ : ∃ d1, d1 = Sort.swp dk i2 (i2 - 1) := ⟨_, rfl⟩
              rw [← hd1] at hsucc
              have HSTEP := Lib.hid hsucc
              clear hsucc
              by_cases h2a : 2 ≤ i2 - a
              · by_cases h2b : 2 ≤ b - i2
                · have h2aI : 2 ≤ (i2 : Int) - (a : Int) := by omega
                  have h2bI : 2 ≤ (b : Int) - (i2 : Int) := by omega
                  go_wp2
                  go_region
                  have H1 := Lib.hid ((HJ.out.drewN (nq + 1)).swp j0 j1 (HG.out _) (HG.out _))
                  rw [← hd1] at H1
                  clear hd1 hcw hfw HG HE HSU
                  go_wp2
                  go_loopw [9] (fun vj w4 => ∃ (j : Nat) (dj : Array Int), vj = .int .i64 j ∧ (j ≤ i2 - 1) ∧ SR w g c N w4 dj ∧ shiftDown ltInt j dj = shiftDown ltInt (i2 - 1) d1) (fun vj _ => (intOf vj).toNat)
                  case atStart => exact ⟨i2 - 1, d1, by first | rfl | (congr 1; omega), by omega, H1.out, rfl⟩
                  case round =>
                    obtain ⟨j, dj, rfl, hjS, hs, hE⟩ := hrel
                    obtain ⟨G, hG, hcw, hfw⟩ := hs.names
                    have HJ := Lib.hid hs
                    have HG := Lib.hid hG
                    have HE := Lib.hid hE
                    clear hs hG hE
                    by_cases hjc : 1 ≤ j
                    · have j0 : j < N := by omega
                      have j1 : j - 1 < N := by omega
                      go_wp2
                      go_quiet (first | (go_at_call 60; refine Calls.quiet_of_same (less_any _ _ _)))
                      go_wp2
                      · rename (!ltInt (G j) (G (j - 1))) = true => hl
                        have hs : shiftDown ltInt (i2 - 1) d1 = dj := by
                          rw [← HE.out, down_stop]
                          exact .inr (by rw [← HG.out, ← HG.out]; simpa using hl)
                        have HS3 := Lib.hid hs
                        have H3 := Lib.hid (HJ.out.drewN nq)
                        clear hs hl hcw hfw HG HE
                        obtain ⟨d2, hd2⟩ : ∃ d2, d2 = dj := ⟨_, rfl⟩
                        have hfd : fixDown ltInt a i2 d1 = d2 := by rw [hd2, ← HS3.out]; unfold fixDown; rw [if_pos (by omega)]
                        have H2 := H3
                        rw [← hd2] at H2
                        have HFD := Lib.hid hfd
                        clear hfd hd2 HS3 H3
                        go_loopw [10] (fun vj w4 => ∃ (j : Nat) (dj : Array Int), vj = .int .i64 j ∧ (i2 + 1 ≤ j ∧ j ≤ b) ∧ SR w g c N w4 dj ∧ shiftUp ltInt b j dj = shiftUp ltInt b (i2 + 1) d2) (fun vj _ => b + 1 - (intOf vj).toNat)
                        case atStart => exact ⟨i2 + 1, d2, by first | rfl | (congr 1; omega), by omega, H2.out, rfl⟩
                        case round =>
                          obtain ⟨j, dj, rfl, ⟨hjL, hjS⟩, hs, hE⟩ := hrel
                          obtain ⟨G, hG, hcw, hfw⟩ := hs.names
                          have HJ := Lib.hid hs
                          have HG := Lib.hid hG
                          have HE := Lib.hid hE
                          clear hs hG hE
                          by_cases hjc : j < b
                          · have j0 : j < N := by omega
                            have j1 : j - 1 < N := by omega
                            go_wp2
                            go_quiet (first | (go_at_call 60; refine Calls.quiet_of_same (less_any _ _ _)))
                            go_wp2
                            · rename (!ltInt (G j) (G (j - 1))) = true => hl
                              have hs : shiftUp ltInt b (i2 + 1) d2 = dj := by
                                rw [← HE.out, up_stop]
                                exact .inr (by rw [← HG.out, ← HG.out]; simpa using hl)
                              have HS3 := Lib.hid hs
                              have H3 := Lib.hid (HJ.out.drewN nq)
                              clear hs hl hcw hfw HG HE
                              obtain ⟨d3, hd3⟩ : ∃ d3, d3 = dj := ⟨_, rfl⟩
                              have hfu : fixUp ltInt b i2 d2 = d3 := by rw [hd3, ← HS3.out]; unfold fixUp; rw [if_pos (by omega)]
                              rw [← hd3] at H3
                              have HFU := Lib.hid hfu
                              clear hfu hd3
                              go_roundw
                              case rel =>
                                have hz : partialIns ltInt a b (5 - (t + 1)) i2 d3 = partialIns ltInt a b 5 (a + 1) d := by
                                  rw [← HR.out, HSTEP.out, HFD.out, HFU.out]
                                first
                                  | exact ⟨t + 1, i2, d3, by first | rfl | (congr 1; omega), by go_num, by omega, by omega, by omega, H3.out, hz⟩
                                  | ((repeat apply Exists.intro); exact ⟨⟨t + 1, i2, d3, by first | rfl | (congr 1; omega), by go_num, by omega, by omega, by omega, H3.out, hz⟩, rfl⟩)
                              case measure => first | (simp [intOf]; done) | (simp [intOf]; omega)
                            · rename (!ltInt (G j) (G (j - 1))) = false => hl
                              go_region
                              go_wp2
                              go_roundw
                              case rel =>
                                have hz := (HJ.out.drewN (nq + 1)).swp j0 j1 (HG.out _) (HG.out _)
                                have he : shiftUp ltInt b (j + 1) (Sort.swp dj j (j - 1)) = shiftUp ltInt b (i2 + 1) d2 := by
                                  rw [← HE.out, up_go ltInt b j dj hjc (by rw [← HG.out, ← HG.out]; simpa using hl)]
                                first
                                  | exact ⟨j + 1, _, by first | rfl | (congr 1; omega), by omega, hz, he⟩
                                  | ((repeat apply Exists.intro); exact ⟨⟨j + 1, _, by first | rfl | (congr 1; omega), by omega, hz, he⟩, rfl⟩)
                              case measure => first | (simp [intOf]; done) | (simp [intOf]; omega)
                          · have hs : shiftUp ltInt b (i2 + 1) d2 = dj := by
                              rw [← HE.out, up_stop]
                              exact .inl (by omega)
                            have HS3 := Lib.hid hs
                            have H3 := Lib.hid HJ.out
                            clear hs hcw hfw HG HE
                            go_wp2
                            obtain ⟨d3, hd3⟩ : ∃ d3, d3 = dj := ⟨_, rfl⟩
                            have hfu : fixUp ltInt b i2 d2 = d3 := by rw [hd3, ← HS3.out]; unfold fixUp; rw [if_pos (by omega)]
                            rw [← hd3] at H3
                            have HFU := Lib.hid hfu
                            clear hfu hd3
                            go_roundw
                            case rel =>
                              have hz : partialIns ltInt a b (5 - (t + 1)) i2 d3 = partialIns ltInt a b 5 (a + 1) d := by
                                rw [← HR.out, HSTEP.out, HFD.out, HFU.out]
                              first
                                | exact ⟨t + 1, i2, d3, by first | rfl | (congr 1; omega), by go_num, by omega, by omega, by omega, H3.out, hz⟩
                                | ((repeat apply Exists.intro); exact ⟨⟨t + 1, i2, d3, by first | rfl | (congr 1; omega), by go_num, by omega, by omega, by omega, H3.out, hz⟩, rfl⟩)
                            case measure => first | (simp [intOf]; done) | (simp [intOf]; omega)
                      · rename (!ltInt (G j) (G (j - 1))) = false => hl
                        go_region
                        go_wp2
                        go_roundw
                        case rel =>
                          have hz := (HJ.out.drewN (nq + 1)).swp j0 j1 (HG.out _) (HG.out _)
                          have he : shiftDown ltInt (j - 1) (Sort.swp dj j (j - 1)) = shiftDown ltInt (i2 - 1) d1 := by
                            rw [← HE.out, down_go ltInt j dj hjc (by rw [← HG.out, ← HG.out]; simpa using hl)]
                          first
                            | exact ⟨j - 1, _, by first | rfl | (congr 1; omega), by omega, hz, he⟩
                            | ((repeat apply Exists.intro); exact ⟨⟨j - 1, _, by first | rfl | (congr 1; omega), by omega, hz, he⟩, rfl⟩)
                        case measure => first | (simp [intOf]; done) | (simp [intOf]; omega)
                    · have hs : shiftDown ltInt (i2 - 1) d1 = dj := by
                        rw [← HE.out, down_stop]
                        exact .inl (by omega)
                      have HS3 := Lib.hid hs
                      have H3 := Lib.hid HJ.out
                      clear hs hcw hfw HG HE
                      go_wp2
                      obtain ⟨d2, hd2⟩ : ∃ d2, d2 = dj := ⟨_, rfl⟩
                      have hfd : fixDown ltInt a i2 d1 = d2 := by rw [hd2, ← HS3.out]; unfold fixDown; rw [if_pos (by omega)]
                      have H2 := H3
                      rw [← hd2] at H2
                      have HFD := Lib.hid hfd
                      clear hfd hd2 HS3 H3
                      go_loopw [10] (fun vj w4 => ∃ (j : Nat) (dj : Array Int), vj = .int .i64 j ∧ (i2 + 1 ≤ j ∧ j ≤ b) ∧ SR w g c N w4 dj ∧ shiftUp ltInt b j dj = shiftUp ltInt b (i2 + 1) d2) (fun vj _ => b + 1 - (intOf vj).toNat)
                      case atStart => exact ⟨i2 + 1, d2, by first | rfl | (congr 1; omega), by omega, H2.out, rfl⟩
                      case round =>
                        obtain ⟨j, dj, rfl, ⟨hjL, hjS⟩, hs, hE⟩ := hrel
                        obtain ⟨G, hG, hcw, hfw⟩ := hs.names
                        have HJ := Lib.hid hs
                        have HG := Lib.hid hG
                        have HE := Lib.hid hE
                        clear hs hG hE
                        by_cases hjc : j < b
                        · have j0 : j < N := by omega
                          have j1 : j - 1 < N := by omega
                          go_wp2
                          go_quiet (first | (go_at_call 60; refine Calls.quiet_of_same (less_any _ _ _)))
                          go_wp2
                          · rename (!ltInt (G j) (G (j - 1))) = true => hl
                            have hs : shiftUp ltInt b (i2 + 1) d2 = dj := by
                              rw [← HE.out, up_stop]
                              exact .inr (by rw [← HG.out, ← HG.out]; simpa using hl)
                            have HS3 := Lib.hid hs
                            have H3 := Lib.hid (HJ.out.drewN nq)
                            clear hs hl hcw hfw HG HE
                            obtain ⟨d3, hd3⟩ : ∃ d3, d3 = dj := ⟨_, rfl⟩
                            have hfu : fixUp ltInt b i2 d2 = d3 := by rw [hd3, ← HS3.out]; unfold fixUp; rw [if_pos (by omega)]
                            rw [← hd3] at H3
                            have HFU := Lib.hid hfu
                            clear hfu hd3
                            go_roundw
                            case rel =>
                              have hz : partialIns ltInt a b (5 - (t + 1)) i2 d3 = partialIns ltInt a b 5 (a + 1) d := by
                                rw [← HR.out, HSTEP.out, HFD.out, HFU.out]
                              first
                                | exact ⟨t + 1, i2, d3, by first | rfl | (congr 1; omega), by go_num, by omega, by omega, by omega, H3.out, hz⟩
                                | ((repeat apply Exists.intro); exact ⟨⟨t + 1, i2, d3, by first | rfl | (congr 1; omega), by go_num, by omega, by omega, by omega, H3.out, hz⟩, rfl⟩)
                            case measure => first | (simp [intOf]; done) | (simp [intOf]; omega)
                          · rename (!ltInt (G j) (G (j - 1))) = false => hl
                            go_region
                            go_wp2
                            go_roundw
                            case rel =>
                              have hz := (HJ.out.drewN (nq + 1)).swp j0 j1 (HG.out _) (HG.out _)
                              have he : shiftUp ltInt b (j + 1) (Sort.swp dj j (j - 1)) = shiftUp ltInt b (i2 + 1) d2 := by
                                rw [← HE.out, up_go ltInt b j dj hjc (by rw [← HG.out, ← HG.out]; simpa using hl)]
                              first
                                | exact ⟨j + 1, _, by first | rfl | (congr 1; omega), by omega, hz, he⟩
                                | ((repeat apply Exists.intro); exact ⟨⟨j + 1, _, by first | rfl | (congr 1; omega), by omega, hz, he⟩, rfl⟩)
                            case measure => first | (simp [intOf]; done) | (simp [intOf]; omega)
                        · have hs : shiftUp ltInt b (i2 + 1) d2 = dj := by
                            rw [← HE.out, up_stop]
                            exact .inl (by omega)
                          have HS3 := Lib.hid hs
                          have H3 := Lib.hid HJ.out
                          clear hs hcw hfw HG HE
                          go_wp2
                          obtain ⟨d3, hd3⟩ : ∃ d3, d3 = dj := ⟨_, rfl⟩
                          have hfu : fixUp ltInt b i2 d2 = d3 := by rw [hd3, ← HS3.out]; unfold fixUp; rw [if_pos (by omega)]
                          rw [← hd3] at H3
                          have HFU := Lib.hid hfu
                          clear hfu hd3
                          go_roundw
                          case rel =>
                            have hz : partialIns ltInt a b (5 - (t + 1)) i2 d3 = partialIns ltInt a b 5 (a + 1) d := by
                              rw [← HR.out, HSTEP.out, HFD.out, HFU.out]
                            first
                              | exact ⟨t + 1, i2, d3, by first | rfl | (congr 1; omega), by go_num, by omega, by omega, by omega, H3.out, hz⟩
                              | ((repeat apply Exists.intro); exact ⟨⟨t + 1, i2, d3, by first | rfl | (congr 1; omega), by go_num, by omega, by omega, by omega, H3.out, hz⟩, rfl⟩)
                          case measure => first | (simp [intOf]; done) | (simp [intOf]; omega)
                · have h2aI : 2 ≤ (i2 : Int) - (a : Int) := by omega
                  have h2bI : decide (2 ≤ (b : Int) - (i2 : Int)) = false := decide_eq_false (by omega)
                  go_wp2
                  go_region
                  have H1 := Lib.hid ((HJ.out.drewN (nq + 1)).swp j0 j1 (HG.out _) (HG.out _))
                  rw [← hd1] at H1
                  clear hd1 hcw hfw HG HE HSU
                  go_wp2
                  go_loopw [9] (fun vj w4 => ∃ (j : Nat) (dj : Array Int), vj = .int .i64 j ∧ (j ≤ i2 - 1) ∧ SR w g c N w4 dj ∧ shiftDown ltInt j dj = shiftDown ltInt (i2 - 1) d1) (fun vj _ => (intOf vj).toNat)
                  case atStart => exact ⟨i2 - 1, d1, by first | rfl | (congr 1; omega), by omega, H1.out, rfl⟩
                  case round =>
                    obtain ⟨j, dj, rfl, hjS, hs, hE⟩ := hrel
                    obtain ⟨G, hG, hcw, hfw⟩ := hs.names
                    have HJ := Lib.hid hs
                    have HG := Lib.hid hG
                    have HE := Lib.hid hE
                    clear hs hG hE
                    by_cases hjc : 1 ≤ j
                    · have j0 : j < N := by omega
                      have j1 : j - 1 < N := by omega
                      go_wp2
                      go_quiet (first | (go_at_call 60; refine Calls.quiet_of_same (less_any _ _ _)))
                      go_wp2
                      · rename (!ltInt (G j) (G (j - 1))) = true => hl
                        have hs : shiftDown ltInt (i2 - 1) d1 = dj := by
                          rw [← HE.out, down_stop]
                          exact .inr (by rw [← HG.out, ← HG.out]; simpa using hl)
                        have HS3 := Lib.hid hs
                        have H3 := Lib.hid (HJ.out.drewN nq)
                        clear hs hl hcw hfw HG HE
                        obtain ⟨d2, hd2⟩ : ∃ d2, d2 = dj := ⟨_, rfl⟩
                        have hfd : fixDown ltInt a i2 d1 = d2 := by rw [hd2, ← HS3.out]; unfold fixDown; rw [if_pos (by omega)]
                        have H2 := H3
                        rw [← hd2] at H2
                        have HFD := Lib.hid hfd
                        clear hfd hd2 HS3 H3
                        obtain ⟨d3, hd3⟩ : ∃ d3, d3 = d2 := ⟨_, rfl⟩
                        have hfu : fixUp ltInt b i2 d2 = d3 := by rw [hd3]; unfold fixUp; rw [if_neg (by omega)]
                        have H3 := H2
                        rw [← hd3] at H3
                        have HFU := Lib.hid hfu
                        clear hfu hd3
                        go_roundw
                        case rel =>
                          have hz : partialIns ltInt a b (5 - (t + 1)) i2 d3 = partialIns ltInt a b 5 (a + 1) d := by
                            rw [← HR.out, HSTEP.out, HFD.out, HFU.out]
                          first
                            | exact ⟨t + 1, i2, d3, by first | rfl | (congr 1; omega), by go_num, by omega, by omega, by omega, H3.out, hz⟩
                            | ((repeat apply Exists.intro); exact ⟨⟨t + 1, i2, d3, by first | rfl | (congr 1; omega), by go_num, by omega, by omega, by omega, H3.out, hz⟩, rfl⟩)
                        case measure => first | (simp [intOf]; done) | (simp [intOf]; omega)
                      · rename (!ltInt (G j) (G (j - 1))) = false => hl
                        go_region
                        go_wp2
                        go_roundw
                        case rel =>
                          have hz := (HJ.out.drewN (nq + 1)).swp j0 j1 (HG.out _) (HG.out _)
                          have he : shiftDown ltInt (j - 1) (Sort.swp dj j (j - 1)) = shiftDown ltInt (i2 - 1) d1 := by
                            rw [← HE.out, down_go ltInt j dj hjc (by rw [← HG.out, ← HG.out]; simpa using hl)]
                          first
                            | exact ⟨j - 1, _, by first | rfl | (congr 1; omega), by omega, hz, he⟩
                            | ((repeat apply Exists.intro); exact ⟨⟨j - 1, _, by first | rfl | (congr 1; omega), by omega, hz, he⟩, rfl⟩)
                        case measure => first | (simp [intOf]; done) | (simp [intOf]; omega)
                    · have hs : shiftDown ltInt (i2 - 1) d1 = dj := by
                        rw [← HE.out, down_stop]
                        exact .inl (by omega)
                      have HS3 := Lib.hid hs
                      have H3 := Lib.hid HJ.out
                      clear hs hcw hfw HG HE
                      go_wp2
                      obtain ⟨d2, hd2⟩ : ∃ d2, d2 = dj := ⟨_, rfl⟩
                      have hfd : fixDown ltInt a i2 d1 = d2 := by rw [hd2, ← HS3.out]; unfold fixDown; rw [if_pos (by omega)]
                      have H2 := H3
                      rw [← hd2] at H2
                      have HFD := Lib.hid hfd
                      clear hfd hd2 HS3 H3
                      obtain ⟨d3, hd3⟩ : ∃ d3, d3 = d2 := ⟨_, rfl⟩
                      have hfu : fixUp ltInt b i2 d2 = d3 := by rw [hd3]; unfold fixUp; rw [if_neg (by omega)]
                      have H3 := H2
                      rw [← hd3] at H3
                      have HFU := Lib.hid hfu
                      clear hfu hd3
                      go_roundw
                      case rel =>
                        have hz : partialIns ltInt a b (5 - (t + 1)) i2 d3 = partialIns ltInt a b 5 (a + 1) d := by
                          rw [← HR.out, HSTEP.out, HFD.out, HFU.out]
                        first
                          | exact ⟨t + 1, i2, d3, by first | rfl | (congr 1; omega), by go_num, by omega, by omega, by omega, H3.out, hz⟩
                          | ((repeat apply Exists.intro); exact ⟨⟨t + 1, i2, d3, by first | rfl | (congr 1; omega), by go_num, by omega, by omega, by omega, H3.out, hz⟩, rfl⟩)
                      case measure => first | (simp [intOf]; done) | (simp [intOf]; omega)
              · by_cases h2b : 2 ≤ b - i2
                · have h2aI : decide (2 ≤ (i2 : Int) - (a : Int)) = false := decide_eq_false (by omega)
                  have h2bI : 2 ≤ (b : Int) - (i2 : Int) := by omega
                  go_wp2
                  go_region
                  have H1 := Lib.hid ((HJ.out.drewN (nq + 1)).swp j0 j1 (HG.out _) (HG.out _))
                  rw [← hd1] at H1
                  clear hd1 hcw hfw HG HE HSU
                  go_wp2
                  obtain ⟨d2, hd2⟩ : ∃ d2, d2 = d1 := ⟨_, rfl⟩
                  have hfd : fixDown ltInt a i2 d1 = d2 := by rw [hd2]; unfold fixDown; rw [if_neg (by omega)]
                  have H2 := H1
                  rw [← hd2] at H2
                  have HFD := Lib.hid hfd
                  clear hfd hd2
                  go_loopw [10] (fun vj w4 => ∃ (j : Nat) (dj : Array Int), vj = .int .i64 j ∧ (i2 + 1 ≤ j ∧ j ≤ b) ∧ SR w g c N w4 dj ∧ shiftUp ltInt b j dj = shiftUp ltInt b (i2 + 1) d2) (fun vj _ => b + 1 - (intOf vj).toNat)
                  case atStart => exact ⟨i2 + 1, d2, by first | rfl | (congr 1; omega), by omega, H2.out, rfl⟩
                  case round =>
                    obtain ⟨j, dj, rfl, ⟨hjL, hjS⟩, hs, hE⟩ := hrel
                    obtain ⟨G, hG, hcw, hfw⟩ := hs.names
                    have HJ := Lib.hid hs
                    have HG := Lib.hid hG
                    have HE := Lib.hid hE
                    clear hs hG hE
                    by_cases hjc : j < b
                    · have j0 : j < N := by omega
                      have j1 : j - 1 < N := by omega
                      go_wp2
                      go_quiet (first | (go_at_call 60; refine Calls.quiet_of_same (less_any _ _ _)))
                      go_wp2
                      · rename (!ltInt (G j) (G (j - 1))) = true => hl
                        have hs : shiftUp ltInt b (i2 + 1) d2 = dj := by
                          rw [← HE.out, up_stop]
                          exact .inr (by rw [← HG.out, ← HG.out]; simpa using hl)
                        have HS3 := Lib.hid hs
                        have H3 := Lib.hid (HJ.out.drewN nq)
                        clear hs hl hcw hfw HG HE
                        obtain ⟨d3, hd3⟩ : ∃ d3, d3 = dj := ⟨_, rfl⟩
                        have hfu : fixUp ltInt b i2 d2 = d3 := by rw [hd3, ← HS3.out]; unfold fixUp; rw [if_pos (by omega)]
                        rw [← hd3] at H3
                        have HFU := Lib.hid hfu
                        clear hfu hd3
                        go_roundw
                        case rel =>
                          have hz : partialIns ltInt a b (5 - (t + 1)) i2 d3 = partialIns ltInt a b 5 (a + 1) d := by
                            rw [← HR.out, HSTEP.out, HFD.out, HFU.out]
                          first
                            | exact ⟨t + 1, i2, d3, by first | rfl | (congr 1; omega), by go_num, by omega, by omega, by omega, H3.out, hz⟩
                            | ((repeat apply Exists.intro); exact ⟨⟨t + 1, i2, d3, by first | rfl | (congr 1; omega), by go_num, by omega, by omega, by omega, H3.out, hz⟩, rfl⟩)
                        case measure => first | (simp [intOf]; done) | (simp [intOf]; omega)
                      · rename (!ltInt (G j) (G (j - 1))) = false => hl
                        go_region
                        go_wp2
                        go_roundw
                        case rel =>
                          have hz := (HJ.out.drewN (nq + 1)).swp j0 j1 (HG.out _) (HG.out _)
                          have he : shiftUp ltInt b (j + 1) (Sort.swp dj j (j - 1)) = shiftUp ltInt b (i2 + 1) d2 := by
                            rw [← HE.out, up_go ltInt b j dj hjc (by rw [← HG.out, ← HG.out]; simpa using hl)]
                          first
                            | exact ⟨j + 1, _, by first | rfl | (congr 1; omega), by omega, hz, he⟩
                            | ((repeat apply Exists.intro); exact ⟨⟨j + 1, _, by first | rfl | (congr 1; omega), by omega, hz, he⟩, rfl⟩)
                        case measure => first | (simp [intOf]; done) | (simp [intOf]; omega)
                    · have hs : shiftUp ltInt b (i2 + 1) d2 = dj := by
                        rw [← HE.out, up_stop]
                        exact .inl (by omega)
                      have HS3 := Lib.hid hs
                      have H3 := Lib.hid HJ.out
                      clear hs hcw hfw HG HE
                      go_wp2
                      obtain ⟨d3, hd3⟩ : ∃ d3, d3 = dj := ⟨_, rfl⟩
                      have hfu : fixUp ltInt b i2 d2 = d3 := by rw [hd3, ← HS3.out]; unfold fixUp; rw [if_pos (by omega)]
                      rw [← hd3] at H3
                      have HFU := Lib.hid hfu
                      clear hfu hd3
                      go_roundw
                      case rel =>
                        have hz : partialIns ltInt a b (5 - (t + 1)) i2 d3 = partialIns ltInt a b 5 (a + 1) d := by
                          rw [← HR.out, HSTEP.out, HFD.out, HFU.out]
                        first
                          | exact ⟨t + 1, i2, d3, by first | rfl | (congr 1; omega), by go_num, by omega, by omega, by omega, H3.out, hz⟩
                          | ((repeat apply Exists.intro); exact ⟨⟨t + 1, i2, d3, by first | rfl | (congr 1; omega), by go_num, by omega, by omega, by omega, H3.out, hz⟩, rfl⟩)
                      case measure => first | (simp [intOf]; done) | (simp [intOf]; omega)
                · omega
        · have hieq : i2 = b := by omega
          subst hieq
          have he : scanSorted ltInt dk i2 i = i2 := by rw [← HE.out, scan_stop ltInt dk i2 i2 (.inl (by omega))]
          rw [he, if_pos rfl] at hsucc
          have HSU := Lib.hid hsucc
          clear hsucc he
          go_wp2
          go_quiet (first | (go_at_call 60; refine Calls.quiet_of_same (less_any _ _ _)))
          go_wp2
          go_ret
          rw [HDEF.out, ← HR.out, HSU.out]
          exact ⟨rfl, HJ.out.drewN nq⟩
    · obtain rfl : t = 5 := by omega
      go_wp2
      go_ret
      rw [HDEF.out, ← HR.out]
      exact ⟨rfl, HK.out⟩
end Go.Proofs.Ytkoalpbognpphaa
