/- Several texts, each a section: NPins, Shelf, NBreak, NBreak2. -/
import Derived.Test.YtnleeffajljodaaM01
import Derived.Deep.QuietTactic
import Derived.BigQuiet
import Derived.Handy
import Derived.Shelf.Small.Bits
import Derived.Shelf.Strconv.Itoa0
import Derived.Ground.SlbCloneProg
import Derived.Shelf.Bytes.SlClone
import Derived.Ground.SlgfProg
import Derived.Shelf.SlicesE.IndexFunc
import Derived.Shelf.SlicesE.DeleteFunc
import Derived.Test.YtnleeffajljodaaProg
import Derived.Deep.LoopGhost
import Derived.Lib.BitFns
import Derived.Laws.BitsAllLaws
section
/- slices.partialInsertionSortOrdered over uint64: written by gen_pins.py. -/
namespace Go.Proofs.Ytnleeffajljodaa
open Go.RowKit Go.Sort
set_option linter.unusedVariables false

section
variable {α : Type} [Inhabited α] (lt : α → α → Bool)
theorem scan_go (d : Array α) (b i : Nat) (h : i < b) (hl : lt d[i]! d[i - 1]! = false) : scanSorted lt d b i = scanSorted lt d b (i + 1) := by
  rw [scanSorted, hl]
  simp [h]
theorem scan_stop (d : Array α) (b i : Nat) (h : ¬ i < b ∨ lt d[i]! d[i - 1]! = true) : scanSorted lt d b i = i := by
  rw [scanSorted]
  rcases h with h | h
  · simp [h]
  · simp [h]
theorem down_go (j : Nat) (d : Array α) (hj : 1 ≤ j) (hl : lt d[j]! d[j - 1]! = true) : shiftDown lt (j - 1) (Sort.swp d j (j - 1)) = shiftDown lt j d := by
  obtain ⟨k, rfl⟩ : ∃ k, j = k + 1 := ⟨j - 1, by omega⟩
  rw [Nat.add_sub_cancel] at hl ⊢
  rw [shiftDown.eq_2, hl]
  rfl
theorem down_stop {j : Nat} {d : Array α} (h : ¬ 1 ≤ j ∨ lt d[j]! d[j - 1]! = false) : shiftDown lt j d = d := by
  cases j with
  | zero => rfl
  | succ k =>
    rcases h with h | h
    · omega
    · rw [Nat.add_sub_cancel] at h
      rw [shiftDown.eq_2, h]
      rfl
theorem up_go (b j : Nat) (d : Array α) (hj : j < b) (hl : lt d[j]! d[j - 1]! = true) : shiftUp lt b (j + 1) (Sort.swp d j (j - 1)) = shiftUp lt b j d := by
  conv => rhs; rw [shiftUp]
  rw [if_pos hj, hl]
  rfl
theorem up_stop {b j : Nat} {d : Array α} (h : ¬ j < b ∨ lt d[j]! d[j - 1]! = false) : shiftUp lt b j d = d := by
  rw [shiftUp]
  rcases h with h | h
  · rw [if_neg h]
  · split
    · rw [h]; rfl
    · rfl
end

set_option maxHeartbeats 32000000 in
set_option maxRecDepth 1000000 in
theorem pins_any {g c N : Nat} {d : Array Int} {w : World} (h : SR w g c N w d) (cap a b : Nat) (hab : a < b) (hb : b ≤ N) (hN : N < 4611686018427387904) :
    Calls Try.prog 59 #[.slice (some ⟨g, 0, none⟩) N cap, .int .i64 a, .int .i64 b] w fun e w' => e = .returned (.bool (partialInsertionSort ltInt d a b).2) ∧ SR w g c N w' (partialInsertionSort ltInt d a b).1 := by
  have HS := Lib.hid h
  clear h
  have hdef : partialInsertionSort ltInt d a b = partialIns ltInt a b 5 (a + 1) d := rfl
  have HDEF := Lib.hid hdef
  clear hdef
  go_enter Try.func59, Try.ntmps59
  go_wp2
  go_loopw [7, 8] (fun v7 v8 wr => ∃ (t i : Nat) (dk : Array Int), v7 = .int .i64 i ∧ v8 = .int .i64 t ∧ t ≤ 5 ∧ a < i ∧ i ≤ b ∧ SR w g c N wr dk ∧ partialIns ltInt a b (5 - t) i dk = partialIns ltInt a b 5 (a + 1) d) (fun _ v8 _ => 6 - (intOf v8).toNat)
  case atStart => exact ⟨0, a + 1, d, by go_num, rfl, by omega, by omega, by omega, HS.out, rfl⟩
  case round =>
    obtain ⟨t, i, dk, rfl, rfl, ht5, hai, hib, hs, hR⟩ := hrel
    have HK := Lib.hid hs
    have HR := Lib.hid hR
    clear hs hR
    by_cases ht : t < 5
    · go_wp2
      go_loopw [7] (fun vi w2 => ∃ (i2 : Nat), vi = .int .i64 i2 ∧ i ≤ i2 ∧ i2 ≤ b ∧ SR w g c N w2 dk ∧ scanSorted ltInt dk b i2 = scanSorted ltInt dk b i) (fun vi _ => b + 1 - (intOf vi).toNat)
      case atStart => exact ⟨i, rfl, Nat.le_refl _, hib, HK.out, rfl⟩
      case round =>
        obtain ⟨i2, rfl, hi2, hi2b, hs, hE⟩ := hrel
        obtain ⟨G, hG, hcw, hfw⟩ := hs.names
        have HJ := Lib.hid hs
        have HG := Lib.hid hG
        have HE := Lib.hid hE
        clear hs hG hE
        have hsucc := partialIns_succ (lt := ltInt) a b (5 - (t + 1)) i dk
        rw [show 5 - (t + 1) + 1 = 5 - t by omega] at hsucc
        by_cases hi2c : i2 < b
        · have j0 : i2 < N := by omega
          have j1 : i2 - 1 < N := by omega
          have HSU := Lib.hid hsucc
          clear hsucc
          have hne : ((i2 : Int) == (b : Int)) = false := beq_eq_false_iff_ne.2 (by omega)
          by_cases h50 : b - a < 50
          · have h50I : (b : Int) - (a : Int) < 50 := by omega
            go_wp2
            go_quiet (first | (go_at_call 60; refine Calls.quiet_of_same (less_any _ _ _)))
            go_wp2_with fail
            · rename (!ltInt (G i2) (G (i2 - 1))) = true => hl
              go_roundw
              case rel =>
                have he : scanSorted ltInt dk b (i2 + 1) = scanSorted ltInt dk b i := by
                  rw [← HE.out, scan_go ltInt dk b i2 hi2c (by rw [← HG.out, ← HG.out]; simpa using hl)]
                first
                  | exact ⟨i2 + 1, by go_num, by omega, by omega, HJ.out.drewN nq, he⟩
                  | ((repeat apply Exists.intro); exact ⟨⟨i2 + 1, by go_num, by omega, by omega, HJ.out.drewN nq, he⟩, rfl⟩)
              case measure => first | (simp [intOf]; done) | (simp [intOf]; omega)
            · rename (!ltInt (G i2) (G (i2 - 1))) = false => hl
              have he : scanSorted ltInt dk b i = i2 := by
                rw [← HE.out, scan_stop ltInt dk b i2 (.inr (by rw [← HG.out, ← HG.out]; simpa using hl))]
              have hsucc := HSU.out
              rw [he, if_neg (show ¬ i2 = b by omega)] at hsucc
              clear he hl
              rw [if_pos h50] at hsucc
              have HSU2 := Lib.hid hsucc
              clear hsucc
              go_wp2
              go_ret
              rw [HDEF.out, ← HR.out, HSU2.out]
              exact ⟨rfl, HJ.out.drewN nq⟩
          · have h50I : decide ((b : Int) - (a : Int) < 50) = false := decide_eq_false (by omega)
            go_wp2
            go_quiet (first | (go_at_call 60; refine Calls.quiet_of_same (less_any _ _ _)))
            go_wp2_with fail
            · rename (!ltInt (G i2) (G (i2 - 1))) = true => hl
              go_roundw
              case rel =>
                have he : scanSorted ltInt dk b (i2 + 1) = scanSorted ltInt dk b i := by
                  rw [← HE.out, scan_go ltInt dk b i2 hi2c (by rw [← HG.out, ← HG.out]; simpa using hl)]
                first
                  | exact ⟨i2 + 1, by go_num, by omega, by omega, HJ.out.drewN nq, he⟩
                  | ((repeat apply Exists.intro); exact ⟨⟨i2 + 1, by go_num, by omega, by omega, HJ.out.drewN nq, he⟩, rfl⟩)
              case measure => first | (simp [intOf]; done) | (simp [intOf]; omega)
            · rename (!ltInt (G i2) (G (i2 - 1))) = false => hl
              have he : scanSorted ltInt dk b i = i2 := by
                rw [← HE.out, scan_stop ltInt dk b i2 (.inr (by rw [← HG.out, ← HG.out]; simpa using hl))]
              have hsucc := HSU.out
              rw [he, if_neg (show ¬ i2 = b by omega)] at hsucc
              clear he hl
              rw [if_neg h50] at hsucc
              obtain ⟨d1, hd1⟩ : ∃ d1, d1 = Sort.swp dk i2 (i2 - 1) := ⟨_, rfl⟩
              rw [← hd1] at hsucc
              have HSTEP := Lib.hid hsucc
              clear hsucc
              by_cases h2a : 2 ≤ i2 - a
              · by_cases h2b : 2 ≤ b - i2
                · have h2aI : 2 ≤ (i2 : Int) - (a : Int) := by omega
                  have h2bI : 2 ≤ (b : Int) - (i2 : Int) := by omega
                  go_wp2
                  go_region
                  have H1 := Lib.hid ((HJ.out.drewN (nq + 1)).swp j0 j1 (HG.out _) (HG.out _))
                  rw [← hd1] at H1
                  clear hd1 hcw hfw HG HE HSU
                  go_wp2
                  go_loopw [9] (fun vj w4 => ∃ (j : Nat) (dj : Array Int), vj = .int .i64 j ∧ (j ≤ i2 - 1) ∧ SR w g c N w4 dj ∧ shiftDown ltInt j dj = shiftDown ltInt (i2 - 1) d1) (fun vj _ => (intOf vj).toNat)
                  case atStart => exact ⟨i2 - 1, d1, by first | rfl | (congr 1; omega), by omega, H1.out, rfl⟩
                  case round =>
                    obtain ⟨j, dj, rfl, hjS, hs, hE⟩ := hrel
                    obtain ⟨G, hG, hcw, hfw⟩ := hs.names
                    have HJ := Lib.hid hs
                    have HG := Lib.hid hG
                    have HE := Lib.hid hE
                    clear hs hG hE
                    by_cases hjc : 1 ≤ j
                    · have j0 : j < N := by omega
                      have j1 : j - 1 < N := by omega
                      go_wp2
                      go_quiet (first | (go_at_call 60; refine Calls.quiet_of_same (less_any _ _ _)))
                      go_wp2
                      · rename (!ltInt (G j) (G (j - 1))) = true => hl
                        have hs : shiftDown ltInt (i2 - 1) d1 = dj := by
                          rw [← HE.out, down_stop]
                          exact .inr (by rw [← HG.out, ← HG.out]; simpa using hl)
                        have HS3 := Lib.hid hs
                        have H3 := Lib.hid (HJ.out.drewN nq)
                        clear hs hl hcw hfw HG HE
                        obtain ⟨d2, hd2⟩ : ∃ d2, d2 = dj := ⟨_, rfl⟩
                        have hfd : fixDown ltInt a i2 d1 = d2 := by rw [hd2, ← HS3.out]; unfold fixDown; rw [if_pos (by omega)]
                        have H2 := H3
                        rw [← hd2] at H2
                        have HFD := Lib.hid hfd
                        clear hfd hd2 HS3 H3
                        go_loopw [10] (fun vj w4 => ∃ (j : Nat) (dj : Array Int), vj = .int .i64 j ∧ (i2 + 1 ≤ j ∧ j ≤ b) ∧ SR w g c N w4 dj ∧ shiftUp ltInt b j dj = shiftUp ltInt b (i2 + 1) d2) (fun vj _ => b + 1 - (intOf vj).toNat)
                        case atStart => exact ⟨i2 + 1, d2, by first | rfl | (congr 1; omega), by omega, H2.out, rfl⟩
                        case round =>
                          obtain ⟨j, dj, rfl, ⟨hjL, hjS⟩, hs, hE⟩ := hrel
                          obtain ⟨G, hG, hcw, hfw⟩ := hs.names
                          have HJ := Lib.hid hs
                          have HG := Lib.hid hG
                          have HE := Lib.hid hE
                          clear hs hG hE
                          by_cases hjc : j < b
                          · have j0 : j < N := by omega
                            have j1 : j - 1 < N := by omega
                            go_wp2
                            go_quiet (first | (go_at_call 60; refine Calls.quiet_of_same (less_any _ _ _)))
                            go_wp2
                            · rename (!ltInt (G j) (G (j - 1))) = true => hl
                              have hs : shiftUp ltInt b (i2 + 1) d2 = dj := by
                                rw [← HE.out, up_stop]
                                exact .inr (by rw [← HG.out, ← HG.out]; simpa using hl)
                              have HS3 := Lib.hid hs
                              have H3 := Lib.hid (HJ.out.drewN nq)
                              clear hs hl hcw hfw HG HE
                              obtain ⟨d3, hd3⟩ : ∃ d3, d3 = dj := ⟨_, rfl⟩
                              have hfu : fixUp ltInt b i2 d2 = d3 := by rw [hd3, ← HS3.out]; unfold fixUp; rw [if_pos (by omega)]
                              rw [← hd3] at H3
                              have HFU := Lib.hid hfu
                              clear hfu hd3
                              go_roundw
                              case rel =>
                                have hz : partialIns ltInt a b (5 - (t + 1)) i2 d3 = partialIns ltInt a b 5 (a + 1) d := by
                                  rw [← HR.out, HSTEP.out, HFD.out, HFU.out]
                                first
                                  | exact ⟨t + 1, i2, d3, by first | rfl | (congr 1; omega), by go_num, by omega, by omega, by omega, H3.out, hz⟩
                                  | ((repeat apply Exists.intro); exact ⟨⟨t + 1, i2, d3, by first | rfl | (congr 1; omega), by go_num, by omega, by omega, by omega, H3.out, hz⟩, rfl⟩)
                              case measure => first | (simp [intOf]; done) | (simp [intOf]; omega)
                            · rename (!ltInt (G j) (G (j - 1))) = false => hl
                              go_region
                              go_wp2
                              go_roundw
                              case rel =>
                                have hz := (HJ.out.drewN (nq + 1)).swp j0 j1 (HG.out _) (HG.out _)
                                have he : shiftUp ltInt b (j + 1) (Sort.swp dj j (j - 1)) = shiftUp ltInt b (i2 + 1) d2 := by
                                  rw [← HE.out, up_go ltInt b j dj hjc (by rw [← HG.out, ← HG.out]; simpa using hl)]
                                first
                                  | exact ⟨j + 1, _, by first | rfl | (congr 1; omega), by omega, hz, he⟩
                                  | ((repeat apply Exists.intro); exact ⟨⟨j + 1, _, by first | rfl | (congr 1; omega), by omega, hz, he⟩, rfl⟩)
                              case measure => first | (simp [intOf]; done) | (simp [intOf]; omega)
                          · have hs : shiftUp ltInt b (i2 + 1) d2 = dj := by
                              rw [← HE.out, up_stop]
                              exact .inl (by omega)
                            have HS3 := Lib.hid hs
                            have H3 := Lib.hid HJ.out
                            clear hs hcw hfw HG HE
                            go_wp2
                            obtain ⟨d3, hd3⟩ : ∃ d3, d3 = dj := ⟨_, rfl⟩
                            have hfu : fixUp ltInt b i2 d2 = d3 := by rw [hd3, ← HS3.out]; unfold fixUp; rw [if_pos (by omega)]
                            rw [← hd3] at H3
                            have HFU := Lib.hid hfu
                            clear hfu hd3
                            go_roundw
                            case rel =>
                              have hz : partialIns ltInt a b (5 - (t + 1)) i2 d3 = partialIns ltInt a b 5 (a + 1) d := by
                                rw [← HR.out, HSTEP.out, HFD.out, HFU.out]
                              first
                                | exact ⟨t + 1, i2, d3, by first | rfl | (congr 1; omega), by go_num, by omega, by omega, by omega, H3.out, hz⟩
                                | ((repeat apply Exists.intro); exact ⟨⟨t + 1, i2, d3, by first | rfl | (congr 1; omega), by go_num, by omega, by omega, by omega, H3.out, hz⟩, rfl⟩)
                            case measure => first | (simp [intOf]; done) | (simp [intOf]; omega)
                      · rename (!ltInt (G j) (G (j - 1))) = false => hl
                        go_region
                        go_wp2
                        go_roundw
                        case rel =>
                          have hz := (HJ.out.drewN (nq + 1)).swp j0 j1 (HG.out _) (HG.out _)
                          have he : shiftDown ltInt (j - 1) (Sort.swp dj j (j - 1)) = shiftDown ltInt (i2 - 1) d1 := by
                            rw [← HE.out, down_go ltInt j dj hjc (by rw [← HG.out, ← HG.out]; simpa using hl)]
                          first
                            | exact ⟨j - 1, _, by first | rfl | (congr 1; omega), by omega, hz, he⟩
                            | ((repeat apply Exists.intro); exact ⟨⟨j - 1, _, by first | rfl | (congr 1; omega), by omega, hz, he⟩, rfl⟩)
                        case measure => first | (simp [intOf]; done) | (simp [intOf]; omega)
                    · have hs : shiftDown ltInt (i2 - 1) d1 = dj := by
                        rw [← HE.out, down_stop]
                        exact .inl (by omega)
                      have HS3 := Lib.hid hs
                      have H3 := Lib.hid HJ.out
                      clear hs hcw hfw HG HE
                      go_wp2
                      obtain ⟨d2, hd2⟩ : ∃ d2, d2 = dj := ⟨_, rfl⟩
                      have hfd : fixDown ltInt a i2 d1 = d2 := by rw [hd2, ← HS3.out]; unfold fixDown; rw [if_pos (by omega)]
                      have H2 := H3
                      rw [← hd2] at H2
                      have HFD := Lib.hid hfd
                      clear hfd hd2 HS3 H3
                      go_loopw [10] (fun vj w4 => ∃ (j : Nat) (dj : Array Int), vj = .int .i64 j ∧ (i2 + 1 ≤ j ∧ j ≤ b) ∧ SR w g c N w4 dj ∧ shiftUp ltInt b j dj = shiftUp ltInt b (i2 + 1) d2) (fun vj _ => b + 1 - (intOf vj).toNat)
                      case atStart => exact ⟨i2 + 1, d2, by first | rfl | (congr 1; omega), by omega, H2.out, rfl⟩
                      case round =>
                        obtain ⟨j, dj, rfl, ⟨hjL, hjS⟩, hs, hE⟩ := hrel
                        obtain ⟨G, hG, hcw, hfw⟩ := hs.names
                        have HJ := Lib.hid hs
                        have HG := Lib.hid hG
                        have HE := Lib.hid hE
                        clear hs hG hE
                        by_cases hjc : j < b
                        · have j0 : j < N := by omega
                          have j1 : j - 1 < N := by omega
                          go_wp2
                          go_quiet (first | (go_at_call 60; refine Calls.quiet_of_same (less_any _ _ _)))
                          go_wp2
                          · rename (!ltInt (G j) (G (j - 1))) = true => hl
                            have hs : shiftUp ltInt b (i2 + 1) d2 = dj := by
                              rw [← HE.out, up_stop]
                              exact .inr (by rw [← HG.out, ← HG.out]; simpa using hl)
                            have HS3 := Lib.hid hs
                            have H3 := Lib.hid (HJ.out.drewN nq)
                            clear hs hl hcw hfw HG HE
                            obtain ⟨d3, hd3⟩ : ∃ d3, d3 = dj := ⟨_, rfl⟩
                            have hfu : fixUp ltInt b i2 d2 = d3 := by rw [hd3, ← HS3.out]; unfold fixUp; rw [if_pos (by omega)]
                            rw [← hd3] at H3
                            have HFU := Lib.hid hfu
                            clear hfu hd3
                            go_roundw
                            case rel =>
                              have hz : partialIns ltInt a b (5 - (t + 1)) i2 d3 = partialIns ltInt a b 5 (a + 1) d := by
                                rw [← HR.out, HSTEP.out, HFD.out, HFU.out]
                              first
                                | exact ⟨t + 1, i2, d3, by first | rfl | (congr 1; omega), by go_num, by omega, by omega, by omega, H3.out, hz⟩
                                | ((repeat apply Exists.intro); exact ⟨⟨t + 1, i2, d3, by first | rfl | (congr 1; omega), by go_num, by omega, by omega, by omega, H3.out, hz⟩, rfl⟩)
                            case measure => first | (simp [intOf]; done) | (simp [intOf]; omega)
                          · rename (!ltInt (G j) (G (j - 1))) = false => hl
                            go_region
                            go_wp2
                            go_roundw
                            case rel =>
                              have hz := (HJ.out.drewN (nq + 1)).swp j0 j1 (HG.out _) (HG.out _)
                              have he : shiftUp ltInt b (j + 1) (Sort.swp dj j (j - 1)) = shiftUp ltInt b (i2 + 1) d2 := by
                                rw [← HE.out, up_go ltInt b j dj hjc (by rw [← HG.out, ← HG.out]; simpa using hl)]
                              first
                                | exact ⟨j + 1, _, by first | rfl | (congr 1; omega), by omega, hz, he⟩
                                | ((repeat apply Exists.intro); exact ⟨⟨j + 1, _, by first | rfl | (congr 1; omega), by omega, hz, he⟩, rfl⟩)
                            case measure => first | (simp [intOf]; done) | (simp [intOf]; omega)
                        · have hs : shiftUp ltInt b (i2 + 1) d2 = dj := by
                            rw [← HE.out, up_stop]
                            exact .inl (by omega)
                          have HS3 := Lib.hid hs
                          have H3 := Lib.hid HJ.out
                          clear hs hcw hfw HG HE
                          go_wp2
                          obtain ⟨d3, hd3⟩ : ∃ d3, d3 = dj := ⟨_, rfl⟩
                          have hfu : fixUp ltInt b i2 d2 = d3 := by rw [hd3, ← HS3.out]; unfold fixUp; rw [if_pos (by omega)]
                          rw [← hd3] at H3
                          have HFU := Lib.hid hfu
                          clear hfu hd3
                          go_roundw
                          case rel =>
                            have hz : partialIns ltInt a b (5 - (t + 1)) i2 d3 = partialIns ltInt a b 5 (a + 1) d := by
                              rw [← HR.out, HSTEP.out, HFD.out, HFU.out]
                            first
                              | exact ⟨t + 1, i2, d3, by first | rfl | (congr 1; omega), by go_num, by omega, by omega, by omega, H3.out, hz⟩
                              | ((repeat apply Exists.intro); exact ⟨⟨t + 1, i2, d3, by first | rfl | (congr 1; omega), by go_num, by omega, by omega, by omega, H3.out, hz⟩, rfl⟩)
                          case measure => first | (simp [intOf]; done) | (simp [intOf]; omega)
                · have h2aI : 2 ≤ (i2 : Int) - (a : Int) := by omega
                  have h2bI : decide (2 ≤ (b : Int) - (i2 : Int)) = false := decide_eq_false (by omega)
                  go_wp2
                  go_region
                  have H1 := Lib.hid ((HJ.out.drewN (nq + 1)).swp j0 j1 (HG.out _) (HG.out _))
                  rw [← hd1] at H1
                  clear hd1 hcw hfw HG HE HSU
                  go_wp2
                  go_loopw [9] (fun vj w4 => ∃ (j : Nat) (dj : Array Int), vj = .int .i64 j ∧ (j ≤ i2 - 1) ∧ SR w g c N w4 dj ∧ shiftDown ltInt j dj = shiftDown ltInt (i2 - 1) d1) (fun vj _ => (intOf vj).toNat)
                  case atStart => exact ⟨i2 - 1, d1, by first | rfl | (congr 1; omega), by omega, H1.out, rfl⟩
                  case round =>
                    obtain ⟨j, dj, rfl, hjS, hs, hE⟩ := hrel
                    obtain ⟨G, hG, hcw, hfw⟩ := hs.names
                    have HJ := Lib.hid hs
                    have HG := Lib.hid hG
                    have HE := Lib.hid hE
                    clear hs hG hE
                    by_cases hjc : 1 ≤ j
                    · have j0 : j < N := by omega
                      have j1 : j - 1 < N := by omega
                      go_wp2
                      go_quiet (first | (go_at_call 60; refine Calls.quiet_of_same (less_any _ _ _)))
                      go_wp2
                      · rename (!ltInt (G j) (G (j - 1))) = true => hl
                        have hs : shiftDown ltInt (i2 - 1) d1 = dj := by
                          rw [← HE.out, down_stop]
                          exact .inr (by rw [← HG.out, ← HG.out]; simpa using hl)
                        have HS3 := Lib.hid hs
                        have H3 := Lib.hid (HJ.out.drewN nq)
                        clear hs hl hcw hfw HG HE
                        obtain ⟨d2, hd2⟩ : ∃ d2, d2 = dj := ⟨_, rfl⟩
                        have hfd : fixDown ltInt a i2 d1 = d2 := by rw [hd2, ← HS3.out]; unfold fixDown; rw [if_pos (by omega)]
                        have H2 := H3
                        rw [← hd2] at H2
                        have HFD := Lib.hid hfd
                        clear hfd hd2 HS3 H3
                        obtain ⟨d3, hd3⟩ : ∃ d3, d3 = d2 := ⟨_, rfl⟩
                        have hfu : fixUp ltInt b i2 d2 = d3 := by rw [hd3]; unfold fixUp; rw [if_neg (by omega)]
                        have H3 := H2
                        rw [← hd3] at H3
                        have HFU := Lib.hid hfu
                        clear hfu hd3
                        go_roundw
                        case rel =>
                          have hz : partialIns ltInt a b (5 - (t + 1)) i2 d3 = partialIns ltInt a b 5 (a + 1) d := by
                            rw [← HR.out, HSTEP.out, HFD.out, HFU.out]
                          first
                            | exact ⟨t + 1, i2, d3, by first | rfl | (congr 1; omega), by go_num, by omega, by omega, by omega, H3.out, hz⟩
                            | ((repeat apply Exists.intro); exact ⟨⟨t + 1, i2, d3, by first | rfl | (congr 1; omega), by go_num, by omega, by omega, by omega, H3.out, hz⟩, rfl⟩)
                        case measure => first | (simp [intOf]; done) | (simp [intOf]; omega)
                      · rename (!ltInt (G j) (G (j - 1))) = false => hl
                        go_region
                        go_wp2
                        go_roundw
                        case rel =>
                          have hz := (HJ.out.drewN (nq + 1)).swp j0 j1 (HG.out _) (HG.out _)
                          have he : shiftDown ltInt (j - 1) (Sort.swp dj j (j - 1)) = shiftDown ltInt (i2 - 1) d1 := by
                            rw [← HE.out, down_go ltInt j dj hjc (by rw [← HG.out, ← HG.out]; simpa using hl)]
                          first
                            | exact ⟨j - 1, _, by first | rfl | (congr 1; omega), by omega, hz, he⟩
                            | ((repeat apply Exists.intro); exact ⟨⟨j - 1, _, by first | rfl | (congr 1; omega), by omega, hz, he⟩, rfl⟩)
                        case measure => first | (simp [intOf]; done) | (simp [intOf]; omega)
                    · have hs : shiftDown ltInt (i2 - 1) d1 = dj := by
                        rw [← HE.out, down_stop]
                        exact .inl (by omega)
                      have HS3 := Lib.hid hs
                      have H3 := Lib.hid HJ.out
                      clear hs hcw hfw HG HE
                      go_wp2
                      obtain ⟨d2, hd2⟩ : ∃ d2, d2 = dj := ⟨_, rfl⟩
                      have hfd : fixDown ltInt a i2 d1 = d2 := by rw [hd2, ← HS3.out]; unfold fixDown; rw [if_pos (by omega)]
                      have H2 := H3
                      rw [← hd2] at H2
                      have HFD := Lib.hid hfd
                      clear hfd hd2 HS3 H3
                      obtain ⟨d3, hd3⟩ : ∃ d3, d3 = d2 := ⟨_, rfl⟩
                      have hfu : fixUp ltInt b i2 d2 = d3 := by rw [hd3]; unfold fixUp; rw [if_neg (by omega)]
                      have H3 := H2
                      rw [← hd3] at H3
                      have HFU := Lib.hid hfu
                      clear hfu hd3
                      go_roundw
                      case rel =>
                        have hz : partialIns ltInt a b (5 - (t + 1)) i2 d3 = partialIns ltInt a b 5 (a + 1) d := by
                          rw [← HR.out, HSTEP.out, HFD.out, HFU.out]
                        first
                          | exact ⟨t + 1, i2, d3, by first | rfl | (congr 1; omega), by go_num, by omega, by omega, by omega, H3.out, hz⟩
                          | ((repeat apply Exists.intro); exact ⟨⟨t + 1, i2, d3, by first | rfl | (congr 1; omega), by go_num, by omega, by omega, by omega, H3.out, hz⟩, rfl⟩)
                      case measure => first | (simp [intOf]; done) | (simp [intOf]; omega)
              · by_cases h2b : 2 ≤ b - i2
                · have h2aI : decide (2 ≤ (i2 : Int) - (a : Int)) = false := decide_eq_false (by omega)
                  have h2bI : 2 ≤ (b : Int) - (i2 : Int) := by omega
                  go_wp2
                  go_region
                  have H1 := Lib.hid ((HJ.out.drewN (nq + 1)).swp j0 j1 (HG.out _) (HG.out _))
                  rw [← hd1] at H1
                  clear hd1 hcw hfw HG HE HSU
                  go_wp2
                  obtain ⟨d2, hd2⟩ : ∃ d2, d2 = d1 := ⟨_, rfl⟩
                  have hfd : fixDown ltInt a i2 d1 = d2 := by rw [hd2]; unfold fixDown; rw [if_neg (by omega)]
                  have H2 := H1
                  rw [← hd2] at H2
                  have HFD := Lib.hid hfd
                  clear hfd hd2
                  go_loopw [10] (fun vj w4 => ∃ (j : Nat) (dj : Array Int), vj = .int .i64 j ∧ (i2 + 1 ≤ j ∧ j ≤ b) ∧ SR w g c N w4 dj ∧ shiftUp ltInt b j dj = shiftUp ltInt b (i2 + 1) d2) (fun vj _ => b + 1 - (intOf vj).toNat)
                  case atStart => exact ⟨i2 + 1, d2, by first | rfl | (congr 1; omega), by omega, H2.out, rfl⟩
                  case round =>
                    obtain ⟨j, dj, rfl, ⟨hjL, hjS⟩, hs, hE⟩ := hrel
                    obtain ⟨G, hG, hcw, hfw⟩ := hs.names
                    have HJ := Lib.hid hs
                    have HG := Lib.hid hG
                    have HE := Lib.hid hE
                    clear hs hG hE
                    by_cases hjc : j < b
                    · have j0 : j < N := by omega
                      have j1 : j - 1 < N := by omega
                      go_wp2
                      go_quiet (first | (go_at_call 60; refine Calls.quiet_of_same (less_any _ _ _)))
                      go_wp2
                      · rename (!ltInt (G j) (G (j - 1))) = true => hl
                        have hs : shiftUp ltInt b (i2 + 1) d2 = dj := by
                          rw [← HE.out, up_stop]
                          exact .inr (by rw [← HG.out, ← HG.out]; simpa using hl)
                        have HS3 := Lib.hid hs
                        have H3 := Lib.hid (HJ.out.drewN nq)
                        clear hs hl hcw hfw HG HE
                        obtain ⟨d3, hd3⟩ : ∃ d3, d3 = dj := ⟨_, rfl⟩
                        have hfu : fixUp ltInt b i2 d2 = d3 := by rw [hd3, ← HS3.out]; unfold fixUp; rw [if_pos (by omega)]
                        rw [← hd3] at H3
                        have HFU := Lib.hid hfu
                        clear hfu hd3
                        go_roundw
                        case rel =>
                          have hz : partialIns ltInt a b (5 - (t + 1)) i2 d3 = partialIns ltInt a b 5 (a + 1) d := by
                            rw [← HR.out, HSTEP.out, HFD.out, HFU.out]
                          first
                            | exact ⟨t + 1, i2, d3, by first | rfl | (congr 1; omega), by go_num, by omega, by omega, by omega, H3.out, hz⟩
                            | ((repeat apply Exists.intro); exact ⟨⟨t + 1, i2, d3, by first | rfl | (congr 1; omega), by go_num, by omega, by omega, by omega, H3.out, hz⟩, rfl⟩)
                        case measure => first | (simp [intOf]; done) | (simp [intOf]; omega)
                      · rename (!ltInt (G j) (G (j - 1))) = false => hl
                        go_region
                        go_wp2
                        go_roundw
                        case rel =>
                          have hz := (HJ.out.drewN (nq + 1)).swp j0 j1 (HG.out _) (HG.out _)
                          have he : shiftUp ltInt b (j + 1) (Sort.swp dj j (j - 1)) = shiftUp ltInt b (i2 + 1) d2 := by
                            rw [← HE.out, up_go ltInt b j dj hjc (by rw [← HG.out, ← HG.out]; simpa using hl)]
                          first
                            | exact ⟨j + 1, _, by first | rfl | (congr 1; omega), by omega, hz, he⟩
                            | ((repeat apply Exists.intro); exact ⟨⟨j + 1, _, by first | rfl | (congr 1; omega), by omega, hz, he⟩, rfl⟩)
                        case measure => first | (simp [intOf]; done) | (simp [intOf]; omega)
                    · have hs : shiftUp ltInt b (i2 + 1) d2 = dj := by
                        rw [← HE.out, up_stop]
                        exact .inl (by omega)
                      have HS3 := Lib.hid hs
                      have H3 := Lib.hid HJ.out
                      clear hs hcw hfw HG HE
                      go_wp2
                      obtain ⟨d3, hd3⟩ : ∃ d3, d3 = dj := ⟨_, rfl⟩
                      have hfu : fixUp ltInt b i2 d2 = d3 := by rw [hd3, ← HS3.out]; unfold fixUp; rw [if_pos (by omega)]
                      rw [← hd3] at H3
                      have HFU := Lib.hid hfu
                      clear hfu hd3
                      go_roundw
                      case rel =>
                        have hz : partialIns ltInt a b (5 - (t + 1)) i2 d3 = partialIns ltInt a b 5 (a + 1) d := by
                          rw [← HR.out, HSTEP.out, HFD.out, HFU.out]
                        first
                          | exact ⟨t + 1, i2, d3, by first | rfl | (congr 1; omega), by go_num, by omega, by omega, by omega, H3.out, hz⟩
                          | ((repeat apply Exists.intro); exact ⟨⟨t + 1, i2, d3, by first | rfl | (congr 1; omega), by go_num, by omega, by omega, by omega, H3.out, hz⟩, rfl⟩)
                      case measure => first | (simp [intOf]; done) | (simp [intOf]; omega)
                · omega
        · have hieq : i2 = b := by omega
          subst hieq
          have he : scanSorted ltInt dk i2 i = i2 := by rw [← HE.out, scan_stop ltInt dk i2 i2 (.inl (by omega))]
          rw [he, if_pos rfl] at hsucc
          have HSU := Lib.hid hsucc
          clear hsucc he
          go_wp2
          go_quiet (first | (go_at_call 60; refine Calls.quiet_of_same (less_any _ _ _)))
          go_wp2
          go_ret
          rw [HDEF.out, ← HR.out, HSU.out]
          exact ⟨rfl, HJ.out.drewN nq⟩
    · obtain rfl : t = 5 := by omega
      go_wp2
      go_ret
      rw [HDEF.out, ← HR.out]
      exact ⟨rfl, HK.out⟩
end Go.Proofs.Ytnleeffajljodaa
end

section
/- The library's contracts at this dump, as the tools of the kit lay them in plain words. -/
namespace Go.Proofs
open Go.Shelf
def Try.lays128_ren : Go.Shelf.Ren := ⟨fun | 128 => 63 | n => n, fun | 51 => 94 | 3 => 3 | 4 => 4 | 46 => 83 | 5 => 5 | 9 => 9 | n => n, fun | n => n⟩
theorem Try.lays128 : Go.Proofs.Lays.n128 Try.prog Try.lays128_ren := {
  mixed := by kernel_rfl
  f128 := Try.func63.trans (congrArg some (by kernel_rfl))
  t3 := Try.underlying3
  a3 := Try.isAgg3
  z3 := Try.sizeOf3
  v3 := Try.zeroValue3
  t4 := Try.underlying4
  a4 := Try.isAgg4
  z4 := Try.sizeOf4
  v4 := Try.zeroValue4
  t5 := Try.underlying5
  a5 := Try.isAgg5
  z5 := Try.sizeOf5
  v5 := Try.zeroValue5
  t9 := Try.underlying9
  a9 := Try.isAgg9
  z9 := Try.sizeOf9
  v9 := Try.zeroValue9
  t46 := Try.underlying83
  a46 := Try.isAgg83
  z46 := Try.sizeOf83
  v46 := Try.zeroValue83
  t51 := Try.underlying94
  a51 := Try.isAgg94
  z51 := Try.sizeOf94
  v51 := Try.zeroValue94 }
theorem Try.bits_Len32 (x : Int) (w : World) (h0 : 0 ≤ x) (h1 : x ≤ 4294967295) :
    Calls Try.prog 63 #[.int .u32 x] w fun e w' => e = .returned (.int .i64 (Lib.bitLen x.toNat)) ∧ w' = w := Any.bits_Len32 Try.lays128 x w h0 h1
def Try.lays125_ren : Go.Shelf.Ren := ⟨fun | 125 => 53 | 128 => 63 | 129 => 64 | n => n, fun | 46 => 83 | 3 => 3 | 51 => 94 | 53 => 25 | 4 => 4 | 5 => 5 | 9 => 9 | n => n, fun | n => n⟩
theorem Try.lays125 : Go.Proofs.Lays.n125 Try.prog Try.lays125_ren := {
  mixed := by kernel_rfl
  f125 := Try.func53.trans (congrArg some (by kernel_rfl))
  f128 := Try.func63.trans (congrArg some (by kernel_rfl))
  f129 := Try.func64.trans (congrArg some (by kernel_rfl))
  t3 := Try.underlying3
  a3 := Try.isAgg3
  z3 := Try.sizeOf3
  v3 := Try.zeroValue3
  t4 := Try.underlying4
  a4 := Try.isAgg4
  z4 := Try.sizeOf4
  v4 := Try.zeroValue4
  t5 := Try.underlying5
  a5 := Try.isAgg5
  z5 := Try.sizeOf5
  v5 := Try.zeroValue5
  t9 := Try.underlying9
  a9 := Try.isAgg9
  z9 := Try.sizeOf9
  v9 := Try.zeroValue9
  t46 := Try.underlying83
  a46 := Try.isAgg83
  z46 := Try.sizeOf83
  v46 := Try.zeroValue83
  t51 := Try.underlying94
  a51 := Try.isAgg94
  z51 := Try.sizeOf94
  v51 := Try.zeroValue94
  t53 := Try.underlying25
  a53 := Try.isAgg25
  z53 := Try.sizeOf25
  v53 := Try.zeroValue25 }
theorem Try.bits_Len (x : Int) (w : World) (h0 : 0 ≤ x) (h1 : x ≤ 18446744073709551615) :
    Calls Try.prog 53 #[.int .u64 x] w fun e w' => e = .returned (.int .i64 (Lib.bitLen x.toNat)) ∧ w' = w := Any.bits_Len Try.lays125 x w h0 h1
def Try.lays129_ren : Go.Shelf.Ren := ⟨fun | 129 => 64 | n => n, fun | 53 => 25 | 3 => 3 | 4 => 4 | 46 => 83 | 5 => 5 | 9 => 9 | n => n, fun | n => n⟩
theorem Try.lays129 : Go.Proofs.Lays.n129 Try.prog Try.lays129_ren := {
  mixed := by kernel_rfl
  f129 := Try.func64.trans (congrArg some (by kernel_rfl))
  t3 := Try.underlying3
  a3 := Try.isAgg3
  z3 := Try.sizeOf3
  v3 := Try.zeroValue3
  t4 := Try.underlying4
  a4 := Try.isAgg4
  z4 := Try.sizeOf4
  v4 := Try.zeroValue4
  t5 := Try.underlying5
  a5 := Try.isAgg5
  z5 := Try.sizeOf5
  v5 := Try.zeroValue5
  t9 := Try.underlying9
  a9 := Try.isAgg9
  z9 := Try.sizeOf9
  v9 := Try.zeroValue9
  t46 := Try.underlying83
  a46 := Try.isAgg83
  z46 := Try.sizeOf83
  v46 := Try.zeroValue83
  t53 := Try.underlying25
  a53 := Try.isAgg25
  z53 := Try.sizeOf25
  v53 := Try.zeroValue25 }
theorem Try.bits_Len64 (x : Int) (w : World) (h0 : 0 ≤ x) (h1 : x ≤ 18446744073709551615) :
    Calls Try.prog 64 #[.int .u64 x] w fun e w' => e = .returned (.int .i64 (Lib.bitLen x.toNat)) ∧ w' = w := Any.bits_Len64 Try.lays129 x w h0 h1
def Try.laysSlK4_ren : Go.Shelf.Ren := ⟨fun | 4 => 34 | n => n, fun | 22 => 29 | 4 => 4 | 5 => 5 | n => n, fun | n => n⟩
theorem Try.laysSlK4 : Go.Proofs.SlLaysK.n4 Try.prog Try.laysSlK4_ren := {
  mixed := by kernel_rfl
  f4 := Try.func34.trans (congrArg some (by kernel_rfl))
  t4 := Try.underlying4
  a4 := Try.isAgg4
  z4 := Try.sizeOf4
  v4 := Try.zeroValue4
  t22 := Try.underlying29
  a22 := Try.isAgg29
  z22 := Try.sizeOf29
  v22 := Try.zeroValue29
  t5 := Try.underlying5
  i5 := by kernel_rfl }
open Go.RowKit Go.Lib in
theorem Try.bytes_Clone_at (a : Addr) (n c : Nat) (xs : List Int) (w : World) (hx : xs.length = n) (hbig : n ≤ 140737488355328) (hc : ∀ i, i < n → w.cell? (a.add i) = some (.int .u8 (xs.getD i 0))) :
    Calls Try.prog 34 #[.slice (some a) n c] w fun e w' => ∃ v', e = .returned v' ∧ w'.ownsRow w.heap.size 5 1 v' n (xs.map (Value.int .u8)) ∧ v' ≠ .slice none 0 0 ∧ Below w.heap.size w w' := Any.bytes_Clone_at Try.laysSlK4 a n c xs w hx hbig hc
open Go.RowKit Go.Lib in
theorem Try.bytes_Clone_nil (n c : Nat) (w : World) :
    Calls Try.prog 34 #[.slice none n c] w fun e w' => e = .returned (.slice none 0 0) ∧ w' = w := Any.bytes_Clone_nil Try.laysSlK4 n c w
def Try.laysSlH6_f47_ren : Go.Shelf.Ren := ⟨fun | 6 => 47 | n => n, fun | 22 => 36 | 23 => 25 | 25 => 73 | 3 => 3 | 0 => 0 | 4 => 4 | n => n, fun | n => n⟩
theorem Try.laysSlH6_f47 : Go.Proofs.SlLaysH.n6 Try.prog Try.laysSlH6_f47_ren := {
  mixed := by kernel_rfl
  f6 := ⟨Try.f47.name, by decide, Try.func47.trans (congrArg some (by kernel_rfl))⟩
  t0 := Try.underlying0
  a0 := Try.isAgg0
  z0 := Try.sizeOf0
  v0 := Try.zeroValue0
  t3 := Try.underlying3
  a3 := Try.isAgg3
  z3 := Try.sizeOf3
  v3 := Try.zeroValue3
  t4 := Try.underlying4
  a4 := Try.isAgg4
  z4 := Try.sizeOf4
  v4 := Try.zeroValue4
  t22 := Try.underlying36
  a22 := Try.isAgg36
  z22 := Try.sizeOf36
  v22 := Try.zeroValue36
  a23 := Try.isAgg25
  z23 := Try.sizeOf25
  t25 := Try.underlying73
  a25 := Try.isAgg73
  z25 := Try.sizeOf73
  v25 := Try.zeroValue73 }
open Go.RowKit Go.Lib in
theorem Try.slices_IndexFunc {α : Type} [Inhabited α] (enc : α → Value) (p : α → Bool) (g : Nat) (lb : Array Value) (eg : ∀ args w, (callFunc g args).run Try.prog w = .ok (.enter g args) w) (b off n c : Nat) (zs : List α) (w : World) (hp : PredAt Try.prog g lb enc p w) (hz : n ≤ zs.length) (hbig : n ≤ 9223372036854775807) (hc : ∀ j, j < zs.length → w.cell? ⟨b, off + j, none⟩ = some (enc zs[j]!)) :
    Calls Try.prog 47 #[.slice (some ⟨b, off, none⟩) n c, .func (.func g) #[] lb] w fun e w' => e = .returned (.int .i64 (Lib.idxBy (fun _ y => p y) (zs.take n) default)) ∧ ∃ q, w' = w.drewN q := AnyE.slices_IndexFunc Try.laysSlH6_f47 enc p g lb eg b off n c zs w hp hz hbig hc
open Go.RowKit Go.Lib in
theorem Try.slices_IndexFunc_empty {α : Type} [Inhabited α] (a : Option Addr) (c : Nat) (fv : Value) (w : World) :
    Calls Try.prog 47 #[.slice a 0 c, fv] w fun e w' => e = .returned (.int .i64 (-1)) ∧ w' = w := AnyE.slices_IndexFunc_empty Try.laysSlH6_f47 a c fv w
def Try.laysSlH10_f43_ren : Go.Shelf.Ren := ⟨fun | 10 => 43 | 6 => 47 | n => n, fun | 22 => 36 | 23 => 25 | 25 => 73 | 3 => 3 | 4 => 4 | 0 => 0 | n => n, fun | n => n⟩
theorem Try.laysSlH10_f43 : Go.Proofs.SlLaysH.n10 Try.prog Try.laysSlH10_f43_ren := {
  mixed := by kernel_rfl
  f6 := ⟨Try.f47.name, by decide, Try.func47.trans (congrArg some (by kernel_rfl))⟩
  f10 := ⟨Try.f43.name, by decide, Try.func43.trans (congrArg some (by kernel_rfl))⟩
  t0 := Try.underlying0
  a0 := Try.isAgg0
  z0 := Try.sizeOf0
  v0 := Try.zeroValue0
  t3 := Try.underlying3
  a3 := Try.isAgg3
  z3 := Try.sizeOf3
  v3 := Try.zeroValue3
  t4 := Try.underlying4
  a4 := Try.isAgg4
  z4 := Try.sizeOf4
  v4 := Try.zeroValue4
  t22 := Try.underlying36
  a22 := Try.isAgg36
  z22 := Try.sizeOf36
  v22 := Try.zeroValue36
  a23 := Try.isAgg25
  z23 := Try.sizeOf25
  t25 := Try.underlying73
  a25 := Try.isAgg73
  z25 := Try.sizeOf73
  v25 := Try.zeroValue73 }
open Go.RowKit Go.Lib Go.Sort in
theorem Try.slices_DeleteFunc {α : Type} [Inhabited α] (enc : α → Value) (hO : OneCell enc) (p : α → Bool) (g : Nat) (lb : Array Value) (eg : ∀ args w, (callFunc g args).run Try.prog w = .ok (.enter g args) w) (zr : α) (v23 : ∀ w, (zeroValue 25).run Try.prog w = .ok (enc zr) w) (blk off cap : Nat) (d : Array α) (w : World) (hp : PredAt Try.prog g lb enc p w) (hpo : PredOver Try.prog g lb enc p blk off d.size w) (hH : Holds enc w blk off d) (hsz : d.size ≤ 9223372036854775807) (hcap : d.size ≤ cap) :
    Calls Try.prog 43 #[.slice (some ⟨blk, off, none⟩) d.size cap, .func (.func g) #[] lb] w fun e w' => e = .returned (.slice (some ⟨blk, off, none⟩) (d.toList.filter fun x => !p x).length cap) ∧ ∃ q, w' = putRow enc (Sort.ahead w q) blk off ((d.toList.filter fun x => !p x) ++ List.replicate (d.size - (d.toList.filter fun x => !p x).length) zr).toArray := AnyE.slices_DeleteFunc Try.laysSlH10_f43 enc hO p g lb eg zr v23 blk off cap d w hp hpo hH hsz hcap

end Go.Proofs
end

section
/- slices.breakPatternsOrdered over uint64: a permutation. -/
namespace Go.Proofs.Ytnleeffajljodaa
open Go.RowKit Go.Sort
set_option linter.unusedVariables false

/-- a number of 64 bits -/
def U64 (x : Int) : Prop := 0 ≤ x ∧ x ≤ 18446744073709551615

theorem wrap_u64 (n : Int) : U64 (IntKind.u64.wrap n) := by rw [IntKind.wrap_u64]; unfold U64; omega
theorem div_u64 {n : Int} (h : U64 n) : U64 (n / 128) := by unfold U64 at *; omega
theorem xor_u64 (a b : Int) (ha : U64 a) (hb : U64 b) : U64 (bits .xor .u64 a b) := by
  unfold U64 at *
  rw [Go.u64_xor a b ha.1 (by omega) hb.1 (by omega)]
  have := Nat.xor_lt_two_pow (x := a.toNat) (y := b.toNat) (n := 64) (by omega) (by omega)
  omega
theorem and_u64 (a b : Int) (ha : U64 a) (hb : U64 b) : ∃ k : Nat, bits .and .u64 a b = (k : Int) ∧ (k : Int) ≤ b := by
  unfold U64 at *
  refine ⟨a.toNat &&& b.toNat, Go.u64_and a b ha.1 (by omega) hb.1 (by omega), ?_⟩
  have : a.toNat &&& b.toNat ≤ b.toNat := Nat.and_le_right
  omega

set_option maxHeartbeats 1000000 in
theorem next_any {w : World} {sb : Nat} {x : Int} (hx : U64 x) (h : Whole w sb 95 #[.int .u64 x]) :
    Calls Try.prog 67 #[.pointer (some ⟨sb, 0, none⟩)] w fun e w' => ∃ y, U64 y ∧ e = .returned (.int .u64 y) ∧ w.grownBy w' (some sb) ∧ Whole w' sb 95 #[.int .u64 y] := by
  have hc := h.cell 0
  have hf := h.frozen 0
  simp only [List.getElem?_toArray, List.getElem?_cons_zero] at hc
  have HH := Lib.hid h
  have HX := Lib.hid hx
  clear h hx
  go_enter Try.func67, Try.ntmps67
  go_wp2
  go_region
  have hU1 : U64 (bits BinOp.xor IntKind.u64 x (IntKind.u64.wrap (x * 8192))) := xor_u64 _ _ HX.out (wrap_u64 _)
  generalize bits BinOp.xor IntKind.u64 x (IntKind.u64.wrap (x * 8192)) = y1 at hU1 ⊢
  have hw1 : Whole (w.setCell ⟨sb, 0, none⟩ (.int .u64 y1)).drew sb 95 #[.int .u64 y1] := HH.out.put 0 _
  have hg1 : w.grownBy (w.setCell ⟨sb, 0, none⟩ (.int .u64 y1)).drew (some sb) := Only.drew (Only.put (Only.refl w sb) 0 _)
  generalize (w.setCell ⟨sb, 0, none⟩ (.int .u64 y1)).drew = w1 at hw1 hg1 ⊢
  have HY1 := Lib.hid hU1
  have HG1 := Lib.hid hg1
  have HW1 := Lib.hid hw1
  have hc1 := hw1.cell 0
  have hf1 := hw1.frozen 0
  simp only [List.getElem?_toArray, List.getElem?_cons_zero] at hc1
  clear hU1 hg1 hw1 hc hf
  go_wp2
  go_region
  have hU2 : U64 (bits BinOp.xor IntKind.u64 y1 (y1 / 128)) := xor_u64 _ _ HY1.out (div_u64 HY1.out)
  generalize bits BinOp.xor IntKind.u64 y1 (y1 / 128) = y2 at hU2 ⊢
  have hw2 : Whole (w1.setCell ⟨sb, 0, none⟩ (.int .u64 y2)).drew sb 95 #[.int .u64 y2] := HW1.out.put 0 _
  have hg2 : w.grownBy (w1.setCell ⟨sb, 0, none⟩ (.int .u64 y2)).drew (some sb) := Only.drew (Only.put HG1.out 0 _)
  generalize (w1.setCell ⟨sb, 0, none⟩ (.int .u64 y2)).drew = w2 at hw2 hg2 ⊢
  have HY2 := Lib.hid hU2
  have HG2 := Lib.hid hg2
  have HW2 := Lib.hid hw2
  have hc2 := hw2.cell 0
  have hf2 := hw2.frozen 0
  simp only [List.getElem?_toArray, List.getElem?_cons_zero] at hc2
  clear hU2 hg2 hw2 hc1 hf1
  go_wp2
  go_region
  have hU3 : U64 (bits BinOp.xor IntKind.u64 y2 (IntKind.u64.wrap (y2 * 131072))) := xor_u64 _ _ HY2.out (wrap_u64 _)
  generalize bits BinOp.xor IntKind.u64 y2 (IntKind.u64.wrap (y2 * 131072)) = y3 at hU3 ⊢
  have hw3 : Whole (w2.setCell ⟨sb, 0, none⟩ (.int .u64 y3)).drew sb 95 #[.int .u64 y3] := HW2.out.put 0 _
  have hg3 : w.grownBy (w2.setCell ⟨sb, 0, none⟩ (.int .u64 y3)).drew (some sb) := Only.drew (Only.put HG2.out 0 _)
  generalize (w2.setCell ⟨sb, 0, none⟩ (.int .u64 y3)).drew = w3 at hw3 hg3 ⊢
  have HY3 := Lib.hid hU3
  have HG3 := Lib.hid hg3
  have HW3 := Lib.hid hw3
  have hc3 := hw3.cell 0
  have hf3 := hw3.frozen 0
  simp only [List.getElem?_toArray, List.getElem?_cons_zero] at hc3
  clear hU3 hg3 hw3 hc2 hf2
  go_wp2
  go_ret
  exact ⟨y3, HY3.out, rfl, HG3.out, HW3.out⟩

theorem pow_len : ∀ (n : Nat), 1 ≤ n → n < 18446744073709551616 → 2 ^ (Lib.bitLen n) ≤ 2 * n := by
  intro n
  induction n using Nat.strongRecOn with
  | ind n ih =>
    intro h1 h2
    rw [Lib.bitLen_half n (by omega) (by omega)]
    by_cases h : n = 1
    · subst h
      decide
    · have := ih (n / 2) (by omega) (by omega) (by omega)
      rw [Nat.pow_add]
      omega

set_option maxHeartbeats 1000000 in
theorem nextpow_any (n : Nat) (w : World) (h1 : 1 ≤ n) (h2 : n < 4611686018427387904) :
    Calls Try.prog 66 #[.int .i64 n] w fun e w' => (∃ m : Nat, 1 ≤ m ∧ m ≤ 2 * n ∧ e = .returned (.int .u64 m)) ∧ w' = w := by
  have hp := pow_len n h1 (by omega)
  obtain ⟨k, hk⟩ : ∃ k, Lib.bitLen n = k := ⟨_, rfl⟩
  rw [hk] at hp
  have hpos : 1 ≤ 2 ^ k := Nat.one_le_two_pow
  have hk64 : k < 64 := by
    rcases Nat.lt_or_ge k 64 with h | h
    · exact h
    · have := Nat.pow_le_pow_right (n := 2) (by omega) h
      omega
  have hw : IntKind.u64.wrap (n : Int) = (n : Int) := by rw [IntKind.wrap_u64]; omega
  have hwp : IntKind.u64.wrap ((2 : Int) ^ k) = (2 : Int) ^ k := by
    have : ((2 : Int) ^ k) = ((2 ^ k : Nat) : Int) := by push_cast; rfl
    rw [this, IntKind.wrap_u64]; omega
  have HP := Lib.hid hp
  have HPO := Lib.hid hpos
  clear hp hpos
  go_enter Try.func66, Try.ntmps66
  go_wp2_with (go_at_call 53; refine (Try.bits_Len _ _ (by omega) (by omega)).mono ?_; rintro e w' ⟨rfl, rfl⟩; simp only [Int.toNat_natCast]; rw [hk])
  go_ret
  refine ⟨⟨2 ^ k, HPO.out, HP.out, ?_⟩, rfl⟩
  simp
end Go.Proofs.Ytnleeffajljodaa
end

section
/- slices.breakPatternsOrdered over uint64: a permutation. -/
namespace Go.Proofs.Ytnleeffajljodaa
open Go.RowKit Go.Sort
set_option linter.unusedVariables false

set_option maxHeartbeats 8000000 in
set_option maxRecDepth 1000000 in
theorem break_any {g c N : Nat} {d : Array Int} {w : World} (h : SR w g c N w d) (cap a b : Nat) (hab : 12 < b - a) (hb : b ≤ N) (hN : N < 4611686018427387904) :
    Calls Try.prog 56 #[.slice (some ⟨g, 0, none⟩) N cap, .int .i64 a, .int .i64 b] w fun e w' => e = .returned (.tuple #[]) ∧ ∃ d', SR w g c N w' d' ∧ PermIn a b d d' := by
  obtain ⟨n, hn⟩ : ∃ n, b - a = n := ⟨_, rfl⟩
  have hnI : (b : Int) - (a : Int) = (n : Int) := by omega
  obtain ⟨q, hq⟩ : ∃ q, n / 4 = q := ⟨_, rfl⟩
  have hqI : (n : Int) / 4 = (q : Int) := by omega
  have hqT : (n : Int).tdiv 4 = (q : Int) := by rw [Int.tdiv_eq_ediv_of_nonneg (by omega)]; exact hqI
  have hq3 : 3 ≤ q := by omega
  have hq4 : 4 * q ≤ n := by omega
  have hwn : IntKind.u64.wrap (n : Int) = (n : Int) := by rw [IntKind.wrap_u64]; omega
  have hgl := h.lt
  have h0 : SR w g c N (w.alloc (.cells #[.int .u64 n] 95)) d := h.alloc _
  have hb0 : Whole (w.alloc (.cells #[.int .u64 n] 95)) w.heap.size 95 #[.int .u64 n] := Whole.new w 95 _
  have HS := Lib.hid h0
  have HB := Lib.hid hb0
  clear h h0 hb0
  go_enter Try.func56, Try.ntmps56
  go_wp2_with fail
  go_at_call 66
  refine (nextpow_any n _ (by omega) (by omega)).mono ?_
  rintro e w1 ⟨⟨m, hm1, hm2, rfl⟩, rfl⟩
  go_wp2
  generalize w.alloc (.cells #[.int .u64 n] 95) = w1 at HS HB ⊢
  go_loopw [9] (fun vi wr => ∃ (i : Nat) (dk : Array Int) (x : Int), vi = .int .i64 i ∧ a + q * 2 - 1 ≤ i ∧ i ≤ a + q * 2 + 2 ∧ SR w g c N wr dk ∧ PermIn a b d dk ∧ U64 x ∧ Whole wr w.heap.size 95 #[.int .u64 x]) (fun vi _ => a + q * 2 + 3 - (intOf vi).toNat)
  case atStart => exact ⟨a + q * 2 - 1, d, n, by congr 1; omega, Nat.le_refl _, by omega, HS.out, Sort.permIn_refl _ _ _, ⟨by omega, by omega⟩, HB.out⟩
  case round =>
    obtain ⟨i, dk, x, rfl, hi1, hi2, hs, hp, hx, hbx⟩ := hrel
    have HJ := Lib.hid hs
    have HP := Lib.hid hp
    clear hs hp
    by_cases hie : i ≤ a + q * 2 + 1
    · have hieI : (i : Int) ≤ (a : Int) + q * 2 + 1 := by omega
      go_wp2_with fail
      go_at_call 67
      refine (next_any hx hbx).mono ?_
      clear hx hbx
      rintro e w3 ⟨y, hy, rfl, hg3, hw3⟩
      obtain ⟨o, ho, hom⟩ := and_u64 y ((m : Int) - 1) hy ⟨by omega, by omega⟩
      have HY := Lib.hid hy
      have HG3 := Lib.hid hg3
      have HW3 := Lib.hid hw3
      have H3 := Lib.hid (HJ.out.far hg3 (Nat.le_refl _) (by omega))
      clear hy hg3 hw3
      go_wp2_with fail
      · have hno : n ≤ o := by assumption
        obtain ⟨o2, ho2⟩ : ∃ o2, o - n = o2 := ⟨_, rfl⟩
        have ho2I : (o : Int) - (n : Int) = (o2 : Int) := by omega
        have ho2n : o2 < n := by omega
        rw [ho2I]
        clear ho2I ho
        obtain ⟨G, hG, hcw, hfw⟩ := H3.out.names
        have HG := Lib.hid hG
        clear hG
        have i0 : i < N := by omega
        have i1 : a + o2 < N := by omega
        have hboth := H3.out.both i0 i1 (HG.out (a + o2))
        go_region
        have H5 := Lib.hid ((H3.out.swp i0 i1 (HG.out (a + o2)) (HG.out i)).drew)
        have HW5 := Lib.hid ((Whole.far (p := ⟨g, i, none⟩) (HW3.out) (by show w.heap.size ≠ g; omega) (.int .u64 (G (a + o2)))).far (p := ⟨g, a + o2, none⟩) (by show w.heap.size ≠ g; omega) (.int .u64 (G i))).drew
        go_wp2
        go_roundw
        case rel => exact ⟨i + 1, _, y, by go_num, by omega, by omega, H5.out, perm_swp HP.out HJ.out.len hb ⟨by omega, by omega⟩ ⟨by omega, by omega⟩, HY.out, HW5.out⟩
        case measure => first | (simp [intOf]; done) | (simp [intOf]; omega)
      · have hno : ¬ n ≤ o := by assumption
        obtain ⟨o2, ho2⟩ : ∃ o2, o = o2 := ⟨_, rfl⟩
        subst ho2
        clear ho
        obtain ⟨G, hG, hcw, hfw⟩ := H3.out.names
        have HG := Lib.hid hG
        clear hG
        have i0 : i < N := by omega
        have i1 : a + o < N := by omega
        have hboth := H3.out.both i0 i1 (HG.out (a + o))
        go_region
        have H5 := Lib.hid ((H3.out.swp i0 i1 (HG.out (a + o)) (HG.out i)).drew)
        have HW5 := Lib.hid ((Whole.far (p := ⟨g, i, none⟩) (HW3.out) (by show w.heap.size ≠ g; omega) (.int .u64 (G (a + o)))).far (p := ⟨g, a + o, none⟩) (by show w.heap.size ≠ g; omega) (.int .u64 (G i))).drew
        go_wp2
        go_roundw
        case rel => exact ⟨i + 1, _, y, by go_num, by omega, by omega, H5.out, perm_swp HP.out HJ.out.len hb ⟨by omega, by omega⟩ ⟨by omega, by omega⟩, HY.out, HW5.out⟩
        case measure => first | (simp [intOf]; done) | (simp [intOf]; omega)
    · have hieI : decide ((i : Int) ≤ (a : Int) + q * 2 + 1) = false := decide_eq_false (by omega)
      go_wp2
      go_end0
      exact ⟨rfl, dk, HJ.out, HP.out⟩
end Go.Proofs.Ytnleeffajljodaa
end
