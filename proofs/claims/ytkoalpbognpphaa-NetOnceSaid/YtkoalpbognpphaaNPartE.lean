/- slices.partitionEqualOrdered over uint64: written by gen_part.py. -/
import Derived.Test.YtkoalpbognpphaaNPt
import Derived.Deep.QuietTactic
import Derived.BigQuiet
import Derived.Deep.LoopGhost
import Derived.Handy
namespace Go.Proofs.Ytkoalpbognpphaa
open Go.RowKit Go.Sort
set_option linter.unusedVariables false

set_option maxHeartbeats 16000000 in
set_option maxRecDepth 1000000 in
theorem partE_any {g c N : Nat} {d : Array Int} {w : World} (h : SR w g c N w d) (cap a b q : Nat) (ha : a ≤ q) (hq : q < b) (hb : b ≤ N) (hN : N < 4611686018427387904) :
    Calls Try.prog 61 #[.slice (some ⟨g, 0, none⟩) N cap, .int .i64 a, .int .i64 b, .int .i64 q] w fun e w' => (∃ (m : Nat) (d' : Array Int), e = .returned (.int .i64 m) ∧ SR w g c N w' d' ∧ PermIn a b d d' ∧ a < m ∧ m ≤ b ∧ (∀ k, a ≤ k → k < m → ltInt d[q]! d'[k]! = false) ∧ ∀ k, m ≤ k → k < b → ltInt d[q]! d'[k]! = true) := by
  obtain ⟨p, hpq⟩ : ∃ p, p = d[q]! := ⟨_, rfl⟩
  have HPQ := Lib.hid hpq
  clear hpq
  obtain ⟨G, hG, hcw, hfw⟩ := h.names
  have HG := Lib.hid hG
  have HS := Lib.hid h
  clear h hG
  have haN : a < N := by omega
  have hqN : q < N := by omega
  have hboth := HS.out.both haN hqN (HG.out q)
  go_enter Try.func61, Try.ntmps61
  go_wp2
  go_region
  have h0 := (Pt.start (P := fun x => !ltInt p x) HS.out ha hq hb (by omega) (HG.out _) (HG.out _)).drew
  rw [← HPQ.out] at h0
  have H0 := Lib.hid h0
  clear h0
  obtain ⟨dk, hdk⟩ : ∃ dk, dk = Sort.swp d a q := ⟨_, rfl⟩
  rw [← hdk] at H0
  clear hdk hcw hfw HG HS hboth
  obtain ⟨i0, hi0⟩ : ∃ i0, i0 = a + 1 := ⟨_, rfl⟩
  obtain ⟨jS, hjS0⟩ : ∃ jS, jS = b - 1 := ⟨_, rfl⟩
  rw [← hi0, ← hjS0] at H0
  go_wp2
  go_loopg [9, 10] (N + 1) (fun K s10 s11 wm => ∃ (i j : Nat) (dk : Array Int), s10 = .int .i64 i ∧ s11 = .int .i64 j ∧ j + 1 - i ≤ K ∧ Pt w g c N a b (fun x => !ltInt p x) p d i j wm dk)
  case atStart => exact ⟨i0, jS, dk, by congr 1; omega, by congr 1; omega, by omega, H0.out⟩
  case round =>
    obtain ⟨i0, jS, dk, rfl, rfl, hK, h0⟩ := hrel
    have H0 := Lib.hid h0
    clear h0
    go_wp2
    go_loopw [9] (fun vi w2 => ∃ (i : Nat), vi = .int .i64 i ∧ i0 ≤ i ∧ Pt w g c N a b (fun x => !ltInt p x) p d i jS w2 dk) (fun vi _ => jS + 1 - (intOf vi).toNat)
    case atStart => exact ⟨i0, by first | rfl | (congr 1; omega), Nat.le_refl _, H0.out⟩
    case round =>
      obtain ⟨i, rfl, hi0i, h3⟩ := hrel
      have hlo := h3.lo
      have hhi := h3.hi
      have hbN := h3.bN
      have hmid := h3.mid
      obtain ⟨G, hG, hcw, hfw⟩ := h3.sr.names
      have HT := Lib.hid h3.at_
      have HG := Lib.hid hG
      have HH := Lib.hid h3
      clear hG h3
      have haN : a < N := by omega
      by_cases hij : i ≤ jS
      · have hiN : i < N := by omega
        go_wp2
        go_quiet (first | (go_at_call 60; refine Calls.quiet_of_same (less_any _ _ _)))
        go_wp2
        · rename (!ltInt (G a) (G i)) = true => hl0
          have hl : ltInt (G a) (G i) = false := by simpa using hl0
          clear hl0
          go_roundw
          case rel => exact ⟨i + 1, by go_num, by omega, (HH.out.up hij (by show (!ltInt p dk[i]!) = true; rw [← HT.out, ← HG.out, ← HG.out, hl]; rfl)).drewN _⟩
          case measure => first | (simp [intOf]; done) | (simp [intOf]; omega)
        · rename (!ltInt (G a) (G i)) = false => hl0
          have hl : ltInt (G a) (G i) = true := by simpa using hl0
          clear hl0
          have hr : i ≤ jS → (fun x => !ltInt p x) dk[i]! = false := fun _ => by show (!ltInt p dk[i]!) = false; rw [← HT.out, ← HG.out, ← HG.out, hl]; rfl
          have HR := Lib.hid hr
          have HW := Lib.hid (HH.out.drewN nq)
          clear hr hcw hfw HG HT hl
          go_loopw [10] (fun vj w2 => ∃ (j : Nat), vj = .int .i64 j ∧ j ≤ jS ∧ Pt w g c N a b (fun x => !ltInt p x) p d i j w2 dk) (fun vj _ => (intOf vj).toNat)
          case atStart => exact ⟨jS, by first | rfl | (congr 1; omega), Nat.le_refl _, HW.out⟩
          case round =>
            obtain ⟨j, rfl, hjS, h3⟩ := hrel
            have hlo := h3.lo
            have hhi := h3.hi
            have hbN := h3.bN
            have hmid := h3.mid
            obtain ⟨G, hG, hcw, hfw⟩ := h3.sr.names
            have HT := Lib.hid h3.at_
            have HG := Lib.hid hG
            have HH := Lib.hid h3
            clear hG h3
            have haN : a < N := by omega
            by_cases hij : i ≤ j
            · have hjN : j < N := by omega
              go_wp2
              go_quiet (first | (go_at_call 60; refine Calls.quiet_of_same (less_any _ _ _)))
              go_wp2
              · rename ltInt (G a) (G j) = true => hl
                go_roundw
                case rel =>
                  have hz := (HH.out.down hij (by show (!ltInt p dk[j]!) = false; rw [← HT.out, ← HG.out, ← HG.out, hl]; rfl)).drewN nq
                  first
                    | exact ⟨j - 1, by congr 1; omega, by omega, hz⟩
                case measure => first | (simp [intOf]; done) | (simp [intOf]; omega)
              · rename ltInt (G a) (G j) = false => hl
                have HU := Lib.hid (HR.out (by omega))
                have hdn : (fun x => !ltInt p x) dk[j]! = true := by show (!ltInt p dk[j]!) = true; rw [← HT.out, ← HG.out, ← HG.out, hl]; rfl
                have HD := Lib.hid hdn
                clear hdn
                have hiN : i < N := by omega
                have hlt := (HH.out.swap hij HU.out HD.out rfl rfl).1
                go_region
                go_wp2
                go_roundg (j - 1 + 1 - (i + 1))
                case measure => omega
                case rel => exact ⟨i + 1, j - 1, Sort.swp dk i j, by go_num, by first | rfl | (congr 1; omega), Nat.le_refl _, ((HH.out.drewN nq).swap hij HU.out HD.out (HG.out _) (HG.out _)).2.drew⟩
            · go_wp2
              go_quiet (first | (go_at_call 60; refine Calls.quiet_of_same (less_any _ _ _)))
              go_wp2
              have hji : j < i := by omega
              go_ret
              have hz := HH.out
              refine ⟨i, dk, rfl, hz.sr.drewN _, hz.perm, by omega, by omega, fun k k1 k2 => ?_, fun k k1 k2 => ?_⟩
              · rcases Nat.eq_or_lt_of_le k1 with e1 | e1
                · rw [← e1, hz.at_, HPQ.out]
                  exact decide_eq_false (by omega)
                · have := hz.left k e1 k2
                  rw [← HPQ.out]
                  simpa using this
              · have := hz.right k (by omega) k2
                rw [← HPQ.out]
                simpa using this
      · have hr : i ≤ jS → (fun x => !ltInt p x) dk[i]! = false := fun h => absurd h hij
        have HR := Lib.hid hr
        clear hr
        go_wp2
        go_quiet (first | (go_at_call 60; refine Calls.quiet_of_same (less_any _ _ _)))
        have HW := Lib.hid (HH.out.drewN nq)
        clear hcw hfw HG HT
        go_wp2
        go_loopw [10] (fun vj w2 => ∃ (j : Nat), vj = .int .i64 j ∧ j ≤ jS ∧ Pt w g c N a b (fun x => !ltInt p x) p d i j w2 dk) (fun vj _ => (intOf vj).toNat)
        case atStart => exact ⟨jS, by first | rfl | (congr 1; omega), Nat.le_refl _, HW.out⟩
        case round =>
          obtain ⟨j, rfl, hjS, h3⟩ := hrel
          have hlo := h3.lo
          have hhi := h3.hi
          have hbN := h3.bN
          have hmid := h3.mid
          obtain ⟨G, hG, hcw, hfw⟩ := h3.sr.names
          have HT := Lib.hid h3.at_
          have HG := Lib.hid hG
          have HH := Lib.hid h3
          clear hG h3
          have haN : a < N := by omega
          by_cases hij : i ≤ j
          · omega
          · go_wp2
            go_quiet (first | (go_at_call 60; refine Calls.quiet_of_same (less_any _ _ _)))
            go_wp2
            have hji : j < i := by omega
            go_ret
            have hz := HH.out
            refine ⟨i, dk, rfl, hz.sr.drewN _, hz.perm, by omega, by omega, fun k k1 k2 => ?_, fun k k1 k2 => ?_⟩
            · rcases Nat.eq_or_lt_of_le k1 with e1 | e1
              · rw [← e1, hz.at_, HPQ.out]
                exact decide_eq_false (by omega)
              · have := hz.left k e1 k2
                rw [← HPQ.out]
                simpa using this
            · have := hz.right k (by omega) k2
              rw [← HPQ.out]
              simpa using this
end Go.Proofs.Ytkoalpbognpphaa
