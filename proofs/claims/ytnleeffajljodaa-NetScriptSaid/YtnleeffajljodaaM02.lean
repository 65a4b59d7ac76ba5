/- Several texts, each a section: NChoose, NPt, NPart, NPartE, NHeap, NHeap2. -/
import Derived.Test.YtnleeffajljodaaM01
import Derived.Deep.QuietTactic
import Derived.BigQuiet
import Derived.Deep.LoopGhost
import Derived.Handy
import Derived.IntWalk
section
/- slices.choosePivotOrdered over uint64: some place within; nothing that lay turns. -/
namespace Go.Proofs.Ytnleeffajljodaa
open Go.RowKit Go.Sort
set_option linter.unusedVariables false

set_option maxHeartbeats 4000000 in
theorem choose_any {w : World} {g c N : Nat} {d : Array Int} (h : SR w g c N w d) (cap a b : Nat) (hab : 12 < b - a) (hb : b ≤ N) (hN : N < 4611686018427387904) :
    Calls Try.prog 57 #[.slice (some ⟨g, 0, none⟩) N cap, .int .i64 a, .int .i64 b] w fun e w' =>
      (∃ (p : Nat) (k : Int), a ≤ p ∧ p < b ∧ e = .returned (.tuple #[.int .i64 p, .int .i64 k])) ∧ w.grownBy w' none := by
  obtain ⟨G, hG, hcw, hfw⟩ := h.names
  have HG := Lib.hid hG
  have hgl := h.lt
  clear h hG hfw
  have h0 : Pv (w.alloc (.cells #[.int .i64 0] 3)) g N w.heap.size G (w.alloc (.cells #[.int .i64 0] 3)) 0 :=
    ⟨Only.refl _ _, fun t ht => (World.cell?_alloc_lt w _ _ (by simpa using hgl)).trans (hcw t ht), ⟨0, Nat.le_refl _, Whole.new w 3 _⟩, by omega⟩
  have H0 := Lib.hid h0
  clear h0 hcw
  have out : ∀ {w' : World} {m : Nat} (_ : Pv (w.alloc (.cells #[.int .i64 0] 3)) g N w.heap.size G w' m), w.grownBy w' none := fun h =>
    have hg := h.gr
    ⟨hg.os, hg.tape, hg.output, by have := hg.size; simp at this; omega, fun i hi _ => (hg.block i (by simp; omega) (fun e => by cases e; omega)).trans (Below.heap_alloc w _ i hi)⟩
  have OUT : Hid (∀ (w' : World) (m : Nat), Pv (w.alloc (.cells #[.int .i64 0] 3)) g N w.heap.size G w' m → w.grownBy w' none) := Lib.hid fun _ _ h => out h
  clear out
  obtain ⟨q, hq⟩ : ∃ q, (b - a) / 4 = q := ⟨_, rfl⟩
  have hq3 : 3 ≤ q := by omega
  have hq4 : 4 * q ≤ b - a := by omega
  have hdv : ((b : Int) - (a : Int)) / 4 = (q : Int) := by omega
  have hdt : ((b : Int) - (a : Int)).tdiv 4 = (q : Int) := by rw [Int.tdiv_eq_ediv_of_nonneg (by omega)]; exact hdv
  go_enter Try.func57, Try.ntmps57
  have h8 : (8 : Int) ≤ (b : Int) - a := by omega
  by_cases h50 : 50 ≤ b - a
  · have h50' : (50 : Int) ≤ (b : Int) - a := by omega
    have hq12 : 12 ≤ q := by omega
    go_wp2_with fail
    go_at_call 68
    have c1 := adjacent_any H0.out (by omega) cap (a + q) (by omega) (by omega) hN
    rw [show ((a + q : Nat) : Int) = (a : Int) + q by omega] at c1
    refine c1.mono ?_
    clear c1
    rintro e w1 ⟨⟨x, hx, rfl⟩, h1⟩
    have hx' : a ≤ x ∧ x < b := by unfold One3 at hx; omega
    clear hx
    have H1 := Lib.hid h1
    clear h1
    go_wp2_with fail
    go_at_call 68
    have c2 := adjacent_any H1.out.now (by omega) cap (a + q * 2) (by omega) (by omega) hN
    rw [show ((a + q * 2 : Nat) : Int) = (a : Int) + q * 2 by omega] at c2
    refine c2.mono ?_
    clear c2
    rintro e w2 ⟨⟨y, hy, rfl⟩, h2⟩
    have hy' : a ≤ y ∧ y < b := by unfold One3 at hy; omega
    clear hy
    have H2 := Lib.hid (H1.out.trans h2)
    clear h2 H1
    go_wp2_with fail
    go_at_call 68
    have c3 := adjacent_any H2.out.now (by omega) cap (a + q * 3) (by omega) (by omega) hN
    rw [show ((a + q * 3 : Nat) : Int) = (a : Int) + q * 3 by omega] at c3
    refine c3.mono ?_
    clear c3
    rintro e w3 ⟨⟨z, hz, rfl⟩, h3⟩
    have hz' : a ≤ z ∧ z < b := by unfold One3 at hz; omega
    clear hz
    have H3 := Lib.hid (H2.out.trans h3)
    clear h3 H2
    go_wp2_with fail
    go_at_call 69
    refine (median_any H3.out.now (by omega) cap x y z (by omega) (by omega) (by omega) hN).mono ?_
    rintro e w4 ⟨⟨u, hu, rfl⟩, h4⟩
    have hu' : a ≤ u ∧ u < b := by unfold One3 at hu; omega
    clear hu
    have h4 := H3.out.trans h4
    obtain ⟨s, hs, hbox⟩ := h4.box
    have hc := hbox.cell 0
    simp only [List.getElem?_toArray, List.getElem?_cons_zero] at hc
    have H4 := Lib.hid h4
    clear h4 H3 hbox
    go_wp2
    all_goals go_returns
    all_goals exact ⟨⟨u, _, hu'.1, hu'.2, rfl⟩, OUT.out _ _ H4.out⟩
  · have h50' : ¬ (50 : Int) ≤ (b : Int) - a := by omega
    go_wp2_with fail
    go_at_call 69
    have c1 := median_any H0.out (by omega) cap (a + q) (a + q * 2) (a + q * 3) (by omega) (by omega) (by omega) hN
    rw [show ((a + q : Nat) : Int) = (a : Int) + q by omega, show ((a + q * 2 : Nat) : Int) = (a : Int) + q * 2 by omega, show ((a + q * 3 : Nat) : Int) = (a : Int) + q * 3 by omega] at c1
    refine c1.mono ?_
    clear c1
    rintro e w4 ⟨⟨u, hu, rfl⟩, h4⟩
    have hu' : a ≤ u ∧ u < b := by unfold One3 at hu; omega
    clear hu
    obtain ⟨s, hs, hbox⟩ := h4.box
    have hc := hbox.cell 0
    simp only [List.getElem?_toArray, List.getElem?_cons_zero] at hc
    have H4 := Lib.hid h4
    clear h4 hbox
    go_wp2
    all_goals go_returns
    all_goals exact ⟨⟨u, _, hu'.1, hu'.2, rfl⟩, OUT.out _ _ H4.out⟩
end Go.Proofs.Ytnleeffajljodaa
end

section
/- What the two partitions keep between their steps. -/
namespace Go.Proofs.Ytnleeffajljodaa
open Go.RowKit Go.Sort
set_option linter.unusedVariables false

/-- the row while it is parted: left of i all is P, right of j nothing is -/
structure Pt (w : World) (g c N a b : Nat) (P : Int → Bool) (p : Int) (d : Array Int) (i j : Nat) (wr : World) (dk : Array Int) : Prop where
  sr : SR w g c N wr dk
  perm : PermIn a b d dk
  at_ : dk[a]! = p
  lo : a < i
  mid : i ≤ j + 1
  hi : j < b
  bN : b ≤ N
  left : ∀ k, a < k → k < i → P dk[k]! = true
  right : ∀ k, j < k → k < b → P dk[k]! = false

section
variable {w wr : World} {g c N a b i j : Nat} {P : Int → Bool} {p : Int} {d dk : Array Int}
theorem Pt.drewN (h : Pt w g c N a b P p d i j wr dk) (n : Nat) : Pt w g c N a b P p d i j (wr.drewN n) dk := { h with sr := h.sr.drewN n }
theorem Pt.drew (h : Pt w g c N a b P p d i j wr dk) : Pt w g c N a b P p d i j wr.drew dk := { h with sr := h.sr.drew }
theorem Pt.up (h : Pt w g c N a b P p d i j wr dk) (hij : i ≤ j) (hp : P dk[i]! = true) : Pt w g c N a b P p d (i + 1) j wr dk := by
  have hlo := h.lo
  refine ⟨h.sr, h.perm, h.at_, by omega, by omega, h.hi, h.bN, fun k h1 h2 => ?_, h.right⟩
  rcases Nat.lt_or_ge k i with h3 | h3
  · exact h.left k h1 h3
  · obtain rfl : k = i := by omega
    exact hp
theorem Pt.down (h : Pt w g c N a b P p d i j wr dk) (hij : i ≤ j) (hp : P dk[j]! = false) : Pt w g c N a b P p d i (j - 1) wr dk := by
  have hlo := h.lo
  have hhi := h.hi
  refine ⟨h.sr, h.perm, h.at_, hlo, by omega, by omega, h.bN, h.left, fun k h1 h2 => ?_⟩
  rcases Nat.lt_or_ge j k with h3 | h3
  · exact h.right k h3 h2
  · obtain rfl : k = j := by omega
    exact hp
theorem Pt.swap (h : Pt w g c N a b P p d i j wr dk) (hij : i ≤ j) (h1 : P dk[i]! = false) (h2 : P dk[j]! = true) {x y : Int} (hx : x = dk[j]!) (hy : y = dk[i]!) :
    i < j ∧ Pt w g c N a b P p d (i + 1) (j - 1) ((wr.setCell ⟨g, i, none⟩ (.int .u64 x)).setCell ⟨g, j, none⟩ (.int .u64 y)) (Sort.swp dk i j) := by
  have hlo := h.lo
  have hhi := h.hi
  have hbN := h.bN
  have hs := h.sr.len
  have hne : i ≠ j := by rintro rfl; rw [h1] at h2; cases h2
  have hg := fun k => Sort.swp_get dk (i := i) (j := j) (by omega) (by omega) k
  refine ⟨by omega, h.sr.swp (by omega) (by omega) hx hy, perm_swp h.perm h.sr.len h.bN ⟨by omega, by omega⟩ ⟨by omega, by omega⟩, ?_, by omega, by omega, by omega, hbN, fun k k1 k2 => ?_, fun k k1 k2 => ?_⟩
  · rw [hg, if_neg (by omega), if_neg (by omega)]; exact h.at_
  · rw [hg, if_neg (by omega)]
    by_cases e : k = i
    · rw [if_pos e]; exact h2
    · rw [if_neg e]; exact h.left k k1 (by omega)
  · rw [hg]
    by_cases e : k = j
    · rw [if_pos e]; exact h1
    · rw [if_neg e, if_neg (by omega)]; exact h.right k (by omega) k2
/-- at the start, the pivot brought to a -/
theorem Pt.start {q : Nat} (h : SR w g c N wr d) (ha : a ≤ q) (hq : q < b) (hb : b ≤ N) (h2 : a + 1 ≤ b) {x y : Int} (hx : x = d[q]!) (hy : y = d[a]!) :
    Pt w g c N a b P d[q]! d (a + 1) (b - 1) ((wr.setCell ⟨g, a, none⟩ (.int .u64 x)).setCell ⟨g, q, none⟩ (.int .u64 y)) (Sort.swp d a q) :=
  ⟨h.swp (by omega) (by omega) hx hy, perm_swp (Sort.permIn_refl _ _ _) h.len hb ⟨Nat.le_refl _, by omega⟩ ⟨ha, hq⟩, by
      rw [Sort.swp_get d (by have := h.len; omega) (by have := h.len; omega)]
      split
      · next e => rw [← e]
      · rw [if_pos rfl], by omega, by omega, by omega, hb, fun k h1 h3 => by omega, fun k h1 h3 => by omega⟩
/-- at the end of partition, the pivot brought to j -/
theorem Pt.done (h : Pt w g c N a b P p d i j wr dk) (hij : j < i) {x y : Int} (hx : x = dk[a]!) (hy : y = dk[j]!) :
    SR w g c N ((wr.setCell ⟨g, j, none⟩ (.int .u64 x)).setCell ⟨g, a, none⟩ (.int .u64 y)) (Sort.swp dk j a) ∧ PermIn a b d (Sort.swp dk j a) ∧ a ≤ j ∧ j < b ∧ (Sort.swp dk j a)[j]! = p ∧
      (∀ k, a ≤ k → k < j → P (Sort.swp dk j a)[k]! = true) ∧ ∀ k, j < k → k < b → P (Sort.swp dk j a)[k]! = false := by
  have hlo := h.lo
  have hhi := h.hi
  have hmid := h.mid
  have hbN := h.bN
  have hs := h.sr.len
  have hg := fun k => Sort.swp_get dk (i := j) (j := a) (by omega) (by omega) k
  refine ⟨h.sr.swp (by omega) (by omega) hx hy, perm_swp h.perm h.sr.len h.bN ⟨by omega, by omega⟩ ⟨by omega, by omega⟩, by omega, hhi, ?_, fun k k1 k2 => ?_, fun k k1 k2 => ?_⟩
  · rw [hg]
    split
    · next e => rw [e]; exact h.at_
    · rw [if_pos rfl]; exact h.at_
  · rw [hg]
    by_cases e : k = a
    · rw [if_pos e]; exact h.left j (by omega) (by omega)
    · rw [if_neg e, if_neg (by omega)]; exact h.left k (by omega) (by omega)
  · rw [hg, if_neg (by omega), if_neg (by omega)]; exact h.right k k1 k2
end
end Go.Proofs.Ytnleeffajljodaa
end

section
/- slices.partitionOrdered over uint64: written by gen_part.py. -/
namespace Go.Proofs.Ytnleeffajljodaa
open Go.RowKit Go.Sort
set_option linter.unusedVariables false

set_option maxHeartbeats 16000000 in
set_option maxRecDepth 1000000 in
theorem part_any {g c N : Nat} {d : Array Int} {w : World} (h : SR w g c N w d) (cap a b q : Nat) (ha : a ≤ q) (hq : q < b) (hb : b ≤ N) (hN : N < 4611686018427387904) :
    Calls Try.prog 62 #[.slice (some ⟨g, 0, none⟩) N cap, .int .i64 a, .int .i64 b, .int .i64 q] w fun e w' => (∃ (m : Nat) (al : Bool) (d' : Array Int), e = .returned (.tuple #[.int .i64 m, .bool al]) ∧ SR w g c N w' d' ∧ PermIn a b d d' ∧ a ≤ m ∧ m < b ∧ (∀ k, a ≤ k → k < m → ltInt d'[k]! d'[m]! = true) ∧ ∀ k, m < k → k < b → ltInt d'[k]! d'[m]! = false) := by
  obtain ⟨p, hpq⟩ : ∃ p, p = d[q]! := ⟨_, rfl⟩
  have HPQ := Lib.hid hpq
  clear hpq
  obtain ⟨G, hG, hcw, hfw⟩ := h.names
  have HG := Lib.hid hG
  have HS := Lib.hid h
  clear h hG
  have haN : a < N := by omega
  have hqN : q < N := by omega
  have hboth := HS.out.both haN hqN (HG.out q)
  go_enter Try.func62, Try.ntmps62
  go_wp2
  go_region
  have h0 := (Pt.start (P := fun x => ltInt x p) HS.out ha hq hb (by omega) (HG.out _) (HG.out _)).drew
  rw [← HPQ.out] at h0
  have H0 := Lib.hid h0
  clear h0
  obtain ⟨dk, hdk⟩ : ∃ dk, dk = Sort.swp d a q := ⟨_, rfl⟩
  rw [← hdk] at H0
  clear hdk hcw hfw HG HS hboth
  obtain ⟨i0, hi0⟩ : ∃ i0, i0 = a + 1 := ⟨_, rfl⟩
  obtain ⟨jS, hjS0⟩ : ∃ jS, jS = b - 1 := ⟨_, rfl⟩
  rw [← hi0, ← hjS0] at H0
  go_wp2
  go_loopw [10] (fun vi w2 => ∃ (i : Nat), vi = .int .i64 i ∧ i0 ≤ i ∧ Pt w g c N a b (fun x => ltInt x p) p d i jS w2 dk) (fun vi _ => jS + 1 - (intOf vi).toNat)
  case atStart => exact ⟨i0, by first | rfl | (congr 1; omega), Nat.le_refl _, H0.out⟩
  case round =>
    obtain ⟨i, rfl, hi0i, h3⟩ := hrel
    have hlo := h3.lo
    have hhi := h3.hi
    have hbN := h3.bN
    have hmid := h3.mid
    obtain ⟨G, hG, hcw, hfw⟩ := h3.sr.names
    have HT := Lib.hid h3.at_
    have HG := Lib.hid hG
    have HH := Lib.hid h3
    clear hG h3
    have haN : a < N := by omega
    by_cases hij : i ≤ jS
    · have hiN : i < N := by omega
      have hijb : (i : Int) ≤ (b : Int) - 1 := by omega
      go_wp2
      go_quiet (first | (go_at_call 60; refine Calls.quiet_of_same (less_any _ _ _)))
      go_wp2
      · rename ltInt (G i) (G a) = true => hl
        go_roundw
        case rel => exact ⟨i + 1, by go_num, by omega, (HH.out.up hij (by show ltInt dk[i]! p = true; rw [← HT.out, ← HG.out, ← HG.out]; exact hl)).drewN _⟩
        case measure => first | (simp [intOf]; done) | (simp [intOf]; omega)
      · rename ltInt (G i) (G a) = false => hl
        have hr : i ≤ jS → (fun x => ltInt x p) dk[i]! = false := fun _ => by show ltInt dk[i]! p = false; rw [← HT.out, ← HG.out, ← HG.out]; exact hl
        have HR := Lib.hid hr
        have HW := Lib.hid (HH.out.drewN nq)
        clear hr hcw hfw HG HT hl
        go_loopw [11] (fun vj w2 => ∃ (j : Nat), vj = .int .i64 j ∧ j ≤ jS ∧ Pt w g c N a b (fun x => ltInt x p) p d i j w2 dk) (fun vj _ => (intOf vj).toNat)
        case atStart => exact ⟨jS, by first | rfl | (congr 1; omega), Nat.le_refl _, HW.out⟩
        case round =>
          obtain ⟨j, rfl, hjS, h3⟩ := hrel
          have hlo := h3.lo
          have hhi := h3.hi
          have hbN := h3.bN
          have hmid := h3.mid
          obtain ⟨G, hG, hcw, hfw⟩ := h3.sr.names
          have HT := Lib.hid h3.at_
          have HG := Lib.hid hG
          have HH := Lib.hid h3
          clear hG h3
          have haN : a < N := by omega
          by_cases hij : i ≤ j
          · have hjN : j < N := by omega
            go_wp2
            go_quiet (first | (go_at_call 60; refine Calls.quiet_of_same (less_any _ _ _)))
            go_wp2
            · rename (!ltInt (G j) (G a)) = true => hl0
              have hl : ltInt (G j) (G a) = false := by simpa using hl0
              clear hl0
              go_roundw
              case rel =>
                have hz := (HH.out.down hij (by show ltInt dk[j]! p = false; rw [← HT.out, ← HG.out, ← HG.out]; exact hl)).drewN nq
                first
                  | exact ⟨j - 1, by congr 1; omega, by omega, hz⟩
              case measure => first | (simp [intOf]; done) | (simp [intOf]; omega)
            · rename (!ltInt (G j) (G a)) = false => hl0
              have hl : ltInt (G j) (G a) = true := by simpa using hl0
              clear hl0
              have HU := Lib.hid (HR.out (by omega))
              have hdn : (fun x => ltInt x p) dk[j]! = true := by show ltInt dk[j]! p = true; rw [← HT.out, ← HG.out, ← HG.out]; exact hl
              have HD := Lib.hid hdn
              clear hdn
              have hiN : i < N := by omega
              have hlt := (HH.out.swap hij HU.out HD.out rfl rfl).1
              go_region
              have hX := ((HH.out.drewN nq).swap hij HU.out HD.out (HG.out _) (HG.out _)).2.drew
              have HX := Lib.hid hX
              clear hX hcw hfw HG HT hl hi0 hjS0
              go_wp2
              go_loopg [10, 11] (N + 1) (fun K s10 s11 wm => ∃ (i j : Nat) (dk : Array Int), s10 = .int .i64 i ∧ s11 = .int .i64 j ∧ j + 1 - i ≤ K ∧ Pt w g c N a b (fun x => ltInt x p) p d i j wm dk)
              case atStart => exact ⟨i + 1, j - 1, Sort.swp dk i j, by go_num, by congr 1; omega, by omega, HX.out⟩
              case round =>
                obtain ⟨i0, jS, dk, rfl, rfl, hK, h0⟩ := hrel
                have H0 := Lib.hid h0
                clear h0
                go_wp2
                go_loopw [10] (fun vi w2 => ∃ (i : Nat), vi = .int .i64 i ∧ i0 ≤ i ∧ Pt w g c N a b (fun x => ltInt x p) p d i jS w2 dk) (fun vi _ => jS + 1 - (intOf vi).toNat)
                case atStart => exact ⟨i0, by first | rfl | (congr 1; omega), Nat.le_refl _, H0.out⟩
                case round =>
                  obtain ⟨i, rfl, hi0i, h3⟩ := hrel
                  have hlo := h3.lo
                  have hhi := h3.hi
                  have hbN := h3.bN
                  have hmid := h3.mid
                  obtain ⟨G, hG, hcw, hfw⟩ := h3.sr.names
                  have HT := Lib.hid h3.at_
                  have HG := Lib.hid hG
                  have HH := Lib.hid h3
                  clear hG h3
                  have haN : a < N := by omega
                  by_cases hij : i ≤ jS
                  · have hiN : i < N := by omega
                    go_wp2
                    go_quiet (first | (go_at_call 60; refine Calls.quiet_of_same (less_any _ _ _)))
                    go_wp2
                    · rename ltInt (G i) (G a) = true => hl
                      go_roundw
                      case rel => exact ⟨i + 1, by go_num, by omega, (HH.out.up hij (by show ltInt dk[i]! p = true; rw [← HT.out, ← HG.out, ← HG.out]; exact hl)).drewN _⟩
                      case measure => first | (simp [intOf]; done) | (simp [intOf]; omega)
                    · rename ltInt (G i) (G a) = false => hl
                      have hr : i ≤ jS → (fun x => ltInt x p) dk[i]! = false := fun _ => by show ltInt dk[i]! p = false; rw [← HT.out, ← HG.out, ← HG.out]; exact hl
                      have HR := Lib.hid hr
                      have HW := Lib.hid (HH.out.drewN nq)
                      clear hr hcw hfw HG HT hl
                      go_loopw [11] (fun vj w2 => ∃ (j : Nat), vj = .int .i64 j ∧ j ≤ jS ∧ Pt w g c N a b (fun x => ltInt x p) p d i j w2 dk) (fun vj _ => (intOf vj).toNat)
                      case atStart => exact ⟨jS, by first | rfl | (congr 1; omega), Nat.le_refl _, HW.out⟩
                      case round =>
                        obtain ⟨j, rfl, hjS, h3⟩ := hrel
                        have hlo := h3.lo
                        have hhi := h3.hi
                        have hbN := h3.bN
                        have hmid := h3.mid
                        obtain ⟨G, hG, hcw, hfw⟩ := h3.sr.names
                        have HT := Lib.hid h3.at_
                        have HG := Lib.hid hG
                        have HH := Lib.hid h3
                        clear hG h3
                        have haN : a < N := by omega
                        by_cases hij : i ≤ j
                        · have hjN : j < N := by omega
                          go_wp2
                          go_quiet (first | (go_at_call 60; refine Calls.quiet_of_same (less_any _ _ _)))
                          go_wp2
                          · rename (!ltInt (G j) (G a)) = true => hl0
                            have hl : ltInt (G j) (G a) = false := by simpa using hl0
                            clear hl0
                            go_roundw
                            case rel =>
                              have hz := (HH.out.down hij (by show ltInt dk[j]! p = false; rw [← HT.out, ← HG.out, ← HG.out]; exact hl)).drewN nq
                              first
                                | exact ⟨j - 1, by congr 1; omega, by omega, hz⟩
                            case measure => first | (simp [intOf]; done) | (simp [intOf]; omega)
                          · rename (!ltInt (G j) (G a)) = false => hl0
                            have hl : ltInt (G j) (G a) = true := by simpa using hl0
                            clear hl0
                            have HU := Lib.hid (HR.out (by omega))
                            have hdn : (fun x => ltInt x p) dk[j]! = true := by show ltInt dk[j]! p = true; rw [← HT.out, ← HG.out, ← HG.out]; exact hl
                            have HD := Lib.hid hdn
                            clear hdn
                            have hiN : i < N := by omega
                            have hlt := (HH.out.swap hij HU.out HD.out rfl rfl).1
                            go_region
                            go_wp2
                            go_roundg (j - 1 + 1 - (i + 1))
                            case measure => omega
                            case rel => exact ⟨i + 1, j - 1, Sort.swp dk i j, by go_num, by first | rfl | (congr 1; omega), Nat.le_refl _, ((HH.out.drewN nq).swap hij HU.out HD.out (HG.out _) (HG.out _)).2.drew⟩
                        · go_wp2
                          go_quiet (first | (go_at_call 60; refine Calls.quiet_of_same (less_any _ _ _)))
                          go_wp2
                          have hji : j < i := by omega
                          have hjN : j < N := by omega
                          have hboth := (HH.out.drewN (nq + 1)).sr.both hjN haN (HG.out a)
                          go_region
                          go_wp2
                          go_returns
                          obtain ⟨e1, e2, e3, e4, e5, e6, e7⟩ := (HH.out.drewN nq).done hji (HG.out _) (HG.out _)
                          exact ⟨j, false, _, rfl, e1.drew, e2, e3, e4, fun k k1 k2 => by rw [e5]; exact e6 k k1 k2, fun k k1 k2 => by rw [e5]; exact e7 k k1 k2⟩
                  · have hr : i ≤ jS → (fun x => ltInt x p) dk[i]! = false := fun h => absurd h hij
                    have HR := Lib.hid hr
                    clear hr
                    go_wp2
                    go_quiet (first | (go_at_call 60; refine Calls.quiet_of_same (less_any _ _ _)))
                    have HW := Lib.hid (HH.out.drewN nq)
                    clear hcw hfw HG HT
                    go_wp2
                    go_loopw [11] (fun vj w2 => ∃ (j : Nat), vj = .int .i64 j ∧ j ≤ jS ∧ Pt w g c N a b (fun x => ltInt x p) p d i j w2 dk) (fun vj _ => (intOf vj).toNat)
                    case atStart => exact ⟨jS, by first | rfl | (congr 1; omega), Nat.le_refl _, HW.out⟩
                    case round =>
                      obtain ⟨j, rfl, hjS, h3⟩ := hrel
                      have hlo := h3.lo
                      have hhi := h3.hi
                      have hbN := h3.bN
                      have hmid := h3.mid
                      obtain ⟨G, hG, hcw, hfw⟩ := h3.sr.names
                      have HT := Lib.hid h3.at_
                      have HG := Lib.hid hG
                      have HH := Lib.hid h3
                      clear hG h3
                      have haN : a < N := by omega
                      by_cases hij : i ≤ j
                      · omega
                      · go_wp2
                        go_quiet (first | (go_at_call 60; refine Calls.quiet_of_same (less_any _ _ _)))
                        go_wp2
                        have hji : j < i := by omega
                        have hjN : j < N := by omega
                        have hboth := (HH.out.drewN (nq + 1)).sr.both hjN haN (HG.out a)
                        go_region
                        go_wp2
                        go_returns
                        obtain ⟨e1, e2, e3, e4, e5, e6, e7⟩ := (HH.out.drewN nq).done hji (HG.out _) (HG.out _)
                        exact ⟨j, false, _, rfl, e1.drew, e2, e3, e4, fun k k1 k2 => by rw [e5]; exact e6 k k1 k2, fun k k1 k2 => by rw [e5]; exact e7 k k1 k2⟩
          · go_wp2
            go_quiet (first | (go_at_call 60; refine Calls.quiet_of_same (less_any _ _ _)))
            go_wp2
            have hji : j < i := by omega
            have hjN : j < N := by omega
            have hboth := (HH.out.drewN (nq + 1)).sr.both hjN haN (HG.out a)
            go_region
            go_wp2
            go_returns
            obtain ⟨e1, e2, e3, e4, e5, e6, e7⟩ := (HH.out.drewN nq).done hji (HG.out _) (HG.out _)
            exact ⟨j, true, _, rfl, e1.drew, e2, e3, e4, fun k k1 k2 => by rw [e5]; exact e6 k k1 k2, fun k k1 k2 => by rw [e5]; exact e7 k k1 k2⟩
    · have hr : i ≤ jS → (fun x => ltInt x p) dk[i]! = false := fun h => absurd h hij
      have HR := Lib.hid hr
      clear hr
      have hijb : decide ((i : Int) ≤ (b : Int) - 1) = false := decide_eq_false (by omega)
      go_wp2
      go_quiet (first | (go_at_call 60; refine Calls.quiet_of_same (less_any _ _ _)))
      have HW := Lib.hid (HH.out.drewN nq)
      clear hcw hfw HG HT
      go_wp2
      go_loopw [11] (fun vj w2 => ∃ (j : Nat), vj = .int .i64 j ∧ j ≤ jS ∧ Pt w g c N a b (fun x => ltInt x p) p d i j w2 dk) (fun vj _ => (intOf vj).toNat)
      case atStart => exact ⟨jS, by first | rfl | (congr 1; omega), Nat.le_refl _, HW.out⟩
      case round =>
        obtain ⟨j, rfl, hjS, h3⟩ := hrel
        have hlo := h3.lo
        have hhi := h3.hi
        have hbN := h3.bN
        have hmid := h3.mid
        obtain ⟨G, hG, hcw, hfw⟩ := h3.sr.names
        have HT := Lib.hid h3.at_
        have HG := Lib.hid hG
        have HH := Lib.hid h3
        clear hG h3
        have haN : a < N := by omega
        by_cases hij : i ≤ j
        · omega
        · go_wp2
          go_quiet (first | (go_at_call 60; refine Calls.quiet_of_same (less_any _ _ _)))
          go_wp2
          have hji : j < i := by omega
          have hjN : j < N := by omega
          have hboth := (HH.out.drewN (nq + 1)).sr.both hjN haN (HG.out a)
          go_region
          go_wp2
          go_returns
          obtain ⟨e1, e2, e3, e4, e5, e6, e7⟩ := (HH.out.drewN nq).done hji (HG.out _) (HG.out _)
          exact ⟨j, true, _, rfl, e1.drew, e2, e3, e4, fun k k1 k2 => by rw [e5]; exact e6 k k1 k2, fun k k1 k2 => by rw [e5]; exact e7 k k1 k2⟩
end Go.Proofs.Ytnleeffajljodaa
end

section
/- slices.partitionEqualOrdered over uint64: written by gen_part.py. -/
namespace Go.Proofs.Ytnleeffajljodaa
open Go.RowKit Go.Sort
set_option linter.unusedVariables false

set_option maxHeartbeats 16000000 in
set_option maxRecDepth 1000000 in
theorem partE_any {g c N : Nat} {d : Array Int} {w : World} (h : SR w g c N w d) (cap a b q : Nat) (ha : a ≤ q) (hq : q < b) (hb : b ≤ N) (hN : N < 4611686018427387904) :
    Calls Try.prog 61 #[.slice (some ⟨g, 0, none⟩) N cap, .int .i64 a, .int .i64 b, .int .i64 q] w fun e w' => (∃ (m : Nat) (d' : Array Int), e = .returned (.int .i64 m) ∧ SR w g c N w' d' ∧ PermIn a b d d' ∧ a < m ∧ m ≤ b ∧ (∀ k, a ≤ k → k < m → ltInt d[q]! d'[k]! = false) ∧ ∀ k, m ≤ k → k < b → ltInt d[q]! d'[k]! = true) := by
  obtain ⟨p, hpq⟩ : ∃ p, p = d[q]! := ⟨_, rfl⟩
  have HPQ := Lib.hid hpq
  clear hpq
  obtain ⟨G, hG, hcw, hfw⟩ := h.names
  have HG := Lib.hid hG
  have HS := Lib.hid h
  clear h hG
  have haN : a < N := by omega
  have hqN : q < N := by omega
  have hboth := HS.out.both haN hqN (HG.out q)
  go_enter Try.func61, Try.ntmps61
  go_wp2
  go_region
  have h0 := (Pt.start (P := fun x => !ltInt p x) HS.out ha hq hb (by omega) (HG.out _) (HG.out _)).drew
  rw [← HPQ.out] at h0
  have H0 := Lib.hid h0
  clear h0
  obtain ⟨dk, hdk⟩ : ∃ dk, dk = Sort.swp d a q := ⟨_, rfl⟩
  rw [← hdk] at H0
  clear hdk hcw hfw HG HS hboth
  obtain ⟨i0, hi0⟩ : ∃ i0, i0 = a + 1 := ⟨_, rfl⟩
  obtain ⟨jS, hjS0⟩ : ∃ jS, jS = b - 1 := ⟨_, rfl⟩
  rw [← hi0, ← hjS0] at H0
  go_wp2
  go_loopg [9, 10] (N + 1) (fun K s10 s11 wm => ∃ (i j : Nat) (dk : Array Int), s10 = .int .i64 i ∧ s11 = .int .i64 j ∧ j + 1 - i ≤ K ∧ Pt w g c N a b (fun x => !ltInt p x) p d i j wm dk)
  case atStart => exact ⟨i0, jS, dk, by congr 1; omega, by congr 1; omega, by omega, H0.out⟩
  case round =>
    obtain ⟨i0, jS, dk, rfl, rfl, hK, h0⟩ := hrel
    have H0 := Lib.hid h0
    clear h0
    go_wp2
    go_loopw [9] (fun vi w2 => ∃ (i : Nat), vi = .int .i64 i ∧ i0 ≤ i ∧ Pt w g c N a b (fun x => !ltInt p x) p d i jS w2 dk) (fun vi _ => jS + 1 - (intOf vi).toNat)
    case atStart => exact ⟨i0, by first | rfl | (congr 1; omega), Nat.le_refl _, H0.out⟩
    case round =>
      obtain ⟨i, rfl, hi0i, h3⟩ := hrel
      have hlo := h3.lo
      have hhi := h3.hi
      have hbN := h3.bN
      have hmid := h3.mid
      obtain ⟨G, hG, hcw, hfw⟩ := h3.sr.names
      have HT := Lib.hid h3.at_
      have HG := Lib.hid hG
      have HH := Lib.hid h3
      clear hG h3
      have haN : a < N := by omega
      by_cases hij : i ≤ jS
      · have hiN : i < N := by omega
        go_wp2
        go_quiet (first | (go_at_call 60; refine Calls.quiet_of_same (less_any _ _ _)))
        go_wp2
        · rename (!ltInt (G a) (G i)) = true => hl0
          have hl : ltInt (G a) (G i) = false := by simpa using hl0
          clear hl0
          go_roundw
          case rel => exact ⟨i + 1, by go_num, by omega, (HH.out.up hij (by show (!ltInt p dk[i]!) = true; rw [← HT.out, ← HG.out, ← HG.out, hl]; rfl)).drewN _⟩
          case measure => first | (simp [intOf]; done) | (simp [intOf]; omega)
        · rename (!ltInt (G a) (G i)) = false => hl0
          have hl : ltInt (G a) (G i) = true := by simpa using hl0
          clear hl0
          have hr : i ≤ jS → (fun x => !ltInt p x) dk[i]! = false := fun _ => by show (!ltInt p dk[i]!) = false; rw [← HT.out, ← HG.out, ← HG.out, hl]; rfl
          have HR := Lib.hid hr
          have HW := Lib.hid (HH.out.drewN nq)
          clear hr hcw hfw HG HT hl
          go_loopw [10] (fun vj w2 => ∃ (j : Nat), vj = .int .i64 j ∧ j ≤ jS ∧ Pt w g c N a b (fun x => !ltInt p x) p d i j w2 dk) (fun vj _ => (intOf vj).toNat)
          case atStart => exact ⟨jS, by first | rfl | (congr 1; omega), Nat.le_refl _, HW.out⟩
          case round =>
            obtain ⟨j, rfl, hjS, h3⟩ := hrel
            have hlo := h3.lo
            have hhi := h3.hi
            have hbN := h3.bN
            have hmid := h3.mid
            obtain ⟨G, hG, hcw, hfw⟩ := h3.sr.names
            have HT := Lib.hid h3.at_
            have HG := Lib.hid hG
            have HH := Lib.hid h3
            clear hG h3
            have haN : a < N := by omega
            by_cases hij : i ≤ j
            · have hjN : j < N := by omega
              go_wp2
              go_quiet (first | (go_at_call 60; refine Calls.quiet_of_same (less_any _ _ _)))
              go_wp2
              · rename ltInt (G a) (G j) = true => hl
                go_roundw
                case rel =>
                  have hz := (HH.out.down hij (by show (!ltInt p dk[j]!) = false; rw [← HT.out, ← HG.out, ← HG.out, hl]; rfl)).drewN nq
                  first
                    | exact ⟨j - 1, by congr 1; omega, by omega, hz⟩
                case measure => first | (simp [intOf]; done) | (simp [intOf]; omega)
              · rename ltInt (G a) (G j) = false => hl
                have HU := Lib.hid (HR.out (by omega))
                have hdn : (fun x => !ltInt p x) dk[j]! = true := by show (!ltInt p dk[j]!) = true; rw [← HT.out, ← HG.out, ← HG.out, hl]; rfl
                have HD := Lib.hid hdn
                clear hdn
                have hiN : i < N := by omega
                have hlt := (HH.out.swap hij HU.out HD.out rfl rfl).1
                go_region
                go_wp2
                go_roundg (j - 1 + 1 - (i + 1))
                case measure => omega
                case rel => exact ⟨i + 1, j - 1, Sort.swp dk i j, by go_num, by first | rfl | (congr 1; omega), Nat.le_refl _, ((HH.out.drewN nq).swap hij HU.out HD.out (HG.out _) (HG.out _)).2.drew⟩
            · go_wp2
              go_quiet (first | (go_at_call 60; refine Calls.quiet_of_same (less_any _ _ _)))
              go_wp2
              have hji : j < i := by omega
              go_ret
              have hz := HH.out
              refine ⟨i, dk, rfl, hz.sr.drewN _, hz.perm, by omega, by omega, fun k k1 k2 => ?_, fun k k1 k2 => ?_⟩
              · rcases Nat.eq_or_lt_of_le k1 with e1 | e1
                · rw [← e1, hz.at_, HPQ.out]
                  exact decide_eq_false (by omega)
                · have := hz.left k e1 k2
                  rw [← HPQ.out]
                  simpa using this
              · have := hz.right k (by omega) k2
                rw [← HPQ.out]
                simpa using this
      · have hr : i ≤ jS → (fun x => !ltInt p x) dk[i]! = false := fun h => absurd h hij
        have HR := Lib.hid hr
        clear hr
        go_wp2
        go_quiet (first | (go_at_call 60; refine Calls.quiet_of_same (less_any _ _ _)))
        have HW := Lib.hid (HH.out.drewN nq)
        clear hcw hfw HG HT
        go_wp2
        go_loopw [10] (fun vj w2 => ∃ (j : Nat), vj = .int .i64 j ∧ j ≤ jS ∧ Pt w g c N a b (fun x => !ltInt p x) p d i j w2 dk) (fun vj _ => (intOf vj).toNat)
        case atStart => exact ⟨jS, by first | rfl | (congr 1; omega), Nat.le_refl _, HW.out⟩
        case round =>
          obtain ⟨j, rfl, hjS, h3⟩ := hrel
          have hlo := h3.lo
          have hhi := h3.hi
          have hbN := h3.bN
          have hmid := h3.mid
          obtain ⟨G, hG, hcw, hfw⟩ := h3.sr.names
          have HT := Lib.hid h3.at_
          have HG := Lib.hid hG
          have HH := Lib.hid h3
          clear hG h3
          have haN : a < N := by omega
          by_cases hij : i ≤ j
          · omega
          · go_wp2
            go_quiet (first | (go_at_call 60; refine Calls.quiet_of_same (less_any _ _ _)))
            go_wp2
            have hji : j < i := by omega
            go_ret
            have hz := HH.out
            refine ⟨i, dk, rfl, hz.sr.drewN _, hz.perm, by omega, by omega, fun k k1 k2 => ?_, fun k k1 k2 => ?_⟩
            · rcases Nat.eq_or_lt_of_le k1 with e1 | e1
              · rw [← e1, hz.at_, HPQ.out]
                exact decide_eq_false (by omega)
              · have := hz.left k e1 k2
                rw [← HPQ.out]
                simpa using this
            · have := hz.right k (by omega) k2
              rw [← HPQ.out]
              simpa using this
end Go.Proofs.Ytnleeffajljodaa
end

section
/- slices.heapSortOrdered over uint64. -/
namespace Go.Proofs.Ytnleeffajljodaa
open Go.RowKit Go.Sort
set_option linter.unusedVariables false

section
variable {α : Type} [Inhabited α] (lt : α → α → Bool)
theorem sift_end {hi F r : Nat} (d : Array α) (h : hi ≤ 2 * r + 1) : siftDown lt hi F r d = d := by rw [siftDown, dif_pos h]
/-- the child that is looked at is c -/
theorem sift_at {hi F r c : Nat} (d : Array α) (h : ¬ hi ≤ 2 * r + 1)
    (hc : (c = 2 * r + 1 ∧ (2 * r + 2 < hi → lt d[F + (2 * r + 1)]! d[F + (2 * r + 2)]! = false)) ∨ (c = 2 * r + 2 ∧ 2 * r + 2 < hi ∧ lt d[F + (2 * r + 1)]! d[F + (2 * r + 2)]! = true)) :
    siftDown lt hi F r d = if lt d[F + r]! d[F + c]! = true then siftDown lt hi F c (Sort.swp d (F + r) (F + c)) else d := by
  rw [siftDown, dif_neg h, show F + (2 * r + 1) + 1 = F + (2 * r + 2) by omega, show 2 * r + 1 + 1 = 2 * r + 2 by omega]
  rcases hc with ⟨rfl, hc⟩ | ⟨rfl, h2, hc⟩
  · by_cases h2 : 2 * r + 2 < hi
    · rw [hc h2]
      cases lt d[F + r]! d[F + (2 * r + 1)]! <;> simp
    · simp only [h2, decide_false, Bool.false_and]
      cases lt d[F + r]! d[F + (2 * r + 1)]! <;> simp
  · rw [hc]
    simp only [h2, decide_true, Bool.true_and, if_true]
    cases lt d[F + r]! d[F + (2 * r + 2)]! <;> simp
theorem sift_size (hi F : Nat) : ∀ (n r : Nat) (d : Array α), hi - r ≤ n → (siftDown lt hi F r d).size = d.size := by
  intro n
  induction n with
  | zero => intro r d h; rw [sift_end lt d (by omega)]
  | succ n ih =>
    intro r d h
    by_cases he : hi ≤ 2 * r + 1
    · rw [sift_end lt d he]
    · have key : ∃ c, c ≤ 2 * r + 2 ∧ 2 * r + 1 ≤ c ∧ siftDown lt hi F r d = if lt d[F + r]! d[F + c]! = true then siftDown lt hi F c (Sort.swp d (F + r) (F + c)) else d := by
        by_cases h2 : 2 * r + 2 < hi ∧ lt d[F + (2 * r + 1)]! d[F + (2 * r + 2)]! = true
        · exact ⟨2 * r + 2, by omega, by omega, sift_at lt d he (.inr ⟨rfl, h2.1, h2.2⟩)⟩
        · exact ⟨2 * r + 1, by omega, by omega, sift_at lt d he (.inl ⟨rfl, fun h3 => by
            cases hq : lt d[F + (2 * r + 1)]! d[F + (2 * r + 2)]! with
            | false => rfl
            | true => exact absurd ⟨h3, hq⟩ h2⟩)⟩
      obtain ⟨c, hc1, hc2, hk⟩ := key
      rw [hk]
      split
      · rw [ih c _ (by omega), Sort.size_swp]
      · rfl
end

set_option maxHeartbeats 8000000 in
set_option maxRecDepth 1000000 in
theorem sift_any {g c N : Nat} {d : Array Int} {w : World} (h : SR w g c N w d) (cap lo hi F : Nat) (hlo : lo ≤ hi) (hb : F + hi ≤ N) (hN : N < 4611686018427387904) :
    Calls Try.prog 65 #[.slice (some ⟨g, 0, none⟩) N cap, .int .i64 lo, .int .i64 hi, .int .i64 F] w fun e w' => e = .returned (.tuple #[]) ∧ SR w g c N w' (Sort.siftDown ltInt hi F lo d) := by
  have HS := Lib.hid h
  clear h
  go_enter Try.func65, Try.ntmps65
  go_wp2
  go_loopw [8] (fun vi wr => ∃ (r : Nat) (dk : Array Int), vi = .int .i64 r ∧ r ≤ hi ∧ SR w g c N wr dk ∧ siftDown ltInt hi F r dk = siftDown ltInt hi F lo d) (fun vi _ => hi + 1 - (intOf vi).toNat)
  case atStart => exact ⟨lo, d, rfl, hlo, HS.out, rfl⟩
  case round =>
    obtain ⟨r, dk, rfl, hrb, hk, hO⟩ := hrel
    obtain ⟨G, hG, hcw, hfw⟩ := hk.names
    have HK := Lib.hid hk
    have HG := Lib.hid hG
    have HO := Lib.hid hO
    clear hk hG hO
    by_cases he : hi ≤ 2 * r + 1
    · have he' : (hi : Int) ≤ 2 * (r : Int) + 1 := by omega
      go_wp2
      go_end0
      exact ⟨rfl, by rw [← HO.out, sift_end ltInt dk he]; exact HK.out⟩
    · have he' : ¬ (hi : Int) ≤ 2 * (r : Int) + 1 := by omega
      have i0 : F + r < N := by omega
      have w0 : IntKind.i64.wrap ((F : Int) + (r : Int)) = (F : Int) + r := IntWalk.i64_in _ (by omega)
      have q0 : (F : Int) + (r : Int) < (N : Int) := by omega
      have q1 : 0 ≤ (F : Int) + (r : Int) := by omega
      have q2 : ((F : Int) + (r : Int)).toNat = F + r := by omega
      have w2 : IntKind.i64.wrap (2 * (r : Int) + 1 + 1) = 2 * (r : Int) + 1 + 1 := IntWalk.i64_in _ (by omega)
      have i1 : F + (2 * r + 1) < N := by omega
      by_cases h2 : 2 * r + 2 < hi
      · have h2' : 2 * (r : Int) + 1 + 1 < (hi : Int) := by omega
        have i2 : F + (2 * r + 1) + 1 < N := by omega
        go_wp2
        go_quiet (first | (go_at_call 60; refine Calls.quiet_of_same (less_any _ _ _)))
        go_wp2_with fail
        · rename ltInt (G (F + (2 * r + 1))) (G (F + (2 * r + 1) + 1)) = true => hl
          have hc := sift_at ltInt (F := F) dk he (.inr ⟨rfl, h2, by rw [show F + (2 * r + 2) = F + (2 * r + 1) + 1 by omega, ← HG.out, ← HG.out]; exact hl⟩)
          rw [show 2 * r + 2 = 2 * r + 1 + 1 by omega] at hc
          have HC := Lib.hid hc
          clear hc hl
          have ic : F + (2 * r + 1 + 1) < N := by omega
          have wc : IntKind.i64.wrap ((F : Int) + (2 * (r : Int) + 1 + 1)) = (F : Int) + (2 * (r : Int) + 1 + 1) := IntWalk.i64_in _ (by omega)
          have p0 : (F : Int) + (2 * (r : Int) + 1 + 1) < (N : Int) := by omega
          have p1 : 0 ≤ (F : Int) + (2 * (r : Int) + 1 + 1) := by omega
          have p2 : ((F : Int) + (2 * (r : Int) + 1 + 1)).toNat = F + (2 * r + 1 + 1) := by omega
          go_wp2
          have hk5 := HK.out.drewN nq
          have hcw5 : ∀ t, t < N → (wr.drewN nq).cell? ⟨g, t, none⟩ = some (.int .u64 (G t)) := hcw
          have hfw5 : ∀ t, t < N → (wr.drewN nq).frozen? ⟨g, t, none⟩ = false := hfw
          have HK5 := Lib.hid hk5
          clear hk5 hcw hfw
          generalize wr.drewN nq = w5 at hcw5 hfw5 HK5 ⊢
          go_quiet (first | (go_at_call 60; refine Calls.quiet_of_same (less_any _ _ _)))
          go_wp2
          · rename (!ltInt (G (F + r)) (G (F + (2 * r + 1 + 1)))) = true => hs
            go_returns
            refine ⟨rfl, ?_⟩
            rw [← HO.out, HC.out, if_neg (by rw [← HG.out, ← HG.out]; simpa using hs)]
            exact HK5.out.drewN _
          · rename (!ltInt (G (F + r)) (G (F + (2 * r + 1 + 1)))) = false => hs
            go_region
            go_wp2
            go_roundw
            case rel =>
              refine ⟨2 * r + 1 + 1, Sort.swp dk (F + r) (F + (2 * r + 1 + 1)), by go_num, by omega, (HK5.out.drewN _).swp i0 ic (HG.out _) (HG.out _), ?_⟩
              rw [← HO.out, HC.out, if_pos (by rw [← HG.out, ← HG.out]; simpa using hs)]
            case measure => first | (simp [intOf]; done) | (simp [intOf]; omega)
        · rename ltInt (G (F + (2 * r + 1))) (G (F + (2 * r + 1) + 1)) = false => hl
          have hc := sift_at ltInt (F := F) dk he (.inl ⟨rfl, fun _ => by rw [show F + (2 * r + 2) = F + (2 * r + 1) + 1 by omega, ← HG.out, ← HG.out]; exact hl⟩)
          have HC := Lib.hid hc
          clear hc hl
          have ic : F + (2 * r + 1) < N := by omega
          have wc : IntKind.i64.wrap ((F : Int) + (2 * (r : Int) + 1)) = (F : Int) + (2 * (r : Int) + 1) := IntWalk.i64_in _ (by omega)
          have p0 : (F : Int) + (2 * (r : Int) + 1) < (N : Int) := by omega
          have p1 : 0 ≤ (F : Int) + (2 * (r : Int) + 1) := by omega
          have p2 : ((F : Int) + (2 * (r : Int) + 1)).toNat = F + (2 * r + 1) := by omega
          go_wp2
          have hk5 := HK.out.drewN nq
          have hcw5 : ∀ t, t < N → (wr.drewN nq).cell? ⟨g, t, none⟩ = some (.int .u64 (G t)) := hcw
          have hfw5 : ∀ t, t < N → (wr.drewN nq).frozen? ⟨g, t, none⟩ = false := hfw
          have HK5 := Lib.hid hk5
          clear hk5 hcw hfw
          generalize wr.drewN nq = w5 at hcw5 hfw5 HK5 ⊢
          go_quiet (first | (go_at_call 60; refine Calls.quiet_of_same (less_any _ _ _)))
          go_wp2
          · rename (!ltInt (G (F + r)) (G (F + (2 * r + 1)))) = true => hs
            go_returns
            refine ⟨rfl, ?_⟩
            rw [← HO.out, HC.out, if_neg (by rw [← HG.out, ← HG.out]; simpa using hs)]
            exact HK5.out.drewN _
          · rename (!ltInt (G (F + r)) (G (F + (2 * r + 1)))) = false => hs
            go_region
            go_wp2
            go_roundw
            case rel =>
              refine ⟨2 * r + 1, Sort.swp dk (F + r) (F + (2 * r + 1)), by go_num, by omega, (HK5.out.drewN _).swp i0 ic (HG.out _) (HG.out _), ?_⟩
              rw [← HO.out, HC.out, if_pos (by rw [← HG.out, ← HG.out]; simpa using hs)]
            case measure => first | (simp [intOf]; done) | (simp [intOf]; omega)
      · have h2' : decide (2 * (r : Int) + 1 + 1 < (hi : Int)) = false := decide_eq_false (by omega)
        have hc := sift_at ltInt (F := F) dk he (.inl ⟨rfl, fun h3 => absurd h3 h2⟩)
        have HC := Lib.hid hc
        clear hc
        go_wp2
        go_quiet (first | (go_at_call 60; refine Calls.quiet_of_same (less_any _ _ _)))
        go_wp2_with fail
        have ic : F + (2 * r + 1) < N := by omega
        have wc : IntKind.i64.wrap ((F : Int) + (2 * (r : Int) + 1)) = (F : Int) + (2 * (r : Int) + 1) := IntWalk.i64_in _ (by omega)
        have p0 : (F : Int) + (2 * (r : Int) + 1) < (N : Int) := by omega
        have p1 : 0 ≤ (F : Int) + (2 * (r : Int) + 1) := by omega
        have p2 : ((F : Int) + (2 * (r : Int) + 1)).toNat = F + (2 * r + 1) := by omega
        go_wp2
        have hk5 := HK.out.drewN nq
        have hcw5 : ∀ t, t < N → (wr.drewN nq).cell? ⟨g, t, none⟩ = some (.int .u64 (G t)) := hcw
        have hfw5 : ∀ t, t < N → (wr.drewN nq).frozen? ⟨g, t, none⟩ = false := hfw
        have HK5 := Lib.hid hk5
        clear hk5 hcw hfw
        generalize wr.drewN nq = w5 at hcw5 hfw5 HK5 ⊢
        go_quiet (first | (go_at_call 60; refine Calls.quiet_of_same (less_any _ _ _)))
        go_wp2
        · rename (!ltInt (G (F + r)) (G (F + (2 * r + 1)))) = true => hs
          go_returns
          refine ⟨rfl, ?_⟩
          rw [← HO.out, HC.out, if_neg (by rw [← HG.out, ← HG.out]; simpa using hs)]
          exact HK5.out.drewN _
        · rename (!ltInt (G (F + r)) (G (F + (2 * r + 1)))) = false => hs
          go_region
          go_wp2
          go_roundw
          case rel =>
            refine ⟨2 * r + 1, Sort.swp dk (F + r) (F + (2 * r + 1)), by go_num, by omega, (HK5.out.drewN _).swp i0 ic (HG.out _) (HG.out _), ?_⟩
            rw [← HO.out, HC.out, if_pos (by rw [← HG.out, ← HG.out]; simpa using hs)]
          case measure => first | (simp [intOf]; done) | (simp [intOf]; omega)
end Go.Proofs.Ytnleeffajljodaa
end

section
/- slices.heapSortOrdered over uint64. -/
namespace Go.Proofs.Ytnleeffajljodaa
open Go.RowKit Go.Sort
set_option linter.unusedVariables false

set_option maxHeartbeats 8000000 in
set_option maxRecDepth 1000000 in
theorem heap_any {g c N : Nat} {d : Array Int} {w : World} (h : SR w g c N w d) (cap a b : Nat) (hab : a < b) (hb : b ≤ N) (hN : N < 4611686018427387904) :
    Calls Try.prog 55 #[.slice (some ⟨g, 0, none⟩) N cap, .int .i64 a, .int .i64 b] w fun e w' => e = .returned (.tuple #[]) ∧ SR w g c N w' (Sort.heapSort ltInt d a b) := by
  obtain ⟨hi, hhi⟩ : ∃ hi, b - a = hi := ⟨_, rfl⟩
  have hI : (b : Int) - (a : Int) = (hi : Int) := by omega
  obtain ⟨m, hm⟩ : ∃ m, (hi - 1) / 2 = m := ⟨_, rfl⟩
  have hmI : ((hi : Int) - 1) / 2 = (m : Int) := by omega
  have hmT : ((hi : Int) - 1).tdiv 2 = (m : Int) := by rw [Int.tdiv_eq_ediv_of_nonneg (by omega)]; exact hmI
  have hmh : m < hi := by omega
  have HS := Lib.hid h
  clear h
  have goal : Sort.heapSort ltInt d a b = heapPop ltInt a hi (heapBuild ltInt hi a (m + 1) d) := by unfold Sort.heapSort; rw [hhi, hm]
  have GOAL := Lib.hid goal
  clear goal
  go_enter Try.func55, Try.ntmps55
  go_wp2
  go_loopw [9] (fun vi wr => ∃ (k : Nat) (dk : Array Int), vi = .int .i64 ((k : Int) - 1) ∧ k ≤ m + 1 ∧ SR w g c N wr dk ∧ heapBuild ltInt hi a k dk = heapBuild ltInt hi a (m + 1) d) (fun vi _ => (intOf vi + 1).toNat)
  case atStart => exact ⟨m + 1, d, by congr 1; omega, Nat.le_refl _, HS.out, rfl⟩
  case round =>
    obtain ⟨k, dk, rfl, hk, hs, hO⟩ := hrel
    have HK := Lib.hid hs
    have HO := Lib.hid hO
    clear hs hO
    by_cases h0 : k = 0
    · subst h0
      have HO2 := Lib.hid (show dk = heapBuild ltInt hi a (m + 1) d from HO.out)
      clear HO
      go_wp2
      go_loopw [10] (fun vi w2 => ∃ (k : Nat) (dj : Array Int), vi = .int .i64 ((k : Int) - 1) ∧ k ≤ hi ∧ SR w g c N w2 dj ∧ heapPop ltInt a k dj = heapPop ltInt a hi dk) (fun vi _ => (intOf vi + 1).toNat)
      case atStart => exact ⟨hi, dk, by first | rfl | (congr 1; omega), Nat.le_refl _, HK.out, rfl⟩
      case round =>
        obtain ⟨k, dj, rfl, hk, hs, hP⟩ := hrel
        have HJ := Lib.hid hs
        have HP := Lib.hid hP
        clear hs hP
        by_cases h0 : k = 0
        · subst h0
          go_wp2
          go_end0
          refine ⟨rfl, ?_⟩
          rw [GOAL.out, ← HO2.out, ← HP.out]
          exact HJ.out
        · obtain ⟨i, rfl⟩ : ∃ i, k = i + 1 := ⟨k - 1, by omega⟩
          have e1 : ((i + 1 : Nat) : Int) - 1 = (i : Int) := by omega
          rw [e1]
          obtain ⟨G, hG, hcw, hfw⟩ := HJ.out.names
          have HG := Lib.hid hG
          clear hG
          have i0 : a < N := by omega
          have i1 : a + i < N := by omega
          have hboth := HJ.out.both i0 i1 (HG.out (a + i))
          go_wp2
          go_region
          have hk2 := (HJ.out.swp i0 i1 (HG.out (a + i)) (HG.out a)).drew
          have HK2 := Lib.hid hk2
          clear hk2 hboth hcw hfw
          go_wp2_with fail
          go_at_call 65
          refine (sift_any HK2.out.now cap 0 i a (Nat.zero_le _) (by omega) hN).mono ?_
          rintro e w3 ⟨rfl, h3⟩
          have H3 := Lib.hid (HK2.out.trans h3)
          clear h3
          go_wp2
          go_roundw
          case rel =>
            (repeat apply Exists.intro); exact ⟨⟨i, _, rfl, by omega, H3.out, by rw [← HP.out]; rfl⟩, rfl⟩
          case measure => first | (simp [intOf]; done) | (simp [intOf]; omega)
    · obtain ⟨i, rfl⟩ : ∃ i, k = i + 1 := ⟨k - 1, by omega⟩
      have e1 : ((i + 1 : Nat) : Int) - 1 = (i : Int) := by omega
      rw [e1]
      go_wp2_with fail
      go_at_call 65
      refine (sift_any HK.out.now cap i hi a (by omega) (by omega) hN).mono ?_
      rintro e w3 ⟨rfl, h3⟩
      have H3 := Lib.hid (HK.out.trans h3)
      clear h3
      go_wp2
      go_roundw
      case rel => exact ⟨i, _, rfl, by omega, H3.out, by rw [← HO.out]; rfl⟩
      case measure => first | (simp [intOf]; done) | (simp [intOf]; omega)
end Go.Proofs.Ytnleeffajljodaa
end
