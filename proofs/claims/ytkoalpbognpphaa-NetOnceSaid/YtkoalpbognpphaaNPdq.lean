/- slices.pdqsortOrdered over uint64: it sorts. -/
import Derived.Test.YtkoalpbognpphaaNPdqM
import Derived.Test.YtkoalpbognpphaaNIns
import Derived.Test.YtkoalpbognpphaaNRev
import Derived.Test.YtkoalpbognpphaaNChoose
import Derived.Test.YtkoalpbognpphaaNPart
import Derived.Test.YtkoalpbognpphaaNPartE
import Derived.Test.YtkoalpbognpphaaNHeap2
import Derived.Test.YtkoalpbognpphaaNPins
import Derived.Test.YtkoalpbognpphaaNBreak2
import Derived.Deep.DeepCutAuto
namespace Go.Proofs.Ytkoalpbognpphaa
open Go.RowKit Go.Sort
set_option linter.unusedVariables false

set_option maxHeartbeats 32000000 in
set_option maxRecDepth 1000000 in
theorem pdq_all : ∀ (K g c N : Nat) (d : Array Int) (w : World) (h : SR w g c N w d) (cap a b l : Nat) (hK : b - a < K) (hab : a ≤ b) (hb : b ≤ N) (hN : N < 4611686018427387904) (hl : l < 4611686018427387904) (hB : Sort.Below ltInt a b d),
    Calls Try.prog 52 #[.slice (some ⟨g, 0, none⟩) N cap, .int .i64 a, .int .i64 b, .int .i64 l] w fun e w' => e = .returned (.tuple #[]) ∧ ∃ d', SR w g c N w' d' ∧ PermIn a b d d' ∧ SortedIn ltInt a b d' := by
  intro K
  induction K with
  | zero => intro _ _ _ _ _ _ _ _ _ _ hK; omega
  | succ K ih =>
    intro g c N d w h cap a b l hK hab hb hN hl hB
    have IH := Lib.hid ih
    have HS := Lib.hid h
    have HB := Lib.hid hB
    clear ih h hB
    go_enter Try.func52, Try.ntmps52
    go_wp2
    go_loopg [1, 2, 3, 8, 9] (b - a) (fun M s1 s2 s3 s8 s9 wr => ∃ (a' b' l' : Nat) (wb wp : Bool) (dk : Array Int), s1 = .int .i64 a' ∧ s2 = .int .i64 b' ∧ s3 = .int .i64 l' ∧ s8 = .bool wb ∧ s9 = .bool wp ∧
      a' ≤ b' ∧ b' ≤ N ∧ b' - a' ≤ M ∧ b' - a' ≤ b - a ∧ l' ≤ l ∧ SR w g c N wr dk ∧ Sort.Below ltInt a' b' dk ∧ Fin' a b d a' b' dk)
    case atStart => exact ⟨a, b, l, true, true, d, rfl, rfl, rfl, rfl, rfl, hab, hb, Nat.le_refl _, Nat.le_refl _, Nat.le_refl _, HS.out, HB.out, Fin'.refl⟩
    case round =>
      obtain ⟨a', b', l', wb, wp, dk, rfl, rfl, rfl, rfl, rfl, hab', hb', hM, hM2, hl', hs, hBk, hF⟩ := hrel
      have HK := Lib.hid hs
      have HBk := Lib.hid hBk
      have HF := Lib.hid hF
      have hdsz : dk.size = N := hs.len
      have HDS := Lib.hid hdsz
      clear hs hBk hF hdsz
      by_cases h12 : b' - a' ≤ 12
      · have h12z : (b' : Int) - (a' : Int) ≤ 12 := by omega
        go_wp2_with fail
        go_at_call 54
        refine (ins_any HK.out.now cap a' b' hab' hb' hN).mono ?_
        rintro e w1 ⟨rfl, h1⟩
        have H1 := Lib.hid (HK.out.trans h1)
        clear h1
        go_wp2
        go_returns
        have hh := insertionSort_holds (lt := ltInt) swo_ltInt dk a' b' hab' (by rw [HDS.out]; exact hb')
        exact ⟨rfl, _, H1.out, HF.out _ hh.1 hh.2⟩
      · have h12z : ¬ (b' : Int) - (a' : Int) ≤ 12 := by omega
        by_cases hl0 : l' = 0
        · have hl0z : (l' : Int) = 0 := by omega
          go_wp2_with fail
          go_at_call 55
          refine (heap_any HK.out.now cap a' b' (by omega) hb' hN).mono ?_
          rintro e w1 ⟨rfl, h1⟩
          have H1 := Lib.hid (HK.out.trans h1)
          clear h1
          go_wp2
          go_returns
          have hh := heapSort_holds (lt := ltInt) swo_ltInt dk a' b' hab' (by rw [HDS.out]; exact hb')
          exact ⟨rfl, _, H1.out, HF.out _ hh.1 hh.2⟩
        · have hl0z : ¬ (l' : Int) = 0 := by omega
          go_upto_if 35 with fail
          go_cut [3] (fun s3 wc => ∃ (l2 : Nat) (d1 : Array Int), s3 = .int .i64 l2 ∧ l2 ≤ l' ∧ SR w g c N wc d1 ∧ PermIn a' b' dk d1)
          case first =>
            cases wb
            · go_wp2_with fail
              go_at_call 56
              refine (break_any HK.out.now cap a' b' (by omega) hb' hN).mono ?_
              rintro e w1 ⟨rfl, d1, h1, p1⟩
              have H1 := Lib.hid (HK.out.trans h1)
              have P1 := Lib.hid p1
              clear h1 p1
              go_wp2_with fail
              go_meet
              case rel => exact ⟨l' - 1, d1, by congr 1; omega, by omega, H1.out, P1.out⟩
            · go_wp2_with fail
              go_meet
              case rel => exact ⟨l', dk, rfl, Nat.le_refl _, HK.out, permIn_refl _ _ _⟩
          case rest =>
            obtain ⟨l2, d1, rfl, hl2, h1, p1⟩ := hcut
            have H1 := Lib.hid h1
            have P1 := Lib.hid p1
            clear h1 p1
            go_upto_if 50 with (go_at_call 57; refine (choose_any H1.out.now cap a' b' (by omega) hb' hN).mono ?_; rintro e w2 ⟨⟨p, k, hp1, hp2, rfl⟩, hg2⟩)
            have H2 := Lib.hid (H1.out.grown hg2)
            clear hg2 H1
            go_cut [11, 12] (fun s11 s12 wc => ∃ (p2 : Nat) (k2 : Int) (d2 : Array Int), s11 = .int .i64 p2 ∧ s12 = .int .i64 k2 ∧ a' ≤ p2 ∧ p2 < b' ∧ SR w g c N wc d2 ∧ PermIn a' b' dk d2)
            case first =>
              by_cases hk2 : k = 2
              · subst hk2
                go_wp2_with fail
                go_at_call 58
                refine (rev_any H2.out.now cap a' b' (by omega) hb' hN).mono ?_
                rintro e w3 ⟨rfl, d2, h3, p3⟩
                have H3 := Lib.hid (H2.out.trans h3)
                have P3 := Lib.hid (permIn_trans _ _ _ a' b' P1.out p3)
                clear h3 p3
                go_wp2_with fail
                go_meet
                case rel => exact ⟨b' - 1 - (p - a'), 1, d2, by congr 1; omega, rfl, by omega, by omega, H3.out, P3.out⟩
              · have hkb : (k == 2) = false := by simpa using hk2
                go_wp2_with fail
                go_meet
                case rel => exact ⟨p, k, d1, rfl, rfl, hp1, hp2, H2.out, P1.out⟩
            case rest =>
              clear H2 P1 hp1 hp2
              obtain ⟨p2, k2, d2, rfl, rfl, hp1, hp2, h2, p1⟩ := hcut
              have H2 := Lib.hid h2
              have P2 := Lib.hid p1
              clear h2 p1
              go_upto_region 15 with fail
              go_cut [68] (fun s68 wx => (∃ t : Bool, s68 = .bool t) ∧ wx = wc)
              case first =>
                cases wb <;> cases wp <;> cases hk1 : (k2 == (1 : Int)) <;>
                  (go_wp2_with fail
                   go_meet
                   exact ⟨⟨_, rfl⟩, rfl⟩)
              case rest =>
                obtain ⟨⟨t, rfl⟩, rfl⟩ := hcut
                go_upto_if 68 with fail
                go_cut [] (fun wx => ∃ d3, SR w g c N wx d3 ∧ PermIn a' b' dk d3)
                case first =>
                  cases t
                  · go_wp2_with fail
                    go_meet
                    exact ⟨d2, H2.out, P2.out⟩
                  · go_wp2_with fail
                    go_at_call 59
                    refine (pins_any H2.out.now cap a' b' (by omega) hb' hN).mono ?_
                    rintro e w3 ⟨rfl, h3⟩
                    have hh := partialInsertionSort_holds (lt := ltInt) swo_ltInt d2 a' b' (by omega) (by rw [H2.out.len]; exact hb') (HBk.out.perm (by rw [HDS.out]; exact hb') P2.out)
                    have H3 := Lib.hid (H2.out.trans h3)
                    have P3 := Lib.hid (permIn_trans _ _ _ a' b' P2.out hh.1)
                    have S3 := Lib.hid hh.2
                    clear h3 hh
                    cases ht : (partialInsertionSort ltInt d2 a' b').2
                    · go_wp2_with fail
                      go_meet
                      exact ⟨_, H3.out, P3.out⟩
                    · go_wp2_with fail
                      go_returns
                      exact ⟨rfl, _, H3.out, HF.out _ P3.out (S3.out ht)⟩
                case rest =>
                  clear H2 P2
                  obtain ⟨d3, h3, p3⟩ := hcut
                  obtain ⟨G, hG, hcw, hfw⟩ := h3.names
                  have HG := Lib.hid hG
                  have H3 := Lib.hid h3
                  have P3 := Lib.hid p3
                  have hds3 : d3.size = N := h3.len
                  have HD3 := Lib.hid hds3
                  clear h3 p3 hG hds3
                  have hB3 := HBk.out.perm (d' := d3) (by rw [HDS.out]; exact hb') P3.out
                  have HB3 := Lib.hid hB3
                  clear hB3
                  go_upto_region 17 with fail
                  go_cut [87] (fun s87 wx => ∃ t : Bool, s87 = .bool t ∧ (t = true → 0 < a' ∧ ltInt d3[a' - 1]! d3[p2]! = false) ∧ SR w g c N wx d3)
                  case first =>
                    by_cases ha0 : 0 < a'
                    · have j0 : a' - 1 < N := by omega
                      have j1 : p2 < N := by omega
                      go_quiet (first | (go_at_call 60; refine Calls.quiet_of_same (less_any _ _ _)))
                      go_wp2_with fail
                      go_meet
                      exact ⟨_, rfl, fun ht => ⟨ha0, by rw [← HG.out, ← HG.out]; simpa using ht⟩, H3.out.drewN nq⟩
                    · have ha0z : decide ((0 : Int) < (a' : Int)) = false := decide_eq_false (by omega)
                      go_quiet (first | (go_at_call 60; refine Calls.quiet_of_same (less_any _ _ _)))
                      go_wp2_with fail
                      go_meet
                      exact ⟨false, rfl, fun ht => by simp at ht, H3.out.drewN nq⟩
                  case rest =>
                    clear H3 hcw hfw
                    obtain ⟨t, rfl, ht, h3⟩ := hcut
                    have H3 := Lib.hid h3
                    have HT := Lib.hid ht
                    clear h3 ht
                    cases t
                    · go_wp2_with fail
                      go_at_call 62
                      refine (part_any H3.out.now cap a' b' p2 hp1 hp2 hb' hN).mono ?_
                      rintro e w4 ⟨m, al, d4, rfl, h4, p4, hm1, hm2, hlo, hhi⟩
                      have H4 := Lib.hid (H3.out.trans h4)
                      have hs4 : d4.size = N := h4.len
                      have hpt : Parted a' m b' d4[m]! d4 := ⟨hm1, hm2, by omega, fun k k1 k2 => lt_t.1 (hlo k k1 k2), rfl, fun k k1 k2 => lt_f.1 (hhi k k1 k2)⟩
                      have P4 := Lib.hid (permIn_trans _ _ _ a' b' P3.out p4)
                      have hB4 := HB3.out.perm (d' := d4) (by rw [HD3.out]; exact hb') p4
                      have HPT := Lib.hid hpt
                      have HB4 := Lib.hid hB4
                      clear h4 hs4 hpt p4 hlo hhi hB4
                      by_cases hlr : m - a' < b' - m
                      · have hlrz : (m : Int) - (a' : Int) < (b' : Int) - (m : Int) := by omega
                        go_wp2_with fail
                        go_at_call 52
                        refine (IH.out _ _ _ _ _ H4.out.now cap a' m l2 (by omega) hm1 (by omega) hN (by omega) (HB4.out.mono (by omega))).mono ?_
                        rintro e w5 ⟨rfl, d5, h5, p5, s5⟩
                        have H5 := Lib.hid (H4.out.trans h5)
                        have hz := HPT.out.thenRight P4.out p5 s5
                        have HZ := Lib.hid hz
                        clear h5 p5 s5 hz
                        go_wp2
                        go_roundg (b' - (m + 1))
                        case measure => omega
                        case rel => exact ⟨m + 1, b', l2, _, al, d5, by go_num, rfl, rfl, rfl, rfl, by omega, hb', Nat.le_refl _, by omega, by omega, H5.out, HZ.out.1, HF.out.comp HZ.out.2⟩
                      · have hlrz : ¬ (m : Int) - (a' : Int) < (b' : Int) - (m : Int) := by omega
                        have ct := IH.out _ _ _ _ _ H4.out.now cap (m + 1) b' l2 (by omega) (by omega) hb' hN (by omega) (.inr fun i i1 i2 => by rw [Nat.add_sub_cancel]; exact lt_f.2 (HPT.out.right i (by omega) i2))
                        rw [show ((m + 1 : Nat) : Int) = (m : Int) + 1 by omega] at ct
                        have CT := Lib.hid ct
                        clear ct
                        go_wp2_with fail
                        go_at_call 52
                        refine CT.out.mono ?_
                        rintro e w5 ⟨rfl, d5, h5, p5, s5⟩
                        have H5 := Lib.hid (H4.out.trans h5)
                        have hz := HPT.out.thenLeft P4.out HB4.out p5 s5
                        have HZ := Lib.hid hz
                        clear h5 p5 s5 hz
                        go_wp2
                        go_roundg (m - a')
                        case measure => omega
                        case rel => exact ⟨a', m, l2, _, al, d5, rfl, rfl, rfl, rfl, rfl, hm1, by omega, Nat.le_refl _, by omega, by omega, H5.out, HZ.out.1, HF.out.comp HZ.out.2⟩
                    · obtain ⟨ha0, hnl⟩ := HT.out rfl
                      have HNL := Lib.hid hnl
                      clear hnl
                      go_wp2_with fail
                      go_at_call 61
                      refine (partE_any H3.out.now cap a' b' p2 hp1 hp2 hb' hN).mono ?_
                      rintro e w4 ⟨m, d4, rfl, h4, p4, hm1, hm2, hlo, hhi⟩
                      have H4 := Lib.hid (H3.out.trans h4)
                      have hge : ∀ k, a' ≤ k → k < b' → d3[p2]! ≤ d3[k]! := fun k k1 k2 => by
                        rcases HB3.out with e | e
                        · omega
                        · exact Int.le_trans (lt_f.1 HNL.out) (lt_f.1 (e k k1 k2))
                      have hz := equals (x := d3[p2]!) (d0 := dk) hm1 hm2 (by have := h4.len; omega) (permIn_trans _ _ _ a' b' P3.out p4) (permIn_all d3 d4 a' b' (d3[p2]! ≤ ·) (by rw [HD3.out]; exact hb') p4 hge)
                        (fun k k1 k2 => lt_f.1 (hlo k k1 k2)) (fun k k1 k2 => lt_t.1 (hhi k k1 k2))
                      have HZ := Lib.hid hz
                      clear h4 p4 hlo hhi hge hz
                      go_wp2
                      go_roundg (b' - m)
                      case measure => omega
                      case rel => exact ⟨m, b', l2, wb, wp, d4, rfl, rfl, rfl, rfl, rfl, hm2, hb', Nat.le_refl _, by omega, by omega, H4.out, HZ.out.1, HF.out.comp HZ.out.2⟩
end Go.Proofs.Ytkoalpbognpphaa
