/- The statement on leases, for every course, clocks, drift and lease: where two clocks keep to a drift, and the one goes on by the wait in a part of a course, the other one goes on by the lease in it. -/
import Derived.Test.YtconfkjchjcjgaaKLease
namespace Go.Proofs.Ytconfkjchjcjgaa
open Go.RowKit
set_option linter.unusedVariables false

theorem ownX_at {X : List (List Int)} {q m : Nat} (h : q < X.length) : (ownX m X)[q]'(by simpa [ownX] using h) = X[q].getD m 0 := by simp [ownX]
theorem ownX_length (m : Nat) (X : List (List Int)) : (ownX m X).length = X.length := by simp [ownX]
section
variable {A : Option Addr} {rs : List Ro} {n c : Nat} {a b d l : Int} {w : World}
set_option maxHeartbeats 16000000 in
set_option maxRecDepth 100000 in
theorem klease_main (hn : rs.length = n) (H200 : n ≤ 200) (h64 : ∀ r ∈ rs, r.xs.length ≤ 64) (hC : Course w w.heap.size A rs)
    (ha : FitX (rs.map Ro.xs) a d) (hb : FitX (rs.map Ro.xs) b d) (hw : WaitFits l d) (hka : kpB d (ownX a.toNat (rs.map Ro.xs)) = true) (hkb : kpB d (ownX b.toNat (rs.map Ro.xs)) = true) :
    Calls Try.prog 7 #[.slice A n c, .int .i64 a, .int .i64 b, .int .i64 d, .int .i64 l] w fun e w' => e = .returned (.bool true) ∧ Below w.heap.size w w' := by
  have hs : smallB rs = true := smallB_iff.2 ⟨h64, by omega⟩
  obtain ⟨X, hX⟩ : ∃ X, rs.map Ro.xs = X := ⟨_, rfl⟩
  obtain ⟨ea1, ea2⟩ := resX_yes ha
  obtain ⟨eb1, eb2⟩ := resX_yes hb
  rw [hka] at ea1
  rw [hkb] at eb1
  have ew1 : waitR l d = waitOf l d := by unfold waitR; rw [if_pos hw]
  have ew2 : waitE l d = 0 := by unfold waitE; rw [if_pos hw]
  obtain ⟨m, rfl⟩ : ∃ m : Nat, a = m := ⟨a.toNat, by have := ha.2.1; omega⟩
  obtain ⟨p, rfl⟩ : ∃ p : Nat, b = p := ⟨b.toNat, by have := hb.2.1; omega⟩
  have hm63 : m ≤ 63 := by have := ha.2.1; omega
  have hp63 : p ≤ 63 := by have := hb.2.1; omega
  have hin : InC rs := badC_no (by rw [bad_x]; exact ha.2.2)
  have hlX : X.length = n := by rw [← hX, List.length_map]; exact hn
  have hov : ∀ i k : Nat, i < k → k ≤ n → waitOf l d ≤ pre (ownX m X) k - pre (ownX m X) i → l ≤ pre (ownX p X) k - pre (ownX p X) i := fun i k hik hk hW =>
    lease_over (a := ownX m X) (b := ownX p X) ha.1.1 ha.1.2 hw.2.1 (by rw [ownX_length, ownX_length]) (by rw [hX] at hka; exact kpB_iff.1 hka) (by rw [hX] at hkb; exact kpB_iff.1 hkb) hik (by rw [ownX_length]; omega) hW
  have hwb := wait_bound hw.1.1 hw.1.2 hw.2.1 hw.2.2
  have hWB : 2 ≤ waitOf l d ∧ waitOf l d ≤ 1572869000 := ⟨hwb.2.2.2.1, hwb.2.2.2.2⟩
  have hlB : 1 ≤ l ∧ l ≤ 1048576 := hw.2
  have HN := Lib.hid hn
  have H64 := Lib.hid h64
  have HC := Lib.hid hC
  have HIN := Lib.hid hin
  have HLX := Lib.hid hlX
  have HLS := Lib.hid hov
  have HX := Lib.hid hX
  obtain ⟨b, hbp⟩ : ∃ b : Int, b = (p : Int) := ⟨_, rfl⟩
  obtain ⟨a, ham⟩ : ∃ a : Int, a = (m : Int) := ⟨_, rfl⟩
  rw [← hbp] at eb1 eb2 ⊢
  rw [← ham] at ea1 ea2 ⊢
  have HAM := Lib.hid ham
  have HBP := Lib.hid hbp
  clear hn h64 hC hin hlX hov hX ha hb hw hka hkb hwb ham hbp
  go_enter Try.func7, Try.ntmps7
  go_wp2_with fail
  refine (lives_any w).mono ?_
  rintro e w1 ⟨rfl, hb1⟩
  have HB1 := Lib.hid hb1
  clear hb1
  have hC1 := HC.out.below HB1.out
  have cs := small_any (c := c) w1 HN.out (by omega) hC1
  rw [hs] at cs
  have CS := Lib.hid cs
  have CL := Lib.hid (lend_any (c := c) w1 HN.out (by have := HN.out; omega) H64.out (hC1.more HB1.out.size))
  clear cs hC1 hs
  go_wp2_with (go_at_call 20; refine CS.out.mono ?_; rintro e w' ⟨rfl, rfl⟩)
  refine CL.out.mono ?_
  rintro e w2 ⟨A', c', rs', rfl, hl', hx', hC2, hb2⟩
  have CK := Lib.hid (keepX_any (node := a) (d := d) (c := c') w2 hl' H200 hC2 hx')
  rw [ea1, ea2] at CK
  have HB2 := Lib.hid (HB1.out.trans (hb2.mono HB1.out.size))
  clear hl' hx' hC2 hb2
  go_wp2_with fail
  refine CK.out.mono ?_
  rintro e w3 ⟨rfl, hb3⟩
  have HB3 := Lib.hid (HB2.out.trans (hb3.mono HB2.out.size))
  have CL2 := Lib.hid (lend_any (c := c) w3 HN.out H200 H64.out ((HC.out.below HB3.out).more HB3.out.size))
  clear hb3 CK
  go_wp2_with fail
  refine CL2.out.mono ?_
  rintro e w4 ⟨A', c', rs', rfl, hl', hx', hC2, hb2⟩
  have CK := Lib.hid (keepX_any (node := b) (d := d) (c := c') w4 hl' H200 hC2 hx')
  rw [eb1, eb2] at CK
  have HB4 := Lib.hid (HB3.out.trans (hb2.mono HB3.out.size))
  clear hl' hx' hC2 hb2 CL2
  go_wp2_with fail
  refine CK.out.mono ?_
  rintro e w5 ⟨rfl, hb5⟩
  have HB5 := Lib.hid (HB4.out.trans (hb5.mono HB4.out.size))
  have CW := Lib.hid (waitX_any l d w5)
  rw [ew1, ew2] at CW
  clear hb5 CK
  clear ea1 ea2 eb1 eb2 ew1 ew2
  have HC5 := Lib.hid (HC.out.below HB5.out)
  obtain ⟨W, hW⟩ : ∃ W, waitOf l d = W := ⟨_, rfl⟩
  rw [hW] at CW hWB HLS
  clear hW
  go_wp2_with (go_at_call 10; refine CW.out.mono ?_; rintro e w' ⟨rfl, rfl⟩)
  obtain ⟨wo, hwo⟩ : ∃ wo : World, wo = w5 := ⟨_, rfl⟩
  subst hwo
  rw [HAM.out, HBP.out]
  go_loop [17] (fun i => ∃ i0 : Nat, i0 ≤ n ∧ i = .int .i64 i0) (fun i => n - (intOf i).toNat)
  case atStart => exact ⟨0, by omega, rfl⟩
  case round =>
    obtain ⟨i0, hi0, rfl⟩ := hrel
    by_cases hlt : i0 < n
    · go_wp2
      go_loop [18, 19, 20] (fun s t j => ∃ (q : Nat) (x y : Int), i0 ≤ q ∧ q ≤ n ∧ j = .int .i64 q ∧ s = .int .i64 x ∧ t = .int .i64 y ∧ x = pre (ownX m X) q - pre (ownX m X) i0 ∧ y = pre (ownX p X) q - pre (ownX p X) i0 ∧ (0 ≤ x ∧ x ≤ q * 1048576) ∧ (0 ≤ y ∧ y ≤ q * 1048576)) (fun _ _ j => n - (intOf j).toNat)
      case atStart => exact ⟨i0, 0, 0, by omega, by omega, rfl, rfl, rfl, by omega, by omega, by omega, by omega⟩
      case round =>
        obtain ⟨q, x, y, hiq, hqn, rfl, rfl, rfl, hx, hy, hxb, hyb⟩ := hrel
        by_cases hqlt : q < n
        · have hqr : q < rs.length := by have := HN.out; omega
          have hqX : q < X.length := by have := HLX.out; omega
          obtain ⟨ad, hA, hlad, hcell⟩ := HC5.out.rows.at_ (ro_get hqr)
          have hxs := HC5.out.each rs[q] (List.getElem_mem _)
          have hlen := H64.out rs[q] (List.getElem_mem _)
          have hXq : X[q] = rs[q].xs := by simp [← HX.out]
          have HPA : Hid (pre (ownX m X) (q + 1) = pre (ownX m X) q + rs[q].xs.getD m 0) := Lib.hid (by rw [pre_succ _ _ (by rw [ownX_length]; exact hqX), ownX_at hqX, hXq])
          have HPB : Hid (pre (ownX p X) (q + 1) = pre (ownX p X) q + rs[q].xs.getD p 0) := Lib.hid (by rw [pre_succ _ _ (by rw [ownX_length]; exact hqX), ownX_at hqX, hXq])
          have hbm : 0 ≤ rs[q].xs.getD m 0 ∧ rs[q].xs.getD m 0 ≤ 1048576 := by
            rcases Nat.lt_or_ge m rs[q].xs.length with z | z
            · rw [List.getD_eq_getElem?_getD, List.getElem?_eq_getElem z]; exact HIN.out _ (List.getElem_mem _) _ (List.getElem_mem _)
            · rw [List.getD_eq_getElem?_getD, List.getElem?_eq_none z]; exact ⟨by decide, by decide⟩
          have hbp : 0 ≤ rs[q].xs.getD p 0 ∧ rs[q].xs.getD p 0 ≤ 1048576 := by
            rcases Nat.lt_or_ge p rs[q].xs.length with z | z
            · rw [List.getD_eq_getElem?_getD, List.getElem?_eq_getElem z]; exact HIN.out _ (List.getElem_mem _) _ (List.getElem_mem _)
            · rw [List.getD_eq_getElem?_getD, List.getElem?_eq_none z]; exact ⟨by decide, by decide⟩
          generalize hr : rs[q] = r at *
          have HRr := Lib.hid hr
          clear hr hXq
          subst hA
          obtain ⟨L, hL⟩ : ∃ L, r.xs.length = L := ⟨_, rfl⟩
          rw [hL] at hcell hlen
          have hz1 : m < L → (cI r.xs)[m]? = some (.int .i64 (r.xs.getD m 0)) := fun z => by
            have z' : m < r.xs.length := by omega
            rw [cI_get z']; simp [z']
          have hz2 : p < L → (cI r.xs)[p]? = some (.int .i64 (r.xs.getD p 0)) := fun z => by
            have z' : p < r.xs.length := by omega
            rw [cI_get z']; simp [z']
          have hz3 : ¬ m < L → r.xs.getD m 0 = 0 := fun z => by rw [List.getD_eq_getElem?_getD, List.getElem?_eq_none (by omega)]; rfl
          have hz4 : ¬ p < L → r.xs.getD p 0 = 0 := fun z => by rw [List.getD_eq_getElem?_getD, List.getElem?_eq_none (by omega)]; rfl
          generalize r.xs.getD m 0 = g1 at *
          generalize r.xs.getD p 0 = g2 at *
          have HL := Lib.hid hL
          have HXE := Lib.hid hx
          have HYE := Lib.hid hy
          clear hL hx hy
          by_cases hm1 : m < L
          · obtain ⟨ad2, hA2, hl2, hc1⟩ := hxs.at_ (hz1 hm1)
            by_cases hp1 : p < L
            · obtain ⟨ad3, hA3, hl3, hc2⟩ := hxs.at_ (hz2 hp1)
              rw [hA2] at hcell hA3
              obtain rfl : ad2 = ad3 := Option.some.inj hA3
              clear hz1 hz2 hz3 hz4 hxs hA2 hA3
              have HXX : Hid (x + g1 = pre (ownX m X) (q + 1) - pre (ownX m X) i0) := Lib.hid (by rw [HPA.out, HXE.out]; omega)
              have HYY : Hid (y + g2 = pre (ownX p X) (q + 1) - pre (ownX p X) i0) := Lib.hid (by rw [HPB.out, HYE.out]; omega)
              have hlease : W ≤ x + g1 → l ≤ y + g2 := fun h => by
                have := HLS.out i0 (q + 1) (by omega) (by omega) (by rw [← HXX.out]; exact h)
                rw [HYY.out]
                exact this
              by_cases c1 : W ≤ x + g1
              · have c2 := hlease c1
                have u1 : decide (W ≤ x + g1) = true := decide_eq_true c1
                have u2 : decide (y + g2 < l) = false := decide_eq_false (by omega)
                clear hlease c1 c2
                go_wp2
                go_round
                case rel => exact ⟨q + 1, _, _, by omega, by omega, by go_num, rfl, rfl, HXX.out, HYY.out, by omega, by omega⟩
                case measure => simp [intOf]; omega
              · have u1 : decide (W ≤ x + g1) = false := decide_eq_false c1
                clear hlease c1
                go_wp2
                go_round
                case rel => exact ⟨q + 1, _, _, by omega, by omega, by go_num, rfl, rfl, HXX.out, HYY.out, by omega, by omega⟩
                case measure => simp [intOf]; omega
            · rw [hA2] at hcell
              have h4 := hz4 hp1
              subst h4
              clear hz1 hz2 hz3 hz4 hxs hA2
              have HXX : Hid (x + g1 = pre (ownX m X) (q + 1) - pre (ownX m X) i0) := Lib.hid (by rw [HPA.out, HXE.out]; omega)
              have HYY : Hid (y = pre (ownX p X) (q + 1) - pre (ownX p X) i0) := Lib.hid (by rw [HPB.out, HYE.out]; omega)
              have hlease : W ≤ x + g1 → l ≤ y := fun h => by
                have := HLS.out i0 (q + 1) (by omega) (by omega) (by rw [← HXX.out]; exact h)
                rw [HYY.out]
                exact this
              by_cases c1 : W ≤ x + g1
              · have c2 := hlease c1
                have u1 : decide (W ≤ x + g1) = true := decide_eq_true c1
                have u2 : decide (y < l) = false := decide_eq_false (by omega)
                clear hlease c1 c2
                go_wp2
                go_round
                case rel => exact ⟨q + 1, _, _, by omega, by omega, by go_num, rfl, rfl, HXX.out, HYY.out, by omega, by omega⟩
                case measure => simp [intOf]; omega
              · have u1 : decide (W ≤ x + g1) = false := decide_eq_false c1
                clear hlease c1
                go_wp2
                go_round
                case rel => exact ⟨q + 1, _, _, by omega, by omega, by go_num, rfl, rfl, HXX.out, HYY.out, by omega, by omega⟩
                case measure => simp [intOf]; omega
          · have h3 := hz3 hm1
            subst h3
            by_cases hp1 : p < L
            · obtain ⟨ad3, hA3, hl3, hc2⟩ := hxs.at_ (hz2 hp1)
              rw [hA3] at hcell
              clear hz1 hz2 hz3 hz4 hxs hA3
              have HXX : Hid (x = pre (ownX m X) (q + 1) - pre (ownX m X) i0) := Lib.hid (by rw [HPA.out, HXE.out]; omega)
              have HYY : Hid (y + g2 = pre (ownX p X) (q + 1) - pre (ownX p X) i0) := Lib.hid (by rw [HPB.out, HYE.out]; omega)
              have hlease : W ≤ x → l ≤ y + g2 := fun h => by
                have := HLS.out i0 (q + 1) (by omega) (by omega) (by rw [← HXX.out]; exact h)
                rw [HYY.out]
                exact this
              by_cases c1 : W ≤ x
              · have c2 := hlease c1
                have u1 : decide (W ≤ x) = true := decide_eq_true c1
                have u2 : decide (y + g2 < l) = false := decide_eq_false (by omega)
                clear hlease c1 c2
                go_wp2
                go_round
                case rel => exact ⟨q + 1, _, _, by omega, by omega, by go_num, rfl, rfl, HXX.out, HYY.out, by omega, by omega⟩
                case measure => simp [intOf]; omega
              · have u1 : decide (W ≤ x) = false := decide_eq_false c1
                clear hlease c1
                go_wp2
                go_round
                case rel => exact ⟨q + 1, _, _, by omega, by omega, by go_num, rfl, rfl, HXX.out, HYY.out, by omega, by omega⟩
                case measure => simp [intOf]; omega
            · have h4 := hz4 hp1
              subst h4
              clear hz1 hz2 hz3 hz4 hxs
              have HXX : Hid (x = pre (ownX m X) (q + 1) - pre (ownX m X) i0) := Lib.hid (by rw [HPA.out, HXE.out]; omega)
              have HYY : Hid (y = pre (ownX p X) (q + 1) - pre (ownX p X) i0) := Lib.hid (by rw [HPB.out, HYE.out]; omega)
              have hlease : W ≤ x → l ≤ y := fun h => by
                have := HLS.out i0 (q + 1) (by omega) (by omega) (by rw [← HXX.out]; exact h)
                rw [HYY.out]
                exact this
              by_cases c1 : W ≤ x
              · have c2 := hlease c1
                have u1 : decide (W ≤ x) = true := decide_eq_true c1
                have u2 : decide (y < l) = false := decide_eq_false (by omega)
                clear hlease c1 c2
                go_wp2
                go_round
                case rel => exact ⟨q + 1, _, _, by omega, by omega, by go_num, rfl, rfl, HXX.out, HYY.out, by omega, by omega⟩
                case measure => simp [intOf]; omega
              · have u1 : decide (W ≤ x) = false := decide_eq_false c1
                clear hlease c1
                go_wp2
                go_round
                case rel => exact ⟨q + 1, _, _, by omega, by omega, by go_num, rfl, rfl, HXX.out, HYY.out, by omega, by omega⟩
                case measure => simp [intOf]; omega
        · obtain rfl : q = n := by omega
          go_wp2
          go_round
          case rel => exact ⟨i0 + 1, by omega, by go_num⟩
          case measure => simp [intOf]; omega
    · go_wp2
      go_ret
      exact ⟨rfl, HB5.out⟩
theorem klease_big (hn : rs.length = n) (hm : n ≤ 140737488351232) (hC : Course w w.heap.size A rs) (hs : smallB rs = false) :
    Calls Try.prog 7 #[.slice A n c, .int .i64 a, .int .i64 b, .int .i64 d, .int .i64 l] w fun e w' => e = .returned (.bool true) ∧ Below w.heap.size w w' := by
  have HC := Lib.hid hC
  have HN := Lib.hid hn
  clear hC hn
  go_enter Try.func7, Try.ntmps7
  go_wp2_with fail
  refine (lives_any w).mono ?_
  rintro e w1 ⟨rfl, hb1⟩
  have HB1 := Lib.hid hb1
  clear hb1
  have cs := small_any (c := c) w1 HN.out hm (HC.out.below HB1.out)
  rw [hs] at cs
  have CS := Lib.hid cs
  clear cs hs
  go_wp2_with fail
  refine CS.out.mono ?_
  rintro e w' ⟨rfl, rfl⟩
  go_wp2
  go_ret
  exact ⟨rfl, HB1.out⟩
theorem klease_walk (hn : rs.length = n) (hm : n ≤ 140737488351232) (hC : Course w w.heap.size A rs) :
    Calls Try.prog 7 #[.slice A n c, .int .i64 a, .int .i64 b, .int .i64 d, .int .i64 l] w fun e w' => e = .returned (.bool true) ∧ Below w.heap.size w w' := by
  cases hs : smallB rs
  · exact klease_big hn hm hC hs
  · obtain ⟨h64, h200⟩ := smallB_iff.1 hs
    by_cases h : FitX (rs.map Ro.xs) a d ∧ FitX (rs.map Ro.xs) b d ∧ WaitFits l d ∧ kpB d (ownX a.toNat (rs.map Ro.xs)) = true ∧ kpB d (ownX b.toNat (rs.map Ro.xs)) = true
    · exact klease_main hn (by omega) h64 hC h.1 h.2.1 h.2.2.1 h.2.2.2.1 h.2.2.2.2
    · exact klease_early hn (by omega) h64 hC h
end

open Go.ChangeShapes Go.WideShapes Go.ChangeAt
set_option maxRecDepth 100000 in
theorem klease_lifted (os : Os) (started : os.Started) (H : Type) (enc : TypeId × Value → H) :
    ReturnsInHanded {} Try.checked os 7 .any (Rows.clockLeaseSpec.pre6 enc Try.prog Try.f7 Rows.clockLeaseRow.domain false) (Rows.clockLeaseSpec.post enc Try.prog Try.f7 false true false false) := by
  refine returnsInHanded_of_change_sized (C := Try.checked) own started (by kernel_rfl) Try.func7
    (ChangeSpec.witness6 (enc := enc) (C := Try.checked) false ⟨#[], #[.slice none 0 0, .int .i64 0, .int .i64 0, .int .i64 0, .int .i64 0], []⟩ 8 (by kernel_rfl) (by kernel_rfl) (by kernel_rfl) (by kernel_rfl)) ?_
  intro W base args ds gs before hval0 hW _ hsz0 _
  have hsz : (DataW.weightsEach Try.prog (Try.f7.params.toList ++ Rows.clockLeaseSpec.plain.varTypes Try.prog) (ds ++ gs)).all (· ≤ reachBytes) = true := hsz0
  have hval : ∀ (j : Nat) t v, Try.f7.params[j]? = some t → args[j]? = some v → Value.okWide Try.prog W .any base t v := hval0
  have hW' := hW
  obtain ⟨p, q, hA0, hV, rfl, _, _⟩ := hW
  have hA : DataW.TrodAll enc Try.prog W 0 (fun _ => true) true Try.f7.params.toList args.toList ds p := hA0
  rw [Try.params7] at hA hval hsz
  obtain ⟨v0, vs0, d0, ds0, p0, q0, hargs, rfl, rfl, h0, r0⟩ := trodAll_cons hA
  obtain ⟨v1, vs1, d1, ds1, p1, q1, rfl, rfl, rfl, h1, r1⟩ := trodAll_cons r0
  obtain ⟨v2, vs2, d2, ds2, p2, q2, rfl, rfl, rfl, h2, r2⟩ := trodAll_cons r1
  obtain ⟨v3, vs3, d3, ds3, p3, q3, rfl, rfl, rfl, h3, r3⟩ := trodAll_cons r2
  obtain ⟨v4, vs4, d4, ds4, p4, q4, rfl, rfl, rfl, h4, r4⟩ := trodAll_cons r3
  obtain ⟨rfl, rfl, rfl⟩ := trodAll_nil r4
  obtain rfl : args = #[v0, v1, v2, v3, v4] := by cases args; simp_all
  obtain ⟨A0, rs0, c0, hc0⟩ := open_course (hval 0 28 v0 rfl rfl) h0 (sized_mem hsz (j := 0) (t := 28) rfl rfl)
  obtain rfl := hc0.val
  obtain ⟨a1, rfl, rfl, rfl, w1⟩ := open_int Try.underlying3 (hval 1 3 v1 rfl rfl) h1
  have b1 := bounds_i64 w1
  obtain ⟨a2, rfl, rfl, rfl, w2⟩ := open_int Try.underlying3 (hval 2 3 v2 rfl rfl) h2
  have b2 := bounds_i64 w2
  obtain ⟨a3, rfl, rfl, rfl, w3⟩ := open_int Try.underlying3 (hval 3 3 v3 rfl rfl) h3
  have b3 := bounds_i64 w3
  obtain ⟨a4, rfl, rfl, rfl, w4⟩ := open_int Try.underlying3 (hval 4 3 v4 rfl rfl) h4
  have b4 := bounds_i64 w4
  exact law_close laid rfl hW' (by kernel_rfl) rfl Try.underlying4 rfl (klease_walk rfl hc0.len hc0.course)

theorem clockLease_holds : Rows.ClockLeaseSaid :=
  OpenClaim.holds_of_wide 7 Try.f7 rfl rfl rfl rfl rfl rfl rfl ⟨rfl, rfl, rfl, rfl, rfl⟩ rfl rfl rfl rfl rfl (by kernel_rfl) Try.func7 (by kernel_rfl)
    (of_decide_eq_true (by kernel_rfl)) (by unfold Func.isWrapper; first | (rw [if_pos (by decide +kernel)]; kernel_rfl) | (rw [if_neg (by decide +kernel)]; exact ⟨rfl, rfl⟩))
    (fun os started H enc _ => klease_lifted os started H enc)

#print axioms clockLease_holds
end Go.Proofs.Ytconfkjchjcjgaa
