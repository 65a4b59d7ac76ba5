/- The statement on leases: where two clocks keep to a drift, and the one goes on by the wait in a part of a course, the other one goes on by the lease in it. -/
import Derived.Test.YtconfkjchjcjgaaKRes
namespace Go.Proofs.Ytconfkjchjcjgaa
open Go.RowKit
set_option linter.unusedVariables false

section
variable {A : Option Addr} {rs : List Ro} {n c : Nat} {a b d l : Int} {w : World}
set_option maxHeartbeats 8000000 in
set_option maxRecDepth 100000 in
theorem klease_early (hn : rs.length = n) (H200 : n ≤ 200) (h64 : ∀ r ∈ rs, r.xs.length ≤ 64) (hC : Course w w.heap.size A rs)
    (hbad : ¬ (FitX (rs.map Ro.xs) a d ∧ FitX (rs.map Ro.xs) b d ∧ WaitFits l d ∧ kpB d (ownX a.toNat (rs.map Ro.xs)) = true ∧ kpB d (ownX b.toNat (rs.map Ro.xs)) = true)) :
    Calls Try.prog 7 #[.slice A n c, .int .i64 a, .int .i64 b, .int .i64 d, .int .i64 l] w fun e w' => e = .returned (.bool true) ∧ Below w.heap.size w w' := by
  have hs : smallB rs = true := smallB_iff.2 ⟨h64, by omega⟩
  have HN := Lib.hid hn
  have H64 := Lib.hid h64
  have HC := Lib.hid hC
  clear hn h64 hC
  go_enter Try.func7, Try.ntmps7
  go_wp2_with fail
  refine (lives_any w).mono ?_
  rintro e w1 ⟨rfl, hb1⟩
  have HB1 := Lib.hid hb1
  clear hb1
  have hC1 := HC.out.below HB1.out
  have cs := small_any (c := c) w1 HN.out (by omega) hC1
  rw [hs] at cs
  have CS := Lib.hid cs
  have CL := Lib.hid (lend_any (c := c) w1 HN.out (by have := HN.out; omega) H64.out (hC1.more HB1.out.size))
  clear cs hC1 hs
  by_cases ha : FitX (rs.map Ro.xs) a d
  · obtain ⟨ea1, ea2⟩ := resX_yes ha
    by_cases hb : FitX (rs.map Ro.xs) b d
    · obtain ⟨eb1, eb2⟩ := resX_yes hb
      by_cases hw : WaitFits l d
      · have ew1 : waitR l d = waitOf l d := by unfold waitR; rw [if_pos hw]
        have ew2 : waitE l d = 0 := by unfold waitE; rw [if_pos hw]
        cases hka : kpB d (ownX a.toNat (rs.map Ro.xs))
        · rw [hka] at ea1
          go_wp2_with (go_at_call 20; refine CS.out.mono ?_; rintro e w' ⟨rfl, rfl⟩)
          refine CL.out.mono ?_
          rintro e w2 ⟨A', c', rs', rfl, hl', hx', hC2, hb2⟩
          have CK := Lib.hid (keepX_any (node := a) (d := d) (c := c') w2 hl' H200 hC2 hx')
          rw [ea1, ea2] at CK
          have HB2 := Lib.hid (HB1.out.trans (hb2.mono HB1.out.size))
          clear hl' hx' hC2 hb2
          go_wp2_with fail
          refine CK.out.mono ?_
          rintro e w3 ⟨rfl, hb3⟩
          have HB3 := Lib.hid (HB2.out.trans (hb3.mono HB2.out.size))
          have CL2 := Lib.hid (lend_any (c := c) w3 HN.out H200 H64.out ((HC.out.below HB3.out).more HB3.out.size))
          clear hb3 CK
          go_wp2_with fail
          refine CL2.out.mono ?_
          rintro e w4 ⟨A', c', rs', rfl, hl', hx', hC2, hb2⟩
          have CK := Lib.hid (keepX_any (node := b) (d := d) (c := c') w4 hl' H200 hC2 hx')
          rw [eb1, eb2] at CK
          have HB4 := Lib.hid (HB3.out.trans (hb2.mono HB3.out.size))
          clear hl' hx' hC2 hb2 CL2
          go_wp2_with fail
          refine CK.out.mono ?_
          rintro e w5 ⟨rfl, hb5⟩
          have HB5 := Lib.hid (HB4.out.trans (hb5.mono HB4.out.size))
          have CW := Lib.hid (waitX_any l d w5)
          rw [ew1, ew2] at CW
          clear hb5 CK
          clear ea1 ea2 eb1 eb2 ew1 ew2 hka hbad ha hb hw
          go_wp2_with (go_at_call 10; refine CW.out.mono ?_; rintro e w' ⟨rfl, rfl⟩)
          go_ret
          exact ⟨rfl, HB5.out⟩
        · rw [hka] at ea1
          cases hkb : kpB d (ownX b.toNat (rs.map Ro.xs))
          · rw [hkb] at eb1
            go_wp2_with (go_at_call 20; refine CS.out.mono ?_; rintro e w' ⟨rfl, rfl⟩)
            refine CL.out.mono ?_
            rintro e w2 ⟨A', c', rs', rfl, hl', hx', hC2, hb2⟩
            have CK := Lib.hid (keepX_any (node := a) (d := d) (c := c') w2 hl' H200 hC2 hx')
            rw [ea1, ea2] at CK
            have HB2 := Lib.hid (HB1.out.trans (hb2.mono HB1.out.size))
            clear hl' hx' hC2 hb2
            go_wp2_with fail
            refine CK.out.mono ?_
            rintro e w3 ⟨rfl, hb3⟩
            have HB3 := Lib.hid (HB2.out.trans (hb3.mono HB2.out.size))
            have CL2 := Lib.hid (lend_any (c := c) w3 HN.out H200 H64.out ((HC.out.below HB3.out).more HB3.out.size))
            clear hb3 CK
            go_wp2_with fail
            refine CL2.out.mono ?_
            rintro e w4 ⟨A', c', rs', rfl, hl', hx', hC2, hb2⟩
            have CK := Lib.hid (keepX_any (node := b) (d := d) (c := c') w4 hl' H200 hC2 hx')
            rw [eb1, eb2] at CK
            have HB4 := Lib.hid (HB3.out.trans (hb2.mono HB3.out.size))
            clear hl' hx' hC2 hb2 CL2
            go_wp2_with fail
            refine CK.out.mono ?_
            rintro e w5 ⟨rfl, hb5⟩
            have HB5 := Lib.hid (HB4.out.trans (hb5.mono HB4.out.size))
            have CW := Lib.hid (waitX_any l d w5)
            rw [ew1, ew2] at CW
            clear hb5 CK
            clear ea1 ea2 eb1 eb2 ew1 ew2 hka hkb hbad ha hb hw
            go_wp2_with (go_at_call 10; refine CW.out.mono ?_; rintro e w' ⟨rfl, rfl⟩)
            go_ret
            exact ⟨rfl, HB5.out⟩
          · exact absurd ⟨ha, hb, hw, hka, hkb⟩ hbad
      · have ew1 : waitR l d = 0 := by unfold waitR; rw [if_neg hw]
        have ew2 : waitE l d = 2 := by unfold waitE; rw [if_neg hw]
        go_wp2_with (go_at_call 20; refine CS.out.mono ?_; rintro e w' ⟨rfl, rfl⟩)
        refine CL.out.mono ?_
        rintro e w2 ⟨A', c', rs', rfl, hl', hx', hC2, hb2⟩
        have CK := Lib.hid (keepX_any (node := a) (d := d) (c := c') w2 hl' H200 hC2 hx')
        rw [ea1, ea2] at CK
        have HB2 := Lib.hid (HB1.out.trans (hb2.mono HB1.out.size))
        clear hl' hx' hC2 hb2
        go_wp2_with fail
        refine CK.out.mono ?_
        rintro e w3 ⟨rfl, hb3⟩
        have HB3 := Lib.hid (HB2.out.trans (hb3.mono HB2.out.size))
        have CL2 := Lib.hid (lend_any (c := c) w3 HN.out H200 H64.out ((HC.out.below HB3.out).more HB3.out.size))
        clear hb3 CK
        go_wp2_with fail
        refine CL2.out.mono ?_
        rintro e w4 ⟨A', c', rs', rfl, hl', hx', hC2, hb2⟩
        have CK := Lib.hid (keepX_any (node := b) (d := d) (c := c') w4 hl' H200 hC2 hx')
        rw [eb1, eb2] at CK
        have HB4 := Lib.hid (HB3.out.trans (hb2.mono HB3.out.size))
        clear hl' hx' hC2 hb2 CL2
        go_wp2_with fail
        refine CK.out.mono ?_
        rintro e w5 ⟨rfl, hb5⟩
        have HB5 := Lib.hid (HB4.out.trans (hb5.mono HB4.out.size))
        have CW := Lib.hid (waitX_any l d w5)
        rw [ew1, ew2] at CW
        clear hb5 CK
        clear ea1 ea2 eb1 eb2 ew1 ew2 hbad ha hb hw
        go_wp2_with (go_at_call 10; refine CW.out.mono ?_; rintro e w' ⟨rfl, rfl⟩)
        go_ret
        exact ⟨rfl, HB5.out⟩
    · obtain ⟨eb1, eb2⟩ := resX_no hb
      obtain ⟨zw, ew1⟩ : ∃ z, waitR l d = z := ⟨_, rfl⟩
      obtain ⟨ze, ew2⟩ : ∃ z, waitE l d = z := ⟨_, rfl⟩
      go_wp2_with (go_at_call 20; refine CS.out.mono ?_; rintro e w' ⟨rfl, rfl⟩)
      refine CL.out.mono ?_
      rintro e w2 ⟨A', c', rs', rfl, hl', hx', hC2, hb2⟩
      have CK := Lib.hid (keepX_any (node := a) (d := d) (c := c') w2 hl' H200 hC2 hx')
      rw [ea1, ea2] at CK
      have HB2 := Lib.hid (HB1.out.trans (hb2.mono HB1.out.size))
      clear hl' hx' hC2 hb2
      go_wp2_with fail
      refine CK.out.mono ?_
      rintro e w3 ⟨rfl, hb3⟩
      have HB3 := Lib.hid (HB2.out.trans (hb3.mono HB2.out.size))
      have CL2 := Lib.hid (lend_any (c := c) w3 HN.out H200 H64.out ((HC.out.below HB3.out).more HB3.out.size))
      clear hb3 CK
      go_wp2_with fail
      refine CL2.out.mono ?_
      rintro e w4 ⟨A', c', rs', rfl, hl', hx', hC2, hb2⟩
      have CK := Lib.hid (keepX_any (node := b) (d := d) (c := c') w4 hl' H200 hC2 hx')
      rw [eb1, eb2] at CK
      have HB4 := Lib.hid (HB3.out.trans (hb2.mono HB3.out.size))
      clear hl' hx' hC2 hb2 CL2
      go_wp2_with fail
      refine CK.out.mono ?_
      rintro e w5 ⟨rfl, hb5⟩
      have HB5 := Lib.hid (HB4.out.trans (hb5.mono HB4.out.size))
      have CW := Lib.hid (waitX_any l d w5)
      rw [ew1, ew2] at CW
      clear hb5 CK
      clear ea1 ea2 eb1 eb2 ew1 ew2 hbad ha hb
      go_wp2_with (go_at_call 10; refine CW.out.mono ?_; rintro e w' ⟨rfl, rfl⟩)
      go_ret
      exact ⟨rfl, HB5.out⟩
  · obtain ⟨ea1, ea2⟩ := resX_no ha
    obtain ⟨xb, eb1⟩ : ∃ z, resX (rs.map Ro.xs) b d = z := ⟨_, rfl⟩
    obtain ⟨yb, eb2⟩ : ∃ z, errX (rs.map Ro.xs) b d = z := ⟨_, rfl⟩
    obtain ⟨zw, ew1⟩ : ∃ z, waitR l d = z := ⟨_, rfl⟩
    obtain ⟨ze, ew2⟩ : ∃ z, waitE l d = z := ⟨_, rfl⟩
    go_wp2_with (go_at_call 20; refine CS.out.mono ?_; rintro e w' ⟨rfl, rfl⟩)
    refine CL.out.mono ?_
    rintro e w2 ⟨A', c', rs', rfl, hl', hx', hC2, hb2⟩
    have CK := Lib.hid (keepX_any (node := a) (d := d) (c := c') w2 hl' H200 hC2 hx')
    rw [ea1, ea2] at CK
    have HB2 := Lib.hid (HB1.out.trans (hb2.mono HB1.out.size))
    clear hl' hx' hC2 hb2
    go_wp2_with fail
    refine CK.out.mono ?_
    rintro e w3 ⟨rfl, hb3⟩
    have HB3 := Lib.hid (HB2.out.trans (hb3.mono HB2.out.size))
    have CL2 := Lib.hid (lend_any (c := c) w3 HN.out H200 H64.out ((HC.out.below HB3.out).more HB3.out.size))
    clear hb3 CK
    go_wp2_with fail
    refine CL2.out.mono ?_
    rintro e w4 ⟨A', c', rs', rfl, hl', hx', hC2, hb2⟩
    have CK := Lib.hid (keepX_any (node := b) (d := d) (c := c') w4 hl' H200 hC2 hx')
    rw [eb1, eb2] at CK
    have HB4 := Lib.hid (HB3.out.trans (hb2.mono HB3.out.size))
    clear hl' hx' hC2 hb2 CL2
    go_wp2_with fail
    refine CK.out.mono ?_
    rintro e w5 ⟨rfl, hb5⟩
    have HB5 := Lib.hid (HB4.out.trans (hb5.mono HB4.out.size))
    have CW := Lib.hid (waitX_any l d w5)
    rw [ew1, ew2] at CW
    clear hb5 CK
    clear ea1 ea2 eb1 eb2 ew1 ew2 hbad ha
    go_wp2_with (go_at_call 10; refine CW.out.mono ?_; rintro e w' ⟨rfl, rfl⟩)
    go_ret
    exact ⟨rfl, HB5.out⟩
end
end Go.Proofs.Ytconfkjchjcjgaa
