/- Several texts, each a section: SCrash. -/
import Derived.Test.YtbobakfcmkaijaaGreatDoorM24
section
/- The stage's theorem: behind a crash at any step a snapshot and the records behind it tell all that was synced, each once, in order. -/
namespace Go.Proofs.YtbobakfcmkaijaaGreatDoor
open Go.RowKit
set_option linter.unusedVariables false

set_option maxHeartbeats 128000000 in
set_option maxRecDepth 10000 in
theorem scrash_walk (Al As Av Ak : Option Addr) (ys : List RcM) (bs vs : List Bool) (ks : List Int) (n cl ns cs nv cv nk ck : Nat) (fu : Int) (w : World) (hp : Pow w) (hm : MaxL w) (hn : ys.length = n) (hnl : n ≤ 9223372036854775807) (hncl : n ≤ cl) (hbyt : ∀ y ∈ ys, Byt y.r) (hlens : ∀ y ∈ ys, y.r.length ≤ 9223372036854775807) (hrl : Rds w w.heap.size Al (cR ys)) (hbd : ∀ y ∈ ys, Rds w w.heap.size y.A (c8 y.r))
    (hns : bs.length = ns) (hrs : Rds w w.heap.size As (cO bs)) (hnv : vs.length = nv) (hrv : Rds w w.heap.size Av (cO vs)) (hnk : ks.length = nk) (hnkl : nk ≤ 9223372036854775807) (hk64 : ∀ z ∈ ks, z ≤ 9223372036854775807) (hrk : Rds w w.heap.size Ak (cN ks)) (hfu : -9223372036854775808 ≤ fu ∧ fu ≤ 9223372036854775807) :
    Calls Tryz.prog 5 #[.slice Al n cl, .slice As ns cs, .slice Av nv cv, .int .i64 fu, .slice Ak nk ck] w fun e w' => e = .returned (.bool true) ∧ Below w.heap.size w w' := by
  have hlv := lives6_any w hp hm
  go_enter Tryz.func5, Tryz.ntmps5
  go_wp2_with fail
  refine hlv.mono ?_
  rintro e w1 ⟨rfl, hb1⟩
  clear hlv
  go_wp2_with fail
  refine (new_any 1048576 (by decide) w1).mono ?_
  rintro e w2 ⟨S2, d, rfl, hk2, hb2, hS2⟩
  have hb2' := hb1.trans (hb2.mono hb1.size)
  have hS2' : ∀ k, S2 k → w.heap.size ≤ k := fun k hk => Nat.le_trans hb1.size (hS2 k hk)
  clear hb1 hb2 hS2
  by_cases hbig : n ≤ 100
  · have hnb : ¬ (100 : Int) < (n : Int) := by omega
    have hop := at6_open (xs := []) w2 hb2' hk2 hS2' hp hm (good6_new 1048576 (by decide))
    rw [sDisk_new, sOpened_new] at hop
    clear hk2 hb2' hS2'
    go_wp2_with fail
    refine hop.mono ?_
    rintro e w3 ⟨st, j, S3, T3, U3, rfl, h3⟩
    clear hop
    have hpk := pick_any fu 500 w3 (by decide) (by decide) hfu
    go_wp2_with fail
    refine hpk.mono ?_
    rintro e w4 ⟨⟨r, rfl, hr⟩, hw4⟩
    rw [hw4]
    clear hw4 w4 hpk
    have hr4 : r < 500 := by omega
    have hfz := at6_fuse h3 (r : Int)
    rw [dBigF_ok] at hfz
    clear h3
    go_wp2_with fail
    refine hfz.mono ?_
    rintro e w4 ⟨rfl, h4⟩
    clear hfz
    have hlp0 : Lp6 (dBigF r) Y0 (ys.map RcM.r) 0 0 (0 * 2060) (0 * 2200) := ⟨dBigF_st r hr4, Nat.le_refl _, by rw [dBigF_eq]; exact Nat.le_refl _, by rw [dBigF_eq]; rfl, by rw [dBigF_eq]; exact Nat.le_refl _⟩
    generalize dBigF r = D0' at *
    generalize Y0 = X0' at *
    go_wp2_with fail
    go_loopw [14, 15, 16] (fun s a i wr => ∃ (k m : Nat) (S T U : Nat → Prop) (D : Dsk) (X : Ck), k ≤ n ∧ i = .int .i64 k ∧ s = .int .i64 m ∧ a = .int .i64 k ∧ At6 w wr S T U st j d D X ∧ Lp6 D X (ys.map RcM.r) k m (k * 2060) (k * 2200)) (fun s a i _ => n - (intOf i).toNat)
    case atStart => exact ⟨0, 0, _, _, _, _, _, Nat.zero_le _, rfl, rfl, rfl, h4, hlp0⟩
    case round =>
      obtain ⟨k, m, S, T, U, D, X, hk, rfl, rfl, rfl, hA0, hlp⟩ := hrel
      clear h4 hlp0
      by_cases hlt : k < n
      · skip
        have hky : k < ys.length := by omega
        obtain ⟨ad, rfl, _, hc0⟩ := ((hrl.below hA0.below).more hA0.below.size).at_ (cR_get hky)
        obtain ⟨hrg, hout⟩ := hA0.arg (hbd _ (List.getElem_mem hky))
        have hbg := hbyt _ (List.getElem_mem hky)
        have hMk : (ys.map RcM.r)[k]? = some ys[k].r := by simp [hky]
        unfold RcM.v at hc0
        generalize hyr : ys[k].r = b at *
        generalize ys[k].A = Ab at *
        generalize ys[k].c = cb at *
        by_cases hsm : b.length ≤ 2000
        · have hsmn : ¬ (2000 : Int) < (b.length : Int) := by omega
          have hgood : Goodr b := ⟨hbg, by omega⟩
          have hst := hlp.st
          have hLn : ((ys.map RcM.r).take k).length = k := by rw [List.length_take, List.length_map]; omega
          have hfit := hst.fits (by omega)
          have hu := hlp.used
          have hroom := hlp.room
          have hsteps := hlp.steps
          have hbR : used D.files + (b.length + 12) ≤ D.room := by omega
          obtain ⟨hro, hus, hin, htwo⟩ := hst.log hgood hbR (by rw [hLn]; unfold maxNo; omega)
          have hap := at6_log Ab b b.length cb hA0 hst.xon hst.inv.ok (by omega) hfit.1 (by omega) rfl hbg (by omega) hrg hout
          have hsp : (sLog D X b).2.2.1.steps ≤ D.steps + 3 + (b.length + 12) := jAppend_steps (l := lM) hst.inv.ok X.J b
          have hup : (sLog D X b).2.2.2.sn.upto ≤ k + 1 := by
            rw [slog_sn]
            have := hst.upto.2
            omega
          go_wp2_with fail
          rcases htwo with ⟨g1, g2, st1⟩ | ⟨g1, hlo⟩
          · have htk : (ys.map RcM.r).take k ++ [b] = (ys.map RcM.r).take (k + 1) := by rw [List.take_add_one, hMk]; rfl
            rw [htk] at st1
            have hlp1 : Lp6 (sLog D X b).2.2.1 (sLog D X b).2.2.2 (ys.map RcM.r) (k + 1) m (k * 2060 + 2012) (k * 2200 + 2016) := ⟨st1, by have := hlp.le; omega, by omega, by omega, by omega⟩
            rw [g1] at hap
            refine hap.mono ?_
            rintro e wx ⟨rfl, Sx, Tx, hA1⟩
            have hup1 := hup
            generalize (sLog D X b).2.2.1 = D1 at *
            generalize (sLog D X b).2.2.2 = X1 at *
            generalize (sLog D X b).1 = nu at *
            clear hap hsp g1 g2 hst hfit hu hroom hsteps hbR hLn hlp hA0 hgood hrg hout hbg hMk hyr htk st1 hro hus hin hup hc0 hsmn hsm
            by_cases hkb : k < ns
            · have hkbi : (k : Int) < (ns : Int) := by omega
              have hkb2 : k < bs.length := by omega
              obtain ⟨ad2, rfl, _, hc2⟩ := ((hrs.below hA1.below).more hA1.below.size).at_ (cO_get hkb2)
              cases hbk : bs[k]
              · rw [hbk] at hc2
                have hLn : ((ys.map RcM.r).take (k + 1)).length = k + 1 := by rw [List.length_take, List.length_map]; omega
                by_cases hkv : k < nv
                · have hkvi : (k : Int) < (nv : Int) := by omega
                  have hkv2 : k < vs.length := by omega
                  obtain ⟨ad3, rfl, _, hc3⟩ := ((hrv.below hA1.below).more hA1.below.size).at_ (cO_get hkv2)
                  cases hvk : vs[k]
                  · rw [hvk] at hc3
                    go_wp2
                    go_roundw
                    case rel => exact ⟨k + 1, m, _, _, _, _, _, by omega, by go_num, (by first | rfl | go_num), by go_num, hA1, ⟨hlp1.st, hlp1.le, by have := hlp1.used; omega, hlp1.room, by have := hlp1.steps; omega⟩⟩
                    case measure => simp [intOf]; omega
                  · rw [hvk] at hc3
                    have hst1 := hlp1.st
                    have hfit := hst1.fits (by omega)
                    have hu := hlp1.used
                    have hroom := hlp1.room
                    have hsteps := hlp1.steps
                    have hsok := hst1.sok (b := [(((ys.map RcM.r).take (k + 1)).length : Int)]) rfl (by omega)
                    have hsv := at6_save hA1 hst1 (by omega) (by omega) (by omega) (by omega) (by omega)
                    have hs6 := hst1.save (b := [(((ys.map RcM.r).take (k + 1)).length : Int)]) (by omega) (by omega) rfl (by omega) (by omega)
                    have hsp := save_steps (X := X1) hst1.inv.ok hsok.2
                    have hin2 := hs6.inv
                    have hro2 := hs6.room
                    have hus2 := hs6.used
                    have htwo := hs6.two
                    rw [hLn] at hsv hs6 hsok hsp hin2 hro2 hus2 htwo
                    rw [show ((k + 1 : Nat) : Int) = (k : Int) + 1 by omega] at hsv hs6 hsok hsp hin2 hro2 hus2 htwo
                    have hw8 : IntKind.u8.wrap ((k : Int) + 1) = (k : Int) + 1 := IntWalk.u8_in _ (by omega)
                    clear hs6 hsok
                    rcases htwo with ⟨g1, st2⟩ | ⟨g1, hlo⟩
                    · rw [g1] at hsv
                      go_wp2_with fail
                      refine hsv.mono ?_
                      rintro e wy ⟨rfl, Sy, Uy, hA2⟩
                      have hlp2 : Lp6 (sSave D1 X1 [(k : Int) + 1]).2.1 (sSave D1 X1 [(k : Int) + 1]).2.2 (ys.map RcM.r) (k + 1) (k + 1) ((k + 1) * 2060) ((k + 1) * 2200) := ⟨st2, Nat.le_refl _, by omega, by omega, by omega⟩
                      generalize (sSave D1 X1 [(k : Int) + 1]).2.1 = D2 at *
                      generalize (sSave D1 X1 [(k : Int) + 1]).2.2 = X2 at *
                      clear hsv g1 st2 hin2 hro2 hus2 hsp hst1 hfit hu hroom hsteps hw8 hlp1 hA1 hLn
                      go_wp2
                      go_roundw
                      case rel => exact ⟨k + 1, k + 1, _, _, _, _, _, by omega, by go_num, by go_num, by go_num, hA2, hlp2⟩
                      case measure => simp [intOf]; omega
                    · rw [g1] at hsv
                      have hO : Out6 (sSave D1 X1 [(k : Int) + 1]).2.1 (ys.map RcM.r) m (k + 1) := ⟨hlo _ _ rfl rfl, hin2, by omega, by omega, by omega⟩
                      go_wp2_with fail
                      refine hsv.mono ?_
                      rintro e wy ⟨rfl, Sy, Uy, hA⟩
                      generalize (sSave D1 X1 [(k : Int) + 1]).2.1 = D' at *
                      generalize (sSave D1 X1 [(k : Int) + 1]).2.2 = X' at *
                      clear hsv g1 hlo hin2 hro2 hus2 hsp hst1 hfit hu hroom hsteps hw8 hlp1 hA1 hLn hup1
                      obtain ⟨a', ha'⟩ : ∃ x, x = k + 1 := ⟨_, rfl⟩
                      have hka : (k : Int) + 1 = (a' : Nat) := by omega
                      rw [← ha'] at hO
                      have hak : a' ≤ n := by omega
                      obtain ⟨m', rfl⟩ : ∃ x, x = m := ⟨_, rfl⟩
                      clear ha'
                      have hcr := at6_crash hA Ak ks nk ck (okd_room hO.inv.ok (by have := hO.steps; omega)) hO.inv.ok hnk hnkl hk64 hrk
                      go_wp2_with fail
                      cases hneg : ks.any (fun k => decide (k < 0))
                      · rw [dCrash_ok hneg] at hcr
                        have hle := hO.le
                        obtain ⟨xs, hgood, hF⟩ := hO.lost.found hO.inv hneg hO.room hO.steps
                        refine hcr.mono ?_
                        rintro e wc ⟨rfl, Sc, hkc, hbc, hSc⟩
                        clear hcr
                        have hop := at6_open (xs := xs) wc hbc hkc hSc hp hm hgood
                        clear hgood hkc hbc hSc hneg hO hA
                        generalize sDisk xs (fallen D' ks) = Df at *
                        generalize sOpened xs (fallen D' ks) = Xf at *
                        go_wp2_with fail
                        refine hop.mono ?_
                        rintro e wo ⟨sto, jo, So, To, Uo, rfl, ho⟩
                        clear hop
                        obtain ⟨f1, f2, f3, f4, f5, f6, f7, f8, f9⟩ := hF
                        have hjl : (jAll Xf.J).length ≤ 1099511627776 := by
                          have h1 : (sSince Xf).length = (jAll Xf.J).length - (Xf.sn.upto - jFirst Xf.J) := by unfold sSince; rw [List.length_drop]
                          have h2 : Xf.sn.upto ≤ 1000 := by rcases f1 with e | ⟨_, _, _, _⟩ <;> omega
                          omega
                        have hsm : Xf.sn.upto ≤ maxNo := by
                          rcases f1 with e | ⟨_, _, _, e⟩
                          · rw [e]; decide
                          · exact e
                        have hsc := fun W (h : SD W So To Uo sto jo d Df Xf) => ssince_any W h f8 hjl (fun x hx r hr => Nat.le_trans (f9 x hx r hr) (by decide)) f2 f3 hsm
                        have hnx := fun W (h : SD W So To Uo sto jo d Df Xf) => snext_any W h
                        obtain ⟨ln, hln⟩ : ∃ ln, (sSince Xf).length = ln := ⟨_, rfl⟩
                        rw [hln] at f4 f5 f6 f7
                        have HLN := Lib.hid hln
                        clear hln f2 f3 f8 f9 hjl hsm
                        rcases f1 with e1 | ⟨e1, e2, e3, _⟩
                        · skip
                          have hsn : Calls Tryz.prog 9 #[.pointer (some ⟨sto, 0, none⟩)] wo fun e w' => ∃ v, e = .returned (.tuple #[v, .int .u64 1, .bool false]) ∧ w'.ownsRow wo.heap.size 5 1 v 0 [] ∧ Below wo.heap.size wo w' := by
                            have := ssnap_any wo ho.sd (by rw [e1]; decide)
                            rw [e1] at this
                            exact this
                          rw [e1] at f4 f5 f6 f7
                          have g4 : sSince Xf = ((ys.map RcM.r).drop 0).take ln := f4
                          have g5 : m' ≤ 0 + ln := f5
                          have g6 : 0 + ln ≤ a' := f6
                          have g7 : Xf.J.next = 0 + 1 + ln := by rw [f7]; rfl
                          clear f4 f5 f6 f7 e1
                          go_wp2_with fail
                          refine hsn.mono ?_
                          rintro e wo2 ⟨v, rfl, hown, hbn⟩
                          obtain ⟨A0, c0, rfl⟩ := row_any hown
                          have ho := ho.go hbn
                          have hsc := hsc wo2 ho.sd
                          clear hsn hown hbn
                          go_wp2_with fail
                          refine hsc.mono ?_
                          rintro e wa ⟨Aa, ca, zs, rfl, hzs, hAt⟩
                          have hoa := ho.go hAt.below
                          have HG7 := Lib.hid g7
                          clear hsc hnx
                          have hzl : zs.length = ln := by
                            have := congrArg List.length hzs
                            rw [List.length_map, HLN.out] at this
                            exact this
                          have hzn : ln ≤ n := by
                            have := congrArg List.length g4
                            rw [HLN.out, List.length_take, List.drop_zero, List.length_map] at this
                            omega
                          rw [hzl]
                          have hzc : (ln : Int) ≤ cl := by omega
                          have hmz : (m' : Int) ≤ ln := by omega
                          have hza : (ln : Int) ≤ a' := by omega
                          have hsl := sameLists_yes Aa _ zs (ys.take ln) ln ln ca cl wa.heap.size wa hzl (by rw [List.length_take]; omega) (by omega)
                            (by rw [hzs, g4, List.drop_zero, List.map_take])
                            (fun x hx => by
                              have h2 : x.r ∈ sSince Xf := by rw [← hzs]; exact List.mem_map_of_mem hx
                              rw [g4] at h2
                              obtain ⟨y, hy, e⟩ := List.mem_map.1 (List.mem_of_mem_drop (List.mem_of_mem_take h2))
                              rw [← e]
                              exact hlens y hy)
                            hAt.row
                            (by
                              have := (hrl.below hoa.below).more hoa.below.size
                              rw [show cR (ys.take ln) = (cR ys).take ln by simp [cR, List.map_take]]
                              exact this.take _)
                            hAt.bods
                            (fun y hy => ((hbd y (List.mem_of_mem_take hy)).below hoa.below).more hoa.below.size)
                          have HB := Lib.hid hoa.below
                          have HSD := Lib.hid hoa.sd
                          clear g4 g7 g5 g6 hAt hzs hoa ho hzl hzn
                          go_wp2_with fail
                          refine hsl.mono ?_
                          rintro e ws ⟨rfl, q, rfl⟩
                          have hnx := snext_any _ (HSD.out.go (bDrewN (Below.refl _ _) q))
                          rw [HG7.out, show ((0 + 1 + ln : Nat) : Int) = (ln : Int) + 1 by omega] at hnx
                          have HB2 := Lib.hid (bDrewN HB.out q)
                          clear hsl
                          generalize wa.drewN q = wz at *
                          go_wp2_with fail
                          refine hnx.mono ?_
                          rintro e w7 ⟨rfl, hw⟩
                          rw [hw]
                          clear hw w7 hnx
                          go_wp2
                          go_returns
                          exact ⟨by simp, HB2.out⟩
                        · skip
                          obtain ⟨q0, hq0, hq1⟩ : ∃ q0, Xf.sn.upto = q0 + 1 ∧ 1 ≤ q0 := ⟨Xf.sn.upto - 1, by omega, by omega⟩
                          have hsn : Calls Tryz.prog 9 #[.pointer (some ⟨sto, 0, none⟩)] wo fun e w' => ∃ v, e = .returned (.tuple #[v, .int .u64 ((q0 : Int) + 1), .bool true]) ∧ w'.ownsRow wo.heap.size 5 1 v 1 (c8 [(q0 : Int)]) ∧ Below wo.heap.size wo w' := by
                            have := ssnap_any wo ho.sd (by rw [e3]; simp)
                            rw [e3, e1, hq0] at this
                            exact this
                          rw [hq0] at f4 f5 f6 f7
                          have g4 : sSince Xf = ((ys.map RcM.r).drop q0).take ln := f4
                          have g5 : m' ≤ q0 + ln := f5
                          have g6 : q0 + ln ≤ a' := f6
                          have g7 : Xf.J.next = q0 + 1 + ln := f7
                          clear f4 f5 f6 f7 e1 e2 e3 hq0
                          have hq3 : (0 : Int) < (q0 : Int) := by omega
                          have hq4 : (q0 : Int) ≤ 100 := by omega
                          go_wp2_with fail
                          refine hsn.mono ?_
                          rintro e wo2 ⟨v, rfl, hown, hbn⟩
                          obtain ⟨gb, cb, rfl, hgb, hcb1, _⟩ := row_block hown (by omega)
                          have hcb := (row_cell (i := 0) hown hgb (show (c8 [(q0 : Int)])[0]? = some (.int .u8 q0) from rfl)).1
                          have hgl := (ownRow_block hown hgb).2.1
                          have ho := ho.go hbn
                          have hsc := hsc wo2 ho.sd
                          clear hsn hown hbn hgb
                          go_wp2_with fail
                          refine hsc.mono ?_
                          rintro e wa ⟨Aa, ca, zs, rfl, hzs, hAt⟩
                          have hoa := ho.go hAt.below
                          have hcb : wa.cell? ⟨gb, 0, none⟩ = some (.int .u8 q0) := by rw [hAt.below.cell (p := ⟨gb, 0, none⟩) hgl]; exact hcb
                          have HG7 := Lib.hid g7
                          clear hsc hnx
                          have hzl : zs.length = ln := by
                            have := congrArg List.length hzs
                            rw [List.length_map, HLN.out] at this
                            exact this
                          have hzn : q0 + ln ≤ n := by omega
                          rw [hzl]
                          first
                            | (obtain ⟨ad, rfl⟩ : ∃ ad, Al = some ad := by
                                obtain ⟨ad, e, _⟩ := hrl (by
                                  intro e
                                  have := congrArg List.length e
                                  simp [cR] at this
                                  rw [this] at hn
                                  simp at hn
                                  omega)
                                exact ⟨ad, e⟩)
                            | skip
                          have hzc : (q0 : Int) + (ln : Int) ≤ cl := by omega
                          have hmz : (m' : Int) ≤ (q0 : Int) + ln := by omega
                          have hza : (q0 : Int) + (ln : Int) ≤ a' := by omega
                          have hq5 : (q0 : Int) ≤ (q0 : Int) + ln := by omega
                          have hq6 : (0 : Int) ≤ (q0 : Int) + ln := by omega
                          have hln2 : (ln : Int) ≤ 100 := by omega
                          have HB := Lib.hid hoa.below
                          have HSD := Lib.hid hoa.sd
                          have HG4 := Lib.hid g4
                          have HGG := Lib.hid (And.intro hAt hzs)
                          have HZL := Lib.hid hzl
                          clear g4 g7 g5 g6 hAt hzs hoa ho hzl hgl
                          have hsl := fun (A' : Option Addr) (c' : Nat) (hr' : Rds wa wa.heap.size A' (cR ((ys.drop q0).take ln))) => sameLists_yes Aa A' zs ((ys.drop q0).take ln) ln ln ca c' wa.heap.size wa HZL.out (by rw [List.length_take, List.length_drop]; omega) (by omega)
                            (by rw [HGG.out.2, HG4.out, List.map_take, List.map_drop])
                            (fun x hx => by
                              have h2 : x.r ∈ sSince Xf := by rw [← HGG.out.2]; exact List.mem_map_of_mem hx
                              rw [HG4.out] at h2
                              obtain ⟨y, hy, e⟩ := List.mem_map.1 (List.mem_of_mem_drop (List.mem_of_mem_take h2))
                              rw [← e]
                              exact hlens y hy)
                            HGG.out.1.row hr' HGG.out.1.bods
                            (fun y hy => ((hbd y (List.mem_of_mem_drop (List.mem_of_mem_take hy))).below HB.out).more HB.out.size)
                          have hcR : cR ((ys.drop q0).take ln) = ((cR ys).drop q0).take ln := by simp [cR, List.map_take, List.map_drop]
                          by_cases hcq : cl = q0
                          · have hsl := hsl (some ad) 0 (fun hne => by
                              exfalso
                              apply hne
                              have : ln = 0 := by omega
                              rw [this]
                              rfl)
                            clear hcR
                            go_wp2_with fail
                            refine hsl.mono ?_
                            rintro e ws ⟨rfl, q, rfl⟩
                            have hnx := snext_any _ (HSD.out.go (bDrewN (Below.refl _ _) q))
                            rw [HG7.out, show ((q0 + 1 + ln : Nat) : Int) = (q0 : Int) + (ln : Int) + 1 by omega] at hnx
                            have HB2 := Lib.hid (bDrewN HB.out q)
                            clear hsl
                            generalize wa.drewN q = wz at *
                            go_wp2_with fail
                            refine hnx.mono ?_
                            rintro e w7 ⟨rfl, hw⟩
                            rw [hw]
                            clear hw w7 hnx
                            go_wp2
                            go_returns
                            exact ⟨by simp, HB2.out⟩
                          · have hsl := hsl (some (ad.add q0)) (cl - q0) (by
                              rw [hcR]
                              exact ((hrl.below HB.out).more HB.out.size).part q0 ln)
                            clear hcR
                            go_wp2_with fail
                            refine hsl.mono ?_
                            rintro e ws ⟨rfl, q, rfl⟩
                            have hnx := snext_any _ (HSD.out.go (bDrewN (Below.refl _ _) q))
                            rw [HG7.out, show ((q0 + 1 + ln : Nat) : Int) = (q0 : Int) + (ln : Int) + 1 by omega] at hnx
                            have HB2 := Lib.hid (bDrewN HB.out q)
                            clear hsl
                            generalize wa.drewN q = wz at *
                            go_wp2_with fail
                            refine hnx.mono ?_
                            rintro e w7 ⟨rfl, hw⟩
                            rw [hw]
                            clear hw w7 hnx
                            go_wp2
                            go_returns
                            exact ⟨by simp, HB2.out⟩
                      · rw [show dCrash D' ks = (2, D') by unfold dCrash; rw [if_pos hneg]] at hcr
                        refine hcr.mono ?_
                        rintro e wc ⟨rfl, Sc, hkc, hbc, hSc⟩
                        clear hcr
                        have hfn := fine_no Ak ks nk ck w.heap.size wc hnk hnkl (hrk.below hbc) hneg
                        have HB := Lib.hid hbc
                        clear hkc hSc hbc hneg hO hA
                        go_wp2_with fail
                        refine hfn.mono ?_
                        rintro e wd ⟨rfl, q, rfl⟩
                        clear hfn
                        go_wp2
                        go_returns
                        exact ⟨by simp, bDrewN HB.out q⟩
                · have hkvi : ¬ (k : Int) < (nv : Int) := by omega
                  go_wp2
                  go_roundw
                  case rel => exact ⟨k + 1, m, _, _, _, _, _, by omega, by go_num, (by first | rfl | go_num), by go_num, hA1, ⟨hlp1.st, hlp1.le, by have := hlp1.used; omega, hlp1.room, by have := hlp1.steps; omega⟩⟩
                  case measure => simp [intOf]; omega
              · rw [hbk] at hc2
                have hst1 := hlp1.st
                have hLn0 : ((ys.map RcM.r).take (k + 1)).length = k + 1 := by rw [List.length_take, List.length_map]; omega
                have hfit := hst1.fits (by omega)
                have hu := hlp1.used
                have hroom := hlp1.room
                have hsteps := hlp1.steps
                have hsy := at6_sync hA1 hst1.xon (okd_room hst1.inv.ok (by omega)) hfit.1
                obtain ⟨hro, hus, hin, htwo⟩ := hst1.sync
                have hsp : (sSync D1 X1).2.1.steps ≤ D1.steps + 1 := jSync_steps (l := lM) hst1.inv.ok X1.J
                have hup2 : (sSync D1 X1).2.2.sn.upto ≤ k + 1 := by rw [ssync_sn]; exact hup1
                rw [hLn0] at htwo
                go_wp2_with fail
                rcases htwo with ⟨g1, st2⟩ | ⟨g1, hlo⟩
                · rw [g1] at hsy
                  have hlp2 : Lp6 (sSync D1 X1).2.1 (sSync D1 X1).2.2 (ys.map RcM.r) (k + 1) (k + 1) (k * 2060 + 2012) (k * 2200 + 2017) := ⟨st2, Nat.le_refl _, by omega, by omega, by omega⟩
                  refine hsy.mono ?_
                  rintro e wz ⟨rfl, Sz, Tz, hA2⟩
                  generalize (sSync D1 X1).2.1 = D2 at *
                  generalize (sSync D1 X1).2.2 = X2 at *
                  clear hsy g1 st2 hsp hro hus hin hst1 hLn0 hfit hu hroom hsteps hlp1 hA1 hup1
                  obtain ⟨D1, rfl⟩ : ∃ x, x = D2 := ⟨_, rfl⟩
                  obtain ⟨X1, rfl⟩ : ∃ x, x = X2 := ⟨_, rfl⟩
                  have hlp1 := hlp2
                  have hA1 := hA2
                  have hup1 := hup2
                  clear hlp2 hA2 hup2
                  have hLn : ((ys.map RcM.r).take (k + 1)).length = k + 1 := by rw [List.length_take, List.length_map]; omega
                  by_cases hkv : k < nv
                  · have hkvi : (k : Int) < (nv : Int) := by omega
                    have hkv2 : k < vs.length := by omega
                    obtain ⟨ad3, rfl, _, hc3⟩ := ((hrv.below hA1.below).more hA1.below.size).at_ (cO_get hkv2)
                    cases hvk : vs[k]
                    · rw [hvk] at hc3
                      go_wp2
                      go_roundw
                      case rel => exact ⟨k + 1, (k + 1), _, _, _, _, _, by omega, by go_num, (by first | rfl | go_num), by go_num, hA1, ⟨hlp1.st, hlp1.le, by have := hlp1.used; omega, hlp1.room, by have := hlp1.steps; omega⟩⟩
                      case measure => simp [intOf]; omega
                    · rw [hvk] at hc3
                      have hst1 := hlp1.st
                      have hfit := hst1.fits (by omega)
                      have hu := hlp1.used
                      have hroom := hlp1.room
                      have hsteps := hlp1.steps
                      have hsok := hst1.sok (b := [(((ys.map RcM.r).take (k + 1)).length : Int)]) rfl (by omega)
                      have hsv := at6_save hA1 hst1 (by omega) (by omega) (by omega) (by omega) (by omega)
                      have hs6 := hst1.save (b := [(((ys.map RcM.r).take (k + 1)).length : Int)]) (by omega) (by omega) rfl (by omega) (by omega)
                      have hsp := save_steps (X := X1) hst1.inv.ok hsok.2
                      have hin2 := hs6.inv
                      have hro2 := hs6.room
                      have hus2 := hs6.used
                      have htwo := hs6.two
                      rw [hLn] at hsv hs6 hsok hsp hin2 hro2 hus2 htwo
                      rw [show ((k + 1 : Nat) : Int) = (k : Int) + 1 by omega] at hsv hs6 hsok hsp hin2 hro2 hus2 htwo
                      have hw8 : IntKind.u8.wrap ((k : Int) + 1) = (k : Int) + 1 := IntWalk.u8_in _ (by omega)
                      clear hs6 hsok
                      rcases htwo with ⟨g1, st2⟩ | ⟨g1, hlo⟩
                      · rw [g1] at hsv
                        go_wp2_with fail
                        refine hsv.mono ?_
                        rintro e wy ⟨rfl, Sy, Uy, hA2⟩
                        have hlp2 : Lp6 (sSave D1 X1 [(k : Int) + 1]).2.1 (sSave D1 X1 [(k : Int) + 1]).2.2 (ys.map RcM.r) (k + 1) (k + 1) ((k + 1) * 2060) ((k + 1) * 2200) := ⟨st2, Nat.le_refl _, by omega, by omega, by omega⟩
                        generalize (sSave D1 X1 [(k : Int) + 1]).2.1 = D2 at *
                        generalize (sSave D1 X1 [(k : Int) + 1]).2.2 = X2 at *
                        clear hsv g1 st2 hin2 hro2 hus2 hsp hst1 hfit hu hroom hsteps hw8 hlp1 hA1 hLn
                        go_wp2
                        go_roundw
                        case rel => exact ⟨k + 1, k + 1, _, _, _, _, _, by omega, by go_num, by go_num, by go_num, hA2, hlp2⟩
                        case measure => simp [intOf]; omega
                      · rw [g1] at hsv
                        have hO : Out6 (sSave D1 X1 [(k : Int) + 1]).2.1 (ys.map RcM.r) (k + 1) (k + 1) := ⟨hlo _ _ rfl rfl, hin2, by omega, by omega, by omega⟩
                        go_wp2_with fail
                        refine hsv.mono ?_
                        rintro e wy ⟨rfl, Sy, Uy, hA⟩
                        generalize (sSave D1 X1 [(k : Int) + 1]).2.1 = D' at *
                        generalize (sSave D1 X1 [(k : Int) + 1]).2.2 = X' at *
                        clear hsv g1 hlo hin2 hro2 hus2 hsp hst1 hfit hu hroom hsteps hw8 hlp1 hA1 hLn hup1
                        obtain ⟨a', ha'⟩ : ∃ x, x = k + 1 := ⟨_, rfl⟩
                        have hka : (k : Int) + 1 = (a' : Nat) := by omega
                        rw [← ha'] at hO
                        have hak : a' ≤ n := by omega
                        clear ha'
                        have hcr := at6_crash hA Ak ks nk ck (okd_room hO.inv.ok (by have := hO.steps; omega)) hO.inv.ok hnk hnkl hk64 hrk
                        go_wp2_with fail
                        cases hneg : ks.any (fun k => decide (k < 0))
                        · rw [dCrash_ok hneg] at hcr
                          have hle := hO.le
                          obtain ⟨xs, hgood, hF⟩ := hO.lost.found hO.inv hneg hO.room hO.steps
                          refine hcr.mono ?_
                          rintro e wc ⟨rfl, Sc, hkc, hbc, hSc⟩
                          clear hcr
                          have hop := at6_open (xs := xs) wc hbc hkc hSc hp hm hgood
                          clear hgood hkc hbc hSc hneg hO hA
                          generalize sDisk xs (fallen D' ks) = Df at *
                          generalize sOpened xs (fallen D' ks) = Xf at *
                          go_wp2_with fail
                          refine hop.mono ?_
                          rintro e wo ⟨sto, jo, So, To, Uo, rfl, ho⟩
                          clear hop
                          obtain ⟨f1, f2, f3, f4, f5, f6, f7, f8, f9⟩ := hF
                          have hjl : (jAll Xf.J).length ≤ 1099511627776 := by
                            have h1 : (sSince Xf).length = (jAll Xf.J).length - (Xf.sn.upto - jFirst Xf.J) := by unfold sSince; rw [List.length_drop]
                            have h2 : Xf.sn.upto ≤ 1000 := by rcases f1 with e | ⟨_, _, _, _⟩ <;> omega
                            omega
                          have hsm : Xf.sn.upto ≤ maxNo := by
                            rcases f1 with e | ⟨_, _, _, e⟩
                            · rw [e]; decide
                            · exact e
                          have hsc := fun W (h : SD W So To Uo sto jo d Df Xf) => ssince_any W h f8 hjl (fun x hx r hr => Nat.le_trans (f9 x hx r hr) (by decide)) f2 f3 hsm
                          have hnx := fun W (h : SD W So To Uo sto jo d Df Xf) => snext_any W h
                          obtain ⟨ln, hln⟩ : ∃ ln, (sSince Xf).length = ln := ⟨_, rfl⟩
                          rw [hln] at f4 f5 f6 f7
                          have HLN := Lib.hid hln
                          clear hln f2 f3 f8 f9 hjl hsm
                          rcases f1 with e1 | ⟨e1, e2, e3, _⟩
                          · skip
                            have hsn : Calls Tryz.prog 9 #[.pointer (some ⟨sto, 0, none⟩)] wo fun e w' => ∃ v, e = .returned (.tuple #[v, .int .u64 1, .bool false]) ∧ w'.ownsRow wo.heap.size 5 1 v 0 [] ∧ Below wo.heap.size wo w' := by
                              have := ssnap_any wo ho.sd (by rw [e1]; decide)
                              rw [e1] at this
                              exact this
                            rw [e1] at f4 f5 f6 f7
                            have g4 : sSince Xf = ((ys.map RcM.r).drop 0).take ln := f4
                            have g5 : a' ≤ 0 + ln := f5
                            have g6 : 0 + ln ≤ a' := f6
                            have g7 : Xf.J.next = 0 + 1 + ln := by rw [f7]; rfl
                            clear f4 f5 f6 f7 e1
                            go_wp2_with fail
                            refine hsn.mono ?_
                            rintro e wo2 ⟨v, rfl, hown, hbn⟩
                            obtain ⟨A0, c0, rfl⟩ := row_any hown
                            have ho := ho.go hbn
                            have hsc := hsc wo2 ho.sd
                            clear hsn hown hbn
                            go_wp2_with fail
                            refine hsc.mono ?_
                            rintro e wa ⟨Aa, ca, zs, rfl, hzs, hAt⟩
                            have hoa := ho.go hAt.below
                            have HG7 := Lib.hid g7
                            clear hsc hnx
                            have hzl : zs.length = ln := by
                              have := congrArg List.length hzs
                              rw [List.length_map, HLN.out] at this
                              exact this
                            have hzn : ln ≤ n := by
                              have := congrArg List.length g4
                              rw [HLN.out, List.length_take, List.drop_zero, List.length_map] at this
                              omega
                            rw [hzl]
                            have hzc : (ln : Int) ≤ cl := by omega
                            have hmz : (a' : Int) ≤ ln := by omega
                            have hza : (ln : Int) ≤ a' := by omega
                            have hsl := sameLists_yes Aa _ zs (ys.take ln) ln ln ca cl wa.heap.size wa hzl (by rw [List.length_take]; omega) (by omega)
                              (by rw [hzs, g4, List.drop_zero, List.map_take])
                              (fun x hx => by
                                have h2 : x.r ∈ sSince Xf := by rw [← hzs]; exact List.mem_map_of_mem hx
                                rw [g4] at h2
                                obtain ⟨y, hy, e⟩ := List.mem_map.1 (List.mem_of_mem_drop (List.mem_of_mem_take h2))
                                rw [← e]
                                exact hlens y hy)
                              hAt.row
                              (by
                                have := (hrl.below hoa.below).more hoa.below.size
                                rw [show cR (ys.take ln) = (cR ys).take ln by simp [cR, List.map_take]]
                                exact this.take _)
                              hAt.bods
                              (fun y hy => ((hbd y (List.mem_of_mem_take hy)).below hoa.below).more hoa.below.size)
                            have HB := Lib.hid hoa.below
                            have HSD := Lib.hid hoa.sd
                            clear g4 g7 g5 g6 hAt hzs hoa ho hzl hzn
                            go_wp2_with fail
                            refine hsl.mono ?_
                            rintro e ws ⟨rfl, q, rfl⟩
                            have hnx := snext_any _ (HSD.out.go (bDrewN (Below.refl _ _) q))
                            rw [HG7.out, show ((0 + 1 + ln : Nat) : Int) = (ln : Int) + 1 by omega] at hnx
                            have HB2 := Lib.hid (bDrewN HB.out q)
                            clear hsl
                            generalize wa.drewN q = wz at *
                            go_wp2_with fail
                            refine hnx.mono ?_
                            rintro e w7 ⟨rfl, hw⟩
                            rw [hw]
                            clear hw w7 hnx
                            go_wp2
                            go_returns
                            exact ⟨by simp, HB2.out⟩
                          · skip
                            obtain ⟨q0, hq0, hq1⟩ : ∃ q0, Xf.sn.upto = q0 + 1 ∧ 1 ≤ q0 := ⟨Xf.sn.upto - 1, by omega, by omega⟩
                            have hsn : Calls Tryz.prog 9 #[.pointer (some ⟨sto, 0, none⟩)] wo fun e w' => ∃ v, e = .returned (.tuple #[v, .int .u64 ((q0 : Int) + 1), .bool true]) ∧ w'.ownsRow wo.heap.size 5 1 v 1 (c8 [(q0 : Int)]) ∧ Below wo.heap.size wo w' := by
                              have := ssnap_any wo ho.sd (by rw [e3]; simp)
                              rw [e3, e1, hq0] at this
                              exact this
                            rw [hq0] at f4 f5 f6 f7
                            have g4 : sSince Xf = ((ys.map RcM.r).drop q0).take ln := f4
                            have g5 : a' ≤ q0 + ln := f5
                            have g6 : q0 + ln ≤ a' := f6
                            have g7 : Xf.J.next = q0 + 1 + ln := f7
                            clear f4 f5 f6 f7 e1 e2 e3 hq0
                            have hq3 : (0 : Int) < (q0 : Int) := by omega
                            have hq4 : (q0 : Int) ≤ 100 := by omega
                            go_wp2_with fail
                            refine hsn.mono ?_
                            rintro e wo2 ⟨v, rfl, hown, hbn⟩
                            obtain ⟨gb, cb, rfl, hgb, hcb1, _⟩ := row_block hown (by omega)
                            have hcb := (row_cell (i := 0) hown hgb (show (c8 [(q0 : Int)])[0]? = some (.int .u8 q0) from rfl)).1
                            have hgl := (ownRow_block hown hgb).2.1
                            have ho := ho.go hbn
                            have hsc := hsc wo2 ho.sd
                            clear hsn hown hbn hgb
                            go_wp2_with fail
                            refine hsc.mono ?_
                            rintro e wa ⟨Aa, ca, zs, rfl, hzs, hAt⟩
                            have hoa := ho.go hAt.below
                            have hcb : wa.cell? ⟨gb, 0, none⟩ = some (.int .u8 q0) := by rw [hAt.below.cell (p := ⟨gb, 0, none⟩) hgl]; exact hcb
                            have HG7 := Lib.hid g7
                            clear hsc hnx
                            have hzl : zs.length = ln := by
                              have := congrArg List.length hzs
                              rw [List.length_map, HLN.out] at this
                              exact this
                            have hzn : q0 + ln ≤ n := by omega
                            rw [hzl]
                            first
                              | (obtain ⟨ad, rfl⟩ : ∃ ad, Al = some ad := by
                                  obtain ⟨ad, e, _⟩ := hrl (by
                                    intro e
                                    have := congrArg List.length e
                                    simp [cR] at this
                                    rw [this] at hn
                                    simp at hn
                                    omega)
                                  exact ⟨ad, e⟩)
                              | skip
                            have hzc : (q0 : Int) + (ln : Int) ≤ cl := by omega
                            have hmz : (a' : Int) ≤ (q0 : Int) + ln := by omega
                            have hza : (q0 : Int) + (ln : Int) ≤ a' := by omega
                            have hq5 : (q0 : Int) ≤ (q0 : Int) + ln := by omega
                            have hq6 : (0 : Int) ≤ (q0 : Int) + ln := by omega
                            have hln2 : (ln : Int) ≤ 100 := by omega
                            have HB := Lib.hid hoa.below
                            have HSD := Lib.hid hoa.sd
                            have HG4 := Lib.hid g4
                            have HGG := Lib.hid (And.intro hAt hzs)
                            have HZL := Lib.hid hzl
                            clear g4 g7 g5 g6 hAt hzs hoa ho hzl hgl
                            have hsl := fun (A' : Option Addr) (c' : Nat) (hr' : Rds wa wa.heap.size A' (cR ((ys.drop q0).take ln))) => sameLists_yes Aa A' zs ((ys.drop q0).take ln) ln ln ca c' wa.heap.size wa HZL.out (by rw [List.length_take, List.length_drop]; omega) (by omega)
                              (by rw [HGG.out.2, HG4.out, List.map_take, List.map_drop])
                              (fun x hx => by
                                have h2 : x.r ∈ sSince Xf := by rw [← HGG.out.2]; exact List.mem_map_of_mem hx
                                rw [HG4.out] at h2
                                obtain ⟨y, hy, e⟩ := List.mem_map.1 (List.mem_of_mem_drop (List.mem_of_mem_take h2))
                                rw [← e]
                                exact hlens y hy)
                              HGG.out.1.row hr' HGG.out.1.bods
                              (fun y hy => ((hbd y (List.mem_of_mem_drop (List.mem_of_mem_take hy))).below HB.out).more HB.out.size)
                            have hcR : cR ((ys.drop q0).take ln) = ((cR ys).drop q0).take ln := by simp [cR, List.map_take, List.map_drop]
                            by_cases hcq : cl = q0
                            · have hsl := hsl (some ad) 0 (fun hne => by
                                exfalso
                                apply hne
                                have : ln = 0 := by omega
                                rw [this]
                                rfl)
                              clear hcR
                              go_wp2_with fail
                              refine hsl.mono ?_
                              rintro e ws ⟨rfl, q, rfl⟩
                              have hnx := snext_any _ (HSD.out.go (bDrewN (Below.refl _ _) q))
                              rw [HG7.out, show ((q0 + 1 + ln : Nat) : Int) = (q0 : Int) + (ln : Int) + 1 by omega] at hnx
                              have HB2 := Lib.hid (bDrewN HB.out q)
                              clear hsl
                              generalize wa.drewN q = wz at *
                              go_wp2_with fail
                              refine hnx.mono ?_
                              rintro e w7 ⟨rfl, hw⟩
                              rw [hw]
                              clear hw w7 hnx
                              go_wp2
                              go_returns
                              exact ⟨by simp, HB2.out⟩
                            · have hsl := hsl (some (ad.add q0)) (cl - q0) (by
                                rw [hcR]
                                exact ((hrl.below HB.out).more HB.out.size).part q0 ln)
                              clear hcR
                              go_wp2_with fail
                              refine hsl.mono ?_
                              rintro e ws ⟨rfl, q, rfl⟩
                              have hnx := snext_any _ (HSD.out.go (bDrewN (Below.refl _ _) q))
                              rw [HG7.out, show ((q0 + 1 + ln : Nat) : Int) = (q0 : Int) + (ln : Int) + 1 by omega] at hnx
                              have HB2 := Lib.hid (bDrewN HB.out q)
                              clear hsl
                              generalize wa.drewN q = wz at *
                              go_wp2_with fail
                              refine hnx.mono ?_
                              rintro e w7 ⟨rfl, hw⟩
                              rw [hw]
                              clear hw w7 hnx
                              go_wp2
                              go_returns
                              exact ⟨by simp, HB2.out⟩
                        · rw [show dCrash D' ks = (2, D') by unfold dCrash; rw [if_pos hneg]] at hcr
                          refine hcr.mono ?_
                          rintro e wc ⟨rfl, Sc, hkc, hbc, hSc⟩
                          clear hcr
                          have hfn := fine_no Ak ks nk ck w.heap.size wc hnk hnkl (hrk.below hbc) hneg
                          have HB := Lib.hid hbc
                          clear hkc hSc hbc hneg hO hA
                          go_wp2_with fail
                          refine hfn.mono ?_
                          rintro e wd ⟨rfl, q, rfl⟩
                          clear hfn
                          go_wp2
                          go_returns
                          exact ⟨by simp, bDrewN HB.out q⟩
                  · have hkvi : ¬ (k : Int) < (nv : Int) := by omega
                    go_wp2
                    go_roundw
                    case rel => exact ⟨k + 1, (k + 1), _, _, _, _, _, by omega, by go_num, (by first | rfl | go_num), by go_num, hA1, ⟨hlp1.st, hlp1.le, by have := hlp1.used; omega, hlp1.room, by have := hlp1.steps; omega⟩⟩
                    case measure => simp [intOf]; omega
                · rw [g1] at hsy
                  have hO : Out6 (sSync D1 X1).2.1 (ys.map RcM.r) m (k + 1) := by
                    refine ⟨?_, hin, by omega, by omega, by omega⟩
                    exact hlo _ _ rfl rfl
                  refine hsy.mono ?_
                  rintro e wz ⟨rfl, Sz, Tz, hA⟩
                  generalize (sSync D1 X1).2.1 = D' at *
                  generalize (sSync D1 X1).2.2 = X' at *
                  clear hsy g1 hlo hsp hro hus hin hst1 hLn0 hfit hu hroom hsteps hlp1 hA1 hup1 hup2
                  obtain ⟨a', ha'⟩ : ∃ x, x = k + 1 := ⟨_, rfl⟩
                  have hka : (k : Int) + 1 = (a' : Nat) := by omega
                  rw [← ha'] at hO
                  have hak : a' ≤ n := by omega
                  obtain ⟨m', rfl⟩ : ∃ x, x = m := ⟨_, rfl⟩
                  clear ha'
                  have hcr := at6_crash hA Ak ks nk ck (okd_room hO.inv.ok (by have := hO.steps; omega)) hO.inv.ok hnk hnkl hk64 hrk
                  go_wp2_with fail
                  cases hneg : ks.any (fun k => decide (k < 0))
                  · rw [dCrash_ok hneg] at hcr
                    have hle := hO.le
                    obtain ⟨xs, hgood, hF⟩ := hO.lost.found hO.inv hneg hO.room hO.steps
                    refine hcr.mono ?_
                    rintro e wc ⟨rfl, Sc, hkc, hbc, hSc⟩
                    clear hcr
                    have hop := at6_open (xs := xs) wc hbc hkc hSc hp hm hgood
                    clear hgood hkc hbc hSc hneg hO hA
                    generalize sDisk xs (fallen D' ks) = Df at *
                    generalize sOpened xs (fallen D' ks) = Xf at *
                    go_wp2_with fail
                    refine hop.mono ?_
                    rintro e wo ⟨sto, jo, So, To, Uo, rfl, ho⟩
                    clear hop
                    obtain ⟨f1, f2, f3, f4, f5, f6, f7, f8, f9⟩ := hF
                    have hjl : (jAll Xf.J).length ≤ 1099511627776 := by
                      have h1 : (sSince Xf).length = (jAll Xf.J).length - (Xf.sn.upto - jFirst Xf.J) := by unfold sSince; rw [List.length_drop]
                      have h2 : Xf.sn.upto ≤ 1000 := by rcases f1 with e | ⟨_, _, _, _⟩ <;> omega
                      omega
                    have hsm : Xf.sn.upto ≤ maxNo := by
                      rcases f1 with e | ⟨_, _, _, e⟩
                      · rw [e]; decide
                      · exact e
                    have hsc := fun W (h : SD W So To Uo sto jo d Df Xf) => ssince_any W h f8 hjl (fun x hx r hr => Nat.le_trans (f9 x hx r hr) (by decide)) f2 f3 hsm
                    have hnx := fun W (h : SD W So To Uo sto jo d Df Xf) => snext_any W h
                    obtain ⟨ln, hln⟩ : ∃ ln, (sSince Xf).length = ln := ⟨_, rfl⟩
                    rw [hln] at f4 f5 f6 f7
                    have HLN := Lib.hid hln
                    clear hln f2 f3 f8 f9 hjl hsm
                    rcases f1 with e1 | ⟨e1, e2, e3, _⟩
                    · skip
                      have hsn : Calls Tryz.prog 9 #[.pointer (some ⟨sto, 0, none⟩)] wo fun e w' => ∃ v, e = .returned (.tuple #[v, .int .u64 1, .bool false]) ∧ w'.ownsRow wo.heap.size 5 1 v 0 [] ∧ Below wo.heap.size wo w' := by
                        have := ssnap_any wo ho.sd (by rw [e1]; decide)
                        rw [e1] at this
                        exact this
                      rw [e1] at f4 f5 f6 f7
                      have g4 : sSince Xf = ((ys.map RcM.r).drop 0).take ln := f4
                      have g5 : m' ≤ 0 + ln := f5
                      have g6 : 0 + ln ≤ a' := f6
                      have g7 : Xf.J.next = 0 + 1 + ln := by rw [f7]; rfl
                      clear f4 f5 f6 f7 e1
                      go_wp2_with fail
                      refine hsn.mono ?_
                      rintro e wo2 ⟨v, rfl, hown, hbn⟩
                      obtain ⟨A0, c0, rfl⟩ := row_any hown
                      have ho := ho.go hbn
                      have hsc := hsc wo2 ho.sd
                      clear hsn hown hbn
                      go_wp2_with fail
                      refine hsc.mono ?_
                      rintro e wa ⟨Aa, ca, zs, rfl, hzs, hAt⟩
                      have hoa := ho.go hAt.below
                      have HG7 := Lib.hid g7
                      clear hsc hnx
                      have hzl : zs.length = ln := by
                        have := congrArg List.length hzs
                        rw [List.length_map, HLN.out] at this
                        exact this
                      have hzn : ln ≤ n := by
                        have := congrArg List.length g4
                        rw [HLN.out, List.length_take, List.drop_zero, List.length_map] at this
                        omega
                      rw [hzl]
                      have hzc : (ln : Int) ≤ cl := by omega
                      have hmz : (m' : Int) ≤ ln := by omega
                      have hza : (ln : Int) ≤ a' := by omega
                      have hsl := sameLists_yes Aa _ zs (ys.take ln) ln ln ca cl wa.heap.size wa hzl (by rw [List.length_take]; omega) (by omega)
                        (by rw [hzs, g4, List.drop_zero, List.map_take])
                        (fun x hx => by
                          have h2 : x.r ∈ sSince Xf := by rw [← hzs]; exact List.mem_map_of_mem hx
                          rw [g4] at h2
                          obtain ⟨y, hy, e⟩ := List.mem_map.1 (List.mem_of_mem_drop (List.mem_of_mem_take h2))
                          rw [← e]
                          exact hlens y hy)
                        hAt.row
                        (by
                          have := (hrl.below hoa.below).more hoa.below.size
                          rw [show cR (ys.take ln) = (cR ys).take ln by simp [cR, List.map_take]]
                          exact this.take _)
                        hAt.bods
                        (fun y hy => ((hbd y (List.mem_of_mem_take hy)).below hoa.below).more hoa.below.size)
                      have HB := Lib.hid hoa.below
                      have HSD := Lib.hid hoa.sd
                      clear g4 g7 g5 g6 hAt hzs hoa ho hzl hzn
                      go_wp2_with fail
                      refine hsl.mono ?_
                      rintro e ws ⟨rfl, q, rfl⟩
                      have hnx := snext_any _ (HSD.out.go (bDrewN (Below.refl _ _) q))
                      rw [HG7.out, show ((0 + 1 + ln : Nat) : Int) = (ln : Int) + 1 by omega] at hnx
                      have HB2 := Lib.hid (bDrewN HB.out q)
                      clear hsl
                      generalize wa.drewN q = wz at *
                      go_wp2_with fail
                      refine hnx.mono ?_
                      rintro e w7 ⟨rfl, hw⟩
                      rw [hw]
                      clear hw w7 hnx
                      go_wp2
                      go_returns
                      exact ⟨by simp, HB2.out⟩
                    · skip
                      obtain ⟨q0, hq0, hq1⟩ : ∃ q0, Xf.sn.upto = q0 + 1 ∧ 1 ≤ q0 := ⟨Xf.sn.upto - 1, by omega, by omega⟩
                      have hsn : Calls Tryz.prog 9 #[.pointer (some ⟨sto, 0, none⟩)] wo fun e w' => ∃ v, e = .returned (.tuple #[v, .int .u64 ((q0 : Int) + 1), .bool true]) ∧ w'.ownsRow wo.heap.size 5 1 v 1 (c8 [(q0 : Int)]) ∧ Below wo.heap.size wo w' := by
                        have := ssnap_any wo ho.sd (by rw [e3]; simp)
                        rw [e3, e1, hq0] at this
                        exact this
                      rw [hq0] at f4 f5 f6 f7
                      have g4 : sSince Xf = ((ys.map RcM.r).drop q0).take ln := f4
                      have g5 : m' ≤ q0 + ln := f5
                      have g6 : q0 + ln ≤ a' := f6
                      have g7 : Xf.J.next = q0 + 1 + ln := f7
                      clear f4 f5 f6 f7 e1 e2 e3 hq0
                      have hq3 : (0 : Int) < (q0 : Int) := by omega
                      have hq4 : (q0 : Int) ≤ 100 := by omega
                      go_wp2_with fail
                      refine hsn.mono ?_
                      rintro e wo2 ⟨v, rfl, hown, hbn⟩
                      obtain ⟨gb, cb, rfl, hgb, hcb1, _⟩ := row_block hown (by omega)
                      have hcb := (row_cell (i := 0) hown hgb (show (c8 [(q0 : Int)])[0]? = some (.int .u8 q0) from rfl)).1
                      have hgl := (ownRow_block hown hgb).2.1
                      have ho := ho.go hbn
                      have hsc := hsc wo2 ho.sd
                      clear hsn hown hbn hgb
                      go_wp2_with fail
                      refine hsc.mono ?_
                      rintro e wa ⟨Aa, ca, zs, rfl, hzs, hAt⟩
                      have hoa := ho.go hAt.below
                      have hcb : wa.cell? ⟨gb, 0, none⟩ = some (.int .u8 q0) := by rw [hAt.below.cell (p := ⟨gb, 0, none⟩) hgl]; exact hcb
                      have HG7 := Lib.hid g7
                      clear hsc hnx
                      have hzl : zs.length = ln := by
                        have := congrArg List.length hzs
                        rw [List.length_map, HLN.out] at this
                        exact this
                      have hzn : q0 + ln ≤ n := by omega
                      rw [hzl]
                      first
                        | (obtain ⟨ad, rfl⟩ : ∃ ad, Al = some ad := by
                            obtain ⟨ad, e, _⟩ := hrl (by
                              intro e
                              have := congrArg List.length e
                              simp [cR] at this
                              rw [this] at hn
                              simp at hn
                              omega)
                            exact ⟨ad, e⟩)
                        | skip
                      have hzc : (q0 : Int) + (ln : Int) ≤ cl := by omega
                      have hmz : (m' : Int) ≤ (q0 : Int) + ln := by omega
                      have hza : (q0 : Int) + (ln : Int) ≤ a' := by omega
                      have hq5 : (q0 : Int) ≤ (q0 : Int) + ln := by omega
                      have hq6 : (0 : Int) ≤ (q0 : Int) + ln := by omega
                      have hln2 : (ln : Int) ≤ 100 := by omega
                      have HB := Lib.hid hoa.below
                      have HSD := Lib.hid hoa.sd
                      have HG4 := Lib.hid g4
                      have HGG := Lib.hid (And.intro hAt hzs)
                      have HZL := Lib.hid hzl
                      clear g4 g7 g5 g6 hAt hzs hoa ho hzl hgl
                      have hsl := fun (A' : Option Addr) (c' : Nat) (hr' : Rds wa wa.heap.size A' (cR ((ys.drop q0).take ln))) => sameLists_yes Aa A' zs ((ys.drop q0).take ln) ln ln ca c' wa.heap.size wa HZL.out (by rw [List.length_take, List.length_drop]; omega) (by omega)
                        (by rw [HGG.out.2, HG4.out, List.map_take, List.map_drop])
                        (fun x hx => by
                          have h2 : x.r ∈ sSince Xf := by rw [← HGG.out.2]; exact List.mem_map_of_mem hx
                          rw [HG4.out] at h2
                          obtain ⟨y, hy, e⟩ := List.mem_map.1 (List.mem_of_mem_drop (List.mem_of_mem_take h2))
                          rw [← e]
                          exact hlens y hy)
                        HGG.out.1.row hr' HGG.out.1.bods
                        (fun y hy => ((hbd y (List.mem_of_mem_drop (List.mem_of_mem_take hy))).below HB.out).more HB.out.size)
                      have hcR : cR ((ys.drop q0).take ln) = ((cR ys).drop q0).take ln := by simp [cR, List.map_take, List.map_drop]
                      by_cases hcq : cl = q0
                      · have hsl := hsl (some ad) 0 (fun hne => by
                          exfalso
                          apply hne
                          have : ln = 0 := by omega
                          rw [this]
                          rfl)
                        clear hcR
                        go_wp2_with fail
                        refine hsl.mono ?_
                        rintro e ws ⟨rfl, q, rfl⟩
                        have hnx := snext_any _ (HSD.out.go (bDrewN (Below.refl _ _) q))
                        rw [HG7.out, show ((q0 + 1 + ln : Nat) : Int) = (q0 : Int) + (ln : Int) + 1 by omega] at hnx
                        have HB2 := Lib.hid (bDrewN HB.out q)
                        clear hsl
                        generalize wa.drewN q = wz at *
                        go_wp2_with fail
                        refine hnx.mono ?_
                        rintro e w7 ⟨rfl, hw⟩
                        rw [hw]
                        clear hw w7 hnx
                        go_wp2
                        go_returns
                        exact ⟨by simp, HB2.out⟩
                      · have hsl := hsl (some (ad.add q0)) (cl - q0) (by
                          rw [hcR]
                          exact ((hrl.below HB.out).more HB.out.size).part q0 ln)
                        clear hcR
                        go_wp2_with fail
                        refine hsl.mono ?_
                        rintro e ws ⟨rfl, q, rfl⟩
                        have hnx := snext_any _ (HSD.out.go (bDrewN (Below.refl _ _) q))
                        rw [HG7.out, show ((q0 + 1 + ln : Nat) : Int) = (q0 : Int) + (ln : Int) + 1 by omega] at hnx
                        have HB2 := Lib.hid (bDrewN HB.out q)
                        clear hsl
                        generalize wa.drewN q = wz at *
                        go_wp2_with fail
                        refine hnx.mono ?_
                        rintro e w7 ⟨rfl, hw⟩
                        rw [hw]
                        clear hw w7 hnx
                        go_wp2
                        go_returns
                        exact ⟨by simp, HB2.out⟩
                  · rw [show dCrash D' ks = (2, D') by unfold dCrash; rw [if_pos hneg]] at hcr
                    refine hcr.mono ?_
                    rintro e wc ⟨rfl, Sc, hkc, hbc, hSc⟩
                    clear hcr
                    have hfn := fine_no Ak ks nk ck w.heap.size wc hnk hnkl (hrk.below hbc) hneg
                    have HB := Lib.hid hbc
                    clear hkc hSc hbc hneg hO hA
                    go_wp2_with fail
                    refine hfn.mono ?_
                    rintro e wd ⟨rfl, q, rfl⟩
                    clear hfn
                    go_wp2
                    go_returns
                    exact ⟨by simp, bDrewN HB.out q⟩
            · have hkbi : ¬ (k : Int) < (ns : Int) := by omega
              have hLn : ((ys.map RcM.r).take (k + 1)).length = k + 1 := by rw [List.length_take, List.length_map]; omega
              by_cases hkv : k < nv
              · have hkvi : (k : Int) < (nv : Int) := by omega
                have hkv2 : k < vs.length := by omega
                obtain ⟨ad3, rfl, _, hc3⟩ := ((hrv.below hA1.below).more hA1.below.size).at_ (cO_get hkv2)
                cases hvk : vs[k]
                · rw [hvk] at hc3
                  go_wp2
                  go_roundw
                  case rel => exact ⟨k + 1, m, _, _, _, _, _, by omega, by go_num, (by first | rfl | go_num), by go_num, hA1, ⟨hlp1.st, hlp1.le, by have := hlp1.used; omega, hlp1.room, by have := hlp1.steps; omega⟩⟩
                  case measure => simp [intOf]; omega
                · rw [hvk] at hc3
                  have hst1 := hlp1.st
                  have hfit := hst1.fits (by omega)
                  have hu := hlp1.used
                  have hroom := hlp1.room
                  have hsteps := hlp1.steps
                  have hsok := hst1.sok (b := [(((ys.map RcM.r).take (k + 1)).length : Int)]) rfl (by omega)
                  have hsv := at6_save hA1 hst1 (by omega) (by omega) (by omega) (by omega) (by omega)
                  have hs6 := hst1.save (b := [(((ys.map RcM.r).take (k + 1)).length : Int)]) (by omega) (by omega) rfl (by omega) (by omega)
                  have hsp := save_steps (X := X1) hst1.inv.ok hsok.2
                  have hin2 := hs6.inv
                  have hro2 := hs6.room
                  have hus2 := hs6.used
                  have htwo := hs6.two
                  rw [hLn] at hsv hs6 hsok hsp hin2 hro2 hus2 htwo
                  rw [show ((k + 1 : Nat) : Int) = (k : Int) + 1 by omega] at hsv hs6 hsok hsp hin2 hro2 hus2 htwo
                  have hw8 : IntKind.u8.wrap ((k : Int) + 1) = (k : Int) + 1 := IntWalk.u8_in _ (by omega)
                  clear hs6 hsok
                  rcases htwo with ⟨g1, st2⟩ | ⟨g1, hlo⟩
                  · rw [g1] at hsv
                    go_wp2_with fail
                    refine hsv.mono ?_
                    rintro e wy ⟨rfl, Sy, Uy, hA2⟩
                    have hlp2 : Lp6 (sSave D1 X1 [(k : Int) + 1]).2.1 (sSave D1 X1 [(k : Int) + 1]).2.2 (ys.map RcM.r) (k + 1) (k + 1) ((k + 1) * 2060) ((k + 1) * 2200) := ⟨st2, Nat.le_refl _, by omega, by omega, by omega⟩
                    generalize (sSave D1 X1 [(k : Int) + 1]).2.1 = D2 at *
                    generalize (sSave D1 X1 [(k : Int) + 1]).2.2 = X2 at *
                    clear hsv g1 st2 hin2 hro2 hus2 hsp hst1 hfit hu hroom hsteps hw8 hlp1 hA1 hLn
                    go_wp2
                    go_roundw
                    case rel => exact ⟨k + 1, k + 1, _, _, _, _, _, by omega, by go_num, by go_num, by go_num, hA2, hlp2⟩
                    case measure => simp [intOf]; omega
                  · rw [g1] at hsv
                    have hO : Out6 (sSave D1 X1 [(k : Int) + 1]).2.1 (ys.map RcM.r) m (k + 1) := ⟨hlo _ _ rfl rfl, hin2, by omega, by omega, by omega⟩
                    go_wp2_with fail
                    refine hsv.mono ?_
                    rintro e wy ⟨rfl, Sy, Uy, hA⟩
                    generalize (sSave D1 X1 [(k : Int) + 1]).2.1 = D' at *
                    generalize (sSave D1 X1 [(k : Int) + 1]).2.2 = X' at *
                    clear hsv g1 hlo hin2 hro2 hus2 hsp hst1 hfit hu hroom hsteps hw8 hlp1 hA1 hLn hup1
                    obtain ⟨a', ha'⟩ : ∃ x, x = k + 1 := ⟨_, rfl⟩
                    have hka : (k : Int) + 1 = (a' : Nat) := by omega
                    rw [← ha'] at hO
                    have hak : a' ≤ n := by omega
                    obtain ⟨m', rfl⟩ : ∃ x, x = m := ⟨_, rfl⟩
                    clear ha'
                    have hcr := at6_crash hA Ak ks nk ck (okd_room hO.inv.ok (by have := hO.steps; omega)) hO.inv.ok hnk hnkl hk64 hrk
                    go_wp2_with fail
                    cases hneg : ks.any (fun k => decide (k < 0))
                    · rw [dCrash_ok hneg] at hcr
                      have hle := hO.le
                      obtain ⟨xs, hgood, hF⟩ := hO.lost.found hO.inv hneg hO.room hO.steps
                      refine hcr.mono ?_
                      rintro e wc ⟨rfl, Sc, hkc, hbc, hSc⟩
                      clear hcr
                      have hop := at6_open (xs := xs) wc hbc hkc hSc hp hm hgood
                      clear hgood hkc hbc hSc hneg hO hA
                      generalize sDisk xs (fallen D' ks) = Df at *
                      generalize sOpened xs (fallen D' ks) = Xf at *
                      go_wp2_with fail
                      refine hop.mono ?_
                      rintro e wo ⟨sto, jo, So, To, Uo, rfl, ho⟩
                      clear hop
                      obtain ⟨f1, f2, f3, f4, f5, f6, f7, f8, f9⟩ := hF
                      have hjl : (jAll Xf.J).length ≤ 1099511627776 := by
                        have h1 : (sSince Xf).length = (jAll Xf.J).length - (Xf.sn.upto - jFirst Xf.J) := by unfold sSince; rw [List.length_drop]
                        have h2 : Xf.sn.upto ≤ 1000 := by rcases f1 with e | ⟨_, _, _, _⟩ <;> omega
                        omega
                      have hsm : Xf.sn.upto ≤ maxNo := by
                        rcases f1 with e | ⟨_, _, _, e⟩
                        · rw [e]; decide
                        · exact e
                      have hsc := fun W (h : SD W So To Uo sto jo d Df Xf) => ssince_any W h f8 hjl (fun x hx r hr => Nat.le_trans (f9 x hx r hr) (by decide)) f2 f3 hsm
                      have hnx := fun W (h : SD W So To Uo sto jo d Df Xf) => snext_any W h
                      obtain ⟨ln, hln⟩ : ∃ ln, (sSince Xf).length = ln := ⟨_, rfl⟩
                      rw [hln] at f4 f5 f6 f7
                      have HLN := Lib.hid hln
                      clear hln f2 f3 f8 f9 hjl hsm
                      rcases f1 with e1 | ⟨e1, e2, e3, _⟩
                      · skip
                        have hsn : Calls Tryz.prog 9 #[.pointer (some ⟨sto, 0, none⟩)] wo fun e w' => ∃ v, e = .returned (.tuple #[v, .int .u64 1, .bool false]) ∧ w'.ownsRow wo.heap.size 5 1 v 0 [] ∧ Below wo.heap.size wo w' := by
                          have := ssnap_any wo ho.sd (by rw [e1]; decide)
                          rw [e1] at this
                          exact this
                        rw [e1] at f4 f5 f6 f7
                        have g4 : sSince Xf = ((ys.map RcM.r).drop 0).take ln := f4
                        have g5 : m' ≤ 0 + ln := f5
                        have g6 : 0 + ln ≤ a' := f6
                        have g7 : Xf.J.next = 0 + 1 + ln := by rw [f7]; rfl
                        clear f4 f5 f6 f7 e1
                        go_wp2_with fail
                        refine hsn.mono ?_
                        rintro e wo2 ⟨v, rfl, hown, hbn⟩
                        obtain ⟨A0, c0, rfl⟩ := row_any hown
                        have ho := ho.go hbn
                        have hsc := hsc wo2 ho.sd
                        clear hsn hown hbn
                        go_wp2_with fail
                        refine hsc.mono ?_
                        rintro e wa ⟨Aa, ca, zs, rfl, hzs, hAt⟩
                        have hoa := ho.go hAt.below
                        have HG7 := Lib.hid g7
                        clear hsc hnx
                        have hzl : zs.length = ln := by
                          have := congrArg List.length hzs
                          rw [List.length_map, HLN.out] at this
                          exact this
                        have hzn : ln ≤ n := by
                          have := congrArg List.length g4
                          rw [HLN.out, List.length_take, List.drop_zero, List.length_map] at this
                          omega
                        rw [hzl]
                        have hzc : (ln : Int) ≤ cl := by omega
                        have hmz : (m' : Int) ≤ ln := by omega
                        have hza : (ln : Int) ≤ a' := by omega
                        have hsl := sameLists_yes Aa _ zs (ys.take ln) ln ln ca cl wa.heap.size wa hzl (by rw [List.length_take]; omega) (by omega)
                          (by rw [hzs, g4, List.drop_zero, List.map_take])
                          (fun x hx => by
                            have h2 : x.r ∈ sSince Xf := by rw [← hzs]; exact List.mem_map_of_mem hx
                            rw [g4] at h2
                            obtain ⟨y, hy, e⟩ := List.mem_map.1 (List.mem_of_mem_drop (List.mem_of_mem_take h2))
                            rw [← e]
                            exact hlens y hy)
                          hAt.row
                          (by
                            have := (hrl.below hoa.below).more hoa.below.size
                            rw [show cR (ys.take ln) = (cR ys).take ln by simp [cR, List.map_take]]
                            exact this.take _)
                          hAt.bods
                          (fun y hy => ((hbd y (List.mem_of_mem_take hy)).below hoa.below).more hoa.below.size)
                        have HB := Lib.hid hoa.below
                        have HSD := Lib.hid hoa.sd
                        clear g4 g7 g5 g6 hAt hzs hoa ho hzl hzn
                        go_wp2_with fail
                        refine hsl.mono ?_
                        rintro e ws ⟨rfl, q, rfl⟩
                        have hnx := snext_any _ (HSD.out.go (bDrewN (Below.refl _ _) q))
                        rw [HG7.out, show ((0 + 1 + ln : Nat) : Int) = (ln : Int) + 1 by omega] at hnx
                        have HB2 := Lib.hid (bDrewN HB.out q)
                        clear hsl
                        generalize wa.drewN q = wz at *
                        go_wp2_with fail
                        refine hnx.mono ?_
                        rintro e w7 ⟨rfl, hw⟩
                        rw [hw]
                        clear hw w7 hnx
                        go_wp2
                        go_returns
                        exact ⟨by simp, HB2.out⟩
                      · skip
                        obtain ⟨q0, hq0, hq1⟩ : ∃ q0, Xf.sn.upto = q0 + 1 ∧ 1 ≤ q0 := ⟨Xf.sn.upto - 1, by omega, by omega⟩
                        have hsn : Calls Tryz.prog 9 #[.pointer (some ⟨sto, 0, none⟩)] wo fun e w' => ∃ v, e = .returned (.tuple #[v, .int .u64 ((q0 : Int) + 1), .bool true]) ∧ w'.ownsRow wo.heap.size 5 1 v 1 (c8 [(q0 : Int)]) ∧ Below wo.heap.size wo w' := by
                          have := ssnap_any wo ho.sd (by rw [e3]; simp)
                          rw [e3, e1, hq0] at this
                          exact this
                        rw [hq0] at f4 f5 f6 f7
                        have g4 : sSince Xf = ((ys.map RcM.r).drop q0).take ln := f4
                        have g5 : m' ≤ q0 + ln := f5
                        have g6 : q0 + ln ≤ a' := f6
                        have g7 : Xf.J.next = q0 + 1 + ln := f7
                        clear f4 f5 f6 f7 e1 e2 e3 hq0
                        have hq3 : (0 : Int) < (q0 : Int) := by omega
                        have hq4 : (q0 : Int) ≤ 100 := by omega
                        go_wp2_with fail
                        refine hsn.mono ?_
                        rintro e wo2 ⟨v, rfl, hown, hbn⟩
                        obtain ⟨gb, cb, rfl, hgb, hcb1, _⟩ := row_block hown (by omega)
                        have hcb := (row_cell (i := 0) hown hgb (show (c8 [(q0 : Int)])[0]? = some (.int .u8 q0) from rfl)).1
                        have hgl := (ownRow_block hown hgb).2.1
                        have ho := ho.go hbn
                        have hsc := hsc wo2 ho.sd
                        clear hsn hown hbn hgb
                        go_wp2_with fail
                        refine hsc.mono ?_
                        rintro e wa ⟨Aa, ca, zs, rfl, hzs, hAt⟩
                        have hoa := ho.go hAt.below
                        have hcb : wa.cell? ⟨gb, 0, none⟩ = some (.int .u8 q0) := by rw [hAt.below.cell (p := ⟨gb, 0, none⟩) hgl]; exact hcb
                        have HG7 := Lib.hid g7
                        clear hsc hnx
                        have hzl : zs.length = ln := by
                          have := congrArg List.length hzs
                          rw [List.length_map, HLN.out] at this
                          exact this
                        have hzn : q0 + ln ≤ n := by omega
                        rw [hzl]
                        first
                          | (obtain ⟨ad, rfl⟩ : ∃ ad, Al = some ad := by
                              obtain ⟨ad, e, _⟩ := hrl (by
                                intro e
                                have := congrArg List.length e
                                simp [cR] at this
                                rw [this] at hn
                                simp at hn
                                omega)
                              exact ⟨ad, e⟩)
                          | skip
                        have hzc : (q0 : Int) + (ln : Int) ≤ cl := by omega
                        have hmz : (m' : Int) ≤ (q0 : Int) + ln := by omega
                        have hza : (q0 : Int) + (ln : Int) ≤ a' := by omega
                        have hq5 : (q0 : Int) ≤ (q0 : Int) + ln := by omega
                        have hq6 : (0 : Int) ≤ (q0 : Int) + ln := by omega
                        have hln2 : (ln : Int) ≤ 100 := by omega
                        have HB := Lib.hid hoa.below
                        have HSD := Lib.hid hoa.sd
                        have HG4 := Lib.hid g4
                        have HGG := Lib.hid (And.intro hAt hzs)
                        have HZL := Lib.hid hzl
                        clear g4 g7 g5 g6 hAt hzs hoa ho hzl hgl
                        have hsl := fun (A' : Option Addr) (c' : Nat) (hr' : Rds wa wa.heap.size A' (cR ((ys.drop q0).take ln))) => sameLists_yes Aa A' zs ((ys.drop q0).take ln) ln ln ca c' wa.heap.size wa HZL.out (by rw [List.length_take, List.length_drop]; omega) (by omega)
                          (by rw [HGG.out.2, HG4.out, List.map_take, List.map_drop])
                          (fun x hx => by
                            have h2 : x.r ∈ sSince Xf := by rw [← HGG.out.2]; exact List.mem_map_of_mem hx
                            rw [HG4.out] at h2
                            obtain ⟨y, hy, e⟩ := List.mem_map.1 (List.mem_of_mem_drop (List.mem_of_mem_take h2))
                            rw [← e]
                            exact hlens y hy)
                          HGG.out.1.row hr' HGG.out.1.bods
                          (fun y hy => ((hbd y (List.mem_of_mem_drop (List.mem_of_mem_take hy))).below HB.out).more HB.out.size)
                        have hcR : cR ((ys.drop q0).take ln) = ((cR ys).drop q0).take ln := by simp [cR, List.map_take, List.map_drop]
                        by_cases hcq : cl = q0
                        · have hsl := hsl (some ad) 0 (fun hne => by
                            exfalso
                            apply hne
                            have : ln = 0 := by omega
                            rw [this]
                            rfl)
                          clear hcR
                          go_wp2_with fail
                          refine hsl.mono ?_
                          rintro e ws ⟨rfl, q, rfl⟩
                          have hnx := snext_any _ (HSD.out.go (bDrewN (Below.refl _ _) q))
                          rw [HG7.out, show ((q0 + 1 + ln : Nat) : Int) = (q0 : Int) + (ln : Int) + 1 by omega] at hnx
                          have HB2 := Lib.hid (bDrewN HB.out q)
                          clear hsl
                          generalize wa.drewN q = wz at *
                          go_wp2_with fail
                          refine hnx.mono ?_
                          rintro e w7 ⟨rfl, hw⟩
                          rw [hw]
                          clear hw w7 hnx
                          go_wp2
                          go_returns
                          exact ⟨by simp, HB2.out⟩
                        · have hsl := hsl (some (ad.add q0)) (cl - q0) (by
                            rw [hcR]
                            exact ((hrl.below HB.out).more HB.out.size).part q0 ln)
                          clear hcR
                          go_wp2_with fail
                          refine hsl.mono ?_
                          rintro e ws ⟨rfl, q, rfl⟩
                          have hnx := snext_any _ (HSD.out.go (bDrewN (Below.refl _ _) q))
                          rw [HG7.out, show ((q0 + 1 + ln : Nat) : Int) = (q0 : Int) + (ln : Int) + 1 by omega] at hnx
                          have HB2 := Lib.hid (bDrewN HB.out q)
                          clear hsl
                          generalize wa.drewN q = wz at *
                          go_wp2_with fail
                          refine hnx.mono ?_
                          rintro e w7 ⟨rfl, hw⟩
                          rw [hw]
                          clear hw w7 hnx
                          go_wp2
                          go_returns
                          exact ⟨by simp, HB2.out⟩
                    · rw [show dCrash D' ks = (2, D') by unfold dCrash; rw [if_pos hneg]] at hcr
                      refine hcr.mono ?_
                      rintro e wc ⟨rfl, Sc, hkc, hbc, hSc⟩
                      clear hcr
                      have hfn := fine_no Ak ks nk ck w.heap.size wc hnk hnkl (hrk.below hbc) hneg
                      have HB := Lib.hid hbc
                      clear hkc hSc hbc hneg hO hA
                      go_wp2_with fail
                      refine hfn.mono ?_
                      rintro e wd ⟨rfl, q, rfl⟩
                      clear hfn
                      go_wp2
                      go_returns
                      exact ⟨by simp, bDrewN HB.out q⟩
              · have hkvi : ¬ (k : Int) < (nv : Int) := by omega
                go_wp2
                go_roundw
                case rel => exact ⟨k + 1, m, _, _, _, _, _, by omega, by go_num, (by first | rfl | go_num), by go_num, hA1, ⟨hlp1.st, hlp1.le, by have := hlp1.used; omega, hlp1.room, by have := hlp1.steps; omega⟩⟩
                case measure => simp [intOf]; omega
          · have hO : Out6 (sLog D X b).2.2.1 (ys.map RcM.r) m (k + 1) := by
              refine ⟨hlo _ _ rfl hLn hMk, hin, by omega, by omega, by omega⟩
            rw [g1] at hap
            refine hap.mono ?_
            rintro e wx ⟨rfl, Sx, Tx, hA⟩
            generalize (sLog D X b).2.2.1 = D' at *
            generalize (sLog D X b).2.2.2 = X' at *
            generalize (sLog D X b).1 = nu at *
            clear hap hsp hlo hin g1 hst hfit hu hroom hsteps hbR hLn hlp hA0 hgood hrg hout hbg hMk hyr hro hus hup hc0 hsmn hsm
            obtain ⟨a', ha'⟩ : ∃ x, x = k + 1 := ⟨_, rfl⟩
            have hka : (k : Int) + 1 = (a' : Nat) := by omega
            rw [← ha'] at hO
            have hak : a' ≤ n := by omega
            obtain ⟨m', rfl⟩ : ∃ x, x = m := ⟨_, rfl⟩
            clear ha'
            have hcr := at6_crash hA Ak ks nk ck (okd_room hO.inv.ok (by have := hO.steps; omega)) hO.inv.ok hnk hnkl hk64 hrk
            go_wp2_with fail
            cases hneg : ks.any (fun k => decide (k < 0))
            · rw [dCrash_ok hneg] at hcr
              have hle := hO.le
              obtain ⟨xs, hgood, hF⟩ := hO.lost.found hO.inv hneg hO.room hO.steps
              refine hcr.mono ?_
              rintro e wc ⟨rfl, Sc, hkc, hbc, hSc⟩
              clear hcr
              have hop := at6_open (xs := xs) wc hbc hkc hSc hp hm hgood
              clear hgood hkc hbc hSc hneg hO hA
              generalize sDisk xs (fallen D' ks) = Df at *
              generalize sOpened xs (fallen D' ks) = Xf at *
              go_wp2_with fail
              refine hop.mono ?_
              rintro e wo ⟨sto, jo, So, To, Uo, rfl, ho⟩
              clear hop
              obtain ⟨f1, f2, f3, f4, f5, f6, f7, f8, f9⟩ := hF
              have hjl : (jAll Xf.J).length ≤ 1099511627776 := by
                have h1 : (sSince Xf).length = (jAll Xf.J).length - (Xf.sn.upto - jFirst Xf.J) := by unfold sSince; rw [List.length_drop]
                have h2 : Xf.sn.upto ≤ 1000 := by rcases f1 with e | ⟨_, _, _, _⟩ <;> omega
                omega
              have hsm : Xf.sn.upto ≤ maxNo := by
                rcases f1 with e | ⟨_, _, _, e⟩
                · rw [e]; decide
                · exact e
              have hsc := fun W (h : SD W So To Uo sto jo d Df Xf) => ssince_any W h f8 hjl (fun x hx r hr => Nat.le_trans (f9 x hx r hr) (by decide)) f2 f3 hsm
              have hnx := fun W (h : SD W So To Uo sto jo d Df Xf) => snext_any W h
              obtain ⟨ln, hln⟩ : ∃ ln, (sSince Xf).length = ln := ⟨_, rfl⟩
              rw [hln] at f4 f5 f6 f7
              have HLN := Lib.hid hln
              clear hln f2 f3 f8 f9 hjl hsm
              rcases f1 with e1 | ⟨e1, e2, e3, _⟩
              · skip
                have hsn : Calls Tryz.prog 9 #[.pointer (some ⟨sto, 0, none⟩)] wo fun e w' => ∃ v, e = .returned (.tuple #[v, .int .u64 1, .bool false]) ∧ w'.ownsRow wo.heap.size 5 1 v 0 [] ∧ Below wo.heap.size wo w' := by
                  have := ssnap_any wo ho.sd (by rw [e1]; decide)
                  rw [e1] at this
                  exact this
                rw [e1] at f4 f5 f6 f7
                have g4 : sSince Xf = ((ys.map RcM.r).drop 0).take ln := f4
                have g5 : m' ≤ 0 + ln := f5
                have g6 : 0 + ln ≤ a' := f6
                have g7 : Xf.J.next = 0 + 1 + ln := by rw [f7]; rfl
                clear f4 f5 f6 f7 e1
                go_wp2_with fail
                refine hsn.mono ?_
                rintro e wo2 ⟨v, rfl, hown, hbn⟩
                obtain ⟨A0, c0, rfl⟩ := row_any hown
                have ho := ho.go hbn
                have hsc := hsc wo2 ho.sd
                clear hsn hown hbn
                go_wp2_with fail
                refine hsc.mono ?_
                rintro e wa ⟨Aa, ca, zs, rfl, hzs, hAt⟩
                have hoa := ho.go hAt.below
                have HG7 := Lib.hid g7
                clear hsc hnx
                have hzl : zs.length = ln := by
                  have := congrArg List.length hzs
                  rw [List.length_map, HLN.out] at this
                  exact this
                have hzn : ln ≤ n := by
                  have := congrArg List.length g4
                  rw [HLN.out, List.length_take, List.drop_zero, List.length_map] at this
                  omega
                rw [hzl]
                have hzc : (ln : Int) ≤ cl := by omega
                have hmz : (m' : Int) ≤ ln := by omega
                have hza : (ln : Int) ≤ a' := by omega
                have hsl := sameLists_yes Aa _ zs (ys.take ln) ln ln ca cl wa.heap.size wa hzl (by rw [List.length_take]; omega) (by omega)
                  (by rw [hzs, g4, List.drop_zero, List.map_take])
                  (fun x hx => by
                    have h2 : x.r ∈ sSince Xf := by rw [← hzs]; exact List.mem_map_of_mem hx
                    rw [g4] at h2
                    obtain ⟨y, hy, e⟩ := List.mem_map.1 (List.mem_of_mem_drop (List.mem_of_mem_take h2))
                    rw [← e]
                    exact hlens y hy)
                  hAt.row
                  (by
                    have := (hrl.below hoa.below).more hoa.below.size
                    rw [show cR (ys.take ln) = (cR ys).take ln by simp [cR, List.map_take]]
                    exact this.take _)
                  hAt.bods
                  (fun y hy => ((hbd y (List.mem_of_mem_take hy)).below hoa.below).more hoa.below.size)
                have HB := Lib.hid hoa.below
                have HSD := Lib.hid hoa.sd
                clear g4 g7 g5 g6 hAt hzs hoa ho hzl hzn
                go_wp2_with fail
                refine hsl.mono ?_
                rintro e ws ⟨rfl, q, rfl⟩
                have hnx := snext_any _ (HSD.out.go (bDrewN (Below.refl _ _) q))
                rw [HG7.out, show ((0 + 1 + ln : Nat) : Int) = (ln : Int) + 1 by omega] at hnx
                have HB2 := Lib.hid (bDrewN HB.out q)
                clear hsl
                generalize wa.drewN q = wz at *
                go_wp2_with fail
                refine hnx.mono ?_
                rintro e w7 ⟨rfl, hw⟩
                rw [hw]
                clear hw w7 hnx
                go_wp2
                go_returns
                exact ⟨by simp, HB2.out⟩
              · skip
                obtain ⟨q0, hq0, hq1⟩ : ∃ q0, Xf.sn.upto = q0 + 1 ∧ 1 ≤ q0 := ⟨Xf.sn.upto - 1, by omega, by omega⟩
                have hsn : Calls Tryz.prog 9 #[.pointer (some ⟨sto, 0, none⟩)] wo fun e w' => ∃ v, e = .returned (.tuple #[v, .int .u64 ((q0 : Int) + 1), .bool true]) ∧ w'.ownsRow wo.heap.size 5 1 v 1 (c8 [(q0 : Int)]) ∧ Below wo.heap.size wo w' := by
                  have := ssnap_any wo ho.sd (by rw [e3]; simp)
                  rw [e3, e1, hq0] at this
                  exact this
                rw [hq0] at f4 f5 f6 f7
                have g4 : sSince Xf = ((ys.map RcM.r).drop q0).take ln := f4
                have g5 : m' ≤ q0 + ln := f5
                have g6 : q0 + ln ≤ a' := f6
                have g7 : Xf.J.next = q0 + 1 + ln := f7
                clear f4 f5 f6 f7 e1 e2 e3 hq0
                have hq3 : (0 : Int) < (q0 : Int) := by omega
                have hq4 : (q0 : Int) ≤ 100 := by omega
                go_wp2_with fail
                refine hsn.mono ?_
                rintro e wo2 ⟨v, rfl, hown, hbn⟩
                obtain ⟨gb, cb, rfl, hgb, hcb1, _⟩ := row_block hown (by omega)
                have hcb := (row_cell (i := 0) hown hgb (show (c8 [(q0 : Int)])[0]? = some (.int .u8 q0) from rfl)).1
                have hgl := (ownRow_block hown hgb).2.1
                have ho := ho.go hbn
                have hsc := hsc wo2 ho.sd
                clear hsn hown hbn hgb
                go_wp2_with fail
                refine hsc.mono ?_
                rintro e wa ⟨Aa, ca, zs, rfl, hzs, hAt⟩
                have hoa := ho.go hAt.below
                have hcb : wa.cell? ⟨gb, 0, none⟩ = some (.int .u8 q0) := by rw [hAt.below.cell (p := ⟨gb, 0, none⟩) hgl]; exact hcb
                have HG7 := Lib.hid g7
                clear hsc hnx
                have hzl : zs.length = ln := by
                  have := congrArg List.length hzs
                  rw [List.length_map, HLN.out] at this
                  exact this
                have hzn : q0 + ln ≤ n := by omega
                rw [hzl]
                first
                  | (obtain ⟨ad, rfl⟩ : ∃ ad, Al = some ad := by
                      obtain ⟨ad, e, _⟩ := hrl (by
                        intro e
                        have := congrArg List.length e
                        simp [cR] at this
                        rw [this] at hn
                        simp at hn
                        omega)
                      exact ⟨ad, e⟩)
                  | skip
                have hzc : (q0 : Int) + (ln : Int) ≤ cl := by omega
                have hmz : (m' : Int) ≤ (q0 : Int) + ln := by omega
                have hza : (q0 : Int) + (ln : Int) ≤ a' := by omega
                have hq5 : (q0 : Int) ≤ (q0 : Int) + ln := by omega
                have hq6 : (0 : Int) ≤ (q0 : Int) + ln := by omega
                have hln2 : (ln : Int) ≤ 100 := by omega
                have HB := Lib.hid hoa.below
                have HSD := Lib.hid hoa.sd
                have HG4 := Lib.hid g4
                have HGG := Lib.hid (And.intro hAt hzs)
                have HZL := Lib.hid hzl
                clear g4 g7 g5 g6 hAt hzs hoa ho hzl hgl
                have hsl := fun (A' : Option Addr) (c' : Nat) (hr' : Rds wa wa.heap.size A' (cR ((ys.drop q0).take ln))) => sameLists_yes Aa A' zs ((ys.drop q0).take ln) ln ln ca c' wa.heap.size wa HZL.out (by rw [List.length_take, List.length_drop]; omega) (by omega)
                  (by rw [HGG.out.2, HG4.out, List.map_take, List.map_drop])
                  (fun x hx => by
                    have h2 : x.r ∈ sSince Xf := by rw [← HGG.out.2]; exact List.mem_map_of_mem hx
                    rw [HG4.out] at h2
                    obtain ⟨y, hy, e⟩ := List.mem_map.1 (List.mem_of_mem_drop (List.mem_of_mem_take h2))
                    rw [← e]
                    exact hlens y hy)
                  HGG.out.1.row hr' HGG.out.1.bods
                  (fun y hy => ((hbd y (List.mem_of_mem_drop (List.mem_of_mem_take hy))).below HB.out).more HB.out.size)
                have hcR : cR ((ys.drop q0).take ln) = ((cR ys).drop q0).take ln := by simp [cR, List.map_take, List.map_drop]
                by_cases hcq : cl = q0
                · have hsl := hsl (some ad) 0 (fun hne => by
                    exfalso
                    apply hne
                    have : ln = 0 := by omega
                    rw [this]
                    rfl)
                  clear hcR
                  go_wp2_with fail
                  refine hsl.mono ?_
                  rintro e ws ⟨rfl, q, rfl⟩
                  have hnx := snext_any _ (HSD.out.go (bDrewN (Below.refl _ _) q))
                  rw [HG7.out, show ((q0 + 1 + ln : Nat) : Int) = (q0 : Int) + (ln : Int) + 1 by omega] at hnx
                  have HB2 := Lib.hid (bDrewN HB.out q)
                  clear hsl
                  generalize wa.drewN q = wz at *
                  go_wp2_with fail
                  refine hnx.mono ?_
                  rintro e w7 ⟨rfl, hw⟩
                  rw [hw]
                  clear hw w7 hnx
                  go_wp2
                  go_returns
                  exact ⟨by simp, HB2.out⟩
                · have hsl := hsl (some (ad.add q0)) (cl - q0) (by
                    rw [hcR]
                    exact ((hrl.below HB.out).more HB.out.size).part q0 ln)
                  clear hcR
                  go_wp2_with fail
                  refine hsl.mono ?_
                  rintro e ws ⟨rfl, q, rfl⟩
                  have hnx := snext_any _ (HSD.out.go (bDrewN (Below.refl _ _) q))
                  rw [HG7.out, show ((q0 + 1 + ln : Nat) : Int) = (q0 : Int) + (ln : Int) + 1 by omega] at hnx
                  have HB2 := Lib.hid (bDrewN HB.out q)
                  clear hsl
                  generalize wa.drewN q = wz at *
                  go_wp2_with fail
                  refine hnx.mono ?_
                  rintro e w7 ⟨rfl, hw⟩
                  rw [hw]
                  clear hw w7 hnx
                  go_wp2
                  go_returns
                  exact ⟨by simp, HB2.out⟩
            · rw [show dCrash D' ks = (2, D') by unfold dCrash; rw [if_pos hneg]] at hcr
              refine hcr.mono ?_
              rintro e wc ⟨rfl, Sc, hkc, hbc, hSc⟩
              clear hcr
              have hfn := fine_no Ak ks nk ck w.heap.size wc hnk hnkl (hrk.below hbc) hneg
              have HB := Lib.hid hbc
              clear hkc hSc hbc hneg hO hA
              go_wp2_with fail
              refine hfn.mono ?_
              rintro e wd ⟨rfl, q, rfl⟩
              clear hfn
              go_wp2
              go_returns
              exact ⟨by simp, bDrewN HB.out q⟩
        · have hsmn : (2000 : Int) < (b.length : Int) := by omega
          go_wp2
          go_returns
          exact ⟨by simp, hA0.below⟩
      · have hA := hA0
        have hO : Out6 D (ys.map RcM.r) m k := by
          have hL : ((ys.map RcM.r).take k).length = k := by rw [List.length_take, List.length_map]; omega
          have hlo := hlp.st.lost (M := ys.map RcM.r) rfl hL
          have := hlp.used
          have := hlp.room
          have := hlp.steps
          exact ⟨hlo, hlp.st.inv, by omega, by omega, by omega⟩
        clear hlp hA0
        obtain ⟨D', rfl⟩ : ∃ x, x = D := ⟨_, rfl⟩
        obtain ⟨m', rfl⟩ : ∃ x, x = m := ⟨_, rfl⟩
        obtain ⟨a', rfl⟩ : ∃ x, x = k := ⟨_, rfl⟩
        have hcr := at6_crash hA Ak ks nk ck (okd_room hO.inv.ok (by have := hO.steps; omega)) hO.inv.ok hnk hnkl hk64 hrk
        go_wp2_with fail
        cases hneg : ks.any (fun k => decide (k < 0))
        · rw [dCrash_ok hneg] at hcr
          have hle := hO.le
          obtain ⟨xs, hgood, hF⟩ := hO.lost.found hO.inv hneg hO.room hO.steps
          refine hcr.mono ?_
          rintro e wc ⟨rfl, Sc, hkc, hbc, hSc⟩
          clear hcr
          have hop := at6_open (xs := xs) wc hbc hkc hSc hp hm hgood
          clear hgood hkc hbc hSc hneg hO hA
          generalize sDisk xs (fallen D' ks) = Df at *
          generalize sOpened xs (fallen D' ks) = Xf at *
          go_wp2_with fail
          refine hop.mono ?_
          rintro e wo ⟨sto, jo, So, To, Uo, rfl, ho⟩
          clear hop
          obtain ⟨f1, f2, f3, f4, f5, f6, f7, f8, f9⟩ := hF
          have hjl : (jAll Xf.J).length ≤ 1099511627776 := by
            have h1 : (sSince Xf).length = (jAll Xf.J).length - (Xf.sn.upto - jFirst Xf.J) := by unfold sSince; rw [List.length_drop]
            have h2 : Xf.sn.upto ≤ 1000 := by rcases f1 with e | ⟨_, _, _, _⟩ <;> omega
            omega
          have hsm : Xf.sn.upto ≤ maxNo := by
            rcases f1 with e | ⟨_, _, _, e⟩
            · rw [e]; decide
            · exact e
          have hsc := fun W (h : SD W So To Uo sto jo d Df Xf) => ssince_any W h f8 hjl (fun x hx r hr => Nat.le_trans (f9 x hx r hr) (by decide)) f2 f3 hsm
          have hnx := fun W (h : SD W So To Uo sto jo d Df Xf) => snext_any W h
          obtain ⟨ln, hln⟩ : ∃ ln, (sSince Xf).length = ln := ⟨_, rfl⟩
          rw [hln] at f4 f5 f6 f7
          have HLN := Lib.hid hln
          clear hln f2 f3 f8 f9 hjl hsm
          rcases f1 with e1 | ⟨e1, e2, e3, _⟩
          · skip
            have hsn : Calls Tryz.prog 9 #[.pointer (some ⟨sto, 0, none⟩)] wo fun e w' => ∃ v, e = .returned (.tuple #[v, .int .u64 1, .bool false]) ∧ w'.ownsRow wo.heap.size 5 1 v 0 [] ∧ Below wo.heap.size wo w' := by
              have := ssnap_any wo ho.sd (by rw [e1]; decide)
              rw [e1] at this
              exact this
            rw [e1] at f4 f5 f6 f7
            have g4 : sSince Xf = ((ys.map RcM.r).drop 0).take ln := f4
            have g5 : m' ≤ 0 + ln := f5
            have g6 : 0 + ln ≤ a' := f6
            have g7 : Xf.J.next = 0 + 1 + ln := by rw [f7]; rfl
            clear f4 f5 f6 f7 e1
            go_wp2_with fail
            refine hsn.mono ?_
            rintro e wo2 ⟨v, rfl, hown, hbn⟩
            obtain ⟨A0, c0, rfl⟩ := row_any hown
            have ho := ho.go hbn
            have hsc := hsc wo2 ho.sd
            clear hsn hown hbn
            go_wp2_with fail
            refine hsc.mono ?_
            rintro e wa ⟨Aa, ca, zs, rfl, hzs, hAt⟩
            have hoa := ho.go hAt.below
            have HG7 := Lib.hid g7
            clear hsc hnx
            have hzl : zs.length = ln := by
              have := congrArg List.length hzs
              rw [List.length_map, HLN.out] at this
              exact this
            have hzn : ln ≤ n := by
              have := congrArg List.length g4
              rw [HLN.out, List.length_take, List.drop_zero, List.length_map] at this
              omega
            rw [hzl]
            have hzc : (ln : Int) ≤ cl := by omega
            have hmz : (m' : Int) ≤ ln := by omega
            have hza : (ln : Int) ≤ a' := by omega
            have hsl := sameLists_yes Aa _ zs (ys.take ln) ln ln ca cl wa.heap.size wa hzl (by rw [List.length_take]; omega) (by omega)
              (by rw [hzs, g4, List.drop_zero, List.map_take])
              (fun x hx => by
                have h2 : x.r ∈ sSince Xf := by rw [← hzs]; exact List.mem_map_of_mem hx
                rw [g4] at h2
                obtain ⟨y, hy, e⟩ := List.mem_map.1 (List.mem_of_mem_drop (List.mem_of_mem_take h2))
                rw [← e]
                exact hlens y hy)
              hAt.row
              (by
                have := (hrl.below hoa.below).more hoa.below.size
                rw [show cR (ys.take ln) = (cR ys).take ln by simp [cR, List.map_take]]
                exact this.take _)
              hAt.bods
              (fun y hy => ((hbd y (List.mem_of_mem_take hy)).below hoa.below).more hoa.below.size)
            have HB := Lib.hid hoa.below
            have HSD := Lib.hid hoa.sd
            clear g4 g7 g5 g6 hAt hzs hoa ho hzl hzn
            go_wp2_with fail
            refine hsl.mono ?_
            rintro e ws ⟨rfl, q, rfl⟩
            have hnx := snext_any _ (HSD.out.go (bDrewN (Below.refl _ _) q))
            rw [HG7.out, show ((0 + 1 + ln : Nat) : Int) = (ln : Int) + 1 by omega] at hnx
            have HB2 := Lib.hid (bDrewN HB.out q)
            clear hsl
            generalize wa.drewN q = wz at *
            go_wp2_with fail
            refine hnx.mono ?_
            rintro e w7 ⟨rfl, hw⟩
            rw [hw]
            clear hw w7 hnx
            go_wp2
            go_returns
            exact ⟨by simp, HB2.out⟩
          · skip
            obtain ⟨q0, hq0, hq1⟩ : ∃ q0, Xf.sn.upto = q0 + 1 ∧ 1 ≤ q0 := ⟨Xf.sn.upto - 1, by omega, by omega⟩
            have hsn : Calls Tryz.prog 9 #[.pointer (some ⟨sto, 0, none⟩)] wo fun e w' => ∃ v, e = .returned (.tuple #[v, .int .u64 ((q0 : Int) + 1), .bool true]) ∧ w'.ownsRow wo.heap.size 5 1 v 1 (c8 [(q0 : Int)]) ∧ Below wo.heap.size wo w' := by
              have := ssnap_any wo ho.sd (by rw [e3]; simp)
              rw [e3, e1, hq0] at this
              exact this
            rw [hq0] at f4 f5 f6 f7
            have g4 : sSince Xf = ((ys.map RcM.r).drop q0).take ln := f4
            have g5 : m' ≤ q0 + ln := f5
            have g6 : q0 + ln ≤ a' := f6
            have g7 : Xf.J.next = q0 + 1 + ln := f7
            clear f4 f5 f6 f7 e1 e2 e3 hq0
            have hq3 : (0 : Int) < (q0 : Int) := by omega
            have hq4 : (q0 : Int) ≤ 100 := by omega
            go_wp2_with fail
            refine hsn.mono ?_
            rintro e wo2 ⟨v, rfl, hown, hbn⟩
            obtain ⟨gb, cb, rfl, hgb, hcb1, _⟩ := row_block hown (by omega)
            have hcb := (row_cell (i := 0) hown hgb (show (c8 [(q0 : Int)])[0]? = some (.int .u8 q0) from rfl)).1
            have hgl := (ownRow_block hown hgb).2.1
            have ho := ho.go hbn
            have hsc := hsc wo2 ho.sd
            clear hsn hown hbn hgb
            go_wp2_with fail
            refine hsc.mono ?_
            rintro e wa ⟨Aa, ca, zs, rfl, hzs, hAt⟩
            have hoa := ho.go hAt.below
            have hcb : wa.cell? ⟨gb, 0, none⟩ = some (.int .u8 q0) := by rw [hAt.below.cell (p := ⟨gb, 0, none⟩) hgl]; exact hcb
            have HG7 := Lib.hid g7
            clear hsc hnx
            have hzl : zs.length = ln := by
              have := congrArg List.length hzs
              rw [List.length_map, HLN.out] at this
              exact this
            have hzn : q0 + ln ≤ n := by omega
            rw [hzl]
            first
              | (obtain ⟨ad, rfl⟩ : ∃ ad, Al = some ad := by
                  obtain ⟨ad, e, _⟩ := hrl (by
                    intro e
                    have := congrArg List.length e
                    simp [cR] at this
                    rw [this] at hn
                    simp at hn
                    omega)
                  exact ⟨ad, e⟩)
              | skip
            have hzc : (q0 : Int) + (ln : Int) ≤ cl := by omega
            have hmz : (m' : Int) ≤ (q0 : Int) + ln := by omega
            have hza : (q0 : Int) + (ln : Int) ≤ a' := by omega
            have hq5 : (q0 : Int) ≤ (q0 : Int) + ln := by omega
            have hq6 : (0 : Int) ≤ (q0 : Int) + ln := by omega
            have hln2 : (ln : Int) ≤ 100 := by omega
            have HB := Lib.hid hoa.below
            have HSD := Lib.hid hoa.sd
            have HG4 := Lib.hid g4
            have HGG := Lib.hid (And.intro hAt hzs)
            have HZL := Lib.hid hzl
            clear g4 g7 g5 g6 hAt hzs hoa ho hzl hgl
            have hsl := fun (A' : Option Addr) (c' : Nat) (hr' : Rds wa wa.heap.size A' (cR ((ys.drop q0).take ln))) => sameLists_yes Aa A' zs ((ys.drop q0).take ln) ln ln ca c' wa.heap.size wa HZL.out (by rw [List.length_take, List.length_drop]; omega) (by omega)
              (by rw [HGG.out.2, HG4.out, List.map_take, List.map_drop])
              (fun x hx => by
                have h2 : x.r ∈ sSince Xf := by rw [← HGG.out.2]; exact List.mem_map_of_mem hx
                rw [HG4.out] at h2
                obtain ⟨y, hy, e⟩ := List.mem_map.1 (List.mem_of_mem_drop (List.mem_of_mem_take h2))
                rw [← e]
                exact hlens y hy)
              HGG.out.1.row hr' HGG.out.1.bods
              (fun y hy => ((hbd y (List.mem_of_mem_drop (List.mem_of_mem_take hy))).below HB.out).more HB.out.size)
            have hcR : cR ((ys.drop q0).take ln) = ((cR ys).drop q0).take ln := by simp [cR, List.map_take, List.map_drop]
            by_cases hcq : cl = q0
            · have hsl := hsl (some ad) 0 (fun hne => by
                exfalso
                apply hne
                have : ln = 0 := by omega
                rw [this]
                rfl)
              clear hcR
              go_wp2_with fail
              refine hsl.mono ?_
              rintro e ws ⟨rfl, q, rfl⟩
              have hnx := snext_any _ (HSD.out.go (bDrewN (Below.refl _ _) q))
              rw [HG7.out, show ((q0 + 1 + ln : Nat) : Int) = (q0 : Int) + (ln : Int) + 1 by omega] at hnx
              have HB2 := Lib.hid (bDrewN HB.out q)
              clear hsl
              generalize wa.drewN q = wz at *
              go_wp2_with fail
              refine hnx.mono ?_
              rintro e w7 ⟨rfl, hw⟩
              rw [hw]
              clear hw w7 hnx
              go_wp2
              go_returns
              exact ⟨by simp, HB2.out⟩
            · have hsl := hsl (some (ad.add q0)) (cl - q0) (by
                rw [hcR]
                exact ((hrl.below HB.out).more HB.out.size).part q0 ln)
              clear hcR
              go_wp2_with fail
              refine hsl.mono ?_
              rintro e ws ⟨rfl, q, rfl⟩
              have hnx := snext_any _ (HSD.out.go (bDrewN (Below.refl _ _) q))
              rw [HG7.out, show ((q0 + 1 + ln : Nat) : Int) = (q0 : Int) + (ln : Int) + 1 by omega] at hnx
              have HB2 := Lib.hid (bDrewN HB.out q)
              clear hsl
              generalize wa.drewN q = wz at *
              go_wp2_with fail
              refine hnx.mono ?_
              rintro e w7 ⟨rfl, hw⟩
              rw [hw]
              clear hw w7 hnx
              go_wp2
              go_returns
              exact ⟨by simp, HB2.out⟩
        · rw [show dCrash D' ks = (2, D') by unfold dCrash; rw [if_pos hneg]] at hcr
          refine hcr.mono ?_
          rintro e wc ⟨rfl, Sc, hkc, hbc, hSc⟩
          clear hcr
          have hfn := fine_no Ak ks nk ck w.heap.size wc hnk hnkl (hrk.below hbc) hneg
          have HB := Lib.hid hbc
          clear hkc hSc hbc hneg hO hA
          go_wp2_with fail
          refine hfn.mono ?_
          rintro e wd ⟨rfl, q, rfl⟩
          clear hfn
          go_wp2
          go_returns
          exact ⟨by simp, bDrewN HB.out q⟩
  · have hnb : (100 : Int) < (n : Int) := by omega
    clear hbyt hlens hbd hk64
    go_wp2
    go_returns
    exact ⟨by simp, hb2'⟩
end Go.Proofs.YtbobakfcmkaijaaGreatDoor
end
