/- The stage's theorem: behind a crash at any step every record that was synced is there, whole and in order, and none that was not appended. -/
import Derived.Test.YtfiebjfdlplpjaaGreatDoorM17
import Derived.Test.YtfiebjfdlplpjaaGreatDoorM18
namespace Go.Proofs.YtfiebjfdlplpjaaGreatDoor
open Go.RowKit
set_option linter.unusedVariables false

theorem cellsN : Tryz.prog.cellsOf 3 = 1 := by kernel_rfl
theorem bytesN : Tryz.prog.bytesOf 3 = 8 := by kernel_rfl
abbrev dBig : Dsk := dNew 1048576
def dBigF (r : Nat) : Dsk := (dFuse dBig r).2
theorem dBigF_ok (r : Nat) : dFuse dBig r = (0, dBigF r) := by
  unfold dBigF dFuse
  rw [if_neg (show ¬ dBig.off = true by decide), if_neg (show ¬ (r : Int) < 0 by omega)]
theorem dBigF_eq (r : Nat) : dBigF r = { dBig with fuse := r } := by
  unfold dBigF dFuse
  rw [if_neg (show ¬ dBig.off = true by decide), if_neg (show ¬ (r : Int) < 0 by omega)]
theorem dBigF_st (r : Nat) (hr : r < 400) : St5 lLog (dBigF r) (jnOf []) [] 0 := by
  refine ⟨fuse_inv (new_inv 1048576 (by decide)) (by omega), ?_, .inl ⟨?_, rfl, rfl, rfl⟩⟩
  · rw [dBigF_eq]; rfl
  · rw [dBigF_eq]; exact ⟨rfl, rfl⟩
/-- within the loop: i records appended, m of them sure -/
structure Lp (D : Dsk) (J : Jn) (M : List (List Int)) (i m : Nat) : Prop where
  st : St5 lLog D J (M.take i) m
  le : m ≤ i
  used : used D.files ≤ i * 3012
  room : D.room = 1048576
  steps : D.steps ≤ i * 3020
  small : ∀ b ∈ M.take i, b.length ≤ 3000
/-- behind the loop -/
structure Out5 (D : Dsk) (M : List (List Int)) (m a : Nat) : Prop where
  lost : Lost lLog D M m a
  inv : Inv D
  room : 2 * used D.files ≤ D.room
  steps : D.steps ≤ 1000000
  le : a ≤ 120

set_option maxHeartbeats 8000000 in
set_option maxRecDepth 10000 in
theorem jcrash_walk (Al As Ak : Option Addr) (ys : List RcM) (bs : List Bool) (ks : List Int) (n cl ns cs nk ck : Nat) (fu : Int) (w : World) (hp : Pow w) (hn : ys.length = n) (hnl : n ≤ 9223372036854775807) (hncl : n ≤ cl) (hbyt : ∀ y ∈ ys, Byt y.r) (hlens : ∀ y ∈ ys, y.r.length ≤ 9223372036854775807) (hrl : Rds w w.heap.size Al (cR ys)) (hbd : ∀ y ∈ ys, Rds w w.heap.size y.A (c8 y.r))
    (hns : bs.length = ns) (hrs : Rds w w.heap.size As (cO bs)) (hnk : ks.length = nk) (hnkl : nk ≤ 9223372036854775807) (hk64 : ∀ z ∈ ks, z ≤ 9223372036854775807) (hrk : Rds w w.heap.size Ak (cN ks)) (hfu : -9223372036854775808 ≤ fu ∧ fu ≤ 9223372036854775807) :
    Calls Tryz.prog 5 #[.slice Al n cl, .slice As ns cs, .int .i64 fu, .slice Ak nk ck] w fun e w' => e = .returned (.bool true) ∧ Below w.heap.size w w' := by
  have hlv := lives5_any w hp
  go_enter Tryz.func5, Tryz.ntmps5
  go_wp2_with fail
  refine hlv.mono ?_
  rintro e w1 ⟨rfl, hb1⟩
  clear hlv
  go_wp2_with fail
  refine (new_any 1048576 (by decide) w1).mono ?_
  rintro e w2 ⟨S2, d, rfl, hk2, hb2, hS2⟩
  have hb2' := hb1.trans (hb2.mono hb1.size)
  have hS2' : ∀ k, S2 k → w.heap.size ≤ k := fun k hk => Nat.le_trans hb1.size (hS2 k hk)
  clear hb1 hb2 hS2
  by_cases hbig : n ≤ 120
  · have hnb : ¬ (120 : Int) < (n : Int) := by omega
    have hop := at_open w2 hb2' hk2 hS2' hp (new_inv 1048576 (by decide)) rfl (by decide) (by rw [(bare_new 1048576).open_.1])
    rw [(bare_new 1048576).open_.1, (bare_new 1048576).open_.2] at hop
    clear hk2 hb2' hS2'
    go_wp2_with fail
    refine hop.mono ?_
    rintro e w3 ⟨j, S3, T3, rfl, h3⟩
    clear hop
    have hpk := pick_any fu 400 w3 (by decide) (by decide) hfu
    go_wp2_with fail
    refine hpk.mono ?_
    rintro e w4 ⟨⟨r, rfl, hr⟩, hw4⟩
    rw [hw4]
    clear hw4 w4 hpk
    have hr4 : r < 400 := by omega
    have hfz := at_fuse h3 (r : Int)
    rw [dBigF_ok] at hfz
    clear h3
    go_wp2_with fail
    refine hfz.mono ?_
    rintro e w4 ⟨rfl, h4⟩
    clear hfz
    have hlp0 : Lp (dBigF r) (jnOf []) (ys.map RcM.r) 0 0 := ⟨dBigF_st r hr4, Nat.le_refl _, by rw [dBigF_eq]; exact Nat.le_refl _, by rw [dBigF_eq]; rfl, by rw [dBigF_eq]; exact Nat.le_refl _, (fun b hb => by cases hb)⟩
    generalize dBigF r = D0' at *
    go_wp2_with fail
    go_loopw [12, 13, 14] (fun s a i wr => ∃ (k m : Nat) (S T : Nat → Prop) (D : Dsk) (J : Jn), k ≤ n ∧ i = .int .i64 k ∧ s = .int .i64 m ∧ a = .int .i64 k ∧ At5 w wr S T j d D J ∧ Lp D J (ys.map RcM.r) k m) (fun s a i _ => n - (intOf i).toNat)
    case atStart => exact ⟨0, 0, _, _, _, _, Nat.zero_le _, rfl, rfl, rfl, h4, hlp0⟩
    case round =>
      obtain ⟨k, m, S, T, D, J, hk, rfl, rfl, rfl, hA0, hlp⟩ := hrel
      clear h4 hlp0
      by_cases hlt : k < n
      · have hky : k < ys.length := by omega
        obtain ⟨ad, rfl, _, hc0⟩ := ((hrl.below hA0.below).more hA0.below.size).at_ (cR_get hky)
        obtain ⟨hrg, hout⟩ := hA0.arg (hbd _ (List.getElem_mem hky))
        have hbg := hbyt _ (List.getElem_mem hky)
        have hMk : (ys.map RcM.r)[k]? = some ys[k].r := by simp [hky]
        unfold RcM.v at hc0
        generalize hyr : ys[k].r = b at *
        generalize ys[k].A = Ab at *
        generalize ys[k].c = cb at *
        by_cases hsm : b.length ≤ 3000
        · have hsmn : ¬ (3000 : Int) < (b.length : Int) := by omega
          have hgood : Goodr b := ⟨hbg, by omega⟩
          have hsm' := Lib.hid hsm
          have hst := hlp.st
          have hLn : ((ys.map RcM.r).take k).length = k := by rw [List.length_take, List.length_map]; omega
          have hfit := hst.fits (by rw [hLn]; omega)
          have hu := hlp.used
          have hroom := hlp.room
          have hsteps := hlp.steps
          have hbR : used D.files + (b.length + 12) ≤ D.room := by omega
          have htold := hst.told okLog hgood hbR (by rw [hLn]; unfold maxNo; omega)
          have hap := at_append Ab b b.length cb hA0 hst.inv.ok (by omega) hfit.1 hfit.2 rfl hbg (by omega) hrg hout
          have hsp := jAppend_steps (l := lLog) hst.inv.ok J b
          go_wp2_with fail
          by_cases hgo : (jAppend lLog D J b).2.1 = 0
          · obtain ⟨hnu, hst1⟩ := hst.good hgood htold hgo
            have htk : (ys.map RcM.r).take k ++ [b] = (ys.map RcM.r).take (k + 1) := by rw [List.take_add_one, hMk]; rfl
            rw [htk] at hst1
            have hlp1 : Lp (jAppend lLog D J b).2.2.1 (jAppend lLog D J b).2.2.2 (ys.map RcM.r) (k + 1) m := by
              refine ⟨hst1, by have := hlp.le; omega, ?_, by rw [htold.1, hroom], by omega, fun y hy => ?_⟩
              · have := htold.2.1
                omega
              · rw [← htk] at hy
                rcases List.mem_append.1 hy with hy | hy
                · exact hlp.small y hy
                · obtain rfl := List.mem_singleton.1 hy
                  exact hsm'.out
            have hst4 : (jAppend lLog D J b).2.2.1.steps + 4 ≤ (k + 1) * 3020 := by omega
            rw [hgo] at hap
            refine hap.mono ?_
            rintro e wx ⟨rfl, Sx, Tx, hA1⟩
            generalize (jAppend lLog D J b).2.2.1 = D1 at *
            generalize (jAppend lLog D J b).2.2.2 = J1 at *
            generalize (jAppend lLog D J b).1 = nu at *
            clear hap hsp htold hgo hst hfit hu hroom hsteps hbR hLn hlp hA0 hgood hrg hout hbg hMk hyr htk hnu hst1 hc0 hsmn hsm
            by_cases hkb : k < ns
            · have hkbi : (k : Int) < (ns : Int) := by omega
              have hkb2 : k < bs.length := by omega
              obtain ⟨ad2, rfl, _, hc2⟩ := ((hrs.below hA1.below).more hA1.below.size).at_ (cO_get hkb2)
              cases hbk : bs[k]
              · rw [hbk] at hc2
                go_wp2
                go_roundw
                case rel => exact ⟨k + 1, m, _, _, _, _, by omega, by go_num, rfl, by go_num, hA1, hlp1⟩
                case measure => simp [intOf]; omega
              · rw [hbk] at hc2
                have hst1 := hlp1.st
                have hLn : ((ys.map RcM.r).take (k + 1)).length = k + 1 := by rw [List.length_take, List.length_map]; omega
                have hfit := hst1.fits (by rw [hLn]; omega)
                have hu := hlp1.used
                have hroom := hlp1.room
                have hsteps := hlp1.steps
                have hsy := at_sync hA1 (okd_room hst1.inv.ok (by omega)) hfit.1
                have hsp := jSync_steps (l := lLog) hst1.inv.ok J1
                have hinv := jSync_inv (l := lLog) (J := J1) hst1.inv
                obtain ⟨hus, hro, hcase⟩ := hst1.sync okLog
                rw [hLn] at hcase
                go_wp2_with fail
                rcases hcase with ⟨h0, hst2⟩ | ⟨h10, hls⟩
                · have hlp2 : Lp (jSync lLog D1 J1).2.1 (jSync lLog D1 J1).2.2 (ys.map RcM.r) (k + 1) (k + 1) := ⟨hst2, Nat.le_refl _, by omega, by omega, by omega, hlp1.small⟩
                  rw [h0] at hsy
                  refine hsy.mono ?_
                  rintro e wy ⟨rfl, Sy, hA2⟩
                  generalize (jSync lLog D1 J1).2.1 = D2 at *
                  generalize (jSync lLog D1 J1).2.2 = J2 at *
                  clear hsy hsp hus hro h0 hst2 hinv hst1 hfit hu hroom hsteps hLn hlp1
                  go_wp2
                  go_roundw
                  case rel => exact ⟨k + 1, k + 1, _, _, _, _, by omega, by go_num, by go_num, by go_num, hA2, hlp2⟩
                  case measure => simp [intOf]; omega
                · have hlo := hls (ys.map RcM.r) rfl
                  have hO : Out5 (jSync lLog D1 J1).2.1 (ys.map RcM.r) m (k + 1) := ⟨hlo, hinv, by omega, by omega, by omega⟩
                  rw [h10] at hsy
                  refine hsy.mono ?_
                  rintro e wy ⟨rfl, Sy, hA⟩
                  generalize (jSync lLog D1 J1).2.1 = D' at *
                  generalize (jSync lLog D1 J1).2.2 = J' at *
                  clear hsy hsp hus hro h10 hls hlo hinv hst1 hfit hu hroom hsteps hLn hlp1
                  obtain ⟨a', ha'⟩ : ∃ x, x = k + 1 := ⟨_, rfl⟩
                  have hka : (k : Int) + 1 = (a' : Nat) := by omega
                  rw [← ha'] at hO
                  obtain ⟨m', rfl⟩ : ∃ x, x = m := ⟨_, rfl⟩
                  clear ha'
                  have hcr := at_crash hA Ak ks nk ck (okd_room hO.inv.ok (by have := hO.steps; omega)) hO.inv.ok hnk hnkl hk64 hrk
                  go_wp2_with fail
                  cases hneg : ks.any (fun k => decide (k < 0))
                  · rw [dCrash_ok hneg] at hcr
                    have hfi := fallen_inv hO.inv hneg
                    have hfd := hO.lost.found hO.inv hneg okLog hO.room
                    have hst : (fallen D' ks).steps ≤ 1048576 := by have := hO.steps; show D'.steps ≤ _; omega
                    refine hcr.mono ?_
                    rintro e wc ⟨rfl, Sc, hkc, hbc, hSc⟩
                    clear hcr
                    have hop := at_open wc hbc hkc hSc hp hfi rfl hst hfd.1
                    obtain ⟨hft, hls⟩ := opened_fits (l := lLog) hfi hst
                    have hF := hfd.2
                    have hle := hO.le
                    clear hfd hfi hst hkc hbc hSc hneg hO hA
                    generalize (jOpen lLog (fallen D' ks)).2 = Df at *
                    generalize opened lLog (fallen D' ks) = Jf at *
                    go_wp2_with fail
                    refine hop.mono ?_
                    rintro e wo ⟨jo, So, To, rfl, ho⟩
                    clear hop
                    have hAll := jall_any wo ho.jd hft (by have := hF.len2; omega) (fun x hx r hr => by have := hls x hx r hr; omega)
                    clear hft hls
                    go_wp2_with fail
                    refine hAll.mono ?_
                    rintro e wa ⟨v, zs, rfl, hzs, hAt⟩
                    clear hAll
                    obtain ⟨Aa, ca, rfl⟩ := row_any hAt.row
                    have hzl : (jAll Jf).length = zs.length := by rw [← hzs, List.length_map]
                    obtain ⟨hf1, hf2, hf3, hf4, hf5⟩ := hF
                    rw [hzl] at hf1 hf2 hf3 hf5
                    have hzn : zs.length ≤ n := by
                      have := congrArg List.length hf3
                      rw [hzl, List.length_take, List.length_map] at this
                      omega
                    have hzc : (zs.length : Int) ≤ cl := by omega
                    have hmz : (m' : Int) ≤ zs.length := by omega
                    have hza : (zs.length : Int) ≤ a' := by omega
                    have hb0 := ho.below.trans (hAt.below.mono ho.below.size)
                    have hsl := sameLists_yes Aa _ zs (ys.take zs.length) zs.length zs.length ca cl wa.heap.size wa rfl (by rw [List.length_take]; omega) (by omega)
                      (by rw [hzs, hf3, List.map_take])
                      (fun x hx => by
                        have h1 := hAt.bods x hx
                        have h2 : x.r ∈ jAll Jf := by rw [← hzs]; exact List.mem_map_of_mem hx
                        rw [hf3] at h2
                        obtain ⟨y, hy, e⟩ := List.mem_map.1 (List.mem_of_mem_take h2)
                        rw [← e]
                        exact hlens y hy)
                      (Rds.ofOwn hAt.row)
                      (by
                        have := (hrl.below hb0).more hb0.size
                        rw [show cR (ys.take zs.length) = (cR ys).take zs.length by simp [cR, List.map_take]]
                        exact this.take _)
                      (fun x hx => Rds.ofOwn (hAt.bods x hx))
                      (fun y hy => ((hbd y (List.mem_of_mem_take hy)).below hb0).more hb0.size)
                    have hjd := ho.jd.go hAt.below
                    have HB := Lib.hid hb0
                    have HF3 := Lib.hid hf3
                    have HZS := Lib.hid hzs
                    clear hf3 hzs hAt ho hb0 hzl
                    go_wp2_with fail
                    refine hsl.mono ?_
                    rintro e ws ⟨rfl, q, rfl⟩
                    have hjd2 := hjd.go (bDrewN (Below.refl _ _) q)
                    have HB2 := Lib.hid (bDrewN HB.out q)
                    clear hsl hjd HB
                    generalize wa.drewN q = wz at *
                    have hfs := jfirst_any wz hjd2
                    have hnx := jnext_any wz hjd2
                    rw [hf4] at hfs
                    rw [hf5, show ((zs.length + 1 : Nat) : Int) = (zs.length : Int) + 1 by omega] at hnx
                    have hz120 : zs.length ≤ 120 := by omega
                    clear hjd2 hf4 hf5
                    go_wp2_with fail
                    refine hfs.mono ?_
                    rintro e w7 ⟨rfl, hw⟩
                    rw [hw]
                    clear hw w7 hfs
                    go_wp2_with fail
                    refine hnx.mono ?_
                    rintro e w7 ⟨rfl, hw⟩
                    rw [hw]
                    clear hw w7 hnx
                    go_wp2
                    go_returns
                    exact ⟨by simp, HB2.out⟩
                  · rw [show dCrash D' ks = (2, D') by unfold dCrash; rw [if_pos hneg]] at hcr
                    refine hcr.mono ?_
                    rintro e wc ⟨rfl, Sc, hkc, hbc, hSc⟩
                    clear hcr
                    have hfn := fine_no Ak ks nk ck w.heap.size wc hnk hnkl (hrk.below hbc) hneg
                    have HB := Lib.hid hbc
                    clear hkc hSc hbc hneg hO hA
                    go_wp2_with fail
                    refine hfn.mono ?_
                    rintro e wd ⟨rfl, q, rfl⟩
                    clear hfn
                    go_wp2
                    go_returns
                    exact ⟨by simp, bDrewN HB.out q⟩
            · have hkbi : ¬ (k : Int) < (ns : Int) := by omega
              go_wp2
              go_roundw
              case rel => exact ⟨k + 1, m, _, _, _, _, by omega, by go_num, rfl, by go_num, hA1, hlp1⟩
              case measure => simp [intOf]; omega
          · obtain ⟨h10, hpart⟩ := hst.bad htold hgo
            have hinv := jAppend_inv (l := lLog) (J := J) hst.inv hgood
            have hO : Out5 (jAppend lLog D J b).2.2.1 (ys.map RcM.r) m (k + 1) := by
              refine ⟨hpart.lost rfl (by simpa using hky) ?_, hinv, ?_, ?_, ?_⟩
              · simpa using hyr.symm
              · rw [htold.1]
                have := htold.2.1
                omega
              · omega
              · omega
            rw [h10] at hap
            refine hap.mono ?_
            rintro e wx ⟨rfl, Sx, Tx, hA⟩
            generalize (jAppend lLog D J b).2.2.1 = D' at *
            generalize (jAppend lLog D J b).2.2.2 = J' at *
            generalize (jAppend lLog D J b).1 = nu at *
            clear hap hsp htold hpart hinv hgo h10 hst hfit hu hroom hsteps hbR hLn hlp hA0 hgood hrg hout hbg hMk hyr
            obtain ⟨a', ha'⟩ : ∃ x, x = k + 1 := ⟨_, rfl⟩
            have hka : (k : Int) + 1 = (a' : Nat) := by omega
            rw [← ha'] at hO
            obtain ⟨m', rfl⟩ : ∃ x, x = m := ⟨_, rfl⟩
            clear ha'
            have hcr := at_crash hA Ak ks nk ck (okd_room hO.inv.ok (by have := hO.steps; omega)) hO.inv.ok hnk hnkl hk64 hrk
            go_wp2_with fail
            cases hneg : ks.any (fun k => decide (k < 0))
            · rw [dCrash_ok hneg] at hcr
              have hfi := fallen_inv hO.inv hneg
              have hfd := hO.lost.found hO.inv hneg okLog hO.room
              have hst : (fallen D' ks).steps ≤ 1048576 := by have := hO.steps; show D'.steps ≤ _; omega
              refine hcr.mono ?_
              rintro e wc ⟨rfl, Sc, hkc, hbc, hSc⟩
              clear hcr
              have hop := at_open wc hbc hkc hSc hp hfi rfl hst hfd.1
              obtain ⟨hft, hls⟩ := opened_fits (l := lLog) hfi hst
              have hF := hfd.2
              have hle := hO.le
              clear hfd hfi hst hkc hbc hSc hneg hO hA
              generalize (jOpen lLog (fallen D' ks)).2 = Df at *
              generalize opened lLog (fallen D' ks) = Jf at *
              go_wp2_with fail
              refine hop.mono ?_
              rintro e wo ⟨jo, So, To, rfl, ho⟩
              clear hop
              have hAll := jall_any wo ho.jd hft (by have := hF.len2; omega) (fun x hx r hr => by have := hls x hx r hr; omega)
              clear hft hls
              go_wp2_with fail
              refine hAll.mono ?_
              rintro e wa ⟨v, zs, rfl, hzs, hAt⟩
              clear hAll
              obtain ⟨Aa, ca, rfl⟩ := row_any hAt.row
              have hzl : (jAll Jf).length = zs.length := by rw [← hzs, List.length_map]
              obtain ⟨hf1, hf2, hf3, hf4, hf5⟩ := hF
              rw [hzl] at hf1 hf2 hf3 hf5
              have hzn : zs.length ≤ n := by
                have := congrArg List.length hf3
                rw [hzl, List.length_take, List.length_map] at this
                omega
              have hzc : (zs.length : Int) ≤ cl := by omega
              have hmz : (m' : Int) ≤ zs.length := by omega
              have hza : (zs.length : Int) ≤ a' := by omega
              have hb0 := ho.below.trans (hAt.below.mono ho.below.size)
              have hsl := sameLists_yes Aa _ zs (ys.take zs.length) zs.length zs.length ca cl wa.heap.size wa rfl (by rw [List.length_take]; omega) (by omega)
                (by rw [hzs, hf3, List.map_take])
                (fun x hx => by
                  have h1 := hAt.bods x hx
                  have h2 : x.r ∈ jAll Jf := by rw [← hzs]; exact List.mem_map_of_mem hx
                  rw [hf3] at h2
                  obtain ⟨y, hy, e⟩ := List.mem_map.1 (List.mem_of_mem_take h2)
                  rw [← e]
                  exact hlens y hy)
                (Rds.ofOwn hAt.row)
                (by
                  have := (hrl.below hb0).more hb0.size
                  rw [show cR (ys.take zs.length) = (cR ys).take zs.length by simp [cR, List.map_take]]
                  exact this.take _)
                (fun x hx => Rds.ofOwn (hAt.bods x hx))
                (fun y hy => ((hbd y (List.mem_of_mem_take hy)).below hb0).more hb0.size)
              have hjd := ho.jd.go hAt.below
              have HB := Lib.hid hb0
              have HF3 := Lib.hid hf3
              have HZS := Lib.hid hzs
              clear hf3 hzs hAt ho hb0 hzl
              go_wp2_with fail
              refine hsl.mono ?_
              rintro e ws ⟨rfl, q, rfl⟩
              have hjd2 := hjd.go (bDrewN (Below.refl _ _) q)
              have HB2 := Lib.hid (bDrewN HB.out q)
              clear hsl hjd HB
              generalize wa.drewN q = wz at *
              have hfs := jfirst_any wz hjd2
              have hnx := jnext_any wz hjd2
              rw [hf4] at hfs
              rw [hf5, show ((zs.length + 1 : Nat) : Int) = (zs.length : Int) + 1 by omega] at hnx
              have hz120 : zs.length ≤ 120 := by omega
              clear hjd2 hf4 hf5
              go_wp2_with fail
              refine hfs.mono ?_
              rintro e w7 ⟨rfl, hw⟩
              rw [hw]
              clear hw w7 hfs
              go_wp2_with fail
              refine hnx.mono ?_
              rintro e w7 ⟨rfl, hw⟩
              rw [hw]
              clear hw w7 hnx
              go_wp2
              go_returns
              exact ⟨by simp, HB2.out⟩
            · rw [show dCrash D' ks = (2, D') by unfold dCrash; rw [if_pos hneg]] at hcr
              refine hcr.mono ?_
              rintro e wc ⟨rfl, Sc, hkc, hbc, hSc⟩
              clear hcr
              have hfn := fine_no Ak ks nk ck w.heap.size wc hnk hnkl (hrk.below hbc) hneg
              have HB := Lib.hid hbc
              clear hkc hSc hbc hneg hO hA
              go_wp2_with fail
              refine hfn.mono ?_
              rintro e wd ⟨rfl, q, rfl⟩
              clear hfn
              go_wp2
              go_returns
              exact ⟨by simp, bDrewN HB.out q⟩
        · have hsmn : (3000 : Int) < (b.length : Int) := by omega
          go_wp2
          go_returns
          exact ⟨by simp, hA0.below⟩
      · have hA := hA0
        have hO : Out5 D (ys.map RcM.r) m k := by
          have hL : ((ys.map RcM.r).take k).length = k := by rw [List.length_take, List.length_map]; omega
          have hlo := hlp.st.lost (M := ys.map RcM.r) (by rw [hL])
          rw [hL] at hlo
          have := hlp.used
          have := hlp.room
          have := hlp.steps
          exact ⟨hlo, hlp.st.inv, by omega, by omega, by omega⟩
        clear hlp hA0
        obtain ⟨D', rfl⟩ : ∃ x, x = D := ⟨_, rfl⟩
        obtain ⟨m', rfl⟩ : ∃ x, x = m := ⟨_, rfl⟩
        obtain ⟨a', rfl⟩ : ∃ x, x = k := ⟨_, rfl⟩
        have hcr := at_crash hA Ak ks nk ck (okd_room hO.inv.ok (by have := hO.steps; omega)) hO.inv.ok hnk hnkl hk64 hrk
        go_wp2_with fail
        cases hneg : ks.any (fun k => decide (k < 0))
        · rw [dCrash_ok hneg] at hcr
          have hfi := fallen_inv hO.inv hneg
          have hfd := hO.lost.found hO.inv hneg okLog hO.room
          have hst : (fallen D' ks).steps ≤ 1048576 := by have := hO.steps; show D'.steps ≤ _; omega
          refine hcr.mono ?_
          rintro e wc ⟨rfl, Sc, hkc, hbc, hSc⟩
          clear hcr
          have hop := at_open wc hbc hkc hSc hp hfi rfl hst hfd.1
          obtain ⟨hft, hls⟩ := opened_fits (l := lLog) hfi hst
          have hF := hfd.2
          have hle := hO.le
          clear hfd hfi hst hkc hbc hSc hneg hO hA
          generalize (jOpen lLog (fallen D' ks)).2 = Df at *
          generalize opened lLog (fallen D' ks) = Jf at *
          go_wp2_with fail
          refine hop.mono ?_
          rintro e wo ⟨jo, So, To, rfl, ho⟩
          clear hop
          have hAll := jall_any wo ho.jd hft (by have := hF.len2; omega) (fun x hx r hr => by have := hls x hx r hr; omega)
          clear hft hls
          go_wp2_with fail
          refine hAll.mono ?_
          rintro e wa ⟨v, zs, rfl, hzs, hAt⟩
          clear hAll
          obtain ⟨Aa, ca, rfl⟩ := row_any hAt.row
          have hzl : (jAll Jf).length = zs.length := by rw [← hzs, List.length_map]
          obtain ⟨hf1, hf2, hf3, hf4, hf5⟩ := hF
          rw [hzl] at hf1 hf2 hf3 hf5
          have hzn : zs.length ≤ n := by
            have := congrArg List.length hf3
            rw [hzl, List.length_take, List.length_map] at this
            omega
          have hzc : (zs.length : Int) ≤ cl := by omega
          have hmz : (m' : Int) ≤ zs.length := by omega
          have hza : (zs.length : Int) ≤ a' := by omega
          have hb0 := ho.below.trans (hAt.below.mono ho.below.size)
          have hsl := sameLists_yes Aa _ zs (ys.take zs.length) zs.length zs.length ca cl wa.heap.size wa rfl (by rw [List.length_take]; omega) (by omega)
            (by rw [hzs, hf3, List.map_take])
            (fun x hx => by
              have h1 := hAt.bods x hx
              have h2 : x.r ∈ jAll Jf := by rw [← hzs]; exact List.mem_map_of_mem hx
              rw [hf3] at h2
              obtain ⟨y, hy, e⟩ := List.mem_map.1 (List.mem_of_mem_take h2)
              rw [← e]
              exact hlens y hy)
            (Rds.ofOwn hAt.row)
            (by
              have := (hrl.below hb0).more hb0.size
              rw [show cR (ys.take zs.length) = (cR ys).take zs.length by simp [cR, List.map_take]]
              exact this.take _)
            (fun x hx => Rds.ofOwn (hAt.bods x hx))
            (fun y hy => ((hbd y (List.mem_of_mem_take hy)).below hb0).more hb0.size)
          have hjd := ho.jd.go hAt.below
          have HB := Lib.hid hb0
          have HF3 := Lib.hid hf3
          have HZS := Lib.hid hzs
          clear hf3 hzs hAt ho hb0 hzl
          go_wp2_with fail
          refine hsl.mono ?_
          rintro e ws ⟨rfl, q, rfl⟩
          have hjd2 := hjd.go (bDrewN (Below.refl _ _) q)
          have HB2 := Lib.hid (bDrewN HB.out q)
          clear hsl hjd HB
          generalize wa.drewN q = wz at *
          have hfs := jfirst_any wz hjd2
          have hnx := jnext_any wz hjd2
          rw [hf4] at hfs
          rw [hf5, show ((zs.length + 1 : Nat) : Int) = (zs.length : Int) + 1 by omega] at hnx
          have hz120 : zs.length ≤ 120 := by omega
          clear hjd2 hf4 hf5
          go_wp2_with fail
          refine hfs.mono ?_
          rintro e w7 ⟨rfl, hw⟩
          rw [hw]
          clear hw w7 hfs
          go_wp2_with fail
          refine hnx.mono ?_
          rintro e w7 ⟨rfl, hw⟩
          rw [hw]
          clear hw w7 hnx
          go_wp2
          go_returns
          exact ⟨by simp, HB2.out⟩
        · rw [show dCrash D' ks = (2, D') by unfold dCrash; rw [if_pos hneg]] at hcr
          refine hcr.mono ?_
          rintro e wc ⟨rfl, Sc, hkc, hbc, hSc⟩
          clear hcr
          have hfn := fine_no Ak ks nk ck w.heap.size wc hnk hnkl (hrk.below hbc) hneg
          have HB := Lib.hid hbc
          clear hkc hSc hbc hneg hO hA
          go_wp2_with fail
          refine hfn.mono ?_
          rintro e wd ⟨rfl, q, rfl⟩
          clear hfn
          go_wp2
          go_returns
          exact ⟨by simp, bDrewN HB.out q⟩
  · have hnb : (120 : Int) < (n : Int) := by omega
    clear hbyt hlens hbd hk64
    go_wp2
    go_returns
    exact ⟨by simp, hb2'⟩

open Go.ChangeShapes Go.WideShapes Go.ChangeAt
set_option maxRecDepth 100000 in
theorem jcrash_contract (H : Type) (enc : TypeId × Value → H) (W : World) (base : Nat) (args : Array Value) (ds gs : List (DataW H)) (before : List MemPlace)
    (hval0 : ∀ (j : Nat) t v, Tryz.f5.params[j]? = some t → args[j]? = some v → Value.okWide Tryz.prog W .any base t v)
    (hW : DataW.Whole enc Tryz.prog Tryz.f5.params.toList Rows.journalCrashSpec.vars false W args.toList ds gs before) (hsz : (DataW.weightsEach Tryz.prog (Tryz.f5.params.toList ++ Rows.journalCrashSpec.plain.varTypes Tryz.prog) (ds ++ gs)).all (· ≤ reachBytes) = true) (hp : Pow W) :
    Calls Tryz.prog 5 args W fun e W2 => ∃ v, e = .returned v ∧ Rows.journalCrashSpec.post enc Tryz.prog Tryz.f5 false true false false W args v W2 := by
  have hval : ∀ (j : Nat) t v, Tryz.f5.params[j]? = some t → args[j]? = some v → Value.okWide Tryz.prog W .any base t v := hval0
  have hW' := hW
  obtain ⟨p, q, hA0, hV, rfl, _, _⟩ := hW
  have hA : DataW.TrodAll enc Tryz.prog W 0 (fun _ => true) true Tryz.f5.params.toList args.toList ds p := hA0
  rw [Tryz.params5] at hA hval hsz
  obtain ⟨v0, vs0, d0, ds0, p0, q0, hargs, rfl, rfl, h0, r0⟩ := trodAll_cons hA
  obtain ⟨v1, vs1, d1, ds1, p1, q1, rfl, rfl, rfl, h1, r1⟩ := trodAll_cons r0
  obtain ⟨v2, vs2, d2, ds2, p2, q2, rfl, rfl, rfl, h2, r2⟩ := trodAll_cons r1
  obtain ⟨v3, vs3, d3, ds3, p3, q3, rfl, rfl, rfl, h3, r3⟩ := trodAll_cons r2
  obtain ⟨rfl, rfl, rfl⟩ := trodAll_nil r3
  obtain rfl : args = #[v0, v1, v2, v3] := by cases args; simp_all
  obtain ⟨A0, ys0, c0, hy0⟩ := open_lists (hval 0 37 v0 rfl rfl) h0
  obtain rfl := hy0.val
  obtain ⟨A1, bs1, c1, ho1⟩ := open_bools (hval 1 54 v1 rfl rfl) h1
  obtain rfl := ho1.val
  obtain ⟨a2, rfl, rfl, rfl, w2⟩ := open_int Tryz.underlying3 (hval 2 3 v2 rfl rfl) h2
  have b2 := bounds_i64 w2
  obtain ⟨A3, zs3, c3, hn3⟩ := open_nums Tryz.underlying55 Tryz.underlying3 cellsN (hval 3 55 v3 rfl rfl) h3
  have hl3 := hn3.reach hsz (j := 3) (t := 55) (e := 3) rfl rfl Tryz.underlying55 bytesN
  obtain rfl := hn3.val
  exact law_close laid rfl hW' (by kernel_rfl) rfl Tryz.underlying4 rfl (jcrash_walk A0 A1 A3 ys0 bs1 zs3 ys0.length c0 bs1.length c1 zs3.length c3 a2 W hp rfl hy0.len hy0.cap hy0.byt hy0.lens hy0.rds hy0.bods rfl ho1.rds rfl (by have := hn3.cap; have := hn3.capMax; unfold maxLen at this; omega) (fun z hz => (hn3.i64 z hz).2) hn3.rds b2)

theorem jcrash_reads (os : Os) {H : Type} (enc : TypeId × Value → H) : ∃ places, DataW.whole enc Tryz.prog ((laidWorld os).forCall (fun _ _ => 0) ⟨#[], #[.slice none 0 0, .slice none 0 0, .int .i64 0, .slice none 0 0], []⟩).memory Tryz.f5.params.toList Rows.journalCrashSpec.vars false (#[.slice none 0 0, .slice none 0 0, .int .i64 0, .slice none 0 0] : Array Value).toList 8 = some ([.nil, .nil, .lit (.int .i64 0), .nil], [], places) :=
  ⟨[], by kernel_rfl⟩

set_option maxRecDepth 100000 in
theorem jcrash_lifted (os : Os) (started : os.Started) (H : Type) (enc : TypeId × Value → H) (F : Stop.Interp) :
    ReturnsInHanded {} Tryz.checked os 5 .any ((OpenSpec.ofChange Rows.journalCrashSpec).preRow enc Tryz.prog Tryz.f5 Rows.journalCrashRow.domain false Rows.journalCrashRow.laid) (((OpenSpec.ofChange Rows.journalCrashSpec).at F).post enc Tryz.prog Tryz.f5 false true false false) := by
  obtain ⟨places, hx⟩ := jcrash_reads os enc
  refine returnsInHanded_of_row (C := Tryz.checked) (s := OpenSpec.ofChange Rows.journalCrashSpec) own started (by kernel_rfl) Tryz.func5
    (witness_row_at (enc := enc) (C := Tryz.checked) false (laidWorld os) #[.slice none 0 0, .slice none 0 0, .int .i64 0, .slice none 0 0] (laidWorld_os os) (by kernel_rfl) (by kernel_rfl) (by kernel_rfl)
      (OpenSpec.preRow_of_cond 8 hx (by kernel_rfl) (fun k hk => by cases hk) (by kernel_rfl) (laidWorld_met os _))) ?_
  intro W base args ds gs before hval hW _ _ hsz hL _ _
  exact jcrash_contract H enc W base args ds gs before hval hW hsz (pow_of hL)

theorem journalCrash_said : Rows.JournalCrashSaid :=
  OpenClaim.holds_of_cond 5 Tryz.f5 rfl rfl rfl rfl rfl rfl rfl ⟨rfl, rfl, rfl, rfl, rfl⟩ rfl rfl rfl rfl rfl (by kernel_rfl) Tryz.func5 (by kernel_rfl)
    (of_decide_eq_true (by kernel_rfl)) (by unfold Func.isWrapper; first | (rw [if_pos (by decide +kernel)]; kernel_rfl) | (rw [if_neg (by decide +kernel)]; exact ⟨rfl, rfl⟩))
    (fun os started H enc _ F => by rw [OpenClaim.pre_eq_preRow]; exact jcrash_lifted os started H enc F)

theorem jcrash_plain (f : FuncId) (fn : Func) (hf : Tryz.pinned.checked.prog.funcNamed "berthmaster/berthmasterlaw05.JournalCrash" = some f) (hfn : Tryz.pinned.checked.prog.funcs[f]? = some fn) :
    false = Tryz.pinned.checked.prog.looks [] ∧ ∀ (j : Nat) t, fn.params[j]? = some t → Tryz.pinned.checked.prog.wantsStandIn t = false := by
  obtain rfl : f = 5 := Option.some.inj ((show Tryz.prog.funcNamed "berthmaster/berthmasterlaw05.JournalCrash" = some 5 by kernel_rfl).symm.trans hf) |>.symm
  obtain rfl : fn = Tryz.f5 := (Option.some.inj (Tryz.func5.symm.trans hfn)).symm
  refine ⟨by kernel_rfl, fun j t ht => ?_⟩
  rw [Tryz.params5] at ht
  have hm := Array.mem_of_getElem? ht
  simp only [List.mem_toArray, List.mem_cons, List.not_mem_nil, or_false] at hm
  rcases hm with rfl | rfl | rfl | rfl
  all_goals (show Tryz.prog.wantsStandIn _ = false; kernel_rfl)

theorem journalCrash_holds : Rows.JournalCrashCardSaid :=
  Claim7.holds_tied_plain_at .later [] _ _ _ _ journalCrash_said (fun _ h => by cases h) (by kernel_rfl) (fun _ h => by cases h) journalCrash_row_tie rfl ⟨rfl, rfl⟩ (by kernel_rfl) rfl jcrash_plain (by kernel_rfl)

#print axioms journalCrash_holds
end Go.Proofs.YtfiebjfdlplpjaaGreatDoor
