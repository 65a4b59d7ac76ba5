/- The program's Crash. -/
import Derived.Test.YtnpomiidkdnebaaDLose
namespace Go.Proofs.Ytnpomiidkdnebaa
open Go.RowKit Go.Maps Go.WideMaps
set_option linter.unusedVariables false

theorem Rds.outs {w w' : World} {S : Nat → Prop} {A : Option Addr} {xs : List Value} (hr : Rds w w.heap.size A xs) (ho : Outs S w w') (hn : ∀ ad, A = some ad → xs ≠ [] → ¬ S ad.block) : Rds w' w'.heap.size A xs := by
  intro hne
  obtain ⟨ad, e, hb, hc⟩ := hr hne
  refine ⟨ad, e, Nat.lt_of_lt_of_le hb ho.size, fun j u hu => ?_⟩
  rw [ho.cell (p := ad.add j) (by rw [blk_add]; exact hb) (by rw [blk_add]; exact hn ad e hne)]
  exact hc j u hu

theorem cS_get {l : List Nm} {j : Nat} (h : j < l.length) : (cS l)[j]? = some (encStr l[j]) := by simp [cS, h]

section
variable {S : Nat → Prop} {d mb nn : Nat} {M : DataW Unit} {blk : Nm → Nat} {vs : Nm → Value} {D : Dsk}

/-- the disk's room was told too small: it is told right -/
theorem DkAt.roomy {w : World} {r : Nat} (h : DkAt w S d mb nn M blk vs { D with room := r }) (u : Int) (hu : u = left D) : DkAt (w.setCell ⟨d, 2, none⟩ (.int .i64 u)) S d mb nn M blk vs D :=
  h.head 2 _ D rfl (by simp only [topCells, left, hu]; rfl)

theorem lose_step {l : Nm} {f : Fl} (k : Int) (hk0 : 0 ≤ k) (hk1 : k ≤ 9223372036854775807) (w : World) (h : DkAt w S d mb nn M blk vs D) (hok : Okd D) (hf : find D.files l = some f) :
    Calls Try.prog 44 #[.pointer (some ⟨blk l, 0, none⟩), .int .i64 k] w.drew fun e w' => e = .returned (.int .i64 (goneOf f k)) ∧ w'.cell? ⟨d, 2, none⟩ = some (.int .i64 (left D)) ∧ w'.frozen? ⟨d, 2, none⟩ = false ∧
      ∃ S' vs', DkAt (w'.setCell ⟨d, 2, none⟩ (.int .i64 (left D + goneOf f k))) S' d mb nn M blk vs' { D with files := upd l (fun f => cutTo f k) D.files } ∧ Turn S S' w (w'.setCell ⟨d, 2, none⟩ (.int .i64 (left D + goneOf f k))) := by
  obtain ⟨hmem, hnm⟩ := find_some hf
  have hu := used_cut hok.srt hf (hok.sy f hmem) k
  have hfit := hok.fits
  refine (lose_any k hk0 hk1 w.drew (h.go (bDrewN (Below.refl _ _) 1)) hok hf).mono ?_
  rintro e w' ⟨rfl, vs', hd, ht⟩
  have hl : left { D with files := upd l (fun f => cutTo f k) D.files, room := D.room - goneOf f k } = left D := by
    simp only [left]
    omega
  refine ⟨rfl, by rw [hd.c2, hl], hd.fz 2, More S w.drew w', vs', ?_, ?_⟩
  · refine DkAt.roomy (D := { D with files := upd l (fun f => cutTo f k) D.files }) (r := D.room - goneOf f k) hd _ ?_
    simp only [left]
    omega
  · exact ⟨((Outs.refl S w).drew.trans ht.outs (fun i hi => .inl hi)).setCell (p := ⟨d, 2, none⟩) (.inl h.sd) _, ht.new⟩

set_option maxHeartbeats 4000000 in
set_option maxRecDepth 8000 in
theorem crash_any (Ak : Option Addr) (ks : List Int) (n c : Nat) (w : World) (h : Dk 0 w S d D) (hr : Room D) (hok : Okd D) (hn : ks.length = n) (hnl : n ≤ 9223372036854775807) (hk64 : ∀ z ∈ ks, z ≤ 9223372036854775807)
    (hkr : Rds w w.heap.size Ak (cN ks)) (hkS : ∀ ad, Ak = some ad → cN ks ≠ [] → ¬ S ad.block) :
    Calls Try.prog 13 #[.pointer (some ⟨d, 0, none⟩), .slice Ak n c] w fun e w' => e = .returned (.int .i64 (dCrash D ks).1) ∧ ∃ S', Dk 0 w' S' d (dCrash D ks).2 ∧ Turn S S' w w' := by
  have hcon := anyNeg_any Ak ks n c w.heap.size w hn hnl hkr
  obtain ⟨mb, nn, M, blk, vs, h, hnn⟩ := h
  have c0 := h.c0
  cases hneg : ks.any isNeg
  · have e1 : dCrash D ks = (0, { D with files := crs D.files ks, off := false, fuse := -1 }) := by
      unfold dCrash
      rw [if_neg (by show ¬ ks.any isNeg = true; rw [hneg]; decide)]
    rw [e1]
    rw [hneg] at hcon
    have hnn0 : ∀ z ∈ ks, 0 ≤ z := by
      intro z hz
      have := List.any_eq_false.1 hneg z hz
      simpa [isNeg] using this
    obtain ⟨N, hN⟩ : ∃ N, N = D.files.length := ⟨_, rfl⟩
    have hNl : (names D).length = N := by rw [hN]; simp [names]
    have HNN := Lib.hid hN
    have hsteps := hr.steps
    clear e1 hneg hN
    go_enter Try.func13, Try.ntmps13
    go_wp2_with fail
    refine (nobodys_no d w c0).mono ?_
    rintro e w0 ⟨rfl, hw0⟩
    rw [hw0]
    clear hw0 w0
    go_wp2_with fail
    refine hcon.mono ?_
    rintro e w1 ⟨rfl, q, rfl⟩
    have h1 : DkAt (w.drewN q) S d mb nn M blk vs D := h.go (bDrewN (Below.refl _ _) q)
    have hri := rising_any (w.drewN q) h1 (by omega) hok.srt
    rw [hNl] at hri
    go_wp2_with fail
    refine hri.mono ?_
    rintro e w2 ⟨v, rfl, hown, hb⟩
    have hb2 : Below w.heap.size w w2 := ⟨hb.os, hb.tape, hb.output, hb.size, hb.block⟩
    have h2 := h.go hb2
    have hkr2 := (hkr.below hb2).more hb2.size
    obtain ⟨An, cn, rfl, hnr, hNc, hcm, _⟩ := own_open hown
    have hN63 : N ≤ 9223372036854775807 := by unfold maxLen at hcm; omega
    have hnS : ∀ ad, An = some ad → cS (names D) ≠ [] → ¬ S ad.block := by
      intro ad e1 e2 e3
      have hl := h.lt _ e3
      obtain ⟨_, hx⟩ := hnr e2
      subst e1
      have := (ownRow_block hown (g := ad.block) (by
        rcases hown.2 with ⟨hv, _⟩ | ⟨g, cap, cur, hv, _⟩
        · cases hv
        · injection hv with hv
          injection hv with hv
          subst hv
          rfl)).1
      have e4 : (w.drewN q).heap.size = w.heap.size := rfl
      omega
    clear hown hcon hri h1 c0 hkr hb
    go_wp2
    go_loopw [15] (fun i wr => ∃ (k : Nat) (S' : Nat → Prop) (vs' : Nm → Value), k ≤ N ∧ i = .int .i64 k ∧ DkAt wr S' d mb nn M blk vs' { D with files := crsN k D.files ks } ∧ Turn S S' w2 wr) (fun i _ => N - (intOf i).toNat)
    case atStart => exact ⟨0, S, vs, Nat.zero_le _, rfl, by rw [crsN_zero]; exact h2, Turn.refl _ _⟩
    case round =>
      obtain ⟨k, S', vs', hk, rfl, hd, ht⟩ := hrel
      have hkr3 := hkr2.outs ht.outs hkS
      have hnr3 := hnr.outs ht.outs hnS
      by_cases hlt : k < N
      · have hkf : k < D.files.length := by rw [← HNN.out]; exact hlt
        have hkn : k < (names D).length := by rw [hNl]; exact hlt
        obtain ⟨ad, rfl, _, hcell⟩ := hnr3.at_ (cS_get hkn)
        have hnm : (names D)[k] = D.files[k].nm := by simp [names]
        have hcell' : wr.cell? (ad.add k) = some (.string ⟨(D.files[k].nm).toArray⟩) := by rw [hcell, hnm]
        have hfk := crsN_find ks hok.srt hkf
        have hokk := okd_crsN hok k ks
        have hlenN : (⟨(D.files[k].nm).toArray⟩ : ByteArray).size ≤ maxLen := by
          have h1 := (okN_len (hok.nms _ (List.getElem_mem hkf))).2
          have h2 : (⟨(D.files[k].nm).toArray⟩ : ByteArray).size = D.files[k].nm.length := by simp [ByteArray.size]
          unfold maxLen
          omega
        have hlook := look_at (hd.go (bDrewN (Below.refl _ _) 1)) ⟨(D.files[k].nm).toArray⟩ hlenN
        have hlst : lst ⟨(D.files[k].nm).toArray⟩ = D.files[k].nm := by simp [lst]
        have hfp : fptr { D with files := crsN k D.files ks } blk (D.files[k].nm) = .pointer (some ⟨blk D.files[k].nm, 0, none⟩) := by unfold fptr; rw [hfk]
        rw [hlst, hfp] at hlook
        change (Instr.lookup 52 (.map (some mb)) (.string ⟨(D.files[k].nm).toArray⟩) false).run Try.prog wr.drew = .ok (.pointer (some ⟨blk D.files[k].nm, 0, none⟩)) wr.drew at hlook
        have hkv : 0 ≤ ks.getD k 0 ∧ ks.getD k 0 ≤ 9223372036854775807 := by
          by_cases e : k < ks.length
          · rw [List.getD_eq_getElem?_getD, List.getElem?_eq_getElem e]
            exact ⟨hnn0 _ (List.getElem_mem e), hk64 _ (List.getElem_mem e)⟩
          · rw [List.getD_eq_getElem?_getD, List.getElem?_eq_none (by omega)]
            decide
        have hlo := lose_step (ks.getD k 0) hkv.1 hkv.2 wr hd hokk hfk
        have hst := crsN_step ks hok.srt hkf
        have c2 := hd.c2
        have c5 := hd.c5
        have hlt2 : k < D.files.length := hkf
        have hL := hokk.fits
        have hR := hok.room
        have hL0 : 0 ≤ left { D with files := crsN k D.files ks } := by simp only [left] at *; omega
        have hL1 : left { D with files := crsN k D.files ks } ≤ 1073741824 := by simp only [left] at *; omega
        have hG1 : goneOf D.files[k] (ks.getD k 0) ≤ 1073741824 := by
          have h1 := used_del hokk.srt hfk
          simp only [goneOf]
          simp only at h1 hL
          omega
        generalize hgf : D.files[k] = fk at *
        clear hfp hkv hlenN hlst hnm hcell hL hR hgf
        generalize left { D with files := crsN k D.files ks } = L at *
        generalize goneOf fk (ks.getD k 0) = G at *
        generalize hNM : (⟨(fk.nm).toArray⟩ : ByteArray) = NM at *
        generalize blk fk.nm = bk at *
        have HST := Lib.hid hst
        have HT := Lib.hid ht
        clear hst hNM ht hd
        by_cases hkk : k < n
        · have hkk' : k < ks.length := by omega
          have hgd : ks.getD k 0 = ks[k] := by rw [List.getD_eq_getElem?_getD, List.getElem?_eq_getElem hkk']; rfl
          obtain ⟨adk, rfl, _, hck⟩ := hkr3.at_ (cN_get hkk')
          rw [hgd] at hlo HST
          generalize ks[k] = kv at *
          go_wp2
          go_region_with (go_at_call 44; refine hlo.mono ?_; rintro e w5 ⟨rfl, d2, g2, S5, vs5, hd5, ht5⟩)
          all_goals (
            have HD5 := Lib.hid hd5
            have HT5 := Lib.hid ht5
            clear hd5 ht5 hlo hlook
            go_wp2
            go_roundw
            case rel => exact ⟨k + 1, S5, vs5, by omega, by go_num, by rw [← HST.out]; exact HD5.out, HT.out.trans HT5.out⟩
            case measure => simp [intOf]; omega)
        · have hgd : ks.getD k 0 = 0 := by rw [List.getD_eq_getElem?_getD, List.getElem?_eq_none (by omega)]; rfl
          rw [hgd] at hlo HST
          go_wp2
          go_region_with (go_at_call 44; refine hlo.mono ?_; rintro e w5 ⟨rfl, d2, g2, S5, vs5, hd5, ht5⟩)
          all_goals (
            have HD5 := Lib.hid hd5
            have HT5 := Lib.hid ht5
            clear hd5 ht5 hlo hlook
            go_wp2
            go_roundw
            case rel => exact ⟨k + 1, S5, vs5, by omega, by go_num, by rw [← HST.out]; exact HD5.out, HT.out.trans HT5.out⟩
            case measure => simp [intOf]; omega)
      · have hkN : k = N := by omega
        have hkN2 : crsN k D.files ks = crs D.files ks := by rw [hkN, HNN.out]; exact crsN_all _ _
        rw [hkN2] at hd
        have c1 := hd.c1
        have c3 := hd.c3
        have f1 := hd.fz 1
        have f3 := hd.fz 3
        have hfin : ∃ S'', Dk 0 ((wr.setCell ⟨d, 1, none⟩ (.bool false)).setCell ⟨d, 3, none⟩ (.int .i64 (-1))) S'' d { D with files := crs D.files ks, off := false, fuse := -1 } ∧ Turn S S'' w ((wr.setCell ⟨d, 1, none⟩ (.bool false)).setCell ⟨d, 3, none⟩ (.int .i64 (-1))) := by
          have e1 := hd.head 1 (.bool false) { D with files := crs D.files ks, off := false } rfl (by simp [topCells, left])
          have e2 := e1.head 3 (.int .i64 (-1)) { D with files := crs D.files ks, off := false, fuse := -1 } rfl (by simp [topCells, left])
          refine ⟨S', ⟨mb, nn, M, blk, vs', e2, hnn⟩, ?_⟩
          have t := (Turn.below (S := S) hb2).trans ht
          have hsd : S d ∨ w.heap.size ≤ d := .inl h.sd
          exact ⟨(t.outs.setCell (p := ⟨d, 1, none⟩) hsd _).setCell (p := ⟨d, 3, none⟩) hsd _, t.new⟩
        have HF := Lib.hid hfin
        clear hfin hd ht hkr3 hnr3 h h2 hkN2
        go_wp2
        go_returns
        exact ⟨by simp, HF.out⟩
  · have e1 : dCrash D ks = (2, D) := by
      unfold dCrash
      rw [if_pos (by show ks.any isNeg = true; exact hneg)]
    rw [e1]
    rw [hneg] at hcon
    have hD : Dk 0 w S d D := ⟨mb, nn, M, blk, vs, h, hnn⟩
    clear e1 hneg h
    go_enter Try.func13, Try.ntmps13
    go_wp2_with fail
    refine (nobodys_no d w c0).mono ?_
    rintro e w0 ⟨rfl, hw0⟩
    rw [hw0]
    clear hw0 w0
    go_wp2_with fail
    refine hcon.mono ?_
    rintro e w1 ⟨rfl, q, rfl⟩
    go_wp2
    go_returns
    exact ⟨by simp, S, hD.go (bDrewN (Below.refl _ _) q), Turn.below (bDrewN (Below.refl _ _) q)⟩
theorem crash_no (p : Option Addr) (v : Value) (w : World) (h : Nobody w p) :
    Calls Try.prog 13 #[.pointer p, v] w fun e w' => e = .returned (.int .i64 1) ∧ w' = w := by
  go_enter Try.func13, Try.ntmps13
  go_wp2_with (refine (nobodys_yes p w h).mono ?_; rintro e w' ⟨rfl, rfl⟩)
  go_returns
  exact ⟨by simp, rfl⟩
end
end Go.Proofs.Ytnpomiidkdnebaa
