/- The law's same: both disks tell the same. -/
import Derived.Test.YtnpomiidkdnebaaDActD
import Derived.Test.YtnpomiidkdnebaaDSameT
namespace Go.Proofs.Ytnpomiidkdnebaa
open Go.RowKit
set_option linter.unusedVariables false

theorem okN_size {l : Nm} (h : okN l = true) : (⟨l.toArray⟩ : ByteArray).size ≤ 24 := by
  unfold okN at h
  simp only [Bool.and_eq_true, decide_eq_true_eq] at h
  have := h.2.1
  simpa [ByteArray.size] using this
theorem lst_nm (l : Nm) : lst ⟨l.toArray⟩ = l := by simp [lst]

section
variable {S S' : Nat → Prop} {w W : World} {d x : Nat} {D : Dsk}

set_option maxHeartbeats 8000000 in
set_option maxRecDepth 5000 in
theorem same_any (w : World) (h : Pair S w d x D D) (g : Gd D) :
    Calls Try.prog 25 #[.pointer (some ⟨d, 0, none⟩), .pointer (some ⟨x, 0, none⟩)] w fun e w' => e = .returned (.bool true) ∧ Below w.heap.size w w' := by
  obtain ⟨Sd, Sx, v, rs, fz, hd, hx⟩ := h.at_.open_
  have hlen : rs.length ≤ 1099511627776 := few_len hx g.room g.few
  have hst : D.steps ≤ 1099511627776 := by have := g.room.1; omega
  have hx8 := hx.lt _ hx.sx
  have c4 := hx.c4
  have c5 := hx.c5
  have hnames := rnames_any w hx hlen
  have hnl : (dNames D).length ≤ 1099511627776 := by
    unfold dNames
    split
    · simp
    · unfold names
      rw [List.length_map, ← hx.len]
      exact hlen
  obtain ⟨n, hn⟩ : ∃ n, n = (dNames D).length := ⟨_, rfl⟩
  rw [← hn] at hnames hnl
  have hN : ∀ W, Below w.heap.size w W → Calls Try.prog 21 #[.pointer (some ⟨d, 0, none⟩)] W fun e w' => ∃ A c, e = .returned (.slice A n c) ∧ Rds w' w'.heap.size A (cS (dNames D)) ∧ Below W.heap.size W w' := fun W hb => by
    refine (names_on W (hd.go hb) hst g.ok.srt).mono ?_
    rintro e w' ⟨v', rfl, ho, hb'⟩
    obtain ⟨A, c, rfl, hr, _⟩ := own_open ho
    exact ⟨A, c, by rw [hn], hr, hb'⟩
  have hT : ∀ W A A' c c', Rds W W.heap.size A (cS (dNames D)) → Rds W W.heap.size A' (cS (dNames D)) → Calls Try.prog 20 #[.slice A n c, .slice A' n c'] W fun e w' => e = .returned (.bool true) ∧ Below W.heap.size W w' := fun W A A' c c' h1 h2 => by
    refine (sameTexts_any A A' (dNames D) (dNames D) n n c c' W.heap.size W hn.symm hn.symm (by omega) (by omega) h1 h2).mono ?_
    rintro e w' ⟨rfl, q, rfl⟩
    exact ⟨by simp [sameT], bDrewN (Below.refl _ _) q⟩
  have hO : ∀ W, Below w.heap.size w W → _ := fun W hb => on_any W (hd.go hb)
  have hL : ∀ W, Below w.heap.size w W → _ := fun W hb => left_any W (hd.go hb)
  have hLx : ∀ W, Below w.heap.size w W → _ := fun W hb => rLeft_any W (hx.go hb) g.ok
  have hSt : ∀ W, Below w.heap.size w W → _ := fun W hb => steps_any W (hd.go hb)
  have hnm : ∀ l ∈ dNames D, okN l = true := fun l hm => by
    unfold dNames at hm
    split at hm
    · cases hm
    · obtain ⟨f, hf, rfl⟩ := List.mem_map.1 hm
      exact g.ok.nms f hf
  have hcell : ∀ W, Below w.heap.size w W → W.cell? ⟨x, 4, none⟩ = some (.bool D.off) ∧ W.cell? ⟨x, 5, none⟩ = some (.int .i64 D.steps) := fun W hb => ⟨(hb.cell (p := ⟨x, 4, none⟩) hx8).trans c4, (hb.cell (p := ⟨x, 5, none⟩) hx8).trans c5⟩
  have HX := Lib.hid hx
  have HD := Lib.hid hd
  have HG := Lib.hid g
  have HNM := Lib.hid hnm
  have HNN := Lib.hid hn
  generalize ho : D.off = o at hO hcell
  clear h hx hd g hlen c4 c5 hnm hn ho
  go_enter Try.func25, Try.ntmps25
  go_wp2_with fail
  refine hnames.mono ?_
  rintro e w1 ⟨v1, rfl, hown1, hb1⟩
  obtain ⟨A1, c1, rfl, hr1, hc1, hcm1, hA01⟩ := own_open hown1
  have hB0 : Below w.heap.size w w1.drew := hb1.drew
  have hc0 := hcell _ hB0
  have hr1' : ∀ W, Below w1.heap.size w1 W → Rds W W.heap.size A1 (cS (dNames D)) := fun W hb => (hr1.below hb).more hb.size
  have hrb : ∀ W, Below w1.heap.size w1 W → Below w.heap.size w W := fun W hb => hb1.trans (hb.mono hb1.size)
  have hB1 : Below w1.heap.size w1 w1.drew := (Below.refl _ _).drew
  generalize hLL : dLeft D = LL at *
  generalize hSS' : D.steps = st at *
  have hdone : ∀ W1, Below w1.heap.size w1 W1 → ∀ (K : Prop), (Below w1.heap.size w1 W1 → K) → K := fun _ h _ k => k h
  have HL := Lib.hid hL
  cases o
  · go_wp2_with fail
    go_region_held3 (fun w' => w'.cell? ⟨x, 4, none⟩ = some (.bool false) ∧ w'.cell? ⟨x, 5, none⟩ = some (.int .i64 st))
      (first | assumption | exact hcell _ hB0)
      (first
        | (go_at_call 21; refine (hN _ (hrb _ (by assumption))).mono ?_; rintro e w10 ⟨A10, c10, rfl, hr10, hb10⟩; have hB10 : Below w1.heap.size w1 w10 := hB1.trans (hb10.mono hB1.size); have hc10 := hcell _ (hrb _ hB10))
        | (go_at_call 20; refine (hT _ _ _ _ _ hr10 (hr1' _ hB10)).mono ?_; rintro e w11 ⟨rfl, hb11⟩; have hB11 : Below w1.heap.size w1 w11 := hB10.trans (hb11.mono hB10.size); have hc11 := hcell _ (hrb _ hB11))
        | (go_at_call 17; refine (hO _ (hrb _ hB11)).mono ?_; rintro e w12 ⟨rfl, h12⟩; rw [h12]; clear h12 w12)
        | (go_at_call 18; refine (HL.out _ (hrb _ hB11)).mono ?_; rintro e w12 ⟨rfl, h12⟩; rw [h12]; clear h12 w12)
        | (go_at_call 61; refine (hLx _ (hrb _ hB11)).mono ?_; rintro e w12 ⟨rfl, h12⟩; rw [h12]; clear h12 w12)
        | (go_at_call 28; refine (hSt _ (hrb _ hB11)).mono ?_; rintro e w12 ⟨rfl, h12⟩; rw [h12]; clear h12 w12))
    go_wp2
    go_loopw [6] (fun i wr => ∃ k : Nat, k ≤ n ∧ i = .int .i64 k ∧ Below w1.heap.size w1 wr) (fun i _ => n - (intOf i).toNat)
    case atStart => exact ⟨0, Nat.zero_le _, rfl, hB11⟩
    case round =>
      obtain ⟨k, hk, rfl, hbk⟩ := hrel
      by_cases hlt : k < n
      · have hkl : k < (dNames D).length := by rw [← HNN.out]; exact hlt
        have hok := HNM.out _ (List.getElem_mem hkl)
        obtain ⟨ad, rfl, hadb, hcl⟩ := (hr1.below hbk).at_ (cS_get hkl)
        generalize (dNames D)[k] = l at *
        have hcl' : wr.cell? (ad.add k) = some (.string ⟨l.toArray⟩) := hcl
        have hs24 := okN_size hok
        have hs63 : (⟨l.toArray⟩ : ByteArray).size ≤ 9223372036854775807 := by omega
        have hbw := hrb _ hbk
        have hRd := fun W (hb : Below wr.heap.size wr W) => read_any ⟨l.toArray⟩ hs63 W (HD.out.go (hbw.trans (hb.mono hbw.size))) (len30 HG.out.ok)
        have hRx := fun W (hb : Below wr.heap.size wr W) => rread_any ⟨l.toArray⟩ hs63 W (HX.out.go (hbw.trans (hb.mono hbw.size))) HG.out.ok
        have hSd := fun W (hb : Below wr.heap.size wr W) => synced_any ⟨l.toArray⟩ hs63 W (HD.out.go (hbw.trans (hb.mono hbw.size)))
        have hSx := fun W (hb : Below wr.heap.size wr W) => rsynced_any ⟨l.toArray⟩ hs63 W (HX.out.go (hbw.trans (hb.mono hbw.size))) HG.out.ok
        have hcw : ∀ W, Below wr.heap.size wr W → W.cell? (ad.add k) = some (.string ⟨l.toArray⟩) := fun W hb => (hb.cell (p := ad.add k) (by rw [blk_add]; have := hbk.size; omega)).trans hcl'
        have h30 : (dRead D l).1.length ≤ 1073741824 := by
          unfold dRead
          split
          · simp
          · split
            · simp
            · exact len30 HG.out.ok _ _ (by assumption)
        simp only [lst_nm] at hRd hRx hSd hSx
        generalize (dRead D l).1 = bs at *
        generalize (dRead D l).2 = e1 at *
        generalize (dSynced D l).1 = m1 at *
        generalize (dSynced D l).2 = e2 at *
        generalize hN1 : bs.length = N1 at *
        generalize (⟨l.toArray⟩ : ByteArray) = nm at *
        have HCW := Lib.hid hcw
        clear hcl hcw hok hs24 hs63 hadb
        go_wp2_with fail
        refine (hRd wr (Below.refl _ _)).mono ?_
        rintro e w2 ⟨v2, rfl, ho2, hb2⟩
        obtain ⟨A2, c2, rfl, hr2, _⟩ := own_open ho2
        have hk2 := HCW.out _ hb2
        go_wp2_with fail
        refine (hRx w2 hb2).mono ?_
        rintro e w3 ⟨v3, rfl, ho3, hb3⟩
        obtain ⟨A3, c3, rfl, hr3, _⟩ := own_open ho3
        have hb3' := hb2.trans (hb3.mono hb2.size)
        have hk3 := HCW.out _ hb3'
        go_wp2_with fail
        refine (hSd w3 hb3').mono ?_
        rintro e w4 ⟨rfl, hb4⟩
        have hb4' := hb3'.trans (hb4.mono hb3'.size)
        have hk4 := HCW.out _ hb4'
        go_wp2_with fail
        refine (hSx w4 hb4').mono ?_
        rintro e w5 ⟨rfl, hb5⟩
        have hb5' := hb4'.trans (hb5.mono hb4'.size)
        have hb35 : Below w3.heap.size w3 w5 := hb4.trans (hb5.mono hb4.size)
        have hr3' := (hr3.below hb35).more hb35.size
        have hb25 : Below w2.heap.size w2 w5 := hb3.trans (hb35.mono hb3.size)
        have hr2' := (hr2.below hb25).more hb25.size
        have hsm := sameBytes_any A2 A3 bs bs c2 c3 w5.heap.size w5 (by omega) (by omega) hr2' hr3'
        rw [hN1, show same8 bs bs = true by simp [same8]] at hsm
        have hbf := hbk.trans (hb5'.mono hbk.size)
        clear hRd hRx hSd hSx hr2 hr3 hr2' hr3' ho2 ho3 hk2 hk3 hk4 HCW
        go_wp2_with fail
        refine hsm.mono ?_
        rintro e w6 ⟨rfl, q, rfl⟩
        have hbf6 : Below w1.heap.size w1 (w5.drewN q) := bDrewN hbf q
        go_wp2
        go_roundw
        case rel => exact ⟨k + 1, by omega, by go_num, hbf6⟩
        case measure => simp [intOf]; omega
      · have hbw := hrb _ hbk
        go_wp2
        go_returns
        exact ⟨by simp, hbw⟩
  · go_wp2_with fail
    go_region_held3 (fun w' => w'.cell? ⟨x, 4, none⟩ = some (.bool true) ∧ w'.cell? ⟨x, 5, none⟩ = some (.int .i64 st))
      (first | assumption | exact hcell _ hB0)
      (first
        | (go_at_call 21; refine (hN _ (hrb _ (by assumption))).mono ?_; rintro e w10 ⟨A10, c10, rfl, hr10, hb10⟩; have hB10 : Below w1.heap.size w1 w10 := hB1.trans (hb10.mono hB1.size); have hc10 := hcell _ (hrb _ hB10))
        | (go_at_call 20; refine (hT _ _ _ _ _ hr10 (hr1' _ hB10)).mono ?_; rintro e w11 ⟨rfl, hb11⟩; have hB11 : Below w1.heap.size w1 w11 := hB10.trans (hb11.mono hB10.size); have hc11 := hcell _ (hrb _ hB11))
        | (go_at_call 17; refine (hO _ (hrb _ hB11)).mono ?_; rintro e w12 ⟨rfl, h12⟩; rw [h12]; clear h12 w12)
        | (go_at_call 18; refine (HL.out _ (hrb _ hB11)).mono ?_; rintro e w12 ⟨rfl, h12⟩; rw [h12]; clear h12 w12)
        | (go_at_call 61; refine (hLx _ (hrb _ hB11)).mono ?_; rintro e w12 ⟨rfl, h12⟩; rw [h12]; clear h12 w12)
        | (go_at_call 28; refine (hSt _ (hrb _ hB11)).mono ?_; rintro e w12 ⟨rfl, h12⟩; rw [h12]; clear h12 w12))
    go_wp2
    go_loopw [6] (fun i wr => ∃ k : Nat, k ≤ n ∧ i = .int .i64 k ∧ Below w1.heap.size w1 wr) (fun i _ => n - (intOf i).toNat)
    case atStart => exact ⟨0, Nat.zero_le _, rfl, hB11⟩
    case round =>
      obtain ⟨k, hk, rfl, hbk⟩ := hrel
      by_cases hlt : k < n
      · have hkl : k < (dNames D).length := by rw [← HNN.out]; exact hlt
        have hok := HNM.out _ (List.getElem_mem hkl)
        obtain ⟨ad, rfl, hadb, hcl⟩ := (hr1.below hbk).at_ (cS_get hkl)
        generalize (dNames D)[k] = l at *
        have hcl' : wr.cell? (ad.add k) = some (.string ⟨l.toArray⟩) := hcl
        have hs24 := okN_size hok
        have hs63 : (⟨l.toArray⟩ : ByteArray).size ≤ 9223372036854775807 := by omega
        have hbw := hrb _ hbk
        have hRd := fun W (hb : Below wr.heap.size wr W) => read_any ⟨l.toArray⟩ hs63 W (HD.out.go (hbw.trans (hb.mono hbw.size))) (len30 HG.out.ok)
        have hRx := fun W (hb : Below wr.heap.size wr W) => rread_any ⟨l.toArray⟩ hs63 W (HX.out.go (hbw.trans (hb.mono hbw.size))) HG.out.ok
        have hSd := fun W (hb : Below wr.heap.size wr W) => synced_any ⟨l.toArray⟩ hs63 W (HD.out.go (hbw.trans (hb.mono hbw.size)))
        have hSx := fun W (hb : Below wr.heap.size wr W) => rsynced_any ⟨l.toArray⟩ hs63 W (HX.out.go (hbw.trans (hb.mono hbw.size))) HG.out.ok
        have hcw : ∀ W, Below wr.heap.size wr W → W.cell? (ad.add k) = some (.string ⟨l.toArray⟩) := fun W hb => (hb.cell (p := ad.add k) (by rw [blk_add]; have := hbk.size; omega)).trans hcl'
        have h30 : (dRead D l).1.length ≤ 1073741824 := by
          unfold dRead
          split
          · simp
          · split
            · simp
            · exact len30 HG.out.ok _ _ (by assumption)
        simp only [lst_nm] at hRd hRx hSd hSx
        generalize (dRead D l).1 = bs at *
        generalize (dRead D l).2 = e1 at *
        generalize (dSynced D l).1 = m1 at *
        generalize (dSynced D l).2 = e2 at *
        generalize hN1 : bs.length = N1 at *
        generalize (⟨l.toArray⟩ : ByteArray) = nm at *
        have HCW := Lib.hid hcw
        clear hcl hcw hok hs24 hs63 hadb
        go_wp2_with fail
        refine (hRd wr (Below.refl _ _)).mono ?_
        rintro e w2 ⟨v2, rfl, ho2, hb2⟩
        obtain ⟨A2, c2, rfl, hr2, _⟩ := own_open ho2
        have hk2 := HCW.out _ hb2
        go_wp2_with fail
        refine (hRx w2 hb2).mono ?_
        rintro e w3 ⟨v3, rfl, ho3, hb3⟩
        obtain ⟨A3, c3, rfl, hr3, _⟩ := own_open ho3
        have hb3' := hb2.trans (hb3.mono hb2.size)
        have hk3 := HCW.out _ hb3'
        go_wp2_with fail
        refine (hSd w3 hb3').mono ?_
        rintro e w4 ⟨rfl, hb4⟩
        have hb4' := hb3'.trans (hb4.mono hb3'.size)
        have hk4 := HCW.out _ hb4'
        go_wp2_with fail
        refine (hSx w4 hb4').mono ?_
        rintro e w5 ⟨rfl, hb5⟩
        have hb5' := hb4'.trans (hb5.mono hb4'.size)
        have hb35 : Below w3.heap.size w3 w5 := hb4.trans (hb5.mono hb4.size)
        have hr3' := (hr3.below hb35).more hb35.size
        have hb25 : Below w2.heap.size w2 w5 := hb3.trans (hb35.mono hb3.size)
        have hr2' := (hr2.below hb25).more hb25.size
        have hsm := sameBytes_any A2 A3 bs bs c2 c3 w5.heap.size w5 (by omega) (by omega) hr2' hr3'
        rw [hN1, show same8 bs bs = true by simp [same8]] at hsm
        have hbf := hbk.trans (hb5'.mono hbk.size)
        clear hRd hRx hSd hSx hr2 hr3 hr2' hr3' ho2 ho3 hk2 hk3 hk4 HCW
        go_wp2_with fail
        refine hsm.mono ?_
        rintro e w6 ⟨rfl, q, rfl⟩
        have hbf6 : Below w1.heap.size w1 (w5.drewN q) := bDrewN hbf q
        go_wp2
        go_roundw
        case rel => exact ⟨k + 1, by omega, by go_num, hbf6⟩
        case measure => simp [intOf]; omega
      · have hbw := hrb _ hbk
        go_wp2
        go_returns
        exact ⟨by simp, hbw⟩
end
end Go.Proofs.Ytnpomiidkdnebaa
