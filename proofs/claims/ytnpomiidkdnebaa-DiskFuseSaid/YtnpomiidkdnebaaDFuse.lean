/- The statement on fuses: of any room, any acts without crashes and fuses, and any fuse: a disk with a fuse is, up to that step, as one without. Conditions: none beyond the statement's own. -/
import Derived.Test.YtnpomiidkdnebaaDActs
namespace Go.Proofs.Ytnpomiidkdnebaa
open Go.RowKit Go.ChangeShapes Go.WideShapes Go.ChangeAt
set_option linter.unusedVariables false

/-- where the two disks stand -/
def Duo (W wr : World) (d c : Nat) (D C : Dsk) : Prop := ∃ Sd Sc, Dk 0 wr Sd d D ∧ Dk 0 wr Sc c C ∧ (∀ k, Sd k → ¬ Sc k) ∧ (∀ k, Sd k → W.heap.size ≤ k) ∧ (∀ k, Sc k → W.heap.size ≤ k) ∧ Below W.heap.size W wr
theorem Duo.act1 {W wr : World} {d c : Nat} {D C : Dsk} {a : Ac} (h : Duo W wr d c D C) (g : Gd D) (ha : ActIn W a) :
    Calls Try.prog 29 #[.pointer (some ⟨d, 0, none⟩), .agg (acCells a)] wr fun e w' => e = .returned (.tuple #[]) ∧ Duo W w' d c (acted a D) C := by
  obtain ⟨Sd, Sc, hd, hc, hdis, h1, h2, hb⟩ := h
  refine (act_any a d D Sd wr hd g (AcOk.new ha hb h1)).mono ?_
  rintro e w' ⟨rfl, S', hd', hT⟩
  refine ⟨rfl, S', Sc, hd', hc.outs hT.outs (fun k hk hk' => hdis k hk' hk), fun k hk hk' => ?_, turn_far hb hT h1, h2, below_of hb hT.outs h1⟩
  rcases hT.new k hk with h | h
  · exact hdis k h hk'
  · have := hc.lt k hk'; omega
theorem Duo.swap {W wr : World} {d c : Nat} {D C : Dsk} (h : Duo W wr d c D C) : Duo W wr c d C D := by
  obtain ⟨Sd, Sc, hd, hc, hdis, h1, h2, hb⟩ := h
  exact ⟨Sc, Sd, hc, hd, fun k hk hk' => hdis k hk' hk, h2, h1, hb⟩
theorem Duo.act2 {W wr : World} {d c : Nat} {D C : Dsk} {a : Ac} (h : Duo W wr d c D C) (g : Gd C) (ha : ActIn W a) :
    Calls Try.prog 29 #[.pointer (some ⟨c, 0, none⟩), .agg (acCells a)] wr fun e w' => e = .returned (.tuple #[]) ∧ Duo W w' d c D (acted a C) :=
  (h.swap.act1 g ha).mono fun e w' he => ⟨he.1, he.2.swap⟩
theorem Duo.go {W wr w' : World} {d c : Nat} {D C : Dsk} (h : Duo W wr d c D C) (hb' : Below wr.heap.size wr w') : Duo W w' d c D C := by
  obtain ⟨Sd, Sc, hd, hc, hdis, h1, h2, hb⟩ := h
  exact ⟨Sd, Sc, hd.go hb', hc.go hb', hdis, h1, h2, hb.trans (hb'.mono hb.size)⟩

set_option maxHeartbeats 8000000 in
set_option maxRecDepth 8000 in
theorem fuse_walk (r : Int) (A : Option Addr) (az : List Ac) (c : Nat) (n : Int) (W : World) (hnb : -9223372036854775808 ≤ n ∧ n ≤ 9223372036854775807) (ha : ActsArg W (.slice A az.length c) A az c) :
    Calls Try.prog 7 #[.int .i64 r, .slice A az.length c, .int .i64 n] W fun e w' => e = .returned (.bool true) ∧ Below W.heap.size W w' := by
  by_cases hr : r < 0 ∨ 1073741824 < r
  · have hn1 := fun w => new_bad r hr w
    clear hr
    go_enter Try.func7, Try.ntmps7
    go_wp2_with fail
    refine (lives_any W).mono ?_
    rintro e w1 ⟨rfl, hb1⟩
    go_wp2_with fail
    refine (hn1 w1).mono ?_
    rintro e w2 ⟨rfl, h2⟩
    rw [h2]
    clear h2 w2
    go_wp2_with fail
    refine (hn1 w1).mono ?_
    rintro e w3 ⟨rfl, h3⟩
    rw [h3]
    clear h3 w3
    go_wp2
    go_returns
    exact ⟨by simp, hb1⟩
  · obtain ⟨R, rfl⟩ : ∃ R : Nat, r = R := ⟨r.toNat, by omega⟩
    have hR : R ≤ 1073741824 := by omega
    have hn1 := fun w => new_any R hR w
    have hl := ha.cap
    clear hr
    have HA := Lib.hid ha
    obtain ⟨m, hm⟩ : ∃ m, m = az.length := ⟨_, rfl⟩
    rw [← hm] at hl ⊢
    have HN := Lib.hid hm
    clear ha hm
    have hpk := fun W => pk_any n 300 W (by decide) (by decide) hnb
    obtain ⟨hp0, hp1⟩ := pk_range n (n := 300) (by decide)
    obtain ⟨N, hN⟩ : ∃ N : Nat, pk n 300 = N := ⟨(pk n 300).toNat, by omega⟩
    rw [hN] at hpk hp1
    clear hN hp0
    go_enter Try.func7, Try.ntmps7
    go_wp2_with fail
    refine (lives_any W).mono ?_
    rintro e w1 ⟨rfl, hb1⟩
    go_wp2_with fail
    refine (hn1 w1).mono ?_
    rintro e w2 ⟨Sd, d, rfl, hd, hb2, hSd⟩
    go_wp2_with fail
    refine (hn1 w2).mono ?_
    rintro e w3 ⟨Sc, cc, rfl, hc, hb3, hSc⟩
    have hb12 := hb1.trans (hb2.mono hb1.size)
    have hb13 := hb12.trans (hb3.mono hb12.size)
    have hduo : Duo W w3 d cc (dNew R) (dNew R) := ⟨Sd, Sc, hd.go hb3, hc, fun k hk hk' => by have h1 := hd.lt k hk; have h2 := hSc k hk'; omega, fun k hk => Nat.le_trans hb1.size (hSd k hk), fun k hk => Nat.le_trans hb12.size (hSc k hk), hb13⟩
    have HD := Lib.hid hduo
    clear hn1 hd hc hb12 hb2 hb3 hb1 hSd hSc hduo
    by_cases h200 : 200 < m
    · have h200' : (200 : Int) < m := by omega
      go_wp2
      go_returns
      exact ⟨by simp, hb13⟩
    · have h200' : ¬ (200 : Int) < m := by omega
      have hfu : Calls Try.prog 16 #[.pointer (some ⟨cc, 0, none⟩), .int .i64 N] w3 fun e w' => e = .returned (.int .i64 0) ∧ Duo W w' d cc (dNew R) { dNew R with fuse := N } := by
        obtain ⟨Sd, Sc, hd, hc, hdis, h1, h2, hb⟩ := HD.out
        have e0 : dFuse (dNew R) N = (0, { dNew R with fuse := N }) := by
          have : ¬ (N : Int) < 0 := by omega
          simp [dFuse, dNew, this]
        have h3 := fuse_any N w3 hc
        rw [e0] at h3
        refine h3.mono ?_
        rintro e w' ⟨rfl, hc', hT⟩
        refine ⟨rfl, Sd, Sc, hd.outs hT.outs (fun k hk hk' => hdis k hk hk'), hc', hdis, h1, h2, below_of hb hT.outs h2⟩
      have hfz0 : Fz N (dNew R) { dNew R with fuse := N } := ⟨rfl, rfl, Nat.zero_le _, by simp [dNew]⟩
      have hbc : Beh 0 { dNew R with fuse := (N : Int) } := ⟨by
          have := okd_fuse (okd_new R hR) (n := N) (by omega)
          have e0 : dFuse (dNew R) N = (0, { dNew R with fuse := N }) := by
            have : ¬ (N : Int) < 0 := by omega
            simp [dFuse, dNew, this]
          rwa [e0] at this, Nat.zero_le _, Nat.zero_le _⟩
      have HZ := Lib.hid hfz0
      have HBC := Lib.hid hbc
      clear hfz0 hbc
      go_wp2_with fail
      refine (hpk _).mono ?_
      rintro e w8 ⟨rfl, hw8⟩
      rw [hw8]
      clear hw8 w8 hpk
      go_wp2_with fail
      refine hfu.mono ?_
      rintro e w4 ⟨rfl, hduo4⟩
      clear hfu hb13
      have HD4 := Lib.hid hduo4
      clear hduo4
      go_wp2
      go_loopw [11] (fun i wr => ∃ (k : Nat) (D C : Dsk), k ≤ m ∧ i = .int .i64 k ∧ Duo W wr d cc D C ∧ Beh k D ∧ Beh k C ∧ Fz N D C) (fun i _ => m - (intOf i).toNat)
      case atStart => exact ⟨0, _, _, Nat.zero_le _, rfl, HD4.out, Beh.new R hR, HBC.out, HZ.out⟩
      case round =>
        obtain ⟨k, D, C, hk, rfl, hduo, hbD, hbC, hfz⟩ := hrel
        have hbw : Below W.heap.size W wr := by obtain ⟨_, _, _, _, _, _, _, hb⟩ := hduo; exact hb
        have HFZ := Lib.hid hfz
        by_cases hlt : k < m
        · have hkl : k < az.length := by rw [← HN.out]; exact hlt
          obtain ⟨ad, rfl, hadb, hcells⟩ := HA.out.at_ hkl
          obtain ⟨k0, k1, k2, k3, k4, k5⟩ := hcells wr hbw
          have hin := HA.out.acts _ (List.getElem_mem hkl)
          generalize az[k] = a at *
          have hlb := hin.ok.bl
          have hkd := hin.ok.kd
          have hnb2 := hin.ok.nb.2
          have hpk := fun W => pk_any a.kd 11 W (by decide) (by decide) hkd
          obtain ⟨hp0, hp1⟩ := pk_range a.kd (n := 11) (by decide)
          have HIN := Lib.hid hin
          have HCE := Lib.hid hcells
          have HDU := Lib.hid hduo
          have HBD := Lib.hid hbD
          have HBCk := Lib.hid hbC
          have hk200 : k ≤ 200 := by omega
          by_cases hgo : a.L ≤ 2000 ∧ pk a.kd 11 ≤ 4
          · obtain ⟨hl2, hk4⟩ := hgo
            have hl2' : ¬ (2000 : Int) < a.L := by omega
            have hk4' : ¬ (4 : Int) < pk a.kd 11 := by omega
            have hD' := (HBD.out.acted a hnb2 (by rw [hlb]; exact hl2))
            have hC' := (HBCk.out.acted a hnb2 (by rw [hlb]; exact hl2))
            have hfzd := fz_acted HFZ.out a hk4
            have hst : D.steps ≤ N := hfz.2.2.1
            have hact1 := hduo.act1 (hbD.gd (by omega)) hin
            have hact2 := fun W' (h : Duo W W' d cc (acted a D) C) => h.act2 (hbC.gd (by omega)) HIN.out
            have hs1 : Calls Try.prog 28 #[.pointer (some ⟨d, 0, none⟩)] wr fun e w' => e = .returned (.int .i64 D.steps) ∧ w' = wr := by
              obtain ⟨_, _, hd, _⟩ := HDU.out
              exact steps_any wr hd
            generalize hDD : acted a D = D' at *
            generalize hCC : acted a C = C' at *
            have HD' := Lib.hid hD'
            have HC' := Lib.hid hC'
            have HFD := Lib.hid hfzd
            generalize hst0 : D.steps = s0 at *
            unfold acCells at hact1 hact2
            clear hduo hbD hbC hfz hD' hC' hfzd hcells hin hlb hkd hnb2
            have hdone : True := trivial
            generalize hpka : pk a.kd 11 = pka at *
            have hcel : ∀ W', Below W.heap.size W W' → _ := fun W' hb => HCE.out W' hb
            have HCL := Lib.hid hcel
            clear hcel
            obtain ⟨kd, nm, to, aA, aL, ac, ab, an, aAk, am, ack, aks⟩ := a
            dsimp only at *
            go_wp2_with fail
            refine (hpk _).mono ?_
            rintro e w8 ⟨rfl, hw8⟩
            rw [hw8]
            clear hw8 w8
            go_wp2_with fail
            refine hs1.mono ?_
            rintro e w8 ⟨rfl, hw8⟩
            rw [hw8]
            clear hw8 w8
            go_wp2_with fail
            refine hact1.mono ?_
            rintro e w5 ⟨rfl, hduo5⟩
            have hbw5 : Below W.heap.size W w5 := by obtain ⟨_, _, _, _, _, _, _, hb⟩ := hduo5; exact hb
            obtain ⟨j0, j1, j2, j3, j4, j5⟩ := HCL.out w5 hbw5
            try dsimp only at j0 j1 j2 j3 j4 j5
            have hact2' := hact2 w5 hduo5
            clear hact1 hact2 hs1 hduo5 k0 k1 k2 k3 k4 k5 hpk
            go_wp2_with fail
            refine hact2'.mono ?_
            rintro e w6 ⟨rfl, hduo6⟩
            have hbw6 : Below W.heap.size W w6 := by obtain ⟨_, _, _, _, _, _, _, hb⟩ := hduo6; exact hb
            have HD6 := Lib.hid hduo6
            have hsd : Calls Try.prog 28 #[.pointer (some ⟨d, 0, none⟩)] w6 fun e w' => e = .returned (.int .i64 D'.steps) ∧ w' = w6 := by
              obtain ⟨_, _, hd, _⟩ := HD6.out
              exact steps_any w6 hd
            have hsc : Calls Try.prog 28 #[.pointer (some ⟨cc, 0, none⟩)] w6 fun e w' => e = .returned (.int .i64 C'.steps) ∧ w' = w6 := by
              obtain ⟨_, _, _, hc, _⟩ := HD6.out
              exact steps_any w6 hc
            have hoc : Calls Try.prog 17 #[.pointer (some ⟨cc, 0, none⟩)] w6 fun e w' => e = .returned (.bool (!C'.off)) ∧ w' = w6 := by
              obtain ⟨_, _, _, hc, _⟩ := HD6.out
              exact on_any w6 hc
            clear hact2' hduo6 j0 j1 j2 j3 j4 j5
            rcases HFD.out with hz | ⟨hz1, hz2, hz3⟩
            · obtain ⟨z1, z2, z3, z4⟩ := hz
              have hle : ¬ (N : Int) < (D'.steps : Int) := by omega
              have hsteps40 : D'.steps ≤ 1099511627776 := by have := HD'.out.steps; omega
              have hsc' : Calls Try.prog 28 #[.pointer (some ⟨cc, 0, none⟩)] w6 fun e w' => e = .returned (.int .i64 D'.steps) ∧ w' = w6 := by rw [z4] at hsc; exact hsc
              have hoc' : Calls Try.prog 17 #[.pointer (some ⟨cc, 0, none⟩)] w6 fun e w' => e = .returned (.bool true) ∧ w' = w6 := by
                have e0 : C'.off = false := by rw [z4]; exact z2
                rw [e0] at hoc
                exact hoc
              have hns : Srt D'.files := HD'.out.ok.srt
              obtain ⟨n1, hn1⟩ : ∃ n1, n1 = (dNames D').length := ⟨_, rfl⟩
              have hn140 : n1 ≤ 1099511627776 := by
                rw [hn1]
                unfold dNames
                split
                · simp
                · unfold names
                  rw [List.length_map]
                  have := HD'.out.few
                  omega
              have hNd : ∀ W', Below w6.heap.size w6 W' → Calls Try.prog 21 #[.pointer (some ⟨d, 0, none⟩)] W' fun e w' => ∃ A c, e = .returned (.slice A n1 c) ∧ Rds w' w'.heap.size A (cS (dNames D')) ∧ Below W'.heap.size W' w' := fun W' hb => by
                obtain ⟨_, _, hd, _⟩ := HD6.out.go hb
                refine (names_on W' hd hsteps40 hns).mono ?_
                rintro e w' ⟨v', rfl, ho, hb'⟩
                obtain ⟨A, c, rfl, hr, _⟩ := own_open ho
                exact ⟨A, c, by rw [hn1], hr, hb'⟩
              have hNc : ∀ W', Below w6.heap.size w6 W' → Calls Try.prog 21 #[.pointer (some ⟨cc, 0, none⟩)] W' fun e w' => ∃ A c, e = .returned (.slice A n1 c) ∧ Rds w' w'.heap.size A (cS (dNames D')) ∧ Below W'.heap.size W' w' := fun W' hb => by
                obtain ⟨_, _, _, hc, _⟩ := HD6.out.go hb
                rw [z4] at hc
                refine (names_on W' hc hsteps40 hns).mono ?_
                rintro e w' ⟨v', rfl, ho, hb'⟩
                obtain ⟨A, c, rfl, hr, _⟩ := own_open ho
                exact ⟨A, c, by rw [hn1]; rfl, hr, hb'⟩
              have hT : ∀ W' A A' c c', Rds W' W'.heap.size A (cS (dNames D')) → Rds W' W'.heap.size A' (cS (dNames D')) → Calls Try.prog 20 #[.slice A n1 c, .slice A' n1 c'] W' fun e w' => e = .returned (.bool true) ∧ Below W'.heap.size W' w' := fun W' A A' c c' h1 h2 => by
                refine (sameTexts_any A A' (dNames D') (dNames D') n1 n1 c c' W'.heap.size W' hn1.symm hn1.symm (by omega) (by omega) h1 h2).mono ?_
                rintro e w' ⟨rfl, q, rfl⟩
                exact ⟨by simp [sameT], bDrewN (Below.refl _ _) q⟩
              have hLd : ∀ W', Below w6.heap.size w6 W' → Calls Try.prog 18 #[.pointer (some ⟨d, 0, none⟩)] W' fun e w' => e = .returned (.int .i64 (dLeft D')) ∧ w' = W' := fun W' hb => by
                obtain ⟨_, _, hd, _⟩ := HD6.out.go hb
                exact left_any W' hd
              have hLc : ∀ W', Below w6.heap.size w6 W' → Calls Try.prog 18 #[.pointer (some ⟨cc, 0, none⟩)] W' fun e w' => e = .returned (.int .i64 (dLeft D')) ∧ w' = W' := fun W' hb => by
                obtain ⟨_, _, _, hc, _⟩ := HD6.out.go hb
                rw [z4] at hc
                have h9 := left_any W' hc
                exact h9
              have HZ4 := Lib.hid (show Fz N D' C' from ⟨z1, z2, z3, z4⟩)
              generalize dLeft D' = LL at *
              generalize D'.steps = st at *
              clear hsc hoc z1 z2 z4 hns hn1
              go_wp2_with fail
              refine hsd.mono ?_
              rintro e w8 ⟨rfl, hw8⟩
              rw [hw8]
              clear hw8 w8
              go_wp2_with fail
              refine hsd.mono ?_
              rintro e w8 ⟨rfl, hw8⟩
              rw [hw8]
              clear hw8 w8
              go_wp2_with fail
              refine hsc'.mono ?_
              rintro e w8 ⟨rfl, hw8⟩
              rw [hw8]
              clear hw8 w8
              go_wp2_with fail
              refine hoc'.mono ?_
              rintro e w8 ⟨rfl, hw8⟩
              rw [hw8]
              clear hw8 w8
              go_wp2_with fail
              refine (hNd w6 (Below.refl _ _)).mono ?_
              rintro e w10 ⟨A10, c10, rfl, hr10, hb10⟩
              go_wp2_with fail
              refine (hNc w10 hb10).mono ?_
              rintro e w11 ⟨A11, c11, rfl, hr11, hb11⟩
              have hb11' := hb10.trans (hb11.mono hb10.size)
              have hr10' := (hr10.below hb11).more hb11.size
              have hTT := hT w11 A10 A11 c10 c11 hr10' hr11
              clear hr10 hr11 hr10' hT
              go_wp2_with fail
              refine hTT.mono ?_
              rintro e w12 ⟨rfl, hb12⟩
              have hb12' := hb11'.trans (hb12.mono hb11'.size)
              go_wp2_with fail
              refine (hLd w12 hb12').mono ?_
              rintro e w8 ⟨rfl, hw8⟩
              rw [hw8]
              clear hw8 w8
              go_wp2_with fail
              refine (hLc w12 hb12').mono ?_
              rintro e w8 ⟨rfl, hw8⟩
              rw [hw8]
              clear hw8 w8
              have hduo12 := HD6.out.go hb12'
              clear hsd hsc' hoc' hNd hNc hLd hLc hTT
              go_wp2
              go_roundw
              case rel => exact ⟨k + 1, D', C', by omega, by go_num, hduo12, HD'.out, HC'.out, HZ4.out⟩
              case measure => simp [intOf]; omega
            · rw [hz2] at hoc
              rw [hz3] at hsc
              have hz1' : (N : Int) < D'.steps := by omega
              clear HD' HC'
              go_wp2_with fail
              refine hsd.mono ?_
              rintro e w8 ⟨rfl, hw8⟩
              rw [hw8]
              clear hw8 w8
              go_wp2_with fail
              refine hoc.mono ?_
              rintro e w8 ⟨rfl, hw8⟩
              rw [hw8]
              clear hw8 w8
              go_wp2_with fail
              refine hsc.mono ?_
              rintro e w8 ⟨rfl, hw8⟩
              rw [hw8]
              clear hw8 w8
              go_wp2
              go_returns
              exact ⟨by simp, hbw6⟩
          · by_cases hl2 : 2000 < a.L
            · have hl2' : (2000 : Int) < a.L := by omega
              clear hduo hbD hbC hfz hcells hin hlb hkd hnb2 hgo
              obtain ⟨kd, nm, to, aA, aL, ac, ab, an, aAk, am, ack, aks⟩ := a
              dsimp only at *
              go_wp2_with fail
              refine (hpk _).mono ?_
              rintro e w8 ⟨rfl, hw8⟩
              rw [hw8]
              clear hw8 w8
              go_wp2
              go_roundw
              case rel => exact ⟨k + 1, D, C, by omega, by go_num, HDU.out, HBD.out.more (by omega), HBCk.out.more (by omega), HFZ.out⟩
              case measure => simp [intOf]; omega
            · have hl2' : ¬ (2000 : Int) < a.L := by omega
              have hk4' : (4 : Int) < pk a.kd 11 := by omega
              clear hduo hbD hbC hfz hcells hin hlb hkd hnb2 hgo
              generalize pk a.kd 11 = pka at *
              obtain ⟨kd, nm, to, aA, aL, ac, ab, an, aAk, am, ack, aks⟩ := a
              dsimp only at *
              go_wp2_with fail
              refine (hpk _).mono ?_
              rintro e w8 ⟨rfl, hw8⟩
              rw [hw8]
              clear hw8 w8
              go_wp2
              go_roundw
              case rel => exact ⟨k + 1, D, C, by omega, by go_num, HDU.out, HBD.out.more (by omega), HBCk.out.more (by omega), HFZ.out⟩
              case measure => simp [intOf]; omega
        · clear hduo hbD hbC
          go_wp2
          go_returns
          exact ⟨by simp, hbw⟩

open Go.ChangeShapes Go.WideShapes Go.ChangeAt
set_option maxRecDepth 100000 in
theorem dfuse_lifted (os : Os) (started : os.Started) (H : Type) (enc : TypeId × Value → H) :
    ReturnsInHanded {} Try.checked os 7 .any (Rows.diskFuseSpec.pre6 enc Try.prog Try.f7 Rows.diskFuseRow.domain false) (Rows.diskFuseSpec.post enc Try.prog Try.f7 false true false false) := by
  refine returnsInHanded_of_change_sized (C := Try.checked) own started (by kernel_rfl) Try.func7
    (ChangeSpec.witness6 (enc := enc) (C := Try.checked) false ⟨#[], #[.int .i64 0, .slice none 0 0, .int .i64 0], []⟩ 8 (by kernel_rfl) (by kernel_rfl) (by kernel_rfl) (by kernel_rfl)) ?_
  intro W base args ds gs before hval0 hW _ hsz0 _
  have hsz : (DataW.weightsEach Try.prog (Try.f7.params.toList ++ Rows.diskFuseSpec.plain.varTypes Try.prog) (ds ++ gs)).all (· ≤ reachBytes) = true := hsz0
  have hval : ∀ (j : Nat) t v, Try.f7.params[j]? = some t → args[j]? = some v → Value.okWide Try.prog W .any base t v := hval0
  have hW' := hW
  obtain ⟨p, q, hA0, hV, rfl, _, _⟩ := hW
  have hA : DataW.TrodAll enc Try.prog W 0 (fun _ => true) true Try.f7.params.toList args.toList ds p := hA0
  rw [Try.params7] at hA hval hsz
  obtain ⟨v0, vs0, d0, ds0, p0, q0, hargs, rfl, rfl, h0, r0⟩ := trodAll_cons hA
  obtain ⟨v1, vs1, d1, ds1, p1, q1, rfl, rfl, rfl, h1, r1⟩ := trodAll_cons r0
  obtain ⟨v2, vs2, d2, ds2, p2, q2, rfl, rfl, rfl, h2, r2⟩ := trodAll_cons r1
  obtain ⟨rfl, rfl, rfl⟩ := trodAll_nil r2
  obtain rfl : args = #[v0, v1, v2] := by cases args; simp_all
  obtain ⟨a0, rfl, rfl, rfl, w0⟩ := open_int Try.underlying3 (hval 0 3 v0 rfl rfl) h0
  have b0 := bounds_i64 w0
  obtain ⟨A1, az1, c1, ha1⟩ := open_acts (hval 1 43 v1 rfl rfl) h1 (sized_mem hsz (j := 1) (t := 43) rfl rfl)
  obtain rfl := ha1.val
  obtain ⟨a2, rfl, rfl, rfl, w2⟩ := open_int Try.underlying3 (hval 2 3 v2 rfl rfl) h2
  have b2 := bounds_i64 w2
  exact law_close laid rfl hW' (by kernel_rfl) rfl Try.underlying4 rfl (fuse_walk a0 A1 az1 c1 a2 W b2 ha1)

theorem diskFuse_holds : Rows.DiskFuseSaid :=
  OpenClaim.holds_of_wide 7 Try.f7 rfl rfl rfl rfl rfl rfl rfl ⟨rfl, rfl, rfl, rfl, rfl⟩ rfl rfl rfl rfl rfl (by kernel_rfl) Try.func7 (by kernel_rfl)
    (of_decide_eq_true (by kernel_rfl)) (by unfold Func.isWrapper; first | (rw [if_pos (by decide +kernel)]; kernel_rfl) | (rw [if_neg (by decide +kernel)]; exact ⟨rfl, rfl⟩))
    (fun os started H enc _ => dfuse_lifted os started H enc)

#print axioms diskFuse_holds
end Go.Proofs.Ytnpomiidkdnebaa
