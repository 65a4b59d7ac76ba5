/- The walk over the document's Crash. -/
import Derived.Test.YtnpomiidkdnebaaDRTurn
import Derived.Test.YtnpomiidkdnebaaDCrash
namespace Go.Proofs.Ytnpomiidkdnebaa
open Go.RowKit
set_option linter.unusedVariables false

theorem pos_get {fs : List Fl} (hs : Srt fs) {k : Nat} (hk : k < fs.length) : pos fs fs[k].nm = k := by
  refine pos_eq fs _ k (Nat.le_of_lt hk) (fun j hj hjk => ?_) (fun _ => List.lt_irrefl _)
  exact List.pairwise_iff_getElem.1 hs j k hj hk hjk
theorem crsN_set {n : Nat} {fs : List Fl} (ks : List Int) (h : Srt fs) (hn : n < fs.length) : (crsN n fs ks).set n (cutTo fs[n] (ks.getD n 0)) = crsN (n + 1) fs ks := by
  have hn' : n < (crsN n fs ks).length := by rw [crsN_length]; exact hn
  have he : (crsN n fs ks)[n] = fs[n] := by simp [crsN]
  have hp := pos_get (crsN_srt (n := n) (ks := ks) h) hn'
  rw [he] at hp
  have := upd_pos (crsN_srt (n := n) (ks := ks) h) (crsN_find ks h hn) (fun f => cutTo f (ks.getD n 0))
  rw [hp] at this
  rw [this]
  exact crsN_step ks h hn
theorem crsN_at {n : Nat} {fs : List Fl} (ks : List Int) (hn : n < fs.length) : (crsN n fs ks)[n]? = some fs[n] := by
  simp [crsN, hn]

theorem own_less {w : World} {B n m b : Nat} {e : TypeId} {A : Option Addr} {xs : List Value} (h : w.ownsRow B e 1 (.slice A n b) n xs) (hm : m ≤ n) : w.ownsRow B e 1 (.slice A m b) m (xs.take m) := by
  have hl := h.1
  rcases h.2 with ⟨hv, h0⟩ | ⟨g, cap, cur, hv, h2, h3, h4, h5, h6, h7⟩
  · injection hv with e1 e2 e3
    subst e1 e3
    have : m = 0 := by omega
    subst this
    exact ⟨by simp, .inl ⟨rfl, rfl⟩⟩
  · injection hv with e1 e2 e3
    subst e1 e3
    refine ⟨by rw [List.length_take]; omega, .inr ⟨g, b, cur, rfl, h2, h3, by omega, h5, h6, ?_⟩⟩
    rw [← h7, List.take_take]
    congr 1
    omega

section
variable {S S' : Nat → Prop} {x : Nat} {v : Value} {rs : List RFl} {fz : Int} {D : Dsk} {w : World}

theorem RfAt.cut_at (h : RfAt w S x v rs fz D) {k : Nat} {f : Fl} (hf : D.files[k]? = some f) :
    ∃ g n c B b, v = .slice (some ⟨g, 0, none⟩) n c ∧ S g ∧ n = rs.length ∧ (n : Int) ≤ 9223372036854775807 ∧ n ≤ c ∧ k < n ∧ w.cell? ⟨g, k * 3 + 1, none⟩ = some (.slice B f.bs.length b) ∧ w.cell? ⟨g, k * 3 + 2, none⟩ = some (.int .i64 f.sy) ∧ (∀ i, w.frozen? ⟨g, i, none⟩ = false) ∧ f.bs.length ≤ b ∧ b ≤ maxLen ∧ g < w.heap.size ∧
      ∀ m, m ≤ f.bs.length → ∃ rs', RfAt ((w.setCell ⟨g, k * 3 + 1, none⟩ (.slice B m b)).setCell ⟨g, k * 3 + 2, none⟩ (.int .i64 m)) S x v rs' fz { D with files := D.files.set k { f with bs := f.bs.take m, sy := m } } := by
  obtain ⟨A, c, rfl, h63, hnc, hcm, hA⟩ := rowed h.own
  have hk : k < rs.length := by rw [h.len]; exact (List.getElem?_eq_some_iff.1 hf).1
  have hfk : rs[k].f = f := by
    have h1 := h.nm hk
    rw [hf] at h1
    exact (Option.some.inj h1).symm
  obtain ⟨g, rfl, hgo, k0, k1, k2, hfr⟩ := hA _ hk
  have hrow := h.byt _ (List.getElem_mem hk)
  have hrb := h.sb _ (List.getElem_mem hk)
  obtain ⟨B, b, hv, _, hb1, hb2, _⟩ := own_open hrow
  rw [hfk] at hv k0 k2 hrow hb1
  rw [hv] at k1 hrow hrb
  refine ⟨g, _, c, B, b, rfl, h.sv g hgo, rfl, h63, hnc, hk, k1, k2, hfr, hb1, hb2, World.block_lt_of_cell? w _ k1, fun m hm => ?_⟩
  have hl : ∀ r : RFl, k < (rs.set k r).length := fun r => by simpa using hk
  have hrow2 : w.ownsRow 0 5 1 (.slice B m b) (f.bs.take m).length (c8 (f.bs.take m)) := by
    have := own_less hrow hm
    rw [show (c8 f.bs).take m = c8 (f.bs.take m) by simp [c8, List.map_take]] at this
    rw [List.length_take, Nat.min_eq_left hm]
    exact this
  have hb' : ∀ j, Value.ownBlock (.slice B m b) = some j → S j := fun j hj => hrb j (by cases B with
    | none => cases hj
    | some a => exact hj)
  have h1 := h.fileset (g := g) rfl (j := k) (i := k * 3 + 1) (u := .slice B m b) ⟨{ f with bs := f.bs.take m }, .slice B m b⟩ (by omega)
    (cR_set1 hk _ _ (by rw [hfk]) (by rw [hfk]) rfl) hrow2 (fun _ h => h) h.lt hb'
  have h2 := h1.fileset (g := g) rfl (j := k) (i := k * 3 + 2) (u := .int .i64 m) ⟨{ f with bs := f.bs.take m, sy := m }, .slice B m b⟩ (by rw [List.length_set]; omega)
    (cR_set2 (hl _) _ _ (by simp) rfl (by simp)) (h1.byt ⟨{ f with bs := f.bs.take m }, .slice B m b⟩ (List.mem_of_getElem? (List.getElem?_set_self hk))) (fun _ h => h) h1.lt hb'
  simp only [List.set_set] at h2
  exact ⟨_, h2⟩

set_option maxHeartbeats 4000000 in
set_option maxRecDepth 5000 in
theorem rcrash_any (Ak : Option Addr) (ks : List Int) (n c : Nat) (w : World) (h : RfAt w S x v rs fz D) (hok : Okd D) (hn : ks.length = n) (hnl : n ≤ 9223372036854775807) (hk64 : ∀ z ∈ ks, z ≤ 9223372036854775807)
    (hkr : Rds w w.heap.size Ak (cN ks)) (hkS : ∀ ad, Ak = some ad → cN ks ≠ [] → ¬ S ad.block) :
    Calls Try.prog 56 #[.pointer (some ⟨x, 0, none⟩), .slice Ak n c] w fun e w' => e = .returned (.int .i64 (dCrash D ks).1) ∧ ∃ S', Rf w' S' x (dCrash D ks).2 ∧ Turn S S' w w' := by
  have hn63 : (n : Int) ≤ 9223372036854775807 := by omega
  cases hneg : ks.any isNeg
  · have e1 : dCrash D ks = (0, { D with files := crs D.files ks, off := false, fuse := -1 }) := by
      unfold dCrash
      have : ks.any (fun k => decide (k < 0)) = false := hneg
      rw [this]
      rfl
    rw [e1]
    have hpos : ∀ k (hk : k < ks.length), 0 ≤ ks[k] := fun k hk => by
      have := List.any_eq_false.1 hneg _ (List.getElem_mem hk)
      simp only [isNeg, decide_eq_true_eq] at this
      omega
    have hsort := hok.srt
    have hsy := hok.sy
    have hl30 : ∀ k (hk : k < D.files.length), D.files[k].bs.length ≤ 1073741824 := fun k hk => len30 hok _ _ (find_mem hok.srt (List.getElem_mem hk))
    have hstart : RfAt w S x v rs fz { D with files := crsN 0 D.files ks } := by rw [crsN_zero]; exact h
    have hlen := h.len
    have HST := Lib.hid hstart
    have HKR := Lib.hid hkr
    have HKS := Lib.hid hkS
    have HN := Lib.hid hn
    have HP := Lib.hid hpos
    have HK := Lib.hid hk64
    have HSR := Lib.hid hsort
    have HSY := Lib.hid hsy
    have HL3 := Lib.hid hl30
    obtain ⟨N, hN⟩ : ∃ N, N = D.files.length := ⟨_, rfl⟩
    have HNN := Lib.hid hN
    have HLL := Lib.hid hlen
    clear hstart hkr hkS hn hpos hsort hsy hl30 hN hlen hneg h hk64 e1
    go_enter Try.func56, Try.ntmps56
    go_wp2
    go_loop [5] (fun i => ∃ k : Nat, k ≤ n ∧ i = .int .i64 k) (fun i => n - (intOf i).toNat)
    case atStart => exact ⟨0, Nat.zero_le _, rfl⟩
    case round =>
      obtain ⟨k, hk, rfl⟩ := hrel
      by_cases hlt : k < n
      · have hkl : k < ks.length := by rw [HN.out]; exact hlt
        obtain ⟨ad, rfl, _, hcell⟩ := HKR.out.at_ (cN_get hkl)
        have hp := HP.out k hkl
        generalize ks[k] = z at *
        go_wp2
        go_round
        case rel => exact ⟨k + 1, by omega, by go_num⟩
        case measure => simp [intOf]; omega
      · go_wp2
        go_loopw [6, 7] (fun i u wr => ∃ (k : Nat) (rs' : List RFl), k ≤ N ∧ i = .int .i64 k ∧ RfAt wr S x v rs' fz { D with files := crsN k D.files ks } ∧ Turn S S w wr) (fun i u _ => N - (intOf i).toNat)
        case atStart => exact ⟨0, rs, Nat.zero_le _, rfl, HST.out, Turn.refl _ _⟩
        case round =>
          obtain ⟨k2, rs2, hk2, rfl, h2, hT2⟩ := hrel
          have hNn : N = rs2.length := by rw [h2.len, HNN.out]; exact (crsN_length _ _ _).symm
          have hNc : ∃ A c', v = .slice A N c' := by
            obtain ⟨A, c', e, _⟩ := rowed h2.own
            exact ⟨A, c', by rw [e, hNn]⟩
          by_cases hlt2 : k2 < N
          · have hkf : k2 < D.files.length := by rw [← HNN.out]; exact hlt2
            have c1 := h2.c1
            obtain ⟨g, n2, c2, B, b, rfl, hSg, hn2, hn263, hnc2, hkn2, k1, kk2, kf, hfb, hbm, hgs, hset⟩ := h2.cut_at (crsN_at ks hkf)
            have hsy := HSY.out _ (List.getElem_mem hkf)
            have hl3 := HL3.out k2 hkf
            have hstep := crsN_set (n := k2) ks HSR.out hkf
            rw [← hNn] at hn2
            subst hn2
            obtain ⟨m, hm⟩ : ∃ m, m = keptOf D.files[k2] (ks.getD k2 0) := ⟨_, rfl⟩
            have hmle : m ≤ D.files[k2].bs.length := by rw [hm]; unfold keptOf; omega
            have hmge : D.files[k2].sy ≤ m := by rw [hm]; unfold keptOf; omega
            obtain ⟨rs3, h3⟩ := hset m hmle
            have hcut : ({ D.files[k2] with bs := D.files[k2].bs.take m, sy := m } : Fl) = cutTo D.files[k2] (ks.getD k2 0) := by rw [hm]; rfl
            rw [hcut] at h3
            simp only [hstep] at h3
            have hT3 : Turn S S w ((wr.setCell ⟨g, k2 * 3 + 1, none⟩ (.slice B m b)).setCell ⟨g, k2 * 3 + 2, none⟩ (.int .i64 m)) := ⟨(hT2.outs.setCell (p := ⟨g, _, none⟩) (.inl hSg) _).setCell (p := ⟨g, _, none⟩) (.inl hSg) _, hT2.new⟩
            have k1f := kf (k2 * 3 + 1)
            have k2f := kf (k2 * 3 + 2)
            have HT3 := Lib.hid hT3
            have H3 := Lib.hid h3
            have hmb : m ≤ b := by omega
            have hb63 : (b : Int) ≤ 9223372036854775807 := by unfold maxLen at hbm; omega
            have hk2n : (k2 : Int) < (n2 : Int) := by omega
            have hgx : g ≠ x := by
              obtain ⟨_, _, cs, hh⟩ := ownRow_block h2.own (g := g) rfl
              exact (Whole.ne (cs := cs) hh h2.top (by decide))
            have d1 : (wr.setCell ⟨g, k2 * 3 + 1, none⟩ (.slice B m b)).cell? ⟨x, 1, none⟩ = some (.slice (some ⟨g, 0, none⟩) n2 c2) := (World.cell?_setCell_other wr ⟨g, k2 * 3 + 1, none⟩ ⟨x, 1, none⟩ _ (fun e => hgx (congrArg Addr.block e))).trans c1
            have d2 : (wr.setCell ⟨g, k2 * 3 + 1, none⟩ (.slice B m b)).cell? ⟨g, k2 * 3 + 2, none⟩ = some (.int .i64 D.files[k2].sy) := (World.cell?_setCell_other wr ⟨g, k2 * 3 + 1, none⟩ ⟨g, k2 * 3 + 2, none⟩ _ (fun e => by have := congrArg Addr.off e; simp at this)).trans kk2
            clear hT3 h3 hset hcut hstep kf h2
            by_cases hin : k2 < n
            · have hkl2 : k2 < ks.length := by rw [HN.out]; exact hin
              have hgd : ks.getD k2 0 = ks[k2] := by simp [hkl2]
              rw [hgd] at hm
              obtain ⟨ad, rfl, hadb, hcell0⟩ := HKR.out.at_ (cN_get hkl2)
              have hne : cN ks ≠ [] := fun e => by
                have h0 := congrArg List.length e
                rw [cN_length] at h0
                rw [h0] at hkl2
                exact absurd hkl2 (Nat.not_lt_zero _)
              have hcell := (hT2.outs.cell (p := ad.add k2) (by rw [blk_add]; exact hadb) (by rw [blk_add]; exact HKS.out ad rfl hne)).trans hcell0
              have hp := HP.out k2 hkl2
              have hk6 := HK.out _ (List.getElem_mem hkl2)
              generalize ks[k2] = z at *
              have hw1 : IntKind.i64.wrap ((D.files[k2].bs.length : Int) - (D.files[k2].sy : Int)) = (D.files[k2].bs.length : Int) - D.files[k2].sy := IntWalk.i64_in _ (by omega)
              have hmin : ∃ M : Nat, (M : Int) = min z ((D.files[k2].bs.length : Int) - D.files[k2].sy) := ⟨(min z ((D.files[k2].bs.length : Int) - D.files[k2].sy)).toNat, by omega⟩
              obtain ⟨M, hM⟩ := hmin
              have hmM : (m : Int) = (D.files[k2].sy : Int) + M := by rw [hm]; unfold keptOf; omega
              have hw2 : IntKind.i64.wrap ((D.files[k2].sy : Int) + (M : Int)) = (m : Int) := by rw [hmM]; exact IntWalk.i64_in _ (by omega)
              have hM' := hM.symm
              clear hm hgd hM hmM hcell0 hp hk6 hne hadb
              generalize D.files[k2].bs.length = L at *
              generalize D.files[k2].sy = sy at *
              go_wp2
              go_quiet (fail)
              have H3q := Lib.hid (fun q => (H3.out.go (bDrewN (Below.refl _ _) q) : RfAt (((wr.drewN q).setCell ⟨g, k2 * 3 + 1, none⟩ (.slice B m b)).setCell ⟨g, k2 * 3 + 2, none⟩ (.int .i64 m)) S x (.slice (some ⟨g, 0, none⟩) n2 c2) rs3 fz _))
              have HT3q := Lib.hid (fun q => (⟨HT3.out.outs.drewN q, HT3.out.new⟩ : Turn S S w (((wr.drewN q).setCell ⟨g, k2 * 3 + 1, none⟩ (.slice B m b)).setCell ⟨g, k2 * 3 + 2, none⟩ (.int .i64 m))))
              have c1q : (wr.drewN nq).cell? ⟨x, 1, none⟩ = some (.slice (some ⟨g, 0, none⟩) n2 c2) := c1
              have k1q : (wr.drewN nq).cell? ⟨g, k2 * 3 + 1, none⟩ = some (.slice B L b) := k1
              have k2q : (wr.drewN nq).cell? ⟨g, k2 * 3 + 2, none⟩ = some (.int .i64 sy) := kk2
              have f1q : (wr.drewN nq).frozen? ⟨g, k2 * 3 + 1, none⟩ = false := k1f
              have f2q : (wr.drewN nq).frozen? ⟨g, k2 * 3 + 2, none⟩ = false := k2f
              have d1q : ((wr.drewN nq).setCell ⟨g, k2 * 3 + 1, none⟩ (.slice B m b)).cell? ⟨x, 1, none⟩ = some (.slice (some ⟨g, 0, none⟩) n2 c2) := d1
              have d2q : ((wr.drewN nq).setCell ⟨g, k2 * 3 + 1, none⟩ (.slice B m b)).cell? ⟨g, k2 * 3 + 2, none⟩ = some (.int .i64 sy) := d2
              have H3' := H3q.out nq
              have HT3' := HT3q.out nq
              clear H3q HT3q H3 HT3 c1 k1 kk2 k1f k2f d1 d2 hT2 HST
              generalize wr.drewN nq = W2 at *
              have H3 := Lib.hid H3'
              have HT3 := Lib.hid HT3'
              clear H3' HT3'
              go_wp2
              go_still_tail 17, (by kernel_rfl)
              change wpList _ _ _ _ _ W2.drew
              go_wp2
              go_roundw
              case rel => exact ⟨k2 + 1, rs3, by omega, by go_num, H3.out.go (bDrewN (Below.refl _ _) 1), ⟨HT3.out.outs.drew, HT3.out.new⟩⟩
              case measure => simp [intOf]; omega
            · have hgd : ks.getD k2 0 = 0 := by
                have : ¬ k2 < ks.length := by rw [HN.out]; exact hin
                simp [this]
              rw [hgd] at hm
              have hmsy : m = D.files[k2].sy := by rw [hm]; unfold keptOf; omega
              rw [← hmsy] at kk2 d2
              clear hm hgd hmsy
              generalize D.files[k2].bs.length = L at *
              go_wp2
              go_still_tail 17, (by kernel_rfl)
              change wpList _ _ _ _ _ wr.drew
              go_wp2
              go_roundw
              case rel => exact ⟨k2 + 1, rs3, by omega, by go_num, H3.out.go (bDrewN (Below.refl _ _) 1), ⟨HT3.out.outs.drew, HT3.out.new⟩⟩
              case measure => simp [intOf]; omega
          · obtain ⟨A, c', rfl⟩ := hNc
            have hkN : k2 = D.files.length := by rw [← HNN.out]; omega
            have hcr : crsN k2 D.files ks = crs D.files ks := by rw [hkN, crsN_all]
            rw [hcr] at h2
            have c1 := h2.c1
            have c4 := h2.c4
            have f4 := h2.fr 4
            have hh : RfAt (wr.setCell ⟨x, 4, none⟩ (.bool false)) S x (.slice A N c') rs2 fz { D with files := crs D.files ks, off := false } := h2.head 4 (.bool false) fz { D with files := crs D.files ks, off := false } rfl h2.fz rfl
            have hT3 : Turn S S w (wr.setCell ⟨x, 4, none⟩ (.bool false)) := ⟨hT2.outs.setCell (p := ⟨x, 4, none⟩) (.inl h2.sx) _, hT2.new⟩
            have hfr := rfree_any _ ⟨_, _, _, hh⟩
            clear hh h2 hcr
            have HT3 := Lib.hid hT3
            clear hT3 hT2
            go_wp2_with fail
            refine hfr.mono ?_
            rintro e w9 ⟨rfl, h9, hT9⟩
            have hT := HT3.out.trans hT9
            go_wp2
            go_returns
            exact ⟨by simp, S, h9, hT⟩
  · have e1 : dCrash D ks = (2, D) := by
      unfold dCrash
      have : ks.any (fun k => decide (k < 0)) = true := hneg
      rw [this]
      rfl
    rw [e1]
    obtain ⟨z0, hz0, hz1⟩ := List.any_eq_true.1 hneg
    obtain ⟨j0, hj0, rfl⟩ := List.mem_iff_getElem.1 hz0
    have hneg0 : ks[j0] < 0 := by simpa [isNeg] using hz1
    have HKR := Lib.hid hkr
    have HN := Lib.hid hn
    have HJ := Lib.hid hneg0
    have HR := Lib.hid h
    have hj0n : j0 < n := by rw [← hn]; exact hj0
    clear hkr hkS hn hneg h hk64 e1 hz0 hz1 hneg0
    go_enter Try.func56, Try.ntmps56
    go_wp2
    go_loop [5] (fun i => ∃ k : Nat, k ≤ j0 ∧ i = .int .i64 k) (fun i => n - (intOf i).toNat)
    case atStart => exact ⟨0, Nat.zero_le _, rfl⟩
    case round =>
      obtain ⟨k, hk, rfl⟩ := hrel
      have hlt : k < n := by omega
      have hkl : k < ks.length := by rw [HN.out]; exact hlt
      obtain ⟨ad, rfl, _, hcell⟩ := HKR.out.at_ (cN_get hkl)
      by_cases hz : ks[k] < 0
      · generalize ks[k] = z at *
        go_wp2
        go_returns
        exact ⟨by simp, S, ⟨_, _, _, HR.out⟩, Turn.refl _ _⟩
      · have hkj : k ≠ j0 := fun e => hz (by subst e; exact HJ.out)
        generalize ks[k] = z at *
        go_wp2
        go_round
        case rel => exact ⟨k + 1, by omega, by go_num⟩
        case measure => simp [intOf]; omega
end
end Go.Proofs.Ytnpomiidkdnebaa
