/- Several texts, each a section: JApp, JPut, JAll, JNos. -/
import Derived.Test.YtbobakfcmkaijaaGreatDoorM11
import Derived.Test.YtbobakfcmkaijaaGreatDoorM12
section
/- The journal's Append, Sync, All, First, Next. -/
namespace Go.Proofs.YtbobakfcmkaijaaGreatDoor
open Go.RowKit
set_option linter.unusedVariables false

section
variable {w w' w2 : World} {S T S' T' S2 T2 : Nat → Prop} {j d : Nat} {s : ByteArray} {D D' : Dsk} {J J' : Jn}

theorem jbegin_any (n : Nat) (w : World) (h : JD w S T j d s D J) (hn : n ≤ 9223372036854775807) (hf : J.segs.length ≤ 1099511627776) :
    Calls Tryz.prog 81 #[.pointer (some ⟨j, 0, none⟩), .int .u64 n] w fun r w' => r = .returned (.tuple #[]) ∧ ∃ T', JD w' S T' j d s D (jBegin J n) ∧ TurnJ S T S T' w w' ∧ Still w w' := by
  obtain ⟨vs, ms, hj, hs⟩ := h.jo
  have hlen : ms.length ≤ 1099511627776 := by
    have : J.segs.length = ms.length := by rw [hs]; simp
    omega
  refine (jbegin_at n w hj hn hlen).mono ?_
  rintro r w2 ⟨rfl, T', v', hj2, ht, hst⟩
  obtain ⟨h1, h2⟩ := h.jour (J' := jBegin J n) ⟨v', _, hj2, by simp [jBegin, hs, SgM.sg]⟩ ht.outs ht.new
  exact ⟨rfl, T', h1, h2, hst⟩

theorem addRec_snoc (p : List Sg) (m : Sg) (r : List Int) : addRec (p ++ [m]) r = p ++ [⟨m.num, m.recs ++ [r]⟩] := by
  unfold addRec
  rw [List.dropLast_concat, getLastD_snoc]

/-- a record, of whatever memory of nobody else's, behind the others -/
theorem jnote_any (x : RcM) (w : World) (h : JD w S T j d s D J) (hx : w.ownsRow 0 5 1 x.v x.r.length (c8 x.r)) (hxS : ∀ g, x.v.ownBlock = some g → ¬ S g ∧ g ≠ 0) (hf : Fits J) (hne : J.segs ≠ []) (hxl : x.r.length ≤ 1099511627776) :
    Calls Tryz.prog 57 #[.pointer (some ⟨j, 0, none⟩), .slice x.A x.r.length x.c] w fun r w' => r = .returned (.tuple #[]) ∧ ∃ T', JD w' S T' j d s D (jNote J x.r) ∧ Outs T w w' ∧ (∀ k, T' k → T k ∨ w.heap.size ≤ k ∨ x.v.ownBlock = some k) ∧ Still w w' := by
  obtain ⟨vs, p, m, g, o, c, hj, hsg, hvs, ⟨hgv, hvo⟩, hlast, hpl, _, _⟩ := h.jo.last hne
  have hm1 := hf.recs m.sg (by rw [hsg]; simp)
  have hm2 := hf.size m.sg (by rw [hsg]; simp)
  have hm3 : m.rs.length = m.sg.recs.length := by simp [SgM.sg]
  refine (jnote_at x w hj hx hf.next (by have := hf.segs; omega) (by omega) (by omega) hxl).mono ?_
  rintro r w2 ⟨rfl, v', hj2, ho, hv, hst⟩
  have hlt := h.dk.lt
  have hp := h.pow.lt
  refine ⟨rfl, _, ⟨h.dk.outs ho (fun k hs ht => h.dis k ht hs), ⟨vs, _, hj2, ?_⟩, ?_, h.s0, ?_, h.pow.outs ho h.t0, h.nm⟩, ho, ?_, hst⟩
  · show addRec J.segs x.r = _
    rw [hsg, addRec_snoc]
    simp [SgM.sg]
  · rintro k (hk | hk | hk) hs
    · exact h.dis k hk hs
    · rcases hv k hk with e | e
      · exact h.dis k e hs
      · have := hlt k hs; omega
    · exact (hxS k hk).1 hs
  · rintro (hk | hk | hk)
    · exact h.t0 hk
    · rcases hv _ hk with e | e
      · exact h.t0 e
      · omega
    · exact (hxS _ hk).2 rfl
  · rintro k (hk | hk | hk)
    · exact .inl hk
    · rcases hv k hk with e | e
      · exact .inl e
      · exact .inr (.inl e)
    · exact .inr (.inr hk)

/-! ## extend -/
theorem JD.next (h : JD w S T j d s D J) : w.cell? ⟨j, 4, none⟩ = some (.int .u64 J.next) := by
  obtain ⟨vs, ms, hj, _⟩ := h.jo
  exact hj.c4
theorem jEnd_ne {e : Int} (h : e ≠ 10) (J : Jn) : jEnd J e = J := by simp [jEnd, h]
theorem syncLast_ok {l : Nm} {D : Dsk} {J : Jn} (h : Okd D) : Okd (jSyncLast l D J).2.1 ∧ (jSyncLast l D J).2.1.steps ≤ D.steps + 1 ∧ ((jSyncLast l D J).1 ≠ 10 → (jSyncLast l D J).2.2 = J) := by
  unfold jSyncLast
  split
  · exact ⟨h, Nat.le_succ _, fun _ => rfl⟩
  · exact ⟨okd_sync h _, (steps_sync D _).1, fun h => jEnd_ne h J⟩
set_option maxHeartbeats 3200000 in
set_option maxRecDepth 40000 in
/-- behind a sync of the last one: another segment -/
theorem extend_any (w : World) (h : JD w S T j d s D J) (hr : D.steps + 200 ≤ 1099511627776) (hok : Okd D) (hf : Fits J) :
    Calls Tryz.prog 51 #[.pointer (some ⟨j, 0, none⟩)] w fun e w' => e = .returned (.int .i64 (jExtend s.data.toList D J).1) ∧ ∃ S' T', JD w' S' T' j d s (jExtend s.data.toList D J).2.1 (jExtend s.data.toList D J).2.2 ∧ TurnJ S T S' T' w w' := by
  by_cases hne : J.segs = []
  · have hfull := Lib.hid (show ¬ (J.segs ≠ [] ∧ J.last.size < 4096) from fun h => h.1 hne)
    have c5 : ∃ A c, w.cell? ⟨j, 5, none⟩ = some (.slice A 0 c) := by
      obtain ⟨vs, ms, hj, hs⟩ := h.jo
      have hms : ms = [] := by
        rw [hne] at hs
        exact (List.map_eq_nil_iff.1 hs.symm)
      subst hms
      obtain ⟨A, c, e⟩ := o_any hj.row
      exact ⟨A, c, by rw [hj.c5, e]; rfl⟩
    obtain ⟨A, c, c5⟩ := c5
    have c4 := h.next
    have hb := Lib.hid (Below.refl w.heap.size w)
    have H1 := Lib.hid h
    clear h hne
    by_cases hmax : maxNo < J.next
    · have e1 : jExtend s.data.toList D J = (2, D, J) := by simp [jExtend, hfull.out, hmax]
      have E1 := Lib.hid e1
      have hmx : (999999999999 : Int) < J.next := by unfold maxNo at hmax; omega
      clear e1 hmax
      go_enter Tryz.func51, Tryz.ntmps51
      go_wp2
      go_returns
      rw [E1.out]
      exact ⟨by simp, S, T, H1.out, TurnJ.below hb.out⟩
    · have hmx : ¬ (999999999999 : Int) < J.next := by unfold maxNo at hmax; omega
      have hsync := syncLast_any w H1.out (okd_room hok (by omega)) hf
      have hnx : J.next ≤ maxNo := by omega
      go_enter Tryz.func51, Tryz.ntmps51
      by_cases he : (jSyncLast s.data.toList D J).1 = 0
      · have e1 : jExtend s.data.toList D J = jNew s.data.toList (jSyncLast s.data.toList D J).2.1 (jSyncLast s.data.toList D J).2.2 := by simp [jExtend, hfull.out, hmax, he]
        obtain ⟨hokD, hst1, hJ1⟩ := syncLast_ok (l := s.data.toList) (J := J) hok
        have hJ1 := hJ1 (by rw [he]; decide)
        rw [hJ1] at e1
        rw [he, hJ1] at hsync
        have E1 := Lib.hid e1
        clear e1 he hJ1 hmax
        generalize (jSyncLast s.data.toList D J).2.1 = D1 at *
        go_wp2_with fail
        refine hsync.mono ?_
        rintro e w2 ⟨rfl, S2, h2, ht2⟩
        have hfile := jfile_any J.next hnx w2 h2
        have c42 : w2.cell? ⟨j, 4, none⟩ = some (.int .u64 J.next) := h2.next
        have H2 := Lib.hid h2
        have HT2 := Lib.hid ((TurnJ.below hb.out : TurnJ S T S T w w).trans ht2)
        clear hsync h2 ht2 H1
        go_wp2_with fail
        refine hfile.mono ?_
        rintro e w3 ⟨rfl, hb3⟩
        have h3 := H2.out.go hb3
        have HT3 := Lib.hid (HT2.out.trans (TurnJ.below hb3))
        have hsz := seg_size h3.nm J.next
        have hst := jstep_any 80 #[] (strOf (segN s.data.toList J.next)) _ w3 h3 make_enters (does_make _ (by omega) h3.dk (okd_room hokD (by omega)))
        clear hfile h3 H2 HT2 hb3
        by_cases hm : (dMake D1 (segN s.data.toList J.next)).1 = 0
        · have e2 : jNew s.data.toList D1 J = (0, (dMake D1 (segN s.data.toList J.next)).2, jBegin J J.next) := by simp [jNew, hm]
          have E2 := Lib.hid e2
          rw [hm, show jEnd J 0 = J by simp [jEnd]] at hst
          clear e2 hm
          generalize (dMake D1 (segN s.data.toList J.next)).2 = D2 at *
          go_wp2_with fail
          refine hst.mono ?_
          rintro e w4 ⟨rfl, S4, h4, ht4⟩
          have hbeg := jbegin_any J.next w4 h4 (by have := hf.next; omega) (by have := hf.segs; omega)
          have c44 : w4.cell? ⟨j, 4, none⟩ = some (.int .u64 J.next) := h4.next
          have HT4 := Lib.hid (HT3.out.trans ht4)
          clear hst h4 ht4 HT3
          go_wp2_with fail
          refine hbeg.mono ?_
          rintro e w5 ⟨rfl, T5, h5, ht5, _⟩
          have H5 := Lib.hid h5
          have HT5 := Lib.hid (HT4.out.trans ht5)
          clear hbeg h5 ht5
          go_wp2
          go_returns
          rw [E1.out, E2.out]
          exact ⟨by simp, S4, T5, H5.out, HT5.out⟩
        · have e2 : jNew s.data.toList D1 J = jStep J (dMake D1 (segN s.data.toList J.next)) := by simp [jNew, hm]
          have E2 := Lib.hid e2
          have hmn : ((dMake D1 (segN s.data.toList J.next)).1 != 0) = true := by simpa using hm
          generalize dMake D1 (segN s.data.toList J.next) = r at *
          clear e2 hm
          go_wp2_with fail
          refine hst.mono ?_
          rintro e w4 ⟨rfl, S4, h4, ht4⟩
          have H4 := Lib.hid h4
          have HT4 := Lib.hid (HT3.out.trans ht4)
          clear hst h4 ht4 HT3
          go_wp2
          go_returns
          rw [E1.out, E2.out]
          exact ⟨by simp [jStep], S4, T, H4.out, HT4.out⟩
      · have e1 : jExtend s.data.toList D J = jSyncLast s.data.toList D J := by simp [jExtend, hfull.out, hmax, he]
        have E1 := Lib.hid e1
        have hmn : ((jSyncLast s.data.toList D J).1 != 0) = true := by simpa using he
        generalize jSyncLast s.data.toList D J = r at *
        clear e1 he
        go_wp2_with fail
        refine hsync.mono ?_
        rintro e w2 ⟨rfl, S2, h2, ht2⟩
        have H2 := Lib.hid h2
        have HT2 := Lib.hid ((TurnJ.below hb.out : TurnJ S T S T w w).trans ht2)
        clear hsync h2 ht2 H1
        go_wp2
        go_returns
        rw [E1.out]
        exact ⟨by simp, S2, T, H2.out, HT2.out⟩
  · obtain ⟨vs, p, m, g, o, c, hj, hsg, hvs, ⟨hgv, hvo⟩, hlast, hpl, _, _⟩ := h.jo.last hne
    have c5 : w.cell? ⟨j, 5, none⟩ = some (.slice (some ⟨g, o, none⟩) (p.length + 1) c) := by rw [hj.c5, hvs]
    have hpn : 0 < (p.length : Int) + 1 := by omega
    have hlastc := jlast_at w c5 (by have := hf.segs; omega)
    have hrow := hj.row
    have H := Lib.hid h
    have c4 := h.next
    have hc1 := (o_cell (i := p.length * 3 + 1) (a := o + p.length * 3 + 1) hrow hgv (cG_at p m [] 1 (by decide)) (by omega)).1
    by_cases hsm : m.sg.size < 4096
    · have e1 : jExtend s.data.toList D J = (0, D, J) := by
        unfold jExtend
        rw [if_pos ⟨hne, by rw [hlast]; exact hsm⟩]
      rw [e1]
      have hsi : (m.sg.size : Int) < 4096 := by omega
      have hc1' : ∀ q, (w.drewN q).cell? ⟨g, o + p.length * 3 + 1, none⟩ = some (.int .i64 (m.sg.size : Nat)) := fun q => hc1
      clear h hj hrow hc1 hvs hgv hvo hlast hsg e1 hsm
      go_enter Tryz.func51, Tryz.ntmps51
      go_wp2_with fail
      refine hlastc.mono ?_
      rintro e w1 ⟨rfl, q, rfl⟩
      have hc := hc1' q
      have hb1 : Below w.heap.size w (w.drewN q) := bDrewN (Below.refl _ w) q
      have H1 := Lib.hid (H.out.go hb1)
      clear hlastc hc1' H
      generalize w.drewN q = w1 at *
      go_wp2
      go_returns
      exact ⟨by simp, S, T, H1.out, TurnJ.below hb1⟩
    · have hfull := Lib.hid (show ¬ (J.segs ≠ [] ∧ J.last.size < 4096) by rw [hlast]; exact fun h => hsm h.2)
      have hsi : ¬ (m.sg.size : Int) < 4096 := by omega
      have hc1' : ∀ q, (w.drewN q).cell? ⟨g, o + p.length * 3 + 1, none⟩ = some (.int .i64 (m.sg.size : Nat)) := fun q => hc1
      clear h hj hrow hc1 hvs hgv hvo hlast hsg hsm
      go_enter Tryz.func51, Tryz.ntmps51
      go_wp2_with fail
      refine hlastc.mono ?_
      rintro e w1 ⟨rfl, q, rfl⟩
      have hc := hc1' q
      have hb := Lib.hid (show Below w.heap.size w (w.drewN q) from bDrewN (Below.refl _ w) q)
      have H1 := Lib.hid (H.out.go hb.out)
      have c41 := H1.out.next
      clear hlastc hc1' H c4 c5
      generalize w.drewN q = w1 at *
      by_cases hmax : maxNo < J.next
      · have e1 : jExtend s.data.toList D J = (2, D, J) := by simp [jExtend, hfull.out, hmax]
        have E1 := Lib.hid e1
        have hmx : (999999999999 : Int) < J.next := by unfold maxNo at hmax; omega
        clear e1 hmax
        go_wp2
        go_returns
        rw [E1.out]
        exact ⟨by simp, S, T, H1.out, TurnJ.below hb.out⟩
      · have hmx : ¬ (999999999999 : Int) < J.next := by unfold maxNo at hmax; omega
        have hsync := syncLast_any w1 H1.out (okd_room hok (by omega)) hf
        have hnx : J.next ≤ maxNo := by omega
        by_cases he : (jSyncLast s.data.toList D J).1 = 0
        · have e1 : jExtend s.data.toList D J = jNew s.data.toList (jSyncLast s.data.toList D J).2.1 (jSyncLast s.data.toList D J).2.2 := by simp [jExtend, hfull.out, hmax, he]
          obtain ⟨hokD, hst1, hJ1⟩ := syncLast_ok (l := s.data.toList) (J := J) hok
          have hJ1 := hJ1 (by rw [he]; decide)
          rw [hJ1] at e1
          rw [he, hJ1] at hsync
          have E1 := Lib.hid e1
          clear e1 he hJ1 hmax
          generalize (jSyncLast s.data.toList D J).2.1 = D1 at *
          go_wp2_with fail
          refine hsync.mono ?_
          rintro e w2 ⟨rfl, S2, h2, ht2⟩
          have hfile := jfile_any J.next hnx w2 h2
          have c42 : w2.cell? ⟨j, 4, none⟩ = some (.int .u64 J.next) := h2.next
          have H2 := Lib.hid h2
          have HT2 := Lib.hid ((TurnJ.below hb.out : TurnJ S T S T w w1).trans ht2)
          clear hsync h2 ht2 H1
          go_wp2_with fail
          refine hfile.mono ?_
          rintro e w3 ⟨rfl, hb3⟩
          have h3 := H2.out.go hb3
          have HT3 := Lib.hid (HT2.out.trans (TurnJ.below hb3))
          have hsz := seg_size h3.nm J.next
          have hst := jstep_any 80 #[] (strOf (segN s.data.toList J.next)) _ w3 h3 make_enters (does_make _ (by omega) h3.dk (okd_room hokD (by omega)))
          clear hfile h3 H2 HT2 hb3
          by_cases hm : (dMake D1 (segN s.data.toList J.next)).1 = 0
          · have e2 : jNew s.data.toList D1 J = (0, (dMake D1 (segN s.data.toList J.next)).2, jBegin J J.next) := by simp [jNew, hm]
            have E2 := Lib.hid e2
            rw [hm, show jEnd J 0 = J by simp [jEnd]] at hst
            clear e2 hm
            generalize (dMake D1 (segN s.data.toList J.next)).2 = D2 at *
            go_wp2_with fail
            refine hst.mono ?_
            rintro e w4 ⟨rfl, S4, h4, ht4⟩
            have hbeg := jbegin_any J.next w4 h4 (by have := hf.next; omega) (by have := hf.segs; omega)
            have c44 : w4.cell? ⟨j, 4, none⟩ = some (.int .u64 J.next) := h4.next
            have HT4 := Lib.hid (HT3.out.trans ht4)
            clear hst h4 ht4 HT3
            go_wp2_with fail
            refine hbeg.mono ?_
            rintro e w5 ⟨rfl, T5, h5, ht5, _⟩
            have H5 := Lib.hid h5
            have HT5 := Lib.hid (HT4.out.trans ht5)
            clear hbeg h5 ht5
            go_wp2
            go_returns
            rw [E1.out, E2.out]
            exact ⟨by simp, S4, T5, H5.out, HT5.out⟩
          · have e2 : jNew s.data.toList D1 J = jStep J (dMake D1 (segN s.data.toList J.next)) := by simp [jNew, hm]
            have E2 := Lib.hid e2
            have hmn : ((dMake D1 (segN s.data.toList J.next)).1 != 0) = true := by simpa using hm
            generalize dMake D1 (segN s.data.toList J.next) = r at *
            clear e2 hm
            go_wp2_with fail
            refine hst.mono ?_
            rintro e w4 ⟨rfl, S4, h4, ht4⟩
            have H4 := Lib.hid h4
            have HT4 := Lib.hid (HT3.out.trans ht4)
            clear hst h4 ht4 HT3
            go_wp2
            go_returns
            rw [E1.out, E2.out]
            exact ⟨by simp [jStep], S4, T, H4.out, HT4.out⟩
        · have e1 : jExtend s.data.toList D J = jSyncLast s.data.toList D J := by simp [jExtend, hfull.out, hmax, he]
          have E1 := Lib.hid e1
          have hmn : ((jSyncLast s.data.toList D J).1 != 0) = true := by simpa using he
          generalize jSyncLast s.data.toList D J = r at *
          clear e1 he
          go_wp2_with fail
          refine hsync.mono ?_
          rintro e w2 ⟨rfl, S2, h2, ht2⟩
          have H2 := Lib.hid h2
          have HT2 := Lib.hid ((TurnJ.below hb.out : TurnJ S T S T w w1).trans ht2)
          clear hsync h2 ht2 H1
          go_wp2
          go_returns
          rw [E1.out]
          exact ⟨by simp, S2, T, H2.out, HT2.out⟩
end
end Go.Proofs.YtbobakfcmkaijaaGreatDoor
end

section
/- The journal's Append. -/
namespace Go.Proofs.YtbobakfcmkaijaaGreatDoor
open Go.RowKit
set_option linter.unusedVariables false

section
variable {w w' w2 : World} {S T S' T' S2 T2 : Nat → Prop} {j d : Nat} {s : ByteArray} {D D' : Dsk} {J J' : Jn}

theorem write_enters : ∀ args w, (callFunc 52 args).run Tryz.prog w = .ok (.enter 52 args) w := enters_of Tryz.func52 (by kernel_rfl) rfl
theorem does_write (l : Nm) (hl : (strOf l).size ≤ 9223372036854775807) (b : List Int) (A : Option Addr) (L c bx : Nat) (h : Dk 0 w S d D) (hr : Room D) (hok : Okd D)
    (hbL : b.length = L) (hLc : L ≤ c) (hL63 : L ≤ 9223372036854775807) (hA0 : A = none → c = 0) (hrd : Rds w w.heap.size A (c8 b)) (hbS : ∀ ad, A = some ad → c8 b ≠ [] → ¬ S ad.block) (hbx : Whole w bx 30 #[.slice A L c]) :
    Does 52 #[.pointer (some ⟨bx, 0, none⟩)] (strOf l) w S d (dAppend D l b) := by
  have hcon := append_any (strOf l) hl b A L c w h hr hok hbL hLc hL63 hA0 hrd hbS
  rw [lst_strOf] at hcon
  have cb : w.cell? ⟨bx, 0, none⟩ = some (.slice A L c) := hbx.cell 0
  unfold Does
  show Calls Tryz.prog 52 #[.pointer (some ⟨d, 0, none⟩), .string (strOf l), .pointer (some ⟨bx, 0, none⟩)] w _
  generalize dAppend D l b = r at *
  clear hrd hbS hbx h hr hok
  go_enter Tryz.func52, Tryz.ntmps52
  go_wp2_with fail
  refine hcon.mono ?_
  rintro e w1 ⟨rfl, S', hk, ht⟩
  have HK := Lib.hid hk
  have HT := Lib.hid ht
  clear hcon hk ht
  go_wp2
  go_returns
  exact ⟨by simp, S', HK.out, HT.out⟩

theorem extend_fits {l : Nm} {D : Dsk} {J : Jn} (hf : Fits J) (hl : J.segs.length < 1073741824) (h : (jExtend l D J).1 = 0) : Fits (jExtend l D J).2.2 ∧ (jExtend l D J).2.2.segs ≠ [] := by
  unfold jExtend at h ⊢
  split at h
  · rename_i hs
    rw [if_pos hs]
    exact ⟨hf, hs.1⟩
  · rename_i hs
    rw [if_neg hs]
    split at h
    · cases h
    · rename_i hm
      rw [if_neg hm]
      split at h
      · rename_i he
        rw [if_pos he]
        have e2 : (jSyncLast l D J).2.2 = J := by
          unfold jSyncLast at he ⊢
          split
          · rfl
          · rename_i hne
            rw [if_neg hne] at he
            have he' : (dSync D (segN l J.last.num)).1 = 0 := he
            simp [jStep, he', jEnd]
        rw [e2] at h ⊢
        unfold jNew at h ⊢
        split at h
        · rename_i hk
          rw [if_pos hk]
          refine ⟨⟨hf.next, ?_, ?_, ?_, ?_⟩, by simp [jBegin]⟩
          · simp [jBegin]; omega
          · intro x hx
            rcases List.mem_append.1 hx with hx | hx
            · exact hf.nums x hx
            · obtain rfl := List.mem_singleton.1 hx
              show J.next ≤ maxNo
              omega
          · intro x hx
            rcases List.mem_append.1 hx with hx | hx
            · exact hf.recs x hx
            · obtain rfl := List.mem_singleton.1 hx
              simp
          · intro x hx
            rcases List.mem_append.1 hx with hx | hx
            · exact hf.size x hx
            · obtain rfl := List.mem_singleton.1 hx
              simp [Sg.size, rsz]
        · rename_i hk
          exact absurd h hk
      · rename_i he
        exact absurd h he
theorem make_okd {l : Nm} {D : Dsk} (h : Okd D) : Okd (dMake D l).2 ∧ (dMake D l).2.steps ≤ D.steps + 1 := ⟨okd_make h l, (steps_make D l).1⟩
theorem extend_ok {l : Nm} {D : Dsk} {J : Jn} (h : Okd D) : Okd (jExtend l D J).2.1 ∧ (jExtend l D J).2.1.steps ≤ D.steps + 2 := by
  obtain ⟨h1, h2, _⟩ := syncLast_ok (l := l) (J := J) h
  unfold jExtend
  split
  · exact ⟨h, by show D.steps ≤ _; omega⟩
  · split
    · exact ⟨h, by show D.steps ≤ _; omega⟩
    · split
      · obtain ⟨h3, h4⟩ := make_okd (l := segN l (jSyncLast l D J).2.2.next) h1
        unfold jNew
        split
        · exact ⟨h3, by show (dMake _ _).2.steps ≤ _; omega⟩
        · exact ⟨h3, by show (dMake _ _).2.steps ≤ _; omega⟩
      · exact ⟨h1, by omega⟩

theorem JD.off (h : JD w S T j d s D J) : w.cell? ⟨j, 3, none⟩ = some (.bool J.off) := by
  obtain ⟨vs, ms, hj, _⟩ := h.jo
  exact hj.c3
theorem Rds.outsW {lim : Nat} {U : Nat → Prop} {A : Option Addr} {xs : List Value} (h : Rds w lim A xs) (ho : Outs U w w') (hl : lim ≤ w.heap.size) (hn : ∀ ad, A = some ad → xs ≠ [] → ¬ U ad.block) : Rds w' w'.heap.size A xs := fun hne => by
  obtain ⟨ad, e, hb, hc⟩ := h hne
  refine ⟨ad, e, by have := ho.size; omega, fun k u hu => ?_⟩
  rw [ho.cell (by rw [blk_add]; omega) (by rw [blk_add]; exact hn ad e hne)]
  exact hc k u hu

theorem Rds.ofWhole {g : Nat} {t : TypeId} {zs : List Int} (h : Whole w g t (c8 zs).toArray) : Rds w w.heap.size (some ⟨g, 0, none⟩) (c8 zs) := fun _ =>
  ⟨_, rfl, h.lt, fun k u hu => by rw [addr_to, Nat.zero_add, h.cell k]; simpa using hu⟩

set_option maxHeartbeats 3200000 in
set_option maxRecDepth 40000 in
theorem jappend_any (A : Option Addr) (b : List Int) (n c : Nat) (w : World) (h : JD w S T j d s D J) (hr : D.steps + 300 ≤ 1099511627776) (hok : Okd D) (hf : Fits J) (hfl : J.segs.length < 1073741824)
    (hn : b.length = n) (hb : Byt b) (hnl : n ≤ 9223372036854775807) (hrd : Rds w w.heap.size A (c8 b)) (hA : ∀ ad, A = some ad → c8 b ≠ [] → ¬ S ad.block ∧ ¬ T ad.block) :
    Calls Tryz.prog 27 #[.pointer (some ⟨j, 0, none⟩), .slice A n c] w fun e w' => e = .returned (.tuple #[.int .u64 (jAppend s.data.toList D J b).1, .int .i64 (jAppend s.data.toList D J b).2.1]) ∧ ∃ S' T', JD w' S' T' j d s (jAppend s.data.toList D J b).2.2.1 (jAppend s.data.toList D J b).2.2.2 ∧ TurnJ S T S' T' w w' := by
  have c0 := h.jo.top0
  have c3 := h.off
  have hnb := jnobodys_no j w c0
  have H := Lib.hid h
  cases hoff : J.off
  · rw [hoff] at c3
    by_cases hlen : 65536 < n
    · have e1 : jAppend s.data.toList D J b = (0, 3, D, J) := by simp [jAppend, hoff, hn, hlen]
      rw [e1]
      have hli : (65536 : Int) < n := by omega
      clear e1 hoff h hlen hrd hA
      go_enter Tryz.func27, Tryz.ntmps27
      go_wp2_with fail
      refine hnb.mono ?_
      rintro e w1 ⟨rfl, hw1⟩
      rw [hw1]
      go_wp2
      go_returns
      exact ⟨by simp, S, T, H.out, TurnJ.refl _ _ _⟩
    · have hli : ¬ (65536 : Int) < n := by omega
      have E0 := Lib.hid (show jAppend s.data.toList D J b = if (jExtend s.data.toList D J).1 = 0 then jPut s.data.toList (jExtend s.data.toList D J).2.1 (jExtend s.data.toList D J).2.2 b else (0, jExtend s.data.toList D J) by simp [jAppend, hoff, hn, hlen])
      have hfa := fapp_any none A [] b 0 c n 1 w hn (by decide) (by omega) (by decide) (fun z hz => by cases hz) hb Rds.none_ hrd
      have HR := Lib.hid hrd
      have HA := Lib.hid hA
      clear hoff h hlen hrd hA
      go_enter Tryz.func27, Tryz.ntmps27
      go_wp2_with fail
      refine hnb.mono ?_
      rintro e w1 ⟨rfl, hw1⟩
      rw [hw1]
      clear hw1 w1 hnb
      go_wp2_with fail
      refine hfa.mono ?_
      rintro e w1 ⟨g, rfl, hW, hg, hb1⟩
      go_wp2_with fail
      have hW' : Whole w1 g 5 (c8 (fby (rcF b))).toArray := hW
      have hgl := hW'.lt
      obtain ⟨bx, hbx⟩ : ∃ bx, bx = w1.heap.size := ⟨_, rfl⟩
      have hbw : w.heap.size ≤ bx := by rw [hbx]; exact hb1.size
      have hb2 : Below w.heap.size w (w1.alloc (.cells #[.slice (some ⟨g, 0, none⟩) (n + 12) (n + 12)] 30)) := hb1.alloc hb1.size _
      have hwb : Whole (w1.alloc (.cells #[.slice (some ⟨g, 0, none⟩) (n + 12) (n + 12)] 30)) bx 30 #[.slice (some ⟨g, 0, none⟩) (n + 12) (n + 12)] := by rw [hbx]; exact Whole.new _ _ _
      have hwg := hW'.alloc (.cells #[.slice (some ⟨g, 0, none⟩) (n + 12) (n + 12)] 30)
      rw [← hbx]
      generalize w1.alloc (.cells #[.slice (some ⟨g, 0, none⟩) (n + 12) (n + 12)] 30) = W2 at *
      have hJ2 := H.out.go hb2
      have hext := extend_any W2 hJ2 (by omega) hok hf
      have hltS := H.out.dk.lt
      have hltT := H.out.jo.lt
      refine hext.mono ?_
      rintro e w3 ⟨rfl, S3, T3, h3, ht3⟩
      have hS2 : ∀ k, w.heap.size ≤ k → ¬ (S k ∨ T k) := fun k hk hh => by rcases hh with hh | hh; have := hltS k hh; omega; have := hltT k hh; omega
      have hwb3 := hwb.outs ht3.outs (hS2 bx hbw)
      have hwg3 := hwg.outs ht3.outs (hS2 g hg)
      have hg2 := hwg.lt
      have hbx2 := hwb.lt
      have hgS3 : ¬ S3 g := fun hh => by
        rcases ht3.ns g hh with e | e
        · exact hS2 g hg (.inl e)
        · omega
      have hbS3 : ¬ S3 bx := fun hh => by
        rcases ht3.ns bx hh with e | e
        · exact hS2 bx hbw (.inl e)
        · omega
      have HT3 := Lib.hid ((TurnJ.below hb2 : TurnJ S T S T w W2).trans ht3)
      have HL := Lib.hid (And.intro hltS hltT)
      clear hext hJ2 ht3 hwb hwg hb2 hb1 hW hW' hS2 hltS hltT hfa
      by_cases he : (jExtend s.data.toList D J).1 = 0
      · have E1 := Lib.hid (show jAppend s.data.toList D J b = jPut s.data.toList (jExtend s.data.toList D J).2.1 (jExtend s.data.toList D J).2.2 b by rw [E0.out, if_pos he])
        obtain ⟨hf1, hne⟩ := extend_fits hf hfl he
        obtain ⟨hok1, hst1⟩ := extend_ok (l := s.data.toList) (J := J) hok
        rw [he]
        clear E0 he
        generalize (jExtend s.data.toList D J).2.1 = D1 at *
        generalize (jExtend s.data.toList D J).2.2 = J1 at *
        obtain ⟨vs, p, m, gs, os, cs, hj, hsg, hvs, ⟨hgv, hvo⟩, hlast, hpl, _, _⟩ := h3.jo.last hne
        have c5 : w3.cell? ⟨j, 5, none⟩ = some (.slice (some ⟨gs, os, none⟩) (p.length + 1) cs) := by rw [hj.c5, hvs]
        have hlastc := jlast_at w3 c5 (by have := hf1.segs; omega)
        have hm : m.num ≤ maxNo := hf1.nums m.sg (by rw [hsg]; simp)
        have hc0 := (o_cell (i := p.length * 3 + 0) (a := os + p.length * 3) hj.row hgv (cG_at p m [] 0 (by decide)) (by omega)).1
        have hc0' : ∀ q, (w3.drewN q).cell? ⟨gs, os + p.length * 3, none⟩ = some (.int .u64 m.num) := fun q => hc0
        have EL := Lib.hid hlast
        have H3 := Lib.hid h3
        have HB3 := Lib.hid (And.intro hwb3 hwg3)
        clear h3 hj hc0 hvs hgv hvo hlast hsg hwb3 hwg3
        go_wp2_with fail
        refine hlastc.mono ?_
        rintro e w4 ⟨rfl, q, rfl⟩
        have hc := hc0' q
        have hb4 : Below w3.heap.size w3 (w3.drewN q) := bDrewN (Below.refl _ w3) q
        have h4 := H3.out.go hb4
        have hwb4 := HB3.out.1.go hb4
        have hwg4 := HB3.out.2.go hb4
        clear hlastc hc0' H3 HB3
        generalize w3.drewN q = w4 at *
        have hfile := jfile_any m.num hm w4 h4
        have H4 := Lib.hid h4
        have HB4 := Lib.hid (And.intro hwb4 hwg4)
        clear h4 hwb4 hwg4
        go_wp2_with fail
        refine hfile.mono ?_
        rintro e w5 ⟨rfl, hb5⟩
        have h5 := H4.out.go hb5
        have hwb5 := HB4.out.1.go hb5
        have hwg5 := HB4.out.2.go hb5
        have hsz := seg_size h5.nm m.num
        have hfl2 : (fby (rcF b)).length = n + 12 := by rw [fby_length]; show b.length + 12 = _; omega
        have hst := jstep_any 52 #[.pointer (some ⟨bx, 0, none⟩)] (strOf (segN s.data.toList m.num)) _ w5 h5 write_enters
          (does_write (segN s.data.toList m.num) (by omega) (fby (rcF b)) (some ⟨g, 0, none⟩) (n + 12) (n + 12) bx h5.dk (okd_room hok1 (by omega)) hok1 hfl2 (Nat.le_refl _) (by omega) (fun e => by cases e) (Rds.ofWhole hwg5) (fun ad e _ => by obtain rfl := Option.some.inj e; exact hgS3) hwb5)
        rw [hbx] at hst
        have HT5 := Lib.hid (HT3.out.trans ((TurnJ.below hb4 : TurnJ S3 T3 S3 T3 w3 w4).trans (TurnJ.below hb5)))
        clear hfile h5 H4 HB4 hwb5 hwg5 HT3 hb4 hb5
        by_cases hm0 : (dAppend D1 (segN s.data.toList m.num) (fby (rcF b))).1 = 0
        · have E2 := Lib.hid (show jPut s.data.toList D1 J1 b = (J1.next, 0, (dAppend D1 (segN s.data.toList m.num) (fby (rcF b))).2, jNote J1 b) by
            unfold jPut
            rw [EL.out, show m.sg.num = m.num from rfl, if_pos hm0])
          rw [hm0, show jEnd J1 0 = J1 by simp [jEnd]] at hst
          clear hm0
          generalize (dAppend D1 (segN s.data.toList m.num) (fby (rcF b))).2 = D2 at *
          go_wp2_with fail
          refine hst.mono ?_
          rintro e w6 ⟨rfl, S6, h6, ht6⟩
          have c46 := h6.next
          have HT6 := HT5.out.trans ht6
          have hrd6 := Rds.outsW HR.out HT6.outs (Nat.le_refl _) (fun ad e hne hh => by
            have := HA.out ad e hne
            rcases hh with hh | hh
            · exact this.1 hh
            · exact this.2 hh)
          have hcl := dclone_any A n c b w6 hn (by omega) hrd6
          have H6 := Lib.hid h6
          have HT6 := Lib.hid HT6
          clear hst h6 ht6 HT5 hrd6
          go_wp2_with fail
          refine hcl.mono ?_
          rintro e w7 ⟨v, rfl, hown, hb7⟩
          have h7 := H6.out.go hb7
          obtain ⟨A2, c2, rfl⟩ := row_any hown
          have hlt6 := H6.out.dk.lt
          have hp6 := H6.out.pow.lt
          have hnote := jnote_any ⟨b, A2, c2⟩ w7 h7 (by show w7.ownsRow 0 5 1 (.slice A2 b.length c2) b.length (c8 b); rw [hn]; exact ownRow_base hown (fun _ _ => Nat.zero_le _))
            (fun k hk => by
              have hge := (ownRow_block hown (by rw [← hn]; exact hk)).1
              exact ⟨fun hs => by have := hlt6 k hs; omega, by omega⟩) hf1 hne (by show b.length ≤ _; omega)
          have hblk : ∀ k, (RcM.v ⟨b, A2, c2⟩).ownBlock = some k → w6.heap.size ≤ k := fun k hk => (ownRow_block hown (by rw [← hn]; exact hk)).1
          simp only [hn] at hnote
          have HB7 := Lib.hid hb7
          have HK := Lib.hid hblk
          clear hcl h7 hown H6 hblk
          go_wp2_with fail
          refine hnote.mono ?_
          rintro e w8 ⟨rfl, T8, h8, ho8, hT8, _⟩
          have hfin : TurnJ S T S6 T8 w w8 := HT6.out.trans ⟨(Outs.of HB7.out).same (ho8.mono fun k hk => .inr hk), fun k hk => .inl hk, fun k hk => by
            rcases hT8 k hk with e | e | e
            · exact .inl e
            · exact .inr (Nat.le_trans HB7.out.size e)
            · exact .inr (HK.out k e)⟩
          have H8 := Lib.hid h8
          have HF := Lib.hid hfin
          clear hnote h8 hfin ho8 hT8
          go_wp2
          go_returns
          rw [E1.out, E2.out]
          exact ⟨by simp, S6, T8, H8.out, HF.out⟩
        · have E2 := Lib.hid (show jPut s.data.toList D1 J1 b = (0, jStep J1 (dAppend D1 (segN s.data.toList m.num) (fby (rcF b)))) by
            unfold jPut
            rw [EL.out, show m.sg.num = m.num from rfl, if_neg hm0])
          have hmn : ((dAppend D1 (segN s.data.toList m.num) (fby (rcF b))).1 != 0) = true := by simpa using hm0
          generalize dAppend D1 (segN s.data.toList m.num) (fby (rcF b)) = r at *
          clear hm0
          go_wp2_with fail
          refine hst.mono ?_
          rintro e w6 ⟨rfl, S6, h6, ht6⟩
          have H6 := Lib.hid h6
          have HT6 := Lib.hid (HT5.out.trans ht6)
          clear hst h6 ht6 HT5
          go_wp2
          go_returns
          rw [E1.out, E2.out]
          exact ⟨by simp [jStep], S6, T3, H6.out, HT6.out⟩
      · have E1 := Lib.hid (show jAppend s.data.toList D J b = (0, jExtend s.data.toList D J) by rw [E0.out, if_neg he])
        have hmn : ((jExtend s.data.toList D J).1 != 0) = true := by simpa using he
        have H3 := Lib.hid h3
        clear E0 he h3 hwb3 hwg3
        generalize jExtend s.data.toList D J = r at *
        go_wp2
        go_returns
        rw [E1.out]
        exact ⟨by simp, S3, T3, H3.out, HT3.out⟩
  · rw [hoff] at c3
    have e1 : jAppend s.data.toList D J b = (0, 10, D, J) := by simp [jAppend, hoff]
    rw [e1]
    clear e1 hoff h hrd hA
    go_enter Tryz.func27, Tryz.ntmps27
    go_wp2_with fail
    refine hnb.mono ?_
    rintro e w1 ⟨rfl, hw1⟩
    rw [hw1]
    go_wp2
    go_returns
    exact ⟨by simp, S, T, H.out, TurnJ.refl _ _ _⟩
end
end Go.Proofs.YtbobakfcmkaijaaGreatDoor
end

section
/- The journal's Sync, All, First, Next. -/
namespace Go.Proofs.YtbobakfcmkaijaaGreatDoor
open Go.RowKit
set_option linter.unusedVariables false

section
variable {w w' w2 wr : World} {S T S' T' S2 T2 : Nat → Prop} {j d : Nat} {s : ByteArray} {D D' : Dsk} {J J' : Jn}

/-! ## refusal, Sync -/
theorem jrefusal_any (w : World) (h : JD w S T j d s D J) :
    Calls Tryz.prog 58 #[.pointer (some ⟨j, 0, none⟩)] w fun e w' => e = .returned (.int .i64 (if jRefused D J then 10 else 0)) ∧ JD w' S T j d s D (if jRefused D J then { J with off := true } else J) ∧ TurnJ S T S T w w' := by
  have c0 := h.jo.top0
  have c3 := h.off
  have hnb := jnobodys_no j w c0
  have hend := jend_any 10 w h.jo
  have c1 : w.cell? ⟨j, 1, none⟩ = some (.pointer (some ⟨d, 0, none⟩)) := by
    obtain ⟨vs, ms, hj, _⟩ := h.jo
    exact hj.c1
  have hon := on_any w h.dk
  have H := Lib.hid h
  have e10 : jEnd J 10 = { J with off := true } := by simp [jEnd]
  rw [e10] at hend
  clear h e10
  cases hoff : J.off
  · rw [hoff] at c3
    cases hD : D.off
    · have e1 : jRefused D J = false := by simp [jRefused, hoff, hD]
      rw [e1]
      rw [hD] at hon
      clear e1 hoff hD hend
      go_enter Tryz.func58, Tryz.ntmps58
      go_wp2_with fail
      refine hnb.mono ?_
      rintro e w1 ⟨rfl, hw1⟩
      rw [hw1]
      go_wp2_with fail
      refine hon.mono ?_
      rintro e w1 ⟨rfl, hw1⟩
      rw [hw1]
      go_wp2
      go_returns
      exact ⟨by simp, by simpa using H.out, TurnJ.refl _ _ _⟩
    · have e1 : jRefused D J = true := by simp [jRefused, hoff, hD]
      rw [e1]
      rw [hD] at hon
      clear e1 hoff hD
      go_enter Tryz.func58, Tryz.ntmps58
      go_wp2_with fail
      refine hnb.mono ?_
      rintro e w1 ⟨rfl, hw1⟩
      rw [hw1]
      go_wp2_with fail
      refine hon.mono ?_
      rintro e w1 ⟨rfl, hw1⟩
      rw [hw1]
      go_wp2_with fail
      refine hend.mono ?_
      rintro e w2 ⟨rfl, hj, ht⟩
      obtain ⟨h1, h2⟩ := H.out.jour hj ht.outs ht.new
      have H1 := Lib.hid h1
      have H2 := Lib.hid h2
      clear hend hj ht h1 h2
      go_wp2
      go_returns
      exact ⟨by simp, by simpa using H1.out, H2.out⟩
  · rw [hoff] at c3
    have e1 : jRefused D J = true := by simp [jRefused, hoff]
    rw [e1]
    clear e1 hoff hon
    go_enter Tryz.func58, Tryz.ntmps58
    go_wp2_with fail
    refine hnb.mono ?_
    rintro e w1 ⟨rfl, hw1⟩
    rw [hw1]
    go_wp2_with fail
    refine hend.mono ?_
    rintro e w2 ⟨rfl, hj, ht⟩
    obtain ⟨h1, h2⟩ := H.out.jour hj ht.outs ht.new
    have H1 := Lib.hid h1
    have H2 := Lib.hid h2
    clear hend hj ht h1 h2
    go_wp2
    go_returns
    exact ⟨by simp, by simpa using H1.out, H2.out⟩

theorem jsync_any (w : World) (h : JD w S T j d s D J) (hr : Room D) (hf : Fits J) :
    Calls Tryz.prog 32 #[.pointer (some ⟨j, 0, none⟩)] w fun e w' => e = .returned (.int .i64 (jSync s.data.toList D J).1) ∧ ∃ S', JD w' S' T j d s (jSync s.data.toList D J).2.1 (jSync s.data.toList D J).2.2 ∧ TurnJ S T S' T w w' := by
  have href := jrefusal_any w h
  cases hR : jRefused D J
  · have e1 : jSync s.data.toList D J = jSyncLast s.data.toList D J := by simp [jSync, hR]
    rw [e1]
    rw [hR] at href
    clear e1
    go_enter Tryz.func32, Tryz.ntmps32
    go_wp2_with fail
    refine href.mono ?_
    rintro e w1 ⟨rfl, h1, ht1⟩
    have h1' : JD w1 S T j d s D J := by simpa using h1
    have hs := syncLast_any w1 h1' hr hf
    have HT := Lib.hid ht1
    clear href h1 h1' ht1 h
    go_wp2_with fail
    refine hs.mono ?_
    rintro e w2 ⟨rfl, S2, h2, ht2⟩
    have H2 := Lib.hid h2
    have HT2 := Lib.hid (HT.out.trans ht2)
    clear hs h2 ht2
    go_wp2
    go_returns
    exact ⟨by simp, S2, H2.out, HT2.out⟩
  · have e1 : jSync s.data.toList D J = (10, D, { J with off := true }) := by simp [jSync, hR]
    rw [e1]
    rw [hR] at href
    clear e1 h
    go_enter Tryz.func32, Tryz.ntmps32
    go_wp2_with fail
    refine href.mono ?_
    rintro e w1 ⟨rfl, h1, ht1⟩
    have H1 := Lib.hid h1
    have HT := Lib.hid ht1
    clear href h1 ht1
    go_wp2
    go_returns
    exact ⟨by simp, S, by simpa using H1.out, HT.out⟩

/-! ## First, Next -/
theorem jnext_any (w : World) (h : JD w S T j d s D J) :
    Calls Tryz.prog 31 #[.pointer (some ⟨j, 0, none⟩)] w fun e w' => e = .returned (.int .u64 J.next) ∧ w' = w := by
  have c0 := h.jo.top0
  have c4 := h.next
  have hnb := jnobodys_no j w c0
  clear h
  go_enter Tryz.func31, Tryz.ntmps31
  go_wp2_with fail
  refine hnb.mono ?_
  rintro e w1 ⟨rfl, rfl⟩
  go_wp2
  go_returns
  exact ⟨by simp, rfl⟩
theorem jfirst_any (w : World) (h : JD w S T j d s D J) :
    Calls Tryz.prog 42 #[.pointer (some ⟨j, 0, none⟩)] w fun e w' => e = .returned (.int .u64 (jFirst J)) ∧ w' = w := by
  have c0 := h.jo.top0
  have c4 := h.next
  have hnb := jnobodys_no j w c0
  obtain ⟨vs, ms, hj, hs⟩ := h.jo
  cases ms with
  | nil =>
    obtain ⟨A, c, hv⟩ := o_any hj.row
    have c5 : w.cell? ⟨j, 5, none⟩ = some (.slice A 0 c) := by rw [hj.c5, hv]; rfl
    have e1 : jFirst J = J.next := by simp [jFirst, hs]
    rw [e1]
    clear h hj e1
    go_enter Tryz.func42, Tryz.ntmps42
    go_wp2_with fail
    refine hnb.mono ?_
    rintro e w1 ⟨rfl, rfl⟩
    go_wp2
    go_returns
    exact ⟨by simp, rfl⟩
  | cons m r =>
    have e1 : jFirst J = m.num := by simp [jFirst, hs, SgM.sg]
    rw [e1]
    have hrow := hj.row
    rw [List.length_cons] at hrow
    obtain ⟨g, o, c, hvs, hgv, hvo, hc1, _⟩ := o_block hrow (Nat.succ_pos _)
    have c5 : w.cell? ⟨j, 5, none⟩ = some (.slice (some ⟨g, o, none⟩) (r.length + 1) c) := by rw [hj.c5, hvs]
    have hc0 : w.cell? ⟨g, o, none⟩ = some (.int .u64 m.num) := by
      have := (o_cell (i := ([] : List SgM).length * 3 + 0) (a := o) hrow hgv (cG_at [] m r 0 (by decide)) (by simp [hvo])).1
      simpa using this
    have hne : ¬ ((r.length : Int) + 1 = 0) := by omega
    have hpos : (0 : Int) < (r.length : Int) + 1 := by omega
    clear h hj e1 hrow hvs hgv
    go_enter Tryz.func42, Tryz.ntmps42
    go_wp2_with fail
    refine hnb.mono ?_
    rintro e w1 ⟨rfl, rfl⟩
    go_wp2
    go_returns
    exact ⟨by simp, rfl⟩

/-! ## All -/
/-- a list of records of the call's own -/
structure AllAt (w0 wr : World) (v : Value) (ys : List RcM) : Prop where
  row : wr.ownsRow w0.heap.size 30 1 v ys.length (cR ys)
  bods : ∀ y ∈ ys, wr.ownsRow w0.heap.size 5 1 y.v y.r.length (c8 y.r)
  below : Below w0.heap.size w0 wr
theorem AllAt.start (w : World) : AllAt w w (.slice none 0 0) [] := ⟨World.ownsRow_nil w _ _ _, (fun y hy => (by cases hy)), Below.refl _ _⟩
theorem AllAt.go {v : Value} {ys : List RcM} (h : AllAt w wr v ys) (hb : Below wr.heap.size wr w') : AllAt w w' v ys :=
  ⟨(StayB.below hb (Nat.le_refl _)).own h.row, fun y hy => (StayB.below hb (Nat.le_refl _)).own (h.bods y hy), h.below.trans (hb.mono h.below.size)⟩
theorem AllAt.more {v v' : Value} {ys : List RcM} {y : RcM} (h : AllAt w wr v ys) (hy : wr.ownsRow w.heap.size 5 1 y.v y.r.length (c8 y.r))
    (hown : w2.ownsRow w.heap.size 30 1 v' (ys.length + 1) (cR ys ++ [y.v])) (hg : (wr.alloc (.cells #[y.v] 30)).grownBy w2 v.ownBlock) : AllAt w w2 v' (ys ++ [y]) := by
  have hk : ∀ e, e ≠ 30 → StayB e wr w2 := fun e he => ((StayB.refl e wr).alloc _).grown (h.row.alloc _) he hg
  refine ⟨by simpa [cR] using hown, fun z hz => ?_, ?_⟩
  · rcases List.mem_append.1 hz with hz | hz
    · exact (hk _ (by decide)).own (h.bods z hz)
    · obtain rfl := List.mem_singleton.1 hz
      exact (hk _ (by decide)).own hy
  · exact (h.below.alloc h.below.size _).grown hg (by have := h.below.size; simp; omega) (fun k hk => (h.row.lt k hk).1)

set_option maxHeartbeats 3200000 in
set_option maxRecDepth 10000 in
theorem jall_any (w : World) (h : JD w S T j d s D J) (hf : Fits J) (hN : (jAll J).length ≤ 1099511627776) (hL : ∀ x ∈ J.segs, ∀ r ∈ x.recs, r.length ≤ 1099511627776) :
    Calls Tryz.prog 41 #[.pointer (some ⟨j, 0, none⟩)] w fun e w' => ∃ v ys, e = .returned v ∧ ys.map RcM.r = jAll J ∧ AllAt w w' v ys := by
  have c0 := h.jo.top0
  have hnb := jnobodys_no j w c0
  obtain ⟨vs, ms, hj, hs⟩ := h.jo
  obtain ⟨i0, hi, hz0, hz1, hz2⟩ := info3 infoBs
  obtain ⟨Av, cv, hv⟩ := o_any hj.row
  have c5 : w.cell? ⟨j, 5, none⟩ = some (.slice Av ms.length cv) := by rw [hj.c5, hv]
  have hmsl : ms.length ≤ 1073741824 := by have := hf.segs; rw [hs, List.length_map] at this; exact this
  have hall : jAll J = ms.flatMap (fun m => m.rs.map RcM.r) := by
    unfold jAll
    rw [hs, List.flatMap_map]
    rfl
  have HJ := Lib.hid hj
  have HA := Lib.hid hall
  have HN := Lib.hid hN
  have HL := Lib.hid hL
  have HF := Lib.hid hf
  have HS := Lib.hid hs
  clear h hj hall hN hL hf hs
  go_enter Tryz.func41, Tryz.ntmps41
  go_wp2_with fail
  refine hnb.mono ?_
  rintro e w1 ⟨rfl, hw1⟩
  rw [hw1]
  clear hw1 w1
  go_wp2
  go_loopw [15, 3] (fun i l wr => ∃ (k : Nat) (ys : List RcM), k ≤ ms.length ∧ i = .int .i64 k ∧ ys.map RcM.r = (ms.take k).flatMap (fun m => m.rs.map RcM.r) ∧ AllAt w wr l ys) (fun i _ _ => ms.length - (intOf i).toNat)
  case atStart => exact ⟨0, [], Nat.zero_le _, rfl, rfl, AllAt.start w⟩
  case round =>
    obtain ⟨k, ys, hk, rfl, hys, hat⟩ := hrel
    by_cases hlt : k < ms.length
    · obtain ⟨m, hm⟩ : ∃ m, m = ms[k] := ⟨_, rfl⟩
      have hsplit : ms = ms.take k ++ m :: ms.drop (k + 1) := by rw [hm, List.getElem_cons_drop, List.take_append_drop]
      have htk : (ms.take k).length = k := by rw [List.length_take]; omega
      have hmm : m ∈ ms := by rw [hm]; exact List.getElem_mem _
      have htake : ms.take (k + 1) = ms.take k ++ [m] := by rw [List.take_add_one, List.getElem?_eq_getElem hlt, hm]; rfl
      have hJ := HJ.out.go hat.below
      have hrow := hJ.row
      obtain ⟨g, o, c, hvs, hgv, hvo, hc1, hc2⟩ := o_block hrow (by omega)
      have hAv : Av = some ⟨g, o, none⟩ ∧ cv = c := by
        have e := hv.symm.trans hvs
        injection e with e1 e2 e3
        exact ⟨e1, e3⟩
      obtain ⟨rfl, rfl⟩ := hAv
      have hcell : ∀ i, i < 3 → wr.cell? ⟨g, o + k * 3 + i, none⟩ = m.cells[i]? := fun i hi => by
        have h1 : (cG ms)[k * 3 + i]? = m.cells[i]? := by
          have := cG_at (ms.take k) m (ms.drop (k + 1)) i hi
          rw [← hsplit, htk] at this
          exact this
        have h2 : m.cells[i]? = some (m.cells[i]'(by simp [SgM.cells]; omega)) := List.getElem?_eq_getElem _
        rw [h2] at h1 ⊢
        exact (o_cell hrow hgv h1 (by omega)).1
      obtain ⟨Am, cm, hmv⟩ := row_any (hJ.rows m hmm)
      have q0 : wr.cell? ⟨g, o + k * 3, none⟩ = some (.int .u64 m.num) := hcell 0 (by decide)
      have q1 : wr.cell? ⟨g, o + k * 3 + 1, none⟩ = some (.int .i64 (m.sg.size : Nat)) := hcell 1 (by decide)
      have q2 : wr.cell? ⟨g, o + k * 3 + 2, none⟩ = some (.slice Am m.rs.length cm) := by have := hcell 2 (by decide); rw [this]; simp [SgM.cells, hmv]
      have hmr : m.rs.length ≤ 1073741824 := by
        have := HF.out.recs m.sg (by rw [HS.out]; exact List.mem_map_of_mem hmm)
        simpa [SgM.sg] using this
      have HAT := Lib.hid hat
      have HYS := Lib.hid hys
      have HSP := Lib.hid (And.intro hmm (And.intro htake hmv))
      have hklt : (k : Int) < ms.length := by omega
      have hkle : (k : Int) ≤ 1073741824 := by omega
      clear hJ hrow hvs hgv hvo hcell hat hys hm hsplit htk htake hmm hmv hv
      go_wp2
      go_loopw [22, 3] (fun i l wq => ∃ (kk : Nat) (zs : List RcM), kk ≤ m.rs.length ∧ i = .int .i64 kk ∧ zs.map RcM.r = (ms.take k).flatMap (fun m => m.rs.map RcM.r) ++ (m.rs.take kk).map RcM.r ∧ AllAt w wq l zs) (fun i _ _ => m.rs.length - (intOf i).toNat)
      case atStart =>
        refine ⟨0, ys, Nat.zero_le _, rfl, by rw [HYS.out]; simp, HAT.out.go ((Below.refl _ _).alloc (Nat.le_refl _) _)⟩
      case round =>
        obtain ⟨kk, zs, hkk, rfl, hzs, hat2⟩ := hrel
        have HZ := Lib.hid hzs
        obtain ⟨A3, c3, rfl⟩ := row_any hat2.row
        by_cases hlt2 : kk < m.rs.length
        · obtain ⟨x, hx⟩ : ∃ x, x = m.rs[kk] := ⟨_, rfl⟩
          have hxm : x ∈ m.rs := by rw [hx]; exact List.getElem_mem _
          have htx : m.rs.take (kk + 1) = m.rs.take kk ++ [x] := by rw [List.take_add_one, List.getElem?_eq_getElem hlt2, hx]; rfl
          have hJ := HJ.out.go hat2.below
          have hrm := hJ.rows m HSP.out.1
          obtain ⟨gm, cm2, hvm, hgm, _, _⟩ := row_block hrm (by omega)
          have hAm : Am = some ⟨gm, 0, none⟩ ∧ cm = cm2 := by
            have e := HSP.out.2.2.symm.trans hvm
            injection e with e1 e2 e3
            exact ⟨e1, e3⟩
          obtain ⟨rfl, rfl⟩ := hAm
          have hcx := (row_cell (i := kk) hrm hgm (by rw [cR, List.getElem?_map, List.getElem?_eq_getElem hlt2, ← hx]; rfl)).1
          have hbod := hJ.bods m HSP.out.1 x hxm
          have hxl : x.r.length ≤ 1099511627776 := HL.out m.sg (by rw [HS.out]; exact List.mem_map_of_mem HSP.out.1) x.r (List.mem_map_of_mem hxm)
          have hown0 := Rds.ofOwn hbod
          have hcl := dclone_any x.A x.r.length x.c x.r wr rfl (by omega) hown0
          have hkk2 : (kk : Int) < m.rs.length := by omega
          have hkk3 : (kk : Int) ≤ 1073741824 := by omega
          have hcx2 : wr.cell? ⟨gm, kk, none⟩ = some (.slice x.A x.r.length x.c) := hcx
          have HX := Lib.hid (And.intro hxm htx)
          have HAT2 := Lib.hid hat2
          have hzl : zs.length ≤ 1099511627776 := by
            have h1 : zs.length = (zs.map RcM.r).length := by simp
            have h2 := HN.out
            have h4 : (zs.map RcM.r).length ≤ (jAll J).length := by
              rw [HZ.out, HA.out]
              have e3 : ms = ms.take k ++ ms.drop k := (List.take_append_drop k ms).symm
              have e4 : (ms.drop k).flatMap (fun m => m.rs.map RcM.r) = m.rs.map RcM.r ++ (ms.drop (k + 1)).flatMap (fun m => m.rs.map RcM.r) := by
                have e5 : ms.take (k + 1) = ms.take k ++ [m] := HSP.out.2.1
                have e6 : ms.drop k = m :: ms.drop (k + 1) := by
                  have e7 : ms = ms.take (k + 1) ++ ms.drop (k + 1) := (List.take_append_drop (k + 1) ms).symm
                  rw [e5, List.append_assoc] at e7
                  have e8 := e3.symm.trans e7
                  exact List.append_cancel_left e8
                rw [e6, List.flatMap_cons]
              conv => rhs; rw [e3, List.flatMap_append, e4]
              simp only [List.length_append, List.length_map, List.length_take]
              omega
            omega
          clear hx hxm htx hJ hrm hvm hgm hcx hbod hown0 hat2 hzs
          go_wp2_with fail
          refine hcl.mono ?_
          rintro e w4 ⟨v4, rfl, hown4, hb4⟩
          obtain ⟨A4, c4, rfl⟩ := row_any hown4
          have hat4 := HAT2.out.go hb4
          have hy : w4.ownsRow w.heap.size 5 1 (RcM.v ⟨x.r, A4, c4⟩) x.r.length (c8 x.r) := ownRow_base hown4 fun q hq => Nat.le_trans HAT2.out.below.size (ownRow_block hown4 hq).1
          have hrow4 := hat4.row
          have HAT4 := Lib.hid hat4
          have HY := Lib.hid hy
          have hB4 := hat4.below.size
          clear hcl hat4 hy hown4
          go_wp2_with (at_builtin; go_loud (refine app_elem w4 rfl (.tmp 26) (.tmp 29) 40 rfl w.heap.size 30 i0 (.slice none 0 0) 1 24 Tryz.underlying40 hi hz0 hz1 hz2 rfl (by decide) (.slice A3 zs.length c3) zs.length (cR zs) rfl hrow4 [.slice A4 x.r.length c4] rfl w4.heap.size _ rfl rfl rfl (by simp [Value.oneCell']) hzl (by decide) hB4 ?_))
          intro v' w5 hown hg hv
          have hat5 : AllAt w w5 v' (zs ++ [⟨x.r, A4, c4⟩]) := HAT4.out.more HY.out hown hg
          have HAT5 := Lib.hid hat5
          clear hown hg hv hat5 hrow4
          go_wp2
          go_roundw
          case rel =>
            refine ⟨kk + 1, zs ++ [⟨x.r, A4, c4⟩], by omega, by go_num, ?_, HAT5.out⟩
            rw [HX.out.2, List.map_append, HZ.out]
            simp
          case measure => simp [intOf]; omega
        · have hkk : kk = m.rs.length := by omega
          have HAT2 := Lib.hid hat2
          have hkk2 : ¬ (kk : Int) < m.rs.length := by omega
          clear hat2 hzs
          go_wp2
          go_roundw
          case rel =>
            refine ⟨k + 1, zs, by omega, by go_num, ?_, HAT2.out⟩
            rw [HZ.out, HSP.out.2.1, List.flatMap_append, hkk, List.take_length]
            simp
          case measure => simp [intOf]; omega
    · have HAT := Lib.hid hat
      have HYS := Lib.hid hys
      have hkl : k = ms.length := by omega
      clear hat hys
      go_wp2
      go_returns
      refine ⟨_, ys, rfl, ?_, HAT.out⟩
      rw [HYS.out, HA.out, hkl, List.take_length]
end
end Go.Proofs.YtbobakfcmkaijaaGreatDoor
end

section
/- What the program finds among a disk's files: the numbers of a journal's segments. -/
namespace Go.Proofs.YtbobakfcmkaijaaGreatDoor
open Go.RowKit
set_option linter.unusedVariables false

/-- the cells that numbers take -/
def cU (ns : List Nat) : List Value := ns.map fun (n : Nat) => Value.int .u64 n
theorem cU_length (ns : List Nat) : (cU ns).length = ns.length := by simp [cU]
theorem cU_get {ns : List Nat} {k : Nat} (h : k < ns.length) : (cU ns)[k]? = some (.int .u64 ns[k]) := by simp [cU, h]
theorem infoU : (Tryz.prog.info? 31).map (fun i => (i.zero, i.size, i.bytes)) = some (some (.int .u64 0), 1, 8) := by kernel_rfl

section
variable {w w' w2 wr : World} {S T S' T' S2 T2 : Nat → Prop} {j d : Nat} {s : ByteArray} {D D' : Dsk} {J J' : Jn}
theorem nos_take (l : Nm) (fs : List Nm) (k : Nat) (h : k < fs.length) : nos l (fs.take (k + 1)) = nos l (fs.take k) ++ (segNo l fs[k]).toList := by
  rw [List.take_add_one, List.getElem?_eq_getElem h]
  unfold nos
  rw [List.filterMap_append]
  congr 1

set_option maxHeartbeats 1600000 in
set_option maxRecDepth 10000 in
theorem numbers_any (A : Option Addr) (fs : List Nm) (n c : Nat) (w : World) (h : JD w S T j d s D J) (hn : fs.length = n) (hnl : n ≤ 1099511627776) (hr : Rds w w.heap.size A (cS fs)) :
    Calls Tryz.prog 130 #[.pointer (some ⟨j, 0, none⟩), .slice A n c] w fun e w' => ∃ v, e = .returned v ∧ w'.ownsRow w.heap.size 31 1 v (nos s.data.toList fs).length (cU (nos s.data.toList fs)) ∧ Below w.heap.size w w' := by
  obtain ⟨i0, hi, hz0, hz1, hz2⟩ := info3 infoU
  have c2 : w.cell? ⟨j, 2, none⟩ = some (.string s) := by
    obtain ⟨vs, ms, hj, _⟩ := h.jo
    exact hj.c2
  have hjl : j < w.heap.size := h.jo.lt _ h.jo.tj
  have hs := nm_size h.nm
  have HR := Lib.hid hr
  have HN := Lib.hid hn
  have C2 := Lib.hid c2
  clear h hr c2 hn
  go_enter Tryz.func130, Tryz.ntmps130
  go_wp2
  go_loopw [12, 5] (fun i l wr => ∃ (k : Nat), k ≤ n ∧ i = .int .i64 k ∧ wr.ownsRow w.heap.size 31 1 l (nos s.data.toList (fs.take k)).length (cU (nos s.data.toList (fs.take k))) ∧ Below w.heap.size w wr) (fun i _ _ => n - (intOf i).toNat)
  case atStart => exact ⟨0, Nat.zero_le _, rfl, by simpa [nos, cU] using World.ownsRow_nil w _ _ 1, Below.refl _ _⟩
  case round =>
    obtain ⟨k, hk, rfl, hown, hb⟩ := hrel
    obtain ⟨A3, c3, rfl⟩ := row_any hown
    by_cases hlt : k < n
    · have hkl : k < fs.length := by have := HN.out; omega
      obtain ⟨ad, rfl, hadl, hcell⟩ := HR.out.at_ (cS_get hkl)
      have hcell2 : wr.cell? (ad.add k) = some (.string (strOf fs[k])) := by
        rw [hb.cell (by rw [blk_add]; exact hadl)]
        exact hcell
      have hc2 : wr.cell? ⟨j, 2, none⟩ = some (.string s) := by rw [hb.cell (p := ⟨j, 2, none⟩) hjl]; exact C2.out
      have hsn := segNo_any s (strOf fs[k]) (by omega) wr
      rw [show (strOf fs[k]).data.toList = fs[k] from lst_strOf _] at hsn
      have hnt := nos_take s.data.toList fs k hkl
      have hnl2 : (nos s.data.toList (fs.take k)).length ≤ 1099511627776 := by
        have : (nos s.data.toList (fs.take k)).length ≤ (fs.take k).length := List.length_filterMap_le _ _
        rw [List.length_take] at this
        omega
      have HT := Lib.hid hnt
      have HO := Lib.hid hown
      have HB := Lib.hid hb
      have hki : (k : Int) < n := by omega
      have hki2 : (k : Int) ≤ 1099511627776 := by omega
      generalize hz : strOf fs[k] = z at *
      clear hz hnt hown hb hcell
      cases hq : segNo s.data.toList fs[k] with
      | none =>
        rw [hq] at hsn
        have HQ := Lib.hid hq
        simp only [segV] at hsn
        clear hq
        go_wp2_with fail
        refine hsn.mono ?_
        rintro e w4 ⟨rfl, q, rfl⟩
        have hT := HT.out
        rw [HQ.out, Option.toList_none, List.append_nil] at hT
        have hown2 : (wr.drewN q).ownsRow w.heap.size 31 1 (.slice A3 (nos s.data.toList (fs.take k)).length c3) (nos s.data.toList (fs.take (k + 1))).length (cU (nos s.data.toList (fs.take (k + 1)))) := by
          rw [hT]
          exact HO.out
        have HO2 := Lib.hid hown2
        clear hT hown2 hsn
        go_wp2
        go_roundw
        case rel => exact ⟨k + 1, by omega, by go_num, HO2.out, bDrewN HB.out q⟩
        case measure => simp [intOf]; omega
      | some m =>
        rw [hq] at hsn
        have HQ := Lib.hid hq
        simp only [segV] at hsn
        clear hq
        go_wp2_with fail
        refine hsn.mono ?_
        rintro e w4 ⟨rfl, q, rfl⟩
        have hT := HT.out
        rw [HQ.out] at hT
        have HT2 := Lib.hid hT
        have hb4 := bDrewN HB.out q
        have hown4 : (wr.drewN q).ownsRow w.heap.size 31 1 (.slice A3 (nos s.data.toList (fs.take k)).length c3) (nos s.data.toList (fs.take k)).length (cU (nos s.data.toList (fs.take k))) := HO.out
        have hB4 := hb4.size
        have HB4 := Lib.hid hb4
        clear hT hsn hb4
        generalize wr.drewN q = w4 at *
        go_wp2_with (at_builtin; go_loud (refine app_elem w4 rfl (.tmp 26) (.tmp 28) 163 rfl w.heap.size 31 i0 (.int .u64 0) 1 8 Tryz.underlying163 hi hz0 hz1 hz2 rfl (by decide) (.slice A3 (nos s.data.toList (fs.take k)).length c3) _ (cU (nos s.data.toList (fs.take k))) rfl hown4 [.int .u64 m] rfl w4.heap.size _ rfl rfl rfl (by simp [Value.oneCell']) hnl2 (by decide) hB4 ?_))
        intro v' w5 hown5 hg hv
        have hb5 : Below w.heap.size w w5 := (HB4.out.alloc hB4 _).grown hg (by simp; omega) (fun k hk => (hown4.lt k hk).1)
        have hown6 : w5.ownsRow w.heap.size 31 1 v' (nos s.data.toList (fs.take (k + 1))).length (cU (nos s.data.toList (fs.take (k + 1)))) := by
          rw [HT2.out]
          simpa [cU] using hown5
        have HO2 := Lib.hid hown6
        have HB5 := Lib.hid hb5
        clear hown4 hown5 hown6 hb5 hg hv
        go_wp2
        go_roundw
        case rel => exact ⟨k + 1, by omega, by go_num, HO2.out, HB5.out⟩
        case measure => simp [intOf]; omega
    · have hkn : k = n := by omega
      have HO := Lib.hid hown
      have HB := Lib.hid hb
      have HKN := Lib.hid hkn
      clear hown hb hkn
      go_wp2
      go_returns
      refine ⟨_, rfl, ?_, HB.out⟩
      have := HO.out
      rw [List.take_of_length_le (by rw [HN.out, HKN.out]; exact Nat.le_refl _)] at this
      have e2 : fs.take k = fs := List.take_of_length_le (by rw [HN.out, HKN.out]; exact Nat.le_refl _)
      rw [e2]
      exact this
end
end Go.Proofs.YtbobakfcmkaijaaGreatDoor
end
