/- Several texts, each a section: JDropG, SSave, SSave2, SLog, DSameT, SLives. -/
import Derived.Test.YtbobakfcmkaijaaGreatDoorM13
import Derived.Test.YtbobakfcmkaijaaGreatDoorM17
import Derived.Deep.RegionHeld3
import Derived.Test.YtbobakfcmkaijaaGreatDoorM19
import Derived.Defers
import Derived.Test.YtbobakfcmkaijaaGreatDoorM09
import Derived.Test.YtbobakfcmkaijaaGreatDoorM08
import Derived.Test.YtbobakfcmkaijaaGreatDoorM20
import Derived.Lib.SlBytesConst
section
/- Drop, of any journal: the segments ahead go. -/
namespace Go.Proofs.YtbobakfcmkaijaaGreatDoor
open Go.RowKit
set_option linter.unusedVariables false

section
variable {w w' w2 wr : World} {S T S' T' : Nat → Prop} {j d : Nat} {s : ByteArray} {D D' : Dsk} {J J' : Jn} {off : Bool} {next : Nat} {vs : Value} {ms : List SgM}
theorem o_tail {e : TypeId} {k n g o c : Nat} {xs : List Value} (h : w.ownsO e k (.slice (some ⟨g, o, none⟩) (n + 1) c) (n + 1) xs) : w.ownsO e k (.slice (some ⟨g, o + k, none⟩) n (c - 1)) n (xs.drop k) := by
  rcases h.2 with ⟨e1, _⟩ | ⟨g1, o1, cap, cur, e1, h3, h4, h5, h6, h7⟩
  · cases e1
  · injection e1 with e2 e3 e4
    injection e2 with e2
    injection e2 with e5 e6
    subst e5 e6 e4
    have hck : c * k = k + (c - 1) * k := by
      obtain ⟨q, rfl⟩ : ∃ q, c = q + 1 := ⟨c - 1, by omega⟩
      rw [Nat.add_mul, Nat.add_sub_cancel]
      omega
    refine ⟨by rw [List.length_drop, h.1, Nat.add_mul]; omega, .inr ⟨g, o + k, c - 1, cur, rfl, h3, by omega, by omega, by rw [h6, hck]; omega, ?_⟩⟩
    rw [← h7, List.drop_take, List.drop_drop, Nat.add_mul, Nat.one_mul, Nat.add_sub_cancel]
/-- the first segment goes -/
theorem JnAt.dropHead {m : SgM} {g o c : Nat} (h : JnAt w T j d s off next (.slice (some ⟨g, o, none⟩) (ms.length + 1) c) (m :: ms)) (v' : Value) (hv : v' = .slice (some ⟨g, o + 3, none⟩) ms.length (c - 1)) :
    JnAt ((((w.setCell ⟨g, o, none⟩ (.int .u64 0)).setCell ⟨g, o + 1, none⟩ (.int .i64 0)).setCell ⟨g, o + 2, none⟩ (.slice none 0 0)).setCell ⟨j, 5, none⟩ v') T j d s off next v' ms := by
  subst hv
  have hgv : (Value.slice (some ⟨g, o, none⟩) (ms.length + 1) c).ownBlock = some g := rfl
  have hr0 := h.row
  rw [List.length_cons] at hr0
  have hr1 := o_set (i := 0) (a := o) hr0 hgv rfl (.int .u64 0)
  have hr2 := o_set (i := 1) (a := o + 1) hr1 hgv rfl (.int .i64 0)
  have hr3 := o_set (i := 2) (a := o + 2) hr2 hgv rfl (.slice none 0 0)
  obtain ⟨hgl, cs0, hc0⟩ := o_blk hr0 hgv
  obtain ⟨_, cs1, hc1⟩ := o_blk hr1 hgv
  obtain ⟨_, cs2, hc2⟩ := o_blk hr2 hgv
  have hk : ∀ e, e ≠ 88 → StayB e w (((w.setCell ⟨g, o, none⟩ (.int .u64 0)).setCell ⟨g, o + 1, none⟩ (.int .i64 0)).setCell ⟨g, o + 2, none⟩ (.slice none 0 0)) := fun e he =>
    (((StayB.refl e w).put (show Whole w g _ cs0 from hc0) he _).put (show Whole _ g _ cs1 from hc1) he _).put (show Whole _ g _ cs2 from hc2) he _
  have ht := (hk 79 (by decide)).whole h.top
  have hk2 : ∀ e, e ≠ 79 → StayB e (((w.setCell ⟨g, o, none⟩ (.int .u64 0)).setCell ⟨g, o + 1, none⟩ (.int .i64 0)).setCell ⟨g, o + 2, none⟩ (.slice none 0 0)) ((((w.setCell ⟨g, o, none⟩ (.int .u64 0)).setCell ⟨g, o + 1, none⟩ (.int .i64 0)).setCell ⟨g, o + 2, none⟩ (.slice none 0 0)).setCell ⟨j, 5, none⟩ (.slice (some ⟨g, o + 3, none⟩) ms.length (c - 1))) := fun e he => (StayB.refl e _).put ht he _
  have hr4 := o_tail hr3
  have hxs : ((((cG (m :: ms)).set 0 (Value.int .u64 0)).set 1 (.int .i64 0)).set 2 (.slice none 0 0)).drop 3 = cG ms := by
    simp [cG, SgM.cells]
  rw [hxs] at hr4
  refine { top := ?_, row := ?_, rows := fun m' hm' => ?_, bods := fun m' hm' x hx => ?_, inj := (List.pairwise_cons.1 h.inj).2, tj := h.tj, tv := fun b hb => h.tv b (by simpa [Value.ownBlock] using hb), tr := fun m' hm' => h.tr m' (by simp [hm']), tb := fun m' hm' => h.tb m' (by simp [hm']), lt := fun k hk => by simpa [World.setCell] using h.lt k hk }
  · simpa [topJ] using ht.put 5 (.slice (some ⟨g, o + 3, none⟩) ms.length (c - 1))
  · exact (hk2 _ (by decide)).ownO hr4
  · exact (hk2 _ (by decide)).own ((hk _ (by decide)).own (h.rows m' (by simp [hm'])))
  · exact (hk2 _ (by decide)).own ((hk _ (by decide)).own (h.bods m' (by simp [hm']) x hx))
/-- how many segments there are in memory -/
def lenJ (w : World) (j : Nat) : Nat := match w.cell? ⟨j, 5, none⟩ with | some (.slice _ n _) => n | _ => 0
/-- what stands within Drop's loop -/
structure DropAt (w0 wr : World) (S T S' : Nat → Prop) (j d : Nat) (s : ByteArray) (D D' : Dsk) (J : Jn) (p : List Sg) (n : Nat) : Prop where
  jd : JD wr S' T j d s D' { J with segs := p }
  turn : TurnJ S T S' T w0 wr
  res : dropGo s.data.toList n p D' = dropGo s.data.toList n J.segs D
  ok : Okd D'
  steps : D'.steps + p.length ≤ D.steps + J.segs.length
  fits : Fits { J with segs := p }
theorem DropAt.go {w0 : World} {p : List Sg} {n : Nat} (h : DropAt w0 wr S T S' j d s D D' J p n) (hb : Below wr.heap.size wr w') : DropAt w0 w' S T S' j d s D D' J p n :=
  ⟨h.jd.go hb, h.turn.trans (TurnJ.below hb), h.res, h.ok, h.steps, h.fits⟩

set_option maxHeartbeats 6400000 in
set_option maxRecDepth 20000 in
theorem jdrop_any (n : Nat) (w : World) (h : JD w S T j d s D J) (hoff : J.off = false) (hon : D.off = false) (hok : Okd D) (hst : D.steps + J.segs.length ≤ 1048576000) (hf : Fits J) :
    Calls Tryz.prog 34 #[.pointer (some ⟨j, 0, none⟩), .int .u64 n] w fun e w' => e = .returned (.int .i64 (jDrop s.data.toList D J n).1) ∧ ∃ S', JD w' S' T j d s (jDrop s.data.toList D J n).2.1 (jDrop s.data.toList D J n).2.2 ∧ TurnJ S T S' T w w' := by
  have href := jrefusal_any w h
  have hR : jRefused D J = false := by simp [jRefused, hoff, hon]
  rw [hR] at href
  simp only [Bool.false_eq_true, if_false] at href
  by_cases hnx : J.next < n
  · have e1 : jDrop s.data.toList D J n = (2, D, J) := by unfold jDrop; rw [if_pos hnx]
    rw [e1]
    have hni : (J.next : Int) < (n : Int) := by omega
    clear h e1 hnx
    go_enter Tryz.func34, Tryz.ntmps34
    go_wp2_with fail
    refine href.mono ?_
    rintro e w1 ⟨rfl, h1, ht1⟩
    have c4 := h1.next
    have H1 := Lib.hid (And.intro h1 ht1)
    clear href h1 ht1
    go_wp2
    go_returns
    exact ⟨by simp, S, H1.out.1, H1.out.2⟩
  · have e1 : jDrop s.data.toList D J n = jDropped J (dropGo s.data.toList n J.segs D) := by unfold jDrop; rw [if_neg hnx]
    rw [e1]
    have hni : ¬ (J.next : Int) < (n : Int) := by omega
    have hdc : decide (J.next < n) = false := decide_eq_false hnx
    clear h e1
    go_enter Tryz.func34, Tryz.ntmps34
    go_wp2_with fail
    refine href.mono ?_
    rintro e w1 ⟨rfl, h1, ht1⟩
    have c4 := h1.next
    have HA := Lib.hid (show DropAt w w1 S T S j d s D D J J.segs n from ⟨h1, ht1, rfl, hok, Nat.le_refl _, hf⟩)
    clear href h1 ht1
    go_wp2_with fail
    go_loopw [6] (fun _ wr => ∃ (S' : Nat → Prop) (D' : Dsk) (p : List Sg), DropAt w wr S T S' j d s D D' J p n) (fun _ wr => lenJ wr j)
    case atStart => exact ⟨_, _, _, HA.out⟩
    case round =>
      obtain ⟨S1, D1, p, hat⟩ := hrel
      clear c4 HA
      obtain ⟨vs, ms, hj, hms⟩ := hat.jd.jo
      have hms' : p = ms.map SgM.sg := hms
      match ms, hj, hms' with
      | [], hj, hms' =>
        have c5 : ∃ A c, wr.cell? ⟨j, 5, none⟩ = some (.slice A 0 c) := by
          obtain ⟨A, c, e⟩ := o_any hj.row
          exact ⟨A, c, by rw [hj.c5, e]; rfl⟩
        obtain ⟨A, c, c5⟩ := c5
        have HF := Lib.hid (show dropGo s.data.toList n J.segs D = (0, D1, p) by rw [← hat.res, hms']; rfl)
        have HAT := Lib.hid hat
        clear hj hat hms hms'
        go_wp2
        go_returns
        rw [HF.out]
        exact ⟨rfl, S1, HAT.out.jd, HAT.out.turn⟩
      | [m], hj, hms' =>
        have c5 : ∃ A c, wr.cell? ⟨j, 5, none⟩ = some (.slice A 1 c) := by
          obtain ⟨A, c, e⟩ := o_any hj.row
          exact ⟨A, c, by rw [hj.c5, e]; rfl⟩
        obtain ⟨A, c, c5⟩ := c5
        have HF := Lib.hid (show dropGo s.data.toList n J.segs D = (0, D1, p) by rw [← hat.res, hms']; rfl)
        have HAT := Lib.hid hat
        clear hj hat hms hms'
        go_wp2
        go_returns
        rw [HF.out]
        exact ⟨rfl, S1, HAT.out.jd, HAT.out.turn⟩
      | m :: m2 :: r, hj, hms' =>
        obtain ⟨R, hR⟩ : ∃ R, R = r.length := ⟨_, rfl⟩
        have hrow := hj.row
        rw [List.length_cons, List.length_cons] at hrow
        obtain ⟨g, o, c, hvs, hgv, hvo, hc1, hc2⟩ := o_block hrow (Nat.succ_pos _)
        have c5 : wr.cell? ⟨j, 5, none⟩ = some (.slice (some ⟨g, o, none⟩) (R + 1 + 1) c) := by rw [hj.c5, hvs, hR]
        have k3 : wr.cell? ⟨g, o + 3, none⟩ = some (.int .u64 m2.num) := by
          have := (o_cell (i := ([m] : List SgM).length * 3 + 0) (a := o + 3) hrow hgv (cG_at [m] m2 r 0 (by decide)) (by simp [hvo])).1
          simpa using this
        have hRc : R + 1 + 1 ≤ c := by omega
        have hR30 : R ≤ 1073741824 := by have := hat.fits.segs; rw [hms'] at this; simp at this; omega
        have hlen : (1 : Int) < (R : Int) + 1 + 1 := by omega
        by_cases hle : m2.num ≤ n
        · have hlei : (m2.num : Int) ≤ (n : Int) := by omega
          have hfs := jfirst_any wr hat.jd
          have hjf : jFirst { J with segs := p } = m.num := by simp [jFirst, hms', SgM.sg]
          rw [hjf] at hfs
          have hmn : m.num ≤ maxNo := hat.fits.nums m.sg (by show m.sg ∈ p; rw [hms']; simp)
          have HLJ := Lib.hid (show lenJ wr j = R + 1 + 1 by unfold lenJ; rw [c5])
          have HAT := Lib.hid hat
          have HMS := Lib.hid hms'
          have HRR := Lib.hid hR
          have hst' : D1.steps ≤ 1048576000 := by have := hat.steps; omega
          clear hj hat hms hrow hvs hgv hvo hjf hms' hR
          go_wp2_with fail
          refine hfs.mono ?_
          rintro e w2 ⟨rfl, hw2⟩
          rw [hw2]
          clear hw2 w2 hfs
          go_wp2_with fail
          refine (jfile_any m.num hmn wr HAT.out.jd).mono ?_
          rintro e w2 ⟨rfl, hb2⟩
          have H2 := Lib.hid (HAT.out.go hb2)
          have hsz := seg_size H2.out.jd.nm m.num
          have hstp := jstep_any 63 #[] (strOf (segN s.data.toList m.num)) _ w2 H2.out.jd remove_enters (does_remove _ (by omega) H2.out.jd.dk (okd_room H2.out.ok (by omega)) H2.out.ok)
          obtain ⟨rr, hrr⟩ : ∃ x, x = dRemove D1 (segN s.data.toList m.num) := ⟨_, rfl⟩
          rw [← hrr] at hstp
          have HRM := Lib.hid hrr
          clear hrr c5 k3 HAT hb2
          go_wp2_with fail
          refine hstp.mono ?_
          rintro e w3 ⟨rfl, S3, h3, ht3⟩
          by_cases h0 : rr.1 = 0
          · rw [h0, show jEnd { J with segs := p } 0 = { J with segs := p } by simp [jEnd]] at h3
            have hok3 : Okd rr.2 := by rw [HRM.out]; exact okd_remove H2.out.ok _
            have hst3 : rr.2.steps ≤ D1.steps + 1 := by rw [HRM.out]; exact (steps_remove D1 _).1
            obtain ⟨vs3, ms3, hj3, hms3⟩ := h3.jo
            have hms3' : p = ms3.map SgM.sg := hms3
            obtain ⟨xa, xr, rfl⟩ : ∃ xa xr, ms3 = xa :: xr := by
              cases ms3 with
              | nil => rw [HMS.out] at hms3'; cases hms3'
              | cons x y => exact ⟨x, y, rfl⟩
            have hxl : xr.length = R + 1 := by
              have := congrArg List.length hms3'
              rw [HMS.out] at this
              simp at this
              have := HRR.out
              omega
            have hrow := hj3.row
            rw [List.length_cons] at hrow
            obtain ⟨g3, o3, c3, hvs3, hgv3, hvo3, hd1, hd2⟩ := o_block hrow (Nat.succ_pos _)
            subst hvs3
            have c5 : w3.cell? ⟨j, 5, none⟩ = some (.slice (some ⟨g3, o3, none⟩) (R + 1 + 1) c3) := by rw [hj3.c5, hxl]
            have hgl := o_blk hrow hgv3
            obtain ⟨_, cs0, hcs0⟩ := hgl
            have hw0 : Whole w3 g3 88 cs0 := hcs0
            have htj := (((StayB.refl 79 w3).put (i := o3) hw0 (by decide) (.int .u64 0)).put (i := o3 + 1) (hw0.put o3 _) (by decide) (.int .i64 0)).put (i := o3 + 2) ((hw0.put o3 _).put (o3 + 1) _) (by decide) (.slice none 0 0)
            have htw := htj.whole hj3.top
            have k5 : (((w3.setCell ⟨g3, o3, none⟩ (.int .u64 0)).setCell ⟨g3, o3 + 1, none⟩ (.int .i64 0)).setCell ⟨g3, o3 + 2, none⟩ (.slice none 0 0)).cell? ⟨j, 5, none⟩ = some (.slice (some ⟨g3, o3, none⟩) (R + 1 + 1) c3) := by
              have := htw.cell 5
              rw [this, hxl]
              rfl
            have f5 := htw.frozen 5
            have q0 := o_cell (i := ([] : List SgM).length * 3 + 0) (a := o3) hrow hgv3 (cG_at [] xa xr 0 (by decide)) (by simp [vOff])
            have q1 := o_cell (i := ([] : List SgM).length * 3 + 1) (a := o3 + 1) hrow hgv3 (cG_at [] xa xr 1 (by decide)) (by simp [vOff])
            have q2 := o_cell (i := ([] : List SgM).length * 3 + 2) (a := o3 + 2) hrow hgv3 (cG_at [] xa xr 2 (by decide)) (by simp [vOff])
            have hcc : ¬ c3 = 1 := by omega
            have hcc2 : R + 1 + 1 ≤ c3 := by omega
            have hdh := hj3.dropHead (.slice (some ⟨g3, o3 + 3, none⟩) xr.length (c3 - 1)) rfl
            have hTg := hj3.tv g3 hgv3
            have hO : Outs T w3 ((((w3.setCell ⟨g3, o3, none⟩ (.int .u64 0)).setCell ⟨g3, o3 + 1, none⟩ (.int .i64 0)).setCell ⟨g3, o3 + 2, none⟩ (.slice none 0 0)).setCell ⟨j, 5, none⟩ (.slice (some ⟨g3, o3 + 3, none⟩) xr.length (c3 - 1))) :=
              ((((Outs.refl T w3).setCell (.inl hTg) _).setCell (.inl hTg) _).setCell (.inl hTg) _).setCell (.inl hj3.tj) _
            obtain ⟨hjd4, ht4⟩ := h3.jour (J' := { J with segs := xr.map SgM.sg }) ⟨_, xr, hdh, rfl⟩ hO (fun k hk => .inl hk)
            have ht5 := H2.out.turn.trans (ht3.trans ht4)
            have hpp : p = m.sg :: m2.sg :: r.map SgM.sg := HMS.out
            have hxr : xr.map SgM.sg = m2.sg :: r.map SgM.sg := by
              rw [hpp] at hms3'
              simpa using (List.cons.inj hms3').2.symm
            have hat4 : DropAt w ((((w3.setCell ⟨g3, o3, none⟩ (.int .u64 0)).setCell ⟨g3, o3 + 1, none⟩ (.int .i64 0)).setCell ⟨g3, o3 + 2, none⟩ (.slice none 0 0)).setCell ⟨j, 5, none⟩ (.slice (some ⟨g3, o3 + 3, none⟩) xr.length (c3 - 1))) S T S3 j d s D rr.2 J (xr.map SgM.sg) n := by
              refine ⟨hjd4, ht5, ?_, hok3, ?_, ?_⟩
              · rw [← H2.out.res, hpp, hxr]
                conv => rhs; unfold dropGo
                rw [if_pos (show m2.sg.num ≤ n from hle), show m.sg.num = m.num from rfl, ← HRM.out, if_pos h0]
              · have := H2.out.steps
                rw [hxr]
                rw [hpp] at this
                simp only [List.length_cons] at this ⊢
                omega
              · have hf0 := H2.out.fits
                rw [hpp] at hf0
                rw [hxr]
                exact ⟨hf0.next, by have := hf0.segs; simp only [List.length_cons] at this ⊢; omega, fun x hx => hf0.nums x (by simp only [List.mem_cons] at hx ⊢; exact .inr hx), fun x hx => hf0.recs x (by simp only [List.mem_cons] at hx ⊢; exact .inr hx), fun x hx => hf0.size x (by simp only [List.mem_cons] at hx ⊢; exact .inr hx)⟩
            have HAT4 := Lib.hid hat4
            have hlj : lenJ ((((w3.setCell ⟨g3, o3, none⟩ (.int .u64 0)).setCell ⟨g3, o3 + 1, none⟩ (.int .i64 0)).setCell ⟨g3, o3 + 2, none⟩ (.slice none 0 0)).setCell ⟨j, 5, none⟩ (.slice (some ⟨g3, o3 + 3, none⟩) xr.length (c3 - 1))) j = R + 1 := by
              unfold lenJ
              rw [hdh.c5, hxl]
            rw [hxl] at HAT4 hlj
            have HLJ4 := Lib.hid hlj
            clear hlj hw0 hcs0 htj htw hat4 ht5 hjd4 ht4 hO hdh hj3 hms3 hms3' h3 ht3 hstp hrow
            rw [h0]
            go_wp2
            go_roundw
            case rel => exact ⟨_, _, _, HAT4.out⟩
            case measure =>
              rw [HLJ4.out, HLJ.out]
              omega
          · have hne : (rr.1 != 0) = true := by simpa using h0
            have HF := Lib.hid (show dropGo s.data.toList n J.segs D = (rr.1, rr.2, p) by
              rw [← H2.out.res, HMS.out]
              show dropGo s.data.toList n (m.sg :: m2.sg :: r.map SgM.sg) D1 = _
              unfold dropGo
              rw [if_pos (show m2.sg.num ≤ n from hle), show m.sg.num = m.num from rfl, ← HRM.out, if_neg h0]
              rfl)
            have H3 := Lib.hid (And.intro h3 (H2.out.turn.trans ht3))
            clear h3 ht3 hstp
            go_wp2
            go_returns
            rw [HF.out]
            exact ⟨by simp [jDropped], S3, H3.out.1, H3.out.2⟩
        · have hlei : ¬ (m2.num : Int) ≤ (n : Int) := by omega
          have HF := Lib.hid (show dropGo s.data.toList n J.segs D = (0, D1, p) by
            rw [← hat.res, hms']
            show dropGo s.data.toList n (m.sg :: m2.sg :: r.map SgM.sg) D1 = _
            unfold dropGo
            rw [if_neg (show ¬ m2.sg.num ≤ n from hle)]
            rfl)
          have HAT := Lib.hid hat
          clear hj hat hms hrow hvs hgv hvo hms'
          go_wp2
          go_returns
          rw [HF.out]
          exact ⟨rfl, S1, HAT.out.jd, HAT.out.turn⟩
end
end Go.Proofs.YtbobakfcmkaijaaGreatDoor
end

section
/- Save. -/
namespace Go.Proofs.YtbobakfcmkaijaaGreatDoor
open Go.RowKit
set_option linter.unusedVariables false

section
variable {w w' w2 wr w0 : World} {S T U S' T' U' S0 T0 U0 V : Nat → Prop} {st j d : Nat} {D D' : Dsk} {X X' : Ck} {B : Nat} {e : Int}
/-- what stands within Save: the boxes of the receiver and of the result -/
structure SvAt (w0 wr : World) (S0 T0 U0 S T U : Nat → Prop) (st j d : Nat) (D : Dsk) (X : Ck) (B : Nat) (e : Int) : Prop where
  sd : SD wr S T U st j d D X
  turn : TurnS S0 T0 U0 S T U w0 wr
  b1 : Whole wr B 27 #[.pointer (some ⟨st, 0, none⟩)]
  b2 : Whole wr (B + 1) 24 #[.int .i64 e]
  far : ∀ k, B ≤ k → k ≤ B + 1 → ¬ (S k ∨ T k ∨ U k)
  ge : w0.heap.size ≤ B
  big : 1 < w0.heap.size ∧ 0 < w0.heap.size
theorem SvAt.step (h : SvAt w0 wr S0 T0 U0 S T U st j d D X B e) (hs : SD w' S' T' U' st j d D' X') (ht : TurnS S T U S' T' U' wr w') : SvAt w0 w' S0 T0 U0 S' T' U' st j d D' X' B e := by
  have hb2 := h.b2.lt
  refine ⟨hs, h.turn.trans ht, h.b1.outs ht.outs (h.far _ (by omega) (by omega)), h.b2.outs ht.outs (h.far _ (by omega) (by omega)), fun k h1 h2 hh => ?_, h.ge, h.big⟩
  rcases ht.new k hh with e1 | e1
  · exact h.far k h1 h2 e1
  · omega
theorem SvAt.go (h : SvAt w0 wr S0 T0 U0 S T U st j d D X B e) (hb : Below wr.heap.size wr w') : SvAt w0 w' S0 T0 U0 S T U st j d D X B e := h.step (h.sd.go hb) (TurnS.below hb)
theorem SvAt.res (h : SvAt w0 wr S0 T0 U0 S T U st j d D X B e) (e' : Int) : SvAt w0 (wr.setCell ⟨B + 1, 0, none⟩ (.int .i64 e')) S0 T0 U0 S T U st j d D X B e' := by
  have ho : Outs (fun k => k = B + 1) wr (wr.setCell ⟨B + 1, 0, none⟩ (.int .i64 e')) := (Outs.refl (fun k => k = B + 1) wr).setCell (p := ⟨B + 1, 0, none⟩) (.inl rfl) _
  have hg := h.ge
  have hbig := h.big
  have hn : ∀ k, S k ∨ T k ∨ U k → ¬ k = B + 1 := fun k hk e => h.far k (by omega) (by omega) hk
  exact ⟨h.sd.other ho hn (by omega) (by omega), ⟨h.turn.outs.setCell (p := ⟨B + 1, 0, none⟩) (.inr (show w0.heap.size ≤ B + 1 by omega)) _, h.turn.new⟩, h.b1.far (p := ⟨B + 1, 0, none⟩) (by show B ≠ B + 1; omega) _, by simpa using h.b2.put 0 (.int .i64 e'), h.far, h.ge, h.big⟩
theorem SvAt.cs (h : SvAt w0 wr S0 T0 U0 S T U st j d D X B e) : wr.cell? ⟨B, 0, none⟩ = some (.pointer (some ⟨st, 0, none⟩)) ∧ wr.cell? ⟨B + 1, 0, none⟩ = some (.int .i64 e) ∧ wr.frozen? ⟨B + 1, 0, none⟩ = false ∧ wr.cell? ⟨st, 1, none⟩ = some (.pointer (some ⟨d, 0, none⟩)) ∧ wr.cell? ⟨st, 4, none⟩ = some (.pointer (some ⟨j, 0, none⟩)) :=
  ⟨h.b1.cell 0, h.b2.cell 0, h.b2.frozen 0, h.sd.st.c1, h.sd.st.c4⟩

set_option maxRecDepth 10000 in
/-- the deferred call -/
theorem save1_any (u : FrameMode) (w : World) (b1 b2 : Nat) (e : Int) (h : SD w S T U st j d D X) (c1 : w.cell? ⟨b1, 0, none⟩ = some (.pointer (some ⟨st, 0, none⟩))) (c2 : w.cell? ⟨b2, 0, none⟩ = some (.int .i64 e)) :
    CallsD Tryz.prog 29 #[.pointer (some ⟨b1, 0, none⟩), .pointer (some ⟨b2, 0, none⟩)] u w fun r u' w' => u' = u ∧ (r = .returned (.tuple #[]) ∧ SD w' S T U st j d D (ckEnd X e) ∧ TurnS S T U S T U w w') := by
  have hend := send_any e w h
  clear h
  go_enter_d Tryz.func29, Tryz.ntmps29
  go_wp2_with fail
  refine hend.mono ?_
  rintro r w1 ⟨rfl, h1, ht1⟩
  have H := Lib.hid (And.intro h1 ht1)
  clear hend h1 ht1
  go_wp2
  first | go_end0 | (refine bodyPost_ret (results_none rfl _ _ _) rfl ?_)
  exact ⟨rfl, H.out.1, H.out.2⟩

/-- the closing of Save behind its body -/
theorem save_close {tmps : Array Value} {DD : Dsk} {XX : Ck} {e : Int} {wr : World} (h : SvAt w0 wr S0 T0 U0 S T U st j d DD XX w0.heap.size e) (ht : tmps[4]? = some (.pointer (some ⟨w0.heap.size + 1, 0, none⟩)))
    {R : Ending → World → Prop} (hR : ∀ w', SD w' S T U st j d DD (ckEnd XX e) → TurnS S0 T0 U0 S T U w0 w' → R (.returned (.int .i64 e)) w') :
    Leaves Tryz.prog Tryz.f11 tmps R [{ target := .fn (.func 29) #[.pointer (some ⟨w0.heap.size, 0, none⟩), .pointer (some ⟨w0.heap.size + 1, 0, none⟩)], args := #[] }] .returning wr := by
  refine leaves_cons (f := 29) (args := #[.pointer (some ⟨w0.heap.size, 0, none⟩), .pointer (some ⟨w0.heap.size + 1, 0, none⟩)]) (by simp) (by simp [go_sem]) ?_
  refine (save1_any .returning wr w0.heap.size (w0.heap.size + 1) e h.sd (h.b1.cell 0) (h.b2.cell 0)).mono ?_
  rintro r u' w2 ⟨rfl, rfl, h2, ht2⟩
  have h3 := h.step h2 ht2
  have hcell : w2.cell? ⟨w0.heap.size + 1, 0, none⟩ = some (.int .i64 e) := h3.b2.cell 0
  show Leaves _ _ _ _ [] _ _
  refine ⟨.int .i64 e, ?_, hR w2 h3.sd h3.turn⟩
  simp [results, Tryz.results11, go_sem, ht, hcell]
end
end Go.Proofs.YtbobakfcmkaijaaGreatDoor
end

section
/- Save: the walk. -/
namespace Go.Proofs.YtbobakfcmkaijaaGreatDoor
open Go.RowKit
set_option linter.unusedVariables false

section
variable {w w' w2 wr w0 : World} {S T U S' T' U' : Nat → Prop} {st j d : Nat} {D D' : Dsk} {X X' : Ck}
theorem jsync_same {l : Nm} {J : Jn} (hJ : J.off = false) (hD : D.off = false) (h : (jSync l D J).1 = 0) : (jSync l D J).2.2 = J := by
  unfold jSync at h ⊢
  rw [if_neg (by simp [jRefused, hJ, hD])] at h ⊢
  unfold jSyncLast at h ⊢
  split
  · rfl
  · rename_i hne
    rw [if_neg hne] at h
    have h' : (dSync D (segN l J.last.num)).1 = 0 := h
    simp [jStep, h', jEnd]
theorem jsync_okd {l : Nm} {J : Jn} (h : Okd D) : Okd (jSync l D J).2.1 ∧ (jSync l D J).2.1.steps ≤ D.steps + 1 := by
  unfold jSync
  split
  · exact ⟨h, Nat.le_succ _⟩
  · obtain ⟨h1, h2, _⟩ := syncLast_ok (l := l) (J := J) h
    exact ⟨h1, h2⟩
theorem change_okd {old nx : Sn} (h : Okd D) (hb : (snB nx).length ≤ 2000000) : Okd (sChange D old nx).2.1 ∧ (sChange D old nx).2.1.steps ≤ D.steps + 50001 := by
  have h1 := sput_okd h (snapN lM nx.upto) (snB nx)
  have h2 := sput_steps h (snapN lM nx.upto) (snB nx) hb
  have h3 := okd_remove h1 (snapN lM old.upto)
  have h4 := (steps_remove (sPut D (snapN lM nx.upto) (snB nx)).2 (snapN lM old.upto)).1
  unfold sChange
  split
  · split
    · exact ⟨h1, by show (sPut _ _ _).2.steps ≤ _; omega⟩
    · exact ⟨h3, by show (dRemove _ _).2.steps ≤ _; omega⟩
  · exact ⟨h1, by show (sPut _ _ _).2.steps ≤ _; omega⟩

set_option maxHeartbeats 12800000 in
set_option maxRecDepth 20000 in
theorem ssave_any (A : Option Addr) (b : List Int) (n c : Nat) (w : World) (h : SD w S T U st j d D X) (hXo : X.off = false) (hJo : X.J.off = false) (hon : D.off = false) (hok : Okd D) (hst : D.steps ≤ 500000000) (hf : Fits X.J) (hsg : X.J.segs.length ≤ 1000000)
    (hn : b.length = n) (hb : Byt b) (hnl : n ≤ 1048560) (hrd : Rds w w.heap.size A (c8 b)) (hAS : ∀ ad, A = some ad → c8 b ≠ [] → ¬ (S ad.block ∨ T ad.block ∨ U ad.block)) (hnx : X.J.next ≤ maxNo) (hup : X.sn.upto ≤ maxNo) (hsk : Sok ⟨true, X.J.next, b⟩)
    (h1 : (jSync lM D X.J).1 = 0 → (jSync lM D X.J).2.1.off = false ∧ find (jSync lM D X.J).2.1.files (halfN lM) = none ∧ (sPut (jSync lM D X.J).2.1 (snapN lM X.J.next) (snB ⟨true, X.J.next, b⟩)).1 ≠ 8)
    (h2 : (jSync lM D X.J).1 = 0 → (sSave1 (jSync lM D X.J).2.1 X b).1 = 0 → (sSave1 (jSync lM D X.J).2.1 X b).2.1.off = false) :
    Calls Tryz.prog 11 #[.pointer (some ⟨st, 0, none⟩), .slice A n c] w fun e w' => e = .returned (.int .i64 (sSave D X b).1) ∧ ∃ S' U', SD w' S' T U' st j d (sSave D X b).2.1 (sSave D X b).2.2 ∧ TurnS S T U S' T U' w w' := by
  have hmf : ∀ (fn : Fn) (first cap : Array Value) (w : World), (Instr.makeFunc fn first cap).run Tryz.prog w = .ok (.func fn first cap) w := fun _ _ _ _ => rfl
  have E0 := Lib.hid (show sSave D X b = ((sSave0 D X b).1, (sSave0 D X b).2.1, ckEnd (sSave0 D X b).2.2 (sSave0 D X b).1) from rfl)
  obtain ⟨W1, hW1⟩ : ∃ W1, W1 = (w.alloc (.cells #[.pointer (some ⟨st, 0, none⟩)] 27)).alloc (.cells #[.int .i64 0] 24) := ⟨_, rfl⟩
  have hb1 : Below w.heap.size w W1 := by rw [hW1]; exact ((Below.refl _ w).alloc (Nat.le_refl _) _).alloc (by simp) _
  have hv1 : SvAt w W1 S T U S T U st j d D X w.heap.size 0 := by
    have hlt := h.lt
    refine ⟨h.go hb1, TurnS.below hb1, ?_, ?_, fun k h1 h2 hh => by have := hlt k hh; omega, Nat.le_refl _, ⟨h.mx.lt, h.jd.pow.lt⟩⟩
    · rw [hW1]; exact (Whole.new w _ _).alloc _
    · rw [hW1]
      have := Whole.new (w.alloc (.cells #[.pointer (some ⟨st, 0, none⟩)] 27)) 24 #[.int .i64 0]
      rw [World.size_alloc] at this
      exact this
  have c3 := hv1.sd.st.c3
  rw [hXo] at c3
  have href := srefusal_ok W1 hv1.sd.st.c0 c3
  obtain ⟨cB, cR, cf, cd, cj⟩ := hv1.cs
  have hrd1 := (hrd.below hb1).more hb1.size
  have hon1 := on_any W1 hv1.sd.jd.dk
  rw [hon] at hon1
  have hnx1 := jnext_any W1 hv1.sd.jd
  have hsy := jsync_any W1 hv1.sd.jd (okd_room hok (by omega)) hf
  rw [lst_m] at hsy
  have HX := Lib.hid hW1
  have HV := Lib.hid hv1
  have HRD := Lib.hid hrd1
  have hni : ¬ (1048560 : Int) < (n : Int) := by omega
  have hmi : ¬ (999999999999 : Int) < (X.J.next : Int) := by unfold maxNo at hnx; omega
  obtain ⟨s1, hs1⟩ : ∃ s, s = jSync lM D X.J := ⟨_, rfl⟩
  rw [← hs1] at hsy h1 h2
  have HS := Lib.hid hs1
  have HOK1 := Lib.hid (show Okd s1.2.1 ∧ s1.2.1.steps ≤ D.steps + 1 by rw [hs1]; exact jsync_okd hok)
  have HJS := Lib.hid (show s1.1 = 0 → s1.2.2 = X.J by rw [hs1]; exact jsync_same hJo hon)
  have HH1 := Lib.hid h1
  have HH2 := Lib.hid h2
  have hlt0 := h.lt
  clear hW1 hv1 h hrd hrd1 hb1 h1 h2 hs1
  go_enter_defers Tryz.func11, Tryz.ntmps11
  go_wp2_with fail
  rw [← HX.out]
  refine href.mono ?_
  rintro e w1 ⟨rfl, hw1⟩
  rw [hw1]
  clear hw1 w1 href
  go_wp2_with fail
  refine hon1.mono ?_
  rintro e w1 ⟨rfl, hw1⟩
  rw [hw1]
  clear hw1 w1 hon1
  go_wp2_with fail
  refine hnx1.mono ?_
  rintro e w1 ⟨rfl, hw1⟩
  rw [hw1]
  clear hw1 w1 hnx1
  go_wp2_with fail
  refine hsy.mono ?_
  rintro e w1 ⟨rfl, S1, hj1, ht1⟩
  obtain ⟨hsd1, hts1⟩ := HV.out.sd.jour hj1 ht1
  have hv1 := HV.out.step hsd1 hts1
  clear hsy hj1 ht1 hsd1 cB cR cf cd cj
  obtain ⟨cB, cR, cf, cd, cj⟩ := hv1.cs
  by_cases e1 : s1.1 = 0
  · have hrdw : Rds w1 w1.heap.size A (c8 b) := HRD.out.outsW hts1.outs (Nat.le_refl _) (fun ad e hne hh => hAS ad e hne hh)
    have hJs := HJS.out e1
    obtain ⟨hof1, hhf1, hn8⟩ := HH1.out e1
    have hof2 := HH2.out e1
    have hcl := dclone_any A n c b w1.drew hn (by omega) hrdw
    rw [e1]
    have HV1 := Lib.hid hv1
    have HCL := Lib.hid hcl
    clear hv1 hcl hts1 hrdw
    go_upto_region 15 with fail
    have hS1 : ∀ w', Below w1.heap.size w1 w' → w'.cell? ⟨w.heap.size, 0, none⟩ = some (.pointer (some ⟨st, 0, none⟩)) ∧ Below w1.heap.size w1 w' := fun w' hb => ⟨by rw [hb.cell (World.block_lt_of_cell? _ _ cB)]; exact cB, hb⟩
    refine wp_region_noPanic ?_
    refine wp_region_G 5 (fun w' => w'.cell? ⟨w.heap.size, 0, none⟩ = some (.pointer (some ⟨st, 0, none⟩)) ∧ Below w1.heap.size w1 w') (by kernel_rfl) (by kernel_rfl) (hS1 _ (Below.refl _ _).drew) (fun hSS hst => ?_)
    refine wpAnyG_take (i := 0) (v := ?_) rfl (by kernel_rfl) hst (by kernel_rfl) (by kernel_rfl) (fun _ _ _ h => h) hSS (Or.inl ⟨by rfl, ?_⟩) (fun hst2 => ?_)
    rotate_left
    · (intro w hSw; (try dsimp only at hSw); go_simp; try (with_reducible rfl))
    clear hst; have hst := hst2; clear hst2
    try simp only [Act.put, List.setIfInBounds_toArray, List.set_cons_zero, List.set_cons_succ]
    refine wpAnyG_take (i := 1) (v := ?_) rfl (by kernel_rfl) hst (by kernel_rfl) (by kernel_rfl) (fun _ _ _ h => h) hSS (Or.inl ⟨by rfl, ?_⟩) (fun hst2 => ?_)
    rotate_left
    · (intro w hSw; (try dsimp only at hSw); go_simp; try (with_reducible rfl))
    clear hst; have hst := hst2; clear hst2
    try simp only [Act.put, List.setIfInBounds_toArray, List.set_cons_zero, List.set_cons_succ]
    refine wpAnyG_take (i := 2) (v := ?_) rfl (by kernel_rfl) hst (by kernel_rfl) (by kernel_rfl) (fun _ _ _ h => h) hSS (Or.inl ⟨by rfl, ?_⟩) (fun hst2 => ?_)
    rotate_left
    · (intro w hSw; (try dsimp only at hSw); go_simp; try (with_reducible rfl))
    clear hst; have hst := hst2; clear hst2
    try simp only [Act.put, List.setIfInBounds_toArray, List.set_cons_zero, List.set_cons_succ]
    refine wpAnyG_one (i := 3) (by kernel_rfl) rfl (by kernel_rfl) hst (fun K hK => ?_)
    go_simp
    refine HCL.out.mono ?_
    rintro e w9 ⟨v9, rfl, hown9, hb9⟩
    obtain ⟨A9, c9, rfl⟩ := row_any hown9
    have b9 : Below w1.heap.size w1 w9 := ((Below.refl _ w1).drew).trans hb9
    refine hK.out _ _ (hS1 _ b9) (fun hSS2 hst2 => ?_)
    clear hst hK K hSS
    have hst := hst2
    have hSS := hSS2
    clear hst2 hSS2
    try simp only [Act.put, List.setIfInBounds_toArray, List.set_cons_zero, List.set_cons_succ]
    refine wpAnyG_take (i := 4) (v := ?_) rfl (by kernel_rfl) hst (by kernel_rfl) (by kernel_rfl) (fun _ _ _ h => h) hSS (Or.inl ⟨by rfl, ?_⟩) (fun hst2 => ?_)
    rotate_left
    · (intro w hSw; (try dsimp only at hSw); go_simp; try (with_reducible rfl))
    clear hst; have hst := hst2; clear hst2
    try simp only [Act.put, List.setIfInBounds_toArray, List.set_cons_zero, List.set_cons_succ]
    refine wpAnyG_pass (i := 5) (by kernel_rfl) rfl (by kernel_rfl) (fun K hK => ?_)
    go_simp
    have hv9 := HV1.out.go b9
    have hsz9 := b9.size
    have hA9 : ∀ ad, A9 = some ad → w1.heap.size ≤ ad.block ∧ ad.block < w9.heap.size := fun ad e => by
      subst e
      have := ownRow_block hown9 rfl
      exact ⟨this.1, this.2.1⟩
    have hlt1 : ∀ k, S1 k ∨ T k ∨ U k → k < w1.heap.size := HV1.out.sd.lt
    have hA90 : A9 = none → c9 = 0 := fun e => by
      subst e
      rcases hown9.2 with ⟨e, _⟩ | ⟨g, cap, cur, e, _⟩
      · injection e
      · injection e with e1
        cases e1
    have hmx := HV1.out.sd.mx.lt
    have hmp := HV1.out.sd.jd.pow.lt
    have hbg : ∀ ad, A9 = some ad → ad.block ≠ 1 ∧ ad.block ≠ 0 := fun ad e => by
      have h1 := (hA9 ad e).1
      have h2 : 1 < w1.heap.size := hmx
      have h3 : 0 < w1.heap.size := hmp
      omega
    have hch := schange_any ⟨true, X.J.next, b⟩ A9 n c9 w1 w9 b9 hv9.sd hlt1 hA9 hsk HOK1.out.1 hof1 (by have := HOK1.out.2; omega) hhf1 hup hn (Rds.ofOwn hown9) hA90 hn8 hbg
    obtain ⟨r, hrr⟩ : ∃ r, r = sSave1 s1.2.1 X b := ⟨_, rfl⟩
    rw [show sChange s1.2.1 (⟨X.off, s1.2.2, X.sn⟩ : Ck).sn ⟨true, X.J.next, b⟩ = r from hrr.symm] at hch
    have HR := Lib.hid hrr
    refine hch.mono ?_
    rintro e w10 ⟨rfl, S10, U10, h10, ht10⟩
    have hv10 := HV1.out.step h10 ht10
    refine hK.out _ _ ?_
    have HV10 := Lib.hid hv10
    clear hch hv9 hown9 hb9 b9 hA9 hbg hst hK K hSS hS1 h10 ht10 hv10 hrr
    try simp only [Act.put, List.setIfInBounds_toArray, List.set_cons_zero, List.set_cons_succ]
    refine wpAnyG_last (i := 6) (by kernel_rfl) rfl (by kernel_rfl) (by kernel_rfl) (fun K hK => ?_)
    go_simp
    refine hK.out _ _ ?_
    refine NoPanic.normal ?_
    clear hK K
    obtain ⟨cB, cR, cf, cd, cj⟩ := HV10.out.cs
    by_cases e2 : r.1 = 0
    · have hof := by
        have := hof2
        rw [← HR.out] at this
        exact this e2
      have hchk := change_okd (old := X.sn) (nx := ⟨true, X.J.next, b⟩) HOK1.out.1 (by rw [snB_len]; have := snBody_len ⟨true, X.J.next, b⟩; have := hsk.len; omega)
      rw [show sChange s1.2.1 X.sn ⟨true, X.J.next, b⟩ = r from HR.out.symm] at hchk
      have hjoff : s1.2.2.off = false := by rw [hJs]; exact hJo
      have hdr := jdrop_any X.J.next w10 HV10.out.sd.jd hjoff hof hchk.1 (by show r.2.1.steps + s1.2.2.segs.length ≤ _; rw [hJs]; have := hchk.2; have := HOK1.out.2; omega) (by show Fits s1.2.2; rw [hJs]; exact hf)
      rw [lst_m] at hdr
      obtain ⟨t, htt⟩ : ∃ t, t = jDrop lM r.2.1 s1.2.2 X.J.next := ⟨_, rfl⟩
      rw [show jDrop lM r.2.1 ((⟨X.off, s1.2.2, r.2.2⟩ : Ck).J) X.J.next = t from htt.symm] at hdr
      have HT := Lib.hid htt
      have H2 := Lib.hid e2
      rw [e2]
      clear htt e2 hchk hof
      go_wp2_with fail
      refine hdr.mono ?_
      rintro e w11 ⟨rfl, S11, hj11, ht11⟩
      obtain ⟨hsd11, hts11⟩ := HV10.out.sd.jour hj11 ht11
      have hv11 := HV10.out.step hsd11 hts11
      have E1 := Lib.hid (show sSave0 D X b = (t.1, t.2.1, ⟨X.off, t.2.2, r.2.2⟩) by
        unfold sSave0
        rw [if_pos (by rw [← HS.out]; exact e1), if_pos (by rw [← HS.out, ← HR.out]; exact H2.out), ← HS.out, ← HR.out, ← HT.out])
      have HVE := Lib.hid (hv11.res t.1)
      obtain ⟨cB', cR', cf', _, _⟩ := hv11.cs
      clear hdr hj11 ht11 hsd11 hts11 hv11
      go_wp2
      refine save_close HVE.out rfl fun w' hw ht => ?_
      rw [E0.out, E1.out]
      exact ⟨rfl, S11, U10, hw, ht⟩
    · have hne : (r.1 != 0) = true := by simpa using e2
      have E1 := Lib.hid (show sSave0 D X b = (r.1, r.2.1, ⟨X.off, s1.2.2, r.2.2⟩) by
        unfold sSave0
        rw [if_pos (by rw [← HS.out]; exact e1), if_neg (by rw [← HS.out, ← HR.out]; exact e2), ← HS.out, ← HR.out])
      have HVE := Lib.hid (HV10.out.res r.1)
      go_wp2
      refine save_close HVE.out rfl fun w' hw ht => ?_
      rw [E0.out, E1.out]
      exact ⟨rfl, S10, U10, hw, ht⟩
  · have hne : (s1.1 != 0) = true := by simpa using e1
    have E1 := Lib.hid (show sSave0 D X b = (s1.1, s1.2.1, ⟨X.off, s1.2.2, X.sn⟩) by unfold sSave0; rw [if_neg (by rw [← HS.out]; exact e1), HS.out])
    have HV1 := Lib.hid (hv1.res s1.1)
    clear hv1 hts1
    go_wp2
    trace_state
    refine save_close HV1.out rfl fun w' hw ht => ?_
    rw [E0.out, E1.out]
    exact ⟨rfl, S1, U, hw, ht⟩
end
end Go.Proofs.YtbobakfcmkaijaaGreatDoor
end

section
/- Log, Sync, Next. -/
namespace Go.Proofs.YtbobakfcmkaijaaGreatDoor
open Go.RowKit
set_option linter.unusedVariables false

section
variable {w w' w2 : World} {S T U S' T' U' : Nat → Prop} {st j d : Nat} {D D' : Dsk} {X X' : Ck}
set_option maxHeartbeats 800000 in
set_option maxRecDepth 10000 in
theorem slog_any (A : Option Addr) (b : List Int) (n c : Nat) (w : World) (h : SD w S T U st j d D X) (hoff : X.off = false) (hr : D.steps + 300 ≤ 1099511627776) (hok : Okd D) (hf : Fits X.J) (hfl : X.J.segs.length < 1073741824)
    (hn : b.length = n) (hb : Byt b) (hnl : n ≤ 9223372036854775807) (hrd : Rds w w.heap.size A (c8 b)) (hA : ∀ ad, A = some ad → c8 b ≠ [] → ¬ S ad.block ∧ ¬ T ad.block) :
    Calls Tryz.prog 10 #[.pointer (some ⟨st, 0, none⟩), .slice A n c] w fun e w' => e = .returned (.tuple #[.int .u64 (sLog D X b).1, .int .i64 (sLog D X b).2.1]) ∧ ∃ S' T', SD w' S' T' U st j d (sLog D X b).2.2.1 (sLog D X b).2.2.2 ∧ TurnS S T U S' T' U w w' := by
  have c3 := h.st.c3
  rw [hoff] at c3
  have href := srefusal_ok w h.st.c0 c3
  have c4 := h.st.c4
  have hja := jappend_any A b n c w h.jd hr hok hf hfl hn hb hnl hrd hA
  rw [lst_m] at hja
  have H := Lib.hid h
  have HR := Lib.hid (show sLog D X b = ((jAppend lM D X.J b).1, (jAppend lM D X.J b).2.1, (jAppend lM D X.J b).2.2.1, ckEnd { X with J := (jAppend lM D X.J b).2.2.2 } (jAppend lM D X.J b).2.1) from rfl)
  clear h hrd hA hb hok hf
  generalize jAppend lM D X.J b = r at *
  go_enter Tryz.func10, Tryz.ntmps10
  go_wp2_with fail
  refine href.mono ?_
  rintro e w1 ⟨rfl, hw1⟩
  rw [hw1]
  clear hw1 w1 href
  go_wp2_with fail
  refine hja.mono ?_
  rintro e w1 ⟨rfl, S1, T1, h1, ht1⟩
  obtain ⟨h2, ht2⟩ := H.out.jour h1 ht1
  have hend := send_any r.2.1 w1 h2
  have HT := Lib.hid ht2
  clear hja h1 ht1 h2 ht2
  go_wp2_with fail
  refine hend.mono ?_
  rintro e w2 ⟨rfl, h3, ht3⟩
  have H3 := Lib.hid h3
  have HT3 := Lib.hid (HT.out.trans ht3)
  clear hend h3 ht3
  go_wp2
  go_returns
  rw [HR.out]
  exact ⟨by simp, S1, T1, H3.out, HT3.out⟩
set_option maxHeartbeats 800000 in
set_option maxRecDepth 10000 in
theorem ssync_any (w : World) (h : SD w S T U st j d D X) (hoff : X.off = false) (hr : Room D) (hf : Fits X.J) :
    Calls Tryz.prog 12 #[.pointer (some ⟨st, 0, none⟩)] w fun e w' => e = .returned (.int .i64 (sSync D X).1) ∧ ∃ S' T', SD w' S' T' U st j d (sSync D X).2.1 (sSync D X).2.2 ∧ TurnS S T U S' T' U w w' := by
  have c3 := h.st.c3
  rw [hoff] at c3
  have href := srefusal_ok w h.st.c0 c3
  have c4 := h.st.c4
  have hja := jsync_any w h.jd hr hf
  rw [lst_m] at hja
  have H := Lib.hid h
  have HR := Lib.hid (show sSync D X = ((jSync lM D X.J).1, (jSync lM D X.J).2.1, ckEnd { X with J := (jSync lM D X.J).2.2 } (jSync lM D X.J).1) from rfl)
  clear h hf
  generalize jSync lM D X.J = r at *
  go_enter Tryz.func12, Tryz.ntmps12
  go_wp2_with fail
  refine href.mono ?_
  rintro e w1 ⟨rfl, hw1⟩
  rw [hw1]
  clear hw1 w1 href
  go_wp2_with fail
  refine hja.mono ?_
  rintro e w1 ⟨rfl, S1, h1, ht1⟩
  obtain ⟨h2, ht2⟩ := H.out.jour h1 ht1
  have hend := send_any r.1 w1 h2
  have HT := Lib.hid ht2
  clear hja h1 ht1 h2 ht2
  go_wp2_with fail
  refine hend.mono ?_
  rintro e w2 ⟨rfl, h3, ht3⟩
  have H3 := Lib.hid h3
  have HT3 := Lib.hid (HT.out.trans ht3)
  clear hend h3 ht3
  go_wp2
  go_returns
  rw [HR.out]
  exact ⟨by simp, S1, T, H3.out, HT3.out⟩
theorem snext_any (w : World) (h : SD w S T U st j d D X) :
    Calls Tryz.prog 16 #[.pointer (some ⟨st, 0, none⟩)] w fun e w' => e = .returned (.int .u64 X.J.next) ∧ w' = w := by
  have hnb := snobodys_no st w h.st.c0
  have c4 := h.st.c4
  have hj := jnext_any w h.jd
  clear h
  go_enter Tryz.func16, Tryz.ntmps16
  go_wp2_with fail
  refine hnb.mono ?_
  rintro e w1 ⟨rfl, hw1⟩
  rw [hw1]
  clear hw1 w1
  go_wp2_with fail
  refine hj.mono ?_
  rintro e w1 ⟨rfl, hw1⟩
  rw [hw1]
  clear hw1 w1
  go_wp2
  go_returns
  exact ⟨by simp, rfl⟩
end
end Go.Proofs.YtbobakfcmkaijaaGreatDoor
end

section
/- The walk over the kit's SameTexts. -/
namespace Go.Proofs.YtbobakfcmkaijaaGreatDoor
open Go.RowKit
set_option linter.unusedVariables false

def sameT (a b : List Nm) : Bool := decide (a = b)
theorem encStr_toList (l : Nm) : (ByteArray.mk l.toArray).toList = l := by rw [Lib.toList_data]

set_option maxHeartbeats 1000000 in
set_option maxRecDepth 5000 in
theorem sameTexts_any (A A' : Option Addr) (xs ys : List Nm) (n m c c' lim : Nat) (w : World) (hn : xs.length = n) (hm : ys.length = m) (hl : n ≤ 9223372036854775807) (hl' : m ≤ 9223372036854775807) (hr : Rds w lim A (cS xs)) (hr' : Rds w lim A' (cS ys)) :
    Calls Tryz.prog 20 #[.slice A n c, .slice A' m c'] w fun e w' => e = .returned (.bool (sameT xs ys)) ∧ ∃ q, w' = w.drewN q := by
  by_cases hlen : n = m
  · have hlb : ((n : Int) != (m : Int)) = false := by simp [hlen]
    have HL := Lib.hid hlen
    have HN := Lib.hid hn
    have HM := Lib.hid hm
    clear hlen hn hm
    have hn63 : (n : Int) ≤ 9223372036854775807 := by omega
    go_enter Tryz.func20, Tryz.ntmps20
    go_wp2
    go_loopw [5] (fun i wr => ∃ k : Nat, k ≤ n ∧ i = .int .i64 k ∧ (∀ j, j < k → xs[j]? = ys[j]?) ∧ ∃ q, wr = w.drewN q) (fun i _ => n - (intOf i).toNat)
    case atStart => exact ⟨0, Nat.zero_le _, rfl, fun j hj => absurd hj (by omega), 0, rfl⟩
    case round =>
      obtain ⟨k, hk, rfl, hsame, q, rfl⟩ := hrel
      have HS := Lib.hid hsame
      clear hsame
      by_cases hlt : k < n
      · have hkx : k < xs.length := by rw [HN.out]; exact hlt
        have hky : k < ys.length := by rw [HM.out, ← HL.out]; exact hlt
        have hltm : (k : Int) < (m : Int) := by have := HL.out; omega
        obtain ⟨ad, rfl, _, hcell⟩ := hr.at_ (cS_get hkx)
        obtain ⟨ad', rfl, _, hcell'⟩ := hr'.at_ (cS_get hky)
        have e1 : encStr xs[k] = .string ⟨xs[k].toArray⟩ := rfl
        have e2 : encStr ys[k] = .string ⟨ys[k].toArray⟩ := rfl
        rw [e1] at hcell
        rw [e2] at hcell'
        clear e1 e2
        have hX : (⟨xs[k].toArray⟩ : ByteArray).toList = xs[k] := encStr_toList _
        have hY : (⟨ys[k].toArray⟩ : ByteArray).toList = ys[k] := encStr_toList _
        by_cases heq : xs[k] = ys[k]
        · have hq : ((⟨xs[k].toArray⟩ : ByteArray).toList == (⟨ys[k].toArray⟩ : ByteArray).toList) = true := by rw [hX, hY, heq]; simp
          have hq2 : (⟨xs[k].toArray⟩ : ByteArray).toList = (⟨ys[k].toArray⟩ : ByteArray).toList := by rw [hX, hY, heq]
          have HE := Lib.hid heq
          clear hX hY heq
          generalize (⟨xs[k].toArray⟩ : ByteArray) = X at *
          generalize (⟨ys[k].toArray⟩ : ByteArray) = Y at *
          have hq3 : (X.toList != Y.toList) = false := by simp [hq2]
          go_wp2
          go_quiet (fail)
          go_wp2
          go_roundw
          case rel =>
            refine ⟨k + 1, by omega, by go_num, fun j hj => ?_, _, rfl⟩
            rcases Nat.lt_or_ge j k with h | h
            · exact HS.out j h
            · obtain rfl : j = k := by omega
              rw [List.getElem?_eq_getElem hkx, List.getElem?_eq_getElem hky, HE.out]
          case measure => simp [intOf]; omega
        · have hq2 : ¬ (⟨xs[k].toArray⟩ : ByteArray).toList = (⟨ys[k].toArray⟩ : ByteArray).toList := by rw [hX, hY]; exact heq
          have hf : sameT xs ys = false := by
            refine decide_eq_false fun e => heq ?_
            subst e
            rfl
          have HF := Lib.hid hf
          clear hX hY heq hf
          generalize (⟨xs[k].toArray⟩ : ByteArray) = X at *
          generalize (⟨ys[k].toArray⟩ : ByteArray) = Y at *
          have hq3 : (X.toList != Y.toList) = true := by simpa using hq2
          have hq4 : (X.toList == Y.toList) = false := by simpa using hq2
          go_wp2
          go_quiet (fail)
          go_wp2
          go_returns
          exact ⟨by rw [HF.out]; simp, _, World.drewN_drewN ..⟩
      · have ht : sameT xs ys = true := by
          refine decide_eq_true (List.ext_getElem? fun j => ?_)
          rcases Nat.lt_or_ge j k with h | h
          · exact HS.out j h
          · have h1 := HN.out
            have h2 := HM.out
            have h3 := HL.out
            rw [List.getElem?_eq_none (by omega), List.getElem?_eq_none (by omega)]
        have HT := Lib.hid ht
        clear ht
        go_wp2
        go_returns
        exact ⟨by rw [HT.out]; simp, q, rfl⟩
  · have hlb : ((n : Int) != (m : Int)) = true := by simp; omega
    have hf : sameT xs ys = false := decide_eq_false fun e => hlen (by rw [← hn, ← hm, e])
    rw [hf]
    clear hf hlen hn hm
    go_enter Tryz.func20, Tryz.ntmps20
    go_wp2
    go_returns
    exact ⟨by simp, 0, rfl⟩
end Go.Proofs.YtbobakfcmkaijaaGreatDoor
end

section
/- The walk over the chapter's first example, that every statement of the layer asks first. -/
namespace Go.Proofs.YtbobakfcmkaijaaGreatDoor
open Go.RowKit
set_option linter.unusedVariables false

theorem conv_same5 (w : World) (C : Array Value) (n c : Nat) : (convert 30 30 (.slice (some ⟨w.heap.size, 0, none⟩) n c)).run Tryz.prog (w.alloc (.cells C 5)) = .ok (.slice (some ⟨w.heap.size, 0, none⟩) n c) (w.alloc (.cells C 5 (C.size, C.size + 1))) :=
  Lib.run_convert_bytes_const w 30 5 C n c Tryz.underlying30 Tryz.underlying5
theorem Rds.madeF5 (w : World) (t : TypeId) (zs : List Int) (cs : Array Value) (fr : Nat × Nat) (h : cs.toList = c8 zs) : Rds (w.alloc (.cells cs t fr)) (w.heap.size + 1) (some ⟨w.heap.size, 0, none⟩) (c8 zs) := by
  intro _
  refine ⟨_, rfl, by simp, fun j u hu => ?_⟩
  have hadd : (⟨w.heap.size, 0, none⟩ : Addr).add j = ⟨w.heap.size, j, none⟩ := by unfold Addr.add; split <;> simp_all
  rw [hadd, cell_of_row _ _ j cs t fr (heap_alloc_new w _), ← hu, ← h]
  simp

/-- a checkpoint and its disk within a walk -/
structure At6 (w0 w : World) (S T U : Nat → Prop) (st j d : Nat) (D : Dsk) (X : Ck) : Prop where
  sd : SD w S T U st j d D X
  below : Below w0.heap.size w0 w
  ge : ∀ k, S k ∨ T k ∨ U k → w0.heap.size ≤ k
section
variable {w0 w w' : World} {S T U S' T' U' : Nat → Prop} {st j d : Nat} {D D' : Dsk} {X X' : Ck}
theorem At6.go (h : At6 w0 w S T U st j d D X) (hb : Below w.heap.size w w') : At6 w0 w' S T U st j d D X := ⟨h.sd.go hb, h.below.trans (hb.mono h.below.size), h.ge⟩
theorem At6.turn (h : At6 w0 w S T U st j d D X) (hj : SD w' S' T' U' st j d D' X') (ht : TurnS S T U S' T' U' w w') : At6 w0 w' S' T' U' st j d D' X' := by
  have hs := h.below.size
  refine ⟨hj, h.below.trans (ht.outs.below (fun k hk => h.ge k hk) hs), fun k hk => ?_⟩
  rcases ht.new k hk with e | e
  · exact h.ge k e
  · omega
theorem at6_log (A : Option Addr) (b : List Int) (n c : Nat) (h : At6 w0 w S T U st j d D X) (hoff : X.off = false) (hok : Okd D) (hr : D.steps + 300 ≤ 1099511627776) (hf : Fits X.J) (hfl : X.J.segs.length < 1073741824)
    (hn : b.length = n) (hb : Byt b) (hnl : n ≤ 9223372036854775807) (hrd : Rds w w.heap.size A (c8 b)) (hA : ∀ ad, A = some ad → c8 b ≠ [] → ¬ S ad.block ∧ ¬ T ad.block) :
    Calls Tryz.prog 10 #[.pointer (some ⟨st, 0, none⟩), .slice A n c] w fun e w' => e = .returned (.tuple #[.int .u64 (sLog D X b).1, .int .i64 (sLog D X b).2.1]) ∧ ∃ S' T', At6 w0 w' S' T' U st j d (sLog D X b).2.2.1 (sLog D X b).2.2.2 := by
  refine (slog_any A b n c w h.sd hoff hr hok hf hfl hn hb hnl hrd hA).mono ?_
  rintro e w2 ⟨rfl, S', T', h2, ht⟩
  exact ⟨rfl, S', T', h.turn h2 ht⟩
/-- a disk, and a checkpoint on it -/
theorem at6_open {xs : List Sn} (w1 : World) (hb : Below w0.heap.size w0 w1) (hk : Dk 0 w1 S d D) (hS : ∀ k, S k → w0.heap.size ≤ k) (hp : Pow w0) (hm : MaxL w0) (hg : Good6 D xs) :
    Calls Tryz.prog 8 #[.pointer (some ⟨d, 0, none⟩), .string nM] w1 fun e w' => ∃ st j S' T' U', e = .returned (.tuple #[.pointer (some ⟨st, 0, none⟩), .int .i64 0]) ∧ At6 w0 w' S' T' U' st j d (sDisk xs D) (sOpened xs D) := by
  have hl := hp.lt
  have hl2 := hm.lt
  have hs := hb.size
  refine (sopen_any (xs := xs) w1 hk (hp.go hb) (hm.go hb) (fun k hk => by have := hS k hk; exact ⟨by omega, by omega⟩) hg).mono ?_
  rintro e w2 ⟨st, j, S', T', U', rfl, h2, ht⟩
  refine ⟨st, j, S', T', U', rfl, h2, hb.trans (ht.outs.below (fun k hk => hS k hk) hs), fun k hk => ?_⟩
  rcases hk with hk | hk | hk
  · rcases ht.ns k hk with e | e
    · exact hS k e
    · omega
  · have := ht.nt k hk
    omega
  · have := ht.nu k hk
    omega
end

def E0 : Dsk := dNew 10000
def Y0 : Ck := ⟨false, jnOf [], sn0⟩
def E1 : Dsk := (sLog E0 Y0 [97]).2.2.1
def Y1 : Ck := (sLog E0 Y0 [97]).2.2.2
def E2 : Dsk := (sLog E1 Y1 [98]).2.2.1
def Y2 : Ck := (sLog E1 Y1 [98]).2.2.2
def E3 : Dsk := (sSave E2 Y2 [65, 66]).2.1
def Y3 : Ck := (sSave E2 Y2 [65, 66]).2.2
theorem bareM (r : Nat) : Bare lM (dNew r) := ⟨rfl, rfl⟩
theorem stM_new (r : Nat) (hr : r ≤ 1073741824) : St5 lM (dNew r) (jnOf []) [] 0 := ⟨new_inv r hr, rfl, .inl ⟨bareM r, rfl, rfl, rfl⟩⟩
theorem freeM_new (r : Nat) : Free (dNew r) := ⟨rfl, rfl⟩
/-- an Append on a disk without a fuse, with room -/
theorem appM_free {D : Dsk} {J : Jn} {L : List (List Int)} {m : Nat} {b : List Int} (h : St5 lM D J L m) (hf : Free D) (hb : Goodr b) (hr : used D.files + (b.length + 12) ≤ D.room) (hL : L.length + 1 ≤ 1073741800) :
    (jAppend lM D J b).2.1 = 0 ∧ (jAppend lM D J b).1 = 1 + L.length ∧ St5 lM (jAppend lM D J b).2.2.1 (jAppend lM D J b).2.2.2 (L ++ [b]) m ∧ Free (jAppend lM D J b).2.2.1 ∧ (jAppend lM D J b).2.2.1.room = D.room ∧ used (jAppend lM D J b).2.2.1.files ≤ used D.files + (b.length + 12) ∧ (jAppend lM D J b).2.2.1.steps ≤ D.steps + 3 + (b.length + 12) := by
  have ht := h.told okM hb hr (by unfold maxNo; omega)
  obtain ⟨h1, h2⟩ := hf.append (l := lM) (b := b) h.jon
  have he : (jAppend lM D J b).2.1 = 0 := by
    rcases ht.2.2 with ⟨e, _⟩ | ⟨e, _⟩
    · exact e
    · exact absurd e h1
  obtain ⟨h3, h4⟩ := h.good hb ht he
  exact ⟨he, h3, h4, h2, ht.1, ht.2.1, jAppend_steps h.inv.ok J b⟩
theorem goodM1 (z : Int) (h : 0 ≤ z ∧ z ≤ 255) : Goodr [z] := ⟨fun y hy => by obtain rfl := List.mem_singleton.1 hy; exact h, by show 1 ≤ 65536; decide⟩
theorem e1_facts : (sLog E0 Y0 [97]).2.1 = 0 ∧ (sLog E0 Y0 [97]).1 = 1 ∧ St5 lM E1 Y1.J [[97]] 0 ∧ Free E1 ∧ E1.room = 10000 ∧ used E1.files ≤ 13 ∧ E1.steps ≤ 16 := by
  have h := appM_free (stM_new 10000 (by decide)) (freeM_new 10000) (goodM1 97 (by decide)) (by decide) (by decide)
  have e : (sLog E0 Y0 [97]).2.1 = 0 := h.1
  refine ⟨e, h.2.1, ?_, h.2.2.2⟩
  have : Y1.J = (jAppend lM (dNew 10000) (jnOf []) [97]).2.2.2 := by
    show (ckEnd _ (sLog E0 Y0 [97]).2.1).J = _
    rw [e]
    rfl
  rw [this]
  exact h.2.2.1
theorem e2_facts : (sLog E1 Y1 [98]).2.1 = 0 ∧ (sLog E1 Y1 [98]).1 = 2 ∧ St5 lM E2 Y2.J [[97], [98]] 0 ∧ Free E2 ∧ E2.room = 10000 ∧ used E2.files ≤ 26 ∧ E2.steps ≤ 32 := by
  obtain ⟨_, _, h3, h4, h5, h6, h7⟩ := e1_facts
  have h := appM_free h3 h4 (goodM1 98 (by decide)) (by rw [h5]; show _ + (1 + 12) ≤ _; omega) (by decide)
  have e : (sLog E1 Y1 [98]).2.1 = 0 := h.1
  refine ⟨e, h.2.1, ?_, h.2.2.2.1, by rw [← h5]; exact h.2.2.2.2.1, ?_, ?_⟩
  · have : Y2.J = (jAppend lM E1 Y1.J [98]).2.2.2 := by
      show (ckEnd _ (sLog E1 Y1 [98]).2.1).J = _
      rw [e]
      rfl
    rw [this]
    exact h.2.2.1
  · have : used E2.files ≤ used E1.files + (1 + 12) := h.2.2.2.2.2.1
    omega
  · have : E2.steps ≤ E1.steps + 3 + (1 + 12) := h.2.2.2.2.2.2
    omega
theorem y1_off : Y1.off = false := by kernel_rfl
theorem y2_off : Y2.off = false := by kernel_rfl
theorem y2_joff : Y2.J.off = false := by kernel_rfl
theorem y2_next : Y2.J.next = 3 := by kernel_rfl
theorem y2_upto : Y2.sn.upto = 1 := by kernel_rfl
theorem y2_segs : Y2.J.segs.length = 1 := by kernel_rfl
theorem s2a : (jSync lM E2 Y2.J).2.1.off = false := by kernel_rfl
theorem s2b : find (jSync lM E2 Y2.J).2.1.files (halfN lM) = none := by kernel_rfl
theorem s2c : (sPut (jSync lM E2 Y2.J).2.1 (snapN lM Y2.J.next) (snB ⟨true, Y2.J.next, [65, 66]⟩)).1 = 0 := by kernel_rfl
theorem s2d : (sSave1 (jSync lM E2 Y2.J).2.1 Y2 [65, 66]).2.1.off = false := by kernel_rfl
theorem s3e : (sSave E2 Y2 [65, 66]).1 = 0 := by kernel_rfl
theorem n3 : dNames E3 = [segN lM 1, snapN lM 3] := by kernel_rfl
theorem e3_steps : E3.steps ≤ 1000 := by decide +kernel
theorem nm_seg : strOf (segN lM 1) = ⟨#[109, 45, 48, 48, 48, 48, 48, 48, 48, 48, 48, 48, 48, 49]⟩ := by kernel_rfl
theorem nm_snap : strOf (snapN lM 3) = ⟨#[109, 45, 115, 110, 97, 112, 45, 48, 48, 48, 48, 48, 48, 48, 48, 48, 48, 48, 51]⟩ := by kernel_rfl
end Go.Proofs.YtbobakfcmkaijaaGreatDoor
end
