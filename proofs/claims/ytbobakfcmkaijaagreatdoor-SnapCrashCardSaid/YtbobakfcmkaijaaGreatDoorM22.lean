/- Several texts, each a section: SLiv, SNo, End, JLaid, SLaid, SNil, SNmF, JArgs. -/
import Derived.Test.YtbobakfcmkaijaaGreatDoorM21
import Derived.Test.YtbobakfcmkaijaaGreatDoorM04
import Derived.Test.YtbobakfcmkaijaaGreatDoorM17
import Derived.Defers
import Derived.Test.YtbobakfcmkaijaaGreatDoorRows
import Derived.Test.YtbobakfcmkaijaaGreatDoorM01
import Derived.ProofKit
import Derived.OpenShut
import Derived.SizedLaws
import Derived.Carry
import Derived.Test.YtbobakfcmkaijaaGreatDoorCards
import Derived.Test.YtbobakfcmkaijaaGreatDoorTie
import Derived.Test.YtbobakfcmkaijaaGreatDoorM06
import Derived.Lay
import Derived.Deep.DeepHandedRow
import Derived.Lib.LaidU8
import Derived.Test.YtbobakfcmkaijaaGreatDoorM10
section
/- The walk over the chapter's first example. -/
namespace Go.Proofs.YtbobakfcmkaijaaGreatDoor
open Go.RowKit
set_option linter.unusedVariables false

theorem Rds.madeV (w : World) (t : TypeId) (xs : List Value) (cs : Array Value) (fr : Nat × Nat) (h : cs.toList = xs) : Rds (w.alloc (.cells cs t fr)) (w.heap.size + 1) (some ⟨w.heap.size, 0, none⟩) xs := by
  intro _
  refine ⟨_, rfl, by simp, fun j u hu => ?_⟩
  have hadd : (⟨w.heap.size, 0, none⟩ : Addr).add j = ⟨w.heap.size, j, none⟩ := by unfold Addr.add; split <;> simp_all
  rw [hadd, cell_of_row _ _ j cs t fr (heap_alloc_new w _), ← hu, ← h]
  simp
theorem snaps_new (r : Nat) : Snaps (dNew r) [] := ⟨(fun f hf => by cases hf), (fun x hx => by cases hx), List.Pairwise.nil⟩
theorem good6_new (r : Nat) (hr : r ≤ 1073741824) : Good6 (dNew r) [] := by
  have e : sFiles [] (dNew r) = dNew r := rfl
  obtain ⟨h1, h2⟩ := (bareM r).open_
  refine ⟨okd_new r hr, ⟨rfl, rfl⟩, Nat.zero_le _, Nat.zero_le _, snaps_new r, rfl, Nat.zero_le _, (fun f hf => by cases hf), ?_, ?_, ?_⟩
  · rw [e, h1]
  · rw [e, h2]
    decide
  · rw [e, h2]
    decide
theorem sDisk_new (r : Nat) : sDisk [] (dNew r) = dNew r := by
  show (jOpen lM (dNew r)).2 = _
  rw [(bareM r).open_.1]
theorem sOpened_new (r : Nat) : sOpened [] (dNew r) = Y0 := by
  show (⟨false, opened lM (dNew r), sn0⟩ : Ck) = _
  rw [(bareM r).open_.2]
  rfl
theorem bareM_fits : Fits Y0.J ∧ Y0.J.segs.length < 1073741824 := ⟨⟨by decide, by decide, (fun x hx => by cases hx), (fun x hx => by cases hx), (fun x hx => by cases hx)⟩, by decide⟩

theorem dropGo_okd {l : Nm} {n : Nat} : ∀ (ss : List Sg) (D : Dsk), Okd D → Okd (dropGo l n ss D).2.1 ∧ (dropGo l n ss D).2.1.steps ≤ D.steps + ss.length
  | [], D, h => ⟨h, by show D.steps ≤ _; omega⟩
  | [a], D, h => ⟨h, by show D.steps ≤ _; omega⟩
  | a :: b :: r, D, h => by
    unfold dropGo
    split
    · split
      · obtain ⟨h1, h2⟩ := dropGo_okd (b :: r) (dRemove D (segN l a.num)).2 (okd_remove h _)
        refine ⟨h1, ?_⟩
        have := (steps_remove D (segN l a.num)).1
        simp only [List.length_cons] at h2 ⊢
        omega
      · refine ⟨okd_remove h _, ?_⟩
        have := (steps_remove D (segN l a.num)).1
        simp only [List.length_cons]
        show (dRemove D (segN l a.num)).2.steps ≤ _
        omega
    · exact ⟨h, by show D.steps ≤ _; omega⟩
theorem jdrop_okd {l : Nm} {D : Dsk} {J : Jn} {n : Nat} (h : Okd D) : Okd (jDrop l D J n).2.1 ∧ (jDrop l D J n).2.1.steps ≤ D.steps + J.segs.length := by
  unfold jDrop
  split
  · exact ⟨h, by show D.steps ≤ _; omega⟩
  · exact dropGo_okd J.segs D h
theorem ssave_okd {D : Dsk} {X : Ck} {b : List Int} (h : Okd D) (hb : (snB ⟨true, X.J.next, b⟩).length ≤ 2000000) : Okd (sSave D X b).2.1 ∧ (sSave D X b).2.1.steps ≤ D.steps + 50002 + (jSync lM D X.J).2.2.segs.length := by
  show Okd (sSave0 D X b).2.1 ∧ (sSave0 D X b).2.1.steps ≤ _
  obtain ⟨h1, h1s⟩ := jsync_okd (l := lM) (J := X.J) h
  obtain ⟨h2, h2s⟩ := change_okd (old := X.sn) h1 hb
  have h3 := jdrop_okd (l := lM) (J := (jSync lM D X.J).2.2) (n := X.J.next) h2
  unfold sSave0
  split
  · split
    · exact ⟨h3.1, Nat.le_trans h3.2 (by omega)⟩
    · exact ⟨h2, Nat.le_trans h2s (by omega)⟩
  · exact ⟨h1, Nat.le_trans h1s (by omega)⟩
theorem e3_ok : Okd E3 := (ssave_okd e2_facts.2.2.1.inv.ok (by rw [snB_len]; have := snBody_len ⟨true, Y2.J.next, [65, 66]⟩; simp at this; omega)).1
set_option maxHeartbeats 6400000 in
set_option maxRecDepth 10000 in
theorem lives6_any (w : World) (hp : Pow w) (hm : MaxL w) : Calls Tryz.prog 6 #[] w fun e w' => e = .returned (.bool true) ∧ Below w.heap.size w w' := by
  have hconv := conv_same5
  have hnil := seql_nil
  go_enter Tryz.func6, Tryz.ntmps6
  go_wp2_with fail
  refine (new_any 10000 (by decide) w).mono ?_
  rintro e w1 ⟨S1, d, rfl, hk1, hb1, hS1⟩
  have hop := at6_open (xs := []) w1 hb1 hk1 hS1 hp hm (good6_new 10000 (by decide))
  rw [sDisk_new, sOpened_new] at hop
  clear hk1 hb1 hS1
  go_wp2_with fail
  refine hop.mono ?_
  rintro e w2 ⟨st, j, S2, T2, U2, rfl, h2⟩
  clear hop
  go_wp2_with fail
  obtain ⟨f1, f2, st1, fr1, rm1, us1, sp1⟩ := e1_facts
  obtain ⟨g1, g2, st2, fr2, rm2, us2, sp2⟩ := e2_facts
  have hba : Below w2.heap.size w2 (w2.alloc (.cells #[.int .u8 97] 5 (1, 2))) := (Below.refl _ _).alloc (Nat.le_refl _) _
  have h3 := h2.go hba
  have hl := h2.sd.lt
  have ha := at6_log (some ⟨w2.heap.size, 0, none⟩) [97] 1 1 h3 rfl (okd_new 10000 (by decide)) (by decide) bareM_fits.1 bareM_fits.2 rfl (goodM1 97 (by decide)).1 (by decide)
    ((Rds.madeF5 w2 5 [97] #[.int .u8 97] (1, 2) rfl).more (by simp)) (fun ad e _ => by
      obtain rfl := Option.some.inj e
      exact ⟨fun hh => Nat.lt_irrefl _ (hl _ (.inl hh)), fun hh => Nat.lt_irrefl _ (hl _ (.inr (.inl hh)))⟩)
  rw [show sLog (dNew 10000) Y0 [97] = (1, 0, E1, Y1) from Prod.ext f2 (Prod.ext f1 rfl)] at ha
  clear h2 h3 hba hl
  refine ha.mono ?_
  rintro e w3 ⟨rfl, S3, T3, h3⟩
  clear ha
  go_wp2_with fail
  have hba : Below w3.heap.size w3 (w3.alloc (.cells #[.int .u8 98] 5 (1, 2))) := (Below.refl _ _).alloc (Nat.le_refl _) _
  have h4 := h3.go hba
  have hl := h3.sd.lt
  have hft := st1.fits (by decide)
  have ha := at6_log (some ⟨w3.heap.size, 0, none⟩) [98] 1 1 h4 y1_off st1.inv.ok (by omega) hft.1 hft.2 rfl (goodM1 98 (by decide)).1 (by decide)
    ((Rds.madeF5 w3 5 [98] #[.int .u8 98] (1, 2) rfl).more (by simp)) (fun ad e _ => by
      obtain rfl := Option.some.inj e
      exact ⟨fun hh => Nat.lt_irrefl _ (hl _ (.inl hh)), fun hh => Nat.lt_irrefl _ (hl _ (.inr (.inl hh)))⟩)
  rw [show sLog E1 Y1 [98] = (2, 0, E2, Y2) from Prod.ext g2 (Prod.ext g1 rfl)] at ha
  clear h3 h4 hba hl
  refine ha.mono ?_
  rintro e w4 ⟨rfl, S4, T4, h4⟩
  clear ha
  go_wp2_with fail
  have hba : Below w4.heap.size w4 (w4.alloc (.cells #[.int .u8 65, .int .u8 66] 5 (2, 3))) := (Below.refl _ _).alloc (Nat.le_refl _) _
  have h5 := h4.go hba
  have hl := h4.sd.lt
  have hft2 := st2.fits (by decide)
  have hb2 : Byt [65, 66] := by
    intro y hy
    have : y = 65 ∨ y = 66 := by simpa using hy
    omega
  have hsv := ssave_any (some ⟨w4.heap.size, 0, none⟩) [65, 66] 2 2 _ h5.sd y2_off y2_joff fr2.on st2.inv.ok (by omega) hft2.1 (by rw [y2_segs]; decide) rfl hb2 (by decide)
    ((Rds.madeF5 w4 5 [65, 66] #[.int .u8 65, .int .u8 66] (2, 3) rfl).more (by simp)) (fun ad e _ hh => by
      obtain rfl := Option.some.inj e
      exact Nat.lt_irrefl _ (hl _ hh))
    (by rw [y2_next]; decide) (by rw [y2_upto]; decide) ⟨hb2, by show 2 ≤ 1048560; decide, by show Y2.J.next ≤ _; rw [y2_next]; decide⟩
    (fun _ => ⟨s2a, s2b, by rw [s2c]; decide⟩) (fun _ _ => s2d)
  rw [s3e] at hsv
  have HH5 := Lib.hid h5
  have HSD := Lib.hid sp2
  clear h4 h5 hba hl hft hft2 st1 fr1 rm1 us1 sp1 g1 g2 f1 f2 st2 fr2 rm2 us2 sp2
  refine hsv.mono ?_
  rintro e w5 ⟨rfl, S5, U5, hs5, ht5⟩
  have h6 : At6 w w5 S5 T4 U5 st j d E3 Y3 := HH5.out.turn hs5 ht5
  have hnm := names_on w5 h6.sd.jd.dk (by have := e3_steps; omega) e3_ok.srt
  rw [n3] at hnm
  have HB4 := Lib.hid h6.below
  clear hsv hs5 ht5 h6 HSD
  go_wp2_with fail
  refine hnm.mono ?_
  rintro e w6 ⟨v, rfl, hown, hb5⟩
  obtain ⟨A5, c5, rfl⟩ := row_any hown
  have HO := Lib.hid hown
  have HB5 := Lib.hid (HB4.out.trans (hb5.mono HB4.out.size))
  clear hnm hown hb5
  go_wp2_with fail
  have HQ := nm_seg
  have HQ2 := nm_snap
  have hbn : Below w6.heap.size w6 (w6.alloc (.cells #[.string (strOf (segN lM 1)), .string (strOf (snapN lM 3))] 9)) := (Below.refl _ _).alloc (Nat.le_refl _) _
  have hrn := (Rds.madeV w6 9 (cS [segN lM 1, snapN lM 3]) #[.string (strOf (segN lM 1)), .string (strOf (snapN lM 3))] (0, 0) rfl).more (lim' := (w6.alloc (.cells #[.string (strOf (segN lM 1)), .string (strOf (snapN lM 3))] 9)).heap.size) (by simp)
  have hst := sameTexts_any A5 (some ⟨w6.heap.size, 0, none⟩) [segN lM 1, snapN lM 3] [segN lM 1, snapN lM 3] 2 2 c5 2 _ (w6.alloc (.cells #[.string (strOf (segN lM 1)), .string (strOf (snapN lM 3))] 9)) rfl rfl (by decide) (by decide) (((Rds.ofOwn HO.out).below hbn).more hbn.size) hrn
  rw [show sameT [segN lM 1, snapN lM 3] [segN lM 1, snapN lM 3] = true by simp [sameT], HQ, HQ2] at hst
  rw [HQ, HQ2] at hbn
  have HF := Lib.hid (HB5.out.trans (hbn.mono HB5.out.size))
  clear hbn hrn
  refine hst.mono ?_
  rintro e w7 ⟨rfl, q, rfl⟩
  clear hst
  go_wp2
  go_returns
  exact ⟨by simp, bDrewN HF.out q⟩
end Go.Proofs.YtbobakfcmkaijaaGreatDoor
end

section
/- The calls on a checkpoint that is not there. -/
namespace Go.Proofs.YtbobakfcmkaijaaGreatDoor
open Go.RowKit
set_option linter.unusedVariables false

section
variable {w : World} {p : Option Addr}
theorem slog_no (h : NobodyS w p) (v : Value) : Calls Tryz.prog 10 #[.pointer p, v] w fun e w' => e = .returned (.tuple #[.int .u64 0, .int .i64 1]) ∧ Below w.heap.size w w' := by
  have hc := srefusal_no p w h
  go_enter Tryz.func10, Tryz.ntmps10
  go_wp2_with fail
  refine hc.mono ?_
  rintro e w1 ⟨rfl, hw⟩
  rw [hw]
  clear hw w1
  go_wp2
  go_returns
  exact ⟨by simp, Below.refl _ _⟩
theorem ssync_no (h : NobodyS w p) : Calls Tryz.prog 12 #[.pointer p] w fun e w' => e = .returned (.int .i64 1) ∧ Below w.heap.size w w' := by
  have hc := srefusal_no p w h
  go_enter Tryz.func12, Tryz.ntmps12
  go_wp2_with fail
  refine hc.mono ?_
  rintro e w1 ⟨rfl, hw⟩
  rw [hw]
  clear hw w1
  go_wp2
  go_returns
  exact ⟨by simp, Below.refl _ _⟩
theorem ssnap_no (h : NobodyS w p) : Calls Tryz.prog 9 #[.pointer p] w fun e w' => e = .returned (.tuple #[.slice none 0 0, .int .u64 0, .bool false]) ∧ Below w.heap.size w w' := by
  have hc := snobodys_yes p w h
  go_enter Tryz.func9, Tryz.ntmps9
  go_wp2_with fail
  refine hc.mono ?_
  rintro e w1 ⟨rfl, hw⟩
  rw [hw]
  clear hw w1
  go_wp2
  go_returns
  exact ⟨by simp, Below.refl _ _⟩
theorem ssince_no (h : NobodyS w p) : Calls Tryz.prog 15 #[.pointer p] w fun e w' => e = .returned (.slice none 0 0) ∧ Below w.heap.size w w' := by
  have hc := snobodys_yes p w h
  go_enter Tryz.func15, Tryz.ntmps15
  go_wp2_with fail
  refine hc.mono ?_
  rintro e w1 ⟨rfl, hw⟩
  rw [hw]
  clear hw w1
  go_wp2
  go_returns
  exact ⟨by simp, Below.refl _ _⟩
theorem snext_no (h : NobodyS w p) : Calls Tryz.prog 16 #[.pointer p] w fun e w' => e = .returned (.int .u64 0) ∧ Below w.heap.size w w' := by
  have hc := snobodys_yes p w h
  go_enter Tryz.func16, Tryz.ntmps16
  go_wp2_with fail
  refine hc.mono ?_
  rintro e w1 ⟨rfl, hw⟩
  rw [hw]
  clear hw w1
  go_wp2
  go_returns
  exact ⟨by simp, Below.refl _ _⟩
theorem NobodyS.below {w' : World} (h : NobodyS w p) (hl : ∀ d, p = some d → d.block < w.heap.size) (hb : Below w.heap.size w w') : NobodyS w' p := by
  rcases h with rfl | ⟨d, rfl, h⟩
  · exact .inl rfl
  · exact .inr ⟨d, rfl, by rw [hb.cell (p := ⟨d, 0, none⟩) (hl _ rfl)]; exact h⟩
theorem ssave_no (h : NobodyS w p) (hl : ∀ d, p = some d → d.block < w.heap.size) (v : Value) : Calls Tryz.prog 11 #[.pointer p, v] w fun e w' => e = .returned (.int .i64 1) ∧ Below w.heap.size w w' := by
  have hmf : ∀ (fn : Fn) (first cap : Array Value) (w : World), (Instr.makeFunc fn first cap).run Tryz.prog w = .ok (.func fn first cap) w := fun _ _ _ _ => rfl
  obtain ⟨W1, hW1⟩ : ∃ W1, W1 = (w.alloc (.cells #[.pointer p] 27)).alloc (.cells #[.int .i64 0] 24) := ⟨_, rfl⟩
  have hb1 : Below w.heap.size w W1 := by rw [hW1]; exact ((Below.refl _ w).alloc (Nat.le_refl _) _).alloc (by simp) _
  have h1 : Whole W1 w.heap.size 27 #[.pointer p] := by rw [hW1]; exact (Whole.new w _ _).alloc _
  have h2 : Whole W1 (w.heap.size + 1) 24 #[.int .i64 0] := by
    rw [hW1]
    have := Whole.new (w.alloc (.cells #[.pointer p] 27)) 24 #[.int .i64 0]
    rw [World.size_alloc] at this
    exact this
  have hc := srefusal_no p W1 (h.below hl hb1)
  have k1 := h1.cell 0
  have k2 := h2.cell 0
  have f2 := h2.frozen 0
  have HX := Lib.hid hW1
  have HB := Lib.hid hb1
  have H2 := Lib.hid h2
  clear hW1 hb1 h1 h2
  go_enter_defers Tryz.func11, Tryz.ntmps11
  go_wp2_with fail
  rw [← HX.out]
  refine hc.mono ?_
  rintro e w1 ⟨rfl, hw⟩
  rw [hw]
  clear hw w1 hc
  go_wp2
  show Leaves _ _ _ _ [] _ _
  have hcell : (W1.setCell ⟨w.heap.size + 1, 0, none⟩ (.int .i64 1)).cell? ⟨w.heap.size + 1, 0, none⟩ = some (.int .i64 1) := (H2.out.put 0 (.int .i64 1)).cell 0
  refine ⟨.int .i64 1, by simp [results, Tryz.results11, go_sem, hcell], rfl, ?_⟩
  exact ((Outs.of HB.out : Outs (fun _ => False) w W1).setCell (p := ⟨w.heap.size + 1, 0, none⟩) (.inr (by show w.heap.size ≤ w.heap.size + 1; omega)) _).below (fun k hk => hk.elim) (Nat.le_refl _)
end
end Go.Proofs.YtbobakfcmkaijaaGreatDoor
end

section
/- From a call that returns true and leaves all that was there as it was to what a statement asks of it. -/
namespace Go.Proofs.YtbobakfcmkaijaaGreatDoor
open Go.RowKit Go.ChangeShapes Go.WideShapes Go.ChangeAt
set_option linter.unusedVariables false

theorem own : ownKnob Tryz.prog.godebug = none := by kernel_rfl
theorem laid : laidOutB Tryz.prog = true := by kernel_rfl
theorem cells8 : Tryz.prog.cellsOf 5 = 1 := by kernel_rfl
theorem bytes8 : Tryz.prog.bytesOf 5 = 1 := by kernel_rfl
theorem below_drewN {B : Nat} {a w : World} (h : Below B a w) (n : Nat) : Below B a (w.drewN n) := ⟨h.os, h.tape, h.output, h.size, h.block⟩

section
variable {H : Type} {enc : TypeId × Value → H} {P : Program}

/-- the arguments read as they did -/
theorem args_stay (hl : laidOutB P = true) {W W' : World} (hb : Below W.heap.size W W') : ∀ {ts : List TypeId} {vs : List Value} {ds : List (DataW H)} {ps : List MemPlace},
    ts.all (fun t => P.readableRec t && decide (t < P.types.size)) = true → DataW.TrodAll enc P W 0 (fun _ => true) true ts vs ds ps → (∀ x ∈ ps, x.block < W.heap.size) →
    DataW.TrodAll enc P W' 0 (fun b => decide (b < W.heap.size)) true ts vs ds ps
  | [], [], [], _, _, h, _ => h
  | t :: ts, _ :: _, _ :: _, _, ht, ⟨p, q, h1, h2, e⟩, hlt => by
    subst e
    simp only [List.all_cons, Bool.and_eq_true] at ht
    exact ⟨p, q, Below.trod hl ht.1.1 (of_decide_eq_true ht.1.2) h1 hb (fun x hx => hlt x (List.mem_append_left _ hx)),
      args_stay hl hb ht.2 h2 (fun x hx => hlt x (List.mem_append_right _ hx)), rfl⟩

theorem law_close (hl : laidOutB P = true) {n : Nat} {f : Func} {s : ChangeSpec} {W : World} {args : Array Value} {ds gs : List (DataW H)} {before : List MemPlace} {tb : TypeId}
    (hsv : s.vars = []) (hW : DataW.Whole enc P f.params.toList s.vars false W args.toList ds gs before)
    (hts : f.params.toList.all (fun t => P.readableRec t && decide (t < P.types.size)) = true) (hrt : f.resultTypes = #[tb]) (htb : P.underlying tb = some .bool)
    (hfn : s.fn H (ds ++ []) = { results := [.lit (.bool true)], args := ds })
    (hc : Calls P n args W fun e w' => e = .returned (.bool true) ∧ Below W.heap.size W w') :
    Calls P n args W fun e W' => ∃ v, e = .returned v ∧ s.post enc P f false true false false W args v W' := by
  refine hc.mono fun e W' ⟨he, hb⟩ => ⟨_, he, ?_⟩
  have hlt : ∀ p ∈ before, p.block < W.heap.size := fun p hp => hW.lt p hp
  have hgs : gs = [] := by
    obtain ⟨p, q, _, hV, _⟩ := hW
    rw [hsv] at hV
    exact (trodVars_none hV).1
  subst hgs
  have hA : DataW.TrodAll enc P W 0 (fun _ => true) true f.params.toList args.toList ds before := by
    obtain ⟨p, q, hA, hV, e, _⟩ := hW
    rw [hsv] at hV
    obtain ⟨_, rfl⟩ := trodVars_none hV
    rw [List.append_nil] at e
    subst e
    exact hA
  refine ⟨ds, [], before, [], before, [], hW, ?_, ?_, ?_, World.keptBut_mono (fun p hp => ⟨hp, .inr (.inl hp)⟩) (hb.frame (· ∈ before)), fun h => by cases h⟩
  · rw [hfn, hrt]
    exact trodAll_cons_mk (shut_bool htb _) trodAll_mk0
  · rw [hfn]
    exact args_stay hl hb hts hA hlt
  · rw [hfn, hsv]
    exact rfl

/-- an argument that is a slice of bytes: what is known of it -/
structure BytesArg (W : World) (v : Value) (d : DataW H) (A : Option Addr) (zs : List Int) (c : Nat) : Prop where
  val : v = .slice A zs.length c
  cap : zs.length ≤ c
  capMax : c ≤ maxLen
  byt : Byt zs
  nil_ : A = none → zs.length = 0 ∧ c = 0
  rds : Rds W W.heap.size A (c8 zs)
  data : zs = [] ∨ ∃ spare : List (DataW H), d = .slice (lits .u8 zs) spare

theorem open_bytes {t e : TypeId} {W : World} {v : Value} {d : DataW H} {ps : List MemPlace} {base : Nat} (ht : P.underlying t = some (.slice e)) (he : P.underlying e = some (.int .u8)) (hc : P.cellsOf e = 1)
    (hval : Value.okWide P W .any base t v) (h : DataW.Trod enc P W 0 (fun _ => true) true t v d ps) : ∃ A zs c, BytesArg W v d A zs c := by
  obtain ⟨a0, len, cap, rfl⟩ := okWide_slice ht hval
  obtain ⟨fuel, hf⟩ := h
  rcases open_ints ht he hc hf with ⟨h1, h2⟩ | ⟨a, len', cap', zs, h1, _, hle, hmax, hlen, h2, hcell, hwf⟩
  · simp only [Value.cells] at h1
    have h1' : Value.slice a0 len cap = .slice none 0 0 := by simpa using h1
    injection h1' with e1 e2 e3
    subst e1 e2 e3
    refine ⟨none, [], 0, rfl, Nat.le_refl _, by unfold maxLen; omega, (fun z hz => by cases hz), (fun _ => ⟨rfl, rfl⟩), Rds.none_, .inl rfl⟩
  · have h1' : Value.slice a0 len cap = .slice (some a) len' cap' := by simpa [Value.cells] using h1
    injection h1' with e1 e2 e3
    subst e1 e2 e3
    simp only [if_true] at hlen
    have hl : (zs.take len).length = len := by rw [List.length_take]; omega
    refine ⟨some a, zs.take len, cap, by rw [hl], by rw [hl]; exact hle, hmax, (fun z hz => bounds_u8 (hwf z (List.mem_of_mem_take hz))), (fun h => by cases h), ?_, .inr ⟨_, congrArg Prod.fst h2⟩⟩
    intro hne
    have hcells : ∀ j u, (c8 (zs.take len))[j]? = some u → W.cell? (a.add j) = some u := by
      intro j u hu
      have hj : j < (zs.take len).length := by
        have := (List.getElem?_eq_some_iff.1 hu).1
        simpa [c8] using this
      rw [c8_get hj] at hu
      have hu' := Option.some.inj hu
      subst hu'
      rw [hcell j (by omega)]
      simp [List.getD, show j < zs.length by omega]
    refine ⟨a, rfl, ?_, hcells⟩
    have hpos : 0 < (zs.take len).length := by
      rcases Nat.eq_zero_or_pos (zs.take len).length with h0 | h0
      · exact absurd (by rw [List.eq_nil_of_length_eq_zero h0]; rfl) hne
      · exact h0
    have := World.block_lt_of_cell? W _ (hcells 0 _ (c8_get hpos))
    rwa [blk_add] at this

/-- the reach of such an argument -/
theorem BytesArg.reach {W : World} {v : Value} {d : DataW H} {A : Option Addr} {zs : List Int} {c : Nat} (h : BytesArg W v d A zs c) {ts : List TypeId} {ds : List (DataW H)}
    (hsz : (DataW.weightsEach P ts ds).all (· ≤ reachBytes) = true) {j : Nat} {t e : TypeId} (ht : ts[j]? = some t) (hd : ds[j]? = some d) (hu : P.underlying t = some (.slice e)) (hb : P.bytesOf e = 1) : zs.length ≤ 140737488351232 := by
  rcases h.data with hn | ⟨spare, hs⟩
  · subst hn
    simp
  · subst hs
    have := sized_slice hsz ht hd hu
    rw [hb, Nat.mul_one] at this
    simp only [lits, List.length_map, reachBytes] at this
    omega

theorem text_reach {ts : List TypeId} {ds : List (DataW H)} (hsz : (DataW.weightsEach P ts ds).all (· ≤ reachBytes) = true) {j : Nat} {t : TypeId} {s : ByteArray} (ht : ts[j]? = some t) (hd : ds[j]? = some (.lit (.string s.data.toList))) : s.size ≤ 140737488351232 := by
  have h := sized_string hsz ht hd
  have e : s.size = s.data.toList.length := by simp
  rw [e]
  exact Nat.le_trans h (by unfold reachBytes; decide)

/-- the second form's bound, and what it says of a part -/
theorem upto_bound {l : List (DataW H)} (h : Rows.uptoSmall H l = true) : Rows.uptoBulkAll l ≤ 1048576 := of_decide_eq_true h
theorem bulk_mem {d : DataW H} : ∀ {l : List (DataW H)}, d ∈ l → Rows.uptoBulk d ≤ Rows.uptoBulkAll l
  | x :: r, h => by
    rw [Rows.uptoBulkAll]
    rcases List.mem_cons.1 h with rfl | h
    · omega
    · have := bulk_mem h; omega
theorem bulk_length : ∀ (l : List (DataW H)), l.length ≤ Rows.uptoBulkAll l
  | [] => by rw [Rows.uptoBulkAll]; exact Nat.le_refl _
  | x :: r => by
    have h1 : 1 ≤ Rows.uptoBulk x := by
      cases x with
      | lit l => cases l <;> simp [Rows.uptoBulk]
      | _ => simp [Rows.uptoBulk]
    have := bulk_length r
    rw [Rows.uptoBulkAll, List.length_cons]
    omega
theorem upto_part {d : DataW H} {l : List (DataW H)} (h : Rows.uptoBulkAll l ≤ 1048576) (hd : d ∈ l) : Rows.uptoBulk d ≤ 1048576 := Nat.le_trans (bulk_mem hd) h
theorem upto_text {s : ByteArray} (h : Rows.uptoBulk (H := H) (.lit (.string s.data.toList)) ≤ 1048576) : s.size ≤ 1048576 := by
  rw [Rows.uptoBulk] at h
  have : s.size = s.data.toList.length := by simp
  omega
theorem BytesArg.bulk {W : World} {v : Value} {d : DataW H} {A : Option Addr} {zs : List Int} {c : Nat} (h : BytesArg W v d A zs c) (hd : Rows.uptoBulk d ≤ 1048576) : zs.length ≤ 1048576 := by
  rcases h.data with hn | ⟨spare, hs⟩
  · subst hn; simp
  · subst hs
    rw [Rows.uptoBulk] at hd
    have h1 := bulk_length (H := H) (lits .u8 zs)
    rw [show (lits (H := H) .u8 zs).length = zs.length by simp [lits]] at h1
    omega

/-- the cells that whole numbers take -/
def cI (zs : List Int) : List Value := zs.map (Value.int .i64)
theorem cI_length (zs : List Int) : (cI zs).length = zs.length := by simp [cI]
theorem cI_get {zs : List Int} {j : Nat} (h : j < zs.length) : (cI zs)[j]? = some (.int .i64 zs[j]) := by simp [cI, h]
def I64 (zs : List Int) : Prop := ∀ z ∈ zs, -9223372036854775808 ≤ z ∧ z ≤ 9223372036854775807

/-- an argument that is a slice of whole numbers: what is known of it -/
structure NumsArg (W : World) (v : Value) (d : DataW H) (A : Option Addr) (zs : List Int) (c : Nat) : Prop where
  val : v = .slice A zs.length c
  cap : zs.length ≤ c
  capMax : c ≤ maxLen
  i64 : I64 zs
  nil_ : A = none → zs.length = 0 ∧ c = 0
  rds : Rds W W.heap.size A (cI zs)
  data : zs = [] ∨ ∃ spare : List (DataW H), d = .slice (lits .i64 zs) spare

theorem open_nums {t e : TypeId} {W : World} {v : Value} {d : DataW H} {ps : List MemPlace} {base : Nat} (ht : P.underlying t = some (.slice e)) (he : P.underlying e = some (.int .i64)) (hc : P.cellsOf e = 1)
    (hval : Value.okWide P W .any base t v) (h : DataW.Trod enc P W 0 (fun _ => true) true t v d ps) : ∃ A zs c, NumsArg W v d A zs c := by
  obtain ⟨a0, len, cap, rfl⟩ := okWide_slice ht hval
  obtain ⟨fuel, hf⟩ := h
  rcases open_ints ht he hc hf with ⟨h1, h2⟩ | ⟨a, len', cap', zs, h1, _, hle, hmax, hlen, h2, hcell, hwf⟩
  · simp only [Value.cells] at h1
    have h1' : Value.slice a0 len cap = .slice none 0 0 := by simpa using h1
    injection h1' with e1 e2 e3
    subst e1 e2 e3
    refine ⟨none, [], 0, rfl, Nat.le_refl _, by unfold maxLen; omega, (fun z hz => by cases hz), (fun _ => ⟨rfl, rfl⟩), Rds.none_, .inl rfl⟩
  · have h1' : Value.slice a0 len cap = .slice (some a) len' cap' := by simpa [Value.cells] using h1
    injection h1' with e1 e2 e3
    subst e1 e2 e3
    simp only [if_true] at hlen
    have hl : (zs.take len).length = len := by rw [List.length_take]; omega
    refine ⟨some a, zs.take len, cap, by rw [hl], by rw [hl]; exact hle, hmax, (fun z hz => bounds_i64 (hwf z (List.mem_of_mem_take hz))), (fun h => by cases h), ?_, .inr ⟨_, congrArg Prod.fst h2⟩⟩
    intro hne
    have hcells : ∀ j u, (cI (zs.take len))[j]? = some u → W.cell? (a.add j) = some u := by
      intro j u hu
      have hj : j < (zs.take len).length := by
        have := (List.getElem?_eq_some_iff.1 hu).1
        simpa [cI] using this
      rw [cI_get hj] at hu
      have hu' := Option.some.inj hu
      subst hu'
      rw [hcell j (by omega)]
      simp [List.getD, show j < zs.length by omega]
    refine ⟨a, rfl, ?_, hcells⟩
    have hpos : 0 < (zs.take len).length := by
      rcases Nat.eq_zero_or_pos (zs.take len).length with h0 | h0
      · exact absurd (by rw [List.eq_nil_of_length_eq_zero h0]; rfl) hne
      · exact h0
    have := World.block_lt_of_cell? W _ (hcells 0 _ (cI_get hpos))
    rwa [blk_add] at this
theorem NumsArg.reach {W : World} {v : Value} {d : DataW H} {A : Option Addr} {zs : List Int} {c : Nat} (h : NumsArg W v d A zs c) {ts : List TypeId} {ds : List (DataW H)}
    (hsz : (DataW.weightsEach P ts ds).all (· ≤ reachBytes) = true) {j : Nat} {t e : TypeId} (ht : ts[j]? = some t) (hd : ds[j]? = some d) (hu : P.underlying t = some (.slice e)) (hb : P.bytesOf e = 8) : zs.length ≤ 17592186043904 := by
  rcases h.data with hn | ⟨spare, hs⟩
  · subst hn
    simp
  · subst hs
    have := sized_slice hsz ht hd hu
    rw [hb] at this
    simp only [lits, List.length_map, reachBytes] at this
    omega
end
end Go.Proofs.YtbobakfcmkaijaaGreatDoor
end

section
/- What the rows' listed variables give to the walks, and a world that holds them. -/
namespace Go.Proofs.YtbobakfcmkaijaaGreatDoor
open Go.RowKit
set_option linter.unusedVariables false

def laidList : List (String × DataW Unit) := Rows.snapNamesRow.laid
theorem pow_mem : ("internal/strconv.uint64pow10", Rows.laid_internal_strconv_uint64pow10) ∈ laidList := .tail _ (.tail _ (.head _))
theorem tyPow : (Tryz.prog.globals[0]?).map (·.type) = some 198 := by kernel_rfl
theorem cellsP : Tryz.prog.cellsOf 198 = 20 := by kernel_rfl
theorem cellsU : Tryz.prog.cellsOf 31 = 1 := by kernel_rfl
theorem pow_of {W : World} (hL : laidMetH Tryz.prog laidList W) : Pow W := by
  obtain ⟨g, t, cs, fuel, p, hg, ht, hvar, hd⟩ := Lib.laidMet.reads hL (n := "internal/strconv.uint64pow10") (d := Rows.laid_internal_strconv_uint64pow10) pow_mem
  obtain rfl := Option.some.inj (tyPow.symm.trans (by rw [← ht, Option.some.inj (gPow.symm.trans hg)]))
  unfold Pow Lib.TabIs
  rw [hvar, ← Lib.cells_of_tab Tryz.underlying198 Tryz.underlying31 cellsU cellsP (zs := Lib.pow10Tab) hd]

noncomputable def laidWorld (os : Os) : World := World.laidAll Tryz.prog os laidList
theorem laidWorld_os (os : Os) : (laidWorld os).os = os := World.laidAll_os _ _ _
theorem laidWorld_met (os : Os) (args : Array Value) : laidMet Tryz.prog laidList ((laidWorld os).forCall (fun _ _ => 0) ⟨#[], args, []⟩).memory :=
  laidMet_laidAll args (by kernel_rfl) (by kernel_rfl)
end Go.Proofs.YtbobakfcmkaijaaGreatDoor
end

section
/- What the world of a row gives beside the listed variables. -/
namespace Go.Proofs.YtbobakfcmkaijaaGreatDoor
open Go.RowKit
theorem maxL_of {W : World} (h : W.ShapedOpen Tryz.prog) : MaxL W := Tryz.laysM145.s1_3 W h
end Go.Proofs.YtbobakfcmkaijaaGreatDoor
end

section
/- The statement on checkpoints that are not there: nil, or ones that nobody opened; over no disk there is none. -/
namespace Go.Proofs.YtbobakfcmkaijaaGreatDoor
open Go.RowKit
set_option linter.unusedVariables false

def zSt : Array Value := #[.pointer none, .pointer none, .string ⟨#[]⟩, .bool false, .pointer none, .bool false, .int .u64 0, .slice none 0 0]
/-- what stands at the two checkpoints, behind a call that they refused -/
structure NilAt (w0 w : World) (g : Nat) (p : Option Addr) : Prop where
  nob : NobodyS w p
  lt : ∀ d, p = some d → d.block < w.heap.size
  wd : Whole w g 50 zSt
  wl : Whole w (g + 1) 27 #[.pointer none, .pointer (some ⟨g, 0, none⟩)]
  below : Below w0.heap.size w0 w
theorem NilAt.go {w0 w w' : World} {g : Nat} {p : Option Addr} (h : NilAt w0 w g p) (hb : Below w.heap.size w w') : NilAt w0 w' g p :=
  ⟨h.nob.below h.lt hb, fun d e => Nat.lt_of_lt_of_le (h.lt d e) hb.size, h.wd.below hb h.wd.lt, h.wl.below hb h.wl.lt, h.below.trans (hb.mono h.below.size)⟩

set_option maxHeartbeats 8000000 in
set_option maxRecDepth 10000 in
theorem snil_walk (A : Option Addr) (L c : Nat) (w : World) (hp : Pow w) (hm : MaxL w) : Calls Tryz.prog 4 #[.slice A L c] w fun e w' => e = .returned (.bool true) ∧ Below w.heap.size w w' := by
  go_enter Tryz.func4, Tryz.ntmps4
  go_wp2_with fail
  refine (sopen_no none _ w (.inl rfl) (fun d e => by cases e)).mono ?_
  rintro e w1 ⟨rfl, hb1⟩
  go_wp2_with fail
  have hn0 : Nobody (w1.alloc (.cells #[.pointer none, .bool false, .int .i64 0, .int .i64 0, .int .i64 0, .map none] 45)) (some ⟨w1.heap.size, 0, none⟩) := .inr ⟨_, rfl, (Whole.new _ _ _).cell 0⟩
  have hba : Below w.heap.size w (w1.alloc (.cells #[.pointer none, .bool false, .int .i64 0, .int .i64 0, .int .i64 0, .map none] 45)) := hb1.alloc hb1.size _
  refine (sopen_no (some ⟨w1.heap.size, 0, none⟩) _ (w1.alloc (.cells #[.pointer none, .bool false, .int .i64 0, .int .i64 0, .int .i64 0, .map none] 45)) hn0 (fun d e => by cases e; simp)).mono ?_
  rintro e w2 ⟨rfl, hb2⟩
  have hb3 := hba.trans (hb2.mono hba.size)
  clear hn0 hba hb1 hb2
  go_wp2_with fail
  have hb0 : Below w.heap.size w ((w2.alloc (.cells zSt 50)).alloc (.cells #[.pointer none, .pointer (some ⟨w2.heap.size, 0, none⟩)] 27)) := (hb3.alloc hb3.size _).alloc (by have := hb3.size; simp; omega) _
  have hw0 : Whole ((w2.alloc (.cells zSt 50)).alloc (.cells #[.pointer none, .pointer (some ⟨w2.heap.size, 0, none⟩)] 27)) w2.heap.size 50 zSt := (Whole.new _ _ _).alloc _
  have hw1 : Whole ((w2.alloc (.cells zSt 50)).alloc (.cells #[.pointer none, .pointer (some ⟨w2.heap.size, 0, none⟩)] 27)) (w2.heap.size + 1) 27 #[.pointer none, .pointer (some ⟨w2.heap.size, 0, none⟩)] := by
    have := Whole.new (w2.alloc (.cells zSt 50)) 27 #[.pointer none, .pointer (some ⟨w2.heap.size, 0, none⟩)]
    simpa using this
  change Below _ _ ((w2.alloc (.cells #[.pointer none, .pointer none, .string ⟨#[]⟩, .bool false, .pointer none, .bool false, .int .u64 0, .slice none 0 0] 50)).alloc (.cells #[.pointer none, .pointer (some ⟨w2.heap.size, 0, none⟩)] 27)) at hb0
  change Whole ((w2.alloc (.cells #[.pointer none, .pointer none, .string ⟨#[]⟩, .bool false, .pointer none, .bool false, .int .u64 0, .slice none 0 0] 50)).alloc (.cells #[.pointer none, .pointer (some ⟨w2.heap.size, 0, none⟩)] 27)) _ _ _ at hw0
  change Whole ((w2.alloc (.cells #[.pointer none, .pointer none, .string ⟨#[]⟩, .bool false, .pointer none, .bool false, .int .u64 0, .slice none 0 0] 50)).alloc (.cells #[.pointer none, .pointer (some ⟨w2.heap.size, 0, none⟩)] 27)) _ _ _ at hw1
  generalize ((w2.alloc (.cells #[.pointer none, .pointer none, .string ⟨#[]⟩, .bool false, .pointer none, .bool false, .int .u64 0, .slice none 0 0] 50)).alloc (.cells #[.pointer none, .pointer (some ⟨w2.heap.size, 0, none⟩)] 27)) = W at *
  generalize w2.heap.size = g at *
  clear hb3
  go_loopw [8] (fun i wr => ∃ k : Nat, k ≤ 2 ∧ i = .int .i64 k ∧ Below w.heap.size w wr ∧ Whole wr g 50 zSt ∧ Whole wr (g + 1) 27 #[.pointer none, .pointer (some ⟨g, 0, none⟩)]) (fun i _ => 2 - (intOf i).toNat)
  case atStart => exact ⟨0, by omega, rfl, hb0, hw0, hw1⟩
  case round =>
    obtain ⟨k, hk, rfl, Bwr, Wwr, Lwr⟩ := hrel
    by_cases hlt : k < 2
    · obtain ⟨p, hpc, N0⟩ : ∃ p, wr.cell? ⟨g + 1, k, none⟩ = some (.pointer p) ∧ NilAt w wr g p := by
        have hk2 : k = 0 ∨ k = 1 := by omega
        rcases hk2 with rfl | rfl
        · exact ⟨none, Lwr.cell 0, ⟨.inl rfl, (fun d e => by cases e), Wwr, Lwr, Bwr⟩⟩
        · exact ⟨some ⟨g, 0, none⟩, Lwr.cell 1, ⟨.inr ⟨g, rfl, Wwr.cell 0⟩, (fun d e => by cases e; exact Wwr.lt), Wwr, Lwr, Bwr⟩⟩
      have hklt : (k : Int) < 2 := by omega
      clear hb0 hw0 hw1 Bwr Wwr Lwr
      go_wp2_with fail
      refine (slog_no N0.nob (.slice A L c)).mono ?_
      rintro e v1 ⟨rfl, hb⟩
      have N1 := N0.go hb
      clear hb N0
      go_wp2_with fail
      refine (ssnap_no N1.nob).mono ?_
      rintro e v2 ⟨rfl, hb⟩
      have N2 := N1.go hb
      clear hb N1
      go_wp2_with fail
      refine (ssync_no N2.nob).mono ?_
      rintro e v3 ⟨rfl, hb⟩
      have N3 := N2.go hb
      clear hb N2
      go_wp2_with fail
      refine (ssave_no N3.nob N3.lt (.slice A L c)).mono ?_
      rintro e v4 ⟨rfl, hb⟩
      have N4 := N3.go hb
      clear hb N3
      go_wp2_with fail
      refine (ssince_no N4.nob).mono ?_
      rintro e v5 ⟨rfl, hb⟩
      have N5 := N4.go hb
      clear hb N4
      go_wp2_with fail
      refine (snext_no N5.nob).mono ?_
      rintro e v6 ⟨rfl, hb⟩
      have N6 := N5.go hb
      clear hb N5
      go_wp2
      go_roundw
      case rel => exact ⟨k + 1, by omega, by go_num, N6.below, N6.wd, N6.wl⟩
      case measure => simp [intOf]; omega
    · obtain rfl : k = 2 := by omega
      go_wp2_with fail
      refine (lives6_any wr (hp.go Bwr) (hm.go Bwr)).mono ?_
      rintro e w9 ⟨rfl, hb9⟩
      have hbf := Bwr.trans (hb9.mono Bwr.size)
      clear hb9 Bwr hb0 hw0 hw1 Wwr Lwr
      go_wp2
      go_returns
      exact ⟨by simp, hbf⟩

end Go.Proofs.YtbobakfcmkaijaaGreatDoor
end

section
/- The chapter's second example, as plain mathematics. -/
namespace Go.Proofs.YtbobakfcmkaijaaGreatDoor
open Go.RowKit
set_option linter.unusedVariables false
set_option maxRecDepth 100000

def E4 : Dsk := (sLog E3 Y3 [99]).2.2.1
def Y4 : Ck := (sLog E3 Y3 [99]).2.2.2
def E5 : Dsk := (sSync E4 Y4).2.1
def Y5 : Ck := (sSync E4 Y4).2.2
def E6 : Dsk := (dCrash E5 []).2
def x3 : Sn := ⟨true, 3, [65, 66]⟩
theorem y3_off : Y3.off = false := by kernel_rfl
theorem y3_J : Y3.J.segs.map (fun s => (s.num, s.recs)) = [(1, [[97], [98]])] := by kernel_rfl
theorem y3_next : Y3.J.next = 3 := by kernel_rfl
theorem l4a : (sLog E3 Y3 [99]).1 = 3 := by kernel_rfl
theorem l4b : (sLog E3 Y3 [99]).2.1 = 0 := by kernel_rfl
theorem y4_off : Y4.off = false := by kernel_rfl
theorem y4_J : Y4.J.segs.map (fun s => (s.num, s.recs)) = [(1, [[97], [98], [99]])] := by kernel_rfl
theorem y4_next : Y4.J.next = 4 := by kernel_rfl
theorem s4 : (sSync E4 Y4).1 = 0 := by kernel_rfl
theorem c5 : (dCrash E5 []).1 = 0 := rfl
/-- what fits, of a journal of one segment -/
theorem fits_one {J : Jn} {n nx : Nat} {rs : List (List Int)} (h : J.segs.map (fun s => (s.num, s.recs)) = [(n, rs)]) (hn : J.next = nx) (h1 : nx ≤ 1000000) (h2 : n ≤ 1000000) (h3 : rs.length ≤ 1000000) (h4 : rsz rs ≤ 1000000) : Fits J ∧ J.segs.length = 1 ∧ jAll J = rs ∧ (nx = nx → ∃ s, J.segs = [s] ∧ s.num = n ∧ s.recs = rs) := by
  match hs : J.segs, congrArg List.length h with
  | [s], _ =>
    rw [hs] at h
    simp only [List.map_cons, List.map_nil, List.cons.injEq, Prod.mk.injEq, and_true] at h
    obtain ⟨e1, e2⟩ := h
    refine ⟨⟨by omega, by rw [hs]; simp, ?_, ?_, ?_⟩, rfl, ?_, fun _ => ⟨s, rfl, e1, e2⟩⟩
    · intro x hx
      rw [hs] at hx
      obtain rfl := List.mem_singleton.1 hx
      unfold maxNo
      omega
    · intro x hx
      rw [hs] at hx
      obtain rfl := List.mem_singleton.1 hx
      rw [e2]
      omega
    · intro x hx
      rw [hs] at hx
      obtain rfl := List.mem_singleton.1 hx
      unfold Sg.size
      rw [e2]
      omega
    · unfold jAll
      rw [hs]
      simp [e2]
theorem fbs_of {D : Dsk} (h : D.files.all (fun f => f.bs.all (fun z => decide (0 ≤ z) && decide (z ≤ 255))) = true) : FBs D := fun f hf z hz => by
  have h1 := List.all_eq_true.1 h f hf
  have h2 := List.all_eq_true.1 h1 z hz
  simpa using h2
theorem inv3 : Inv E3 := ⟨e3_ok, by decide +kernel, fbs_of (by kernel_rfl)⟩
theorem inv4 : Inv E4 := jAppend_inv inv3 (goodM1 99 (by decide))
theorem inv5 : Inv E5 := jSync_inv inv4
theorem inv6 : Inv E6 := by
  have e : E6 = fallen E5 [] := by
    show (dCrash E5 []).2 = _
    rw [dCrash_ok (show ([] : List Int).any (fun k => decide (k < 0)) = false from rfl)]
  rw [e]
  exact fallen_inv inv5 rfl
theorem e4_steps : E4.steps ≤ 2000 := by decide +kernel
theorem e5_steps : E5.steps ≤ 2000 := by decide +kernel
theorem e6_steps : E6.steps ≤ 2000 := by decide +kernel
theorem n6 : names E6 = [segN lM 1, snapN lM 3] := by kernel_rfl
theorem f6 : (find E6.files (snapN lM 3)).map (fun f => (f.bs, f.sy)) = some (snB x3, (snB x3).length) := by kernel_rfl
theorem x3_ok : Sok x3 := by
  refine ⟨fun y hy => ?_, by decide, by decide⟩
  have : y = 65 ∨ y = 66 := by simpa [x3] using hy
  omega
theorem snaps6 : Snaps E6 [x3] := by
  refine ⟨fun f hf => ?_, fun x hx => ?_, List.pairwise_singleton _ _⟩
  · rw [n6] at hf
    rcases List.mem_cons.1 hf with e | hf
    · exact .inl ⟨1, e⟩
    · exact .inr (.inl ⟨x3, by simp, List.mem_singleton.1 hf⟩)
  · obtain rfl := List.mem_singleton.1 hx
    refine ⟨rfl, x3_ok, ?_⟩
    have h := f6
    cases hq : find E6.files (snapN lM 3) with
    | none => rw [hq] at h; cases h
    | some f =>
      rw [hq] at h
      simp only [Option.map_some, Option.some.injEq, Prod.mk.injEq] at h
      exact ⟨f, hq, h.1, by rw [h.2, h.1]⟩
theorem sf6 : sFiles [x3] E6 = E6 := by
  unfold sFiles cleaned
  rw [n6]
  have d1 : drops ([x3].getLastD sn0) (segN lM 1) = false := by kernel_rfl
  have d2 : drops ([x3].getLastD sn0) (snapN lM 3) = false := by kernel_rfl
  simp only [List.foldl_cons, List.foldl_nil, d1, d2]
  rfl
theorem o6 : (jOpen lM E6).1 = 0 := by kernel_rfl
theorem o6J : (opened lM E6).segs.map (fun s => (s.num, s.recs)) = [(1, [[97], [98], [99]])] := by kernel_rfl
theorem o6n : (opened lM E6).next = 4 := by kernel_rfl
theorem o6f : jFirst (opened lM E6) = 1 := by kernel_rfl
theorem good6 : Good6 E6 [x3] := by
  refine ⟨inv6.ok, ⟨by kernel_rfl, by kernel_rfl⟩, by have := e6_steps; omega, by have := inv6.few; have := e6_steps; omega, snaps6, ?_, ?_, ?_, ?_, ?_, ?_⟩
  all_goals rw [sf6]
  · kernel_rfl
  · have := inv6.few; have := e6_steps; omega
  · exact inv6.byt
  · exact o6
  · rw [o6f]; decide
  · rw [o6n]; decide
theorem since6 : sSince (sOpened [x3] E6) = [[99]] := by
  show (jAll (opened lM (sFiles [x3] E6))).drop (3 - jFirst (opened lM (sFiles [x3] E6))) = _
  rw [sf6, o6f, (fits_one o6J o6n (by decide) (by decide) (by decide) (by decide)).2.2.1]
  rfl
end Go.Proofs.YtbobakfcmkaijaaGreatDoor
end

section
/- Arguments that are a list of lists of bytes, or of yes and no: what is known of them. -/
namespace Go.Proofs.YtbobakfcmkaijaaGreatDoor
open Go.RowKit Go.ChangeShapes Go.WideShapes Go.ChangeAt
set_option linter.unusedVariables false

theorem cellsB5 : Tryz.prog.cellsOf 30 = 1 := by kernel_rfl
theorem cellsO5 : Tryz.prog.cellsOf 4 = 1 := by kernel_rfl

section
variable {H : Type} {enc : TypeId × Value → H}
theorem bytes_read5 {W : World} {fuel : Nat} {u : Value} {y : DataW H × List MemPlace} (h : DataW.trod enc Tryz.prog W 0 (fun _ => true) true fuel 30 [u] = some y) :
    ∃ x : RcM, u = x.v ∧ Byt x.r ∧ x.r.length ≤ 9223372036854775807 ∧ Rds W W.heap.size x.A (c8 x.r) := by
  rcases open_ints Tryz.underlying30 Tryz.underlying5 cells8 h with ⟨h1, h2⟩ | ⟨a, len', cap', zs, h1, _, hle, hmax, hlen, h2, hcell, hwf⟩
  · obtain rfl : u = .slice none 0 0 := by simpa using h1
    exact ⟨⟨[], none, 0⟩, rfl, (fun z hz => by cases hz), by simp, Rds.none_⟩
  · obtain rfl : u = .slice (some a) len' cap' := by simpa using h1
    simp only [if_true] at hlen
    have hl : (zs.take len').length = len' := by rw [List.length_take]; omega
    refine ⟨⟨zs.take len', some a, cap'⟩, by show Value.slice (some a) len' cap' = .slice (some a) (zs.take len').length cap'; rw [hl], (fun z hz => bounds_u8 (hwf z (List.mem_of_mem_take hz))), by show (zs.take len').length ≤ _; rw [hl]; unfold maxLen at hmax; omega, ?_⟩
    intro hne
    have hcells : ∀ j u, (c8 (zs.take len'))[j]? = some u → W.cell? (a.add j) = some u := by
      intro j u hu
      have hj : j < (zs.take len').length := by
        have := (List.getElem?_eq_some_iff.1 hu).1
        simpa [c8] using this
      rw [c8_get hj] at hu
      have hu' := Option.some.inj hu
      subst hu'
      rw [hcell j (by omega)]
      simp [List.getD, show j < zs.length by omega]
    refine ⟨a, rfl, ?_, hcells⟩
    have hpos : 0 < (zs.take len').length := by
      rcases Nat.eq_zero_or_pos (zs.take len').length with h0 | h0
      · exact absurd (by show c8 (zs.take len') = []; rw [List.eq_nil_of_length_eq_zero h0]; rfl) hne
      · exact h0
    have := World.block_lt_of_cell? W _ (hcells 0 _ (c8_get hpos))
    rwa [blk_add] at this

/-- an argument that is a list of lists of bytes -/
structure ListsArg (W : World) (v : Value) (A : Option Addr) (ys : List RcM) (c : Nat) : Prop where
  val : v = .slice A ys.length c
  len : ys.length ≤ 9223372036854775807
  cap : ys.length ≤ c
  byt : ∀ y ∈ ys, Byt y.r
  lens : ∀ y ∈ ys, y.r.length ≤ 9223372036854775807
  rds : Rds W W.heap.size A (cR ys)
  bods : ∀ y ∈ ys, Rds W W.heap.size y.A (c8 y.r)
theorem cR_get {ys : List RcM} {k : Nat} (h : k < ys.length) : (cR ys)[k]? = some (ys[k]).v := by simp [cR, h]
set_option maxRecDepth 20000 in
theorem open_lists {W : World} {v : Value} {d : DataW H} {ps : List MemPlace} {base : Nat} (hval : Value.okWide Tryz.prog W .any base 40 v) (h : DataW.Trod enc Tryz.prog W 0 (fun _ => true) true 40 v d ps) : ∃ A ys c, ListsArg W v A ys c := by
  obtain ⟨a0, len, cap, rfl⟩ := okWide_slice Tryz.underlying40 hval
  obtain ⟨fuel, hf⟩ := h
  rcases DataW.trod_slice Tryz.underlying40 hf with ⟨h1, _⟩ | ⟨a, len', cap', elems, rest, n, _, h1, _, _, hle, hmax, hlen, hel, _⟩
  · have h1' : Value.slice a0 len cap = .slice none 0 0 := by simpa [Value.cells] using h1
    injection h1' with e1 e2 e3
    subst e1 e2 e3
    exact ⟨none, [], 0, rfl, by simp, Nat.le_refl _, (fun r hr => by cases hr), (fun r hr => by cases hr), Rds.nil_, (fun r hr => by cases hr)⟩
  · have h1' : Value.slice a0 len cap = .slice (some a) len' cap' := by simpa [Value.cells] using h1
    injection h1' with e1 e2 e3
    subst e1 e2 e3
    rw [cellsB5] at hel
    have each : ∀ i, ∃ r : RcM, i < len → W.cell? (a.add i) = some r.v ∧ Byt r.r ∧ r.r.length ≤ 9223372036854775807 ∧ Rds W W.heap.size r.A (c8 r.r) := by
      intro i
      by_cases hi : i < len
      · have he := hel i hi
        rw [List.getElem?_eq_getElem (by omega), Nat.mul_one] at he
        obtain ⟨cs, hcs, hy⟩ := Option.bind_eq_some_iff.1 he
        obtain ⟨_, hcl, hc⟩ := World.cells?_some hcs
        match cs, hcl with
        | [u], _ =>
          obtain ⟨x, hx, h2, h3, h4⟩ := bytes_read5 hy
          refine ⟨x, fun _ => ⟨?_, h2, h3, h4⟩⟩
          rw [← hx]
          exact hc 0 (by omega)
      · exact ⟨⟨[], none, 0⟩, fun h => absurd h hi⟩
    obtain ⟨fr, hfr⟩ := Classical.axiomOfChoice each
    have hrl : ((List.range len).map fr).length = len := by simp
    refine ⟨some a, (List.range len).map fr, cap, by rw [hrl], by rw [hrl]; unfold maxLen at hmax; omega, by rw [hrl]; exact hle, ?_, ?_, ?_, ?_⟩
    · intro r hr
      obtain ⟨i, hi, rfl⟩ := List.mem_map.1 hr
      exact (hfr i (List.mem_range.1 hi)).2.1
    · intro r hr
      obtain ⟨i, hi, rfl⟩ := List.mem_map.1 hr
      exact (hfr i (List.mem_range.1 hi)).2.2.1
    · intro hne
      have hcells : ∀ j u, (cR ((List.range len).map fr))[j]? = some u → W.cell? (a.add j) = some u := by
        intro j u hu
        have hj : j < ((List.range len).map fr).length := by
          have := (List.getElem?_eq_some_iff.1 hu).1
          simpa [cR] using this
        rw [cR_get hj] at hu
        have hu' := Option.some.inj hu
        subst hu'
        rw [(hfr j (by rw [hrl] at hj; exact hj)).1]
        simp
      have hpos : 0 < ((List.range len).map fr).length := by
        rcases Nat.eq_zero_or_pos ((List.range len).map fr).length with h0 | h0
        · exact absurd (by rw [List.eq_nil_of_length_eq_zero h0]; rfl) hne
        · exact h0
      refine ⟨a, rfl, ?_, hcells⟩
      have := World.block_lt_of_cell? W _ (hcells 0 _ (cR_get hpos))
      rwa [blk_add] at this
    · intro r hr
      obtain ⟨i, hi, rfl⟩ := List.mem_map.1 hr
      exact (hfr i (List.mem_range.1 hi)).2.2.2

/-- an argument that is a list of yes and no -/
def cO (bs : List Bool) : List Value := bs.map .bool
theorem cO_get {bs : List Bool} {k : Nat} (h : k < bs.length) : (cO bs)[k]? = some (.bool bs[k]) := by simp [cO, h]
structure BoolsArg (W : World) (v : Value) (A : Option Addr) (bs : List Bool) (c : Nat) : Prop where
  val : v = .slice A bs.length c
  rds : Rds W W.heap.size A (cO bs)
set_option maxRecDepth 20000 in
theorem open_bools {W : World} {v : Value} {d : DataW H} {ps : List MemPlace} {base : Nat} (hval : Value.okWide Tryz.prog W .any base 53 v) (h : DataW.Trod enc Tryz.prog W 0 (fun _ => true) true 53 v d ps) : ∃ A bs c, BoolsArg W v A bs c := by
  obtain ⟨a0, len, cap, rfl⟩ := okWide_slice Tryz.underlying53 hval
  obtain ⟨fuel, hf⟩ := h
  rcases DataW.trod_slice Tryz.underlying53 hf with ⟨h1, _⟩ | ⟨a, len', cap', elems, rest, n, _, h1, _, _, hle, hmax, hlen, hel, _⟩
  · have h1' : Value.slice a0 len cap = .slice none 0 0 := by simpa [Value.cells] using h1
    injection h1' with e1 e2 e3
    subst e1 e2 e3
    exact ⟨none, [], 0, rfl, Rds.nil_⟩
  · have h1' : Value.slice a0 len cap = .slice (some a) len' cap' := by simpa [Value.cells] using h1
    injection h1' with e1 e2 e3
    subst e1 e2 e3
    rw [cellsO5] at hel
    have each : ∀ i, ∃ b : Bool, i < len → W.cell? (a.add i) = some (.bool b) := by
      intro i
      by_cases hi : i < len
      · have he := hel i hi
        rw [List.getElem?_eq_getElem (by omega), Nat.mul_one] at he
        obtain ⟨cs, hcs, hy⟩ := Option.bind_eq_some_iff.1 he
        obtain ⟨b, hb, _⟩ := DataW.trod_bool Tryz.underlying4 hy
        subst hb
        obtain ⟨_, hcl, hc⟩ := World.cells?_some hcs
        exact ⟨b, fun _ => hc 0 (by simp)⟩
      · exact ⟨false, fun h => absurd h hi⟩
    obtain ⟨fr, hfr⟩ := Classical.axiomOfChoice each
    have hrl : ((List.range len).map fr).length = len := by simp
    refine ⟨some a, (List.range len).map fr, cap, by rw [hrl], ?_⟩
    intro hne
    have hcells : ∀ j u, (cO ((List.range len).map fr))[j]? = some u → W.cell? (a.add j) = some u := by
      intro j u hu
      have hj : j < ((List.range len).map fr).length := by
        have := (List.getElem?_eq_some_iff.1 hu).1
        simpa [cO] using this
      rw [cO_get hj] at hu
      have hu' := Option.some.inj hu
      subst hu'
      rw [hfr j (by rw [hrl] at hj; exact hj)]
      simp
    have hpos : 0 < ((List.range len).map fr).length := by
      rcases Nat.eq_zero_or_pos ((List.range len).map fr).length with h0 | h0
      · exact absurd (by rw [List.eq_nil_of_length_eq_zero h0]; rfl) hne
      · exact h0
    refine ⟨a, rfl, ?_, hcells⟩
    have := World.block_lt_of_cell? W _ (hcells 0 _ (cO_get hpos))
    rwa [blk_add] at this
end
end Go.Proofs.YtbobakfcmkaijaaGreatDoor
end
