/- The worked examples of the chapter on journals. -/
import Derived.Test.YtfiebjfdlplpjaaGreatDoorM18
import Derived.Lib.SlBytesConst
namespace Go.Proofs.YtfiebjfdlplpjaaGreatDoor
open Go.RowKit
set_option linter.unusedVariables false

theorem Rds.whole5 {w : World} {g : Nat} {t : TypeId} {cs : Array Value} (h : Whole w g t cs) : Rds w w.heap.size (some ⟨g, 0, none⟩) cs.toList := fun _ =>
  ⟨_, rfl, h.lt, fun k u hu => by
    have := h.cell k
    rw [addr_to, Nat.zero_add, this]
    simpa using hu⟩
theorem World.size_alloc5 (w : World) (o : Obj) : (w.alloc o).heap.size = w.heap.size + 1 := by simp
section
variable {w0 w w' : World} {S T S' T' : Nat → Prop} {j d : Nat} {D D' : Dsk} {J J' : Jn}
/-- Append of bytes that were made just now -/
theorem at_app1 (z : Int) (hz : 0 ≤ z ∧ z ≤ 255) (h : At5 w0 w S T j d D J) (hok : Okd D) (hst : D.steps ≤ 1000000) (hf : Fits J ∧ J.segs.length < 1073741824) {n : Nat} (h1 : (jAppend lLog D J [z]).1 = n) (h2 : (jAppend lLog D J [z]).2.1 = 0) :
    Calls Tryz.prog 10 #[.pointer (some ⟨j, 0, none⟩), .slice (some ⟨w.heap.size, 0, none⟩) 1 1] (w.alloc (.cells #[.int .u8 z] 5 (1, 2))) fun e w' => e = .returned (.tuple #[.int .u64 n, .int .i64 0]) ∧ ∃ S' T', At5 w0 w' S' T' j d (jAppend lLog D J [z]).2.2.1 (jAppend lLog D J [z]).2.2.2 := by
  have hba : Below w.heap.size w (w.alloc (.cells #[.int .u8 z] 5 (1, 2))) := (Below.refl _ _).alloc (Nat.le_refl _) _
  have h3 := h.go hba
  have hlS := h.jd.dk.lt
  have hlT := h.jd.jo.lt
  have ha := at_append (some ⟨w.heap.size, 0, none⟩) [z] 1 1 h3 hok (by omega) hf.1 hf.2 rfl (good1 z hz).1 (by decide)
    ((Rds.madeF5 w 5 [z] #[.int .u8 z] (1, 2) rfl).more (by simp)) (fun ad e _ => by
      obtain rfl := Option.some.inj e
      exact ⟨fun hh => Nat.lt_irrefl _ (hlS _ hh), fun hh => Nat.lt_irrefl _ (hlT _ hh)⟩)
  rw [h1, h2] at ha
  exact ha
end

theorem at_drop {w0 w : World} {S T : Nat → Prop} {j d : Nat} {D : Dsk} {J : Jn} (n : Nat) (h : At5 w0 w S T j d D J) (hf : Fits J) (hj : J.off = false) (hD : D.off = false) (a b : Sg) (hs : J.segs = [a, b]) (hn : b.num ≤ n) (hn2 : n ≤ J.next) (hst : D.steps ≤ 1048576) (hok : Okd D) (hrem : (dRemove D (segN lLog a.num)).1 = 0) :
    Calls Tryz.prog 17 #[.pointer (some ⟨j, 0, none⟩), .int .u64 n] w fun e w' => e = .returned (.int .i64 0) ∧ ∃ S', Dropped w' S' j d (dRemove D (segN lLog a.num)).2 J.next b.num ∧ Below w0.heap.size w0 w' := by
  refine (jdrop_one n w h.jd hf hj hD a b hs hn hn2 hst hok hrem).mono ?_
  rintro e w' ⟨rfl, S', hd, ht⟩
  refine ⟨rfl, S', hd, h.below.trans (ht.outs.below (fun k hk => ?_) h.below.size)⟩
  rcases hk with hk | hk
  · exact h.ns k hk
  · exact h.nt k hk
theorem shape_two {J : Jn} {o : Bool} {nx : Nat} {x y : Nat × Nat × Nat} (h : J.shape = (o, nx, [x, y])) : ∃ a b, J.segs = [a, b] ∧ a.num = x.1 ∧ b.num = y.1 ∧ J.next = nx ∧ J.off = o := by
  unfold Jn.shape at h
  injection h with e1 e2
  injection e2 with e2 e3
  match hs : J.segs, congrArg List.length e3 with
  | [a, b], _ =>
    rw [hs] at e3
    simp only [List.map_cons, List.map_nil, List.cons.injEq] at e3
    exact ⟨a, b, rfl, by rw [← e3.1], by rw [← e3.2.1], e2, e1⟩

set_option maxHeartbeats 8000000 in
set_option maxRecDepth 10000 in
theorem jnames_walk (w : World) (hp : Pow w) : Calls Tryz.prog 3 #[] w fun e w' => e = .returned (.bool true) ∧ Below w.heap.size w w' := by
  have hconv := conv_same5
  have hlv := lives5_any w hp
  go_enter Tryz.func3, Tryz.ntmps3
  go_wp2_with fail
  refine hlv.mono ?_
  rintro e w0 ⟨rfl, hb0⟩
  clear hlv
  go_wp2_with fail
  refine (new_any 10000 (by decide) w0).mono ?_
  rintro e w1 ⟨S1, d, rfl, hk1, hb1, hS1⟩
  have hb1' := hb0.trans (hb1.mono hb0.size)
  have hop := at_open w1 hb1' hk1 (fun k hk => Nat.le_trans hb0.size (hS1 k hk)) hp (new_inv 10000 (by decide)) rfl (by decide) (by rw [(bare_new 10000).open_.1])
  rw [(bare_new 10000).open_.1, (bare_new 10000).open_.2] at hop
  clear hk1 hb1 hS1 hb0 hb1'
  go_wp2_with fail
  refine hop.mono ?_
  rintro e w2 ⟨j, S2, T2, rfl, h2⟩
  clear hop
  obtain ⟨f1, f2, st1, fr1, rm1, us1, sp1⟩ := a1_facts
  obtain ⟨g1, g2, st2, fr2, rm2, us2, sp2⟩ := a2_facts
  go_wp2_with fail
  refine (at_app1 97 (by decide) h2 (okd_new 10000 (by decide)) (by decide) ⟨bare_fits, by decide⟩ f2 f1).mono ?_
  rintro e w3 ⟨rfl, S3, T3, h3⟩
  clear h2
  change At5 w w3 S3 T3 j d D1 J1 at h3
  go_wp2_with fail
  refine (at_app1 98 (by decide) h3 st1.inv.ok (by omega) (st1.fits (by decide)) g2 g1).mono ?_
  rintro e w4 ⟨rfl, S4, T4, h4⟩
  clear h3
  change At5 w w4 S4 T4 j d D2 J2 at h4
  have hsy := at_sync h4 (okd_room st2.inv.ok (by omega)) (st2.fits (by decide)).1
  rw [k3] at hsy
  clear h4
  go_wp2_with fail
  refine hsy.mono ?_
  rintro e w5 ⟨rfl, S5, h5⟩
  clear hsy
  change At5 w w5 S5 T4 j d D3 J3 at h5
  have hs3 : D3.steps ≤ D2.steps + 1 := jSync_steps st2.inv.ok J2
  go_wp2_with fail
  refine (at_app1 99 (by decide) h5 st3.inv.ok (by omega) (st3.fits (by decide)) k4 k4').mono ?_
  rintro e w6 ⟨rfl, S6, T6, h6⟩
  clear h5
  change At5 w w6 S6 T6 j d D4 J4 at h6
  have hs4 : D4.steps ≤ D3.steps + 3 + (1 + 12) := jAppend_steps st3.inv.ok J3 [99]
  have hcr := at_crash h6 none [] 0 0 (okd_room inv4.ok (by omega)) inv4.ok rfl (by decide) (fun z hz => by cases hz) Rds.nil_
  rw [dCrash_ok (D := D4) (ks := []) rfl] at hcr
  clear h6
  go_wp2_with fail
  refine hcr.mono ?_
  rintro e w7 ⟨rfl, S7, hk7, hb7, hS7⟩
  clear hcr
  have hop := at_open (D := D5) w7 hb7 hk7 hS7 hp inv5 rfl (by have := stp5; omega) (by rw [k5'])
  rw [k5', k5] at hop
  clear hk7 hb7 hS7
  go_wp2_with fail
  refine hop.mono ?_
  rintro e w8 ⟨j2, S8, T8, rfl, h8⟩
  clear hop
  have hAll := jall_any w8 h8.jd fit5.1 (by decide) (fun x hx r hr => by
    obtain rfl := List.mem_singleton.1 hx
    rcases List.mem_cons.1 hr with rfl | hr
    · decide
    · obtain rfl := List.mem_singleton.1 hr
      decide)
  go_wp2_with fail
  refine hAll.mono ?_
  rintro e w9 ⟨v, zs, rfl, hzs, hAt⟩
  clear hAll
  obtain ⟨Aa, ca, rfl⟩ := row_any hAt.row
  have hzl : zs.length = 2 := by
    have := congrArg List.length hzs
    rw [List.length_map] at this
    exact this
  have hAt' := hAt
  rw [hzl] at hAt'
  have hconv2 : ∀ X, (convert 33 33 (.slice (some ⟨w9.heap.size + 1, 0, none⟩) 1 1)).run Tryz.prog ((w9.alloc X).alloc (.cells #[.int .u8 98] 5)) = .ok (.slice (some ⟨w9.heap.size + 1, 0, none⟩) 1 1) ((w9.alloc X).alloc (.cells #[.int .u8 98] 5 (1, 2))) := fun X => by
    have := conv_same5 (w9.alloc X) #[.int .u8 98] 1 1
    rw [show (w9.alloc X).heap.size = w9.heap.size + 1 by simp] at this
    exact this
  go_wp2_with fail
  have hW1 : Below w9.heap.size w9 (((w9.alloc (.cells #[.int .u8 97] 5 (1, 2))).alloc (.cells #[.int .u8 98] 5 (1, 2))).alloc (.cells #[.slice (some ⟨w9.heap.size, 0, none⟩) 1 1, .slice (some ⟨w9.heap.size + 1, 0, none⟩) 1 1] 33)) :=
    ((((Below.refl _ w9).alloc (Nat.le_refl _) _).alloc (by simp) _).alloc (by simp; omega) _)
  have hra : Rds (((w9.alloc (.cells #[.int .u8 97] 5 (1, 2))).alloc (.cells #[.int .u8 98] 5 (1, 2))).alloc (.cells #[.slice (some ⟨w9.heap.size, 0, none⟩) 1 1, .slice (some ⟨w9.heap.size + 1, 0, none⟩) 1 1] 33)) (w9.heap.size + 3) (some ⟨w9.heap.size, 0, none⟩) (c8 [97]) :=
    (((Rds.madeF5 w9 5 [97] #[.int .u8 97] (1, 2) rfl).alloc (by simp) _).alloc (by simp) _).more (by omega)
  have hrb : Rds (((w9.alloc (.cells #[.int .u8 97] 5 (1, 2))).alloc (.cells #[.int .u8 98] 5 (1, 2))).alloc (.cells #[.slice (some ⟨w9.heap.size, 0, none⟩) 1 1, .slice (some ⟨w9.heap.size + 1, 0, none⟩) 1 1] 33)) (w9.heap.size + 3) (some ⟨w9.heap.size + 1, 0, none⟩) (c8 [98]) := by
    have := ((Rds.madeF5 (w9.alloc (.cells #[.int .u8 97] 5 (1, 2))) 5 [98] #[.int .u8 98] (1, 2) rfl).alloc (by simp) (.cells #[.slice (some ⟨w9.heap.size, 0, none⟩) 1 1, .slice (some ⟨w9.heap.size + 1, 0, none⟩) 1 1] 33))
    rw [show (w9.alloc (.cells #[.int .u8 97] 5 (1, 2))).heap.size = w9.heap.size + 1 by simp] at this
    exact this.more (by omega)
  have hrw : Rds (((w9.alloc (.cells #[.int .u8 97] 5 (1, 2))).alloc (.cells #[.int .u8 98] 5 (1, 2))).alloc (.cells #[.slice (some ⟨w9.heap.size, 0, none⟩) 1 1, .slice (some ⟨w9.heap.size + 1, 0, none⟩) 1 1] 33)) (w9.heap.size + 3) (some ⟨w9.heap.size + 2, 0, none⟩) (cR [⟨[97], some ⟨w9.heap.size, 0, none⟩, 1⟩, ⟨[98], some ⟨w9.heap.size + 1, 0, none⟩, 1⟩]) := by
    have h := Rds.whole5 (Whole.new ((w9.alloc (.cells #[.int .u8 97] 5 (1, 2))).alloc (.cells #[.int .u8 98] 5 (1, 2))) 33 #[.slice (some ⟨w9.heap.size, 0, none⟩) 1 1, .slice (some ⟨w9.heap.size + 1, 0, none⟩) 1 1])
    simp only [World.size_alloc5] at h
    exact h
  have hsl := sameLists_yes Aa (some ⟨w9.heap.size + 2, 0, none⟩) zs [⟨[97], some ⟨w9.heap.size, 0, none⟩, 1⟩, ⟨[98], some ⟨w9.heap.size + 1, 0, none⟩, 1⟩] 2 2 ca 2 (w9.heap.size + 3) (((w9.alloc (.cells #[.int .u8 97] 5 (1, 2))).alloc (.cells #[.int .u8 98] 5 (1, 2))).alloc (.cells #[.slice (some ⟨w9.heap.size, 0, none⟩) 1 1, .slice (some ⟨w9.heap.size + 1, 0, none⟩) 1 1] 33)) hzl rfl (by decide) hzs
    (fun x hx => by
      have h2 : x.r ∈ jAll J5 := by rw [← hzs]; exact List.mem_map_of_mem hx
      rcases List.mem_cons.1 h2 with e | h2
      · rw [e]; decide
      · rw [List.mem_singleton.1 h2]; decide)
    (((Rds.ofOwn hAt.row).below hW1).more (by omega)) hrw (fun x hx => ((Rds.ofOwn (hAt.bods x hx)).below hW1).more (by omega))
    (fun y hy => by
      rcases List.mem_cons.1 hy with e | hy
      · rw [e]; exact hra
      · rw [List.mem_singleton.1 hy]; exact hrb)
  have h9 := (h8.go hAt.below).go hW1
  generalize (((w9.alloc (.cells #[.int .u8 97] 5 (1, 2))).alloc (.cells #[.int .u8 98] 5 (1, 2))).alloc (.cells #[.slice (some ⟨w9.heap.size, 0, none⟩) 1 1, .slice (some ⟨w9.heap.size + 1, 0, none⟩) 1 1] 33)) = wA at *
  generalize w9.heap.size = gA at *
  clear hW1 hra hrb hrw hAt hAt' hzs h8 hconv2
  refine hsl.mono ?_
  rintro e wB ⟨rfl, q, rfl⟩
  have h10 := h9.go (bDrewN (Below.refl _ _) q)
  clear hsl h9
  generalize wA.drewN q = wB at *
  obtain ⟨wM, hM, hrM, hbM⟩ := made_run wB 5000 5000 (by omega) (by omega)
  have h11 := h10.go hbM
  have hlS := h10.jd.dk.lt
  have hlT := h10.jd.jo.lt
  obtain ⟨e61, k6r⟩ := Prod.mk.inj k6
  obtain ⟨e62, sh6⟩ := Prod.mk.inj k6r
  have hap := at_append (some ⟨wB.heap.size, 0, none⟩) big 5000 5000 h11 inv5.ok (by have := stp5; omega) fit5.1 fit5.2 (by unfold big; rw [List.length_replicate]) goodbig.1 (by decide) hrM (fun ad e _ => by
    obtain rfl := Option.some.inj e
    exact ⟨fun hh => Nat.lt_irrefl _ (hlS _ hh), fun hh => Nat.lt_irrefl _ (hlT _ hh)⟩)
  rw [e61, e62] at hap
  clear h11 hlS hlT hrM h10 hbM
  go_wp2_with fail
  refine hap.mono ?_
  rintro e w10 ⟨rfl, S10, T10, h12⟩
  clear hap hM
  rw [← d6e, ← j6e] at h12
  have hs6 := jAppend_steps (l := lLog) inv5.ok J5 big
  rw [← d6e] at hs6
  rw [show big.length = 5000 by unfold big; rw [List.length_replicate]] at hs6
  have hs5 := stp5
  have fit6 := fits_shape sh6 (by decide) (by decide) (by decide)
  obtain ⟨e71, k7r⟩ := Prod.mk.inj k7
  obtain ⟨e72, sh7⟩ := Prod.mk.inj k7r
  obtain ⟨en7, eo7⟩ := Prod.mk.inj n7
  go_wp2_with fail
  refine (at_app1 100 (by decide) h12 inv6.ok (by omega) fit6 e71 e72).mono ?_
  rintro e w11 ⟨rfl, S11, T11, h13⟩
  clear h12
  rw [← d7e, ← j7e] at h13
  have hs7 := jAppend_steps (l := lLog) inv6.ok J6 [100]
  rw [← d7e, show ([100] : List Int).length = 1 from rfl] at hs7
  have hnm := names_on w11 h13.jd.dk (show D7.steps ≤ 1099511627776 by omega) inv7.ok.srt
  rw [en7] at hnm
  go_wp2_with fail
  refine hnm.mono ?_
  rintro e w12 ⟨v, rfl, hown, hb12⟩
  obtain ⟨A5, c5, rfl⟩ := row_any hown
  have h14 := h13.go hb12
  clear hnm hb12 h13
  have HQ1 := segN_bytes
  have HQ4 : strOf (segN lLog 4) = ⟨#[108, 111, 103, 45, 48, 48, 48, 48, 48, 48, 48, 48, 48, 48, 48, 52]⟩ := by kernel_rfl
  have hbn : Below w12.heap.size w12 (w12.alloc (.cells #[.string (strOf (segN lLog 1)), .string (strOf (segN lLog 4))] 9)) := (Below.refl _ _).alloc (Nat.le_refl _) _
  have hrn : Rds (w12.alloc (.cells #[.string (strOf (segN lLog 1)), .string (strOf (segN lLog 4))] 9)) (w12.alloc (.cells #[.string (strOf (segN lLog 1)), .string (strOf (segN lLog 4))] 9)).heap.size (some ⟨w12.heap.size, 0, none⟩) (cS [segN lLog 1, segN lLog 4]) :=
    Rds.whole5 (Whole.new w12 9 #[.string (strOf (segN lLog 1)), .string (strOf (segN lLog 4))])
  have hst := sameTexts_any A5 (some ⟨w12.heap.size, 0, none⟩) [segN lLog 1, segN lLog 4] [segN lLog 1, segN lLog 4] 2 2 c5 2 (w12.alloc (.cells #[.string (strOf (segN lLog 1)), .string (strOf (segN lLog 4))] 9)).heap.size (w12.alloc (.cells #[.string (strOf (segN lLog 1)), .string (strOf (segN lLog 4))] 9)) rfl rfl (by decide) (by decide) (((Rds.ofOwn hown).below hbn).more hbn.size) hrn
  rw [show sameT [segN lLog 1, segN lLog 4] [segN lLog 1, segN lLog 4] = true from decide_eq_true rfl] at hst
  have h15 := h14.go hbn
  rw [HQ1, HQ4] at hst h15
  clear hbn hrn hown h14
  go_wp2_with fail
  refine hst.mono ?_
  rintro e w13 ⟨rfl, q, rfl⟩
  have h16 := h15.go (bDrewN (Below.refl _ _) q)
  clear hst h15
  generalize ((w12.alloc (.cells #[.string ⟨#[108, 111, 103, 45, 48, 48, 48, 48, 48, 48, 48, 48, 48, 48, 48, 49]⟩, .string ⟨#[108, 111, 103, 45, 48, 48, 48, 48, 48, 48, 48, 48, 48, 48, 48, 52]⟩] 9)).drewN q) = w13 at *
  obtain ⟨sa, sb, hseg, hna, hnb, hnx, hjo⟩ := shape_two sh7
  have hfit7 := fits_shape sh7 (by decide) (by decide) (by decide)
  obtain ⟨ek8, eo8⟩ := Prod.mk.inj k8
  have hdr := at_drop 4 h16 hfit7.1 hjo eo7 sa sb hseg (by rw [hnb]; exact Nat.le_refl _) (by rw [hnx]; decide) (by omega) inv7.ok (by rw [hna]; exact ek8)
  rw [hna, hnb, hnx] at hdr
  rw [show D8 = (dRemove D7 (segN lLog 1)).2 by unfold D8; rfl] at eo8
  generalize (dRemove D7 (segN lLog 1)).2 = D8' at *
  clear h16 hseg hna hnb hnx hjo hfit7 HQ1 HQ4
  go_wp2_with fail
  refine hdr.mono ?_
  rintro e w14 ⟨rfl, S14, hD, hb14⟩
  clear hdr
  go_wp2_with fail
  refine (dropped_first hD).mono ?_
  rintro e w15 ⟨rfl, hw⟩
  rw [hw]
  clear hw w15
  go_wp2_with fail
  refine (dropped_read hD eo8 3 (by decide)).mono ?_
  rintro e w15 ⟨rfl, hb15⟩
  have hk15 := hD.dk.go hb15
  have HB15 := Lib.hid (hb14.trans (hb15.mono hb14.size))
  clear hD hb14 hb15
  go_wp2_with fail
  refine (jopen_bad (s := ⟨#[76, 111, 103]⟩) w15 hk15 (by decide) (by decide)).mono ?_
  rintro e w16 ⟨rfl, hb16⟩
  have HB16 := Lib.hid (HB15.out.trans (hb16.mono HB15.out.size))
  clear hb16 hk15
  go_wp2
  go_returns
  exact ⟨by simp, HB16.out⟩

open Go.ChangeShapes Go.WideShapes Go.ChangeAt
set_option maxRecDepth 100000 in
theorem jnames_contract (H : Type) (enc : TypeId × Value → H) (W : World) (base : Nat) (args : Array Value) (ds gs : List (DataW H)) (before : List MemPlace)
    (hval0 : ∀ (j : Nat) t v, Tryz.f3.params[j]? = some t → args[j]? = some v → Value.okWide Tryz.prog W .any base t v)
    (hW : DataW.Whole enc Tryz.prog Tryz.f3.params.toList Rows.journalNamesSpec.vars false W args.toList ds gs before) (hsz : (DataW.weightsEach Tryz.prog (Tryz.f3.params.toList ++ Rows.journalNamesSpec.plain.varTypes Tryz.prog) (ds ++ gs)).all (· ≤ reachBytes) = true) (hp : Pow W) :
    Calls Tryz.prog 3 args W fun e W2 => ∃ v, e = .returned v ∧ Rows.journalNamesSpec.post enc Tryz.prog Tryz.f3 false true false false W args v W2 := by
  have hval : ∀ (j : Nat) t v, Tryz.f3.params[j]? = some t → args[j]? = some v → Value.okWide Tryz.prog W .any base t v := hval0
  have hW' := hW
  obtain ⟨p, q, hA0, hV, rfl, _, _⟩ := hW
  have hA : DataW.TrodAll enc Tryz.prog W 0 (fun _ => true) true Tryz.f3.params.toList args.toList ds p := hA0
  rw [Tryz.params3] at hA hval hsz
  obtain ⟨hargs, rfl, rfl⟩ := trodAll_nil hA
  obtain rfl : args = #[] := by cases args; simp_all
  exact law_close laid rfl hW' (by kernel_rfl) rfl Tryz.underlying4 rfl (jnames_walk W hp)

theorem jnames_reads (os : Os) {H : Type} (enc : TypeId × Value → H) : ∃ places, DataW.whole enc Tryz.prog ((laidWorld os).forCall (fun _ _ => 0) ⟨#[], #[], []⟩).memory Tryz.f3.params.toList Rows.journalNamesSpec.vars false (#[] : Array Value).toList 8 = some ([], [], places) :=
  ⟨[], by kernel_rfl⟩

set_option maxRecDepth 100000 in
theorem jnames_lifted (os : Os) (started : os.Started) (H : Type) (enc : TypeId × Value → H) (F : Stop.Interp) :
    ReturnsInHanded {} Tryz.checked os 3 .any ((OpenSpec.ofChange Rows.journalNamesSpec).preRow enc Tryz.prog Tryz.f3 Rows.journalNamesRow.domain false Rows.journalNamesRow.laid) (((OpenSpec.ofChange Rows.journalNamesSpec).at F).post enc Tryz.prog Tryz.f3 false true false false) := by
  obtain ⟨places, hx⟩ := jnames_reads os enc
  refine returnsInHanded_of_row (C := Tryz.checked) (s := OpenSpec.ofChange Rows.journalNamesSpec) own started (by kernel_rfl) Tryz.func3
    (witness_row_at (enc := enc) (C := Tryz.checked) false (laidWorld os) #[] (laidWorld_os os) (by kernel_rfl) (by kernel_rfl) (by kernel_rfl)
      (OpenSpec.preRow_of_cond 8 hx (by kernel_rfl) (fun k hk => by cases hk) (by kernel_rfl) (laidWorld_met os _))) ?_
  intro W base args ds gs before hval hW _ _ hsz hL _ _
  exact jnames_contract H enc W base args ds gs before hval hW hsz (pow_of hL)

theorem journalNames_said : Rows.JournalNamesSaid :=
  OpenClaim.holds_of_cond 3 Tryz.f3 rfl rfl rfl rfl rfl rfl rfl ⟨rfl, rfl, rfl, rfl, rfl⟩ rfl rfl rfl rfl rfl (by kernel_rfl) Tryz.func3 (by kernel_rfl)
    (of_decide_eq_true (by kernel_rfl)) (by unfold Func.isWrapper; first | (rw [if_pos (by decide +kernel)]; kernel_rfl) | (rw [if_neg (by decide +kernel)]; exact ⟨rfl, rfl⟩))
    (fun os started H enc _ F => by rw [OpenClaim.pre_eq_preRow]; exact jnames_lifted os started H enc F)

theorem jnames_plain (f : FuncId) (fn : Func) (hf : Tryz.pinned.checked.prog.funcNamed "berthmaster/berthmasterlaw05.JournalNames" = some f) (hfn : Tryz.pinned.checked.prog.funcs[f]? = some fn) :
    false = Tryz.pinned.checked.prog.looks [] ∧ ∀ (j : Nat) t, fn.params[j]? = some t → Tryz.pinned.checked.prog.wantsStandIn t = false := by
  obtain rfl : f = 3 := Option.some.inj ((show Tryz.prog.funcNamed "berthmaster/berthmasterlaw05.JournalNames" = some 3 by kernel_rfl).symm.trans hf) |>.symm
  obtain rfl : fn = Tryz.f3 := (Option.some.inj (Tryz.func3.symm.trans hfn)).symm
  refine ⟨by kernel_rfl, fun j t ht => ?_⟩
  rw [Tryz.params3] at ht
  simp at ht

theorem journalNames_holds : Rows.JournalNamesCardSaid :=
  Claim7.holds_tied_plain_at .later [] _ _ _ _ journalNames_said (fun _ h => by cases h) (by kernel_rfl) (fun _ h => by cases h) journalNames_row_tie rfl ⟨rfl, rfl⟩ (by kernel_rfl) rfl jnames_plain (by kernel_rfl)

#print axioms journalNames_holds
end Go.Proofs.YtfiebjfdlplpjaaGreatDoor
