/- Several texts, each a section: SPut, Big, SFrm. -/
import Derived.Deep.RegionHeld3
import Derived.Test.YtbobakfcmkaijaaGreatDoorM17
import Derived.Defers
import Derived.StillTailTactics
import Derived.Test.YtbobakfcmkaijaaGreatDoorM01
import Derived.Lib.AppendStr
import Derived.Deep.DeepAppendRoom
import Derived.Test.YtbobakfcmkaijaaGreatDoorM13
import Derived.Test.YtbobakfcmkaijaaGreatDoorM11
import Derived.Test.YtbobakfcmkaijaaGreatDoorM12
section
/- put: bytes written under the name -snapnew, synced, and given their own. -/
namespace Go.Proofs.YtbobakfcmkaijaaGreatDoor
open Go.RowKit
set_option linter.unusedVariables false

section
variable {w w' w2 wr : World} {S T U S' T' U' Sk V : Nat → Prop} {st j d : Nat} {D D' : Dsk} {X X' : Ck}
/-- something else turns -/
theorem SD.other (h : SD w S T U st j d D X) (ho : Outs V w w') (hn : ∀ k, S k ∨ T k ∨ U k → ¬ V k) (h1 : ¬ V 1) (h2 : ¬ V 0) : SD w' S T U st j d D X :=
  ⟨⟨h.jd.dk.outs ho (fun k hk => hn k (.inl hk)), h.jd.jo.outs ho (fun k hk => hn k (.inr (.inl hk))), h.jd.dis, h.jd.s0, h.jd.t0, h.jd.pow.outs ho h2, h.jd.nm⟩, h.st.outs ho (fun k hk => hn k (.inr (.inr hk))), h.dis, h.mx.outs ho h1, h.e0⟩
theorem SD.lt (h : SD w S T U st j d D X) : ∀ k, S k ∨ T k ∨ U k → k < w.heap.size := fun k hk => by
  rcases hk with hk | hk | hk
  · exact h.jd.dk.lt k hk
  · exact h.jd.jo.lt k hk
  · exact h.st.lt k hk
theorem SD.d0 (h : SD w S T U st j d D X) : w.cell? ⟨st, 1, none⟩ = some (.pointer (some ⟨d, 0, none⟩)) := h.st.c1

/-- what stands within put -/
structure PutAt (w0 wr : World) (S T U Sk : Nat → Prop) (st j d : Nat) (Dk : Dsk) (X : Ck) (A : Option Addr) (b : List Int) (B : Nat) (e : Int) : Prop where
  sd : SD wr Sk T U st j d Dk X
  turn : TurnS S T U Sk T U w0 wr
  b1 : Whole wr B 27 #[.pointer (some ⟨st, 0, none⟩)]
  b2 : Whole wr (B + 1) 24 #[.int .i64 e]
  b3 : Whole wr (B + 2) 9 #[.string (strOf (halfN lM))]
  far : ∀ k, B ≤ k → k ≤ B + 2 → ¬ (Sk k ∨ T k ∨ U k)
  ge : w0.heap.size ≤ B
  big : 1 < w0.heap.size ∧ 0 < w0.heap.size
  rd : Rds wr wr.heap.size A (c8 b)
  rdS : ∀ ad, A = some ad → c8 b ≠ [] → ¬ (Sk ad.block ∨ T ad.block ∨ U ad.block) ∧ ad.block ≠ B + 1
variable {w0 : World} {A : Option Addr} {b : List Int} {B : Nat} {e : Int} {Dk Dk' : Dsk} {Sk' : Nat → Prop}
theorem PutAt.go (h : PutAt w0 wr S T U Sk st j d Dk X A b B e) (hb : Below wr.heap.size wr w') : PutAt w0 w' S T U Sk st j d Dk X A b B e :=
  ⟨h.sd.go hb, h.turn.trans (TurnS.below hb), h.b1.go hb, h.b2.go hb, h.b3.go hb, h.far, h.ge, h.big, (h.rd.below hb).more hb.size, h.rdS⟩
theorem PutAt.disk (h : PutAt w0 wr S T U Sk st j d Dk X A b B e) (hk : Go.Proofs.YtbobakfcmkaijaaGreatDoor.Dk 0 w' Sk' d Dk') (ht : Turn Sk Sk' wr w') : PutAt w0 w' S T U Sk' st j d Dk' X A b B e := by
  obtain ⟨h1, h2⟩ := h.sd.disk hk ht
  have hb3 := h.b3.lt
  have hfar : ∀ k, B ≤ k → k ≤ B + 2 → ¬ Sk k := fun k h3 h4 hh => h.far k h3 h4 (.inl hh)
  refine ⟨h1, h.turn.trans h2, h.b1.outs ht.outs (hfar _ (by omega) (by omega)), h.b2.outs ht.outs (hfar _ (by omega) (by omega)), h.b3.outs ht.outs (hfar _ (by omega) (by omega)), fun k h3 h4 hh => ?_, h.ge, h.big, h.rd.outsW ht.outs (Nat.le_refl _) (fun ad e hne hh => (h.rdS ad e hne).1 (.inl hh)), fun ad e hne => ⟨fun hh => ?_, (h.rdS ad e hne).2⟩⟩
  · rcases hh with hh | hh
    · rcases ht.new k hh with e1 | e1
      · exact hfar k h3 h4 e1
      · omega
    · exact h.far k h3 h4 (.inr hh)
  · obtain ⟨ad', e3, hlt, _⟩ := h.rd hne
    obtain rfl := Option.some.inj (e.symm.trans e3)
    rcases hh with hh | hh
    · rcases ht.new _ hh with e1 | e1
      · exact (h.rdS ad e hne).1 (.inl e1)
      · omega
    · exact (h.rdS ad e hne).1 (.inr hh)
/-- the result is written -/
theorem PutAt.res (h : PutAt w0 wr S T U Sk st j d Dk X A b B e) (e' : Int) : PutAt w0 (wr.setCell ⟨B + 1, 0, none⟩ (.int .i64 e')) S T U Sk st j d Dk X A b B e' := by
  have ho : Outs (fun k => k = B + 1) wr (wr.setCell ⟨B + 1, 0, none⟩ (.int .i64 e')) := (Outs.refl (fun k => k = B + 1) wr).setCell (p := ⟨B + 1, 0, none⟩) (.inl rfl) _
  have hg := h.ge
  have hbig := h.big
  have hn : ∀ k, Sk k ∨ T k ∨ U k → ¬ k = B + 1 := fun k hk e => h.far k (by omega) (by omega) hk
  refine ⟨h.sd.other ho hn (by omega) (by omega), ⟨h.turn.outs.setCell (p := ⟨B + 1, 0, none⟩) (.inr (show w0.heap.size ≤ B + 1 by omega)) _, h.turn.new⟩, h.b1.far (p := ⟨B + 1, 0, none⟩) (by show B ≠ B + 1; omega) _, by simpa using h.b2.put 0 (.int .i64 e'), h.b3.far (p := ⟨B + 1, 0, none⟩) (by show B + 2 ≠ B + 1; omega) _, h.far, h.ge, h.big, h.rd.outsW ho (Nat.le_refl _) (fun ad e hne => (h.rdS ad e hne).2), h.rdS⟩

/-- the deferred call, where there was room -/
theorem put1_quiet (u : FrameMode) (w : World) (b1 b2 b3 : Nat) (e : Int) (he : e ≠ 8) (hc : w.cell? ⟨b1, 0, none⟩ = some (.int .i64 e)) :
    CallsD Tryz.prog 89 #[.pointer (some ⟨b1, 0, none⟩), .pointer (some ⟨b2, 0, none⟩), .pointer (some ⟨b3, 0, none⟩)] u w fun r u' w' => u' = u ∧ (r = .returned (.tuple #[]) ∧ w' = w) := by
  have hn : (e != 8) = true := by simpa using he
  go_enter_d Tryz.func89, Tryz.ntmps89
  go_wp2
  first | (refine bodyPost_ret (results_none rfl _ _ _) rfl ?_) | go_end0
  exact ⟨rfl, rfl⟩
theorem half_size : (strOf (halfN lM)).size ≤ 9223372036854775807 := by rw [strOf_sz]; decide
theorem snap_size (n : Nat) : (strOf (snapN lM n)).size ≤ 9223372036854775807 := by rw [strOf_sz, snapN_length]; decide

theorem PutAt.cs (h : PutAt w0 wr S T U Sk st j d Dk X A b B e) : wr.cell? ⟨B, 0, none⟩ = some (.pointer (some ⟨st, 0, none⟩)) ∧ wr.cell? ⟨st, 1, none⟩ = some (.pointer (some ⟨d, 0, none⟩)) ∧ wr.cell? ⟨B + 2, 0, none⟩ = some (.string (strOf (halfN lM))) ∧ wr.cell? ⟨B + 1, 0, none⟩ = some (.int .i64 e) ∧ wr.frozen? ⟨B + 1, 0, none⟩ = false :=
  ⟨h.b1.cell 0, h.sd.st.c1, h.b3.cell 0, h.b2.cell 0, h.b2.frozen 0⟩
theorem made_half (W : World) (l : Nm) (hl : (strOf l).size ≤ 9223372036854775807) (h : Go.Proofs.YtbobakfcmkaijaaGreatDoor.Dk 0 W S d D) (hr : Room D) : Calls Tryz.prog 80 #[.pointer (some ⟨d, 0, none⟩), .string (strOf l)] W fun e w' => e = .returned (.int .i64 (dMake D l).1) ∧ ∃ S', Go.Proofs.YtbobakfcmkaijaaGreatDoor.Dk 0 w' S' d (dMake D l).2 ∧ Turn S S' W w' := by
  have := make_any (strOf l) hl W h hr
  rwa [lst_strOf] at this
theorem synced_half (W : World) (l : Nm) (hl : (strOf l).size ≤ 9223372036854775807) (h : Go.Proofs.YtbobakfcmkaijaaGreatDoor.Dk 0 W S d D) (hr : Room D) : Calls Tryz.prog 87 #[.pointer (some ⟨d, 0, none⟩), .string (strOf l)] W fun e w' => e = .returned (.int .i64 (dSync D l).1) ∧ ∃ S', Go.Proofs.YtbobakfcmkaijaaGreatDoor.Dk 0 w' S' d (dSync D l).2 ∧ Turn S S' W w' := by
  have := sync_any (strOf l) hl W h hr
  rwa [lst_strOf] at this
theorem removed_half (W : World) (l : Nm) (hl : (strOf l).size ≤ 9223372036854775807) (h : Go.Proofs.YtbobakfcmkaijaaGreatDoor.Dk 0 W S d D) (hr : Room D) (hok : Okd D) : Calls Tryz.prog 63 #[.pointer (some ⟨d, 0, none⟩), .string (strOf l)] W fun e w' => e = .returned (.int .i64 (dRemove D l).1) ∧ ∃ S', Go.Proofs.YtbobakfcmkaijaaGreatDoor.Dk 0 w' S' d (dRemove D l).2 ∧ Turn S S' W w' := by
  have := remove_any (strOf l) hl W h hr hok
  rwa [lst_strOf] at this
theorem renamed_half (W : World) (l m : Nm) (hl : (strOf l).size ≤ 9223372036854775807) (hm : (strOf m).size ≤ 9223372036854775807) (h : Go.Proofs.YtbobakfcmkaijaaGreatDoor.Dk 0 W S d D) (hr : Room D) (hok : Okd D) : Calls Tryz.prog 90 #[.pointer (some ⟨d, 0, none⟩), .string (strOf l), .string (strOf m)] W fun e w' => e = .returned (.int .i64 (dRename D l m).1) ∧ ∃ S', Go.Proofs.YtbobakfcmkaijaaGreatDoor.Dk 0 w' S' d (dRename D l m).2 ∧ Turn S S' W w' := by
  have := rename_any (strOf l) (strOf m) hl hm W h hr hok
  rwa [lst_strOf, lst_strOf] at this
theorem appended_half (W : World) (l : Nm) (hl : (strOf l).size ≤ 9223372036854775807) (b : List Int) (A : Option Addr) (L c : Nat) (h : Go.Proofs.YtbobakfcmkaijaaGreatDoor.Dk 0 W S d D) (hr : Room D) (hok : Okd D) (hbL : b.length = L) (hLc : L ≤ c) (hL63 : L ≤ 9223372036854775807) (hA0 : A = none → c = 0) (hrd : Rds W W.heap.size A (c8 b)) (hbS : ∀ ad, A = some ad → c8 b ≠ [] → ¬ S ad.block) :
    Calls Tryz.prog 53 #[.pointer (some ⟨d, 0, none⟩), .string (strOf l), .slice A L c] W fun e w' => e = .returned (.int .i64 (dAppend D l b).1) ∧ ∃ S', Go.Proofs.YtbobakfcmkaijaaGreatDoor.Dk 0 w' S' d (dAppend D l b).2 ∧ Turn S S' W w' := by
  have := append_any (strOf l) hl b A L c W h hr hok hbL hLc hL63 hA0 hrd hbS
  rwa [lst_strOf] at this

set_option maxHeartbeats 6400000 in
set_option maxRecDepth 20000 in
/-- put, where no file -snapnew is there: of a disk that is on -/
theorem sput_any (nm : Nm) (hnm : nm.length ≤ 100) (b : List Int) (A : Option Addr) (L c : Nat) (w : World) (h : SD w S T U st j d D X) (hok : Okd D) (hst : D.steps ≤ 549755813888) (hbl : b.length ≤ 2000000) (hon : D.off = false) (hhf : find D.files (halfN lM) = none)
    (hL : b.length = L) (hLc : L ≤ c) (hA0 : A = none → c = 0) (hrd : Rds w w.heap.size A (c8 b)) (hbS : ∀ ad, A = some ad → c8 b ≠ [] → ¬ (S ad.block ∨ T ad.block ∨ U ad.block)) (hne : (sPut D nm b).1 ≠ 8) :
    Calls Tryz.prog 61 #[.pointer (some ⟨st, 0, none⟩), .string (strOf nm), .slice A L c] w fun e w' => e = .returned (.int .i64 (sPut D nm b).1) ∧ ∃ S', SD w' S' T U st j d (sPut D nm b).2 X ∧ TurnS S T U S' T U w w' := by
  have hmf : ∀ (fn : Fn) (first cap : Array Value) (w : World), (Instr.makeFunc fn first cap).run Tryz.prog w = .ok (.func fn first cap) w := fun _ _ _ _ => rfl
  have hrm : dRemove D (halfN lM) = (6, D) := remove_none (ask_half hon) hhf
  have E0 : sPut D nm b = seqD D (putSteps nm b) := by
    unfold sPut
    rw [hrm, if_pos (.inr rfl)]
  rw [E0] at hne ⊢
  obtain ⟨W1, hW1⟩ : ∃ W1, W1 = (w.alloc (.cells #[.pointer (some ⟨st, 0, none⟩)] 27)).alloc (.cells #[.int .i64 0] 24) := ⟨_, rfl⟩
  have hb1 : Below w.heap.size w W1 := by rw [hW1]; exact ((Below.refl _ w).alloc (Nat.le_refl _) _).alloc (by simp) _
  have hhalf := shalf_any W1 (h.go hb1).st.c2
  obtain ⟨W2, hW2⟩ : ∃ W2, W2 = W1.alloc (.cells #[.string (strOf (halfN lM))] 9) := ⟨_, rfl⟩
  have hb2 : Below w.heap.size w W2 := by rw [hW2]; exact hb1.alloc hb1.size _
  have hs1 : W1.heap.size = w.heap.size + 2 := by rw [hW1]; simp
  have hp0 : PutAt w W2 S T U S st j d D X A b w.heap.size 0 := by
    have hlt := h.lt
    have hx1 := h.mx.lt
    have hx2 := h.jd.pow.lt
    refine ⟨h.go hb2, TurnS.below hb2, ?_, ?_, ?_, fun k h1 h2 hh => ?_, by omega, ⟨hx1, hx2⟩, (hrd.below hb2).more hb2.size, fun ad e hne => ⟨hbS ad e hne, fun e2 => ?_⟩⟩
    · rw [hW2, hW1]; exact ((Whole.new w _ _).alloc _).alloc _
    · rw [hW2, hW1]
      have := Whole.new (w.alloc (.cells #[.pointer (some ⟨st, 0, none⟩)] 27)) 24 #[.int .i64 0]
      rw [World.size_alloc] at this
      exact this.alloc _
    · rw [hW2]
      have := Whole.new W1 9 #[.string (strOf (halfN lM))]
      rw [hs1] at this
      exact this
    · have := hlt k hh
      omega
    · obtain ⟨ad', e3, hl3, _⟩ := hrd hne
      obtain rfl := Option.some.inj (e.symm.trans e3)
      omega
  have HX := Lib.hid hW1
  have HX2 := Lib.hid hW2
  have HE := Lib.hid E0
  clear hW1 hW2 hb1 hb2 h hrd hbS E0
  go_enter_defers Tryz.func61, Tryz.ntmps61
  go_wp2_with fail
  rw [← HX.out]
  refine hhalf.mono ?_
  rintro e w1 ⟨rfl, hw1⟩
  rw [hw1]
  clear hw1 w1 hhalf
  go_wp2_with fail
  rw [← HX2.out]
  clear hs1
  obtain ⟨cB, cd, cH, cR, cf⟩ := hp0.cs
  have hp0d := hp0.go (Below.refl _ W2).drew
  have hrem := removed_half W2.drew (halfN lM) half_size hp0d.sd.jd.dk (okd_room hok (by omega)) hok
  rw [hrm] at hrem
  have HP0 := Lib.hid hp0d
  clear hp0d
  clear hp0
  go_still_tail 5, (by kernel_rfl)
  go_wp2_with fail
  refine hrem.mono ?_
  rintro e w2 ⟨rfl, S2, hk2, ht2⟩
  have hp2 := HP0.out.disk hk2 ht2
  clear hrem hk2 ht2 HP0 cB cd cH cR cf
  obtain ⟨cB, cd, cH, cR, cf⟩ := hp2.cs
  have hp2d := hp2.go (Below.refl _ w2).drew
  have hmk := made_half w2.drew (halfN lM) half_size hp2d.sd.jd.dk (okd_room hok (by omega))
  obtain ⟨r1, hr1⟩ : ∃ r, r = dMake D (halfN lM) := ⟨_, rfl⟩
  rw [← hr1] at hmk
  have HR1 := Lib.hid hr1
  have HP2 := Lib.hid hp2d
  clear hp2 hp2d hr1
  go_wp2_with fail
  go_still_tail 5, (by kernel_rfl)
  go_wp2_with fail
  refine hmk.mono ?_
  rintro e w3 ⟨rfl, S3, hk3, ht3⟩
  have hp3 := HP2.out.disk hk3 ht3
  clear hmk hk3 ht3 HP2 cB cd cH cR cf
  obtain ⟨cB, cd, cH, cR, cf⟩ := hp3.cs
  have HNE := Lib.hid hne
  by_cases h1 : r1.1 = 0
  · have hok1 : Okd r1.2 := by rw [HR1.out]; exact okd_make hok _
    have hst1 : r1.2.steps ≤ D.steps + 1 := by rw [HR1.out]; exact (steps_make D _).1
    have hp3d := hp3.go (Below.refl _ w3).drew
    have hap := appended_half w3.drew (halfN lM) half_size b A L c hp3d.sd.jd.dk (okd_room hok1 (by omega)) hok1 hL hLc (by omega) hA0 hp3d.rd (fun ad e hne hh => (hp3d.rdS ad e hne).1 (.inl hh))
    obtain ⟨r2, hr2⟩ : ∃ r, r = dAppend r1.2 (halfN lM) b := ⟨_, rfl⟩
    rw [← hr2] at hap
    have HR2 := Lib.hid hr2
    have HP3 := Lib.hid hp3d
    have H1 := Lib.hid h1
    have HOK1 := Lib.hid (And.intro hok1 hst1)
    clear hp3 hp3d hr2 hok1 hst1
    rw [h1]
    clear h1
    go_wp2_with fail
    go_still_tail 6, (by kernel_rfl)
    go_wp2_with fail
    refine hap.mono ?_
    rintro e w4 ⟨rfl, S4, hk4, ht4⟩
    have hp4 := HP3.out.disk hk4 ht4
    clear hap hk4 ht4 HP3 cB cd cH cR cf
    obtain ⟨cB, cd, cH, cR, cf⟩ := hp4.cs
    by_cases h2 : r2.1 = 0
    · have hok2 : Okd r2.2 := by rw [HR2.out]; exact okd_append HOK1.out.1 _ _
      have hst2 : r2.2.steps ≤ D.steps + 40000 := by rw [HR2.out]; have := (steps_append r1.2 (halfN lM) b).1; have := HOK1.out.2; omega
      have hp4d := hp4.go (Below.refl _ w4).drew
      have hsy := synced_half w4.drew (halfN lM) half_size hp4d.sd.jd.dk (okd_room hok2 (by omega))
      obtain ⟨r3, hr3⟩ : ∃ r, r = dSync r2.2 (halfN lM) := ⟨_, rfl⟩
      rw [← hr3] at hsy
      have HR3 := Lib.hid hr3
      have HP4 := Lib.hid hp4d
      have H2 := Lib.hid h2
      have HOK2 := Lib.hid (And.intro hok2 hst2)
      clear hp4 hp4d hr3 hok2 hst2
      rw [h2]
      clear h2
      go_wp2_with fail
      go_still_tail 5, (by kernel_rfl)
      go_wp2_with fail
      refine hsy.mono ?_
      rintro e w5 ⟨rfl, S5, hk5, ht5⟩
      have hp5 := HP4.out.disk hk5 ht5
      clear hsy hk5 ht5 HP4 cB cd cH cR cf
      obtain ⟨cB, cd, cH, cR, cf⟩ := hp5.cs
      by_cases h3 : r3.1 = 0
      · have hok3 : Okd r3.2 := by rw [HR3.out]; exact okd_sync HOK2.out.1 _
        have hst3 : r3.2.steps ≤ D.steps + 40001 := by rw [HR3.out]; have := (steps_sync r2.2 (halfN lM)).1; have := HOK2.out.2; omega
        have hp5d := hp5.go (Below.refl _ w5).drew
        have hrn := renamed_half w5.drew (halfN lM) nm half_size (by rw [strOf_sz]; omega) hp5d.sd.jd.dk (okd_room hok3 (by omega)) hok3
        obtain ⟨r4, hr4⟩ : ∃ r, r = dRename r3.2 (halfN lM) nm := ⟨_, rfl⟩
        rw [← hr4] at hrn
        have HR4 := Lib.hid hr4
        have HP5 := Lib.hid hp5d
        have H3 := Lib.hid h3
        clear hp5 hp5d hr4 hok3 hst3
        rw [h3]
        clear h3
        go_wp2_with fail
        go_still_tail 6, (by kernel_rfl)
        go_wp2_with fail
        refine hrn.mono ?_
        rintro e w6 ⟨rfl, S6, hk6, ht6⟩
        have hp6 := HP5.out.disk hk6 ht6
        clear hrn hk6 ht6 HP5 cB cd cH cR cf
        obtain ⟨cB, cd, cH, cR, cf⟩ := hp6.cs
        have E := Lib.hid (show seqD D (putSteps nm b) = r4 by
          unfold putSteps
          simp only [seqD]
          rw [if_pos (show (dMake D (halfN lM)).1 = 0 by rw [← HR1.out]; exact H1.out), if_pos (show (dAppend (dMake D (halfN lM)).2 (halfN lM) b).1 = 0 by rw [← HR1.out, ← HR2.out]; exact H2.out), if_pos (show (dSync (dAppend (dMake D (halfN lM)).2 (halfN lM) b).2 (halfN lM)).1 = 0 by rw [← HR1.out, ← HR2.out, ← HR3.out]; exact H3.out), HR4.out, HR3.out, HR2.out, HR1.out]
          split
          · rename_i h
            exact Prod.ext h.symm rfl
          · rfl)
        have HPE := Lib.hid (hp6.res r4.1)
        have hcell := HPE.out.cs.2.2.2.1
        have h8 : r4.1 ≠ 8 := fun e => HNE.out (by rw [E.out]; exact e)
        clear hp6
        go_wp2
        refine leaves_cons (f := 89) (args := #[.pointer (some ⟨w.heap.size + 1, 0, none⟩), .pointer (some ⟨w.heap.size, 0, none⟩), .pointer (some ⟨w.heap.size + 2, 0, none⟩)]) (by simp) (by simp [go_sem]) ?_
        refine (put1_quiet .returning _ (w.heap.size + 1) w.heap.size (w.heap.size + 2) r4.1 h8 hcell).mono ?_
        rintro e u' w'' ⟨rfl, rfl, rfl⟩
        show Leaves _ _ _ _ [] _ _
        refine ⟨.int .i64 r4.1, by simp [results, Tryz.results61, go_sem, hcell], ?_⟩
        rw [E.out]
        exact ⟨rfl, _, HPE.out.sd, HPE.out.turn⟩
      · have hne1 : (r3.1 != 0) = true := by simpa using h3
        have E := Lib.hid (show seqD D (putSteps nm b) = r3 by
            unfold putSteps
            simp only [seqD]
            rw [if_pos (show (dMake D (halfN lM)).1 = 0 by rw [← HR1.out]; exact H1.out), if_pos (show (dAppend (dMake D (halfN lM)).2 (halfN lM) b).1 = 0 by rw [← HR1.out, ← HR2.out]; exact H2.out), if_neg (show ¬ (dSync (dAppend (dMake D (halfN lM)).2 (halfN lM) b).2 (halfN lM)).1 = 0 by rw [← HR1.out, ← HR2.out, ← HR3.out]; exact h3), HR3.out, HR2.out, HR1.out])
        have HPE := Lib.hid (hp5.res r3.1)
        have hcell := HPE.out.cs.2.2.2.1
        have h8 : r3.1 ≠ 8 := fun e => HNE.out (by rw [E.out]; exact e)
        clear hp5
        go_wp2
        refine leaves_cons (f := 89) (args := #[.pointer (some ⟨w.heap.size + 1, 0, none⟩), .pointer (some ⟨w.heap.size, 0, none⟩), .pointer (some ⟨w.heap.size + 2, 0, none⟩)]) (by simp) (by simp [go_sem]) ?_
        refine (put1_quiet .returning _ (w.heap.size + 1) w.heap.size (w.heap.size + 2) r3.1 h8 hcell).mono ?_
        rintro e u' w'' ⟨rfl, rfl, rfl⟩
        show Leaves _ _ _ _ [] _ _
        refine ⟨.int .i64 r3.1, by simp [results, Tryz.results61, go_sem, hcell], ?_⟩
        rw [E.out]
        exact ⟨rfl, _, HPE.out.sd, HPE.out.turn⟩
    · have hne1 : (r2.1 != 0) = true := by simpa using h2
      have E := Lib.hid (show seqD D (putSteps nm b) = r2 by
          unfold putSteps
          simp only [seqD]
          rw [if_pos (show (dMake D (halfN lM)).1 = 0 by rw [← HR1.out]; exact H1.out), if_neg (show ¬ (dAppend (dMake D (halfN lM)).2 (halfN lM) b).1 = 0 by rw [← HR1.out, ← HR2.out]; exact h2), HR2.out, HR1.out])
      have HPE := Lib.hid (hp4.res r2.1)
      have hcell := HPE.out.cs.2.2.2.1
      have h8 : r2.1 ≠ 8 := fun e => HNE.out (by rw [E.out]; exact e)
      clear hp4
      go_wp2
      refine leaves_cons (f := 89) (args := #[.pointer (some ⟨w.heap.size + 1, 0, none⟩), .pointer (some ⟨w.heap.size, 0, none⟩), .pointer (some ⟨w.heap.size + 2, 0, none⟩)]) (by simp) (by simp [go_sem]) ?_
      refine (put1_quiet .returning _ (w.heap.size + 1) w.heap.size (w.heap.size + 2) r2.1 h8 hcell).mono ?_
      rintro e u' w'' ⟨rfl, rfl, rfl⟩
      show Leaves _ _ _ _ [] _ _
      refine ⟨.int .i64 r2.1, by simp [results, Tryz.results61, go_sem, hcell], ?_⟩
      rw [E.out]
      exact ⟨rfl, _, HPE.out.sd, HPE.out.turn⟩
  · have hne1 : (r1.1 != 0) = true := by simpa using h1
    have E := Lib.hid (show seqD D (putSteps nm b) = r1 by
        unfold putSteps
        simp only [seqD]
        rw [if_neg (show ¬ (dMake D (halfN lM)).1 = 0 by rw [← HR1.out]; exact h1), HR1.out])
    have HPE := Lib.hid (hp3.res r1.1)
    have hcell := HPE.out.cs.2.2.2.1
    clear hp3
    go_wp2
    show Leaves _ _ _ _ [] _ _
    refine ⟨.int .i64 r1.1, by simp [results, Tryz.results61, go_sem, hcell], ?_⟩
    rw [E.out]
    exact ⟨rfl, _, HPE.out.sd, HPE.out.turn⟩
end
end Go.Proofs.YtbobakfcmkaijaaGreatDoor
end

section
/- Appends of bytes to a row of the call's own that may come some 2^22 bytes above 2^47. No program is named here. -/
namespace Go.Proofs.YtbobakfcmkaijaaGreatDoor
open Go.RowKit Go.Lib
set_option linter.unusedVariables false

theorem big_cap {need old : Nat} (h : old < need) (hb : need ≤ 140737492549632) : Builtin.nextslicecap need old ≤ 281474976710656 := by
  unfold Builtin.nextslicecap
  split
  · omega
  · split
    · omega
    · rw [growBy_four]
      repeat' split
      all_goals omega

theorem big_row (w : World) (e : TypeId) (B : Nat) (z : Value) (hz : z.cells.size = 1) (xs news : List Value) (n m old : Nat) (hx : xs.length = n) (hm : news.length = m) (hB : B ≤ w.heap.size) (h63 : n + m ≤ maxLen) :
    (w.drew.alloc (.cells (xs.toArray ++ news.toArray ++ Builtin.zeroCells z.cells (grownCap w (n + m) old e - (n + m))) e)).ownsRow B e 1 (.slice (some ⟨w.heap.size, 0, none⟩) (n + m) (grownCap w (n + m) old e)) (n + m) (xs ++ news) ∧
    Below B w (w.drew.alloc (.cells (xs.toArray ++ news.toArray ++ Builtin.zeroCells z.cells (grownCap w (n + m) old e - (n + m))) e)) := by
  have hge := grownCap_ge w (n + m) old e
  have hl : (xs ++ news).length = n + m := by rw [List.length_append, hx, hm]
  refine ⟨⟨by rw [hl, Nat.mul_one], .inr ⟨w.heap.size, _, _, rfl, hB, heap_alloc_new w.drew _, hge, grownCap_le_maxLen w (n + m) old e h63, ?_, ?_⟩⟩, ((Below.refl B w).drew).alloc hB _⟩
  · simp only [Array.size_append, List.size_toArray, size_zeroCells, hz, hx, hm]
    omega
  · simp only [Array.toList_append, Nat.mul_one]
    rw [← hl]
    exact List.take_left

section
variable {P : Program} (w : World) (t ty e : TypeId) (i : TypeInfo) (z : Value) (ht : P.underlying t = some (.slice e)) (hi : P.info? e = some i) (hz : i.zero = some z) (hsize : i.size = 1) (hby : i.bytes = 1) (hzs : z.cells.size = 1)
include ht hi hz hsize hby hzs

/-- a slice's bytes, appended -/
theorem run_app_big {B : Nat} {v : Value} {n : Nat} {xs : List Value} (hown : w.ownsRow B e 1 v n xs) {A : Option Addr} {c lim : Nat} {news : List Value} (hr : Rds w lim A news) (hA : A = none → c = 0) (h1 : ∀ u ∈ news, u.oneCell' = true)
    (hn : n + news.length ≤ 140737492549632) (hm : news.length ≤ 140737488355328) (hB : B ≤ w.heap.size) :
    ∃ v' w', (Builtin.append_ #[t, t] ty #[v, .slice A news.length c]).run P w = .ok v' w' ∧ w'.ownsRow B e 1 v' (n + news.length) (xs ++ news) ∧ Below B w w' := by
  have small : n + news.length ≤ 140737488355328 → ∃ v' w', (Builtin.append_ #[t, t] ty #[v, .slice A news.length c]).run P w = .ok v' w' ∧ w'.ownsRow B e 1 v' (n + news.length) (xs ++ news) ∧ Below B w w' := fun h =>
    run_app_many w t ty e i z 1 ht hi hz hsize hby hzs B v n xs hown A c lim news hr hA h1 (by unfold maxLen; omega) (by omega) hB
  by_cases hs : n + news.length ≤ 140737488355328
  · exact small hs
  · rcases hown.2 with ⟨_, h0⟩ | ⟨g, cap, cur, rfl, hb, hg, hnc, hcm, hcs, htake⟩
    · exact small (by omega)
    · cases A with
      | none =>
        have hnews : news = [] := by
          cases news with
          | nil => rfl
          | cons u us => obtain ⟨ad, e, _⟩ := hr (by simp); cases e
        subst hnews
        obtain rfl := hA rfl
        exact ⟨_, w, run_append_owned_none (P := P) w B t ty e i 1 ht hi _ n xs hown, by simpa using hown, Below.refl _ _⟩
      | some ad =>
      have hcells : ∀ j u, news[j]? = some u → w.cell? (ad.add j) = some u := fun j u hu => by
        obtain ⟨ad', e, _, hc⟩ := hr.at_ hu
        obtain rfl := Option.some.inj e
        exact hc
      have hxl : xs.length = n := by simpa using hown.1
      by_cases hroom : n + news.length ≤ cap
      · obtain ⟨w', hrun, h2, h3⟩ := run_append_own_spare (P := P) w B t ty e i 1 ht hi hsize g n cap xs hown ad news.length c news (by simp) hcells h1 hroom
        exact ⟨_, w', hrun, h2, (Below.refl B w).grown h3 hB (fun k hk => by cases hk; exact hb)⟩
      · have hrun := run_append_grow (P := P) w t ty e i z ht hi hz ⟨g, 0, none⟩ n cap xs (by rw [hsize]; simpa using hxl) (hown.cells (g := g) rfl) ad news.length c news (by rw [hsize]; simp) hcells (by omega) (by omega) (by rw [hby, Nat.mul_one]; exact big_cap (by omega) hn)
        obtain ⟨h2, h3⟩ := big_row w e B z hzs xs news n news.length cap hxl rfl hB (by unfold maxLen; omega)
        exact ⟨_, _, hrun, h2, h3⟩

/-- a slice's bytes, appended: only the row's own block, and what is new, has turned -/
theorem run_app_grow {B : Nat} {v : Value} {n : Nat} {xs : List Value} (hown : w.ownsRow B e 1 v n xs) {A : Option Addr} {c lim : Nat} {news : List Value} (hr : Rds w lim A news) (hA : A = none → c = 0) (h1 : ∀ u ∈ news, u.oneCell' = true)
    (hn : n + news.length ≤ 140737492549632) (hm : news.length ≤ 140737488355328) (hB : B ≤ w.heap.size) :
    ∃ v' w', (Builtin.append_ #[t, t] ty #[v, .slice A news.length c]).run P w = .ok v' w' ∧ w'.ownsRow B e 1 v' (n + news.length) (xs ++ news) ∧ w.grownBy w' v.ownBlock := by
  cases A with
  | none =>
    have hnews : news = [] := by
      cases news with
      | nil => rfl
      | cons u us => obtain ⟨ad, e, _⟩ := hr (by simp); cases e
    subst hnews
    obtain rfl := hA rfl
    exact ⟨v, w, run_append_owned_none (P := P) w B t ty e i 1 ht hi v n xs hown, by simpa using hown, World.grownBy.refl w _⟩
  | some ad =>
    have hcells : ∀ j u, news[j]? = some u → w.cell? (ad.add j) = some u := fun j u hu => by
      obtain ⟨ad', e, _, hc⟩ := hr.at_ hu
      obtain rfl := Option.some.inj e
      exact hc
    have small : n + news.length ≤ 140737488355328 → ∃ v' w', (Builtin.append_ #[t, t] ty #[v, .slice (some ad) news.length c]).run P w = .ok v' w' ∧ w'.ownsRow B e 1 v' (n + news.length) (xs ++ news) ∧ w.grownBy w' v.ownBlock := fun h => by
      obtain ⟨v', w', hrun, h2, h3, _⟩ := run_append_own (P := P) w B t ty e i z 1 1 ht hi hz hsize hby hzs (by decide) v n xs hown ad news.length c news (by simp) hcells h1 (by unfold maxLen; omega) (by omega) hB
      exact ⟨v', w', hrun, h2, h3⟩
    by_cases hs : n + news.length ≤ 140737488355328
    · exact small hs
    · rcases hown.2 with ⟨_, h0⟩ | ⟨g, cap, cur, rfl, hb, hg, hnc, hcm, hcs, htake⟩
      · exact small (by omega)
      · have hxl : xs.length = n := by simpa using hown.1
        by_cases hroom : n + news.length ≤ cap
        · obtain ⟨w', hrun, h2, h3⟩ := run_append_own_spare (P := P) w B t ty e i 1 ht hi hsize g n cap xs hown ad news.length c news (by simp) hcells h1 hroom
          exact ⟨_, w', hrun, h2, h3⟩
        · have hrun := run_append_grow (P := P) w t ty e i z ht hi hz ⟨g, 0, none⟩ n cap xs (by rw [hsize]; simpa using hxl) (hown.cells (g := g) rfl) ad news.length c news (by rw [hsize]; simp) hcells (by omega) (by omega) (by rw [hby, Nat.mul_one]; exact big_cap (by omega) hn)
          obtain ⟨h2, h3⟩ := big_row w e B z hzs xs news n news.length cap hxl rfl hB (by unfold maxLen; omega)
          refine ⟨_, _, hrun, h2, ⟨rfl, rfl, rfl, h3.size, fun k hk _ => ?_⟩⟩
          exact Below.heap_alloc w.drew _ k hk

/-- a text's bytes, appended to a row that is not nil -/
theorem run_app_text {B u : Nat} (hu : P.underlying u = some .string) {v : Value} {n : Nat} {xs : List Value} (hown : w.ownsRow B e 1 v n xs) (hz0 : z = .int .u8 0) (s : ByteArray)
    (hn : n + s.size ≤ 140737492549632) (hm : s.size ≤ 140737488355328) (hB : B ≤ w.heap.size) :
    ∃ v' w', (Builtin.append_ #[t, u] ty #[v, .string s]).run P w = .ok v' w' ∧ w'.ownsRow B e 1 v' (n + s.size) (xs ++ strCells s) ∧ Below B w w' := by
  subst hz0
  have small : n + s.size ≤ 140737488355328 → ∃ v' w', (Builtin.append_ #[t, u] ty #[v, .string s]).run P w = .ok v' w' ∧ w'.ownsRow B e 1 v' (n + s.size) (xs ++ strCells s) ∧ Below B w w' := fun h => by
    obtain ⟨v', w', h1, h2, h3, _⟩ := run_append_own_string (P := P) w B t u ty e i ht hu hi hz hsize hby v n xs hown s (by unfold maxLen; omega) h hB
    exact ⟨v', w', h1, h2, (Below.refl B w).grown h3 hB (fun k hk => (hown.lt k hk).1)⟩
  by_cases hs : n + s.size ≤ 140737488355328
  · exact small hs
  · rcases hown.2 with ⟨_, h0⟩ | ⟨g, cap, cur, rfl, hb, hg, hnc, hcm, hcs, htake⟩
    · exact small (by omega)
    · have hxl : xs.length = n := by simpa using hown.1
      have hcs' : cur.size = cap := by simpa using hcs
      by_cases hroom : n + s.size ≤ cap
      · have hrun := run_append_room_string (P := P) w t u ty e i ht hu hi hsize g n cap cur hg s hroom (by omega)
        refine ⟨_, _, hrun, ⟨by simp [hxl, strCells_length], .inr ⟨g, cap, _, rfl, hb, setRow_heap w g cur _ e _ hg, hroom, hcm, ?_, ?_⟩⟩, (Below.refl B w).trans ⟨rfl, rfl, rfl, by simp [World.setRow], fun k hk => setRow_other w g k _ (by omega)⟩⟩
        · simp only [List.size_toArray, List.length_append, List.length_take, List.length_drop, Array.length_toList, strCells_length]
          omega
        · have ht' : cur.toList.take n = xs := by simpa using htake
          have hl : (xs ++ strCells s).length = (n + s.size) * 1 := by rw [List.length_append, hxl, strCells_length, Nat.mul_one]
          rw [ht', ← hl]
          exact List.take_left
      · have hrun := run_append_grow_string (P := P) w t u ty e i (.int .u8 0) ht hu hi hz ⟨g, 0, none⟩ n cap xs (by rw [hsize]; simpa using hxl) (hown.cells (g := g) rfl) s (by omega) (by omega) (by rw [hby, Nat.mul_one]; exact big_cap (by omega) hn)
        obtain ⟨h2, h3⟩ := big_row w e B (.int .u8 0) hzs xs (strCells s) n s.size cap hxl (strCells_length s) hB (by unfold maxLen; omega)
        exact ⟨_, _, hrun, h2, h3⟩
end

theorem app_text {P : Program} (w : World) {ops : Array Oper} {rest : List Oper} {o : Oper} {a : Act} {Q : Exit → Act → World → Prop} (hgd : o.guard = none) (sl x : Operand) (t u : TypeId)
    (ho : o.op = .call { callee := .builtin .append, args := #[sl, x], argTypes := #[t, u] })
    (B : Nat) (e : TypeId) (i : TypeInfo) (ht : P.underlying t = some (.slice e)) (hi : P.info? e = some i) (hz : i.zero = some (.int .u8 0))
    (hsize : i.size = 1) (hby : i.bytes = 1) (hu : P.underlying u = some .string) (v : Value) (n : Nat) (xs : List Value) (hs : a.eval sl = v) (hown : w.ownsRow B e 1 v n xs)
    (s : ByteArray) (hx : a.eval x = .string s) (hn : n + s.size ≤ 140737492549632) (hm : s.size ≤ 140737488355328) (hB : B ≤ w.heap.size)
    (h : ∀ v' w', w'.ownsRow B e 1 v' (n + s.size) (xs ++ strCells s) → Below B w w' → wpList P ops Q rest (a.put o.dst v') w') : wpList P ops Q (o :: rest) a w := by
  refine wpList_plain hgd fun K hK => ?_
  obtain ⟨v', w', hrun, h2, h3⟩ := run_app_text (P := P) w t o.type e i (.int .u8 0) ht hi hz hsize hby rfl hu hown rfl s hn hm hB
  unfold Oper.wp
  simp [execOp, ho, resolve, invoke, builtin, hs, hx, hrun, Result.andThen]
  exact hK _ _ (h v' w' h2 h3)

/-- the same at a step of a region that draws its order -/
theorem step_app_big {P : Program} {w : World} {ops : Array Oper} {o : Oper} {a : Act} {K : Act → World → Prop} {Q : Exit → Act → World → Prop} {E : Prop} (hgd : o.guard = none) (s x : Operand) (t : TypeId)
    (ho : o.op = .call { callee := .builtin .append, args := #[s, x], argTypes := #[t, t] })
    (B : Nat) (e : TypeId) (i : TypeInfo) (z : Value) (ht : P.underlying t = some (.slice e)) (hi : P.info? e = some i) (hz : i.zero = some z)
    (hsize : i.size = 1) (hby : i.bytes = 1) (hzs : z.cells.size = 1) (v : Value) (n : Nat) (xs : List Value) (hs : a.eval s = v) (hown : w.ownsRow B e 1 v n xs)
    (A : Option Addr) (m c lim : Nat) (news : List Value) (hx : a.eval x = .slice A m c) (hm : m = news.length) (hr : Rds w lim A news) (hA : A = none → c = 0) (h1 : ∀ u ∈ news, u.oneCell' = true) (hn : n + m ≤ 140737492549632) (hm1 : m ≤ 140737488355328) (hB : B ≤ w.heap.size)
    (h : ∀ v' w', w'.ownsRow B e 1 v' (n + m) (xs ++ news) → w.grownBy w' v.ownBlock → Below B w w' → K (a.put o.dst v') w') : if Region.wanted o (yielded ops a.tmps) = true then Oper.wp P o a w K Q else E := by
  have hw : Region.wanted o (yielded ops a.tmps) = true := by simp [Region.wanted, hgd]
  rw [if_pos hw]
  subst hm
  obtain ⟨v', w', hrun, h2, h3⟩ := run_app_grow (P := P) w t o.type e i z ht hi hz hsize hby hzs hown hr hA h1 hn hm1 hB
  unfold Oper.wp
  simp [execOp, ho, resolve, invoke, builtin, hs, hx, hrun, Result.andThen]
  exact h v' w' h2 h3 ((Below.refl B w).grown h3 hB (fun k hk => (hown.lt k hk).1))

/-- a text's bytes as numbers -/
def nums (s : ByteArray) : List Int := s.data.toList.map fun b => (b.toNat : Int)
theorem nums_length (s : ByteArray) : (nums s).length = s.size := by simp [nums]
theorem strCells_c8 (s : ByteArray) : strCells s = c8 (nums s) := by simp [strCells, c8, nums]
theorem nums_byt (s : ByteArray) : Byt (nums s) := by
  intro z hz
  obtain ⟨b, _, rfl⟩ := List.mem_map.1 hz
  have := b.toNat_lt
  omega
theorem nums_back (s : ByteArray) : strOfNums (nums s) = s := by
  apply ByteArray.ext
  apply Array.toList_inj.1
  rw [strOfNums_data, nums, List.map_map]
  conv => rhs; rw [← List.map_id s.data.toList]
  apply List.map_congr_left
  intro x _
  simp

theorem app_big {P : Program} (w : World) {ops : Array Oper} {rest : List Oper} {o : Oper} {a : Act} {Q : Exit → Act → World → Prop} (hgd : o.guard = none) (s x : Operand) (t : TypeId)
    (ho : o.op = .call { callee := .builtin .append, args := #[s, x], argTypes := #[t, t] })
    (B : Nat) (e : TypeId) (i : TypeInfo) (z : Value) (ht : P.underlying t = some (.slice e)) (hi : P.info? e = some i) (hz : i.zero = some z)
    (hsize : i.size = 1) (hby : i.bytes = 1) (hzs : z.cells.size = 1) (v : Value) (n : Nat) (xs : List Value) (hs : a.eval s = v) (hown : w.ownsRow B e 1 v n xs)
    (A : Option Addr) (m c lim : Nat) (news : List Value) (hx : a.eval x = .slice A m c) (hm : m = news.length) (hr : Rds w lim A news) (hA : A = none → c = 0) (h1 : ∀ u ∈ news, u.oneCell' = true) (hn : n + m ≤ 140737492549632) (hm1 : m ≤ 140737488355328) (hB : B ≤ w.heap.size)
    (h : ∀ v' w', w'.ownsRow B e 1 v' (n + m) (xs ++ news) → Below B w w' → wpList P ops Q rest (a.put o.dst v') w') : wpList P ops Q (o :: rest) a w := by
  subst hm
  refine wpList_plain hgd fun K hK => ?_
  obtain ⟨v', w', hrun, h2, h3⟩ := run_app_big (P := P) w t o.type e i z ht hi hz hsize hby hzs hown hr hA h1 hn hm1 hB
  unfold Oper.wp
  simp [execOp, ho, resolve, invoke, builtin, hs, hx, hrun, Result.andThen]
  exact hK _ _ (h v' w' h2 h3)
end Go.Proofs.YtbobakfcmkaijaaGreatDoor
end

section
/- The bytes of a snapshot's file, written and read back. -/
namespace Go.Proofs.YtbobakfcmkaijaaGreatDoor
open Go.RowKit
set_option linter.unusedVariables false

/-- the wire's number, in bytes of the call's own -/
theorem uint_any (B : Nat) (u : Nat) (hu : u ≤ maxNo) (L : Nat) (hL : (enc u).length = L) (w : World) (hB : B ≤ w.heap.size) :
    Calls Tryz.prog 88 #[.slice none 0 0, .int .u64 u] w fun e w' => ∃ v, e = .returned v ∧ w'.ownsRow B 5 1 v L (c8 (enc u)) ∧ Below w.heap.size w w' := by
  have h := appUint_any none [] 0 u w (by omega) (by unfold maxNo at hu; omega) (Nat.zero_le _) (Nat.zero_le _) (fun _ => ⟨rfl, rfl⟩) Rds.none_
  refine h.mono ?_
  rintro e w' ⟨v, rfl, hown, hb⟩
  have hown' : w'.ownsRow w.heap.size 5 1 v L (c8 (enc u)) := by
    rw [List.nil_append, hL] at hown
    exact hown
  exact ⟨v, rfl, own_base hown' hB, hb⟩

theorem frm_drew {B b n c : Nat} {u : Int} {A : Option Addr} {xs : List Value} {w w' : World} (h : w'.cell? ⟨b, 1, none⟩ = some (.int .u64 u) ∧ w'.cell? ⟨b, 2, none⟩ = some (.slice A n c) ∧ Rds w' B A xs ∧ B ≤ w'.heap.size ∧ Below b w w') :
    w'.drew.cell? ⟨b, 1, none⟩ = some (.int .u64 u) ∧ w'.drew.cell? ⟨b, 2, none⟩ = some (.slice A n c) ∧ Rds w'.drew B A xs ∧ B ≤ w'.drew.heap.size ∧ Below b w w'.drew := ⟨h.1, h.2.1, h.2.2.1, h.2.2.2.1, h.2.2.2.2.drew⟩
theorem frm_call {B b n c : Nat} {u : Int} {A : Option Addr} {xs : List Value} {w w' w2 : World} (h : w'.cell? ⟨b, 1, none⟩ = some (.int .u64 u) ∧ w'.cell? ⟨b, 2, none⟩ = some (.slice A n c) ∧ Rds w' B A xs ∧ B ≤ w'.heap.size ∧ Below b w w') (hbB : b < B) (hb : Below w'.heap.size w' w2) :
    w2.cell? ⟨b, 1, none⟩ = some (.int .u64 u) ∧ w2.cell? ⟨b, 2, none⟩ = some (.slice A n c) ∧ Rds w2 B A xs ∧ B ≤ w2.heap.size ∧ Below b w w2 := by
  obtain ⟨h1, h2, h3, h4, h5⟩ := h
  have hb2 := hb.mono h4
  refine ⟨by rw [hb2.cell (p := ⟨b, 1, none⟩) hbB]; exact h1, by rw [hb2.cell (p := ⟨b, 2, none⟩) hbB]; exact h2, h3.below hb2, Nat.le_trans h4 hb.size, h5.trans (hb.mono (by omega))⟩
theorem frm_app {B b n c : Nat} {u : Int} {A : Option Addr} {xs : List Value} {w w' w2 : World} (h : w'.cell? ⟨b, 1, none⟩ = some (.int .u64 u) ∧ w'.cell? ⟨b, 2, none⟩ = some (.slice A n c) ∧ Rds w' B A xs ∧ B ≤ w'.heap.size ∧ Below b w w') (hbB : b < B) (hb : Below B w' w2) :
    w2.cell? ⟨b, 1, none⟩ = some (.int .u64 u) ∧ w2.cell? ⟨b, 2, none⟩ = some (.slice A n c) ∧ Rds w2 B A xs ∧ B ≤ w2.heap.size ∧ Below b w w2 := by
  obtain ⟨h1, h2, h3, h4, h5⟩ := h
  refine ⟨by rw [hb.cell (p := ⟨b, 1, none⟩) hbB]; exact h1, by rw [hb.cell (p := ⟨b, 2, none⟩) hbB]; exact h2, h3.below hb, Nat.le_trans h4 hb.size, h5.trans (hb.mono (Nat.le_of_lt hbB))⟩

set_option maxHeartbeats 3200000 in
set_option maxRecDepth 20000 in
/-- the bytes of the file -/
theorem framed_any (x : Sn) (A : Option Addr) (n c : Nat) (w : World) (hn : x.bs.length = n) (hok : Sok x) (hr : Rds w w.heap.size A (c8 x.bs)) (hA : A = none → c = 0) :
    Calls Tryz.prog 60 #[.agg #[.bool x.there, .int .u64 x.upto, .slice A n c]] w fun e w' =>
      ∃ g, e = .returned (.tuple #[.slice (some ⟨g, 0, none⟩) (snB x).length (snB x).length, .int .i64 0]) ∧ Whole w' g 5 (c8 (snB x)).toArray ∧ w.heap.size ≤ g ∧ Below w.heap.size w w' := by
  obtain ⟨i0, hi, hz0, hz1, hz2⟩ := info_parts info8
  obtain ⟨W1, hW1⟩ : ∃ W1, W1 = w.alloc (.cells #[.bool x.there, .int .u64 x.upto, .slice A n c] 48) := ⟨_, rfl⟩
  have hb1 : Below w.heap.size w W1 := by rw [hW1]; exact (Below.refl _ w).alloc (Nat.le_refl _) _
  have hw1 : Whole W1 w.heap.size 48 #[.bool x.there, .int .u64 x.upto, .slice A n c] := by rw [hW1]; exact Whole.new _ _ _
  have hsz1 : W1.heap.size = w.heap.size + 1 := by rw [hW1]; simp
  obtain ⟨L, hL⟩ : ∃ L, (enc x.upto).length = L := ⟨_, rfl⟩
  have hL10 : L ≤ 10 := by rw [← hL]; exact enc_length _
  have hn2 : n ≤ 1048560 := by rw [← hn]; exact hok.len
  have hS1 : W1.cell? ⟨w.heap.size, 1, none⟩ = some (.int .u64 x.upto) ∧ W1.cell? ⟨w.heap.size, 2, none⟩ = some (.slice A n c) ∧ Rds W1 (w.heap.size + 1) A (c8 x.bs) ∧ w.heap.size + 1 ≤ W1.heap.size ∧ Below w.heap.size w W1 :=
    ⟨hw1.cell 1, hw1.cell 2, (hr.below hb1).more (by omega), by omega, hb1⟩
  have hAU := fun w' (h : w.heap.size + 1 ≤ w'.heap.size) => uint_any (w.heap.size + 1) x.upto hok.no L hL w' h
  have hbB : w.heap.size < w.heap.size + 1 := Nat.lt_succ_self _
  have HX := Lib.hid hW1
  have HN := Lib.hid hn
  have HL := Lib.hid hL
  have HO := Lib.hid hok
  clear hW1 hb1 hw1 hsz1 hr hn hL hok
  go_enter Tryz.func60, Tryz.ntmps60
  go_wp2_with fail
  rw [← HX.out]
  refine wp_region_G 5 (fun w' => w'.cell? ⟨w.heap.size, 1, none⟩ = some (.int .u64 x.upto) ∧ w'.cell? ⟨w.heap.size, 2, none⟩ = some (.slice A n c) ∧ Rds w' (w.heap.size + 1) A (c8 x.bs) ∧ w.heap.size + 1 ≤ w'.heap.size ∧ Below w.heap.size w w') (by kernel_rfl) (by kernel_rfl) (frm_drew hS1) (fun hSS hst => ?_)
  refine wpAnyG_take (i := 0) (v := ?_) rfl (by kernel_rfl) hst (by kernel_rfl) (by kernel_rfl) (fun _ _ _ h => h) hSS (Or.inl ⟨by rfl, ?_⟩) (fun hst2 => ?_)
  rotate_left
  · (intro w hSw; (try dsimp only at hSw); go_simp; try (with_reducible rfl))
  clear hst; have hst := hst2; clear hst2
  try simp only [Act.put, List.setIfInBounds_toArray, List.set_cons_zero, List.set_cons_succ]
  refine wpAnyG_take (i := 1) (v := ?_) rfl (by kernel_rfl) hst (by kernel_rfl) (by kernel_rfl) (fun _ _ _ h => h) hSS (Or.inl ⟨by rfl, ?_⟩) (fun hst2 => ?_)
  rotate_left
  · (intro w hSw; (try dsimp only at hSw); go_simp; try (with_reducible rfl))
  clear hst; have hst := hst2; clear hst2
  try simp only [Act.put, List.setIfInBounds_toArray, List.set_cons_zero, List.set_cons_succ]
  refine wpAnyG_take (i := 3) (v := ?_) rfl (by kernel_rfl) hst (by kernel_rfl) (by kernel_rfl) (fun _ _ _ h => h) hSS (Or.inl ⟨by rfl, ?_⟩) (fun hst2 => ?_)
  rotate_left
  · (intro w hSw; (try dsimp only at hSw); go_simp; try (with_reducible rfl))
  clear hst; have hst := hst2; clear hst2
  try simp only [Act.put, List.setIfInBounds_toArray, List.set_cons_zero, List.set_cons_succ]
  refine wpAnyG_take (i := 4) (v := ?_) rfl (by kernel_rfl) hst (by kernel_rfl) (by kernel_rfl) (fun _ _ _ h => h) hSS (Or.inl ⟨by rfl, ?_⟩) (fun hst2 => ?_)
  rotate_left
  · (intro w hSw; (try dsimp only at hSw); go_simp; try (with_reducible rfl))
  clear hst; have hst := hst2; clear hst2
  try simp only [Act.put, List.setIfInBounds_toArray, List.set_cons_zero, List.set_cons_succ]
  refine wpAnyG_one (i := 2) (by kernel_rfl) rfl (by kernel_rfl) hst (fun K hK => ?_)
  go_simp
  refine (hAU W1.drew hSS.2.2.2.1).mono ?_
  rintro e w9 ⟨v9, rfl, hown9, hb9⟩
  have hS9 := frm_call hSS hbB hb9
  refine hK.out _ _ hS9 (fun hSS2 hst2 => ?_)
  clear hst hK K hSS
  have hst := hst2
  have hSS := hSS2
  clear hst2 hSS2
  try simp only [Act.put, List.setIfInBounds_toArray, List.set_cons_zero, List.set_cons_succ]
  refine wpAnyG_pass (i := 5) (by kernel_rfl) rfl (by kernel_rfl) (fun K hK => ?_)
  refine step_app_big rfl (.tmp 7) (.tmp 9) 30 rfl (w.heap.size + 1) 5 i0 (.int .u8 0) Tryz.underlying30 hi hz0 hz1 hz2 rfl v9 L (c8 (enc x.upto)) rfl hown9 A n c (w.heap.size + 1) (c8 x.bs) rfl (by rw [c8_length, HN.out]) hS9.2.2.1 hA (c8_one _) (by omega) (by omega) hS9.2.2.2.1 ?_
  intro v8 w8 hown8 hgr8 hb8
  have hS8 := frm_app hS9 hbB hb8
  refine hK.out _ _ ?_
  clear hst hK K hSS
  try simp only [Act.put, List.setIfInBounds_toArray, List.set_cons_zero, List.set_cons_succ]
  refine wpAnyG_last (i := 6) (by kernel_rfl) rfl (by kernel_rfl) (by kernel_rfl) (fun K hK => ?_)
  go_simp
  refine hK.out _ _ ?_
  obtain ⟨A8, c8', rfl⟩ := row_any hown8
  rw [← c8_append] at hown8
  have hml : (snBody x).length = L + n := by rw [snBody, List.length_append, HL.out, HN.out]
  have hfa := fapp_any none A8 [] (snBody x) 0 c8' (L + n) 2 w8 hml (by decide) (by omega) (by decide) (fun z hz => by cases hz) HO.out.body Rds.none_ (Rds.ofOwn hown8)
  have hbw := hS8.2.2.2.2
  have HB8 := Lib.hid hbw
  have HML := Lib.hid hml
  clear hown8 hgr8 hb8 hS8 hS9 hown9 hb9 hS1 hK K hbw hml
  go_wp2_with fail
  refine hfa.mono ?_
  rintro e w10 ⟨g, rfl, hW, hg, hb10⟩
  have hlen : (snB x).length = L + n + 12 := by rw [snB_len, HML.out]
  have hbf := Lib.hid (HB8.out.trans (hb10.mono HB8.out.size))
  have HW := Lib.hid (show Whole w10 g 5 (c8 (snB x)).toArray from hW)
  have HG := Lib.hid (Nat.le_trans HB8.out.size hg)
  clear hW hg hb10 hfa
  have HLEN := Lib.hid hlen
  clear hlen
  go_wp2
  go_returns
  rw [HLEN.out]
  exact ⟨g, by simp, HW.out, HG.out, hbf.out⟩
set_option maxHeartbeats 3200000 in
set_option maxRecDepth 20000 in
/-- .. and read back -/
theorem unframed_any (x : Sn) (hok : Sok x) (A : Option Addr) (L c : Nat) (w : World) (hL : (snB x).length = L) (hLc : L ≤ c) (hr : Rds w w.heap.size A (c8 (snB x))) :
    Calls Tryz.prog 73 #[.slice A L c] w fun e w' =>
      ∃ A' c', e = .returned (.agg #[.bool true, .int .u64 x.upto, .slice A' x.bs.length c']) ∧ Rds w' w'.heap.size A' (c8 x.bs) ∧ (∀ ad, A' = some ad → c8 x.bs ≠ [] → w.heap.size < ad.block) ∧ Below w.heap.size w w' := by
  obtain ⟨W1, hW1⟩ : ∃ W1, W1 = w.alloc (.cells #[.bool false, .int .u64 0, .slice none 0 0] 48) := ⟨_, rfl⟩
  have hb1 : Below w.heap.size w W1 := by rw [hW1]; exact (Below.refl _ w).alloc (Nat.le_refl _) _
  have hw1 : Whole W1 w.heap.size 48 #[.bool false, .int .u64 0, .slice none 0 0] := by rw [hW1]; exact Whole.new _ _ _
  have hs1 : W1.heap.size = w.heap.size + 1 := by rw [hW1]; simp
  have hL2 : L ≤ 1048600 := by rw [← hL, snB_len]; have := snBody_len x; have := hok.len; omega
  have hmea : mea (snB x) = (L, 0) := by
    have := mea_fby (snF x) hok.fok []
    rw [List.append_nil] at this
    rw [show snB x = fby (snF x) from rfl, this, ← hL, snB_len]
    rfl
  have hfrd : frd (snB x) = snF x := by
    have := frd_fby (snF x) hok.fok []
    rwa [List.append_nil] at this
  have hrd := fread_len A (snB x) L c W1 hL (by omega) hLc hok.byt2 ((hr.below hb1).more hb1.size) hmea hfrd
  have HX := Lib.hid hW1
  have HO := Lib.hid hok
  have HB1 := Lib.hid hb1
  have HW1 := Lib.hid hw1
  clear hW1 hb1 hw1 hok hr hmea hfrd hL
  go_enter Tryz.func73, Tryz.ntmps73
  go_wp2_with fail
  rw [← HX.out]
  refine hrd.mono ?_
  rintro e w2 ⟨A2, c2, rfl, hown, hb2⟩
  have hbody : (snF x).body = enc x.upto ++ x.bs := rfl
  have hbl : (snF x).body.length = (enc x.upto).length + x.bs.length := by rw [hbody, List.length_append]
  have hkk : (snF x).k = 2 := rfl
  rw [hkk]
  have hdec : dec 0 0 (snF x).body = ((x.upto : Int), ((enc x.upto).length : Int), 0) := by
    rw [hbody]
    exact enc_dec0 (by omega) (by have := HO.out.no; unfold maxNo at this; omega) x.bs
  have hbyt : Byt (snF x).body := HO.out.body
  obtain ⟨M, hM⟩ : ∃ M, (snF x).body.length = M := ⟨_, rfl⟩
  obtain ⟨E, hE⟩ : ∃ E, (enc x.upto).length = E := ⟨_, rfl⟩
  obtain ⟨n, hn⟩ : ∃ n, x.bs.length = n := ⟨_, rfl⟩
  have hE1 : 1 ≤ E := by rw [← hE]; exact enc_pos _
  rw [hM, hE, hn] at hbl
  rw [hM] at hown ⊢
  obtain rfl : M = E + n := hbl
  obtain ⟨W3, hW3⟩ : ∃ W3, W3 = w2.alloc (.cells #[.int .u8 2, .slice A2 (E + n) c2] 83) := ⟨_, rfl⟩
  have hb3 : Below w.heap.size w W3 := by rw [hW3]; exact (HB1.out.trans (hb2.mono HB1.out.size)).alloc (by have := HB1.out.size; have := hb2.size; omega) _
  have hw3 : Whole W3 w.heap.size 48 #[.bool false, .int .u64 0, .slice none 0 0] := by rw [hW3]; exact (HW1.out.go hb2).alloc _
  have hf3 : Whole W3 w2.heap.size 83 #[.int .u8 2, .slice A2 (E + n) c2] := by rw [hW3]; exact Whole.new _ _ _
  have hMc : E + n ≤ c2 := by
    obtain ⟨A', c', e⟩ := row_any hown
    rcases hown.2 with ⟨e, h0⟩ | ⟨g, cap, cur, e, _, _, h1, _⟩
    · omega
    · injection e with _ _ e3
      omega
  have hA2 : ∃ g, A2 = some ⟨g, 0, none⟩ ∧ W1.heap.size ≤ g := by
    obtain ⟨g, c', e, _, _, _⟩ := row_block hown (by omega)
    injection e with e1
    exact ⟨g, e1, (ownRow_block hown (by rw [e1]; rfl)).1⟩
  obtain ⟨g, rfl, hg⟩ := hA2
  have hr3 : Rds W3 W3.heap.size (some ⟨g, 0, none⟩) (c8 (snF x).body) := by
    rw [hW3]
    exact ((Rds.ofOwn hown).alloc (Nat.le_refl _) _).more (by simp)
  have hlt2 : w2.heap.size < W3.heap.size := hf3.lt
  have hrdu := readUint_len (some ⟨g, 0, none⟩) (snF x).body (E + n) c2 W3.heap.size W3 hM (by have := snBody_len x; have := HO.out.len; rw [← hM]; show (snBody x).length ≤ _; omega) hbyt hr3 hdec
  rw [hE] at hrdu
  have k0 : W3.cell? ⟨w.heap.size, 0, none⟩ = some (.bool false) := hw3.cell 0
  have k1 : W3.cell? ⟨w.heap.size, 1, none⟩ = some (.int .u64 0) := hw3.cell 1
  have k2 : W3.cell? ⟨w.heap.size, 2, none⟩ = some (.slice none 0 0) := hw3.cell 2
  have hL0 : ((L : Int) != L) = false := by simp
  have HX3 := Lib.hid hW3
  have HR3 := Lib.hid hr3
  have HB3 := Lib.hid hb3
  have HW3 := Lib.hid hw3
  have HF3 := Lib.hid hf3
  have HG := Lib.hid hg
  have cf0 := hf3.cell 0
  have cf1 := hf3.cell 1
  have HH := Lib.hid (And.intro hM (And.intro hE hn))
  have HBODY := Lib.hid hbody
  clear hW3 hr3 hb3 hw3 hf3 hg hown hb2 hrd hM hE hn hdec hbyt hbody hkk HX
  go_wp2_with fail
  rw [← HX3.out]
  refine hrdu.mono ?_
  rintro e w4 ⟨rfl, hw4⟩
  rw [hw4]
  clear hw4 w4 hrdu
  have q0 : (0 : Int) ≤ (E : Int) := by omega
  have q1 : (E : Int) ≤ (E : Int) + (n : Int) := by omega
  have q2 : (E : Int) + (n : Int) ≤ (c2 : Int) := by omega
  have kf := HW3.out.frozen 0
  have kf1 := HW3.out.frozen 1
  have kf2 := HW3.out.frozen 2
  have hdr := HR3.out.drop E c2 (by rw [c8_length, HH.out.1]; omega)
  rw [HBODY.out, c8_append, show (c8 (enc x.upto) ++ c8 x.bs).drop E = c8 x.bs by rw [List.drop_append, List.drop_eq_nil_of_le (by rw [c8_length, HH.out.2.1]; exact Nat.le_refl _), c8_length, HH.out.2.1, Nat.sub_self]; rfl] at hdr
  have HDR := Lib.hid hdr
  clear hdr
  have HGG : w.heap.size < g := by have := HG.out; omega
  by_cases hc : c2 = E
  · have hn0 : n = 0 := by omega
    subst hn0
    subst hc
    have HDRR := HDR.out
    rw [if_pos rfl] at HDRR
    go_wp2
    have hb4 := ((HB3.out.setCell (p := ⟨w.heap.size, 0, none⟩) (Nat.le_refl _) (.bool true)).setCell (p := ⟨w.heap.size, 1, none⟩) (Nat.le_refl _) (.int .u64 x.upto)).setCell (p := ⟨w.heap.size, 2, none⟩) (Nat.le_refl _) (.slice (some ⟨g, 0, none⟩) 0 0)
    have hw4 := ((HW3.out.put 0 (.bool true)).put 1 (.int .u64 x.upto)).put 2 (.slice (some ⟨g, 0, none⟩) 0 0)
    have hx0 := hw4.cell 0
    have hx1 := hw4.cell 1
    have hx2 := hw4.cell 2
    simp only [List.setIfInBounds_toArray, List.set_cons_zero, List.set_cons_succ] at hx0 hx1 hx2
    have hr4 : Rds (((W3.setCell ⟨w.heap.size, 0, none⟩ (.bool true)).setCell ⟨w.heap.size, 1, none⟩ (.int .u64 x.upto)).setCell ⟨w.heap.size, 2, none⟩ (.slice (some ⟨g, 0, none⟩) 0 0)) W3.heap.size (some ⟨g, 0, none⟩) (c8 x.bs) := by
      intro hne
      obtain ⟨ad, e, hlt, hcl⟩ := HDRR hne
      refine ⟨ad, e, hlt, fun k u hu => ?_⟩
      have hg2 := HG.out
      have hab : ad.block ≠ w.heap.size := by
        have e2 : ad.block = g := by have := Option.some.inj e; rw [← this]
        have := HGG
        omega
      rw [World.cell?_of_block (Below.heap_setCell _ ⟨w.heap.size, 2, none⟩ _ _ (by rw [blk_add]; exact hab)), World.cell?_of_block (Below.heap_setCell _ ⟨w.heap.size, 1, none⟩ _ _ (by rw [blk_add]; exact hab)), World.cell?_of_block (Below.heap_setCell _ ⟨w.heap.size, 0, none⟩ _ _ (by rw [blk_add]; exact hab))]
      exact hcl k u hu
    refine bodyPost_ret (by simp [results, Tryz.results73, go_sem, hx0, hx1, hx2]; try rfl) rfl ?_
    exact ⟨some ⟨g, 0, none⟩, 0, by rw [HH.out.2.2], hr4.more (by simp [World.setCell]), (fun ad e _ => by obtain rfl := Option.some.inj e; exact HGG), hb4⟩
  · have hci : ¬ (c2 : Int) = (E : Int) := by omega
    have HDRR := HDR.out
    rw [if_neg hc, Option.map_some, show (⟨g, 0, none⟩ : Addr).add E = ⟨g, E, none⟩ by rw [addr_to, Nat.zero_add]] at HDRR
    go_wp2
    have hb4 := ((HB3.out.setCell (p := ⟨w.heap.size, 0, none⟩) (Nat.le_refl _) (.bool true)).setCell (p := ⟨w.heap.size, 1, none⟩) (Nat.le_refl _) (.int .u64 x.upto)).setCell (p := ⟨w.heap.size, 2, none⟩) (Nat.le_refl _) (.slice (some ⟨g, E, none⟩) n (c2 - E))
    have hw4 := ((HW3.out.put 0 (.bool true)).put 1 (.int .u64 x.upto)).put 2 (.slice (some ⟨g, E, none⟩) n (c2 - E))
    have hx0 := hw4.cell 0
    have hx1 := hw4.cell 1
    have hx2 := hw4.cell 2
    simp only [List.setIfInBounds_toArray, List.set_cons_zero, List.set_cons_succ] at hx0 hx1 hx2
    have hr4 : Rds (((W3.setCell ⟨w.heap.size, 0, none⟩ (.bool true)).setCell ⟨w.heap.size, 1, none⟩ (.int .u64 x.upto)).setCell ⟨w.heap.size, 2, none⟩ (.slice (some ⟨g, E, none⟩) n (c2 - E))) W3.heap.size (some ⟨g, E, none⟩) (c8 x.bs) := by
      intro hne
      obtain ⟨ad, e, hlt, hcl⟩ := HDRR hne
      refine ⟨ad, e, hlt, fun k u hu => ?_⟩
      have hg2 := HG.out
      have hab : ad.block ≠ w.heap.size := by
        have e2 : ad.block = g := by have := Option.some.inj e; rw [← this]
        have := HGG
        omega
      rw [World.cell?_of_block (Below.heap_setCell _ ⟨w.heap.size, 2, none⟩ _ _ (by rw [blk_add]; exact hab)), World.cell?_of_block (Below.heap_setCell _ ⟨w.heap.size, 1, none⟩ _ _ (by rw [blk_add]; exact hab)), World.cell?_of_block (Below.heap_setCell _ ⟨w.heap.size, 0, none⟩ _ _ (by rw [blk_add]; exact hab))]
      exact hcl k u hu
    refine bodyPost_ret (by simp [results, Tryz.results73, go_sem, hx0, hx1, hx2]; try rfl) rfl ?_
    exact ⟨some ⟨g, E, none⟩, c2 - E, by rw [HH.out.2.2], hr4.more (by simp [World.setCell]), (fun ad e _ => by obtain rfl := Option.some.inj e; exact HGG), hb4⟩
end Go.Proofs.YtbobakfcmkaijaaGreatDoor
end
