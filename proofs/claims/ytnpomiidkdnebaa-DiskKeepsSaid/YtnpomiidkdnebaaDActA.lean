/- Acts that make, sync, rename, remove and fuse. -/
import Derived.Test.YtnpomiidkdnebaaDAct
namespace Go.Proofs.Ytnpomiidkdnebaa
open Go.RowKit
set_option linter.unusedVariables false

set_option maxHeartbeats 4000000 in
set_option maxRecDepth 5000 in
theorem step0_any (a : Ac) (d x : Nat) (Dd Dx : Dsk) (S : Nat → Prop) (w : World) (h : Pair S w d x Dd Dx) (hd : Gd Dd) (hx : Gd Dx) (ha : AcOk S w a) (hk : pk a.kd 11 = 0) :
    Calls Try.prog 24 #[.pointer (some ⟨d, 0, none⟩), .pointer (some ⟨x, 0, none⟩), .agg (acCells a)] w fun e w' => ∃ b, e = .returned (.bool b) ∧ (Dd = Dx → b = true) ∧ At S w d x (after a Dd) (after a Dx) w' := by
  obtain ⟨i0, hi, hz0, hz1, hz2⟩ := info_parts info8
  have hpk := fun W => pk_any a.kd 11 W (by decide) (by decide) ha.kd
  have e1 : ∀ D, after a D = (dMake D (lst a.nm)).2 := fun D => by simp [after, turned, hk]
  rw [e1, e1]
  rw [hk] at hpk
  have hlt := h.lt
  have hmade : ∀ v7 w7, _ → _ → Begun S w w7 a v7 := fun v7 w7 hb ho => Begun.made S hb ho
  have hown := lent_own w a
  have hbx : Below w.heap.size w ((w.alloc (.cells (acCells a) 48)).alloc (.cells #[] 5)) := ((Below.refl _ w).alloc (Nat.le_refl _) _).alloc (by simp) _
  have hrd := (ha.rd.below hbx).more hbx.size
  have hbl := ha.bl
  have hA0 := ha.A0
  have hl47 := ha.l47
  have hbxc : ∀ i, ((w.alloc (.cells (acCells a) 48)).alloc (.cells #[] 5)).cell? ⟨w.heap.size, i, none⟩ = (acCells a)[i]? := fun i => ((Whole.new w 48 (acCells a)).alloc _).cell i
  have hbx3 := hbxc 3
  have HM := Lib.hid hmade
  have HA := Lib.hid ha
  have HH := Lib.hid h
  have HD := Lib.hid hd
  have HX := Lib.hid hx
  have HBC := Lib.hid (rfl : acCells a = acCells a)
  clear hmade ha h hd hx e1 hk hbx hbxc
  unfold acCells at *
  obtain ⟨kd, nm, to, A, L, c, b, n, Ak, m, ck, ks⟩ := a
  dsimp only at *
  go_enter Try.func24, Try.ntmps24
  go_wp2_with (at_builtin; go_loud (refine app_many _ rfl (.tmp 19) (.tmp 21) 29 rfl (w.heap.size + 1) 5 i0 (.int .u8 0) 1 Try.underlying29 hi hz0 hz1 hz2 rfl _ 0 [] (by simp [Act.eval]) hown A L c _ (c8 b) (by simp [Act.eval]) (by rw [c8_length, hbl]) hrd hA0 (c8_one _) (by unfold maxLen; omega) (by omega) (by simp) ?_))
  intro v7 w7 hown7 hb7
  have hB := HM.out v7 w7 hb7 hown7
  obtain ⟨A7, c7, rfl, hr7, hLc7, hcm7, hA07⟩ := own_open hown7
  have hA1 : At S w7 d x Dd Dx w7 := (HH.out.go hB.below).at_
  have k0 := hB.box.cell 0
  have k1 := hB.box.cell 1
  have k2 := hB.box.cell 2
  have k3 := hB.box.cell 3
  have k4 := hB.box.cell 4
  have k5 := hB.box.cell 5
  unfold acCells at k0 k1 k2 k3 k4 k5
  simp only [List.getElem?_toArray, List.getElem?_cons_zero, List.getElem?_cons_succ] at k0 k1 k2 k3 k4 k5
  have hkb : ∀ W, Outs S w7 W → ∀ i, W.cell? ⟨w.heap.size, i, none⟩ = (acCells ⟨kd, nm, to, A, L, c, b, n, Ak, m, ck, ks⟩)[i]? := fun W ho i => hB.cell hlt ho i
  have hbw := hB.below
  have HKB := Lib.hid hkb
  have HB := Lib.hid hB
  have HO7 := Lib.hid hown7
  clear hkb hb7 hown7 hown hrd hbx3 hB HM
  go_wp2_with fail
  refine (hpk _).mono ?_
  rintro e w8 ⟨rfl, hw8⟩
  rw [hw8]
  clear hw8 w8
  clear hpk
  have hsz := HA.out.nm
  have hszt := HA.out.to
  have hA0' : At S w7 d x Dd Dx w7.drew := hA1.go (Below.refl _ _).drew
  have hDm : ∀ W Dx', At S w7 d x Dd Dx' W → _ := fun W Dx' hAt => q_make_d nm hsz hAt HD.out
  have hXm : ∀ W Dd', At S w7 d x Dd' Dx W → _ := fun W Dd' hAt => q_make_x nm hsz hAt HX.out
  have hkc : ∀ w', Outs S w7 w' → w'.cell? ⟨w.heap.size, 1, none⟩ = some (.string nm) := fun w' ho => HKB.out w' ho 1
  have hkd := hkc w7.drew (Outs.refl _ _).drew
  go_wp2_with fail
  go_region_held3 (fun w' => w'.cell? ⟨w.heap.size, 1, none⟩ = some (.string nm))
    (first | assumption | exact hkd)
    (first
      | (go_at_call 10; refine (hDm _ _ (by assumption)).mono ?_; rintro e w10 ⟨rfl, hA10⟩; have hc10 := hkc _ hA10.outs)
      | (go_at_call 49; refine (hXm _ _ (by assumption)).mono ?_; rintro e w11 ⟨rfl, hA11⟩; have hc11 := hkc _ hA11.outs))
  all_goals (
    go_wp2
    go_returns
    exact ⟨(((dMake Dd (lst nm))).1 == ((dMake Dx (lst nm))).1), by simp, fun e => by subst e; simp, At.back (by assumption) hbw⟩)

set_option maxHeartbeats 4000000 in
set_option maxRecDepth 5000 in
theorem step2_any (a : Ac) (d x : Nat) (Dd Dx : Dsk) (S : Nat → Prop) (w : World) (h : Pair S w d x Dd Dx) (hd : Gd Dd) (hx : Gd Dx) (ha : AcOk S w a) (hk : pk a.kd 11 = 2) :
    Calls Try.prog 24 #[.pointer (some ⟨d, 0, none⟩), .pointer (some ⟨x, 0, none⟩), .agg (acCells a)] w fun e w' => ∃ b, e = .returned (.bool b) ∧ (Dd = Dx → b = true) ∧ At S w d x (after a Dd) (after a Dx) w' := by
  obtain ⟨i0, hi, hz0, hz1, hz2⟩ := info_parts info8
  have hpk := fun W => pk_any a.kd 11 W (by decide) (by decide) ha.kd
  have e1 : ∀ D, after a D = (dSync D (lst a.nm)).2 := fun D => by simp [after, turned, hk]
  rw [e1, e1]
  rw [hk] at hpk
  have hlt := h.lt
  have hmade : ∀ v7 w7, _ → _ → Begun S w w7 a v7 := fun v7 w7 hb ho => Begun.made S hb ho
  have hown := lent_own w a
  have hbx : Below w.heap.size w ((w.alloc (.cells (acCells a) 48)).alloc (.cells #[] 5)) := ((Below.refl _ w).alloc (Nat.le_refl _) _).alloc (by simp) _
  have hrd := (ha.rd.below hbx).more hbx.size
  have hbl := ha.bl
  have hA0 := ha.A0
  have hl47 := ha.l47
  have hbxc : ∀ i, ((w.alloc (.cells (acCells a) 48)).alloc (.cells #[] 5)).cell? ⟨w.heap.size, i, none⟩ = (acCells a)[i]? := fun i => ((Whole.new w 48 (acCells a)).alloc _).cell i
  have hbx3 := hbxc 3
  have HM := Lib.hid hmade
  have HA := Lib.hid ha
  have HH := Lib.hid h
  have HD := Lib.hid hd
  have HX := Lib.hid hx
  have HBC := Lib.hid (rfl : acCells a = acCells a)
  clear hmade ha h hd hx e1 hk hbx hbxc
  unfold acCells at *
  obtain ⟨kd, nm, to, A, L, c, b, n, Ak, m, ck, ks⟩ := a
  dsimp only at *
  go_enter Try.func24, Try.ntmps24
  go_wp2_with (at_builtin; go_loud (refine app_many _ rfl (.tmp 19) (.tmp 21) 29 rfl (w.heap.size + 1) 5 i0 (.int .u8 0) 1 Try.underlying29 hi hz0 hz1 hz2 rfl _ 0 [] (by simp [Act.eval]) hown A L c _ (c8 b) (by simp [Act.eval]) (by rw [c8_length, hbl]) hrd hA0 (c8_one _) (by unfold maxLen; omega) (by omega) (by simp) ?_))
  intro v7 w7 hown7 hb7
  have hB := HM.out v7 w7 hb7 hown7
  obtain ⟨A7, c7, rfl, hr7, hLc7, hcm7, hA07⟩ := own_open hown7
  have hA1 : At S w7 d x Dd Dx w7 := (HH.out.go hB.below).at_
  have k0 := hB.box.cell 0
  have k1 := hB.box.cell 1
  have k2 := hB.box.cell 2
  have k3 := hB.box.cell 3
  have k4 := hB.box.cell 4
  have k5 := hB.box.cell 5
  unfold acCells at k0 k1 k2 k3 k4 k5
  simp only [List.getElem?_toArray, List.getElem?_cons_zero, List.getElem?_cons_succ] at k0 k1 k2 k3 k4 k5
  have hkb : ∀ W, Outs S w7 W → ∀ i, W.cell? ⟨w.heap.size, i, none⟩ = (acCells ⟨kd, nm, to, A, L, c, b, n, Ak, m, ck, ks⟩)[i]? := fun W ho i => hB.cell hlt ho i
  have hbw := hB.below
  have HKB := Lib.hid hkb
  have HB := Lib.hid hB
  have HO7 := Lib.hid hown7
  clear hkb hb7 hown7 hown hrd hbx3 hB HM
  go_wp2_with fail
  refine (hpk _).mono ?_
  rintro e w8 ⟨rfl, hw8⟩
  rw [hw8]
  clear hw8 w8
  clear hpk
  have hsz := HA.out.nm
  have hszt := HA.out.to
  have hA0' : At S w7 d x Dd Dx w7.drew := hA1.go (Below.refl _ _).drew
  have hDm : ∀ W Dx', At S w7 d x Dd Dx' W → _ := fun W Dx' hAt => q_sync_d nm hsz hAt HD.out
  have hXm : ∀ W Dd', At S w7 d x Dd' Dx W → _ := fun W Dd' hAt => q_sync_x nm hsz hAt HX.out
  have hkc : ∀ w', Outs S w7 w' → w'.cell? ⟨w.heap.size, 1, none⟩ = some (.string nm) := fun w' ho => HKB.out w' ho 1
  have hkd := hkc w7.drew (Outs.refl _ _).drew
  go_wp2_with fail
  go_region_held3 (fun w' => w'.cell? ⟨w.heap.size, 1, none⟩ = some (.string nm))
    (first | assumption | exact hkd)
    (first
      | (go_at_call 12; refine (hDm _ _ (by assumption)).mono ?_; rintro e w10 ⟨rfl, hA10⟩; have hc10 := hkc _ hA10.outs)
      | (go_at_call 51; refine (hXm _ _ (by assumption)).mono ?_; rintro e w11 ⟨rfl, hA11⟩; have hc11 := hkc _ hA11.outs))
  all_goals (
    go_wp2
    go_returns
    exact ⟨(((dSync Dd (lst nm))).1 == ((dSync Dx (lst nm))).1), by simp, fun e => by subst e; simp, At.back (by assumption) hbw⟩)

set_option maxHeartbeats 4000000 in
set_option maxRecDepth 5000 in
theorem step3_any (a : Ac) (d x : Nat) (Dd Dx : Dsk) (S : Nat → Prop) (w : World) (h : Pair S w d x Dd Dx) (hd : Gd Dd) (hx : Gd Dx) (ha : AcOk S w a) (hk : pk a.kd 11 = 3) :
    Calls Try.prog 24 #[.pointer (some ⟨d, 0, none⟩), .pointer (some ⟨x, 0, none⟩), .agg (acCells a)] w fun e w' => ∃ b, e = .returned (.bool b) ∧ (Dd = Dx → b = true) ∧ At S w d x (after a Dd) (after a Dx) w' := by
  obtain ⟨i0, hi, hz0, hz1, hz2⟩ := info_parts info8
  have hpk := fun W => pk_any a.kd 11 W (by decide) (by decide) ha.kd
  have e1 : ∀ D, after a D = (dRename D (lst a.nm) (lst a.to)).2 := fun D => by simp [after, turned, hk]
  rw [e1, e1]
  rw [hk] at hpk
  have hlt := h.lt
  have hmade : ∀ v7 w7, _ → _ → Begun S w w7 a v7 := fun v7 w7 hb ho => Begun.made S hb ho
  have hown := lent_own w a
  have hbx : Below w.heap.size w ((w.alloc (.cells (acCells a) 48)).alloc (.cells #[] 5)) := ((Below.refl _ w).alloc (Nat.le_refl _) _).alloc (by simp) _
  have hrd := (ha.rd.below hbx).more hbx.size
  have hbl := ha.bl
  have hA0 := ha.A0
  have hl47 := ha.l47
  have hbxc : ∀ i, ((w.alloc (.cells (acCells a) 48)).alloc (.cells #[] 5)).cell? ⟨w.heap.size, i, none⟩ = (acCells a)[i]? := fun i => ((Whole.new w 48 (acCells a)).alloc _).cell i
  have hbx3 := hbxc 3
  have HM := Lib.hid hmade
  have HA := Lib.hid ha
  have HH := Lib.hid h
  have HD := Lib.hid hd
  have HX := Lib.hid hx
  have HBC := Lib.hid (rfl : acCells a = acCells a)
  clear hmade ha h hd hx e1 hk hbx hbxc
  unfold acCells at *
  obtain ⟨kd, nm, to, A, L, c, b, n, Ak, m, ck, ks⟩ := a
  dsimp only at *
  go_enter Try.func24, Try.ntmps24
  go_wp2_with (at_builtin; go_loud (refine app_many _ rfl (.tmp 19) (.tmp 21) 29 rfl (w.heap.size + 1) 5 i0 (.int .u8 0) 1 Try.underlying29 hi hz0 hz1 hz2 rfl _ 0 [] (by simp [Act.eval]) hown A L c _ (c8 b) (by simp [Act.eval]) (by rw [c8_length, hbl]) hrd hA0 (c8_one _) (by unfold maxLen; omega) (by omega) (by simp) ?_))
  intro v7 w7 hown7 hb7
  have hB := HM.out v7 w7 hb7 hown7
  obtain ⟨A7, c7, rfl, hr7, hLc7, hcm7, hA07⟩ := own_open hown7
  have hA1 : At S w7 d x Dd Dx w7 := (HH.out.go hB.below).at_
  have k0 := hB.box.cell 0
  have k1 := hB.box.cell 1
  have k2 := hB.box.cell 2
  have k3 := hB.box.cell 3
  have k4 := hB.box.cell 4
  have k5 := hB.box.cell 5
  unfold acCells at k0 k1 k2 k3 k4 k5
  simp only [List.getElem?_toArray, List.getElem?_cons_zero, List.getElem?_cons_succ] at k0 k1 k2 k3 k4 k5
  have hkb : ∀ W, Outs S w7 W → ∀ i, W.cell? ⟨w.heap.size, i, none⟩ = (acCells ⟨kd, nm, to, A, L, c, b, n, Ak, m, ck, ks⟩)[i]? := fun W ho i => hB.cell hlt ho i
  have hbw := hB.below
  have HKB := Lib.hid hkb
  have HB := Lib.hid hB
  have HO7 := Lib.hid hown7
  clear hkb hb7 hown7 hown hrd hbx3 hB HM
  go_wp2_with fail
  refine (hpk _).mono ?_
  rintro e w8 ⟨rfl, hw8⟩
  rw [hw8]
  clear hw8 w8
  clear hpk
  have hsz := HA.out.nm
  have hszt := HA.out.to
  have hA0' : At S w7 d x Dd Dx w7.drew := hA1.go (Below.refl _ _).drew
  have hDm : ∀ W Dx', At S w7 d x Dd Dx' W → _ := fun W Dx' hAt => q_rename_d nm to hsz hszt hAt HD.out
  have hXm : ∀ W Dd', At S w7 d x Dd' Dx W → _ := fun W Dd' hAt => q_rename_x nm to hsz hszt hAt HX.out
  have hkc : ∀ w', Outs S w7 w' → w'.cell? ⟨w.heap.size, 1, none⟩ = some (.string nm) ∧ w'.cell? ⟨w.heap.size, 2, none⟩ = some (.string to) := fun w' ho => ⟨HKB.out w' ho 1, HKB.out w' ho 2⟩
  have hkd := hkc w7.drew (Outs.refl _ _).drew
  go_wp2_with fail
  go_region_held3 (fun w' => w'.cell? ⟨w.heap.size, 1, none⟩ = some (.string nm) ∧ w'.cell? ⟨w.heap.size, 2, none⟩ = some (.string to))
    (first | assumption | exact hkd)
    (first
      | (go_at_call 19; refine (hDm _ _ (by assumption)).mono ?_; rintro e w10 ⟨rfl, hA10⟩; have hc10 := hkc _ hA10.outs)
      | (go_at_call 52; refine (hXm _ _ (by assumption)).mono ?_; rintro e w11 ⟨rfl, hA11⟩; have hc11 := hkc _ hA11.outs))
  all_goals (
    go_wp2
    go_returns
    exact ⟨(((dRename Dd (lst nm) (lst to))).1 == ((dRename Dx (lst nm) (lst to))).1), by simp, fun e => by subst e; simp, At.back (by assumption) hbw⟩)

set_option maxHeartbeats 4000000 in
set_option maxRecDepth 5000 in
theorem step4_any (a : Ac) (d x : Nat) (Dd Dx : Dsk) (S : Nat → Prop) (w : World) (h : Pair S w d x Dd Dx) (hd : Gd Dd) (hx : Gd Dx) (ha : AcOk S w a) (hk : pk a.kd 11 = 4) :
    Calls Try.prog 24 #[.pointer (some ⟨d, 0, none⟩), .pointer (some ⟨x, 0, none⟩), .agg (acCells a)] w fun e w' => ∃ b, e = .returned (.bool b) ∧ (Dd = Dx → b = true) ∧ At S w d x (after a Dd) (after a Dx) w' := by
  obtain ⟨i0, hi, hz0, hz1, hz2⟩ := info_parts info8
  have hpk := fun W => pk_any a.kd 11 W (by decide) (by decide) ha.kd
  have e1 : ∀ D, after a D = (dRemove D (lst a.nm)).2 := fun D => by simp [after, turned, hk]
  rw [e1, e1]
  rw [hk] at hpk
  have hlt := h.lt
  have hmade : ∀ v7 w7, _ → _ → Begun S w w7 a v7 := fun v7 w7 hb ho => Begun.made S hb ho
  have hown := lent_own w a
  have hbx : Below w.heap.size w ((w.alloc (.cells (acCells a) 48)).alloc (.cells #[] 5)) := ((Below.refl _ w).alloc (Nat.le_refl _) _).alloc (by simp) _
  have hrd := (ha.rd.below hbx).more hbx.size
  have hbl := ha.bl
  have hA0 := ha.A0
  have hl47 := ha.l47
  have hbxc : ∀ i, ((w.alloc (.cells (acCells a) 48)).alloc (.cells #[] 5)).cell? ⟨w.heap.size, i, none⟩ = (acCells a)[i]? := fun i => ((Whole.new w 48 (acCells a)).alloc _).cell i
  have hbx3 := hbxc 3
  have HM := Lib.hid hmade
  have HA := Lib.hid ha
  have HH := Lib.hid h
  have HD := Lib.hid hd
  have HX := Lib.hid hx
  have HBC := Lib.hid (rfl : acCells a = acCells a)
  clear hmade ha h hd hx e1 hk hbx hbxc
  unfold acCells at *
  obtain ⟨kd, nm, to, A, L, c, b, n, Ak, m, ck, ks⟩ := a
  dsimp only at *
  go_enter Try.func24, Try.ntmps24
  go_wp2_with (at_builtin; go_loud (refine app_many _ rfl (.tmp 19) (.tmp 21) 29 rfl (w.heap.size + 1) 5 i0 (.int .u8 0) 1 Try.underlying29 hi hz0 hz1 hz2 rfl _ 0 [] (by simp [Act.eval]) hown A L c _ (c8 b) (by simp [Act.eval]) (by rw [c8_length, hbl]) hrd hA0 (c8_one _) (by unfold maxLen; omega) (by omega) (by simp) ?_))
  intro v7 w7 hown7 hb7
  have hB := HM.out v7 w7 hb7 hown7
  obtain ⟨A7, c7, rfl, hr7, hLc7, hcm7, hA07⟩ := own_open hown7
  have hA1 : At S w7 d x Dd Dx w7 := (HH.out.go hB.below).at_
  have k0 := hB.box.cell 0
  have k1 := hB.box.cell 1
  have k2 := hB.box.cell 2
  have k3 := hB.box.cell 3
  have k4 := hB.box.cell 4
  have k5 := hB.box.cell 5
  unfold acCells at k0 k1 k2 k3 k4 k5
  simp only [List.getElem?_toArray, List.getElem?_cons_zero, List.getElem?_cons_succ] at k0 k1 k2 k3 k4 k5
  have hkb : ∀ W, Outs S w7 W → ∀ i, W.cell? ⟨w.heap.size, i, none⟩ = (acCells ⟨kd, nm, to, A, L, c, b, n, Ak, m, ck, ks⟩)[i]? := fun W ho i => hB.cell hlt ho i
  have hbw := hB.below
  have HKB := Lib.hid hkb
  have HB := Lib.hid hB
  have HO7 := Lib.hid hown7
  clear hkb hb7 hown7 hown hrd hbx3 hB HM
  go_wp2_with fail
  refine (hpk _).mono ?_
  rintro e w8 ⟨rfl, hw8⟩
  rw [hw8]
  clear hw8 w8
  clear hpk
  have hsz := HA.out.nm
  have hszt := HA.out.to
  have hA0' : At S w7 d x Dd Dx w7.drew := hA1.go (Below.refl _ _).drew
  have hDm : ∀ W Dx', At S w7 d x Dd Dx' W → _ := fun W Dx' hAt => q_remove_d nm hsz hAt HD.out
  have hXm : ∀ W Dd', At S w7 d x Dd' Dx W → _ := fun W Dd' hAt => q_remove_x nm hsz hAt HX.out
  have hkc : ∀ w', Outs S w7 w' → w'.cell? ⟨w.heap.size, 1, none⟩ = some (.string nm) := fun w' ho => HKB.out w' ho 1
  have hkd := hkc w7.drew (Outs.refl _ _).drew
  go_wp2_with fail
  go_region_held3 (fun w' => w'.cell? ⟨w.heap.size, 1, none⟩ = some (.string nm))
    (first | assumption | exact hkd)
    (first
      | (go_at_call 26; refine (hDm _ _ (by assumption)).mono ?_; rintro e w10 ⟨rfl, hA10⟩; have hc10 := hkc _ hA10.outs)
      | (go_at_call 53; refine (hXm _ _ (by assumption)).mono ?_; rintro e w11 ⟨rfl, hA11⟩; have hc11 := hkc _ hA11.outs))
  all_goals (
    go_wp2
    go_returns
    exact ⟨(((dRemove Dd (lst nm))).1 == ((dRemove Dx (lst nm))).1), by simp, fun e => by subst e; simp, At.back (by assumption) hbw⟩)

set_option maxHeartbeats 4000000 in
set_option maxRecDepth 5000 in
theorem step5_any (a : Ac) (d x : Nat) (Dd Dx : Dsk) (S : Nat → Prop) (w : World) (h : Pair S w d x Dd Dx) (hd : Gd Dd) (hx : Gd Dx) (ha : AcOk S w a) (hk : pk a.kd 11 = 5) :
    Calls Try.prog 24 #[.pointer (some ⟨d, 0, none⟩), .pointer (some ⟨x, 0, none⟩), .agg (acCells a)] w fun e w' => ∃ b, e = .returned (.bool b) ∧ (Dd = Dx → b = true) ∧ At S w d x (after a Dd) (after a Dx) w' := by
  obtain ⟨i0, hi, hz0, hz1, hz2⟩ := info_parts info8
  have hpk := fun W => pk_any a.kd 11 W (by decide) (by decide) ha.kd
  have e1 : ∀ D, after a D = (dFuse D a.n).2 := fun D => by simp [after, turned, hk]
  rw [e1, e1]
  rw [hk] at hpk
  have hlt := h.lt
  have hmade : ∀ v7 w7, _ → _ → Begun S w w7 a v7 := fun v7 w7 hb ho => Begun.made S hb ho
  have hown := lent_own w a
  have hbx : Below w.heap.size w ((w.alloc (.cells (acCells a) 48)).alloc (.cells #[] 5)) := ((Below.refl _ w).alloc (Nat.le_refl _) _).alloc (by simp) _
  have hrd := (ha.rd.below hbx).more hbx.size
  have hbl := ha.bl
  have hA0 := ha.A0
  have hl47 := ha.l47
  have hbxc : ∀ i, ((w.alloc (.cells (acCells a) 48)).alloc (.cells #[] 5)).cell? ⟨w.heap.size, i, none⟩ = (acCells a)[i]? := fun i => ((Whole.new w 48 (acCells a)).alloc _).cell i
  have hbx3 := hbxc 3
  have HM := Lib.hid hmade
  have HA := Lib.hid ha
  have HH := Lib.hid h
  have HD := Lib.hid hd
  have HX := Lib.hid hx
  have HBC := Lib.hid (rfl : acCells a = acCells a)
  clear hmade ha h hd hx e1 hk hbx hbxc
  unfold acCells at *
  obtain ⟨kd, nm, to, A, L, c, b, n, Ak, m, ck, ks⟩ := a
  dsimp only at *
  go_enter Try.func24, Try.ntmps24
  go_wp2_with (at_builtin; go_loud (refine app_many _ rfl (.tmp 19) (.tmp 21) 29 rfl (w.heap.size + 1) 5 i0 (.int .u8 0) 1 Try.underlying29 hi hz0 hz1 hz2 rfl _ 0 [] (by simp [Act.eval]) hown A L c _ (c8 b) (by simp [Act.eval]) (by rw [c8_length, hbl]) hrd hA0 (c8_one _) (by unfold maxLen; omega) (by omega) (by simp) ?_))
  intro v7 w7 hown7 hb7
  have hB := HM.out v7 w7 hb7 hown7
  obtain ⟨A7, c7, rfl, hr7, hLc7, hcm7, hA07⟩ := own_open hown7
  have hA1 : At S w7 d x Dd Dx w7 := (HH.out.go hB.below).at_
  have k0 := hB.box.cell 0
  have k1 := hB.box.cell 1
  have k2 := hB.box.cell 2
  have k3 := hB.box.cell 3
  have k4 := hB.box.cell 4
  have k5 := hB.box.cell 5
  unfold acCells at k0 k1 k2 k3 k4 k5
  simp only [List.getElem?_toArray, List.getElem?_cons_zero, List.getElem?_cons_succ] at k0 k1 k2 k3 k4 k5
  have hkb : ∀ W, Outs S w7 W → ∀ i, W.cell? ⟨w.heap.size, i, none⟩ = (acCells ⟨kd, nm, to, A, L, c, b, n, Ak, m, ck, ks⟩)[i]? := fun W ho i => hB.cell hlt ho i
  have hbw := hB.below
  have HKB := Lib.hid hkb
  have HB := Lib.hid hB
  have HO7 := Lib.hid hown7
  clear hkb hb7 hown7 hown hrd hbx3 hB HM
  go_wp2_with fail
  refine (hpk _).mono ?_
  rintro e w8 ⟨rfl, hw8⟩
  rw [hw8]
  clear hw8 w8
  clear hpk
  have hsz := HA.out.nm
  have hszt := HA.out.to
  have hA0' : At S w7 d x Dd Dx w7.drew := hA1.go (Below.refl _ _).drew
  have hDm : ∀ W Dx', At S w7 d x Dd Dx' W → _ := fun W Dx' hAt => q_fuse_d n hAt HD.out
  have hXm : ∀ W Dd', At S w7 d x Dd' Dx W → _ := fun W Dd' hAt => q_fuse_x n hAt HX.out
  have hkc : ∀ w', Outs S w7 w' → w'.cell? ⟨w.heap.size, 4, none⟩ = some (.int .i64 n) := fun w' ho => HKB.out w' ho 4
  have hkd := hkc w7.drew (Outs.refl _ _).drew
  go_wp2_with fail
  go_region_held3 (fun w' => w'.cell? ⟨w.heap.size, 4, none⟩ = some (.int .i64 n))
    (first | assumption | exact hkd)
    (first
      | (go_at_call 16; refine (hDm _ _ (by assumption)).mono ?_; rintro e w10 ⟨rfl, hA10⟩; have hc10 := hkc _ hA10.outs)
      | (go_at_call 54; refine (hXm _ _ (by assumption)).mono ?_; rintro e w11 ⟨rfl, hA11⟩; have hc11 := hkc _ hA11.outs))
  all_goals (
    go_wp2
    go_returns
    exact ⟨(((dFuse Dd n)).1 == ((dFuse Dx n)).1), by simp, fun e => by subst e; simp, At.back (by assumption) hbw⟩)

set_option maxHeartbeats 4000000 in
set_option maxRecDepth 5000 in
theorem step6_any (a : Ac) (d x : Nat) (Dd Dx : Dsk) (S : Nat → Prop) (w : World) (h : Pair S w d x Dd Dx) (hd : Gd Dd) (hx : Gd Dx) (ha : AcOk S w a) (hk : pk a.kd 11 = 6) :
    Calls Try.prog 24 #[.pointer (some ⟨d, 0, none⟩), .pointer (some ⟨x, 0, none⟩), .agg (acCells a)] w fun e w' => ∃ b, e = .returned (.bool b) ∧ (Dd = Dx → b = true) ∧ At S w d x (after a Dd) (after a Dx) w' := by
  obtain ⟨i0, hi, hz0, hz1, hz2⟩ := info_parts info8
  have hpk := fun W => pk_any a.kd 11 W (by decide) (by decide) ha.kd
  have e1 : ∀ D, after a D = dFree D := fun D => by simp [after, turned, hk]
  rw [e1, e1]
  rw [hk] at hpk
  have hlt := h.lt
  have hmade : ∀ v7 w7, _ → _ → Begun S w w7 a v7 := fun v7 w7 hb ho => Begun.made S hb ho
  have hown := lent_own w a
  have hbx : Below w.heap.size w ((w.alloc (.cells (acCells a) 48)).alloc (.cells #[] 5)) := ((Below.refl _ w).alloc (Nat.le_refl _) _).alloc (by simp) _
  have hrd := (ha.rd.below hbx).more hbx.size
  have hbl := ha.bl
  have hA0 := ha.A0
  have hl47 := ha.l47
  have hbxc : ∀ i, ((w.alloc (.cells (acCells a) 48)).alloc (.cells #[] 5)).cell? ⟨w.heap.size, i, none⟩ = (acCells a)[i]? := fun i => ((Whole.new w 48 (acCells a)).alloc _).cell i
  have hbx3 := hbxc 3
  have HM := Lib.hid hmade
  have HA := Lib.hid ha
  have HH := Lib.hid h
  have HD := Lib.hid hd
  have HX := Lib.hid hx
  have HBC := Lib.hid (rfl : acCells a = acCells a)
  clear hmade ha h hd hx e1 hk hbx hbxc
  unfold acCells at *
  obtain ⟨kd, nm, to, A, L, c, b, n, Ak, m, ck, ks⟩ := a
  dsimp only at *
  go_enter Try.func24, Try.ntmps24
  go_wp2_with (at_builtin; go_loud (refine app_many _ rfl (.tmp 19) (.tmp 21) 29 rfl (w.heap.size + 1) 5 i0 (.int .u8 0) 1 Try.underlying29 hi hz0 hz1 hz2 rfl _ 0 [] (by simp [Act.eval]) hown A L c _ (c8 b) (by simp [Act.eval]) (by rw [c8_length, hbl]) hrd hA0 (c8_one _) (by unfold maxLen; omega) (by omega) (by simp) ?_))
  intro v7 w7 hown7 hb7
  have hB := HM.out v7 w7 hb7 hown7
  obtain ⟨A7, c7, rfl, hr7, hLc7, hcm7, hA07⟩ := own_open hown7
  have hA1 : At S w7 d x Dd Dx w7 := (HH.out.go hB.below).at_
  have k0 := hB.box.cell 0
  have k1 := hB.box.cell 1
  have k2 := hB.box.cell 2
  have k3 := hB.box.cell 3
  have k4 := hB.box.cell 4
  have k5 := hB.box.cell 5
  unfold acCells at k0 k1 k2 k3 k4 k5
  simp only [List.getElem?_toArray, List.getElem?_cons_zero, List.getElem?_cons_succ] at k0 k1 k2 k3 k4 k5
  have hkb : ∀ W, Outs S w7 W → ∀ i, W.cell? ⟨w.heap.size, i, none⟩ = (acCells ⟨kd, nm, to, A, L, c, b, n, Ak, m, ck, ks⟩)[i]? := fun W ho i => hB.cell hlt ho i
  have hbw := hB.below
  have HKB := Lib.hid hkb
  have HB := Lib.hid hB
  have HO7 := Lib.hid hown7
  clear hkb hb7 hown7 hown hrd hbx3 hB HM
  go_wp2_with fail
  refine (hpk _).mono ?_
  rintro e w8 ⟨rfl, hw8⟩
  rw [hw8]
  clear hw8 w8
  clear hpk
  have hsz := HA.out.nm
  have hszt := HA.out.to
  have hA0' : At S w7 d x Dd Dx w7.drew := hA1.go (Below.refl _ _).drew
  have hDm : ∀ W Dx', At S w7 d x Dd Dx' W → _ := fun W Dx' hAt => q_free_d hAt HD.out
  have hXm : ∀ W Dd', At S w7 d x Dd' Dx W → _ := fun W Dd' hAt => q_free_x hAt HX.out
  go_wp2_with fail
  refine (hDm _ _ hA1).mono ?_
  rintro e w10 ⟨rfl, hA10⟩
  go_wp2_with fail
  refine (hXm _ _ hA10).mono ?_
  rintro e w11 ⟨rfl, hA11⟩
  go_wp2
  go_returns
  exact ⟨true, by simp, fun e => rfl, hA11.back hbw⟩

end Go.Proofs.Ytnpomiidkdnebaa
