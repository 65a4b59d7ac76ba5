/- Acts that append, crash and turn. -/
import Derived.Test.YtnpomiidkdnebaaDActA
namespace Go.Proofs.Ytnpomiidkdnebaa
open Go.RowKit
set_option linter.unusedVariables false

set_option maxHeartbeats 4000000 in
set_option maxRecDepth 5000 in
theorem step1_any (a : Ac) (d x : Nat) (Dd Dx : Dsk) (S : Nat → Prop) (w : World) (h : Pair S w d x Dd Dx) (hd : Gd Dd) (hx : Gd Dx) (ha : AcOk S w a) (hk : pk a.kd 11 = 1) :
    Calls Try.prog 24 #[.pointer (some ⟨d, 0, none⟩), .pointer (some ⟨x, 0, none⟩), .agg (acCells a)] w fun e w' => ∃ b, e = .returned (.bool b) ∧ (Dd = Dx → b = true) ∧ At S w d x (after a Dd) (after a Dx) w' := by
  obtain ⟨i0, hi, hz0, hz1, hz2⟩ := info_parts info8
  have hpk := fun W => pk_any a.kd 11 W (by decide) (by decide) ha.kd
  have e1 : ∀ D, after a D = (dAppend D (lst a.nm) a.b).2 := fun D => by simp [after, turned, hk]
  rw [e1, e1]
  rw [hk] at hpk
  have hlt := h.lt
  have hmade : ∀ v7 w7, _ → _ → Begun S w w7 a v7 := fun v7 w7 hb ho => Begun.made S hb ho
  have hown := lent_own w a
  have hbx : Below w.heap.size w ((w.alloc (.cells (acCells a) 48)).alloc (.cells #[] 5)) := ((Below.refl _ w).alloc (Nat.le_refl _) _).alloc (by simp) _
  have hrd := (ha.rd.below hbx).more hbx.size
  have hbl := ha.bl
  have hA0 := ha.A0
  have hl47 := ha.l47
  have hbxc : ∀ i, ((w.alloc (.cells (acCells a) 48)).alloc (.cells #[] 5)).cell? ⟨w.heap.size, i, none⟩ = (acCells a)[i]? := fun i => ((Whole.new w 48 (acCells a)).alloc _).cell i
  have hbx3 := hbxc 3
  have HM := Lib.hid hmade
  have HA := Lib.hid ha
  have HH := Lib.hid h
  have HD := Lib.hid hd
  have HX := Lib.hid hx
  have HBC := Lib.hid (rfl : acCells a = acCells a)
  clear hmade ha h hd hx e1 hk hbx hbxc
  unfold acCells at *
  obtain ⟨kd, nm, to, A, L, c, b, n, Ak, m, ck, ks⟩ := a
  dsimp only at *
  go_enter Try.func24, Try.ntmps24
  go_wp2_with (at_builtin; go_loud (refine app_many _ rfl (.tmp 19) (.tmp 21) 29 rfl (w.heap.size + 1) 5 i0 (.int .u8 0) 1 Try.underlying29 hi hz0 hz1 hz2 rfl _ 0 [] (by simp [Act.eval]) hown A L c _ (c8 b) (by simp [Act.eval]) (by rw [c8_length, hbl]) hrd hA0 (c8_one _) (by unfold maxLen; omega) (by omega) (by simp) ?_))
  intro v7 w7 hown7 hb7
  have hB := HM.out v7 w7 hb7 hown7
  obtain ⟨A7, c7, rfl, hr7, hLc7, hcm7, hA07⟩ := own_open hown7
  have hA1 : At S w7 d x Dd Dx w7 := (HH.out.go hB.below).at_
  have k0 := hB.box.cell 0
  have k1 := hB.box.cell 1
  have k2 := hB.box.cell 2
  have k3 := hB.box.cell 3
  have k4 := hB.box.cell 4
  have k5 := hB.box.cell 5
  unfold acCells at k0 k1 k2 k3 k4 k5
  simp only [List.getElem?_toArray, List.getElem?_cons_zero, List.getElem?_cons_succ] at k0 k1 k2 k3 k4 k5
  have hkb : ∀ W, Outs S w7 W → ∀ i, W.cell? ⟨w.heap.size, i, none⟩ = (acCells ⟨kd, nm, to, A, L, c, b, n, Ak, m, ck, ks⟩)[i]? := fun W ho i => hB.cell hlt ho i
  have hbw := hB.below
  have HKB := Lib.hid hkb
  have HB := Lib.hid hB
  have HO7 := Lib.hid hown7
  clear hkb hb7 hown7 hown hrd hbx3 hB HM
  go_wp2_with fail
  refine (hpk _).mono ?_
  rintro e w8 ⟨rfl, hw8⟩
  rw [hw8]
  clear hw8 w8
  clear hpk
  have hsz := HA.out.nm
  have hszt := HA.out.to
  have hA0' : At S w7 d x Dd Dx w7.drew := hA1.go (Below.refl _ _).drew
  have hbl7 : ∀ ad, A7 = some ad → c8 b ≠ [] → ¬ S ad.block := fun ad e _ hk => by
    subst e
    have h1 := hlt _ hk
    have h2 := (ownRow_block HO7.out (g := ad.block) rfl).1
    omega
  have hrA := (HA.out.rd.below hbw).more hbw.size
  have hLc := HA.out.Lc
  have hDm : ∀ W Dx', At S w7 d x Dd Dx' W → _ := fun W Dx' hAt => q_append_d nm hsz b A7 L c7 hbl hLc7 (by omega) (fun e => (hA07 e).2) hr7 hbl7 hAt HD.out
  have hXm : ∀ W Dd', At S w7 d x Dd' Dx W → _ := fun W Dd' hAt => q_append_x nm hsz b A L c hbl hLc (by omega) hA0 hrA HA.out.bS hAt HX.out
  have hSm : ∀ W Dd' Dx', At S w7 d x Dd' Dx' W → Calls Try.prog 31 #[.slice A7 L c7, .slice A L c] W fun e w' => e = .returned (.bool true) ∧ At S w7 d x Dd' Dx' w' := fun W Dd' Dx' hAt => by
    have h1 := sameBytes_any A7 A b b c7 c W.heap.size W (by omega) (by omega) (slice_in hAt.outs hr7 hbl7) (slice_in hAt.outs hrA HA.out.bS)
    rw [hbl] at h1
    refine h1.mono ?_
    rintro e w' ⟨rfl, q, rfl⟩
    exact ⟨by simp [same8], hAt.go (bDrewN (Below.refl _ _) q)⟩
  have hkc : ∀ w', Outs S w7 w' → w'.cell? ⟨w.heap.size, 1, none⟩ = some (.string nm) ∧ w'.cell? ⟨w.heap.size, 3, none⟩ = some (.slice A L c) := fun w' ho => ⟨HKB.out w' ho 1, HKB.out w' ho 3⟩
  have hkd := hkc w7.drew (Outs.refl _ _).drew
  clear hbl7 hrA hLc hr7 hA07 hLc7 hcm7
  generalize hr1 : (dAppend Dd (lst nm) b).1 = r1 at *
  generalize hr2 : (dAppend Dx (lst nm) b).1 = r2 at *
  have HR1 := Lib.hid hr1
  have HR2 := Lib.hid hr2
  clear hr1 hr2
  cases heq : (r1 == r2)
  · have HE := Lib.hid heq
    go_wp2_with fail
    refine wp_region_G 18 (fun w' => w'.cell? ⟨w.heap.size, 1, none⟩ = some (.string nm) ∧ w'.cell? ⟨w.heap.size, 3, none⟩ = some (.slice A L c)) (by kernel_rfl) (by kernel_rfl) hkd (fun hSS hst => ?_)
    refine wpAnyG_take (i := 0) (v := ?_) rfl (by kernel_rfl) hst (by kernel_rfl) (by kernel_rfl) (fun _ _ _ h => h) hSS (Or.inl ⟨by rfl, ?_⟩) (fun hst2 => ?_)
    rotate_left
    · (intro w hSw; (try dsimp only at hSw); go_simp; try (with_reducible rfl))
    clear hst; have hst := hst2; clear hst2
    try simp only [Act.put, List.setIfInBounds_toArray, List.set_cons_zero, List.set_cons_succ]
    refine wpAnyG_take (i := 1) (v := ?_) rfl (by kernel_rfl) hst (by kernel_rfl) (by kernel_rfl) (fun _ _ _ h => h) hSS (Or.inl ⟨by rfl, ?_⟩) (fun hst2 => ?_)
    rotate_left
    · (intro w hSw; (try dsimp only at hSw); go_simp; try (with_reducible rfl))
    clear hst; have hst := hst2; clear hst2
    try simp only [Act.put, List.setIfInBounds_toArray, List.set_cons_zero, List.set_cons_succ]
    refine wpAnyG_take (i := 2) (v := ?_) rfl (by kernel_rfl) hst (by kernel_rfl) (by kernel_rfl) (fun _ _ _ h => h) hSS (Or.inl ⟨by rfl, ?_⟩) (fun hst2 => ?_)
    rotate_left
    · (intro w hSw; (try dsimp only at hSw); go_simp; try (with_reducible rfl))
    clear hst; have hst := hst2; clear hst2
    try simp only [Act.put, List.setIfInBounds_toArray, List.set_cons_zero, List.set_cons_succ]
    refine wpAnyG_take (i := 3) (v := ?_) rfl (by kernel_rfl) hst (by kernel_rfl) (by kernel_rfl) (fun _ _ _ h => h) hSS (Or.inl ⟨by rfl, ?_⟩) (fun hst2 => ?_)
    rotate_left
    · (intro w hSw; (try dsimp only at hSw); go_simp; try (with_reducible rfl))
    clear hst; have hst := hst2; clear hst2
    try simp only [Act.put, List.setIfInBounds_toArray, List.set_cons_zero, List.set_cons_succ]
    refine wpAnyG_take (i := 5) (v := ?_) rfl (by kernel_rfl) hst (by kernel_rfl) (by kernel_rfl) (fun _ _ _ h => h) hSS (Or.inl ⟨by rfl, ?_⟩) (fun hst2 => ?_)
    rotate_left
    · (intro w hSw; (try dsimp only at hSw); go_simp; try (with_reducible rfl))
    clear hst; have hst := hst2; clear hst2
    try simp only [Act.put, List.setIfInBounds_toArray, List.set_cons_zero, List.set_cons_succ]
    refine wpAnyG_take (i := 6) (v := ?_) rfl (by kernel_rfl) hst (by kernel_rfl) (by kernel_rfl) (fun _ _ _ h => h) hSS (Or.inl ⟨by rfl, ?_⟩) (fun hst2 => ?_)
    rotate_left
    · (intro w hSw; (try dsimp only at hSw); go_simp; try (with_reducible rfl))
    clear hst; have hst := hst2; clear hst2
    try simp only [Act.put, List.setIfInBounds_toArray, List.set_cons_zero, List.set_cons_succ]
    refine wpAnyG_take (i := 7) (v := ?_) rfl (by kernel_rfl) hst (by kernel_rfl) (by kernel_rfl) (fun _ _ _ h => h) hSS (Or.inl ⟨by rfl, ?_⟩) (fun hst2 => ?_)
    rotate_left
    · (intro w hSw; (try dsimp only at hSw); go_simp; try (with_reducible rfl))
    clear hst; have hst := hst2; clear hst2
    try simp only [Act.put, List.setIfInBounds_toArray, List.set_cons_zero, List.set_cons_succ]
    refine wpAnyG_take (i := 8) (v := ?_) rfl (by kernel_rfl) hst (by kernel_rfl) (by kernel_rfl) (fun _ _ _ h => h) hSS (Or.inl ⟨by rfl, ?_⟩) (fun hst2 => ?_)
    rotate_left
    · (intro w hSw; (try dsimp only at hSw); go_simp; try (with_reducible rfl))
    clear hst; have hst := hst2; clear hst2
    try simp only [Act.put, List.setIfInBounds_toArray, List.set_cons_zero, List.set_cons_succ]
    refine wpAnyG_take (i := 9) (v := ?_) rfl (by kernel_rfl) hst (by kernel_rfl) (by kernel_rfl) (fun _ _ _ h => h) hSS (Or.inl ⟨by rfl, ?_⟩) (fun hst2 => ?_)
    rotate_left
    · (intro w hSw; (try dsimp only at hSw); go_simp; try (with_reducible rfl))
    clear hst; have hst := hst2; clear hst2
    try simp only [Act.put, List.setIfInBounds_toArray, List.set_cons_zero, List.set_cons_succ]
    refine wpAnyG_one (i := 4) (by kernel_rfl) rfl (by kernel_rfl) hst (fun K hK => ?_)
    go_simp
    refine (hDm _ _ hA0').mono ?_
    rintro e w10 ⟨rfl, hA10⟩
    have hc10 := hkc _ hA10.outs
    go_wp2_with fail
    refine hK.out _ _ hc10 (fun hSS2 hst2 => ?_)
    clear hst hK K hSS
    have hst := hst2
    have hSS := hSS2
    clear hst2 hSS2
    try simp only [Act.put, List.setIfInBounds_toArray, List.set_cons_zero, List.set_cons_succ]
    refine wpAnyG_one (i := 10) (by kernel_rfl) rfl (by kernel_rfl) hst (fun K hK => ?_)
    go_simp
    refine (hXm _ _ hA10).mono ?_
    rintro e w11 ⟨rfl, hA11⟩
    have hc11 := hkc _ hA11.outs
    go_wp2_with fail
    refine hK.out _ _ hc11 (fun hSS2 hst2 => ?_)
    clear hst hK K hSS
    have hst := hst2
    have hSS := hSS2
    clear hst2 hSS2
    try simp only [Act.put, List.setIfInBounds_toArray, List.set_cons_zero, List.set_cons_succ]
    refine wpAnyG_take (i := 11) (v := ?_) rfl (by kernel_rfl) hst (by kernel_rfl) (by kernel_rfl) (fun _ _ _ h => h) hSS (Or.inl ⟨by rfl, ?_⟩) (fun hst2 => ?_)
    rotate_left
    · (intro w hSw; (try dsimp only at hSw); go_simp; try (with_reducible rfl))
    clear hst; have hst := hst2; clear hst2
    try simp only [Act.put, List.setIfInBounds_toArray, List.set_cons_zero, List.set_cons_succ]
    refine wpAnyG_take (i := 12) (v := ?_) rfl (by kernel_rfl) hst (by kernel_rfl) (by kernel_rfl) (fun _ _ _ h => h) hSS (Or.inl ⟨by rfl, ?_⟩) (fun hst2 => ?_)
    rotate_left
    · (intro w hSw; (try dsimp only at hSw); go_simp; try (with_reducible rfl))
    clear hst; have hst := hst2; clear hst2
    try simp only [Act.put, List.setIfInBounds_toArray, List.set_cons_zero, List.set_cons_succ]
    refine wpAnyG_take (i := 13) (v := undef) rfl (by kernel_rfl) hst (by kernel_rfl) (by kernel_rfl) (fun _ _ _ h => h) hSS (Or.inr ⟨by rfl, rfl⟩) (fun hst2 => ?_)
    clear hst; have hst := hst2; clear hst2
    try simp only [Act.put, List.setIfInBounds_toArray, List.set_cons_zero, List.set_cons_succ]
    refine wpAnyG_take (i := 14) (v := undef) rfl (by kernel_rfl) hst (by kernel_rfl) (by kernel_rfl) (fun _ _ _ h => h) hSS (Or.inr ⟨by rfl, rfl⟩) (fun hst2 => ?_)
    clear hst; have hst := hst2; clear hst2
    try simp only [Act.put, List.setIfInBounds_toArray, List.set_cons_zero, List.set_cons_succ]
    refine wpAnyG_take (i := 15) (v := undef) rfl (by kernel_rfl) hst (by kernel_rfl) (by kernel_rfl) (fun _ _ _ h => h) hSS (Or.inr ⟨by rfl, rfl⟩) (fun hst2 => ?_)
    clear hst; have hst := hst2; clear hst2
    try simp only [Act.put, List.setIfInBounds_toArray, List.set_cons_zero, List.set_cons_succ]
    refine wpAnyG_take (i := 16) (v := undef) rfl (by kernel_rfl) hst (by kernel_rfl) (by kernel_rfl) (fun _ _ _ h => h) hSS (Or.inr ⟨by rfl, rfl⟩) (fun hst2 => ?_)
    clear hst; have hst := hst2; clear hst2
    try simp only [Act.put, List.setIfInBounds_toArray, List.set_cons_zero, List.set_cons_succ]
    refine wpAnyG_take (i := 17) (v := ?_) rfl (by kernel_rfl) hst (by kernel_rfl) (by kernel_rfl) (fun _ _ _ h => h) hSS (Or.inl ⟨by rfl, ?_⟩) (fun hst2 => ?_)
    rotate_left
    · (intro w hSw; (try dsimp only at hSw); go_simp; try (with_reducible rfl))
    clear hst; have hst := hst2; clear hst2
    try simp only [Act.put, List.setIfInBounds_toArray, List.set_cons_zero, List.set_cons_succ]
    refine wpAnyG_last (i := 18) (by kernel_rfl) rfl (by kernel_rfl) (by kernel_rfl) (fun K hK => ?_)
    go_simp
    refine hK.out _ _ ?_
    clear hK K hst hSS
    all_goals (
      go_wp2
      go_returns
      exact ⟨false, by simp, fun e => by subst e; have h1 := HR1.out.symm.trans HR2.out; have h2 := HE.out; simp [h1] at h2, At.back (by assumption) hbw⟩)
  · have HE := Lib.hid heq
    go_wp2_with fail
    go_region_held3 (fun w' => w'.cell? ⟨w.heap.size, 1, none⟩ = some (.string nm) ∧ w'.cell? ⟨w.heap.size, 3, none⟩ = some (.slice A L c))
      (first | assumption | exact hkd)
      (first
        | (go_at_call 11; refine (hDm _ _ (by assumption)).mono ?_; rintro e w10 ⟨rfl, hA10⟩; have hc10 := hkc _ hA10.outs)
        | (go_at_call 50; refine (hXm _ _ (by assumption)).mono ?_; rintro e w11 ⟨rfl, hA11⟩; have hc11 := hkc _ hA11.outs)
        | (go_at_call 31; refine (hSm _ _ _ (by assumption)).mono ?_; rintro e w12 ⟨rfl, hA12⟩; have hc12 := hkc _ hA12.outs))
    all_goals (
      go_wp2
      go_returns
      exact ⟨true, by simp, fun e => rfl, At.back (by assumption) hbw⟩)

theorem infoI : (Try.prog.info? 3).map (fun i => (i.zero, i.size, i.bytes)) = some (some (.int .i64 0), 1, 8) := by kernel_rfl
theorem cN_one (a : List Int) : ∀ u ∈ cN a, u.oneCell' = true := by
  intro u hu
  obtain ⟨_, _, rfl⟩ := List.mem_map.1 hu
  rfl

set_option maxHeartbeats 4000000 in
set_option maxRecDepth 5000 in
theorem step7_any (a : Ac) (d x : Nat) (Dd Dx : Dsk) (S : Nat → Prop) (w : World) (h : Pair S w d x Dd Dx) (hd : Gd Dd) (hx : Gd Dx) (ha : AcOk S w a) (hk : pk a.kd 11 = 7) :
    Calls Try.prog 24 #[.pointer (some ⟨d, 0, none⟩), .pointer (some ⟨x, 0, none⟩), .agg (acCells a)] w fun e w' => ∃ b, e = .returned (.bool b) ∧ (Dd = Dx → b = true) ∧ At S w d x (after a Dd) (after a Dx) w' := by
  obtain ⟨i0, hi, hz0, hz1, hz2⟩ := info_parts info8
  have hpk := fun W => pk_any a.kd 11 W (by decide) (by decide) ha.kd
  have e1 : ∀ D, after a D = (dCrash D a.ks).2 := fun D => by simp [after, turned, hk]
  rw [e1, e1]
  rw [hk] at hpk
  have hlt := h.lt
  have hmade : ∀ v7 w7, _ → _ → Begun S w w7 a v7 := fun v7 w7 hb ho => Begun.made S hb ho
  have hown := lent_own w a
  have hbx : Below w.heap.size w ((w.alloc (.cells (acCells a) 48)).alloc (.cells #[] 5)) := ((Below.refl _ w).alloc (Nat.le_refl _) _).alloc (by simp) _
  have hrd := (ha.rd.below hbx).more hbx.size
  have hbl := ha.bl
  have hA0 := ha.A0
  have hl47 := ha.l47
  have hbxc : ∀ i, ((w.alloc (.cells (acCells a) 48)).alloc (.cells #[] 5)).cell? ⟨w.heap.size, i, none⟩ = (acCells a)[i]? := fun i => ((Whole.new w 48 (acCells a)).alloc _).cell i
  have hbx3 := hbxc 3
  have HM := Lib.hid hmade
  have HA := Lib.hid ha
  have HH := Lib.hid h
  have HD := Lib.hid hd
  have HX := Lib.hid hx
  have HBC := Lib.hid (rfl : acCells a = acCells a)
  clear hmade ha h hd hx e1 hk hbx hbxc
  unfold acCells at *
  obtain ⟨kd, nm, to, A, L, c, b, n, Ak, m, ck, ks⟩ := a
  dsimp only at *
  go_enter Try.func24, Try.ntmps24
  go_wp2_with (at_builtin; go_loud (refine app_many _ rfl (.tmp 19) (.tmp 21) 29 rfl (w.heap.size + 1) 5 i0 (.int .u8 0) 1 Try.underlying29 hi hz0 hz1 hz2 rfl _ 0 [] (by simp [Act.eval]) hown A L c _ (c8 b) (by simp [Act.eval]) (by rw [c8_length, hbl]) hrd hA0 (c8_one _) (by unfold maxLen; omega) (by omega) (by simp) ?_))
  intro v7 w7 hown7 hb7
  have hB := HM.out v7 w7 hb7 hown7
  obtain ⟨A7, c7, rfl, hr7, hLc7, hcm7, hA07⟩ := own_open hown7
  have hA1 : At S w7 d x Dd Dx w7 := (HH.out.go hB.below).at_
  have k0 := hB.box.cell 0
  have k1 := hB.box.cell 1
  have k2 := hB.box.cell 2
  have k3 := hB.box.cell 3
  have k4 := hB.box.cell 4
  have k5 := hB.box.cell 5
  unfold acCells at k0 k1 k2 k3 k4 k5
  simp only [List.getElem?_toArray, List.getElem?_cons_zero, List.getElem?_cons_succ] at k0 k1 k2 k3 k4 k5
  have hkb : ∀ W, Outs S w7 W → ∀ i, W.cell? ⟨w.heap.size, i, none⟩ = (acCells ⟨kd, nm, to, A, L, c, b, n, Ak, m, ck, ks⟩)[i]? := fun W ho i => hB.cell hlt ho i
  have hbw := hB.below
  have HKB := Lib.hid hkb
  have HB := Lib.hid hB
  have HO7 := Lib.hid hown7
  clear hkb hb7 hown7 hown hrd hbx3 hB HM
  go_wp2_with fail
  refine (hpk _).mono ?_
  rintro e w8 ⟨rfl, hw8⟩
  rw [hw8]
  clear hw8 w8
  clear hpk
  have hsz := HA.out.nm
  have hszt := HA.out.to
  have hA0' : At S w7 d x Dd Dx w7.drew := hA1.go (Below.refl _ _).drew
  obtain ⟨j0, hj, hj0, hj1, hj2⟩ := info_parts infoI
  have hkr := (HA.out.kr.below hbw).more hbw.size
  have hkl : (cN ks).length = m * 1 := by rw [cN_length, Nat.mul_one]; exact HA.out.kl
  have hkl2 := HA.out.kl
  have hmc := HA.out.mc
  have hm44 : m ≤ 17592186044416 := HA.out.m44
  have hK0 := HA.out.K0
  have hb14 : Below w7.heap.size w7 (w7.alloc (.cells #[] 3)).drew := ((Below.refl _ w7).alloc (Nat.le_refl _) _).drew
  have hown14 : (w7.alloc (.cells #[] 3)).drew.ownsRow w7.heap.size 3 1 (.slice (some ⟨w7.heap.size, 0, none⟩) 0 0) 0 [] := World.ownsRow_made (base := w7.heap.size) (e := 3) (size := 1) w7 #[] 0 (Nat.le_refl _) (by unfold maxLen; omega) rfl
  have hS : ∀ w', Below w7.heap.size w7 w' → w'.cell? ⟨w.heap.size, 5, none⟩ = some (.slice Ak m ck) := fun w' hb => (hb.cell (p := ⟨w.heap.size, 5, none⟩) HB.out.box.lt).trans k5
  have hk64 : ∀ z ∈ ks, z ≤ 9223372036854775807 := fun z hz => (HA.out.kb z hz).2
  go_wp2_with fail
  refine wp_region_G 11 (fun w' => w'.cell? ⟨w.heap.size, 5, none⟩ = some (.slice Ak m ck)) (by kernel_rfl) (by kernel_rfl) k5 (fun hSS hst => ?_)
  refine wpAnyG_take (i := 0) (v := ?_) rfl (by kernel_rfl) hst (by kernel_rfl) (by kernel_rfl) (fun _ _ _ h => h) hSS (Or.inl ⟨by rfl, ?_⟩) (fun hst2 => ?_)
  rotate_left
  · (intro w hSw; (try dsimp only at hSw); go_simp; try (with_reducible rfl))
  clear hst; have hst := hst2; clear hst2
  try simp only [Act.put, List.setIfInBounds_toArray, List.set_cons_zero, List.set_cons_succ]
  refine wpAnyG_take (i := 2) (v := ?_) rfl (by kernel_rfl) hst (by kernel_rfl) (by kernel_rfl) (fun _ _ _ h => h) hSS (Or.inl ⟨by rfl, ?_⟩) (fun hst2 => ?_)
  rotate_left
  · (intro w hSw; (try dsimp only at hSw); go_simp; try (with_reducible rfl))
  clear hst; have hst := hst2; clear hst2
  try simp only [Act.put, List.setIfInBounds_toArray, List.set_cons_zero, List.set_cons_succ]
  refine wpAnyG_take (i := 3) (v := ?_) rfl (by kernel_rfl) hst (by kernel_rfl) (by kernel_rfl) (fun _ _ _ h => h) hSS (Or.inl ⟨by rfl, ?_⟩) (fun hst2 => ?_)
  rotate_left
  · (intro w hSw; (try dsimp only at hSw); go_simp; try (with_reducible rfl))
  clear hst; have hst := hst2; clear hst2
  try simp only [Act.put, List.setIfInBounds_toArray, List.set_cons_zero, List.set_cons_succ]
  refine wpAnyG_take (i := 6) (v := ?_) rfl (by kernel_rfl) hst (by kernel_rfl) (by kernel_rfl) (fun _ _ _ h => h) hSS (Or.inl ⟨by rfl, ?_⟩) (fun hst2 => ?_)
  rotate_left
  · (intro w hSw; (try dsimp only at hSw); go_simp; try (with_reducible rfl))
  clear hst; have hst := hst2; clear hst2
  try simp only [Act.put, List.setIfInBounds_toArray, List.set_cons_zero, List.set_cons_succ]
  refine wpAnyG_take (i := 7) (v := ?_) rfl (by kernel_rfl) hst (by kernel_rfl) (by kernel_rfl) (fun _ _ _ h => h) hSS (Or.inl ⟨by rfl, ?_⟩) (fun hst2 => ?_)
  rotate_left
  · (intro w hSw; (try dsimp only at hSw); go_simp; try (with_reducible rfl))
  clear hst; have hst := hst2; clear hst2
  try simp only [Act.put, List.setIfInBounds_toArray, List.set_cons_zero, List.set_cons_succ]
  refine wpAnyG_take (i := 8) (v := ?_) rfl (by kernel_rfl) hst (by kernel_rfl) (by kernel_rfl) (fun _ _ _ h => h) hSS (Or.inl ⟨by rfl, ?_⟩) (fun hst2 => ?_)
  rotate_left
  · (intro w hSw; (try dsimp only at hSw); go_simp; try (with_reducible rfl))
  clear hst; have hst := hst2; clear hst2
  try simp only [Act.put, List.setIfInBounds_toArray, List.set_cons_zero, List.set_cons_succ]
  refine wpAnyG_one (i := 1) (by kernel_rfl) rfl (by kernel_rfl) hst (fun K hK => ?_)
  go_simp
  refine hK.out _ _ (hS _ hb14) (fun hSS2 hst2 => ?_)
  clear hst hK K hSS
  have hst := hst2
  have hSS := hSS2
  clear hst2 hSS2
  try simp only [Act.put, List.setIfInBounds_toArray, List.set_cons_zero, List.set_cons_succ]
  refine wpAnyG_one (i := 4) (by kernel_rfl) rfl (by kernel_rfl) hst (fun K hK => ?_)
  refine step_app_wide rfl (.tmp 115) (.tmp 117) 31 rfl 3 j0 _ 1 8 rfl hj hj0 hj1 hj2 rfl (by decide) w7.heap.size (.slice (some ⟨w7.heap.size, 0, none⟩) 0 0) 0 [] rfl hown14 Ak m ck w7.heap.size (cN ks) rfl hkl (hkr.below hb14) (fun e => by have := hK0 e; exact ⟨by omega, this⟩) (cN_one _) (by unfold maxLen; omega) (by omega) hb14.size ?_
  intro v9 w9 hown9 hg9 hb9 _
  have hb9' := hb14.trans hb9
  refine hK.out _ _ (hS _ hb9') (fun hSS2 hst2 => ?_)
  clear hst hK K hSS
  have hst := hst2
  have hSS := hSS2
  clear hst2 hSS2
  try simp only [Act.put, List.setIfInBounds_toArray, List.set_cons_zero, List.set_cons_succ]
  obtain ⟨A9, c9, rfl, hr9, hLc9, hcm9, hA09⟩ := own_open hown9
  have hbw9 : Below w.heap.size w w9 := hbw.trans (hb9'.mono hbw.size)
  have hA9 : At S w9 d x Dd Dx w9 := (HH.out.go hbw9).at_
  have hr9' : Rds w9 w9.heap.size A9 (cN ks) := by rw [List.nil_append] at hr9; exact hr9
  have hn9 : ∀ ad, A9 = some ad → cN ks ≠ [] → ¬ S ad.block := fun ad e _ hk => by
    subst e
    have h1 := hlt _ hk
    have h2 := (ownRow_block hown9 (g := ad.block) rfl).1
    have h3 := hbw.size
    omega
  have hrx := (HA.out.kr.below hbw9).more hbw9.size
  have hDm := q_crash_d A9 ks (0 + m) c9 (by rw [hkl2]; omega) (by omega) hk64 hr9' hn9 hA9 HD.out
  have hXm : ∀ W Dd', At S w9 d x Dd' Dx W → _ := fun W Dd' hAt => q_crash_x Ak ks m ck hkl2 (by omega) hk64 hrx HA.out.kS hAt HX.out
  have hkc : ∀ w', Outs S w9 w' → w'.cell? ⟨w.heap.size, 5, none⟩ = some (.slice Ak m ck) := fun w' ho => (ho.cell (p := ⟨w.heap.size, 5, none⟩) (Nat.lt_of_lt_of_le HB.out.box.lt hb9'.size) (fun hk => Nat.lt_irrefl _ (hlt _ hk))).trans (hS _ hb9')
  refine wpAnyG_one (i := 5) (by kernel_rfl) rfl (by kernel_rfl) hst (fun K hK => ?_)
  simp only [Nat.zero_add] at hDm
  go_simp
  refine hDm.mono ?_
  rintro e w10 ⟨rfl, hA10⟩
  have hc10 := hkc _ hA10.outs
  go_wp2_with fail
  refine hK.out _ _ hc10 (fun hSS2 hst2 => ?_)
  clear hst hK K hSS
  have hst := hst2
  have hSS := hSS2
  clear hst2 hSS2
  try simp only [Act.put, List.setIfInBounds_toArray, List.set_cons_zero, List.set_cons_succ]
  refine wpAnyG_one (i := 9) (by kernel_rfl) rfl (by kernel_rfl) hst (fun K hK => ?_)
  go_simp
  refine (hXm _ _ hA10).mono ?_
  rintro e w11 ⟨rfl, hA11⟩
  have hc11 := hkc _ hA11.outs
  go_wp2_with fail
  refine hK.out _ _ hc11 (fun hSS2 hst2 => ?_)
  clear hst hK K hSS
  have hst := hst2
  have hSS := hSS2
  clear hst2 hSS2
  try simp only [Act.put, List.setIfInBounds_toArray, List.set_cons_zero, List.set_cons_succ]
  refine wpAnyG_take (i := 10) (v := ?_) rfl (by kernel_rfl) hst (by kernel_rfl) (by kernel_rfl) (fun _ _ _ h => h) hSS (Or.inl ⟨by rfl, ?_⟩) (fun hst2 => ?_)
  rotate_left
  · (intro w hSw; (try dsimp only at hSw); go_simp; try (with_reducible rfl))
  clear hst; have hst := hst2; clear hst2
  try simp only [Act.put, List.setIfInBounds_toArray, List.set_cons_zero, List.set_cons_succ]
  refine wpAnyG_last (i := 11) (by kernel_rfl) rfl (by kernel_rfl) (by kernel_rfl) (fun K hK => ?_)
  go_simp
  refine hK.out _ _ ?_
  clear hK K hst hSS
  go_wp2
  go_returns
  exact ⟨((dCrash Dd ks).1 == (dCrash Dx ks).1), by simp, fun e => by subst e; simp, hA11.back hbw9⟩

set_option maxHeartbeats 4000000 in
set_option maxRecDepth 5000 in
theorem step8_any (a : Ac) (d x : Nat) (Dd Dx : Dsk) (S : Nat → Prop) (w : World) (h : Pair S w d x Dd Dx) (hd : Gd Dd) (hx : Gd Dx) (ha : AcOk S w a) (hk : pk a.kd 11 = 8) :
    Calls Try.prog 24 #[.pointer (some ⟨d, 0, none⟩), .pointer (some ⟨x, 0, none⟩), .agg (acCells a)] w fun e w' => ∃ b, e = .returned (.bool b) ∧ (Dd = Dx → b = true) ∧ At S w d x (after a Dd) (after a Dx) w' := by
  obtain ⟨i0, hi, hz0, hz1, hz2⟩ := info_parts info8
  have hpk := fun W => pk_any a.kd 11 W (by decide) (by decide) ha.kd
  have e1 : ∀ D, after a D = (dTurn (xr (bits1 a)) D (lst a.nm) a.n).2 := fun D => by simp [after, turned, hk]
  rw [e1, e1]
  rw [hk] at hpk
  have hlt := h.lt
  have hmade : ∀ v7 w7, _ → _ → Begun S w w7 a v7 := fun v7 w7 hb ho => Begun.made S hb ho
  have hown := lent_own w a
  have hbx : Below w.heap.size w ((w.alloc (.cells (acCells a) 48)).alloc (.cells #[] 5)) := ((Below.refl _ w).alloc (Nat.le_refl _) _).alloc (by simp) _
  have hrd := (ha.rd.below hbx).more hbx.size
  have hbl := ha.bl
  have hA0 := ha.A0
  have hl47 := ha.l47
  have hbxc : ∀ i, ((w.alloc (.cells (acCells a) 48)).alloc (.cells #[] 5)).cell? ⟨w.heap.size, i, none⟩ = (acCells a)[i]? := fun i => ((Whole.new w 48 (acCells a)).alloc _).cell i
  have hbx3 := hbxc 3
  have HM := Lib.hid hmade
  have HA := Lib.hid ha
  have HH := Lib.hid h
  have HD := Lib.hid hd
  have HX := Lib.hid hx
  have HBC := Lib.hid (rfl : acCells a = acCells a)
  clear hmade ha h hd hx e1 hk hbx hbxc
  unfold acCells at *
  obtain ⟨kd, nm, to, A, L, c, b, n, Ak, m, ck, ks⟩ := a
  dsimp only at *
  go_enter Try.func24, Try.ntmps24
  go_wp2_with (at_builtin; go_loud (refine app_many _ rfl (.tmp 19) (.tmp 21) 29 rfl (w.heap.size + 1) 5 i0 (.int .u8 0) 1 Try.underlying29 hi hz0 hz1 hz2 rfl _ 0 [] (by simp [Act.eval]) hown A L c _ (c8 b) (by simp [Act.eval]) (by rw [c8_length, hbl]) hrd hA0 (c8_one _) (by unfold maxLen; omega) (by omega) (by simp) ?_))
  intro v7 w7 hown7 hb7
  have hB := HM.out v7 w7 hb7 hown7
  obtain ⟨A7, c7, rfl, hr7, hLc7, hcm7, hA07⟩ := own_open hown7
  have hA1 : At S w7 d x Dd Dx w7 := (HH.out.go hB.below).at_
  have k0 := hB.box.cell 0
  have k1 := hB.box.cell 1
  have k2 := hB.box.cell 2
  have k3 := hB.box.cell 3
  have k4 := hB.box.cell 4
  have k5 := hB.box.cell 5
  unfold acCells at k0 k1 k2 k3 k4 k5
  simp only [List.getElem?_toArray, List.getElem?_cons_zero, List.getElem?_cons_succ] at k0 k1 k2 k3 k4 k5
  have hkb : ∀ W, Outs S w7 W → ∀ i, W.cell? ⟨w.heap.size, i, none⟩ = (acCells ⟨kd, nm, to, A, L, c, b, n, Ak, m, ck, ks⟩)[i]? := fun W ho i => hB.cell hlt ho i
  have hbw := hB.below
  have HKB := Lib.hid hkb
  have HB := Lib.hid hB
  have HO7 := Lib.hid hown7
  clear hkb hb7 hown7 hown hrd hbx3 hB HM
  go_wp2_with fail
  refine (hpk _).mono ?_
  rintro e w8 ⟨rfl, hw8⟩
  rw [hw8]
  clear hw8 w8
  clear hpk
  have hsz := HA.out.nm
  have hszt := HA.out.to
  have hA0' : At S w7 d x Dd Dx w7.drew := hA1.go (Below.refl _ _).drew
  cases b with
  | nil =>
    obtain rfl : L = 0 := by simpa using hbl.symm
    have hDm : ∀ W Dx', At S w7 d x Dd Dx' W → _ := fun W Dx' hAt => q_turn_d nm hsz n 1 hAt HD.out
    have hXm : ∀ W Dd', At S w7 d x Dd' Dx W → _ := fun W Dd' hAt => q_turn_x nm hsz n 1 hAt HX.out
    have hkc : ∀ w', Outs S w7 w' → w'.cell? ⟨w.heap.size, 1, none⟩ = some (.string nm) ∧ w'.cell? ⟨w.heap.size, 4, none⟩ = some (.int .i64 n) := fun w' ho => ⟨HKB.out w' ho 1, HKB.out w' ho 4⟩
    have hkd := hkc w7.drew (Outs.refl _ _).drew
    go_wp2_with fail
    go_region_held3 (fun w' => w'.cell? ⟨w.heap.size, 1, none⟩ = some (.string nm) ∧ w'.cell? ⟨w.heap.size, 4, none⟩ = some (.int .i64 n))
      (first | assumption | exact hkd)
      (first
        | (go_at_call 22; refine (hDm _ _ (by assumption)).mono ?_; rintro e w10 ⟨rfl, hA10⟩; have hc10 := hkc _ hA10.outs)
        | (go_at_call 57; refine (hXm _ _ (by assumption)).mono ?_; rintro e w11 ⟨rfl, hA11⟩; have hc11 := hkc _ hA11.outs))
    all_goals (
      go_wp2
      go_returns
      exact ⟨((dTurn (xr 1) Dd (lst nm) n).1 == (dTurn (xr 1) Dx (lst nm) n).1), by simp, fun e => by subst e; simp, At.back (by assumption) hbw⟩)
  | cons z bs =>
    obtain ⟨L', rfl⟩ : ∃ L', L = L' + 1 := ⟨bs.length, by simpa using hbl.symm⟩
    have hrA := (HA.out.rd.below hbw).more hbw.size
    obtain ⟨ad, rfl, _, hcz⟩ := hrA.at_ (k := 0) (u := .int .u8 z) rfl
    have hcz' : w7.cell? ad = some (.int .u8 z) := by simpa [Addr.add] using hcz
    have hDm : ∀ W Dx', At S w7 d x Dd Dx' W → _ := fun W Dx' hAt => q_turn_d nm hsz n z hAt HD.out
    have hXm : ∀ W Dd', At S w7 d x Dd' Dx W → _ := fun W Dd' hAt => q_turn_x nm hsz n z hAt HX.out
    have hkc : ∀ w', Outs S w7 w' → w'.cell? ⟨w.heap.size, 1, none⟩ = some (.string nm) ∧ w'.cell? ⟨w.heap.size, 4, none⟩ = some (.int .i64 n) := fun w' ho => ⟨HKB.out w' ho 1, HKB.out w' ho 4⟩
    have hkd := hkc w7.drew (Outs.refl _ _).drew
    go_wp2_with fail
    go_region_held3 (fun w' => w'.cell? ⟨w.heap.size, 1, none⟩ = some (.string nm) ∧ w'.cell? ⟨w.heap.size, 4, none⟩ = some (.int .i64 n))
      (first | assumption | exact hkd)
      (first
        | (go_at_call 22; refine (hDm _ _ (by assumption)).mono ?_; rintro e w10 ⟨rfl, hA10⟩; have hc10 := hkc _ hA10.outs)
        | (go_at_call 57; refine (hXm _ _ (by assumption)).mono ?_; rintro e w11 ⟨rfl, hA11⟩; have hc11 := hkc _ hA11.outs))
    all_goals (
      go_wp2
      go_returns
      exact ⟨((dTurn (xr z) Dd (lst nm) n).1 == (dTurn (xr z) Dx (lst nm) n).1), by simp, fun e => by subst e; simp, At.back (by assumption) hbw⟩)

end Go.Proofs.Ytnpomiidkdnebaa
