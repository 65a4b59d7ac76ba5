/- Acts that read. -/
import Derived.Test.YtnpomiidkdnebaaDActC
namespace Go.Proofs.Ytnpomiidkdnebaa
open Go.RowKit
set_option linter.unusedVariables false

theorem own_below' {w w' : World} {B k n : Nat} {e : TypeId} {u : Value} {xs : List Value} (h : w.ownsRow B e k u n xs) (hb : Below w.heap.size w w') : w'.ownsRow B e k u n xs :=
  ownRow_block_kept h fun g hg => hb.block g (ownRow_block h hg).2.1


set_option maxHeartbeats 4000000 in
set_option maxRecDepth 5000 in
theorem step10_any (a : Ac) (d x : Nat) (Dd Dx : Dsk) (S : Nat → Prop) (w : World) (h : Pair S w d x Dd Dx) (hd : Gd Dd) (hx : Gd Dx) (ha : AcOk S w a) (hk : pk a.kd 11 = 10) :
    Calls Try.prog 24 #[.pointer (some ⟨d, 0, none⟩), .pointer (some ⟨x, 0, none⟩), .agg (acCells a)] w fun e w' => ∃ b, e = .returned (.bool b) ∧ (Dd = Dx → b = true) ∧ At S w d x (after a Dd) (after a Dx) w' := by
  obtain ⟨i0, hi, hz0, hz1, hz2⟩ := info_parts info8
  have hpk := fun W => pk_any a.kd 11 W (by decide) (by decide) ha.kd
  have e1 : ∀ D, after a D = D := fun D => by simp [after, turned, hk]
  rw [e1, e1]
  rw [hk] at hpk
  have hlt := h.lt
  have hmade : ∀ v7 w7, _ → _ → Begun S w w7 a v7 := fun v7 w7 hb ho => Begun.made S hb ho
  have hown := lent_own w a
  have hbx : Below w.heap.size w ((w.alloc (.cells (acCells a) 48)).alloc (.cells #[] 5)) := ((Below.refl _ w).alloc (Nat.le_refl _) _).alloc (by simp) _
  have hrd := (ha.rd.below hbx).more hbx.size
  have hbl := ha.bl
  have hA0 := ha.A0
  have hl47 := ha.l47
  have hbxc : ∀ i, ((w.alloc (.cells (acCells a) 48)).alloc (.cells #[] 5)).cell? ⟨w.heap.size, i, none⟩ = (acCells a)[i]? := fun i => ((Whole.new w 48 (acCells a)).alloc _).cell i
  have hbx3 := hbxc 3
  have HM := Lib.hid hmade
  have HA := Lib.hid ha
  have HH := Lib.hid h
  have HD := Lib.hid hd
  have HX := Lib.hid hx
  have HBC := Lib.hid (rfl : acCells a = acCells a)
  clear hmade ha h hd hx e1 hk hbx hbxc
  unfold acCells at *
  obtain ⟨kd, nm, to, A, L, c, b, n, Ak, m, ck, ks⟩ := a
  dsimp only at *
  go_enter Try.func24, Try.ntmps24
  go_wp2_with (at_builtin; go_loud (refine app_many _ rfl (.tmp 19) (.tmp 21) 29 rfl (w.heap.size + 1) 5 i0 (.int .u8 0) 1 Try.underlying29 hi hz0 hz1 hz2 rfl _ 0 [] (by simp [Act.eval]) hown A L c _ (c8 b) (by simp [Act.eval]) (by rw [c8_length, hbl]) hrd hA0 (c8_one _) (by unfold maxLen; omega) (by omega) (by simp) ?_))
  intro v7 w7 hown7 hb7
  have hB := HM.out v7 w7 hb7 hown7
  obtain ⟨A7, c7, rfl, hr7, hLc7, hcm7, hA07⟩ := own_open hown7
  have hA1 : At S w7 d x Dd Dx w7 := (HH.out.go hB.below).at_
  have k0 := hB.box.cell 0
  have k1 := hB.box.cell 1
  have k2 := hB.box.cell 2
  have k3 := hB.box.cell 3
  have k4 := hB.box.cell 4
  have k5 := hB.box.cell 5
  unfold acCells at k0 k1 k2 k3 k4 k5
  simp only [List.getElem?_toArray, List.getElem?_cons_zero, List.getElem?_cons_succ] at k0 k1 k2 k3 k4 k5
  have hkb : ∀ W, Outs S w7 W → ∀ i, W.cell? ⟨w.heap.size, i, none⟩ = (acCells ⟨kd, nm, to, A, L, c, b, n, Ak, m, ck, ks⟩)[i]? := fun W ho i => hB.cell hlt ho i
  have hbw := hB.below
  have HKB := Lib.hid hkb
  have HB := Lib.hid hB
  have HO7 := Lib.hid hown7
  clear hkb hb7 hown7 hown hrd hbx3 hB HM
  go_wp2_with fail
  refine (hpk _).mono ?_
  rintro e w8 ⟨rfl, hw8⟩
  rw [hw8]
  clear hw8 w8
  clear hpk
  have hsz := HA.out.nm
  have hszt := HA.out.to
  have hA0' : At S w7 d x Dd Dx w7.drew := hA1.go (Below.refl _ _).drew
  obtain ⟨Sd, Sx, v, rs, fz, hd1, hx1⟩ := hA1.open_
  have hsd := read_any nm hsz w7 hd1 (len30 HD.out.ok)
  have hsx := fun W (hb : Below w7.heap.size w7 W) => rread_any nm hsz W (hx1.go hb) HX.out.ok
  have hkc : ∀ w', Below w7.heap.size w7 w' → w'.cell? ⟨w.heap.size, 1, none⟩ = some (.string nm) := fun w' hb => (hb.cell (p := ⟨w.heap.size, 1, none⟩) HB.out.box.lt).trans k1
  have HKC := Lib.hid hkc
  clear hkc
  have hr30 : ∀ D, Okd D → (dRead D (lst nm)).1.length ≤ 1073741824 := fun D hok => by
    unfold dRead
    split
    · simp
    · split
      · simp
      · exact len30 hok _ _ (by assumption)
  have h301 := hr30 Dd HD.out.ok
  have h302 := hr30 Dx HX.out.ok
  generalize hp1 : dRead Dd (lst nm) = p1 at *
  generalize hp2 : dRead Dx (lst nm) = p2 at *
  obtain ⟨b1, e1⟩ := p1
  obtain ⟨b2, e2⟩ := p2
  dsimp only at *
  have HP1 := Lib.hid hp1
  have HP2 := Lib.hid hp2
  clear hp1 hp2 hr30
  generalize hN1 : b1.length = N1 at *
  generalize hN2 : b2.length = N2 at *
  have hlast : ∀ (bb : Bool), bb = (decide (b1 = b2) && (e1 == e2)) → (Dd = Dx → bb = true) := fun bb hb e => by
    subst e
    have := HP1.out.symm.trans HP2.out
    injection this with h1 h2
    subst hb h1 h2
    simp
  have HLAST := Lib.hid hlast
  clear hlast
  go_wp2_with fail
  refine hsd.mono ?_
  rintro e w8 ⟨v8, rfl, hown8, hb8⟩
  have hc8 := HKC.out _ hb8
  obtain ⟨A8, c8', rfl, hr8, hLc8, hcm8, hA08⟩ := own_open hown8
  go_wp2_with fail
  refine (hsx w8 hb8).mono ?_
  rintro e w9 ⟨v9, rfl, hown9, hb9⟩
  obtain ⟨A9, c9, rfl, hr9, hLc9, hcm9, hA09⟩ := own_open hown9
  have hb9' := hb8.trans (hb9.mono hb8.size)
  have hr89 := (hr8.below hb9).more hb9.size
  have hown89 := own_below' hown8 hb9
  have hsm := sameBytes_any A8 A9 b1 b2 c8' c9 w9.heap.size w9 (by omega) (by omega) hr89 hr9
  clear hsd hsx hd1 hx1 hown9 hr8 hr89 hr9 hA09 hLc9 hcm9
  rw [hN1, hN2] at hsm
  go_wp2_with fail
  refine hsm.mono ?_
  rintro e w10 ⟨rfl, q, rfl⟩
  have hown10 : (w9.drewN q).ownsRow w7.heap.size 5 1 (.slice A8 N1 c8') N1 (c8 b1) := hown89
  have hb10 : Below w7.heap.size w7 (w9.drewN q) := bDrewN hb9' q
  generalize w9.drewN q = w10 at *
  clear hsm hown8 hown89 hb9 hb9' hb8 hc8
  have hs8 : same8 b1 b2 = decide (b1 = b2) := rfl
  cases hsame : same8 b1 b2
  · have hbb : false = (decide (b1 = b2) && (e1 == e2)) := by rw [← hs8, hsame]; rfl
    have HBB := Lib.hid hbb
    clear hbb hs8 hsame
    go_wp2
    go_loopw [18] (fun i wr => ∃ (k : Nat) (L' : List Int), k ≤ N1 ∧ i = .int .i64 k ∧ wr.ownsRow w7.heap.size 5 1 (.slice A8 N1 c8') N1 (c8 L') ∧ Below w7.heap.size w7 wr) (fun i _ => N1 - (intOf i).toNat)
    case atStart => exact ⟨0, b1, Nat.zero_le _, rfl, hown10, hb10⟩
    case round =>
      obtain ⟨k, L', hk, rfl, hown, hbr⟩ := hrel
      by_cases hlt2 : k < N1
      · obtain ⟨g9, y, rfl, hy, hcell, hfr, hset⟩ := own_set hown hlt2
        have hg9 : w7.heap.size ≤ g9 := (ownRow_block hown (g := g9) rfl).1
        have hset' := fun z => (⟨hset z, hbr.setCell (p := ⟨g9, k, none⟩) hg9 _⟩ : (wr.setCell ⟨g9, k, none⟩ (.int .u8 z)).ownsRow _ _ _ _ _ _ ∧ Below w7.heap.size w7 (wr.setCell ⟨g9, k, none⟩ (.int .u8 z)))
        have HSET := Lib.hid hset'
        clear hset hset' hown hown10 hb10 hy
        go_wp2
        go_roundw
        case rel => exact ⟨k + 1, L'.set k (bits .xor .u8 y 255), by omega, by go_num, (HSET.out (bits .xor .u8 y 255)).1, (HSET.out (bits .xor .u8 y 255)).2⟩
        case measure => simp [intOf]; omega
      · have hA9 := hA1.go hbr
        go_wp2
        go_returns
        exact ⟨_, rfl, HLAST.out _ HBB.out, hA9.back hbw⟩
  · have hbb : (e1 == e2) = (decide (b1 = b2) && (e1 == e2)) := by rw [← hs8, hsame]; rfl
    have HBB := Lib.hid hbb
    clear hbb hs8 hsame
    go_wp2
    go_loopw [18] (fun i wr => ∃ (k : Nat) (L' : List Int), k ≤ N1 ∧ i = .int .i64 k ∧ wr.ownsRow w7.heap.size 5 1 (.slice A8 N1 c8') N1 (c8 L') ∧ Below w7.heap.size w7 wr) (fun i _ => N1 - (intOf i).toNat)
    case atStart => exact ⟨0, b1, Nat.zero_le _, rfl, hown10, hb10⟩
    case round =>
      obtain ⟨k, L', hk, rfl, hown, hbr⟩ := hrel
      by_cases hlt2 : k < N1
      · obtain ⟨g9, y, rfl, hy, hcell, hfr, hset⟩ := own_set hown hlt2
        have hg9 : w7.heap.size ≤ g9 := (ownRow_block hown (g := g9) rfl).1
        have hset' := fun z => (⟨hset z, hbr.setCell (p := ⟨g9, k, none⟩) hg9 _⟩ : (wr.setCell ⟨g9, k, none⟩ (.int .u8 z)).ownsRow _ _ _ _ _ _ ∧ Below w7.heap.size w7 (wr.setCell ⟨g9, k, none⟩ (.int .u8 z)))
        have HSET := Lib.hid hset'
        clear hset hset' hown hown10 hb10 hy
        go_wp2
        go_roundw
        case rel => exact ⟨k + 1, L'.set k (bits .xor .u8 y 255), by omega, by go_num, (HSET.out (bits .xor .u8 y 255)).1, (HSET.out (bits .xor .u8 y 255)).2⟩
        case measure => simp [intOf]; omega
      · have hA9 := hA1.go hbr
        go_wp2
        go_returns
        exact ⟨_, rfl, HLAST.out _ HBB.out, hA9.back hbw⟩

end Go.Proofs.Ytnpomiidkdnebaa
