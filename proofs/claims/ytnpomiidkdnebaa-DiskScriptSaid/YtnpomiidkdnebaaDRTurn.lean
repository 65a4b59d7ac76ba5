/- The walk over the document's Turn. -/
import Derived.Test.YtnpomiidkdnebaaDRRead
import Derived.Test.YtnpomiidkdnebaaDTurn
namespace Go.Proofs.Ytnpomiidkdnebaa
open Go.RowKit
set_option linter.unusedVariables false

section
variable {S S' : Nat → Prop} {x : Nat} {v : Value} {rs : List RFl} {fz : Int} {D : Dsk} {w : World}

set_option maxHeartbeats 2000000 in
set_option maxRecDepth 5000 in
theorem rturn_any (s : ByteArray) (hs : s.size ≤ 9223372036854775807) (i c : Int) (w : World) (h : RfAt w S x v rs fz D) (hok : Okd D) :
    Calls Try.prog 57 #[.pointer (some ⟨x, 0, none⟩), .string s, .int .i64 i, .int .u8 c] w fun e w' => e = .returned (.int .i64 (dTurn (xr c) D (lst s) i).1) ∧ ∃ S', Rf w' S' x (dTurn (xr c) D (lst s) i).2 ∧ Turn S S' w w' := by
  obtain ⟨i0, hi0, hz0, hz1, hz2⟩ := info_parts info8
  have hcon := rname_any s hs w
  have hb : ∀ q, Below w.heap.size w (w.drewN q) := fun q => bDrewN (Below.refl _ w) q
  have hq : ∀ q, RfAt (w.drewN q) S x v rs fz D := fun q => h.go (hb q)
  have hT : ∀ q, Turn S S w (w.drewN q) := fun q => Turn.below (hb q)
  have hp : ∀ q, _ := fun q => rplace_any s (w.drewN q) (hq q) hok.srt
  cases hn : okN (lst s)
  · have e1 : dTurn (xr c) D (lst s) i = (2, D) := by simp [dTurn, hn]
    rw [e1]
    rw [hn] at hcon
    clear e1 h hn
    go_enter Try.func57, Try.ntmps57
    go_wp2_with fail
    refine hcon.mono ?_
    rintro e w1 ⟨rfl, q, rfl⟩
    go_wp2
    go_returns
    exact ⟨by simp, S, ⟨_, _, _, hq q⟩, hT q⟩
  · rw [hn] at hcon
    cases hf : find D.files (lst s) with
    | none =>
      have e1 : dTurn (xr c) D (lst s) i = (6, D) := by unfold dTurn; rw [if_neg (by rw [hn]; decide), hf]
      have e2 : hit D.files (lst s) = false := by unfold hit; rw [hf]; rfl
      rw [e1]
      rw [e2] at hp
      generalize pos D.files (lst s) = k at *
      clear e1 e2 h hf hn
      go_enter Try.func57, Try.ntmps57
      go_wp2_with fail
      refine hcon.mono ?_
      rintro e w1 ⟨rfl, q, rfl⟩
      go_wp2_with fail
      refine (hp q).mono ?_
      rintro e w2 ⟨rfl, rfl⟩
      go_wp2
      go_returns
      exact ⟨by simp, S, ⟨_, _, _, hq q⟩, hT q⟩
    | some f =>
      have e2 : hit D.files (lst s) = true := by unfold hit; rw [hf]; rfl
      rw [e2] at hp
      obtain ⟨P, hP⟩ : ∃ P, P = pos D.files (lst s) := ⟨_, rfl⟩
      have hl30 := len30 hok _ _ hf
      have hat := fun q => (hq q).upd_at hok hf hP
      rw [← hP] at hp
      have HAT := Lib.hid hat
      have HQ := Lib.hid hq
      have HZ := Lib.hid hf
      have HP := Lib.hid hP
      by_cases hi : i < 0 ∨ (f.bs.length : Int) ≤ i
      · have e1 : dTurn (xr c) D (lst s) i = (6, D) := by
          unfold dTurn
          rw [if_neg (by rw [hn]; decide), hf]
          exact if_pos hi
        rw [e1]
        clear e1 e2 h hf hat hq hP hn
        rcases Int.lt_or_le i 0 with hi0' | hi0'
        · clear hi
          go_enter Try.func57, Try.ntmps57
          go_wp2_with fail
          refine hcon.mono ?_
          rintro e w1 ⟨rfl, q, rfl⟩
          go_wp2_with fail
          refine (hp q).mono ?_
          rintro e w2 ⟨rfl, rfl⟩
          go_wp2
          go_returns
          exact ⟨by simp, S, ⟨_, _, _, HQ.out q⟩, hT q⟩
        · have hi1 : (f.bs.length : Int) ≤ i := by omega
          clear hi
          go_enter Try.func57, Try.ntmps57
          go_wp2_with fail
          refine hcon.mono ?_
          rintro e w1 ⟨rfl, q, rfl⟩
          go_wp2_with fail
          refine (hp q).mono ?_
          rintro e w2 ⟨rfl, rfl⟩
          obtain ⟨g, n, cn, B, bb, rfl, hSg, hn63, hnc, hkn, _, k1, _, kf, hrow, _, _, _⟩ := HAT.out q
          have c1 := (HQ.out q).c1
          have hPn : (P : Int) < n := by omega
          have hTq := hT q
          clear hcon hp hb hT kf hrow
          generalize f.bs.length = Lf at *
          have hR := HQ.out q
          have HR := Lib.hid hR
          clear hR
          generalize w.drewN q = W at *
          go_wp2
          go_returns
          exact ⟨by simp, S, ⟨_, _, _, HR.out⟩, hTq⟩
      · obtain ⟨j, rfl⟩ : ∃ j : Nat, i = j := ⟨i.toNat, by omega⟩
        have hj : j < f.bs.length := by omega
        have e1 : dTurn (xr c) D (lst s) j = (0, { D with files := upd (lst s) (fun f => { f with bs := f.bs.modify j (xr c) }) D.files }) := by
          unfold dTurn
          rw [if_neg (by rw [hn]; decide), hf]
          exact if_neg hi
        rw [e1]
        have hjl : (j : Int) < (f.bs.length : Int) := by omega
        clear e1 e2 h hf hat hq hP hn hi
        go_enter Try.func57, Try.ntmps57
        go_wp2_with fail
        refine hcon.mono ?_
        rintro e w1 ⟨rfl, q, rfl⟩
        go_wp2_with fail
        refine (hp q).mono ?_
        rintro e w2 ⟨rfl, rfl⟩
        obtain ⟨g, n, cn, B, bb, rfl, hSg, hn63, hnc, hkn, _, k1, _, kf, hrow, _, _, _⟩ := HAT.out q
        have c1 := (HQ.out q).c1
        have hgrow := (HQ.out q).grow_at hok HZ.out HP.out
        have hlt := (HQ.out q).lt
        have hsx := (HQ.out q).sx
        obtain ⟨B', bb', e, hrdB, hLb, hbm, hB0⟩ := own_open hrow
        injection e with e1 e2 e3
        subst e1 e3
        have hTq := hT q
        have hPn : (P : Int) < n := by omega
        have kfP := kf (P * 3 + 1)
        clear hcon hp hb hT HAT HQ kf
        generalize hLf : f.bs.length = Lf at *
        generalize w.drewN q = W at *
        have hown : (W.alloc (.cells #[] 5)).ownsRow W.heap.size 5 1 (.slice (some ⟨W.heap.size, 0, none⟩) 0 0) 0 [] := World.ownsRow_made (base := W.heap.size) (e := 5) (size := 1) W #[] 0 (Nat.le_refl _) (by unfold maxLen; omega) rfl
        have hx' : x < W.heap.size := hlt _ hsx
        have hg' : g < W.heap.size := hlt _ hSg
        have d1 := (World.cell?_alloc_lt W (.cells #[] 5) _ (World.block_lt_of_cell? W _ c1)).trans c1
        have d2 := (World.cell?_alloc_lt W (.cells #[] 5) _ (World.block_lt_of_cell? W _ k1)).trans k1
        go_wp2_with (at_builtin; go_loud (refine app_many _ rfl (.tmp 40) (.tmp 48) 29 rfl W.heap.size 5 i0 (.int .u8 0) 1 Try.underlying29 hi0 hz0 hz1 hz2 rfl _ 0 [] (by simp [Act.eval]) hown B Lf bb W.heap.size (c8 f.bs) (by simp [Act.eval]) (by rw [c8_length, hLf]) (hrdB.alloc (Nat.le_refl _) _) (fun h => (hB0 h).2) (c8_one _) (by unfold maxLen; omega) (by omega) (by simp) ?_))
        intro v9 w9 hown9 hb9
        have hbf : Below W.heap.size W w9 := ((Below.refl _ W).alloc (Nat.le_refl _) _).trans hb9
        obtain ⟨A9, c9, rfl, _, hc9, _⟩ := own_open hown9
        obtain ⟨g9, y, rfl, hy, hcell, hfr, hset⟩ := own_set hown9 (i := j) hj
        have hg9 : W.heap.size ≤ g9 := (ownRow_block hown9 (g := g9) rfl).1
        have hbf2 : Below W.heap.size W (w9.setCell ⟨g9, j, none⟩ (.int .u8 (xr c y))) := hbf.setCell (p := ⟨g9, j, none⟩) hg9 _
        have hfin : ∃ S', Rf ((w9.setCell ⟨g9, j, none⟩ (.int .u8 (xr c y))).setCell ⟨g, P * 3 + 1, none⟩ (.slice (some ⟨g9, 0, none⟩) Lf c9)) S' x { D with files := upd (lst s) (fun f => { f with bs := f.bs.modify j (xr c) }) D.files } ∧ Turn S S' w ((w9.setCell ⟨g9, j, none⟩ (.int .u8 (xr c y))).setCell ⟨g, P * 3 + 1, none⟩ (.slice (some ⟨g9, 0, none⟩) Lf c9)) := by
          have hm : f.bs.modify j (xr c) = f.bs.set j (xr c y) := modify_set _ hy
          have hu := hset (xr c y)
          rw [← hm] at hu
          have hlm : (f.bs.modify j (xr c)).length = Lf := by simp [hLf]
          obtain ⟨rs', h9⟩ := hgrow _ (.slice (some ⟨g9, 0, none⟩) Lf c9) (f.bs.modify j (xr c)) (More S W (w9.setCell ⟨g9, j, none⟩ (.int .u8 (xr c y)))) (fun f => { f with bs := f.bs.modify j (xr c) }) hbf2 rfl (by rw [hlm]; exact ownRow_base hu (fun _ _ => Nat.zero_le _)) (fun _ h => .inl h)
            (fun k hk => by rcases hk with hk | hk; exact Nat.lt_of_lt_of_le (hlt k hk) hbf2.size; exact hk.2)
            (fun k hk => .inr ⟨(ownRow_block hu hk).1, (ownRow_block hu hk).2.1⟩)
          exact ⟨_, ⟨_, _, _, h9⟩, hTq.trans ⟨(Outs.of hbf2).setCell (p := ⟨g, _, none⟩) (.inl hSg) _, more_new⟩⟩
        have HFIN := Lib.hid hfin
        have x1 := (hbf2.cell (p := ⟨x, 1, none⟩) hx').trans c1
        have x2 := (hbf2.cell (p := ⟨g, P * 3 + 1, none⟩) hg').trans k1
        have x3 := (hbf2.frozen (p := ⟨g, P * 3 + 1, none⟩) hg').trans kfP
        clear hfin hset hy hown9 hown hb9 hbf hgrow hlt hbf2 c1 k1 d1 d2 hrow hrdB kfP
        unfold xr at *
        go_wp2
        go_returns
        exact ⟨by simp, HFIN.out⟩
end
end Go.Proofs.Ytnpomiidkdnebaa
