/- The program's Turn. -/
import Derived.Test.YtnpomiidkdnebaaDCrash
namespace Go.Proofs.Ytnpomiidkdnebaa
open Go.RowKit Go.Maps Go.WideMaps
set_option linter.unusedVariables false

theorem own_set {w : World} {B n c : Nat} {A : Option Addr} {L : List Int} {i : Nat} (h : w.ownsRow B 5 1 (.slice A n c) n (c8 L)) (hi : i < n) :
    ∃ g x, A = some ⟨g, 0, none⟩ ∧ L[i]? = some x ∧ w.cell? ⟨g, i, none⟩ = some (.int .u8 x) ∧ w.frozen? ⟨g, i, none⟩ = false ∧ ∀ z, (w.setCell ⟨g, i, none⟩ (.int .u8 z)).ownsRow B 5 1 (.slice A n c) n (c8 (L.set i z)) := by
  have hL : L.length = n := by have := h.1; rw [c8_length, Nat.mul_one] at this; exact this
  rcases h.2 with ⟨_, h2⟩ | ⟨g, cap, cur, h1, h2, h3, h4, h5, h6, h7⟩
  · omega
  · injection h1 with hA _ hc
    subst hA
    subst hc
    have hcell := h.cellAt (g := g) i (by omega)
    have hli : i < L.length := by omega
    rw [c8_get hli] at hcell
    refine ⟨g, _, rfl, List.getElem?_eq_getElem hli, hcell, h.frozenAt (g := g) i, fun z => ⟨by rw [c8_length, List.length_set, Nat.mul_one]; exact hL, .inr ⟨g, c, cur.setIfInBounds i (.int .u8 z), rfl, h2, ?_, h4, h5, by simp [h6], ?_⟩⟩⟩
    · exact (show Whole w g 5 cur from h3).put i _
    · rw [Nat.mul_one] at h7 ⊢
      rw [Array.toList_setIfInBounds, List.take_set, h7]
      simp [c8, List.map_set]

theorem modify_set {L : List Int} {i : Nat} {x : Int} (f : Int → Int) (h : L[i]? = some x) : L.modify i f = L.set i (f x) := by
  have hi : i < L.length := (List.getElem?_eq_some_iff.1 h).1
  apply List.ext_getElem?
  intro j
  rw [List.getElem?_modify, List.getElem?_set]
  by_cases e : i = j
  · subst e
    rw [h]
    simp [hi]
  · simp [e]
theorem used_turn {fs : List Fl} {l : Nm} {g : Int → Int} {i : Nat} : used (upd l (fun f => { f with bs := f.bs.modify i g }) fs) = used fs := used_upd fs l _ (fun f _ => by simp)

section
variable {S : Nat → Prop} {d mb nn : Nat} {M : DataW Unit} {blk : Nm → Nat} {vs : Nm → Value} {D : Dsk}

/-- bits turned in a byte -/
def xr (c x : Int) : Int := bits .xor .u8 x c

set_option maxHeartbeats 2000000 in
set_option maxRecDepth 8000 in
theorem turn_any (s : ByteArray) (hs : s.size ≤ 9223372036854775807) (i c : Int) (w : World) (h : Dk 0 w S d D) (hok : Okd D) :
    Calls Try.prog 22 #[.pointer (some ⟨d, 0, none⟩), .string s, .int .i64 i, .int .u8 c] w fun e w' => e = .returned (.int .i64 (dTurn (xr c) D (lst s) i).1) ∧ ∃ S', Dk 0 w' S' d (dTurn (xr c) D (lst s) i).2 ∧ Turn S S' w w' := by
  have hD := h
  obtain ⟨mb, nn, M, blk, vs, h, hnn⟩ := h
  have c0 := h.c0
  have hcon := mayNot_any s hs w
  change Calls _ _ _ _ fun e w' => e = .returned (.bool (!okN (lst s))) ∧ ∃ n, w' = w.drewN n at hcon
  cases hn : okN (lst s)
  · have e1 : dTurn (xr c) D (lst s) i = (2, D) := by simp [dTurn, hn]
    rw [e1]
    rw [hn] at hcon
    clear e1 h
    go_enter Try.func22, Try.ntmps22
    go_wp2_with fail
    refine (nobodys_no d w c0).mono ?_
    rintro e w0 ⟨rfl, hw0⟩
    rw [hw0]
    clear hw0 w0
    go_wp2_with fail
    refine hcon.mono ?_
    rintro e w1 ⟨rfl, q, rfl⟩
    go_wp2
    go_returns
    exact ⟨by simp, S, hD.go (bDrewN (Below.refl _ _) q), Turn.below (bDrewN (Below.refl _ _) q)⟩
  · rw [hn] at hcon
    have hlook : ∀ n, (Instr.lookup 52 (.map (some mb)) (.string s) false).run Try.prog (w.drewN n) = .ok (fptr D blk (lst s)) (w.drewN n) := fun n => look_at (h.go (bDrewN (Below.refl _ _) n)) s hs
    have c5 := h.c5
    cases hf : find D.files (lst s) with
    | none =>
      have e1 : dTurn (xr c) D (lst s) i = (6, D) := by simp [dTurn, hn, hf]
      have e2 : fptr D blk (lst s) = .pointer none := by simp [fptr, hf]
      rw [e1]
      rw [e2] at hlook
      clear e1 e2 h
      go_enter Try.func22, Try.ntmps22
      go_wp2_with fail
      refine (nobodys_no d w c0).mono ?_
      rintro e w0 ⟨rfl, hw0⟩
      rw [hw0]
      clear hw0 w0
      go_wp2_with fail
      refine hcon.mono ?_
      rintro e w1 ⟨rfl, q, rfl⟩
      go_wp2
      go_returns
      exact ⟨by simp, S, hD.go (bDrewN (Below.refl _ _) q), Turn.below (bDrewN (Below.refl _ _) q)⟩
    | some f =>
      have e2 : fptr D blk (lst s) = .pointer (some ⟨blk (lst s), 0, none⟩) := by simp [fptr, hf]
      rw [e2] at hlook
      obtain ⟨hW, hR⟩ := h.fil _ f hf
      obtain ⟨A, cp, hv, hr, hnc, hcm, hA0⟩ := own_open hR
      have w0 : w.cell? ⟨blk (lst s), 0, none⟩ = some (.slice A f.bs.length cp) := by rw [← hv]; exact hW.cell 0
      by_cases hi : i < 0 ∨ (f.bs.length : Int) ≤ i
      · have e1 : dTurn (xr c) D (lst s) i = (6, D) := by
          unfold dTurn
          rw [if_neg (by rw [hn]; decide), hf]
          exact if_pos hi
        rw [e1]
        clear e1 h e2 hW hR hr hv hf
        generalize f.bs.length = N at *
        generalize blk (lst s) = bk at *
        rcases Int.lt_or_le i 0 with hi0 | hi0
        · go_enter Try.func22, Try.ntmps22
          go_wp2_with fail
          refine (nobodys_no d w c0).mono ?_
          rintro e w0 ⟨rfl, hw0⟩
          rw [hw0]
          clear hw0 w0
          go_wp2_with fail
          refine hcon.mono ?_
          rintro e w1 ⟨rfl, q, rfl⟩
          go_wp2
          go_returns
          exact ⟨by simp, S, hD.go (bDrewN (Below.refl _ _) q), Turn.below (bDrewN (Below.refl _ _) q)⟩
        · have hi1 : (N : Int) ≤ i := by omega
          clear hi
          go_enter Try.func22, Try.ntmps22
          go_wp2_with fail
          refine (nobodys_no d w c0).mono ?_
          rintro e w0 ⟨rfl, hw0⟩
          rw [hw0]
          clear hw0 w0
          go_wp2_with fail
          refine hcon.mono ?_
          rintro e w1 ⟨rfl, q, rfl⟩
          go_wp2
          go_returns
          exact ⟨by simp, S, hD.go (bDrewN (Below.refl _ _) q), Turn.below (bDrewN (Below.refl _ _) q)⟩
      · obtain ⟨j, rfl⟩ : ∃ j : Nat, i = j := ⟨i.toNat, by omega⟩
        have hj : j < f.bs.length := by omega
        have e1 : dTurn (xr c) D (lst s) j = (0, { D with files := upd (lst s) (fun f => { f with bs := f.bs.modify j (xr c) }) D.files }) := by
          unfold dTurn
          rw [if_neg (by rw [hn]; decide), hf]
          exact if_neg hi
        rw [e1]
        rw [hv] at hR
        obtain ⟨g, x, rfl, hx, hcell, hfr, hset⟩ := own_set hR hj
        have hfin : ∀ q, ∃ S', Dk 0 ((w.drewN q).setCell ⟨g, j, none⟩ (.int .u8 (xr c x))) S' d { D with files := upd (lst s) (fun f => { f with bs := f.bs.modify j (xr c) }) D.files } ∧ Turn S S' w ((w.drewN q).setCell ⟨g, j, none⟩ (.int .u8 (xr c x))) := by
          intro q
          have hg : (vs (lst s)).ownBlock = some g := by rw [hv]; rfl
          refine ⟨_, ⟨mb, nn, M, blk, _, h.turnFile hf (fun f => { f with bs := f.bs.modify j (xr c) }) (fun _ => rfl) (vs (lst s)) _ rfl (by simp [World.setCell]) ?_ ?_ ?_ ?_ (.inl rfl), hnn⟩, ⟨((Outs.refl S w).drewN q).setCell (p := ⟨g, j, none⟩) (.inl ((h.sb _ f hf).2 g hg)) _, more_new⟩⟩
          · intro k hk h1 h2 h3
            exact Below.heap_setCell _ _ _ _ (fun e => h3 (by rw [hg, e]))
          · have : topCells d mb { D with files := upd (lst s) (fun f => { f with bs := f.bs.modify j (xr c) }) D.files } = topCells d mb D := by
              simp only [topCells, left]
              rw [used_turn]
            rw [this]
            exact (h.top.drewN q).far (p := ⟨g, j, none⟩) (h.ne_row hf hg).symm _
          · exact (hW.drewN q).far (p := ⟨g, j, none⟩) (h.ne_rowb hf hf hg).symm _
          · have hm : f.bs.modify j (xr c) = f.bs.set j (xr c x) := by
              exact modify_set _ hx
            simp only [hm, List.length_set, hv]
            exact hset _
        have hjl : (j : Int) < (f.bs.length : Int) := by omega
        have HF := Lib.hid hfin
        clear hfin hset hx hR hr hv hW h hf e1 e2 hi hA0 hok hj
        generalize f.bs.length = N at *
        generalize blk (lst s) = bk at *
        go_enter Try.func22, Try.ntmps22
        go_wp2_with fail
        refine (nobodys_no d w c0).mono ?_
        rintro e w0 ⟨rfl, hw0⟩
        rw [hw0]
        clear hw0 w0
        go_wp2_with fail
        refine hcon.mono ?_
        rintro e w1 ⟨rfl, q, rfl⟩
        go_wp2
        go_returns
        exact ⟨by simp, HF.out q⟩
theorem turn_no (p : Option Addr) (v u x : Value) (w : World) (h : Nobody w p) :
    Calls Try.prog 22 #[.pointer p, v, u, x] w fun e w' => e = .returned (.int .i64 1) ∧ w' = w := by
  go_enter Try.func22, Try.ntmps22
  go_wp2_with (refine (nobodys_yes p w h).mono ?_; rintro e w' ⟨rfl, rfl⟩)
  go_returns
  exact ⟨by simp, rfl⟩
end
end Go.Proofs.Ytnpomiidkdnebaa
