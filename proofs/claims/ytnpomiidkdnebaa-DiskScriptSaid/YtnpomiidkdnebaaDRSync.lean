/- A field of a file set; the walk over the document's Sync. -/
import Derived.Test.YtnpomiidkdnebaaDRLeft
import Derived.StillTailTactics
namespace Go.Proofs.Ytnpomiidkdnebaa
open Go.RowKit
set_option linter.unusedVariables false

theorem own_setc {w : World} {B k n g i : Nat} {e : TypeId} {v : Value} {xs : List Value} (h : w.ownsRow B e k v n xs) (hg : v.ownBlock = some g) (hi : i < xs.length) (u : Value) : (w.setCell ⟨g, i, none⟩ u).ownsRow B e k v n (xs.set i u) := by
  rcases h.2 with ⟨rfl, _⟩ | ⟨g1, cap, cur, rfl, h2, h3, h4, h5, h6, h7⟩
  · cases hg
  · obtain rfl : g1 = g := by simpa [Value.ownBlock] using hg
    have hw : Whole w g1 e cur := h3
    refine ⟨by simpa using h.1, .inr ⟨g1, cap, cur.setIfInBounds i u, rfl, h2, hw.put i u, h4, h5, by simp [h6], ?_⟩⟩
    rw [Array.toList_setIfInBounds, List.take_set, h7]

section
variable {S S' : Nat → Prop} {x : Nat} {v : Value} {rs : List RFl} {fz : Int} {D : Dsk} {w : World}
theorem mem_set {α : Type} {l : List α} {j : Nat} {a b : α} (h : b ∈ l.set j a) : b ∈ l ∨ b = a := List.mem_or_eq_of_mem_set h
/-- a field of a file is set -/
theorem RfAt.fileset (h : RfAt w S x v rs fz D) {g : Nat} (hg : v.ownBlock = some g) {j i : Nat} {u : Value} (r' : RFl) (hi : i < rs.length * 3) (hc : (cR rs).set i u = cR (rs.set j r'))
    (hrow : w.ownsRow 0 5 1 r'.v r'.f.bs.length (c8 r'.f.bs)) (hS : ∀ k, S k → S' k) (hS' : ∀ k, S' k → k < w.heap.size) (hb : ∀ k, r'.v.ownBlock = some k → S' k) :
    RfAt (w.setCell ⟨g, i, none⟩ u) S' x v (rs.set j r') fz { D with files := D.files.set j r'.f } := by
  have hgw : ∃ cs, Whole w g 95 cs := by
    obtain ⟨_, _, cs, hh⟩ := ownRow_block h.own hg
    exact ⟨cs, hh⟩
  obtain ⟨cs, hgw⟩ := hgw
  have far : ∀ {v' : Value} {n : Nat} {xs : List Value}, w.ownsRow 0 5 1 v' n xs → (w.setCell ⟨g, i, none⟩ u).ownsRow 0 5 1 v' n xs := fun hr =>
    ownRow_block_kept hr fun g' hg' => Below.heap_setCell _ _ _ _ (ownRow_ne hr hg' hgw (by decide))
  refine
    { top := h.top.far (p := ⟨g, i, none⟩) (Whole.ne h.top hgw (by decide)) u
      own := ?_
      files := by rw [List.map_set, h.files]
      byt := fun r hr => ?_
      fz := h.fz
      sx := hS _ h.sx
      sv := fun k hk => hS _ (h.sv k hk)
      sb := fun r hr => ?_
      lt := fun k hk => by simpa [World.setCell] using hS' k hk }
  · have := own_setc h.own hg (i := i) (by rw [cR_length]; exact hi) u
    rw [hc] at this
    simpa using this
  · rcases mem_set hr with hr | rfl
    · exact far (h.byt r hr)
    · exact far hrow
  · rcases mem_set hr with hr | rfl
    · exact fun k hk => hS _ (h.sb r hr k hk)
    · exact hb

/-- what a found file becomes -/
theorem RfAt.upd_at (h : RfAt w S x v rs fz D) (hok : Okd D) {l : Nm} {f : Fl} (hf : find D.files l = some f) {P : Nat} (hP : P = pos D.files l) :
    ∃ g n c B b, v = .slice (some ⟨g, 0, none⟩) n c ∧ S g ∧ (n : Int) ≤ 9223372036854775807 ∧ n ≤ c ∧ P < n ∧
      w.cell? ⟨g, P * 3, none⟩ = some (.string ⟨f.nm.toArray⟩) ∧ w.cell? ⟨g, P * 3 + 1, none⟩ = some (.slice B f.bs.length b) ∧ w.cell? ⟨g, P * 3 + 2, none⟩ = some (.int .i64 f.sy) ∧ (∀ i, w.frozen? ⟨g, i, none⟩ = false) ∧
      w.ownsRow 0 5 1 (.slice B f.bs.length b) f.bs.length (c8 f.bs) ∧ (∀ k, Value.ownBlock (.slice B f.bs.length b) = some k → S k) ∧
      (∀ (y : Nat) (t : Fl → Fl), t f = { f with sy := y } → ∃ rs', RfAt (w.setCell ⟨g, P * 3 + 2, none⟩ (.int .i64 y)) S x v rs' fz { D with files := upd l t D.files }) ∧
      (∀ (u : Value) (bs : List Int) (S' : Nat → Prop) (t : Fl → Fl), t f = { f with bs := bs } → w.ownsRow 0 5 1 u bs.length (c8 bs) → (∀ k, S k → S' k) → (∀ k, S' k → k < w.heap.size) → (∀ k, u.ownBlock = some k → S' k) → ∃ rs', RfAt (w.setCell ⟨g, P * 3 + 1, none⟩ u) S' x v rs' fz { D with files := upd l t D.files }) := by
  subst hP
  obtain ⟨g, n, c, r, B, b, rfl, hSg, hn, hn63, hnc, hkn, hr, hrf, hv, k0, k1, k2, kf⟩ := h.at_ hok hf
  have hkr : pos D.files l < rs.length := by rw [← hn]; exact hkn
  have hrk : rs[pos D.files l] = r := by rw [List.getElem?_eq_getElem hkr] at hr; exact Option.some.inj hr
  have hby := h.byt r (List.mem_of_getElem? hr)
  rw [hrf] at hby
  have hgo : Value.ownBlock (.slice (some ⟨g, 0, none⟩) n c) = some g := rfl
  refine ⟨g, n, c, B, b, rfl, hSg, hn63, hnc, hkn, k0, k1, k2, kf, hv ▸ hby, hv ▸ h.sb r (List.mem_of_getElem? hr), fun y t ht => ⟨rs.set (pos D.files l) ⟨{ f with sy := y }, r.v⟩, ?_⟩, fun u bs S' t ht hu hS hS' hb => ⟨rs.set (pos D.files l) ⟨{ f with bs := bs }, u⟩, ?_⟩⟩
  · rw [← upd_pos hok.srt hf, ht]
    refine h.fileset hgo ⟨{ f with sy := y }, r.v⟩ (by omega) ?_ hby (fun _ h => h) h.lt (h.sb r (List.mem_of_getElem? hr))
    refine cR_set2 hkr _ _ ?_ rfl ?_
    · rw [hrk, hrf]
    · rw [hrk]
  · rw [← upd_pos hok.srt hf, ht]
    refine h.fileset hgo ⟨{ f with bs := bs }, u⟩ (by omega) ?_ hu hS hS' hb
    refine cR_set1 hkr _ _ ?_ ?_ rfl
    · rw [hrk, hrf]
    · rw [hrk, hrf]
theorem okd_tick {D : Dsk} (hok : Okd D) : Okd (tick D) :=
  okd_files hok hok.srt hok.nms hok.sy hok.fits (by have := hok.fuse0; split <;> omega) (by have := hok.fuse1; split <;> omega)

set_option maxHeartbeats 1000000 in
set_option maxRecDepth 5000 in
theorem rsync_any (s : ByteArray) (hs : s.size ≤ 9223372036854775807) (w : World) (h : RfAt w S x v rs fz D) (hok : Okd D) (hro : Room D) :
    Calls Try.prog 51 #[.pointer (some ⟨x, 0, none⟩), .string s] w fun e w' => e = .returned (.int .i64 (dSync D (lst s)).1) ∧ Rf w' S x (dSync D (lst s)).2 ∧ Turn S S w w' := by
  obtain ⟨hk, hp⟩ := rhalf s hs w h hok
  have hb : ∀ q, Below w.heap.size w ((w.alloc (.cells #[.string s] 9)).drewN q) := fun q => bDrewN ((Below.refl _ w).alloc (Nat.le_refl _) _) q
  have hq : ∀ q, RfAt ((w.alloc (.cells #[.string s] 9)).drewN q) S x v rs fz D := fun q => h.go (hb q)
  have hT : ∀ q, Turn S S w ((w.alloc (.cells #[.string s] 9)).drewN q) := fun q => ⟨Outs.of (hb q), fun _ h => .inl h⟩
  by_cases ha : ask D [lst s] = 0
  · rw [ha] at hk
    cases hf : find D.files (lst s) with
    | none =>
      have e1 : dSync D (lst s) = (6, D) := by unfold dSync; rw [if_neg (by rw [ha]; simp), hf]; rfl
      have e2 : hit D.files (lst s) = false := by unfold hit; rw [hf]; rfl
      rw [e1]
      rw [e2] at hp
      generalize pos D.files (lst s) = k at *
      clear e1 e2 h hf
      go_enter Try.func51, Try.ntmps51
      go_wp2_with fail
      refine hk.mono ?_
      rintro e w1 ⟨rfl, q, rfl⟩
      go_wp2_with fail
      refine (hp q).mono ?_
      rintro e w2 ⟨rfl, rfl⟩
      go_wp2
      go_returns
      exact ⟨by simp, ⟨_, _, _, hq q⟩, hT q⟩
    | some f =>
      have e1 : dSync D (lst s) = dStep D (upd (lst s) (fun f => { f with sy := f.bs.length })) := by unfold dSync; rw [if_neg (by rw [ha]; simp), hf]; rfl
      have e2 : hit D.files (lst s) = true := by unfold hit; rw [hf]; rfl
      rw [e1]
      rw [e2] at hp
      have hst : ∀ q, _ := fun q => rstep_any ((w.alloc (.cells #[.string s] 9)).drewN q) (hq q) (by have := hro.1; omega) hro.2 hro.3
      by_cases hz : D.fuse = 0
      · have e3 : dStep D (upd (lst s) (fun f => { f with sy := f.bs.length })) = (10, fall D) := if_pos hz
        rw [e3]
        rw [show decide (D.fuse = 0) = true from decide_eq_true hz, if_pos hz] at hst
        generalize pos D.files (lst s) = k at *
        clear e1 e2 e3 h hf hq ha hz
        go_enter Try.func51, Try.ntmps51
        go_wp2_with fail
        refine hk.mono ?_
        rintro e w1 ⟨rfl, q, rfl⟩
        go_wp2_with fail
        refine (hp q).mono ?_
        rintro e w2 ⟨rfl, rfl⟩
        go_wp2_with fail
        refine (hst q).mono ?_
        rintro e w3 ⟨rfl, ⟨fz', h3⟩, hT3⟩
        go_wp2
        go_returns
        exact ⟨by simp, ⟨_, _, _, h3⟩, (hT q).trans hT3⟩
      · have e3 : dStep D (upd (lst s) (fun f => { f with sy := f.bs.length })) = (0, { tick D with files := upd (lst s) (fun f => { f with sy := f.bs.length }) D.files }) := if_neg hz
        rw [e3]
        rw [show decide (D.fuse = 0) = false from decide_eq_false hz, if_neg hz] at hst
        obtain ⟨P, hP⟩ : ∃ P, P = pos D.files (lst s) := ⟨_, rfl⟩
        rw [← hP] at hp
        have HP := Lib.hid hP
        have HZ := Lib.hid hf
        clear e1 e2 e3 h hq ha hz hP hf
        go_enter Try.func51, Try.ntmps51
        go_wp2_with fail
        refine hk.mono ?_
        rintro e w1 ⟨rfl, q, rfl⟩
        go_wp2_with fail
        refine (hp q).mono ?_
        rintro e w2 ⟨rfl, rfl⟩
        go_wp2_with fail
        refine (hst q).mono ?_
        rintro e w3 ⟨rfl, ⟨fz', h3⟩, hT3⟩
        have hT4 := (hT q).trans hT3
        clear hst hp hk hT hT3 hb
        obtain ⟨g, n, c, B, b, rfl, hSg, hn63, hnc, hkn, k0, k1, k2, kf, _, _, hset, _⟩ := h3.upd_at (okd_tick hok) HZ.out HP.out
        have c1 := h3.c1
        have hl30 := len30 hok _ _ HZ.out
        have hfs := hset f.bs.length (fun f => { f with sy := f.bs.length }) rfl
        have hT5 : Turn S S w (w3.setCell ⟨g, P * 3 + 2, none⟩ (.int .i64 (f.bs.length : Nat))) := ⟨hT4.outs.setCell (p := ⟨g, _, none⟩) (.inl hSg) _, hT4.new⟩
        have k2f := kf (P * 3 + 2)
        have HF := Lib.hid hfs
        have HT := Lib.hid hT5
        clear hfs hT5 hT4 h3 hSg kf k0 hset
        generalize f.bs.length = L at *
        have hL63 : (L : Int) ≤ 9223372036854775807 := by omega
        go_wp2
        go_still_tail 16, (by kernel_rfl)
        change wpList _ _ _ _ _ w3.drew
        go_wp2
        go_returns
        exact ⟨by simp, Rf.go (HF.out.elim fun _ h => ⟨_, _, _, h⟩) (bDrewN (Below.refl _ _) 1), ⟨HT.out.outs.drew, HT.out.new⟩⟩
  · have e1 : dSync D (lst s) = (ask D [lst s], D) := by unfold dSync; rw [if_pos ha]
    rw [e1]
    have hn : (ask D [lst s] != 0) = true := by simpa using ha
    generalize ask D [lst s] = fc at *
    clear e1 h ha
    go_enter Try.func51, Try.ntmps51
    go_wp2_with fail
    refine hk.mono ?_
    rintro e w1 ⟨rfl, q, rfl⟩
    go_wp2
    go_returns
    exact ⟨by simp, ⟨_, _, _, hq q⟩, hT q⟩
end
end Go.Proofs.Ytnpomiidkdnebaa
