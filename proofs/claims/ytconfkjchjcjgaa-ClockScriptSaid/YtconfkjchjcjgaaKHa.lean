/- A watch's heap in memory; what is less; two places changed. -/
import Derived.Test.YtconfkjchjcjgaaKMeth
import Derived.Test.YtconfkjchjcjgaaKHeap
import Derived.StillTailTactics
import Derived.RegionTactic
import Derived.BigRegion
namespace Go.Proofs.Ytconfkjchjcjgaa
open Go.RowKit
set_option linter.unusedVariables false

/-- an end: its name, when, and the block where it stands -/
structure En where
  nm : ByteArray
  at_ : Int
  blk : Nat
deriving DecidableEq
def ltE (a b : En) : Bool := decide (a.at_ < b.at_ ∨ (a.at_ = b.at_ ∧ lst a.nm < lst b.nm))
theorem lt_irr (x : List UInt8) : ¬ x < x := List.lt_irrefl x
theorem ltE_ord : Ord ltE := by
  refine ⟨fun a b h => ?_, fun a b c h1 h2 => ?_⟩
  · simp only [ltE, decide_eq_true_eq] at h
    simp only [ltE, decide_eq_false_iff_not]
    rintro (q | ⟨q1, q2⟩)
    · rcases h with h | ⟨h, _⟩ <;> omega
    · rcases h with h | ⟨_, h⟩
      · omega
      · exact List.lt_asymm h q2
  · simp only [ltE, decide_eq_false_iff_not] at h1 h2 ⊢
    rintro (q | ⟨q1, q2⟩)
    · by_cases e : a.at_ = b.at_
      · exact h2 (.inl (by omega))
      · exact h1 (.inl (by rcases Int.lt_or_gt_of_ne e with e' | e'; exact e'; exfalso; exact h2 (.inl (by omega))))
    · have e1 : ¬ a.at_ < b.at_ := fun e => h1 (.inl e)
      have e2 : ¬ b.at_ < c.at_ := fun e => h2 (.inl e)
      have e3 : ¬ lst a.nm < lst b.nm := fun e => h1 (.inr ⟨by omega, e⟩)
      have e4 : ¬ lst b.nm < lst c.nm := fun e => h2 (.inr ⟨by omega, e⟩)
      have l3 := List.not_lt.1 e3
      have l4 := List.not_lt.1 e4
      exact List.not_lt.2 (List.le_trans l4 l3) q2
theorem ltE_or (a b : En) : decide (orI (cmpI a.at_ b.at_) (cmpS (lst a.nm) (lst b.nm)) < 0) = ltE a b := by
  unfold ltE
  rw [decide_eq_decide]
  unfold orI cmpI
  by_cases h1 : a.at_ < b.at_
  · simp [h1]
  · by_cases h2 : b.at_ < a.at_
    · have : ¬ a.at_ = b.at_ := by omega
      simp [h1, h2, this]
    · have e : a.at_ = b.at_ := by omega
      simp only [e, Int.lt_irrefl, if_false, if_true, false_or, true_and]
      unfold cmpS
      by_cases h3 : lst a.nm < lst b.nm
      · simp [h3]
      · simp only [h3, if_false, iff_false]
        split <;> omega

/-- the cell of an end in the heap's row -/
def pE (e : En) : Value := .pointer (some ⟨e.blk, 0, none⟩)
def eCells (e : En) (k : Nat) : Array Value := #[.string e.nm, .int .i64 e.at_, .int .i64 k]

/-- the watch at b with its heap's row at g (room cap), of N ends -/
structure Ha (w : World) (b mb : Nat) (now : Int) (g cap : Nat) (f : Nat → En) (N : Nat) : Prop where
  top : Whole w b 58 #[.pointer (some ⟨b, 0, none⟩), .int .i64 now, .slice (some ⟨g, 0, none⟩) N cap, .map (some mb)]
  row : ∃ cur : Array Value, Whole w g 71 cur ∧ cur.size = cap ∧ ∀ k, k < N → cur[k]? = some (pE (f k))
  le : N ≤ cap
  max : N ≤ 1073741824
  cmax : cap ≤ maxLen
  ends : ∀ k, k < N → Whole w (f k).blk 73 (eCells (f k) k)
  inj : ∀ j k, j < N → k < N → f j = f k → j = k
  dis : ∀ j k, j < N → k < N → (f j).blk = (f k).blk → f j = f k
/-- the blocks that the heap's calls write -/
def Hs (g : Nat) (f : Nat → En) (N : Nat) (k : Nat) : Prop := k = g ∨ ∃ q, q < N ∧ k = (f q).blk
theorem Hs.rea {g N : Nat} {f f' : Nat → En} {n : Nat} (hr : Rea f f' n) (hn : n ≤ N) {k : Nat} : Hs g f' N k → Hs g f N k := by
  rintro (h | ⟨q, hq, h⟩)
  · exact .inl h
  · obtain ⟨j, hj, e⟩ := (hr.more hn).to q hq
    exact .inr ⟨j, hj, by rw [h, e]⟩

section
variable {w w' : World} {b mb : Nat} {now : Int} {g cap : Nat} {f : Nat → En} {N : Nat}
theorem Ha.gb (h : Ha w b mb now g cap f N) : g ≠ b := by
  obtain ⟨cur, hw, _⟩ := h.row
  exact Whole.ne hw h.top (by decide)
theorem Ha.eb (h : Ha w b mb now g cap f N) {k : Nat} (hk : k < N) : (f k).blk ≠ b := Whole.ne (h.ends k hk) h.top (by decide)
theorem Ha.eg (h : Ha w b mb now g cap f N) {k : Nat} (hk : k < N) : (f k).blk ≠ g := by
  obtain ⟨cur, hw, _⟩ := h.row
  exact Whole.ne (h.ends k hk) hw (by decide)
theorem Ha.outs (h : Ha w b mb now g cap f N) {T : Nat → Prop} (ho : Outs T w w') (hb : ¬ T b) (hn : ∀ k, Hs g f N k → ¬ T k) : Ha w' b mb now g cap f N :=
  { top := h.top.outs ho hb
    row := by
      obtain ⟨cur, hw, h1, h2⟩ := h.row
      exact ⟨cur, hw.outs ho (hn g (.inl rfl)), h1, h2⟩
    le := h.le
    max := h.max
    cmax := h.cmax
    ends := fun k hk => (h.ends k hk).outs ho (hn _ (.inr ⟨k, hk, rfl⟩))
    inj := h.inj
    dis := h.dis }
theorem Ha.go (h : Ha w b mb now g cap f N) (hb : Below w.heap.size w w') : Ha w' b mb now g cap f N := h.outs (T := fun _ => False) (Outs.of hb) (fun e => e) (fun _ _ e => e)
theorem Ha.c2 (h : Ha w b mb now g cap f N) : w.cell? ⟨b, 2, none⟩ = some (.slice (some ⟨g, 0, none⟩) N cap) := by simpa using h.top.cell 2
theorem Ha.cr (h : Ha w b mb now g cap f N) {k : Nat} (hk : k < N) : w.cell? ⟨g, k, none⟩ = some (.pointer (some ⟨(f k).blk, 0, none⟩)) := by
  obtain ⟨cur, hw, h1, h2⟩ := h.row
  rw [hw.cell k, h2 k hk]
  rfl
theorem Ha.e0 (h : Ha w b mb now g cap f N) {k : Nat} (hk : k < N) : w.cell? ⟨(f k).blk, 0, none⟩ = some (.string (f k).nm) := by simpa [eCells] using (h.ends k hk).cell 0
theorem Ha.e1 (h : Ha w b mb now g cap f N) {k : Nat} (hk : k < N) : w.cell? ⟨(f k).blk, 1, none⟩ = some (.int .i64 (f k).at_) := by simpa [eCells] using (h.ends k hk).cell 1
theorem Ha.e2 (h : Ha w b mb now g cap f N) {k : Nat} (hk : k < N) : w.cell? ⟨(f k).blk, 2, none⟩ = some (.int .i64 k) := by simpa [eCells] using (h.ends k hk).cell 2

set_option maxHeartbeats 4000000 in
set_option maxRecDepth 100000 in
theorem less_any (h : Ha w b mb now g cap f N) {i j : Nat} (hi : i < N) (hj : j < N) :
    Calls Try.prog 93 #[.slice (some ⟨g, 0, none⟩) N cap, .int .i64 i, .int .i64 j] w fun e w' => e = .returned (.bool (ltE (f i) (f j))) ∧ Below w.heap.size w w' := by
  have ci := h.cr hi
  have cj := h.cr hj
  have i0 := h.e0 hi
  have i1 := h.e1 hi
  have j0 := h.e0 hj
  have j1 := h.e1 hj
  have hm : (N : Int) ≤ 1073741824 := by have := h.le; have := h.max; omega
  have hL := Lib.hid (ltE_or (f i) (f j))
  generalize f i = x at *
  generalize f j = y at *
  clear h
  have n1 : (0 : Int) ≤ i := by omega
  have n2 : (i : Int) < N := by omega
  have n3 : (0 : Int) ≤ j := by omega
  have n4 : (j : Int) < N := by omega
  have k1 : Calls Try.prog 96 #[.int .i64 x.at_, .int .i64 y.at_] w.drew fun e w' => e = .returned (.int .i64 (cmpI x.at_ y.at_)) ∧ w' = w.drew := (cmpI_any _ _ _).mono fun _ _ q => ⟨q.1, q.2.symm⟩
  have k2 : Calls Try.prog 97 #[.string x.nm, .string y.nm] w.drew fun e w' => e = .returned (.int .i64 (cmpS (lst x.nm) (lst y.nm))) ∧ w' = w.drew := (cmpS_any _ _ _).mono fun _ _ q => ⟨q.1, q.2.symm⟩
  go_enter Try.func93, Try.ntmps93
  go_wp2
  refine wp_region_still_tail 30 (by kernel_rfl) (by kernel_rfl) ?_
  simp only [List.take_succ_cons, List.take_zero, List.drop_succ_cons, List.drop_zero]
  iterate 14 still_step
  still_call k1
  iterate 14 still_step
  still_call k2
  refine wpStill_nil ?_
  clear ci cj i0 i1 j0 j1 k1 k2
  generalize cmpI x.at_ y.at_ = p at *
  generalize cmpS (lst x.nm) (lst y.nm) = q at *
  go_wp2_with fail
  go_at_call 95
  refine (or_any _ p q _ _ (by simp) (by simp)).mono ?_
  rintro e w' ⟨rfl, hw'⟩
  rw [hw']
  clear hw'
  go_wp2
  go_ret
  exact ⟨by rw [← hL.out]; rfl, (show Below w.heap.size w w.drew from bDrewN (Below.refl _ _) 1).alloc (Nat.le_refl _) _⟩

set_option maxHeartbeats 4000000 in
set_option maxRecDepth 100000 in
theorem swap_any (h : Ha w b mb now g cap f N) {i j : Nat} (hi : i < N) (hj : j < N) (hij : i ≠ j) :
    Calls Try.prog 94 #[.slice (some ⟨g, 0, none⟩) N cap, .int .i64 i, .int .i64 j] w fun e w' => e = .returned (.tuple #[]) ∧ Ha w' b mb now g cap (swp f i j) N ∧ Outs (Hs g f N) w w' := by
  have ci := h.cr hi
  have cj := h.cr hj
  have H := Lib.hid h
  have hm : (N : Int) ≤ 1073741824 := by have := h.le; have := h.max; omega
  obtain ⟨cur, hcur, hcs, hck⟩ := h.row
  have fi := hcur.frozen i
  have fj := hcur.frozen j
  clear h
  have n1 : (0 : Int) ≤ i := by omega
  have n2 : (i : Int) < N := by omega
  have n3 : (0 : Int) ≤ j := by omega
  have n4 : (j : Int) < N := by omega
  go_enter Try.func94, Try.ntmps94
  go_wp2
  go_region
  have hcur1 := ((hcur.put i (.pointer (some ⟨(f j).blk, 0, none⟩))).put j (.pointer (some ⟨(f i).blk, 0, none⟩))).drew
  have hbi : Whole _ (f i).blk 73 (eCells (f i) i) := ((((H.out.ends i hi).far (p := ⟨g, i, none⟩) (H.out.eg hi) (.pointer (some ⟨(f j).blk, 0, none⟩))).far (p := ⟨g, j, none⟩) (H.out.eg hi) (.pointer (some ⟨(f i).blk, 0, none⟩)))).drew
  have hbj : Whole _ (f j).blk 73 (eCells (f j) j) := ((((H.out.ends j hj).far (p := ⟨g, i, none⟩) (H.out.eg hj) (.pointer (some ⟨(f j).blk, 0, none⟩))).far (p := ⟨g, j, none⟩) (H.out.eg hj) (.pointer (some ⟨(f i).blk, 0, none⟩)))).drew
  have ho1 : Outs (Hs g f N) w (((w.setCell ⟨g, i, none⟩ (.pointer (some ⟨(f j).blk, 0, none⟩))).setCell ⟨g, j, none⟩ (.pointer (some ⟨(f i).blk, 0, none⟩))).drew) :=
    (((Outs.refl _ w).setCell (p := ⟨g, i, none⟩) (.inl (.inl rfl)) _).setCell (p := ⟨g, j, none⟩) (.inl (.inl rfl)) _).drew
  have hoG : Outs (fun k => k = g) w (((w.setCell ⟨g, i, none⟩ (.pointer (some ⟨(f j).blk, 0, none⟩))).setCell ⟨g, j, none⟩ (.pointer (some ⟨(f i).blk, 0, none⟩))).drew) :=
    (((Outs.refl (fun k => k = g) w).setCell (p := ⟨g, i, none⟩) (.inl rfl) _).setCell (p := ⟨g, j, none⟩) (.inl rfl) _).drew
  generalize (((w.setCell ⟨g, i, none⟩ (.pointer (some ⟨(f j).blk, 0, none⟩))).setCell ⟨g, j, none⟩ (.pointer (some ⟨(f i).blk, 0, none⟩))).drew) = w1 at *
  have hic : i < cur.size := by rw [hcs]; have := H.out.le; omega
  have hjc : j < cur.size := by rw [hcs]; have := H.out.le; omega
  have hne : (f i).blk ≠ (f j).blk := fun e => hij (H.out.inj i j hi hj (H.out.dis i j hi hj e))
  clear ci cj fi fj
  have ci : w1.cell? ⟨g, i, none⟩ = some (.pointer (some ⟨(f j).blk, 0, none⟩)) := by
    rw [hcur1.cell i]; simp [hic, Ne.symm hij]
  have cj : w1.cell? ⟨g, j, none⟩ = some (.pointer (some ⟨(f i).blk, 0, none⟩)) := by
    rw [hcur1.cell j]; simp [hjc]
  have ei : w1.cell? ⟨(f i).blk, 2, none⟩ = some (.int .i64 i) := by simpa [eCells] using hbi.cell 2
  have ej : w1.cell? ⟨(f j).blk, 2, none⟩ = some (.int .i64 j) := by simpa [eCells] using hbj.cell 2
  have fi := hbi.frozen 2
  have fj := hbj.frozen 2
  have HC1 := Lib.hid hcur1
  have HBI := Lib.hid hbi
  have HBJ := Lib.hid hbj
  have HCK := Lib.hid hck
  have HCS := Lib.hid hcs
  clear hcur hcur1 hbi hbj hck hcs hic hjc
  go_wp2
  go_region
  have hgi := H.out.eg hi
  have hgj := H.out.eg hj
  have h1 := ((HC1.out.far (p := ⟨(f j).blk, 2, none⟩) (Ne.symm hgj) (.int .i64 i)).far (p := ⟨(f i).blk, 2, none⟩) (Ne.symm hgi) (.int .i64 j)).drew
  have h2 := ((HBI.out.far (p := ⟨(f j).blk, 2, none⟩) hne (.int .i64 i)).put 2 (.int .i64 j)).drew
  have h3 := ((HBJ.out.put 2 (.int .i64 i)).far (p := ⟨(f i).blk, 2, none⟩) (Ne.symm hne) (.int .i64 j)).drew
  have hT : Outs (fun k => k = g ∨ k = (f i).blk ∨ k = (f j).blk) w ((w1.setCell ⟨(f j).blk, 2, none⟩ (.int .i64 i)).setCell ⟨(f i).blk, 2, none⟩ (.int .i64 j)).drew :=
    (((hoG.mono (fun k e => .inl e)).setCell (p := ⟨(f j).blk, 2, none⟩) (.inl (.inr (.inr rfl))) _).setCell (p := ⟨(f i).blk, 2, none⟩) (.inl (.inr (.inl rfl))) _).drew
  generalize ((w1.setCell ⟨(f j).blk, 2, none⟩ (.int .i64 i)).setCell ⟨(f i).blk, 2, none⟩ (.int .i64 j)).drew = w2 at *
  have HT := Lib.hid hT
  have H1 := Lib.hid h1
  have H2 := Lib.hid h2
  have H3 := Lib.hid h3
  clear hT h1 h2 h3 hgi hgj ci cj ei ej fi fj ho1 hoG
  go_wp2
  go_end0
  have hout : Outs (Hs g f N) w w2 := HT.out.mono fun k hk => by
    rcases hk with rfl | rfl | rfl
    · exact .inl rfl
    · exact .inr ⟨i, hi, rfl⟩
    · exact .inr ⟨j, hj, rfl⟩
  have hrea := Rea.swp f hi hj
  refine ⟨rfl, ?_, hout⟩
  have hgb := H.out.gb
  refine { top := ?_, row := ?_, le := H.out.le, max := H.out.max, cmax := H.out.cmax, ends := ?_, inj := hrea.inj H.out.inj, dis := ?_ }
  · exact H.out.top.outs HT.out fun e => by
      rcases e with e | e | e
      · exact hgb e.symm
      · exact H.out.eb hi e.symm
      · exact H.out.eb hj e.symm
  · refine ⟨_, H1.out, by simp [HCS.out], fun k hk => ?_⟩
    have hkc : k < cur.size := by rw [HCS.out]; have := H.out.le; omega
    by_cases hkj : k = j
    · subst hkj
      rw [swp_j]
      simp [hkc, pE]
    · by_cases hki : k = i
      · subst hki
        rw [swp_i]
        simp [hkc, pE, Ne.symm hkj]
      · rw [swp_far f hki hkj, ← HCK.out k hk]
        simp [Array.getElem?_setIfInBounds, Ne.symm hkj, Ne.symm hki]
  · intro k hk
    by_cases hkj : k = j
    · subst hkj
      rw [swp_j]
      exact H2.out
    · by_cases hki : k = i
      · subst hki
        rw [swp_i]
        exact H3.out
      · rw [swp_far f hki hkj]
        refine (H.out.ends k hk).outs HT.out fun e => ?_
        rcases e with e | e | e
        · exact H.out.eg hk e
        · exact hki (H.out.inj k i hk hi (H.out.dis k i hk hi e))
        · exact hkj (H.out.inj k j hk hj (H.out.dis k j hk hj e))
  · intro a c ha hc e
    obtain ⟨a', ha', ea⟩ := hrea.to a ha
    obtain ⟨c', hc', ec⟩ := hrea.to c hc
    rw [ea, ec] at e ⊢
    exact H.out.dis a' c' ha' hc' e
end
end Go.Proofs.Ytconfkjchjcjgaa
