/- A disk of the program in memory, and its calls that read. -/
import Derived.Test.YtnpomiidkdnebaaBase
import Derived.Test.YtnpomiidkdnebaaShelf
import Derived.Test.YtnpomiidkdnebaaDMath
import Derived.Test.YtnpomiidkdnebaaDFrame
import Derived.Lib.Builder
namespace Go.Proofs.Ytnpomiidkdnebaa
open Go.RowKit Go.Maps
set_option linter.unusedVariables false

/-- how a pointer to a file reads: by its block's number -/
def ptrR : Value → Option (DataW Unit × List MemPlace)
  | .pointer (some ⟨b, 0, none⟩) => some (.lit (.int .i64 b), [])
  | .pointer none => some (.nil, [])
  | _ => none
theorem ptrR_nil {v : Value} {ps : List MemPlace} (h : ptrR v = some (.nil, ps)) : v = .pointer none := by
  unfold ptrR at h
  split at h
  · cases h
  · rfl
  · cases h
theorem ptrR_at {v : Value} {b : Nat} {ps : List MemPlace} (h : ptrR v = some (.lit (.int .i64 b), ps)) : v = .pointer (some ⟨b, 0, none⟩) := by
  unfold ptrR at h
  split at h
  · rename_i b' 
    simp only [Option.some.injEq, Prod.mk.injEq, DataW.lit.injEq, Lit.int.injEq, true_and, Int.natCast_inj] at h
    rw [h.1]
  · cases h
  · cases h

def topCells (d mb : Nat) (D : Dsk) : Array Value := #[.pointer (some ⟨d, 0, none⟩), .bool D.off, .int .i64 (left D), .int .i64 D.fuse, .int .i64 D.steps, .map (some mb)]

structure DkAt (w : World) (S : Nat → Prop) (d mb nn : Nat) (M : DataW Unit) (blk : Nm → Nat) (vs : Nm → Value) (D : Dsk) : Prop where
  top : Whole w d 54 (topCells d mb D)
  map : w.ownsMap Try.prog 9 ptrR mb nn M
  key : ∀ l z, M.atKey (.string l) z = match find D.files l with | none => z | some _ => .lit (.int .i64 (blk l))
  fil : ∀ l f, find D.files l = some f → Whole w (blk l) 69 #[vs l, .int .i64 f.sy] ∧ w.ownsRow 0 5 1 (vs l) f.bs.length (c8 f.bs)
  inj : ∀ l l' f f', find D.files l = some f → find D.files l' = some f' → l ≠ l' → blk l ≠ blk l' ∧ ∀ g, (vs l).ownBlock = some g → (vs l').ownBlock ≠ some g
  sd : S d
  sm : S mb
  sb : ∀ l f, find D.files l = some f → S (blk l) ∧ ∀ g, (vs l).ownBlock = some g → S g
  lt : ∀ k, S k → k < w.heap.size

/-- a disk in memory; e: how many files more than steps it may bear -/
def Dk (e : Nat) (w : World) (S : Nat → Prop) (d : Nat) (D : Dsk) : Prop := ∃ mb nn M blk vs, DkAt w S d mb nn M blk vs D ∧ nn ≤ D.steps + e

/-- what a call makes of the places -/
structure Turn (S S' : Nat → Prop) (w w' : World) : Prop where
  outs : Outs S w w'
  new : ∀ k, S' k → S k ∨ w.heap.size ≤ k

section
variable {S S' S2 : Nat → Prop} {w w' : World} {d mb nn : Nat} {M : DataW Unit} {blk : Nm → Nat} {vs : Nm → Value} {D : Dsk}
theorem Turn.refl (S : Nat → Prop) (w : World) : Turn S S w w := ⟨Outs.refl S w, fun _ h => .inl h⟩
theorem Turn.trans {a b c : World} (h : Turn S S' a b) (k : Turn S' S2 b c) : Turn S S2 a c :=
  ⟨h.outs.trans k.outs h.new, fun i hi => by
    rcases k.new i hi with e | e
    · exact h.new i e
    · exact .inr (Nat.le_trans h.outs.size e)⟩
theorem DkAt.outs (h : DkAt w S d mb nn M blk vs D) (ho : Outs S2 w w') (hn : ∀ k, S k → ¬ S2 k) : DkAt w' S d mb nn M blk vs D :=
  { top := h.top.outs ho (hn _ h.sd)
    map := ownsMap_block_kept h.map (ho.block _ h.map.lt (hn _ h.sm))
    key := h.key
    fil := fun l f hf => ⟨(h.fil l f hf).1.outs ho (hn _ (h.sb l f hf).1), ownRow_block_kept (h.fil l f hf).2 fun g hg => ho.block _ (ownRow_block (h.fil l f hf).2 hg).2.1 (hn _ ((h.sb l f hf).2 g hg))⟩
    inj := h.inj
    sd := h.sd
    sm := h.sm
    sb := h.sb
    lt := fun k hk => Nat.lt_of_lt_of_le (h.lt k hk) ho.size }
theorem DkAt.go (h : DkAt w S d mb nn M blk vs D) (hb : Below w.heap.size w w') : DkAt w' S d mb nn M blk vs D := h.outs (S2 := fun _ => False) (Outs.of hb) (fun _ _ h => h)
theorem Dk.outs {e : Nat} (h : Dk e w S d D) (ho : Outs S2 w w') (hn : ∀ k, S k → ¬ S2 k) : Dk e w' S d D := by
  obtain ⟨mb, nn, M, blk, vs, h, hnn⟩ := h
  exact ⟨mb, nn, M, blk, vs, h.outs ho hn, hnn⟩
theorem Dk.go {e : Nat} (h : Dk e w S d D) (hb : Below w.heap.size w w') : Dk e w' S d D := h.outs (S2 := fun _ => False) (Outs.of hb) (fun _ _ h => h)
theorem Dk.lt {e : Nat} (h : Dk e w S d D) : ∀ k, S k → k < w.heap.size := by
  obtain ⟨mb, nn, M, blk, vs, h, hnn⟩ := h
  exact h.lt
theorem Dk.sd {e : Nat} (h : Dk e w S d D) : S d := by
  obtain ⟨mb, nn, M, blk, vs, h, hnn⟩ := h
  exact h.sd
theorem Dk.more {e : Nat} (h : Dk 0 w S d D) : Dk e w S d D := by
  obtain ⟨mb, nn, M, blk, vs, h, hnn⟩ := h
  exact ⟨mb, nn, M, blk, vs, h, by omega⟩
/-- another head -/
theorem DkAt.head (h : DkAt w S d mb nn M blk vs D) (i : Nat) (u : Value) (D' : Dsk) (hf : D'.files = D.files) (hc : (topCells d mb D).setIfInBounds i u = topCells d mb D') : DkAt (w.setCell ⟨d, i, none⟩ u) S d mb nn M blk vs D' :=
  have hne : ∀ l f, find D.files l = some f → blk l ≠ d := fun l f hlf => Whole.ne (h.fil l f hlf).1 h.top (by decide)
  have hrow : ∀ l f, find D.files l = some f → ∀ g, (vs l).ownBlock = some g → g ≠ d := fun l f hlf g hg => ownRow_ne (h.fil l f hlf).2 hg h.top (by decide)
  { top := by
      have := h.top.put i u
      rwa [hc] at this
    map := h.map.setCell (Whole.ne_map h.top h.map).symm u
    key := by rw [hf]; exact h.key
    fil := fun l f hlf => by
      rw [hf] at hlf
      exact ⟨(h.fil l f hlf).1.far (p := ⟨d, i, none⟩) (hne l f hlf) u, ownRow_block_kept (h.fil l f hlf).2 fun g hg => Below.heap_setCell _ _ _ _ (hrow l f hlf g hg)⟩
    inj := by rw [hf]; exact h.inj
    sd := h.sd
    sm := h.sm
    sb := by rw [hf]; exact h.sb
    lt := fun k hk => by simpa [World.setCell] using h.lt k hk }
end

section
variable {S : Nat → Prop} {w : World} {d mb nn : Nat} {M : DataW Unit} {blk : Nm → Nat} {vs : Nm → Value} {D : Dsk}
theorem DkAt.c0 (h : DkAt w S d mb nn M blk vs D) : w.cell? ⟨d, 0, none⟩ = some (.pointer (some ⟨d, 0, none⟩)) := h.top.cell 0
theorem DkAt.c1 (h : DkAt w S d mb nn M blk vs D) : w.cell? ⟨d, 1, none⟩ = some (.bool D.off) := h.top.cell 1
theorem DkAt.c2 (h : DkAt w S d mb nn M blk vs D) : w.cell? ⟨d, 2, none⟩ = some (.int .i64 (left D)) := h.top.cell 2
theorem DkAt.c3 (h : DkAt w S d mb nn M blk vs D) : w.cell? ⟨d, 3, none⟩ = some (.int .i64 D.fuse) := h.top.cell 3
theorem DkAt.c4 (h : DkAt w S d mb nn M blk vs D) : w.cell? ⟨d, 4, none⟩ = some (.int .i64 D.steps) := h.top.cell 4
theorem DkAt.c5 (h : DkAt w S d mb nn M blk vs D) : w.cell? ⟨d, 5, none⟩ = some (.map (some mb)) := h.top.cell 5
theorem DkAt.fz (h : DkAt w S d mb nn M blk vs D) (i : Nat) : w.frozen? ⟨d, i, none⟩ = false := h.top.frozen i
end

/-! ## whose is it? -/
theorem infoDisk : (Try.prog.info? 54).isSome = true := by kernel_rfl
theorem neq_same (d : Nat) (w : World) : (binOp .neq 23 (.pointer (some ⟨d, 0, none⟩)) (.pointer (some ⟨d, 0, none⟩))).run Try.prog w = .ok (.bool false) w := by
  obtain ⟨j, hj⟩ := Option.isSome_iff_exists.1 infoDisk
  exact Go.Lib.run_neq_ptr_same (P := Try.prog) w _ Try.underlying23 hj
theorem neq_nil (d : Nat) (w : World) : (binOp .neq 23 (.pointer none) (.pointer (some ⟨d, 0, none⟩))).run Try.prog w = .ok (.bool true) w := by
  have h : ∀ k : Nat, (Op.equalIn (k + 1) 23 (.pointer none) (.pointer (some ⟨d, 0, none⟩))).run Try.prog w = .ok false w := fun k => by
    simp [Op.equalIn, run_underlying Try.underlying23]
  simp only [binOp]
  simp [Op.equal, Op.maxDepth, h 9999]
set_option maxRecDepth 4000 in
theorem nobodys_no (d : Nat) (w : World) (h0 : w.cell? ⟨d, 0, none⟩ = some (.pointer (some ⟨d, 0, none⟩))) :
    Calls Try.prog 40 #[.pointer (some ⟨d, 0, none⟩)] w fun e w' => e = .returned (.bool false) ∧ w' = w := by
  have hq := neq_same d w
  go_enter Try.func40, Try.ntmps40
  go_wp2
  go_ret
  exact ⟨by simp, rfl⟩
theorem nobodys_nil (w : World) :
    Calls Try.prog 40 #[.pointer none] w fun e w' => e = .returned (.bool true) ∧ w' = w := by
  go_enter Try.func40, Try.ntmps40
  go_wp2
  go_ret
  exact ⟨by simp, rfl⟩
set_option maxRecDepth 4000 in
theorem nobodys_zero (d : Nat) (w : World) (h0 : w.cell? ⟨d, 0, none⟩ = some (.pointer none)) :
    Calls Try.prog 40 #[.pointer (some ⟨d, 0, none⟩)] w fun e w' => e = .returned (.bool true) ∧ w' = w := by
  have hq := neq_nil d w
  go_enter Try.func40, Try.ntmps40
  go_wp2
  go_ret
  exact ⟨by simp, rfl⟩
/-- a pointer that is no disk's -/
def Nobody (w : World) (p : Option Addr) : Prop := p = none ∨ ∃ d, p = some ⟨d, 0, none⟩ ∧ w.cell? ⟨d, 0, none⟩ = some (.pointer none)
theorem nobodys_yes (p : Option Addr) (w : World) (h : Nobody w p) :
    Calls Try.prog 40 #[.pointer p] w fun e w' => e = .returned (.bool true) ∧ w' = w := by
  rcases h with rfl | ⟨d, rfl, h⟩
  · exact nobodys_nil w
  · exact nobodys_zero d w h

/-! ## On, Steps, Left -/
theorem on_any {e : Nat} {S : Nat → Prop} {d : Nat} {D : Dsk} (w : World) (h : Dk e w S d D) :
    Calls Try.prog 17 #[.pointer (some ⟨d, 0, none⟩)] w fun e w' => e = .returned (.bool (!D.off)) ∧ w' = w := by
  obtain ⟨mb, nn, M, blk, vs, h, hnn⟩ := h
  have c0 := h.c0
  have c1 := h.c1
  go_enter Try.func17, Try.ntmps17
  go_wp2_with (refine (nobodys_no d w c0).mono ?_; rintro e w' ⟨rfl, rfl⟩)
  go_ret
  exact ⟨by simp, rfl⟩
theorem on_no (p : Option Addr) (w : World) (h : Nobody w p) :
    Calls Try.prog 17 #[.pointer p] w fun e w' => e = .returned (.bool false) ∧ w' = w := by
  go_enter Try.func17, Try.ntmps17
  go_wp2_with (refine (nobodys_yes p w h).mono ?_; rintro e w' ⟨rfl, rfl⟩)
  go_ret
  exact ⟨by simp, rfl⟩
theorem steps_any {e : Nat} {S : Nat → Prop} {d : Nat} {D : Dsk} (w : World) (h : Dk e w S d D) :
    Calls Try.prog 28 #[.pointer (some ⟨d, 0, none⟩)] w fun e w' => e = .returned (.int .i64 D.steps) ∧ w' = w := by
  obtain ⟨mb, nn, M, blk, vs, h, hnn⟩ := h
  have c0 := h.c0
  have c4 := h.c4
  go_enter Try.func28, Try.ntmps28
  go_wp2_with (refine (nobodys_no d w c0).mono ?_; rintro e w' ⟨rfl, rfl⟩)
  go_ret
  exact ⟨by simp, rfl⟩
theorem steps_no (p : Option Addr) (w : World) (h : Nobody w p) :
    Calls Try.prog 28 #[.pointer p] w fun e w' => e = .returned (.int .i64 0) ∧ w' = w := by
  go_enter Try.func28, Try.ntmps28
  go_wp2_with (refine (nobodys_yes p w h).mono ?_; rintro e w' ⟨rfl, rfl⟩)
  go_ret
  exact ⟨by simp, rfl⟩
theorem left_any {e : Nat} {S : Nat → Prop} {d : Nat} {D : Dsk} (w : World) (h : Dk e w S d D) :
    Calls Try.prog 18 #[.pointer (some ⟨d, 0, none⟩)] w fun e w' => e = .returned (.int .i64 (dLeft D)) ∧ w' = w := by
  have h' := h
  obtain ⟨mb, nn, M, blk, vs, h, hnn⟩ := h
  have c2 := h.c2
  cases ho : D.off
  · have hl : dLeft D = left D := by simp [dLeft, ho]
    rw [hl]
    generalize left D = x at *
    have HO := Lib.hid ho
    clear ho
    go_enter Try.func18, Try.ntmps18
    go_wp2_with (refine (on_any w h').mono ?_; rw [HO.out]; rintro e w' ⟨rfl, rfl⟩)
    go_ret
    exact ⟨by simp, rfl⟩
  · have hl : dLeft D = 0 := by simp [dLeft, ho]
    rw [hl]
    have HO := Lib.hid ho
    clear ho
    go_enter Try.func18, Try.ntmps18
    go_wp2_with (refine (on_any w h').mono ?_; rw [HO.out]; rintro e w' ⟨rfl, rfl⟩)
    go_ret
    exact ⟨by simp, rfl⟩
theorem left_no (p : Option Addr) (w : World) (h : Nobody w p) :
    Calls Try.prog 18 #[.pointer p] w fun e w' => e = .returned (.int .i64 0) ∧ w' = w := by
  go_enter Try.func18, Try.ntmps18
  go_wp2_with (refine (on_no p w h).mono ?_; rintro e w' ⟨rfl, rfl⟩)
  go_ret
  exact ⟨by simp, rfl⟩
/-! ## Free -/
theorem free_any {S : Nat → Prop} {d : Nat} {D : Dsk} (w : World) (h : Dk 0 w S d D) :
    Calls Try.prog 27 #[.pointer (some ⟨d, 0, none⟩)] w fun e w' => e = .returned (.int .i64 0) ∧ Dk 0 w' S d (dFree D) ∧ Turn S S w w' := by
  obtain ⟨mb, nn, M, blk, vs, h, hnn⟩ := h
  have c0 := h.c0
  have c3 := h.c3
  have f3 := h.fz 3
  go_enter Try.func27, Try.ntmps27
  go_wp2_with (refine (nobodys_no d w c0).mono ?_; rintro e w' ⟨rfl, rfl⟩)
  go_ret
  exact ⟨by simp, ⟨mb, nn, M, blk, vs, h.head 3 _ (dFree D) rfl (by simp [topCells, dFree, left]), hnn⟩, (Outs.refl _ _).setCell (.inl h.sd) _, fun _ h => .inl h⟩
theorem free_no (p : Option Addr) (w : World) (h : Nobody w p) :
    Calls Try.prog 27 #[.pointer p] w fun e w' => e = .returned (.int .i64 1) ∧ w' = w := by
  go_enter Try.func27, Try.ntmps27
  go_wp2_with (refine (nobodys_yes p w h).mono ?_; rintro e w' ⟨rfl, rfl⟩)
  go_ret
  exact ⟨by simp, rfl⟩
end Go.Proofs.Ytnpomiidkdnebaa
