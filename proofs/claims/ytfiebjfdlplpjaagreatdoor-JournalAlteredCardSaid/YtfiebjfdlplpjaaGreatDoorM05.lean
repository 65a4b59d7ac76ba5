/- Several texts, each a section: DFrame, DObj, DName, DFind, DStep, DSync. -/
import Derived.Test.YtfiebjfdlplpjaaGreatDoorM02
import Derived.Maps.OwnSet
import Derived.Sort.KeysCollected
import Derived.Test.YtfiebjfdlplpjaaGreatDoorM04
import Derived.Test.YtfiebjfdlplpjaaGreatDoorM01
import Derived.Lib.Builder
import Derived.StillTailTactics
section
/- What a call leaves as it was: all but the blocks S, and but for what is new. No program is named here. -/
namespace Go.Proofs.YtfiebjfdlplpjaaGreatDoor
open Go.RowKit
set_option linter.unusedVariables false

theorem bDrewN {B : Nat} {a w : World} (h : Below B a w) (n : Nat) : Below B a (w.drewN n) := ⟨h.os, h.tape, h.output, h.size, h.block⟩
structure Outs (S : Nat → Prop) (w w' : World) : Prop where
  os : w'.os = w.os
  tape : w'.tape = w.tape
  output : w'.output = w.output
  size : w.heap.size ≤ w'.heap.size
  block : ∀ k, k < w.heap.size → ¬ S k → w'.heap[k]? = w.heap[k]?

section
variable {S S' : Nat → Prop} {w w' a b c : World}
theorem Outs.refl (S : Nat → Prop) (w : World) : Outs S w w := ⟨rfl, rfl, rfl, Nat.le_refl _, fun _ _ _ => rfl⟩
theorem Outs.trans (h : Outs S a b) (k : Outs S' b c) (hs : ∀ i, S' i → S i ∨ a.heap.size ≤ i) : Outs S a c :=
  ⟨k.os.trans h.os, k.tape.trans h.tape, k.output.trans h.output, Nat.le_trans h.size k.size, fun i hi hn => (k.block i (Nat.lt_of_lt_of_le hi h.size) (fun e => by rcases hs i e with e | e; exact hn e; omega)).trans (h.block i hi hn)⟩
theorem Outs.same (h : Outs S a b) (k : Outs S b c) : Outs S a c := h.trans k fun _ hi => .inl hi
theorem Outs.drewN (h : Outs S a b) (n : Nat) : Outs S a (b.drewN n) := ⟨h.os, h.tape, h.output, h.size, h.block⟩
theorem Outs.drew (h : Outs S a b) : Outs S a b.drew := ⟨h.os, h.tape, h.output, h.size, h.block⟩
theorem Outs.alloc (h : Outs S a b) (o : Obj) : Outs S a (b.alloc o) :=
  ⟨h.os, h.tape, h.output, by have := h.size; simp; omega, fun k hk hn => (Below.heap_alloc b o k (Nat.lt_of_lt_of_le hk h.size)).trans (h.block k hk hn)⟩
theorem Outs.setCell (h : Outs S a b) {p : Addr} (hp : S p.block ∨ a.heap.size ≤ p.block) (u : Value) : Outs S a (b.setCell p u) :=
  ⟨h.os, h.tape, h.output, by have := h.size; simp [World.setCell]; exact this, fun k hk hn => (Below.heap_setCell b p u k (fun e => by rcases hp with hp | hp; exact hn (e ▸ hp); omega)).trans (h.block k hk hn)⟩
theorem Outs.grown (h : Outs S a b) {row : Option Nat} (hg : b.grownBy c row) (hr : ∀ k, row = some k → S k ∨ a.heap.size ≤ k) : Outs S a c :=
  ⟨hg.os.trans h.os, hg.tape.trans h.tape, hg.output.trans h.output, Nat.le_trans h.size hg.size, fun k hk hn => (hg.block k (Nat.lt_of_lt_of_le hk h.size) (fun e => by rcases hr k e.symm with e | e; exact hn e; omega)).trans (h.block k hk hn)⟩
theorem Outs.then (h : Outs S a b) {B : Nat} (hb : Below B b c) (hB : a.heap.size ≤ B) : Outs S a c :=
  ⟨hb.os.trans h.os, hb.tape.trans h.tape, hb.output.trans h.output, Nat.le_trans h.size hb.size, fun k hk hn => (hb.block k (by omega)).trans (h.block k hk hn)⟩
theorem Outs.of (hb : Below w.heap.size w w') : Outs S w w' := (Outs.refl S w).then hb (Nat.le_refl _)
theorem Outs.below (h : Outs S w w') {B : Nat} (hS : ∀ k, S k → B ≤ k) (hB : B ≤ w.heap.size) : Below B w w' :=
  ⟨h.os, h.tape, h.output, h.size, fun k hk => h.block k (by omega) (fun e => by have := hS k e; omega)⟩
theorem Outs.mono (h : Outs S w w') (hs : ∀ k, S k → S' k) : Outs S' w w' := ⟨h.os, h.tape, h.output, h.size, fun k hk hn => h.block k hk (fun e => hn (hs k e))⟩
theorem Outs.cell (h : Outs S w w') {p : Addr} (hp : p.block < w.heap.size) (hn : ¬ S p.block) : w'.cell? p = w.cell? p := World.cell?_of_block (h.block _ hp hn)
theorem Whole.outs {g : Nat} {t : TypeId} {cs : Array Value} (hw : Whole w g t cs) (h : Outs S w w') (hn : ¬ S g) : Whole w' g t cs := (h.block g hw.lt hn).trans hw
theorem turned_outs {H : Type} {b : Nat} (h : w.mapTurned w' b) (hS : S b) : Outs S w w' := by
  have := h.grown
  exact (Outs.refl S w).grown this (fun k hk => by cases hk; exact .inl hS)
end

/-- what a call makes of the places -/
structure Turn (S S' : Nat → Prop) (w w' : World) : Prop where
  outs : Outs S w w'
  new : ∀ k, S' k → S k ∨ w.heap.size ≤ k

section
variable {S S' S2 : Nat → Prop} {w w' : World}
theorem Turn.refl (S : Nat → Prop) (w : World) : Turn S S w w := ⟨Outs.refl S w, fun _ h => .inl h⟩
theorem Turn.trans {a b c : World} (h : Turn S S' a b) (k : Turn S' S2 b c) : Turn S S2 a c :=
  ⟨h.outs.trans k.outs h.new, fun i hi => by
    rcases k.new i hi with e | e
    · exact h.new i e
    · exact .inr (Nat.le_trans h.outs.size e)⟩
theorem Turn.below {w w' : World} (h : Below w.heap.size w w') : Turn S S w w' := ⟨Outs.of h, fun k hk => .inl hk⟩
end

/-- two blocks of other types, or of other cells, are two -/
theorem Whole.ne {w : World} {g k : Nat} {t u : TypeId} {cs ds : Array Value} (h : Whole w g t cs) (h' : Whole w k u ds) (hne : t ≠ u) : g ≠ k := by
  rintro rfl
  unfold Whole at h h'
  rw [h] at h'
  injection h' with h'
  injection h' with _ h'
  exact hne h'
theorem Whole.ne_map {H : Type} {P : Program} {w : World} {g : Nat} {t : TypeId} {cs : Array Value} (h : Whole w g t cs) {k : TypeId} {R : Value → Option (DataW H × List MemPlace)} {b n : Nat} {D : DataW H} (h' : w.ownsMap P k R b n D) : g ≠ b := by
  rintro rfl
  obtain ⟨es, cl, h', _⟩ := h'
  unfold Whole at h
  rw [h] at h'
  cases h'
/-- a row's block holds cells of its type -/
theorem ownRow_block {w : World} {B : Nat} {e : TypeId} {size : Nat} {v : Value} {n : Nat} {xs : List Value} (h : w.ownsRow B e size v n xs) {g : Nat} (hg : v.ownBlock = some g) : B ≤ g ∧ g < w.heap.size ∧ ∃ cs, w.heap[g]? = some (.cells cs e (0, 0)) := by
  rcases h.2 with ⟨rfl, _⟩ | ⟨g', cap, cur, rfl, hb, hh, _⟩
  · cases hg
  · obtain rfl : g' = g := by simpa [Value.ownBlock] using hg
    exact ⟨hb, (Array.getElem?_eq_some_iff.1 hh).1, _, hh⟩
theorem ownRow_ne {w : World} {B : Nat} {e : TypeId} {size : Nat} {v : Value} {n : Nat} {xs : List Value} (h : w.ownsRow B e size v n xs) {g k : Nat} (hg : v.ownBlock = some g) {t : TypeId} {cs : Array Value} (h' : Whole w k t cs) (hne : e ≠ t) : g ≠ k := by
  obtain ⟨_, _, ds, hh⟩ := ownRow_block h hg
  exact Whole.ne (cs := ds) hh h' hne
theorem ownRow_ne_map {H : Type} {P : Program} {w : World} {B : Nat} {e : TypeId} {size : Nat} {v : Value} {n : Nat} {xs : List Value} (h : w.ownsRow B e size v n xs) {g : Nat} (hg : v.ownBlock = some g) {k : TypeId} {R : Value → Option (DataW H × List MemPlace)} {b m : Nat} {D : DataW H} (h' : w.ownsMap P k R b m D) : g ≠ b := by
  obtain ⟨_, _, ds, hh⟩ := ownRow_block h hg
  exact Whole.ne_map (cs := ds) hh h'
/-- a row stands where its block stands -/
theorem ownRow_block_kept {w w' : World} {B : Nat} {e : TypeId} {size : Nat} {v : Value} {n : Nat} {xs : List Value} (h : w.ownsRow B e size v n xs) (hk : ∀ g, v.ownBlock = some g → w'.heap[g]? = w.heap[g]?) : w'.ownsRow B e size v n xs := by
  rcases h.2 with ⟨rfl, hn⟩ | ⟨g, cap, cur, rfl, hb, hh, r⟩
  · exact ⟨h.1, .inl ⟨rfl, hn⟩⟩
  · exact ⟨h.1, .inr ⟨g, cap, cur, rfl, hb, (hk g (by simp [Value.ownBlock])).trans hh, r⟩⟩
theorem ownRow_base {w : World} {B B' : Nat} {e : TypeId} {size : Nat} {v : Value} {n : Nat} {xs : List Value} (h : w.ownsRow B e size v n xs) (hk : ∀ g, v.ownBlock = some g → B' ≤ g) : w.ownsRow B' e size v n xs := by
  rcases h.2 with ⟨rfl, hn⟩ | ⟨g, cap, cur, rfl, hb, hh, r⟩
  · exact ⟨h.1, .inl ⟨rfl, hn⟩⟩
  · exact ⟨h.1, .inr ⟨g, cap, cur, rfl, hk g (by simp [Value.ownBlock]), hh, r⟩⟩
theorem ownsMap_block_kept {H : Type} {P : Program} {w w' : World} {k : TypeId} {R : Value → Option (DataW H × List MemPlace)} {b n : Nat} {D : DataW H} (h : w.ownsMap P k R b n D) (hk : w'.heap[b]? = w.heap[b]?) : w'.ownsMap P k R b n D := by
  obtain ⟨es, cl, h1, r⟩ := h
  exact ⟨es, cl, hk.trans h1, r⟩
end Go.Proofs.YtfiebjfdlplpjaaGreatDoor
end

section
/- A disk of the program in memory, and its calls that read. -/
namespace Go.Proofs.YtfiebjfdlplpjaaGreatDoor
open Go.RowKit Go.Maps
set_option linter.unusedVariables false

/-- how a pointer to a file reads: by its block's number -/
def ptrR : Value → Option (DataW Unit × List MemPlace)
  | .pointer (some ⟨b, 0, none⟩) => some (.lit (.int .i64 b), [])
  | .pointer none => some (.nil, [])
  | _ => none
theorem ptrR_nil {v : Value} {ps : List MemPlace} (h : ptrR v = some (.nil, ps)) : v = .pointer none := by
  unfold ptrR at h
  split at h
  · cases h
  · rfl
  · cases h
theorem ptrR_at {v : Value} {b : Nat} {ps : List MemPlace} (h : ptrR v = some (.lit (.int .i64 b), ps)) : v = .pointer (some ⟨b, 0, none⟩) := by
  unfold ptrR at h
  split at h
  · rename_i b' 
    simp only [Option.some.injEq, Prod.mk.injEq, DataW.lit.injEq, Lit.int.injEq, true_and, Int.natCast_inj] at h
    rw [h.1]
  · cases h
  · cases h

def topCells (d mb : Nat) (D : Dsk) : Array Value := #[.pointer (some ⟨d, 0, none⟩), .bool D.off, .int .i64 (left D), .int .i64 D.fuse, .int .i64 D.steps, .map (some mb)]

structure DkAt (w : World) (S : Nat → Prop) (d mb nn : Nat) (M : DataW Unit) (blk : Nm → Nat) (vs : Nm → Value) (D : Dsk) : Prop where
  top : Whole w d 48 (topCells d mb D)
  map : w.ownsMap Tryz.prog 9 ptrR mb nn M
  key : ∀ l z, M.atKey (.string l) z = match find D.files l with | none => z | some _ => .lit (.int .i64 (blk l))
  fil : ∀ l f, find D.files l = some f → Whole w (blk l) 93 #[vs l, .int .i64 f.sy] ∧ w.ownsRow 0 5 1 (vs l) f.bs.length (c8 f.bs)
  inj : ∀ l l' f f', find D.files l = some f → find D.files l' = some f' → l ≠ l' → blk l ≠ blk l' ∧ ∀ g, (vs l).ownBlock = some g → (vs l').ownBlock ≠ some g
  sd : S d
  sm : S mb
  sb : ∀ l f, find D.files l = some f → S (blk l) ∧ ∀ g, (vs l).ownBlock = some g → S g
  lt : ∀ k, S k → k < w.heap.size

/-- a disk in memory; e: how many files more than steps it may bear -/
def Dk (e : Nat) (w : World) (S : Nat → Prop) (d : Nat) (D : Dsk) : Prop := ∃ mb nn M blk vs, DkAt w S d mb nn M blk vs D ∧ nn ≤ D.steps + e

section
variable {S S' S2 : Nat → Prop} {w w' : World} {d mb nn : Nat} {M : DataW Unit} {blk : Nm → Nat} {vs : Nm → Value} {D : Dsk}
theorem DkAt.outs (h : DkAt w S d mb nn M blk vs D) (ho : Outs S2 w w') (hn : ∀ k, S k → ¬ S2 k) : DkAt w' S d mb nn M blk vs D :=
  { top := h.top.outs ho (hn _ h.sd)
    map := ownsMap_block_kept h.map (ho.block _ h.map.lt (hn _ h.sm))
    key := h.key
    fil := fun l f hf => ⟨(h.fil l f hf).1.outs ho (hn _ (h.sb l f hf).1), ownRow_block_kept (h.fil l f hf).2 fun g hg => ho.block _ (ownRow_block (h.fil l f hf).2 hg).2.1 (hn _ ((h.sb l f hf).2 g hg))⟩
    inj := h.inj
    sd := h.sd
    sm := h.sm
    sb := h.sb
    lt := fun k hk => Nat.lt_of_lt_of_le (h.lt k hk) ho.size }
theorem DkAt.go (h : DkAt w S d mb nn M blk vs D) (hb : Below w.heap.size w w') : DkAt w' S d mb nn M blk vs D := h.outs (S2 := fun _ => False) (Outs.of hb) (fun _ _ h => h)
theorem Dk.outs {e : Nat} (h : Dk e w S d D) (ho : Outs S2 w w') (hn : ∀ k, S k → ¬ S2 k) : Dk e w' S d D := by
  obtain ⟨mb, nn, M, blk, vs, h, hnn⟩ := h
  exact ⟨mb, nn, M, blk, vs, h.outs ho hn, hnn⟩
theorem Dk.go {e : Nat} (h : Dk e w S d D) (hb : Below w.heap.size w w') : Dk e w' S d D := h.outs (S2 := fun _ => False) (Outs.of hb) (fun _ _ h => h)
theorem Dk.lt {e : Nat} (h : Dk e w S d D) : ∀ k, S k → k < w.heap.size := by
  obtain ⟨mb, nn, M, blk, vs, h, hnn⟩ := h
  exact h.lt
theorem Dk.sd {e : Nat} (h : Dk e w S d D) : S d := by
  obtain ⟨mb, nn, M, blk, vs, h, hnn⟩ := h
  exact h.sd
theorem Dk.more {e : Nat} (h : Dk 0 w S d D) : Dk e w S d D := by
  obtain ⟨mb, nn, M, blk, vs, h, hnn⟩ := h
  exact ⟨mb, nn, M, blk, vs, h, by omega⟩
/-- another head -/
theorem DkAt.head (h : DkAt w S d mb nn M blk vs D) (i : Nat) (u : Value) (D' : Dsk) (hf : D'.files = D.files) (hc : (topCells d mb D).setIfInBounds i u = topCells d mb D') : DkAt (w.setCell ⟨d, i, none⟩ u) S d mb nn M blk vs D' :=
  have hne : ∀ l f, find D.files l = some f → blk l ≠ d := fun l f hlf => Whole.ne (h.fil l f hlf).1 h.top (by decide)
  have hrow : ∀ l f, find D.files l = some f → ∀ g, (vs l).ownBlock = some g → g ≠ d := fun l f hlf g hg => ownRow_ne (h.fil l f hlf).2 hg h.top (by decide)
  { top := by
      have := h.top.put i u
      rwa [hc] at this
    map := h.map.setCell (Whole.ne_map h.top h.map).symm u
    key := by rw [hf]; exact h.key
    fil := fun l f hlf => by
      rw [hf] at hlf
      exact ⟨(h.fil l f hlf).1.far (p := ⟨d, i, none⟩) (hne l f hlf) u, ownRow_block_kept (h.fil l f hlf).2 fun g hg => Below.heap_setCell _ _ _ _ (hrow l f hlf g hg)⟩
    inj := by rw [hf]; exact h.inj
    sd := h.sd
    sm := h.sm
    sb := by rw [hf]; exact h.sb
    lt := fun k hk => by simpa [World.setCell] using h.lt k hk }
end

section
variable {S : Nat → Prop} {w : World} {d mb nn : Nat} {M : DataW Unit} {blk : Nm → Nat} {vs : Nm → Value} {D : Dsk}
theorem DkAt.c0 (h : DkAt w S d mb nn M blk vs D) : w.cell? ⟨d, 0, none⟩ = some (.pointer (some ⟨d, 0, none⟩)) := h.top.cell 0
theorem DkAt.c1 (h : DkAt w S d mb nn M blk vs D) : w.cell? ⟨d, 1, none⟩ = some (.bool D.off) := h.top.cell 1
theorem DkAt.c2 (h : DkAt w S d mb nn M blk vs D) : w.cell? ⟨d, 2, none⟩ = some (.int .i64 (left D)) := h.top.cell 2
theorem DkAt.c3 (h : DkAt w S d mb nn M blk vs D) : w.cell? ⟨d, 3, none⟩ = some (.int .i64 D.fuse) := h.top.cell 3
theorem DkAt.c4 (h : DkAt w S d mb nn M blk vs D) : w.cell? ⟨d, 4, none⟩ = some (.int .i64 D.steps) := h.top.cell 4
theorem DkAt.c5 (h : DkAt w S d mb nn M blk vs D) : w.cell? ⟨d, 5, none⟩ = some (.map (some mb)) := h.top.cell 5
theorem DkAt.fz (h : DkAt w S d mb nn M blk vs D) (i : Nat) : w.frozen? ⟨d, i, none⟩ = false := h.top.frozen i
end

/-! ## whose is it? -/
theorem infoDisk : (Tryz.prog.info? 48).isSome = true := by kernel_rfl
theorem neq_same (d : Nat) (w : World) : (binOp .neq 23 (.pointer (some ⟨d, 0, none⟩)) (.pointer (some ⟨d, 0, none⟩))).run Tryz.prog w = .ok (.bool false) w := by
  obtain ⟨j, hj⟩ := Option.isSome_iff_exists.1 infoDisk
  exact Go.Lib.run_neq_ptr_same (P := Tryz.prog) w _ Tryz.underlying23 hj
theorem neq_nil (d : Nat) (w : World) : (binOp .neq 23 (.pointer none) (.pointer (some ⟨d, 0, none⟩))).run Tryz.prog w = .ok (.bool true) w := by
  have h : ∀ k : Nat, (Op.equalIn (k + 1) 23 (.pointer none) (.pointer (some ⟨d, 0, none⟩))).run Tryz.prog w = .ok false w := fun k => by
    simp [Op.equalIn, run_underlying Tryz.underlying23]
  simp only [binOp]
  simp [Op.equal, Op.maxDepth, h 9999]
set_option maxRecDepth 4000 in
theorem nobodys_no (d : Nat) (w : World) (h0 : w.cell? ⟨d, 0, none⟩ = some (.pointer (some ⟨d, 0, none⟩))) :
    Calls Tryz.prog 41 #[.pointer (some ⟨d, 0, none⟩)] w fun e w' => e = .returned (.bool false) ∧ w' = w := by
  have hq := neq_same d w
  go_enter Tryz.func41, Tryz.ntmps41
  go_wp2
  go_ret
  exact ⟨by simp, rfl⟩
theorem nobodys_nil (w : World) :
    Calls Tryz.prog 41 #[.pointer none] w fun e w' => e = .returned (.bool true) ∧ w' = w := by
  go_enter Tryz.func41, Tryz.ntmps41
  go_wp2
  go_ret
  exact ⟨by simp, rfl⟩
set_option maxRecDepth 4000 in
theorem nobodys_zero (d : Nat) (w : World) (h0 : w.cell? ⟨d, 0, none⟩ = some (.pointer none)) :
    Calls Tryz.prog 41 #[.pointer (some ⟨d, 0, none⟩)] w fun e w' => e = .returned (.bool true) ∧ w' = w := by
  have hq := neq_nil d w
  go_enter Tryz.func41, Tryz.ntmps41
  go_wp2
  go_ret
  exact ⟨by simp, rfl⟩
/-- a pointer that is no disk's -/
def Nobody (w : World) (p : Option Addr) : Prop := p = none ∨ ∃ d, p = some ⟨d, 0, none⟩ ∧ w.cell? ⟨d, 0, none⟩ = some (.pointer none)
theorem nobodys_yes (p : Option Addr) (w : World) (h : Nobody w p) :
    Calls Tryz.prog 41 #[.pointer p] w fun e w' => e = .returned (.bool true) ∧ w' = w := by
  rcases h with rfl | ⟨d, rfl, h⟩
  · exact nobodys_nil w
  · exact nobodys_zero d w h

/-! ## On, Steps, Left -/
theorem on_any {e : Nat} {S : Nat → Prop} {d : Nat} {D : Dsk} (w : World) (h : Dk e w S d D) :
    Calls Tryz.prog 47 #[.pointer (some ⟨d, 0, none⟩)] w fun e w' => e = .returned (.bool (!D.off)) ∧ w' = w := by
  obtain ⟨mb, nn, M, blk, vs, h, hnn⟩ := h
  have c0 := h.c0
  have c1 := h.c1
  go_enter Tryz.func47, Tryz.ntmps47
  go_wp2_with (refine (nobodys_no d w c0).mono ?_; rintro e w' ⟨rfl, rfl⟩)
  go_ret
  exact ⟨by simp, rfl⟩
theorem on_no (p : Option Addr) (w : World) (h : Nobody w p) :
    Calls Tryz.prog 47 #[.pointer p] w fun e w' => e = .returned (.bool false) ∧ w' = w := by
  go_enter Tryz.func47, Tryz.ntmps47
  go_wp2_with (refine (nobodys_yes p w h).mono ?_; rintro e w' ⟨rfl, rfl⟩)
  go_ret
  exact ⟨by simp, rfl⟩
/-! ## Free -/
end Go.Proofs.YtfiebjfdlplpjaaGreatDoor
end

section
/- The program's test of a file's name. -/
namespace Go.Proofs.YtfiebjfdlplpjaaGreatDoor
open Go.RowKit Go.Maps
set_option linter.unusedVariables false

def okB (b : UInt8) : Bool := decide (33 ≤ b.toNat) && decide (b.toNat ≤ 126)

theorem okN_long {l : Nm} (h : 24 < l.length) : okN l = false := by simp [okN]; omega
theorem okN_short {l : Nm} (h1 : 1 ≤ l.length) (h2 : l.length ≤ 24) : okN l = l.all okB := by
  have a : decide (1 ≤ l.length) = true := by simpa using h1
  have b : decide (l.length ≤ 24) = true := by simpa using h2
  unfold okN
  rw [a, b]
  rfl
theorem okN_len {l : Nm} (h : okN l = true) : 1 ≤ l.length ∧ l.length ≤ 24 := by
  simp only [okN, Bool.and_eq_true, decide_eq_true_eq] at h
  exact ⟨h.1, h.2.1⟩

set_option maxHeartbeats 800000 in
theorem mayNot_any (s : ByteArray) (hs : s.size ≤ 9223372036854775807) (w : World) :
    Calls Tryz.prog 55 #[.string s] w fun e w' => e = .returned (.bool (!okN s.data.toList)) ∧ ∃ n, w' = w.drewN n := by
  have hsz : s.size = s.data.toList.length := by simp
  have hl : s.toList = s.data.toList := Lib.toList_data s
  have he : (ByteArray.mk #[]).toList = [] := by rw [Lib.toList_data]
  by_cases h0 : s.size = 0
  · have hn : s.data.toList = [] := List.eq_nil_of_length_eq_zero (by omega)
    have hq : s.toList = [] := by rw [hl, hn]
    have hf : okN s.data.toList = false := by rw [hn]; rfl
    rw [hf]
    clear hf hn hl he hsz
    go_enter Tryz.func55, Tryz.ntmps55
    go_wp2
    go_ret
    exact ⟨by simp, 0, rfl⟩
  · have hq : ¬ s.toList = [] := by
      rw [hl]
      intro hn
      rw [hn] at hsz
      exact h0 hsz
    have hq1 : s.toList.isEmpty = false := by simpa using hq
    by_cases h24 : 24 < s.size
    · rw [okN_long (by omega)]
      have h24' : (24 : Int) < s.size := by omega
      clear hl he hsz h24
      go_enter Tryz.func55, Tryz.ntmps55
      go_wp2
      go_ret
      exact ⟨by simp, 0, rfl⟩
    · rw [okN_short (by omega) (by omega)]
      have h24' : ¬ (24 : Int) < s.size := by omega
      have HL := Lib.hid hl
      have HS := Lib.hid hsz
      generalize hr : s.data.toList.all okB = r
      have HR := Lib.hid hr
      clear hr
      clear hl he hsz h24
      go_enter Tryz.func55, Tryz.ntmps55
      go_wp2
      go_loopw [13] (fun i wr => ∃ k : Nat, k ≤ s.size ∧ i = .int .i64 k ∧ (s.data.toList.take k).all okB = true ∧ ∃ n, wr = w.drewN n) (fun i _ => s.size - (intOf i).toNat)
      case atStart => exact ⟨0, Nat.zero_le _, rfl, rfl, 0, rfl⟩
      case round =>
        obtain ⟨k, hk, rfl, hall, n, rfl⟩ := hrel
        have HA := Lib.hid hall
        clear hall
        by_cases hlt : k < s.size
        · have hg : s.data[k]'(by exact hlt) = s.data.toList[k]'(by rw [← HS.out]; exact hlt) := by simp
          have hkl : k < s.data.toList.length := by rw [← HS.out]; exact hlt
          have hb : okB (s.data.toList[k]'hkl) = decide (33 ≤ ((s[k]'hlt).toNat : Int) ∧ ((s[k]'hlt).toNat : Int) ≤ 126) := by
            have e : s[k]'hlt = s.data.toList[k]'hkl := by rw [← hg]; rfl
            rw [e]
            simp only [okB, Bool.decide_and]
            congr 1 <;> exact decide_eq_decide.2 (by omega)
          have bad : okB (s.data.toList[k]'hkl) = false → s.data.toList.all okB = false := fun h => by
            rw [List.all_eq_false]
            exact ⟨_, List.getElem_mem hkl, by rw [h]; decide⟩
          have HB := Lib.hid hb
          have HBad := Lib.hid bad
          clear hg hb bad
          go_wp2
          all_goals first
            | (go_roundw
               case rel =>
                 refine ⟨k + 1, by omega, by go_num, ?_, n, rfl⟩
                 rw [List.take_add_one, List.getElem?_eq_getElem hkl, List.all_append, HA.out]
                 simp only [Option.toList_some, List.all_cons, List.all_nil, Bool.and_true, Bool.true_and]
                 rw [HB.out]
                 exact decide_eq_true (by omega)
               case measure => simp [intOf]; omega)
            | (go_ret
               refine ⟨?_, n, rfl⟩
               rw [← HR.out, HBad.out (by rw [HB.out]; exact decide_eq_false (by omega))]
               rfl)
        · go_wp2
          go_ret
          refine ⟨?_, n, rfl⟩
          have := HA.out
          rw [List.take_of_length_le (by rw [← HS.out]; omega)] at this
          rw [← HR.out, this]
          rfl

/-- texts that the model can hold -/
abbrev Txt := { s : ByteArray // s.size ≤ 9223372036854775807 }
instance : Inhabited Txt := ⟨⟨ByteArray.mk #[], by decide⟩⟩
def encT (s : Txt) : Value := .string s.1
theorem mayNot_pred (w : World) : PredAt Tryz.prog 55 #[] encT (fun s => !okN s.1.data.toList) w := fun W x hb => mayNot_any x.1 x.2 W
theorem mayNot_enters : ∀ args w, (callFunc 55 args).run Tryz.prog w = .ok (.enter 55 args) w := enters_of Tryz.func55 (by kernel_rfl) rfl
/-- the test over a new slice of names -/
theorem names_any (ss : List Txt) (b n c : Nat) (w : World) (hn : ss.length = n) (hbig : n ≤ 9223372036854775807) (hc : ∀ j, j < ss.length → w.cell? ⟨b, j, none⟩ = some (encT ss[j]!)) :
    Calls Tryz.prog 78 #[.slice (some ⟨b, 0, none⟩) n c, .func (.func 55) #[] #[]] w fun e w' => e = .returned (.bool (!(ss.map (·.1.data.toList)).all okN)) ∧ ∃ q, w' = w.drewN q := by
  have h := Tryz.slices_ContainsFunc_f78 encT (fun s => !okN s.1.data.toList) 55 #[] mayNot_enters b 0 n c ss w (mayNot_pred w) (by omega) hbig (by simpa using hc)
  refine h.mono ?_
  rintro e w' ⟨rfl, q, rfl⟩
  refine ⟨?_, q, rfl⟩
  rw [List.take_of_length_le (by omega), List.any_eq_not_all_not, List.all_map]
  congr 3
  simp only [Bool.not_not]
  rfl
end Go.Proofs.YtfiebjfdlplpjaaGreatDoor
end

section
/- The program's refusals, and its search for a file. -/
namespace Go.Proofs.YtfiebjfdlplpjaaGreatDoor
open Go.RowKit Go.Maps Go.WideMaps
set_option linter.unusedVariables false

def lst (s : ByteArray) : Nm := s.data.toList
theorem lst_length (s : ByteArray) : (lst s).length = s.size := by simp [lst]
theorem lst_inj {a b : ByteArray} (h : lst a = lst b) : a = b := by
  apply ByteArray.ext
  exact Array.toList_inj.1 h

theorem refusal_any {S : Nat → Prop} {d : Nat} {D : Dsk} (ss : List Txt) (b n c : Nat) (w : World) (h : Dk 0 w S d D) (hn : ss.length = n) (hbig : n ≤ 9223372036854775807) (hc : ∀ j, j < ss.length → w.cell? ⟨b, j, none⟩ = some (encT ss[j]!)) :
    Calls Tryz.prog 53 #[.pointer (some ⟨d, 0, none⟩), .slice (some ⟨b, 0, none⟩) n c] w fun e w' => e = .returned (.int .i64 (ask D (ss.map (lst ·.1)))) ∧ ∃ q, w' = w.drewN q := by
  obtain ⟨mb, nn, M, blk, vs, h, hnn⟩ := h
  have c0 := h.c0
  have c1 := h.c1
  have hcon := names_any ss b n c w hn hbig hc
  have ha : ask D (ss.map (lst ·.1)) = if D.off then 10 else if (ss.map (·.1.data.toList)).all okN then 0 else 2 := rfl
  rw [ha]
  clear hc ha
  generalize (ss.map (·.1.data.toList)).all okN = r at hcon ⊢
  generalize D.off = o at c1 ⊢
  cases o
  · cases r
    all_goals
      go_enter Tryz.func53, Tryz.ntmps53
      go_wp2_with (first
        | (go_at_call 41; refine (nobodys_no d w c0).mono ?_; rintro e w' ⟨rfl, rfl⟩)
        | (go_at_call 78; refine hcon.mono ?_; rintro e w' ⟨rfl, q, rfl⟩))
      go_ret
      exact ⟨by simp, q, rfl⟩
  · go_enter Tryz.func53, Tryz.ntmps53
    go_wp2_with (first
      | (go_at_call 41; refine (nobodys_no d w c0).mono ?_; rintro e w' ⟨rfl, rfl⟩)
      | (go_at_call 78; refine hcon.mono ?_; rintro e w' ⟨rfl, q, rfl⟩))
    go_ret
    exact ⟨by simp, 0, rfl⟩
theorem refusal_none {e : Nat} {S : Nat → Prop} {d : Nat} {D : Dsk} (w : World) (h : Dk e w S d D) :
    Calls Tryz.prog 53 #[.pointer (some ⟨d, 0, none⟩), .slice none 0 0] w fun e w' => e = .returned (.int .i64 (if D.off then 10 else 0)) ∧ w' = w := by
  obtain ⟨mb, nn, M, blk, vs, h, hnn⟩ := h
  have c0 := h.c0
  have c1 := h.c1
  have hcon := Tryz.slices_ContainsFunc_empty_f78 (α := Txt) none 0 (.func (.func 55) #[] #[]) w
  generalize D.off = o at c1 ⊢
  cases o
  all_goals
    go_enter Tryz.func53, Tryz.ntmps53
    go_wp2_with (first
      | (go_at_call 41; refine (nobodys_no d w c0).mono ?_; rintro e w' ⟨rfl, rfl⟩)
      | (go_at_call 78; refine hcon.mono ?_; rintro e w' ⟨rfl, rfl⟩))
    go_ret
    exact ⟨by simp, rfl⟩
theorem refusal_no (p : Option Addr) (v : Value) (w : World) (h : Nobody w p) :
    Calls Tryz.prog 53 #[.pointer p, v] w fun e w' => e = .returned (.int .i64 1) ∧ w' = w := by
  go_enter Tryz.func53, Tryz.ntmps53
  go_wp2_with (first
    | (go_at_call 41; refine (nobodys_yes p w h).mono ?_; rintro e w' ⟨rfl, rfl⟩))
  go_ret
  exact ⟨by simp, rfl⟩

theorem keyS (s : ByteArray) (hs : s.size ≤ maxLen) : keyOf Tryz.prog 9 (.string s) = some (.string (lst s)) := keyOf_string_mk Tryz.underlying9 hs
theorem lawS : Keyed Tryz.prog 9 := string_keyed Tryz.underlying9
theorem zeroP (w : World) : (zeroValue 80).run Tryz.prog w = .ok (.pointer none) w := by kernel_rfl

def fptr (D : Dsk) (blk : Nm → Nat) (l : Nm) : Value := match find D.files l with | none => .pointer none | some _ => .pointer (some ⟨blk l, 0, none⟩)

/-- 'd.files[name]' -/
theorem look_at {S : Nat → Prop} {w : World} {d mb nn : Nat} {M : DataW Unit} {blk : Nm → Nat} {vs : Nm → Value} {D : Dsk} (h : DkAt w S d mb nn M blk vs D) (s : ByteArray) (hs : s.size ≤ maxLen) :
    (Instr.lookup 46 (.map (some mb)) (.string s) false).run Tryz.prog w = .ok (fptr D blk (lst s)) w := by
  obtain ⟨v, ps, hrun, hv⟩ := h.map.lookup lawS Tryz.underlying46 (zeroP w) (zd := .nil) (zp := []) rfl (keyS s hs)
  rw [h.key] at hv
  rw [hrun]
  unfold fptr
  cases hf : find D.files (lst s) with
  | none =>
    rw [hf] at hv
    rw [ptrR_nil hv]
  | some f =>
    rw [hf] at hv
    rw [ptrR_at hv]

/-- what find answers -/
def fcode (D : Dsk) (l : Nm) : Int := if ask D [l] ≠ 0 then ask D [l] else if (find D.files l).isNone then 6 else 0
def fpt (D : Dsk) (blk : Nm → Nat) (l : Nm) : Value := if fcode D l = 0 then .pointer (some ⟨blk l, 0, none⟩) else .pointer none

theorem ask_one (D : Dsk) (l : Nm) : ask D [l] = 10 ∨ ask D [l] = 2 ∨ ask D [l] = 0 := by
  unfold ask
  split
  · exact .inl rfl
  · split
    · exact .inr (.inr rfl)
    · exact .inr (.inl rfl)

theorem one_text (s : ByteArray) (hs : s.size ≤ 9223372036854775807) (w : World) (t : TypeId) : ∀ j, j < ([⟨s, hs⟩] : List Txt).length → (w.alloc (.cells #[.string s] t)).cell? ⟨w.heap.size, j, none⟩ = some (encT ([⟨s, hs⟩] : List Txt)[j]!) := by
  intro j hj
  obtain rfl : j = 0 := by simpa using hj
  exact (Whole.new w t #[.string s]).cell 0

set_option maxHeartbeats 800000 in
theorem find_any {S : Nat → Prop} {d mb nn : Nat} {M : DataW Unit} {blk : Nm → Nat} {vs : Nm → Value} {D : Dsk} (s : ByteArray) (hs : s.size ≤ 9223372036854775807) (w : World) (h : DkAt w S d mb nn M blk vs D) (hnn : nn ≤ D.steps) :
    Calls Tryz.prog 54 #[.pointer (some ⟨d, 0, none⟩), .string s] w fun e w' => e = .returned (.tuple #[fpt D blk (lst s), .int .i64 (fcode D (lst s))]) ∧ Below w.heap.size w w' := by
  have hb : Below w.heap.size w (w.alloc (.cells #[.string s] 9)) := (Below.refl _ w).alloc (Nat.le_refl _) _
  have h1 := h.go hb
  have c5 := h.c5
  have hcon := refusal_any [⟨s, hs⟩] w.heap.size 1 1 (w.alloc (.cells #[.string s] 9)) ⟨mb, nn, M, blk, vs, h1, hnn⟩ rfl (by decide) (one_text s hs w _)
  have he : ask D ([(⟨s, hs⟩ : Txt)].map (lst ·.1)) = ask D [lst s] := rfl
  rw [he] at hcon
  have hlook : ∀ q, (Instr.lookup 46 (.map (some mb)) (.string s) false).run Tryz.prog ((w.alloc (.cells #[.string s] 9)).drewN q) = .ok (fptr D blk (lst s)) ((w.alloc (.cells #[.string s] 9)).drewN q) := fun q =>
    look_at (h1.go (bDrewN (Below.refl _ _) q)) s hs
  have hB : ∀ q, Below w.heap.size w ((w.alloc (.cells #[.string s] 9)).drewN q) := fun q => ⟨hb.os, hb.tape, hb.output, hb.size, hb.block⟩
  have HB := Lib.hid hB
  clear hB he
  have c5' : ∀ q, ((w.alloc (.cells #[.string s] 9)).drewN q).cell? ⟨d, 5, none⟩ = some (.map (some mb)) := fun q => h1.c5
  cases hf : find D.files (lst s) with
  | none =>
    have e1 : fptr D blk (lst s) = .pointer none := by simp [fptr, hf]
    rw [e1] at hlook
    have e2 : fpt D blk (lst s) = .pointer none := by
      unfold fpt fcode
      rw [hf]
      rcases ask_one D (lst s) with e | e | e <;> simp [e]
    have e3 : fcode D (lst s) = if ask D [lst s] ≠ 0 then ask D [lst s] else 6 := by simp [fcode, hf]
    rw [e2, e3]
    clear e1 e2 e3 hf
    rcases ask_one D (lst s) with e | e | e
    all_goals
      rw [e] at hcon ⊢
      clear e
      go_enter Tryz.func54, Tryz.ntmps54
      go_wp2_with (refine hcon.mono ?_; rintro e w' ⟨rfl, q, rfl⟩)
      go_returns
      exact ⟨by simp, HB.out _⟩
  | some f =>
    have e1 : fptr D blk (lst s) = .pointer (some ⟨blk (lst s), 0, none⟩) := by simp [fptr, hf]
    rw [e1] at hlook
    have e2 : fpt D blk (lst s) = if ask D [lst s] ≠ 0 then .pointer none else .pointer (some ⟨blk (lst s), 0, none⟩) := by
      unfold fpt fcode
      rw [hf]
      rcases ask_one D (lst s) with e | e | e <;> simp [e]
    have e3 : fcode D (lst s) = ask D [lst s] := by
      unfold fcode
      rw [hf]
      rcases ask_one D (lst s) with e | e | e <;> simp [e]
    rw [e2, e3]
    clear e1 e2 e3 hf
    generalize blk (lst s) = bk at *
    rcases ask_one D (lst s) with e | e | e
    all_goals
      rw [e] at hcon ⊢
      clear e
      go_enter Tryz.func54, Tryz.ntmps54
      go_wp2_with (refine hcon.mono ?_; rintro e w' ⟨rfl, q, rfl⟩)
      go_returns
      exact ⟨by simp, HB.out _⟩
theorem find_no (p : Option Addr) (s : ByteArray) (w : World) (h : Nobody w p) :
    Calls Tryz.prog 54 #[.pointer p, .string s] w fun e w' => e = .returned (.tuple #[.pointer none, .int .i64 1]) ∧ Below w.heap.size w w' := by
  have hb : Below w.heap.size w (w.alloc (.cells #[.string s] 9)) := (Below.refl _ w).alloc (Nat.le_refl _) _
  have h1 : Nobody (w.alloc (.cells #[.string s] 9)) p := by
    rcases h with rfl | ⟨d, rfl, h⟩
    · exact .inl rfl
    · exact .inr ⟨d, rfl, Lib.cell?_alloc_some _ h⟩
  have HB := Lib.hid hb
  clear hb
  go_enter Tryz.func54, Tryz.ntmps54
  go_wp2_with (refine (refusal_no p _ _ h1).mono ?_; rintro e w' ⟨rfl, rfl⟩)
  go_returns
  exact ⟨by simp, HB.out⟩
end Go.Proofs.YtfiebjfdlplpjaaGreatDoor
end

section
/- The program's one way of a step. -/
namespace Go.Proofs.YtfiebjfdlplpjaaGreatDoor
open Go.RowKit Go.Maps
set_option linter.unusedVariables false

def burn (D : Dsk) : Dsk := { D with fuse := if D.fuse = -1 then -1 else D.fuse - 1 }

section
variable {S : Nat → Prop} {d mb nn : Nat} {M : DataW Unit} {blk : Nm → Nat} {vs : Nm → Value} {D : Dsk}
theorem DkAt.burn_ {w : World} (h : DkAt w S d mb nn M blk vs D) (h1 : D.fuse = -1) : DkAt w S d mb nn M blk vs (burn D) := by
  have e : burn D = D := by
    cases D
    simp only at h1
    subst h1
    rfl
  rw [e]
  exact h

set_option maxHeartbeats 1000000 in
theorem step_gen (Pr : (Nat → Prop) → Nat → Nat → DataW Unit → (Nm → Nat) → (Nm → Value) → Prop) (fv : Nat) (lb : Array Value) (t : List Fl → List Fl) (w : World) (h : DkAt w S d mb nn M blk vs D) (hp0 : D.fuse = 0 → Pr S mb nn M blk vs) (hst : D.steps + 1 ≤ 9223372036854775807) (hf0 : -1 ≤ D.fuse) (hf1 : D.fuse ≤ 9223372036854775807)
    (eg : ∀ args w, (callFunc fv args).run Tryz.prog w = .ok (.enter fv args) w)
    (hdo0 : D.fuse ≠ 0 → ∀ w1, DkAt w1 S d mb nn M blk vs (burn D) → Outs S w w1 → w1.heap.size = w.heap.size → Calls Tryz.prog fv lb w1 fun e w2 => e = .returned (.tuple #[]) ∧ ∃ S' mb' nn' M' blk' vs', DkAt w2 S' d mb' nn' M' blk' vs' { burn D with files := t D.files } ∧ Pr S' mb' nn' M' blk' vs' ∧ Turn S S' w1 w2) :
    Calls Tryz.prog 67 #[.pointer (some ⟨d, 0, none⟩), .func (.func fv) #[] lb] w fun e w' => e = .returned (.int .i64 (dStep D t).1) ∧ ∃ S' mb' nn' M' blk' vs', DkAt w' S' d mb' nn' M' blk' vs' (dStep D t).2 ∧ Pr S' mb' nn' M' blk' vs' ∧ Turn S S' w w' := by
  have c3 := h.c3
  have f1 := h.fz 1
  have f3 := h.fz 3
  have c1 := h.c1
  by_cases hz : D.fuse = 0
  · have e : dStep D t = (10, fall D) := by simp [dStep, hz]
    rw [e]
    have hz0 := hz
    rw [hz] at c3
    have hh := h.head 1 (.bool true) (fall D) rfl (by simp [topCells, fall, left])
    have ho : Turn S S w (w.setCell ⟨d, 1, none⟩ (.bool true)) := ⟨(Outs.refl _ _).setCell (.inl h.sd) _, fun _ h => .inl h⟩
    have HH := Lib.hid hh
    have HO := Lib.hid ho
    clear hh ho e hz hdo0
    go_enter Tryz.func67, Tryz.ntmps67
    go_wp2
    go_returns
    exact ⟨rfl, S, mb, nn, M, blk, vs, HH.out, hp0 hz0, HO.out⟩
  · have e : dStep D t = (0, { tick D with files := t D.files }) := by simp [dStep, hz]
    rw [e]
    have hn1 : (D.fuse == 0) = false := by simpa using hz
    have hdo := hdo0 hz
    clear hdo0
    -- what stands behind the work
    have fin : ∀ w1 w2, Outs S w w1 → w1.heap.size = w.heap.size → (∃ S' mb' nn' M' blk' vs', DkAt w2 S' d mb' nn' M' blk' vs' { burn D with files := t D.files } ∧ Pr S' mb' nn' M' blk' vs' ∧ Turn S S' w1 w2) → w2.cell? ⟨d, 4, none⟩ = some (.int .i64 D.steps) ∧ w2.frozen? ⟨d, 4, none⟩ = false ∧
        ∃ S' mb' nn' M' blk' vs', DkAt (w2.setCell ⟨d, 4, none⟩ (.int .i64 (D.steps + 1))) S' d mb' nn' M' blk' vs' { tick D with files := t D.files } ∧ Pr S' mb' nn' M' blk' vs' ∧ Turn S S' w (w2.setCell ⟨d, 4, none⟩ (.int .i64 (D.steps + 1))) := by
      rintro w1 w2 ho hs ⟨S', mb', nn', M', blk', vs', hk, hp, ht⟩
      refine ⟨hk.c4, hk.fz 4, S', mb', nn', M', blk', vs', hk.head 4 _ _ rfl ?_, hp, ⟨(ho.trans ht.outs (fun i hi => .inl hi)).setCell ?_ _, fun k hk => ?_⟩⟩
      · simp [topCells, burn, tick, left]
      · rcases ht.new d hk.sd with e | e
        · exact .inl e
        · exact .inr (by have e' : w1.heap.size ≤ d := e; show w.heap.size ≤ d; omega)
      · rcases ht.new k hk with e | e
        · exact .inl e
        · exact .inr (by omega)
    by_cases hm : D.fuse = -1
    · have hn2 : (D.fuse != -1) = false := by simp [hm]
      have hcon := hdo w (h.burn_ hm) (Outs.refl _ _) rfl
      have FIN := Lib.hid (fin w)
      have hst' : (D.steps : Int) + 1 ≤ 9223372036854775807 := by omega
      rw [hm] at c3
      clear fin hdo e hn1 hn2 hz hst
      go_enter Tryz.func67, Tryz.ntmps67
      go_wp2_with fail
      refine hcon.mono ?_
      rintro e w2 ⟨rfl, hk⟩
      obtain ⟨c4, f4, hfin⟩ := FIN.out w2 (Outs.refl _ _) (by first | rfl | trivial) hk
      have HF := Lib.hid hfin
      clear hfin hk
      go_wp2
      go_returns
      exact ⟨rfl, HF.out⟩
    · have hn2 : (D.fuse != -1) = true := by simpa using hm
      have hb : burn D = { D with fuse := D.fuse - 1 } := by simp [burn, hm]
      have h1 : DkAt (w.setCell ⟨d, 3, none⟩ (.int .i64 (D.fuse - 1))) S d mb nn M blk vs (burn D) := by
        rw [hb]
        exact h.head 3 _ _ rfl (by simp [topCells, left])
      have ho : Outs S w (w.setCell ⟨d, 3, none⟩ (.int .i64 (D.fuse - 1))) := (Outs.refl _ _).setCell (.inl h.sd) _
      have hcon := hdo _ h1 ho (by simp [World.setCell])
      have FIN := Lib.hid (fin (w.setCell ⟨d, 3, none⟩ (.int .i64 (D.fuse - 1))))
      have hst' : (D.steps : Int) + 1 ≤ 9223372036854775807 := by omega
      have HO := Lib.hid ho
      have hF0 : 0 ≤ D.fuse - 1 := by omega
      generalize hF : D.fuse = F at *
      clear fin hdo e hst ho h1 hb hF h
      go_enter Tryz.func67, Tryz.ntmps67
      go_wp2_with fail
      refine hcon.mono ?_
      rintro e w2 ⟨rfl, hk⟩
      obtain ⟨c4, f4, hfin⟩ := FIN.out w2 HO.out (by first | rfl | simp [World.setCell]) hk
      have HF := Lib.hid hfin
      clear hfin hk
      go_wp2
      go_returns
      exact ⟨rfl, HF.out⟩

theorem step_any (fv : Nat) (lb : Array Value) (t : List Fl → List Fl) (w : World) (h : DkAt w S d mb nn M blk vs D) (hnn : nn ≤ D.steps) (hst : D.steps + 1 ≤ 9223372036854775807) (hf0 : -1 ≤ D.fuse) (hf1 : D.fuse ≤ 9223372036854775807)
    (eg : ∀ args w, (callFunc fv args).run Tryz.prog w = .ok (.enter fv args) w)
    (hdo : ∀ w1, DkAt w1 S d mb nn M blk vs (burn D) → Outs S w w1 → w1.heap.size = w.heap.size → Calls Tryz.prog fv lb w1 fun e w2 => e = .returned (.tuple #[]) ∧ ∃ S', Dk 1 w2 S' d { burn D with files := t D.files } ∧ Turn S S' w1 w2) :
    Calls Tryz.prog 67 #[.pointer (some ⟨d, 0, none⟩), .func (.func fv) #[] lb] w fun e w' => e = .returned (.int .i64 (dStep D t).1) ∧ ∃ S', Dk 0 w' S' d (dStep D t).2 ∧ Turn S S' w w' := by
  refine (step_gen (fun _ _ nn' _ _ _ => nn' ≤ (dStep D t).2.steps) fv lb t w h (fun hz => ?_) hst hf0 hf1 eg (fun hz w1 h1 ho hs => (hdo w1 h1 ho hs).mono ?_)).mono ?_
  · simp only [dStep, if_pos hz, fall]
    exact hnn
  · rintro e w2 ⟨rfl, S', ⟨mb', nn', M', blk', vs', hk, hn⟩, ht⟩
    refine ⟨rfl, S', mb', nn', M', blk', vs', hk, ?_, ht⟩
    simp only [dStep, if_neg hz, tick]
    exact hn
  · rintro e w' ⟨rfl, S', mb', nn', M', blk', vs', hk, hn, ht⟩
    exact ⟨rfl, S', ⟨mb', nn', M', blk', vs', hk, hn⟩, ht⟩
end
end Go.Proofs.YtfiebjfdlplpjaaGreatDoor
end

section
/- A file of the disk turns; the program's Sync. -/
namespace Go.Proofs.YtfiebjfdlplpjaaGreatDoor
open Go.RowKit Go.Maps
set_option linter.unusedVariables false

/-- the places, and what is new -/
def More (S : Nat → Prop) (w w' : World) : Nat → Prop := fun k => S k ∨ (w.heap.size ≤ k ∧ k < w'.heap.size)

section
variable {S : Nat → Prop} {d mb nn : Nat} {M : DataW Unit} {blk : Nm → Nat} {vs : Nm → Value} {D : Dsk}
theorem DkAt.ne_blk {w : World} (h : DkAt w S d mb nn M blk vs D) {l : Nm} {f : Fl} (hf : find D.files l = some f) : blk l ≠ d := Whole.ne (h.fil l f hf).1 h.top (by decide)
theorem DkAt.ne_map {w : World} (h : DkAt w S d mb nn M blk vs D) {l : Nm} {f : Fl} (hf : find D.files l = some f) : blk l ≠ mb := Whole.ne_map (h.fil l f hf).1 h.map
theorem DkAt.ne_row {w : World} (h : DkAt w S d mb nn M blk vs D) {l : Nm} {f : Fl} (hf : find D.files l = some f) {g : Nat} (hg : (vs l).ownBlock = some g) : g ≠ d := ownRow_ne (h.fil l f hf).2 hg h.top (by decide)
theorem DkAt.ne_rowm {w : World} (h : DkAt w S d mb nn M blk vs D) {l : Nm} {f : Fl} (hf : find D.files l = some f) {g : Nat} (hg : (vs l).ownBlock = some g) : g ≠ mb := ownRow_ne_map (h.fil l f hf).2 hg h.map
theorem DkAt.ne_rowb {w : World} (h : DkAt w S d mb nn M blk vs D) {l m : Nm} {f f' : Fl} (hf : find D.files l = some f) (hf' : find D.files m = some f') {g : Nat} (hg : (vs l).ownBlock = some g) : g ≠ blk m := ownRow_ne (h.fil l f hf).2 hg (h.fil m f' hf').1 (by decide)
theorem DkAt.top_map {w : World} (h : DkAt w S d mb nn M blk vs D) : d ≠ mb := Whole.ne_map h.top h.map
theorem DkAt.blt {w : World} (h : DkAt w S d mb nn M blk vs D) {l : Nm} {f : Fl} (hf : find D.files l = some f) : blk l < w.heap.size := h.lt _ (h.sb l f hf).1
theorem DkAt.rlt {w : World} (h : DkAt w S d mb nn M blk vs D) {l : Nm} {f : Fl} (hf : find D.files l = some f) {g : Nat} (hg : (vs l).ownBlock = some g) : g < w.heap.size := h.lt _ ((h.sb l f hf).2 g hg)

theorem DkAt.turnFile {w w' : World} (h : DkAt w S d mb nn M blk vs D) {l : Nm} {f : Fl} (hf : find D.files l = some f) (g : Fl → Fl) (hg : ∀ f, (g f).nm = f.nm) (v' : Value) (D' : Dsk) (hfiles : D'.files = upd l g D.files)
    (hsz : w.heap.size ≤ w'.heap.size) (ho : ∀ k, k < w.heap.size → k ≠ d → k ≠ blk l → (vs l).ownBlock ≠ some k → w'.heap[k]? = w.heap[k]?)
    (htop : Whole w' d 48 (topCells d mb D')) (hW : Whole w' (blk l) 93 #[v', .int .i64 (g f).sy]) (hR : w'.ownsRow 0 5 1 v' (g f).bs.length (c8 (g f).bs))
    (hloc : v'.ownBlock = (vs l).ownBlock ∨ ∀ k, v'.ownBlock = some k → w.heap.size ≤ k) :
    DkAt w' (More S w w') d mb nn M blk (fun x => if x = l then v' else vs x) D' := by
  have hfd : ∀ m, find D'.files m = (find D.files m).map (fun f => if m = l then g f else f) := fun m => by rw [hfiles, find_upd _ _ _ _ hg]
  have other : ∀ m f', find D'.files m = some f' → m ≠ l → find D.files m = some f' := by
    intro m f' hm hne
    rw [hfd] at hm
    cases hq : find D.files m with
    | none => rw [hq] at hm; cases hm
    | some q => rw [hq] at hm; simpa [hne] using hm
  have mine : ∀ f', find D'.files l = some f' → f' = g f := by
    intro f' hm
    rw [hfd, hf] at hm
    simpa using hm.symm
  have newlt : ∀ k, v'.ownBlock = some k → k < w'.heap.size := fun k hk => (ownRow_block hR hk).2.1
  refine { top := htop, map := ownsMap_block_kept h.map (ho _ h.map.lt h.top_map.symm (h.ne_map hf).symm (fun e => h.ne_rowm hf e rfl)), key := ?_, fil := ?_, inj := ?_, sd := .inl h.sd, sm := .inl h.sm, sb := ?_, lt := ?_ }
  · intro m z
    rw [h.key, hfd]
    cases find D.files m <;> rfl
  · intro m f' hm
    by_cases e : m = l
    · subst e
      rw [mine f' hm]
      simp only [if_pos]
      exact ⟨hW, hR⟩
    · have hq := other m f' hm e
      simp only [if_neg e]
      have hi := h.inj m l f' f hq hf e
      refine ⟨(ho _ (h.blt hq) (h.ne_blk hq) hi.1 (fun e2 => h.ne_rowb hf hq e2 rfl)).trans (h.fil m f' hq).1, ownRow_block_kept (h.fil m f' hq).2 fun k hk => ho _ (h.rlt hq hk) (h.ne_row hq hk) (h.ne_rowb hq hf hk) (hi.2 k hk)⟩
  · intro m m' f1 f2 h1 h2 hne
    have hd : ∀ m f', find D'.files m = some f' → ∃ q, find D.files m = some q := by
      intro m f' hm
      rw [hfd] at hm
      cases hq : find D.files m with
      | none => rw [hq] at hm; cases hm
      | some q => exact ⟨q, rfl⟩
    obtain ⟨q1, hq1⟩ := hd m f1 h1
    obtain ⟨q2, hq2⟩ := hd m' f2 h2
    have hi := h.inj m m' q1 q2 hq1 hq2 hne
    refine ⟨hi.1, fun k hk => ?_⟩
    by_cases e1 : m = l
    · have e2 : m' ≠ l := fun e => hne (e1.trans e.symm)
      simp only [if_pos e1] at hk
      simp only [if_neg e2]
      intro hk'
      rcases hloc with e | e
      · rw [e, ← e1] at hk
        exact hi.2 k hk hk'
      · have := e k hk
        have := h.rlt hq2 hk'
        omega
    · simp only [if_neg e1] at hk
      by_cases e2 : m' = l
      · simp only [if_pos e2]
        intro hk'
        rcases hloc with e | e
        · rw [e, ← e2] at hk'
          exact hi.2 k hk hk'
        · have := e k hk'
          have := h.rlt hq1 hk
          omega
      · simp only [if_neg e2]
        exact hi.2 k hk
  · intro m f' hm
    by_cases e : m = l
    · subst e
      refine ⟨.inl (h.sb _ f hf).1, fun k hk => ?_⟩
      simp only [if_pos] at hk
      rcases hloc with e | e
      · rw [e] at hk
        exact .inl ((h.sb _ f hf).2 k hk)
      · exact .inr ⟨e k hk, newlt k hk⟩
    · have hq := other m f' hm e
      refine ⟨.inl (h.sb m f' hq).1, fun k hk => ?_⟩
      simp only [if_neg e] at hk
      exact .inl ((h.sb m f' hq).2 k hk)
  · intro k hk
    rcases hk with hk | hk
    · exact Nat.lt_of_lt_of_le (h.lt k hk) hsz
    · exact hk.2
theorem more_new {w w' : World} : ∀ k, More S w w' k → S k ∨ w.heap.size ≤ k := fun k hk => hk.imp id (·.1)

/-- a box of the call's own -/
theorem box_far {w : World} (h : DkAt w S d mb nn M blk vs D) {g : Nat} {t : TypeId} {cs : Array Value} {l : Nm} {f : Fl} (hf : find D.files l = some f) (hb : Whole w g t cs) (ht : t ≠ 93) : blk l ≠ g := Whole.ne (h.fil l f hf).1 hb (fun e => ht e.symm)

def syn (f : Fl) : Fl := { f with sy := f.bs.length }

set_option maxHeartbeats 1000000 in
set_option maxRecDepth 5000 in
theorem sync1_any {l : Nm} {f : Fl} (bx : Nat) (w : World) (h : DkAt w S d mb nn M blk vs D) (hnn : nn ≤ D.steps) (hf : find D.files l = some f) (hbx : Whole w bx 80 #[.pointer (some ⟨blk l, 0, none⟩)]) :
    Calls Tryz.prog 88 #[.pointer (some ⟨bx, 0, none⟩)] w fun e w2 => e = .returned (.tuple #[]) ∧ ∃ S', Dk 1 w2 S' d { D with files := upd l syn D.files } ∧ Turn S S' w w2 := by
  obtain ⟨hW, hR⟩ := h.fil l f hf
  obtain ⟨A, c, hv, hr, hnc, hcm, hA0⟩ := own_open hR
  have cb : w.cell? ⟨bx, 0, none⟩ = some (.pointer (some ⟨blk l, 0, none⟩)) := hbx.cell 0
  have w0 : w.cell? ⟨blk l, 0, none⟩ = some (vs l) := hW.cell 0
  have w1 : w.cell? ⟨blk l, 1, none⟩ = some (.int .i64 f.sy) := hW.cell 1
  have fz := hW.frozen 1
  have hle : (f.bs.length : Int) ≤ 9223372036854775807 := by unfold maxLen at hcm; omega
  -- what comes of it
  have hfin : ∀ n, ∃ S', Dk 1 ((w.drewN n).setCell ⟨blk l, 1, none⟩ (.int .i64 (f.bs.length : Nat))) S' d { D with files := upd l syn D.files } ∧ Turn S S' w ((w.drewN n).setCell ⟨blk l, 1, none⟩ (.int .i64 (f.bs.length : Nat))) := by
    intro n
    refine ⟨_, ⟨mb, nn, M, blk, _, h.turnFile hf syn (fun _ => rfl) (vs l) _ rfl (by simp [World.setCell]) ?_ ?_ ?_ ?_ (.inl rfl), by show nn ≤ D.steps + 1; omega⟩, ⟨?_, more_new⟩⟩
    · intro k hk h1 h2 h3
      exact Below.heap_setCell _ _ _ _ h2
    · have : topCells d mb { D with files := upd l syn D.files } = topCells d mb D := by
        simp only [topCells, left]
        rw [used_upd _ _ syn (fun _ _ => rfl)]
      rw [this]
      exact (h.top.drewN n).far (p := ⟨blk l, 1, none⟩) (h.ne_blk hf).symm _
    · exact (hW.drewN n).put 1 _
    · exact ownRow_block_kept hR fun k hk => Below.heap_setCell _ _ _ _ (h.ne_rowb hf hf hk)
    · exact ((Outs.refl S w).drewN n).setCell (.inl (h.sb l f hf).1) _
  have HF := Lib.hid hfin
  rw [hv] at w0
  clear hfin hv hr hR hW hbx hnc hA0
  generalize blk l = b at *
  go_enter Tryz.func88, Tryz.ntmps88
  go_still_tail 8, (by kernel_rfl)
  go_wp2
  go_returns
  exact ⟨by simp, HF.out 1⟩

theorem sync1_enters : ∀ args w, (callFunc 88 args).run Tryz.prog w = .ok (.enter 88 args) w := enters_of Tryz.func88 (by kernel_rfl) rfl

/-- what a disk must be for its calls to be told -/
structure Room (D : Dsk) : Prop where
  steps : D.steps + 100 ≤ 1099511627776
  f0 : -1 ≤ D.fuse
  f1 : D.fuse ≤ 9223372036854775807

theorem dSync_err {D : Dsk} {l : Nm} (h : fcode D l ≠ 0) : dSync D l = (fcode D l, D) := by
  unfold dSync
  unfold fcode at h ⊢
  by_cases ha : ask D [l] ≠ 0
  · simp only [if_pos ha]
  · simp only [if_neg ha] at h ⊢
    by_cases hn : (find D.files l).isNone = true
    · simp only [if_pos hn]
    · simp only [if_neg hn] at h
      exact absurd rfl h
theorem fcode_ok {D : Dsk} {l : Nm} (h : fcode D l = 0) : ask D [l] = 0 ∧ ∃ f, find D.files l = some f := by
  unfold fcode at h
  split at h
  · rename_i ha
    exact absurd h ha
  · rename_i ha
    refine ⟨by simpa using ha, ?_⟩
    cases hf : find D.files l with
    | none => rw [hf] at h; cases h
    | some f => exact ⟨f, rfl⟩

set_option maxHeartbeats 1000000 in
theorem sync_any (s : ByteArray) (hs : s.size ≤ 9223372036854775807) (w : World) (h : Dk 0 w S d D) (hr : Room D) :
    Calls Tryz.prog 71 #[.pointer (some ⟨d, 0, none⟩), .string s] w fun e w' => e = .returned (.int .i64 (dSync D (lst s)).1) ∧ ∃ S', Dk 0 w' S' d (dSync D (lst s)).2 ∧ Turn S S' w w' := by
  obtain ⟨mb, nn, M, blk, vs, h, hnn⟩ := h
  have hcon := find_any s hs w h hnn
  by_cases hc : fcode D (lst s) = 0
  · obtain ⟨ha, f, hf⟩ := fcode_ok hc
    have e1 : fpt D blk (lst s) = .pointer (some ⟨blk (lst s), 0, none⟩) := by simp [fpt, hc]
    have e2 : dSync D (lst s) = dStep D (upd (lst s) syn) := by
      unfold dSync
      rw [if_neg (by simp [ha]), hf]
      rfl
    rw [e1, hc] at hcon
    rw [e2]
    clear e1 e2 hc
    go_enter Tryz.func71, Tryz.ntmps71
    go_wp2_with fail
    refine hcon.mono ?_
    rintro e w1 ⟨rfl, hb⟩
    have h1 := h.go hb
    go_wp2_with fail
    have hbx : Whole (w1.alloc (.cells #[.pointer (some ⟨blk (lst s), 0, none⟩)] 80)) w1.heap.size 80 #[.pointer (some ⟨blk (lst s), 0, none⟩)] := Whole.new _ _ _
    have hb2 : Below w.heap.size w (w1.alloc (.cells #[.pointer (some ⟨blk (lst s), 0, none⟩)] 80)) := hb.alloc hb.size _
    have h2 := h1.go ((Below.refl _ w1).alloc (Nat.le_refl _) (.cells #[.pointer (some ⟨blk (lst s), 0, none⟩)] 80))
    have hnS : ¬ S w1.heap.size := fun e => Nat.lt_irrefl _ (h1.lt _ e)
    have hcon2 := step_any 88 #[.pointer (some ⟨w1.heap.size, 0, none⟩)] (upd (lst s) syn) _ h2 hnn (by have := hr.steps; omega) hr.f0 hr.f1 sync1_enters
      (fun w3 h3 ho hsz => sync1_any w1.heap.size w3 h3 hnn hf (hbx.outs ho hnS))
    clear hcon hbx h1 h2
    refine hcon2.mono ?_
    rintro e w2 ⟨rfl, S', hk, ht⟩
    have HK := Lib.hid hk
    have HT := Lib.hid ht
    clear hcon2 hk ht
    go_wp2
    go_returns
    exact ⟨by simp, S', HK.out, (Turn.below hb2).trans HT.out⟩
  · have e1 : fpt D blk (lst s) = .pointer none := by simp [fpt, hc]
    rw [dSync_err hc]
    have hn : (fcode D (lst s) != 0) = true := by simpa using hc
    have hD : Dk 0 w S d D := ⟨mb, nn, M, blk, vs, h, hnn⟩
    rw [e1] at hcon
    generalize fcode D (lst s) = c at *
    clear hc e1 h
    go_enter Tryz.func71, Tryz.ntmps71
    go_wp2_with fail
    refine hcon.mono ?_
    rintro e w1 ⟨rfl, hb⟩
    go_wp2
    go_returns
    exact ⟨by simp, S, hD.go (hb.alloc hb.size _), Turn.below (hb.alloc hb.size _)⟩
end
end Go.Proofs.YtfiebjfdlplpjaaGreatDoor
end
