/- What a call leaves as it was: all but the blocks S, and but for what is new. No program is named here. -/
import Derived.Test.YtconfkjchjcjgaaWords
import Derived.Maps.OwnSet
import Derived.Sort.KeysCollected
namespace Go.Proofs.Ytconfkjchjcjgaa
open Go.RowKit
set_option linter.unusedVariables false

theorem bDrewN {B : Nat} {a w : World} (h : Below B a w) (n : Nat) : Below B a (w.drewN n) := ⟨h.os, h.tape, h.output, h.size, h.block⟩
structure Outs (S : Nat → Prop) (w w' : World) : Prop where
  os : w'.os = w.os
  tape : w'.tape = w.tape
  output : w'.output = w.output
  size : w.heap.size ≤ w'.heap.size
  block : ∀ k, k < w.heap.size → ¬ S k → w'.heap[k]? = w.heap[k]?

section
variable {S S' : Nat → Prop} {w w' a b c : World}
theorem Outs.refl (S : Nat → Prop) (w : World) : Outs S w w := ⟨rfl, rfl, rfl, Nat.le_refl _, fun _ _ _ => rfl⟩
theorem Outs.trans (h : Outs S a b) (k : Outs S' b c) (hs : ∀ i, S' i → S i ∨ a.heap.size ≤ i) : Outs S a c :=
  ⟨k.os.trans h.os, k.tape.trans h.tape, k.output.trans h.output, Nat.le_trans h.size k.size, fun i hi hn => (k.block i (Nat.lt_of_lt_of_le hi h.size) (fun e => by rcases hs i e with e | e; exact hn e; omega)).trans (h.block i hi hn)⟩
theorem Outs.same (h : Outs S a b) (k : Outs S b c) : Outs S a c := h.trans k fun _ hi => .inl hi
theorem Outs.drewN (h : Outs S a b) (n : Nat) : Outs S a (b.drewN n) := ⟨h.os, h.tape, h.output, h.size, h.block⟩
theorem Outs.drew (h : Outs S a b) : Outs S a b.drew := ⟨h.os, h.tape, h.output, h.size, h.block⟩
theorem Outs.alloc (h : Outs S a b) (o : Obj) : Outs S a (b.alloc o) :=
  ⟨h.os, h.tape, h.output, by have := h.size; simp; omega, fun k hk hn => (Below.heap_alloc b o k (Nat.lt_of_lt_of_le hk h.size)).trans (h.block k hk hn)⟩
theorem Outs.setCell (h : Outs S a b) {p : Addr} (hp : S p.block ∨ a.heap.size ≤ p.block) (u : Value) : Outs S a (b.setCell p u) :=
  ⟨h.os, h.tape, h.output, by have := h.size; simp [World.setCell]; exact this, fun k hk hn => (Below.heap_setCell b p u k (fun e => by rcases hp with hp | hp; exact hn (e ▸ hp); omega)).trans (h.block k hk hn)⟩
theorem Outs.grown (h : Outs S a b) {row : Option Nat} (hg : b.grownBy c row) (hr : ∀ k, row = some k → S k ∨ a.heap.size ≤ k) : Outs S a c :=
  ⟨hg.os.trans h.os, hg.tape.trans h.tape, hg.output.trans h.output, Nat.le_trans h.size hg.size, fun k hk hn => (hg.block k (Nat.lt_of_lt_of_le hk h.size) (fun e => by rcases hr k e.symm with e | e; exact hn e; omega)).trans (h.block k hk hn)⟩
theorem Outs.then (h : Outs S a b) {B : Nat} (hb : Below B b c) (hB : a.heap.size ≤ B) : Outs S a c :=
  ⟨hb.os.trans h.os, hb.tape.trans h.tape, hb.output.trans h.output, Nat.le_trans h.size hb.size, fun k hk hn => (hb.block k (by omega)).trans (h.block k hk hn)⟩
theorem Outs.of (hb : Below w.heap.size w w') : Outs S w w' := (Outs.refl S w).then hb (Nat.le_refl _)
theorem Outs.below (h : Outs S w w') {B : Nat} (hS : ∀ k, S k → B ≤ k) (hB : B ≤ w.heap.size) : Below B w w' :=
  ⟨h.os, h.tape, h.output, h.size, fun k hk => h.block k (by omega) (fun e => by have := hS k e; omega)⟩
theorem Outs.mono (h : Outs S w w') (hs : ∀ k, S k → S' k) : Outs S' w w' := ⟨h.os, h.tape, h.output, h.size, fun k hk hn => h.block k hk (fun e => hn (hs k e))⟩
theorem Outs.cell (h : Outs S w w') {p : Addr} (hp : p.block < w.heap.size) (hn : ¬ S p.block) : w'.cell? p = w.cell? p := World.cell?_of_block (h.block _ hp hn)
theorem Whole.outs {g : Nat} {t : TypeId} {cs : Array Value} (hw : Whole w g t cs) (h : Outs S w w') (hn : ¬ S g) : Whole w' g t cs := (h.block g hw.lt hn).trans hw
theorem turned_outs {H : Type} {b : Nat} (h : w.mapTurned w' b) (hS : S b) : Outs S w w' := by
  have := h.grown
  exact (Outs.refl S w).grown this (fun k hk => by cases hk; exact .inl hS)
end

/-- what a call makes of the places -/
structure Turn (S S' : Nat → Prop) (w w' : World) : Prop where
  outs : Outs S w w'
  new : ∀ k, S' k → S k ∨ w.heap.size ≤ k

section
variable {S S' S2 : Nat → Prop} {w w' : World}
theorem Turn.refl (S : Nat → Prop) (w : World) : Turn S S w w := ⟨Outs.refl S w, fun _ h => .inl h⟩
theorem Turn.trans {a b c : World} (h : Turn S S' a b) (k : Turn S' S2 b c) : Turn S S2 a c :=
  ⟨h.outs.trans k.outs h.new, fun i hi => by
    rcases k.new i hi with e | e
    · exact h.new i e
    · exact .inr (Nat.le_trans h.outs.size e)⟩
theorem Turn.below {w w' : World} (h : Below w.heap.size w w') : Turn S S w w' := ⟨Outs.of h, fun k hk => .inl hk⟩
end

/-- two blocks of other types, or of other cells, are two -/
theorem Whole.ne {w : World} {g k : Nat} {t u : TypeId} {cs ds : Array Value} (h : Whole w g t cs) (h' : Whole w k u ds) (hne : t ≠ u) : g ≠ k := by
  rintro rfl
  unfold Whole at h h'
  rw [h] at h'
  injection h' with h'
  injection h' with _ h'
  exact hne h'
theorem Whole.ne_map {H : Type} {P : Program} {w : World} {g : Nat} {t : TypeId} {cs : Array Value} (h : Whole w g t cs) {k : TypeId} {R : Value → Option (DataW H × List MemPlace)} {b n : Nat} {D : DataW H} (h' : w.ownsMap P k R b n D) : g ≠ b := by
  rintro rfl
  obtain ⟨es, cl, h', _⟩ := h'
  unfold Whole at h
  rw [h] at h'
  cases h'
/-- a row's block holds cells of its type -/
theorem ownRow_block {w : World} {B : Nat} {e : TypeId} {size : Nat} {v : Value} {n : Nat} {xs : List Value} (h : w.ownsRow B e size v n xs) {g : Nat} (hg : v.ownBlock = some g) : B ≤ g ∧ g < w.heap.size ∧ ∃ cs, w.heap[g]? = some (.cells cs e (0, 0)) := by
  rcases h.2 with ⟨rfl, _⟩ | ⟨g', cap, cur, rfl, hb, hh, _⟩
  · cases hg
  · obtain rfl : g' = g := by simpa [Value.ownBlock] using hg
    exact ⟨hb, (Array.getElem?_eq_some_iff.1 hh).1, _, hh⟩
theorem ownRow_ne {w : World} {B : Nat} {e : TypeId} {size : Nat} {v : Value} {n : Nat} {xs : List Value} (h : w.ownsRow B e size v n xs) {g k : Nat} (hg : v.ownBlock = some g) {t : TypeId} {cs : Array Value} (h' : Whole w k t cs) (hne : e ≠ t) : g ≠ k := by
  obtain ⟨_, _, ds, hh⟩ := ownRow_block h hg
  exact Whole.ne (cs := ds) hh h' hne
theorem ownRow_ne_map {H : Type} {P : Program} {w : World} {B : Nat} {e : TypeId} {size : Nat} {v : Value} {n : Nat} {xs : List Value} (h : w.ownsRow B e size v n xs) {g : Nat} (hg : v.ownBlock = some g) {k : TypeId} {R : Value → Option (DataW H × List MemPlace)} {b m : Nat} {D : DataW H} (h' : w.ownsMap P k R b m D) : g ≠ b := by
  obtain ⟨_, _, ds, hh⟩ := ownRow_block h hg
  exact Whole.ne_map (cs := ds) hh h'
/-- a row stands where its block stands -/
theorem ownRow_block_kept {w w' : World} {B : Nat} {e : TypeId} {size : Nat} {v : Value} {n : Nat} {xs : List Value} (h : w.ownsRow B e size v n xs) (hk : ∀ g, v.ownBlock = some g → w'.heap[g]? = w.heap[g]?) : w'.ownsRow B e size v n xs := by
  rcases h.2 with ⟨rfl, hn⟩ | ⟨g, cap, cur, rfl, hb, hh, r⟩
  · exact ⟨h.1, .inl ⟨rfl, hn⟩⟩
  · exact ⟨h.1, .inr ⟨g, cap, cur, rfl, hb, (hk g (by simp [Value.ownBlock])).trans hh, r⟩⟩
theorem ownRow_base {w : World} {B B' : Nat} {e : TypeId} {size : Nat} {v : Value} {n : Nat} {xs : List Value} (h : w.ownsRow B e size v n xs) (hk : ∀ g, v.ownBlock = some g → B' ≤ g) : w.ownsRow B' e size v n xs := by
  rcases h.2 with ⟨rfl, hn⟩ | ⟨g, cap, cur, rfl, hb, hh, r⟩
  · exact ⟨h.1, .inl ⟨rfl, hn⟩⟩
  · exact ⟨h.1, .inr ⟨g, cap, cur, rfl, hk g (by simp [Value.ownBlock]), hh, r⟩⟩
theorem ownsMap_block_kept {H : Type} {P : Program} {w w' : World} {k : TypeId} {R : Value → Option (DataW H × List MemPlace)} {b n : Nat} {D : DataW H} (h : w.ownsMap P k R b n D) (hk : w'.heap[b]? = w.heap[b]?) : w'.ownsMap P k R b n D := by
  obtain ⟨es, cl, h1, r⟩ := h
  exact ⟨es, cl, hk.trans h1, r⟩
end Go.Proofs.Ytconfkjchjcjgaa
