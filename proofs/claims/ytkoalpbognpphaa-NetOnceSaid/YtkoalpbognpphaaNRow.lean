/- A row of uint64 that is sorted where it lies: what its block holds, and that nothing else turns. -/
import Derived.Test.YtkoalpbognpphaaBase
import Derived.Sort.LotA
import Derived.Sort.LotB
import Derived.Sort.LotC
import Derived.Sort.LotD3
import Derived.CellFam
namespace Go.Proofs.Ytkoalpbognpphaa
open Go.RowKit Go.Sort
set_option linter.unusedVariables false

/-- w has come of w0 by turns of block g alone, whose first places hold d -/
structure SR (w0 : World) (g c N : Nat) (w : World) (d : Array Int) : Prop where
  gr : w0.grownBy w (some g)
  len : d.size = N
  row : ∃ cur : Array Value, w.heap[g]? = some (.cells cur 25 (0, 0)) ∧ cur.size = c ∧ N ≤ c ∧ ∀ j, j < N → cur[j]? = some (.int .u64 d[j]!)

section
variable {w0 w w' : World} {g c N : Nat} {d d' : Array Int}
theorem SR.drewN (h : SR w0 g c N w d) (n : Nat) : SR w0 g c N (w.drewN n) d := ⟨Only.drewN h.gr n, h.len, h.row⟩
theorem SR.drew (h : SR w0 g c N w d) : SR w0 g c N w.drew d := ⟨Only.drew h.gr, h.len, h.row⟩
theorem SR.lt (h : SR w0 g c N w d) : g < w.heap.size := by
  obtain ⟨cur, h1, _⟩ := h.row
  exact (Array.getElem?_eq_some_iff.1 h1).1
theorem SR.cell (h : SR w0 g c N w d) {j : Nat} (hj : j < N) : w.cell? ⟨g, j, none⟩ = some (.int .u64 d[j]!) := by
  obtain ⟨cur, h1, _, _, h2⟩ := h.row
  rw [cell_of_row w g j cur _ _ h1, h2 j hj]
theorem SR.frozen (h : SR w0 g c N w d) (j : Nat) : w.frozen? ⟨g, j, none⟩ = false := by
  obtain ⟨cur, h1, _⟩ := h.row
  exact Whole.frozen h1 j
/-- from here on -/
theorem SR.now (h : SR w0 g c N w d) : SR w g c N w d := ⟨Only.refl w g, h.len, h.row⟩
theorem SR.trans (h : SR w0 g c N w d) (k : SR w g c N w' d') : SR w0 g c N w' d' := ⟨Only.trans h.gr k.gr, k.len, k.row⟩
theorem SR.alloc (h : SR w0 g c N w d) (o : Obj) : SR w0 g c N (w.alloc o) d := by
  obtain ⟨cur, h1, r⟩ := h.row
  exact ⟨Only.trans h.gr (World.grownBy_alloc w o (some g)), h.len, cur, (Below.heap_alloc w o g h.lt).trans h1, r⟩
/-- another block of the call's own has turned -/
theorem SR.far (h : SR w0 g c N w d) {sb : Nat} (hg : w.grownBy w' (some sb)) (hsb : w0.heap.size ≤ sb) (hne : sb ≠ g) : SR w0 g c N w' d := by
  obtain ⟨cur, h1, r⟩ := h.row
  refine ⟨⟨hg.os.trans h.gr.os, hg.tape.trans h.gr.tape, hg.output.trans h.gr.output, Nat.le_trans h.gr.size hg.size, fun i hi hn => ?_⟩, h.len, cur, (hg.block g h.lt (fun e => hne (by cases e; rfl))).trans h1, r⟩
  exact (hg.block i (Nat.lt_of_lt_of_le hi h.gr.size) (fun e => by cases e; omega)).trans (h.gr.block i hi hn)
theorem SR.grown (h : SR w0 g c N w d) (hg : w.grownBy w' none) : SR w0 g c N w' d := by
  obtain ⟨cur, h1, r⟩ := h.row
  exact ⟨⟨hg.os.trans h.gr.os, hg.tape.trans h.gr.tape, hg.output.trans h.gr.output, Nat.le_trans h.gr.size hg.size, fun i hi hn => (hg.block i (Nat.lt_of_lt_of_le hi h.gr.size) (by simp)).trans (h.gr.block i hi hn)⟩, h.len, cur, (hg.block g h.lt (by simp)).trans h1, r⟩
/-- 'data[i], data[j] = data[j], data[i]' -/
theorem SR.swp (h : SR w0 g c N w d) {i j : Nat} (hi : i < N) (hj : j < N) {x y : Int} (hx : x = d[j]!) (hy : y = d[i]!) :
    SR w0 g c N ((w.setCell ⟨g, i, none⟩ (.int .u64 x)).setCell ⟨g, j, none⟩ (.int .u64 y)) (Sort.swp d i j) := by
  subst hx hy
  have hl := h.len
  obtain ⟨cur, h1, h2, h3, h4⟩ := h.row
  have hw : Whole w g 25 cur := h1
  refine ⟨Only.put (Only.put h.gr i _) j _, by rw [Sort.size_swp]; exact hl, _, (hw.put i (.int .u64 d[j]!)).put j (.int .u64 d[i]!), by simp [h2], h3, fun k hk => ?_⟩
  rw [Sort.swp_get d (by omega) (by omega) k]
  by_cases e1 : k = j
  · subst e1
    rw [if_pos rfl, Array.getElem?_setIfInBounds_self_of_lt (by simp; omega)]
  · rw [if_neg e1, Array.getElem?_setIfInBounds_ne (Ne.symm e1)]
    by_cases e2 : k = i
    · subst e2
      rw [if_pos rfl, Array.getElem?_setIfInBounds_self_of_lt (by omega)]
    · rw [if_neg e2, Array.getElem?_setIfInBounds_ne (Ne.symm e2)]
      exact h4 k hk
/-- behind 'data[i] = data[j]' both hold the same -/
theorem SR.both (h : SR w0 g c N w d) {i j : Nat} (hi : i < N) (hj : j < N) {x : Int} (hx : x = d[j]!) : (w.setCell ⟨g, i, none⟩ (.int .u64 x)).cell? ⟨g, j, none⟩ = some (.int .u64 x) := by
  subst hx
  obtain ⟨cur, h1, h2, h3, h4⟩ := h.row
  have hw : Whole w g 25 cur := h1
  rw [(hw.put i (.int .u64 d[j]!)).cell j]
  by_cases e : j = i
  · subst e
    rw [Array.getElem?_setIfInBounds_self_of_lt (by omega)]
  · rw [Array.getElem?_setIfInBounds_ne (Ne.symm e)]
    exact h4 j hj
/-- what a walk reads of the row, under a name of its own -/
theorem SR.names (h : SR w0 g c N w d) : ∃ G : Nat → Int, (∀ t, G t = d[t]!) ∧ (∀ t, t < N → w.cell? ⟨g, t, none⟩ = some (.int .u64 (G t))) ∧ ∀ t, t < N → w.frozen? ⟨g, t, none⟩ = false :=
  ⟨fun t => d[t]!, fun _ => rfl, fun t ht => h.cell ht, fun t _ => h.frozen t⟩
end

theorem isNaN_any (x : Int) (w : World) : Calls Try.prog 70 #[.int .u64 x] w fun e w' => e = .returned (.bool false) ∧ w' = w := by
  have hx : (x != x) = false := by simp
  go_enter Try.func70, Try.ntmps70
  go_wp2
  go_ret
  exact ⟨rfl, rfl⟩
theorem less_any (x y : Int) (w : World) : Calls Try.prog 60 #[.int .u64 x, .int .u64 y] w fun e w' => e = .returned (.bool (Sort.ltInt x y)) ∧ w' = w := by
  go_enter Try.func60, Try.ntmps60
  go_wp2_with (go_at_call 70; refine (isNaN_any _ _).mono ?_; rintro e w' ⟨rfl, rfl⟩)
  go_ret
  exact ⟨rfl, rfl⟩
end Go.Proofs.Ytkoalpbognpphaa
