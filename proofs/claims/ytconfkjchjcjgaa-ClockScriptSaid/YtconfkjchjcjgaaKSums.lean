/- A course in memory; the sums of first parts. -/
import Derived.Test.YtconfkjchjcjgaaKWait
import Derived.Test.YtconfkjchjcjgaaEnd
import Derived.Test.YtconfkjchjcjgaaKit
namespace Go.Proofs.Ytconfkjchjcjgaa
open Go.RowKit
set_option linter.unusedVariables false

/-- a step: the numbers of a row, and where they lie -/
structure Ro where
  A : Option Addr
  xs : List Int
  c : Nat
def Ro.v (r : Ro) : Value := .slice r.A r.xs.length r.c
/-- a course in memory -/
structure Course (w : World) (lim : Nat) (A : Option Addr) (rs : List Ro) : Prop where
  rows : Rds w lim A (rs.map Ro.v)
  each : ∀ r ∈ rs, Rds w lim r.A (cI r.xs)
  i64 : ∀ r ∈ rs, I64 r.xs
  len : ∀ r ∈ rs, r.xs.length ≤ 140737488351232
  nil_ : ∀ r ∈ rs, r.A = none → r.c = 0
theorem Course.below {w w' : World} {lim : Nat} {A : Option Addr} {rs : List Ro} (h : Course w lim A rs) (hb : Below lim w w') : Course w' lim A rs :=
  ⟨h.rows.below hb, fun r hr => (h.each r hr).below hb, h.i64, h.len, h.nil_⟩
theorem Course.more {w : World} {lim lim' : Nat} {A : Option Addr} {rs : List Ro} (h : Course w lim A rs) (hl : lim ≤ lim') : Course w lim' A rs :=
  ⟨h.rows.more hl, fun r hr => (h.each r hr).more hl, h.i64, h.len, h.nil_⟩
theorem Course.drewN {w : World} {lim : Nat} {A : Option Addr} {rs : List Ro} (h : Course w lim A rs) (n : Nat) : Course (w.drewN n) lim A rs :=
  ⟨h.rows.drewN n, fun r hr => (h.each r hr).drewN n, h.i64, h.len, h.nil_⟩
/-- what a node's clock goes on by in each step -/
def ownOf (node : Nat) (rs : List Ro) : List Int := rs.map fun r => r.xs.getD node 0
theorem ownOf_length (node : Nat) (rs : List Ro) : (ownOf node rs).length = rs.length := by simp [ownOf]
def InC (rs : List Ro) : Prop := ∀ r ∈ rs, ∀ x ∈ r.xs, 0 ≤ x ∧ x ≤ 1048576
theorem InC.own {rs : List Ro} (h : InC rs) (node : Nat) : InB (ownOf node rs) := by
  intro x hx
  obtain ⟨r, hr, rfl⟩ := List.mem_map.1 hx
  rcases Nat.lt_or_ge node r.xs.length with q | q
  · rw [List.getD_eq_getElem?_getD, List.getElem?_eq_getElem q]
    exact h r hr _ (List.getElem_mem _)
  · rw [List.getD_eq_getElem?_getD, List.getElem?_eq_none q]
    exact ⟨by decide, by decide⟩

theorem info2 : (Try.prog.info? 2).map (fun i => (i.zero, i.size, i.bytes)) = some (some (.int .i64 0), 1, 8) := by kernel_rfl
/-- the sums that have been reckoned -/
def sumsTo (own : List Int) (k : Nat) : List Value := (List.range (k + 1)).map fun j => .int .i64 (pre own j)
theorem sumsTo_length (own : List Int) (k : Nat) : (sumsTo own k).length = k + 1 := by simp [sumsTo]
theorem sumsTo_succ (own : List Int) (k : Nat) : sumsTo own (k + 1) = sumsTo own k ++ [.int .i64 (pre own (k + 1))] := by
  unfold sumsTo
  rw [List.range_succ, List.map_append]
  rfl
theorem sumsTo_get (own : List Int) {k j : Nat} (h : j ≤ k) : (sumsTo own k)[j]? = some (.int .i64 (pre own j)) := by
  simp [sumsTo, show j < k + 1 by omega]
theorem sums0 (own : List Int) : sumsTo own 0 = [.int .i64 0] := by simp [sumsTo, pre_zero]

/-- make([]int64, 1, c) -/
theorem make_one (w : World) (c : Nat) (hc : 1 ≤ c) (hm : c ≤ 1048577) : ∃ w1, (Instr.makeSlice 69 (.int .i64 1) (.int .i64 (c : Int))).run Try.prog w = .ok (.slice (some ⟨w.heap.size, 0, none⟩) 1 c) w1 ∧
    w1.ownsRow w.heap.size 2 1 (.slice (some ⟨w.heap.size, 0, none⟩) 1 c) 1 [.int .i64 0] ∧ Below w.heap.size w w1 := by
  obtain ⟨i0, hi, hz0, hz1, hz2⟩ := info_parts info2
  have hr := run_make (P := Try.prog) w 69 2 i0 (.int .i64 0) Try.underlying69 hi hz0 .i64 .i64 1 (c : Int) (by omega) (by omega) (by rw [hz2]; omega) (by omega)
  have hcs : (madeCells (Value.int IntKind.i64 0).cells ((c : Int).toNat * i0.size)).size = c * 1 := by rw [size_madeCells, Int.toNat_natCast, hz1]
  have htk : (madeCells (Value.int IntKind.i64 0).cells ((c : Int).toNat * i0.size)).toList.take (1 * 1) = [.int .i64 0] := by
    rw [hz1, Int.toNat_natCast]
    simp only [Value.cells]
    rw [made1]
    obtain ⟨m, rfl⟩ : ∃ m, c = m + 1 := ⟨c - 1, by omega⟩
    simp [List.replicate_succ]
  have hml : c ≤ maxLen := by unfold maxLen; omega
  generalize madeCells (Value.int IntKind.i64 0).cells ((c : Int).toNat * i0.size) = cs at hr hcs htk
  rw [Int.toNat_natCast] at hr
  refine ⟨_, hr, ⟨rfl, .inr ⟨w.heap.size, c, cs, rfl, Nat.le_refl _, heap_alloc_new w _, hc, hml, hcs, htk⟩⟩, (Below.refl _ _).alloc (Nat.le_refl _) _⟩
end Go.Proofs.Ytconfkjchjcjgaa
