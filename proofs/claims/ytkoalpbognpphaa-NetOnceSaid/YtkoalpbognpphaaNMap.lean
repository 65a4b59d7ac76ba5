/- A map by rising number as a list. -/
import Derived.Test.YtkoalpbognpphaaBase
import Derived.Maps.OwnSet
import Derived.Maps.Range
namespace Go.Proofs.Ytkoalpbognpphaa
open Go.RowKit Go.Maps
set_option linter.unusedVariables false

/-- a map's reading: each value stands for itself -/
def selfR (v : Value) : Option (DataW Value × List MemPlace) := some (.held v, [])
def en (p : Int × Value) : Lit × DataW Value := (.int .u64 p.1, .held p.2)
/-- the entries as a map -/
def asMap (l : List (Int × Value)) : DataW Value := .map (l.map en)
/-- numbers of 64 bits, rising -/
structure Ris (l : List (Int × Value)) : Prop where
  rise : l.Pairwise (fun p q => p.1 < q.1)
  wf : ∀ p ∈ l, 0 ≤ p.1 ∧ p.1 ≤ 18446744073709551615

theorem same_int (a b : Int) : (Lit.int .u64 a).sameKey (.int .u64 b) = decide (a = b) := by
  by_cases h : a = b
  · subst h
    rw [decide_eq_true rfl]
    exact WideAt.sameKey_self trivial
  · rw [decide_eq_false h]
    exact Maps.sameKey_ne (fun e => h (by cases e; rfl))
theorem key_u64 {a : Int} (h : 0 ≤ a ∧ a ≤ 18446744073709551615) : keyOf Try.prog 25 (.int .u64 a) = some (.int .u64 a) := by
  refine keyOf_int_mk Try.underlying25 ?_
  simp [Lit.wf, IntKind.min, IntKind.max, IntKind.signed, IntKind.bits]
  omega
theorem keyed64 : Keyed Try.prog 25 := int_keyed Try.underlying25

theorem has_map (l : List (Int × Value)) (k : Int) : Maps.has (asMap l) (.int .u64 k) = l.any (fun p => decide (p.1 = k)) := by
  unfold asMap
  rw [Maps.has_eq, List.any_map]
  congr 1
  funext p
  exact same_int p.1 k
theorem size_map (l : List (Int × Value)) : Maps.size (asMap l) = l.length := by
  unfold asMap
  rw [Maps.size_eq, List.length_map]
theorem at_map (l : List (Int × Value)) (k : Int) (z : DataW Value) : (asMap l).atKey (.int .u64 k) z = match l.find? (fun p => decide (p.1 = k)) with | some p => .held p.2 | none => z := by
  have : ((fun p : Lit × DataW Value => p.1.sameKey (.int .u64 k)) ∘ en) = (fun p : Int × Value => decide (p.1 = k)) := by
    funext p
    exact same_int p.1 k
  unfold asMap
  simp only [DataW.atKey, List.find?_map, this]
  cases l.find? (fun p => decide (p.1 = k)) <;> rfl
theorem del_map (l : List (Int × Value)) (k : Int) : (asMap l).del (.int .u64 k) = asMap (l.filter (fun p => !decide (p.1 = k))) := by
  unfold asMap
  rw [DataW.del_eq]
  congr 1
  unfold ChangeMaps.delKey
  rw [List.filter_map]
  congr 1
  refine List.filter_congr fun p _ => ?_
  show (!(Lit.int .u64 p.1).sameKey (.int .u64 k)) = _
  rw [same_int]
theorem insert_last (x : Lit × DataW Value) : ∀ l : List (Lit × DataW Value), (∀ p ∈ l, x.1.before p.1 = false) → DataW.insert x l = l ++ [x]
  | [], _ => rfl
  | y :: r, h => by
    unfold DataW.insert
    rw [h y (by simp)]
    simp only [Bool.false_eq_true, if_false, List.cons_append]
    rw [insert_last x r (fun p hp => h p (by simp [hp]))]
theorem put_map (l : List (Int × Value)) (k : Int) (v : Value) (h : ∀ p ∈ l, p.1 < k) : (asMap l).put (.int .u64 k) (.held v) = asMap (l ++ [(k, v)]) := by
  unfold asMap
  rw [DataW.put_eq]
  congr 1
  unfold ChangeMaps.putKey
  have hf : (l.map en).filter (ChangeMaps.notKey (.int .u64 k)) = l.map en := by
    refine List.filter_eq_self.2 fun p hp => ?_
    obtain ⟨q, hq, rfl⟩ := List.mem_map.1 hp
    show (!(Lit.int .u64 q.1).sameKey (.int .u64 k)) = true
    rw [same_int, decide_eq_false (by have := h q hq; omega)]
    rfl
  rw [hf, insert_last, List.map_append]
  · rfl
  · intro p hp
    obtain ⟨q, hq, rfl⟩ := List.mem_map.1 hp
    have := h q hq
    simp only [en, Lit.before, decide_eq_false_iff_not]
    omega
theorem Ris.last {l : List (Int × Value)} (h : Ris l) {k : Int} (v : Value) (hk : ∀ p ∈ l, p.1 < k) (hw : 0 ≤ k ∧ k ≤ 18446744073709551615) : Ris (l ++ [(k, v)]) := by
  refine ⟨List.pairwise_append.2 ⟨h.rise, List.pairwise_singleton _ _, fun p hp q hq => ?_⟩, fun p hp => ?_⟩
  · obtain rfl := List.mem_singleton.1 hq
    exact hk p hp
  · rcases List.mem_append.1 hp with hp | hp
    · exact h.wf p hp
    · obtain rfl := List.mem_singleton.1 hp
      exact hw
theorem Ris.filter {l : List (Int × Value)} (h : Ris l) (f : Int × Value → Bool) : Ris (l.filter f) := ⟨h.rise.filter f, fun p hp => h.wf p (List.mem_filter.1 hp).1⟩
theorem Ris.nodup {l : List (Int × Value)} (h : Ris l) : (l.map (·.1)).Nodup := by
  refine List.pairwise_map.2 (h.rise.imp ?_)
  intro p q hpq e
  omega
theorem Ris.nil : Ris [] := ⟨List.Pairwise.nil, fun p hp => by cases hp⟩
end Go.Proofs.Ytkoalpbognpphaa
