/- maps.Keys over a map by uint64: the numbers, each once, in some order. -/
import Derived.Test.YtkoalpbognpphaaNMap
import Derived.RangeFuncStops
import Derived.RangeFuncBox
import Derived.RangeFuncNested
import Derived.RangeFuncCalls
import Derived.Sort.MapsRangeIn
import Derived.Shelf.AbstractIn
import Derived.OwnWalkIn
import Derived.TacticsInMore
import Derived.LoopNIn
import Derived.LoopIn
namespace Go.Proofs.Ytkoalpbognpphaa
open Go.RowKit Go.Maps
set_option linter.unusedVariables false

theorem key_inv {key : Value} {kl : Lit} (h : keyOf Try.prog 25 key = some kl) : ∃ x : Int, key = .int .u64 x ∧ kl = .int .u64 x := by
  cases key <;> simp [keyOf, Try.underlying25, mapKey] at h
  obtain ⟨⟨rfl, _⟩, rfl⟩ := h
  exact ⟨_, rfl, rfl⟩

/-- what has come so far -/
structure Got (L : List (Int × Value)) (left : Lit → Bool) (ss : List Int) : Prop where
  once : ss.Nodup
  just : ∀ x, x ∈ ss ↔ (x ∈ L.map (·.1) ∧ left (.int .u64 x) = false)
theorem any_key (L : List (Int × Value)) (x : Int) : L.any (fun p => decide (p.1 = x)) = true ↔ x ∈ L.map (·.1) := by
  rw [List.any_eq_true, List.mem_map]
  exact ⟨fun ⟨p, hp, e⟩ => ⟨p, hp, of_decide_eq_true e⟩, fun ⟨p, hp, e⟩ => ⟨p, hp, decide_eq_true e⟩⟩
theorem Got.start (L : List (Int × Value)) : Got L (Maps.has (asMap L)) [] := by
  refine ⟨List.nodup_nil, fun x => ⟨fun h => absurd h (by simp), fun h => ?_⟩⟩
  obtain ⟨h1, h2⟩ := h
  rw [has_map, ← Bool.not_eq_true, any_key] at h2
  exact absurd h1 h2
theorem Got.step {L : List (Int × Value)} {left : Lit → Bool} {ss : List Int} (h : Got L left ss) {x : Int} {y : DataW Value} (hl : left (.int .u64 x) = true) (hat : ∀ zd, (asMap L).atKey (.int .u64 x) zd = y) :
    Got L (fun z => left z && !z.sameKey (.int .u64 x)) (ss ++ [x]) := by
  have hx : x ∈ L.map (·.1) := by
    rw [← any_key, ← has_map]
    exact Maps.has_true_of_atKey hat
  refine ⟨List.nodup_append.2 ⟨h.once, (by simp), fun a ha b hb e => ?_⟩, fun z => ?_⟩
  · obtain rfl := List.mem_singleton.1 hb
    subst e
    rw [((h.just a).1 ha).2] at hl
    cases hl
  · rw [List.mem_append, List.mem_singleton, h.just z, same_int]
    by_cases e : z = x
    · subst e
      simp [hx]
    · simp [e]
theorem Got.perm {L : List (Int × Value)} {left : Lit → Bool} {ss : List Int} (h : Got L left ss) (hr : Ris L) (h0 : ∀ kl, left kl = false) : ss.Perm (L.map (·.1)) :=
  (List.perm_ext_iff_of_nodup h.once hr.nodup).2 fun x => by rw [h.just x, h0]; simp

set_option maxRecDepth 100000 in
set_option maxHeartbeats 1000000 in
theorem keys1_in (n : Nat) (hn : 1 ≤ n) (l Bm b nn : Nat) (L : List (Int × Value)) (hr : Ris L) (J Jx : List Int → World → Prop)
    (hY : ∀ pre x W, J pre W → pre.length < L.length → YieldAt Fence.wide (n - 1) Try.prog l #[.int .u64 x] W fun e W' =>
      (e = .returned (.bool true) ∧ J (pre ++ [x]) W' ∧ KeepsWalks W W') ∨ (e = .returned (.bool false) ∧ Jx (pre ++ [x]) W'))
    (W : World) (hJ : AbidesFrom W.heap.size J) (hm : W.cell? ⟨Bm, 0, none⟩ = some (.map (some b))) (hown : W.ownsMap Try.prog 25 selfR b nn (asMap L)) (h0 : J [] W) :
    CallsIn Fence.wide n Try.prog 50 #[.func (.yield l) #[] #[], .pointer (some ⟨Bm, 0, none⟩)] W fun e W' => (∃ v, e = .returned v) ∧
      ((∃ ss : List Int, ss.Perm (L.map (·.1)) ∧ J ss W') ∨ (∃ pre : List Int, True ∧ Jx pre W')) := by
  refine callsIn_of_wp Try.func50 rfl trivial ?_ rfl
  simp only [Try.ntmps50, List.size_toArray, List.length_cons, List.length_nil, Nat.reduceAdd, Nat.reduceSub, Array.replicate_succ, Array.replicate_zero, List.push_toArray, List.append_toArray, List.nil_append, List.cons_append]
  gi_wp2_with (first
    | (gi_at_range; refine wpListIn_range_own _ rfl _ 55 rfl 25 32 keyed64 Try.underlying55 selfR b nn _ rfl hown ?_; intro w0 hrg0 hg0 hs0)
    | gi_in)
  go_frame
  gi_loopw [3] (fun _ wr => ∃ (left : Lit → Bool) (cnt : Nat) (ss : List Int), wr.ranges Try.prog 25 selfR b W.heap.size nn (asMap L) left cnt ∧ ss.length + cnt ≤ L.length ∧ Got L left ss ∧ J ss wr)
    (fun _ wr => wr.rangeLeft b W.heap.size)
  case atStart =>
    exact ⟨_, _, [], hrg0, by rw [size_map]; simp, Got.start L, hJ [] W w0 none h0 hg0 (fun r e => by cases e)⟩
  case round =>
    obtain ⟨left, cnt, ss, hrg, hcs, hC, hJs⟩ := hrel
    gi_wp2_with (first
      | (gi_at_next; refine wpListIn_next_ranges _ rfl _ rfl 25 keyed64 selfR (Value.int .u64) id (fun key kl hk => by obtain ⟨x, hx, _⟩ := key_inv hk; exact ⟨x, hx⟩) (fun v _ _ => ⟨v, rfl⟩) b W.heap.size nn _ _ _ rfl hrg ?_ ?_)
      | gi_in)
    · intro hc0 hl0
      gi_wp2
      go_end0
      exact ⟨⟨_, rfl⟩, .inl ⟨ss, hC.perm hr hl0, hJs⟩⟩
    · intro x c kl yd yp w2 cnt2 hkey hlk hv hat hrg2 hlt hg2 hs2 hen
      obtain ⟨x', ex, rfl⟩ := key_inv hkey
      obtain rfl : x = x' := by injection ex
      have hJ2 : J ss w2 := hJ ss wr w2 (some W.heap.size) hJs hg2 (fun r e => by cases e; exact ⟨Nat.le_refl _, hrg.iter_walk⟩)
      obtain ⟨fn, tmps, assign, body, hy, hR⟩ := hY ss x w2 hJ2 (by omega)
      clear hs2
      gi_wp2
      refine hR.mono ?_
      have hC2 := hC.step hlk hat
      rintro e W3 (⟨rfl, hJ3, hk3⟩ | ⟨rfl, hJx3⟩)
      · gi_wp2
        have hrg3 := hrg2.of_walks hk3
        go_roundw
        case rel => exact ⟨_, cnt2, ss ++ [x], hrg3, by simp; omega, hC2, hJ3⟩
        case measure => rw [hrg3.left_eq, hrg.left_eq]; exact hlt
      · gi_wp2
        refine bodyPost_ret (results_none rfl _ _ _) rfl ?_
        exact ⟨⟨_, rfl⟩, .inr ⟨ss ++ [x], trivial, hJx3⟩⟩

theorem keys_stops (n : Nat) (hn : 1 ≤ n) (Bm b nn : Nat) (L : List (Int × Value)) (hr : Ris L) (w : World) (hBm : Bm < w.heap.size)
    (hm : w.cell? ⟨Bm, 0, none⟩ = some (.map (some b))) (hown : w.ownsMap Try.prog 25 selfR b nn (asMap L)) :
    SeqStops Fence.wide n Try.prog 50 #[.pointer (some ⟨Bm, 0, none⟩)] (Value.int .u64) (fun ss => ss.Perm (L.map (·.1))) (fun _ => True) L.length w := fun l J Jx W hW hJ _ hY h0 => by
  have hown' : W.ownsMap Try.prog 25 selfR b nn (asMap L) := by
    have hbl := hown.lt
    obtain ⟨es, clock, hb, r⟩ := hown
    exact ⟨es, clock, (hW.block b hbl).trans hb, r⟩
  exact keys1_in n hn l Bm b nn L hr J Jx hY W hJ ((hW.cell (p := ⟨Bm, 0, none⟩) hBm).trans hm) hown' h0

theorem keys_any (mb : Option Nat) (w : World) :
    Calls Try.prog 46 #[.map mb] w fun e w' => e = .returned (.func (.func 50) #[] #[.pointer (some ⟨w.heap.size, 0, none⟩)]) ∧ w' = w.alloc (.cells #[.map mb] 55) := by
  go_enter Try.func46, Try.ntmps46
  go_wp2
  go_returns
  exact ⟨rfl, rfl⟩
end Go.Proofs.Ytkoalpbognpphaa
