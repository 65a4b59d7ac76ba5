/- The library's cutting of a slice into pieces of 64 bytes, as an iterator. -/
import Derived.Test.YtnpomiidkdnebaaDTurn
import Derived.RangeFuncNested
import Derived.RangeFuncBound
import Derived.RangeFuncCalls
import Derived.RangeFuncLeaves
import Derived.Shelf.Abstract
import Derived.Shelf.RegionOpen
import Derived.OwnWalkIn
import Derived.TacticsInMore
import Derived.LoopNIn
import Derived.LoopIn
import Derived.Sort.BigQuietIn
namespace Go.Proofs.Ytnpomiidkdnebaa
open Go.RowKit Go.Shelf
set_option linter.unusedVariables false
attribute [local go_sem] Oper.semAt_some

def np (L : Nat) : Nat := (L + 63) / 64
def pl (L k : Nat) : Nat := min 64 (L - 64 * k)
abbrev Ix (L : Nat) := { k : Nat // k < np L }
def encC (ad : Addr) (L : Nat) (x : Ix L) : Array Value := #[.slice (some (ad.add (64 * x.1))) (pl L x.1) (pl L x.1)]
def upto (L k : Nat) : List (Ix L) := (List.range k).filterMap (fun i => if h : i < np L then some ⟨i, h⟩ else none)
theorem upto_succ {L k : Nat} (h : k < np L) : upto L (k + 1) = upto L k ++ [⟨k, h⟩] := by
  unfold upto
  rw [List.range_succ, List.filterMap_append]
  simp [h]
theorem upto_vals {L : Nat} : ∀ {k : Nat}, k ≤ np L → (upto L k).map (·.1) = List.range k
  | 0, _ => rfl
  | k + 1, h => by
    rw [upto_succ (by omega), List.map_append, upto_vals (by omega), List.range_succ]
    rfl
theorem upto_length {L k : Nat} (h : k ≤ np L) : (upto L k).length = k := by
  have := congrArg List.length (upto_vals h)
  simpa using this

/-- what the cutter wants kept: its two boxes -/
def Two (b1 b2 : Nat) (W W' : World) : Prop := W'.heap[b1]? = W.heap[b1]? ∧ W'.heap[b2]? = W.heap[b2]?

set_option maxRecDepth 100000 in
set_option maxHeartbeats 2000000 in
theorem chunk1_in (n : Nat) (hn : 1 ≤ n) (l b1 b2 L c : Nat) (ad : Addr) (A : Option Addr) (hA : 0 < L → A = some ad) (hLc : L ≤ c) (hL : L ≤ 140737488351232) (J Jx : List (Ix L) → World → Prop)
    (hY : ∀ pre x W, J pre W → pre.length < np L → YieldAt Fence.wide (n - 1) Try.prog l (encC ad L x) W fun e W' =>
      (e = .returned (.bool true) ∧ J (pre ++ [x]) W' ∧ Two b1 b2 W W') ∨ (e = .returned (.bool false) ∧ Jx (pre ++ [x]) W'))
    (W : World) (h1 : Whole W b1 29 #[.slice A L c]) (h2 : Whole W b2 3 #[.int .i64 64]) (h0 : J [] W) (hJd : ∀ q s W, J s W → J s (W.drewN q)) :
    CallsIn Fence.wide n Try.prog 64 #[.func (.yield l) #[] #[], .pointer (some ⟨b1, 0, none⟩), .pointer (some ⟨b2, 0, none⟩)] W fun e W' => (∃ v, e = .returned v) ∧
      ((∃ ys, ys = upto L (np L) ∧ J ys W') ∨ (∃ pre, (∃ k, k ≤ np L ∧ pre = upto L k) ∧ Jx pre W')) := by
  refine callsIn_of_wp Try.func64 rfl trivial ?_ rfl
  simp only [Try.ntmps64, List.size_toArray, List.length_cons, List.length_nil, Nat.reduceAdd, Nat.reduceSub, Array.replicate_succ, Array.replicate_zero, List.push_toArray, List.append_toArray, List.nil_append, List.cons_append]
  have hN := Lib.hid (show np L = (L + 63) / 64 from rfl)
  gi_wp2
  gi_loopw [4] (fun i wr => ∃ k : Nat, k ≤ np L ∧ i = .int .i64 ((64 * k : Nat) : Int) ∧ J (upto L k) wr ∧ Two b1 b2 W wr) (fun i _ => np L * 64 - (intOf i).toNat)
  case atStart => exact ⟨0, Nat.zero_le _, rfl, h0, rfl, rfl⟩
  case round =>
    obtain ⟨k, hk, rfl, hJs, hnx⟩ := hrel
    have c1 : wr.cell? ⟨b1, 0, none⟩ = some (.slice A L c) := (show Whole wr b1 _ _ from hnx.1.trans h1).cell 0
    have c2 : wr.cell? ⟨b2, 0, none⟩ = some (.int .i64 64) := (show Whole wr b2 _ _ from hnx.2.trans h2).cell 0
    by_cases hlt : k < np L
    · have hY2 := fun W hJ => hY (upto L k) ⟨k, hlt⟩ W hJ (by rw [upto_length hk]; exact hlt)
      dsimp only [encC] at hY2
      have hkL : 64 * k < L := by have := hN.out; omega
      obtain rfl : A = some ad := hA (by omega)
      have hm0 : pl L k = min 64 (L - 64 * k) := rfl
      generalize pl L k = m at *
      obtain ⟨i, hi⟩ : ∃ i, i = 64 * k := ⟨_, rfl⟩
      rw [← hi] at hY2 hkL hm0 ⊢
      have hm1 : 1 ≤ m := by omega
      have hm2 : i + m ≤ L := by omega
      have hm3 : m ≤ 64 := by omega
      have hci : ¬ c = i := by omega
      have hmin : min (64 : Int) ((L - i : Nat) : Int) = m := by omega
      have hto : ((i : Int) + m).toNat - i = m := by omega
      have HM := Lib.hid hm0
      have HI := Lib.hid hi
      clear hm0 hi
      gi_wp2
      gi_quiet (fail)
      obtain ⟨fn, tmps, assign, body, hy, hR⟩ := hY2 (wr.drewN nq) (hJd nq _ _ hJs)
      gi_wp2
      refine hR.mono ?_
      rintro e W3 (⟨rfl, hJ3, hk3⟩ | ⟨rfl, hJx3⟩)
      · have hnx3 : Two b1 b2 W W3 := ⟨hk3.1.trans hnx.1, hk3.2.trans hnx.2⟩
        have c2' : W3.cell? ⟨b2, 0, none⟩ = some (.int .i64 64) := (show Whole W3 b2 _ _ from hnx3.2.trans h2).cell 0
        have hi64 : (i : Int) + 64 ≤ 9223372036854775807 := by omega
        gi_wp2
        go_roundw
        case rel => exact ⟨k + 1, by omega, by have := HI.out; congr 1; omega, by rw [upto_succ hlt]; exact hJ3, hnx3⟩
        case measure => have := HI.out; simp [intOf]; omega
      · gi_wp2
        refine bodyPost_ret (results_none rfl _ _ _) rfl ?_
        exact ⟨⟨_, rfl⟩, .inr ⟨_, ⟨k + 1, by omega, (upto_succ hlt).symm⟩, hJx3⟩⟩
    · obtain rfl : k = np L := by omega
      have hge : ¬ ((64 * np L : Nat) : Int) < L := by have := hN.out; omega
      gi_wp2
      go_end0
      exact ⟨⟨_, rfl⟩, .inl hJs⟩

theorem chunk_any (A : Option Addr) (L c : Nat) (w : World) :
    Calls Try.prog 37 #[.slice A L c, .int .i64 64] w fun e w' => e = .returned (.func (.func 64) #[] #[.pointer (some ⟨w.heap.size, 0, none⟩), .pointer (some ⟨w.heap.size + 1, 0, none⟩)]) ∧ w' = (w.alloc (.cells #[.slice A L c] 29)).alloc (.cells #[.int .i64 64] 3) := by
  go_enter Try.func37, Try.ntmps37
  go_wp2
  go_returns
  exact ⟨by simp, rfl⟩

theorem chunk_stops (n : Nat) (hn : 1 ≤ n) (b1 b2 L c : Nat) (ad : Addr) (A : Option Addr) (hA : 0 < L → A = some ad) (hLc : L ≤ c) (hL : L ≤ 140737488351232) (w : World)
    (h1 : Whole w b1 29 #[.slice A L c]) (h2 : Whole w b2 3 #[.int .i64 64]) :
    SeqStopsK Fence.wide n Try.prog 64 #[.pointer (some ⟨b1, 0, none⟩), .pointer (some ⟨b2, 0, none⟩)] (encC ad L) (Two b1 b2) (fun ys => ys = upto L (np L)) (fun pre => ∃ k, k ≤ np L ∧ pre = upto L k) (np L) w := fun l J Jx W hW hJ _ hY h0 =>
  chunk1_in n hn l b1 b2 L c ad A hA hLc hL J Jx hY W (h1.below hW h1.lt) (h2.below hW h2.lt) h0 (fun q s W hs => hJ s W (W.drewN q) none hs ⟨rfl, rfl, rfl, Nat.le_refl _, fun _ _ _ => rfl⟩ (fun r e => by cases e))
end Go.Proofs.Ytnpomiidkdnebaa
