/- The methods that a heap calls through its interface. -/
import Derived.Test.YtconfkjchjcjgaaBase
import Derived.Test.YtconfkjchjcjgaaDFrame
import Derived.WalkLawsBesides
import Derived.Sort.Walk0
namespace Go.Proofs.Ytconfkjchjcjgaa
open Go.RowKit
set_option linter.unusedVariables false

theorem agg_ends (w : World) : (isAgg 55).run Try.prog w = .ok false w := by kernel_rfl
theorem load_ends {a : Addr} {w : World} {v : Value} (h : w.cell? a = some v) : (loadVar 55 a).run Try.prog w = .ok v w := by
  unfold loadVar
  rw [Sem.run_bind, agg_ends]
  simp [h]
theorem meth_len0 (a : Addr) (w : World) : (method 244 75 (.pointer (some a)) "Len").run Try.prog w = (do let v ← loadVar 55 a; pure (92, v) : Sem (FuncId × Value)).run Try.prog w := by kernel_rfl
theorem meth_less0 (a : Addr) (w : World) : (method 244 75 (.pointer (some a)) "Less").run Try.prog w = (do let v ← loadVar 55 a; pure (93, v) : Sem (FuncId × Value)).run Try.prog w := by kernel_rfl
theorem meth_swap0 (a : Addr) (w : World) : (method 244 75 (.pointer (some a)) "Swap").run Try.prog w = (do let v ← loadVar 55 a; pure (94, v) : Sem (FuncId × Value)).run Try.prog w := by kernel_rfl
theorem meth_push (a : Addr) (w : World) : (method 244 75 (.pointer (some a)) "Push").run Try.prog w = .ok (100, .pointer (some a)) w := by kernel_rfl
theorem meth_pop (a : Addr) (w : World) : (method 244 75 (.pointer (some a)) "Pop").run Try.prog w = .ok (99, .pointer (some a)) w := by kernel_rfl
section
variable {a : Addr} {w : World} {v : Value}
theorem meth_len (h : w.cell? a = some v) : (method 244 75 (.pointer (some a)) "Len").run Try.prog w = .ok (92, v) w := by
  rw [meth_len0]; simp [load_ends h]
theorem meth_less (h : w.cell? a = some v) : (method 244 75 (.pointer (some a)) "Less").run Try.prog w = .ok (93, v) w := by
  rw [meth_less0]; simp [load_ends h]
theorem meth_swap (h : w.cell? a = some v) : (method 244 75 (.pointer (some a)) "Swap").run Try.prog w = .ok (94, v) w := by
  rw [meth_swap0]; simp [load_ends h]
end

theorem len_any (v : Option Addr) (n c : Nat) (w : World) : Calls Try.prog 92 #[.slice v n c] w fun e w' => e = .returned (.int .i64 n) ∧ w = w' := by
  go_enter Try.func92, Try.ntmps92
  go_wp2
  go_ret
  exact ⟨rfl, rfl⟩

/-! ## what is less -/
theorem nanI_any (x : Int) (w : World) : Calls Try.prog 98 #[.int .i64 x] w fun e w' => e = .returned (.bool false) ∧ w = w' := by
  go_enter Try.func98, Try.ntmps98
  go_wp2
  go_ret
  exact ⟨by simp, rfl⟩
theorem nanS_any (x : ByteArray) (w : World) : Calls Try.prog 74 #[.string x] w fun e w' => e = .returned (.bool false) ∧ w = w' := by
  go_enter Try.func74, Try.ntmps74
  go_wp2
  go_ret
  exact ⟨by simp, rfl⟩
def cmpI (x y : Int) : Int := if x < y then -1 else if y < x then 1 else 0
theorem cmpI_any (x y : Int) (w : World) : Calls Try.prog 96 #[.int .i64 x, .int .i64 y] w fun e w' => e = .returned (.int .i64 (cmpI x y)) ∧ w = w' := by
  unfold cmpI
  by_cases h1 : x < y
  · rw [if_pos h1]
    go_enter Try.func96, Try.ntmps96
    go_wp2_with (go_at_call 98; refine (nanI_any _ _).mono ?_; rintro e w' ⟨rfl, rfl⟩)
    go_ret
    exact ⟨rfl, rfl⟩
  · rw [if_neg h1]
    by_cases h2 : y < x
    · rw [if_pos h2]
      go_enter Try.func96, Try.ntmps96
      go_wp2_with (go_at_call 98; refine (nanI_any _ _).mono ?_; rintro e w' ⟨rfl, rfl⟩)
      go_ret
      exact ⟨rfl, rfl⟩
    · rw [if_neg h2]
      go_enter Try.func96, Try.ntmps96
      go_wp2_with (go_at_call 98; refine (nanI_any _ _).mono ?_; rintro e w' ⟨rfl, rfl⟩)
      go_ret
      exact ⟨rfl, rfl⟩

def lst (s : ByteArray) : List UInt8 := s.data.toList
theorem lst_toList (s : ByteArray) : s.toList = lst s := by rw [Lib.toList_data]; rfl
theorem lst_inj {a b : ByteArray} (h : lst a = lst b) : a = b := by
  apply ByteArray.ext
  exact Array.toList_inj.1 h
def cmpS (x y : List UInt8) : Int := if x < y then -1 else if x = y then 0 else 1
theorem cmpS_any (x y : ByteArray) (w : World) : Calls Try.prog 97 #[.string x, .string y] w fun e w' => e = .returned (.int .i64 (cmpS (lst x) (lst y))) ∧ w = w' := by
  unfold cmpS
  by_cases h1 : lst x < lst y
  · have t1 : Op.bytesLess x.toList y.toList = true := by rw [bytesLess_eq, lst_toList, lst_toList]; exact decide_eq_true h1
    rw [if_pos h1]
    clear h1
    go_enter Try.func97, Try.ntmps97
    go_wp2_with (go_at_call 74; refine (nanS_any _ _).mono ?_; rintro e w' ⟨rfl, rfl⟩)
    go_ret
    exact ⟨rfl, rfl⟩
  · have t1 : Op.bytesLess x.toList y.toList = false := by rw [bytesLess_eq, lst_toList, lst_toList]; exact decide_eq_false h1
    rw [if_neg h1]
    clear h1
    by_cases h2 : lst x = lst y
    · have t2 : (!x.toList == y.toList) = false := by rw [lst_toList, lst_toList, h2]; simp
      rw [if_pos h2]
      clear h2
      go_enter Try.func97, Try.ntmps97
      go_wp2_with (go_at_call 74; refine (nanS_any _ _).mono ?_; rintro e w' ⟨rfl, rfl⟩)
      go_ret
      exact ⟨rfl, rfl⟩
    · have t2 : (!x.toList == y.toList) = true := by rw [lst_toList, lst_toList]; simpa using h2
      rw [if_neg h2]
      clear h2
      go_enter Try.func97, Try.ntmps97
      go_wp2_with (go_at_call 74; refine (nanS_any _ _).mono ?_; rintro e w' ⟨rfl, rfl⟩)
      go_ret
      exact ⟨rfl, rfl⟩

/-- the first one that is not 0 -/
def orI (x y : Int) : Int := if x = 0 then y else x
theorem orI_0 (y : Int) : orI 0 y = y := by simp [orI]
theorem orI_x {x : Int} (y : Int) (h : x ≠ 0) : orI x y = x := by simp [orI, h]
def Zs (k : Nat) (x y : Int) : Prop := (1 ≤ k → x = 0) ∧ (2 ≤ k → y = 0)
set_option maxHeartbeats 1000000 in
theorem or_any (g : Nat) (x y : Int) (c : Nat) (w : World) (h0 : w.cell? ⟨g, 0, none⟩ = some (.int .i64 x)) (h1 : w.cell? ⟨g, 1, none⟩ = some (.int .i64 y)) :
    Calls Try.prog 95 #[.slice (some ⟨g, 0, none⟩) 2 c] w fun e w' => e = .returned (.int .i64 (orI x y)) ∧ w' = w := by
  go_enter Try.func95, Try.ntmps95
  go_wp2
  go_loop [8] (fun i => ∃ k : Nat, k ≤ 2 ∧ i = .int .i64 k ∧ Zs k x y) (fun i => 2 - (intOf i).toNat)
  case atStart => exact ⟨0, by omega, rfl, by omega, by omega⟩
  case round =>
    obtain ⟨k, hk, rfl, h2, h3⟩ := hrel
    rcases (show k = 0 ∨ k = 1 ∨ k = 2 by omega) with rfl | rfl | rfl
    · clear h2 h3
      by_cases hx : x = 0
      · subst hx
        go_wp2
        go_round
        case rel => exact ⟨1, by omega, by go_num, fun _ => rfl, fun h => by omega⟩
        case measure => simp [intOf]
      · have hx' : (x != 0) = true := by simpa using hx
        have HX := Lib.hid (orI_x y hx)
        clear hx
        go_wp2
        go_ret
        exact ⟨by rw [HX.out]; rfl, rfl⟩
    · have hx := h2 (by omega)
      subst hx
      clear h2 h3
      by_cases hy : y = 0
      · subst hy
        go_wp2
        go_round
        case rel => exact ⟨2, by omega, by go_num, fun _ => rfl, fun _ => rfl⟩
        case measure => simp [intOf]
      · have hy' : (y != 0) = true := by simpa using hy
        clear hy
        go_wp2
        go_ret
        exact ⟨by rw [orI_0]; rfl, rfl⟩
    · have hx := h2 (by omega)
      have hy := h3 (by omega)
      subst hx hy
      clear h2 h3
      go_wp2
      go_ret
      exact ⟨by rw [orI_0]; rfl, rfl⟩
end Go.Proofs.Ytconfkjchjcjgaa
