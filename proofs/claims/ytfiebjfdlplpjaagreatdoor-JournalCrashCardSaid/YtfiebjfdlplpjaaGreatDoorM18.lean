/- Several texts, each a section: JSame. -/
import Derived.Test.YtfiebjfdlplpjaaGreatDoorM17
import Derived.Test.YtfiebjfdlplpjaaGreatDoorM07
section
/- The kit's SameLists of alike lists, and whether a list of numbers is fine. -/
namespace Go.Proofs.YtfiebjfdlplpjaaGreatDoor
open Go.RowKit
set_option linter.unusedVariables false

set_option maxHeartbeats 1600000 in
set_option maxRecDepth 5000 in
theorem sameLists_yes (A A' : Option Addr) (xs ys : List RcM) (n m c c' lim : Nat) (w : World) (hn : xs.length = n) (hm : ys.length = m) (hl : n ≤ 9223372036854775807) (he : xs.map RcM.r = ys.map RcM.r) (hlen : ∀ x ∈ xs, x.r.length ≤ 9223372036854775807)
    (hr : Rds w lim A (cR xs)) (hr' : Rds w lim A' (cR ys)) (hx : ∀ x ∈ xs, Rds w lim x.A (c8 x.r)) (hy : ∀ y ∈ ys, Rds w lim y.A (c8 y.r)) :
    Calls Tryz.prog 13 #[.slice A n c, .slice A' m c'] w fun e w' => e = .returned (.bool true) ∧ ∃ k, w' = w.drewN k := by
  have hnm : m = n := by have := congrArg List.length he; simp only [List.length_map] at this; omega
  subst hnm
  have hlb : ((m : Int) != (m : Int)) = false := by simp
  go_enter Tryz.func13, Tryz.ntmps13
  go_wp2
  go_loopw [5] (fun i wr => ∃ k : Nat, k ≤ m ∧ i = .int .i64 k ∧ ∃ n, wr = w.drewN n) (fun i _ => m - (intOf i).toNat)
  case atStart => exact ⟨0, Nat.zero_le _, rfl, 0, rfl⟩
  case round =>
    obtain ⟨k, hk, rfl, n, rfl⟩ := hrel
    by_cases hlt : k < m
    · have h1 : k < xs.length := by omega
      have h2 : k < ys.length := by omega
      obtain ⟨ad, rfl, _, hc0⟩ := hr.at_ (cR_get h1)
      obtain ⟨ad', rfl, _, hc0'⟩ := hr'.at_ (cR_get h2)
      have hf : xs[k].r = ys[k].r := by
        have h := congrArg (fun l => l[k]?) he
        simpa [h1, h2] using h
      have hb := hx _ (List.getElem_mem h1)
      have hb' := hy _ (List.getElem_mem h2)
      have hbl := hlen _ (List.getElem_mem h1)
      unfold RcM.v at hc0 hc0'
      rw [← hf] at hc0' hb'
      generalize xs[k].r = f at *
      generalize xs[k].A = D at *
      generalize ys[k].A = D' at *
      generalize xs[k].c = x at *
      generalize ys[k].c = x' at *
      have hS : ∀ j, Calls Tryz.prog 46 #[.slice D f.length x, .slice D' f.length x'] (w.drewN (n + j)) fun e w' => e = .returned (.bool true) ∧ ∃ q, w' = w.drewN (n + q) := fun j =>
        (sameBytes_yes D D' f f f.length f.length x x' lim (w.drewN (n + j)) rfl rfl hbl rfl (hb.drewN _) (hb'.drewN _)).mono fun e w' ⟨h1, q, h2⟩ => ⟨h1, j + q, by rw [h2, World.drewN_drewN, Nat.add_assoc]⟩
      clear hf
      go_wp2
      go_quiet (first | with_reducible exact hS _)
      go_wp2
      go_roundw
      case rel => exact ⟨k + 1, by omega, by go_num, _, rfl⟩
      case measure => simp [intOf]; omega
    · go_wp2
      go_ret
      exact ⟨rfl, n, rfl⟩

theorem fine_no (A : Option Addr) (zs : List Int) (n c lim : Nat) (w : World) (hn : zs.length = n) (hl : n ≤ 9223372036854775807) (hr : Rds w lim A (cN zs)) (hneg : zs.any (fun k => decide (k < 0)) = true) :
    Calls Tryz.prog 24 #[.slice A n c] w fun e w' => e = .returned (.bool false) ∧ ∃ k, w' = w.drewN k := by
  have HNEG := Lib.hid hneg
  clear hneg
  go_enter Tryz.func24, Tryz.ntmps24
  go_wp2
  go_loopw [3] (fun i wr => ∃ k : Nat, k ≤ n ∧ i = .int .i64 k ∧ (∀ j, j < k → ∀ z, zs[j]? = some z → 0 ≤ z) ∧ ∃ q, wr = w.drewN q) (fun i _ => n - (intOf i).toNat)
  case atStart => exact ⟨0, Nat.zero_le _, rfl, fun j hj => absurd hj (by omega), 0, rfl⟩
  case round =>
    obtain ⟨k, hk, rfl, hall, q, rfl⟩ := hrel
    have HA := Lib.hid hall
    clear hall
    by_cases hlt : k < n
    · have h1 : k < zs.length := by omega
      obtain ⟨ad, rfl, _, hc0⟩ := hr.at_ (show (cN zs)[k]? = some (.int .i64 zs[k]) by simp [cN, h1])
      have HE := Lib.hid (List.getElem?_eq_getElem h1)
      generalize zs[k] = z at *
      go_wp2
      · go_ret
        exact ⟨rfl, q, rfl⟩
      · go_roundw
        case rel =>
          refine ⟨k + 1, by omega, by go_num, fun j hj z' hz' => ?_, _, rfl⟩
          rcases Nat.lt_or_ge j k with h | h
          · exact HA.out j h z' hz'
          · obtain rfl : j = k := by omega
            rw [HE.out] at hz'
            obtain rfl := Option.some.inj hz'
            omega
        case measure => simp [intOf]; omega
    · exfalso
      have hk2 : k = n := by omega
      obtain ⟨z, hz, hz0⟩ := List.any_eq_true.1 HNEG.out
      obtain ⟨j, hj, rfl⟩ := List.getElem_of_mem hz
      have := HA.out j (by omega) _ (List.getElem?_eq_getElem hj)
      have h0 := of_decide_eq_true hz0
      omega
end Go.Proofs.YtfiebjfdlplpjaaGreatDoor
end
