/- The walks over firstSums and within. -/
import Derived.Test.YtconfkjchjcjgaaKSums
import Derived.StillTailTactics
import Derived.Deep.RegionHeld3
namespace Go.Proofs.Ytconfkjchjcjgaa
open Go.RowKit
set_option linter.unusedVariables false

theorem add_base (g k : Nat) : (⟨g, 0, none⟩ : Addr).add k = ⟨g, k, none⟩ := by unfold Addr.add; split <;> simp_all
theorem ro_get {rs : List Ro} {k : Nat} (h : k < rs.length) : (rs.map Ro.v)[k]? = some (.slice rs[k].A rs[k].xs.length rs[k].c) := by simp [h, Ro.v]
theorem own_get {node : Nat} {rs : List Ro} {k : Nat} (h : k < rs.length) : (ownOf node rs)[k]'(by rw [ownOf_length]; exact h) = rs[k].xs.getD node 0 := by simp [ownOf]

set_option maxHeartbeats 4000000 in
set_option maxRecDepth 100000 in
theorem sums_any {A : Option Addr} {rs : List Ro} {n c node : Nat} (w : World) (hn : rs.length = n) (hm : n ≤ 1048576) (hnd : node ≤ 63) (hC : Course w w.heap.size A rs) (hb : InC rs) :
    Calls Try.prog 36 #[.slice A n c, .int .i64 node] w fun e w' => ∃ v, e = .returned v ∧ w'.ownsRow w.heap.size 2 1 v (n + 1) (sumsTo (ownOf node rs) n) ∧ Below w.heap.size w w' := by
  obtain ⟨i0, hi, hz0, hz1, hz2⟩ := info_parts info2
  obtain ⟨w1, hmk, hown1, hb1⟩ := make_one w (n + 1) (by omega) (by omega)
  have hmk' : (Instr.makeSlice 69 (.int .i64 1) (.int .i64 ((n : Int) + 1))).run Try.prog w = .ok (.slice (some ⟨w.heap.size, 0, none⟩) 1 (n + 1)) w1 := by
    rw [show ((n : Int) + 1) = ((n + 1 : Nat) : Int) by omega]; exact hmk
  have HN := Lib.hid hn
  have HO := Lib.hid hown1
  have HIN := Lib.hid (hb.own node)
  clear hmk hn hown1 hb
  go_enter Try.func36, Try.ntmps36
  go_wp2
  go_loopw [5, 15] (fun v i wr => ∃ k : Nat, k ≤ n ∧ i = .int .i64 k ∧ wr.ownsRow w.heap.size 2 1 v (k + 1) (sumsTo (ownOf node rs) k) ∧ Below w.heap.size w wr) (fun _ i _ => n - (intOf i).toNat)
  case atStart => exact ⟨0, by omega, rfl, by rw [sums0]; exact HO.out, hb1⟩
  case round =>
    obtain ⟨k, hk, rfl, hown, hbk⟩ := hrel
    by_cases hlt : k < n
    · have hkr : k < rs.length := by have := HN.out; omega
      have HR : Hid (rs[k].xs.getD node 0 = (ownOf node rs)[k]'(by rw [ownOf_length]; exact hkr)) := Lib.hid (own_get hkr).symm
      obtain ⟨ad, rfl, hlad, hcell⟩ := (hC.below hbk).rows.at_ (ro_get hkr)
      have hxs := (hC.below hbk).each rs[k] (List.getElem_mem _)
      have hlen := hC.len rs[k] (List.getElem_mem _)
      generalize hr : rs[k] = r at *
      have HRr := Lib.hid hr
      clear hr
      generalize hL : r.xs.length = L at *
      obtain ⟨A', cp, rfl, hrd, hcc, hcm, hnil⟩ := own_open hown
      have hne : sumsTo (ownOf node rs) k ≠ [] := by intro e; have := congrArg List.length e; rw [sumsTo_length] at this; cases this
      obtain ⟨a2, rfl, hla2, hc2⟩ := hrd hne
      have hcs := hc2 k _ (sumsTo_get _ (Nat.le_refl k))
      have hadd : ∃ g, a2 = ⟨g, 0, none⟩ := by
        rcases hown.2 with ⟨e, _⟩ | ⟨g, cap, cur, e, _⟩
        · cases e
        · injection e with e; injection e with e; exact ⟨g, e⟩
      obtain ⟨g, rfl⟩ := hadd
      have hk8 : (k + 1 + 1) * 8 ≤ 140737488355328 := by omega
      have hbo := pre_bound40 HIN.out (by rw [ownOf_length]; have := HN.out; omega) k (by rw [ownOf_length]; have := HN.out; omega)
      have hbx := HIN.out _ (List.getElem_mem (show k < (ownOf node rs).length by rw [ownOf_length]; exact hkr))
      rw [← HR.out] at hbx
      have HS : Hid (pre (ownOf node rs) (k + 1) = pre (ownOf node rs) k + r.xs.getD node 0) := Lib.hid (by rw [pre_succ _ _ (by rw [ownOf_length]; exact hkr), ← HR.out])
      have hcs' : wr.cell? ⟨g, k, none⟩ = some (.int .i64 (pre (ownOf node rs) k)) := by rw [add_base] at hcs; exact hcs
      generalize pre (ownOf node rs) k = p at *
      have HOWN := Lib.hid hown
      by_cases hnl : node < L
      · have hx : (cI r.xs)[node]? = some (.int .i64 (r.xs.getD node 0)) := by
          have : node < r.xs.length := by have := hL; omega
          rw [cI_get this]; simp [this]
        obtain ⟨ad2, hA2, hl2, hcx⟩ := hxs.at_ hx
        rw [hA2] at hcell
        generalize r.xs.getD node 0 = x at *
        have HL := Lib.hid hL
        clear hL hnil hrd hown hxs hcs hc2 hne hx hA2
        go_wp2_with (at_builtin; go_loud (refine app_one _ rfl (.tmp 28) (.tmp 35) 69 rfl w.heap.size 2 i0 (.int .i64 0) 8 Try.underlying69 hi hz0 hz1 hz2 rfl _ (k + 1) _ rfl HOWN.out _ rfl rfl (by unfold maxLen; omega) hk8 (by have := hbk.size; omega) ?_); intro v' w2 hown2 hb2)
        refine ⟨⟨k + 1, by omega, by go_num, ?_, hbk.trans hb2⟩, by simp [intOf]; omega⟩
        rw [sumsTo_succ, HS.out]
        exact hown2
      · have hx0 : r.xs.getD node 0 = 0 := by
          have : r.xs.length ≤ node := by have := hL; omega
          rw [List.getD_eq_getElem?_getD, List.getElem?_eq_none this]; rfl
        rw [hx0] at HS hbx HR
        have HL := Lib.hid hL
        have HX0 := Lib.hid hx0
        rw [Int.add_zero] at HS
        clear hL hnil hrd hown hxs hcs hc2 hne hx0
        go_wp2_with (at_builtin; go_loud (refine app_one _ rfl (.tmp 28) (.tmp 35) 69 rfl w.heap.size 2 i0 (.int .i64 0) 8 Try.underlying69 hi hz0 hz1 hz2 rfl _ (k + 1) _ rfl HOWN.out _ rfl rfl (by unfold maxLen; omega) hk8 (by have := hbk.size; omega) ?_); intro v' w2 hown2 hb2)
        refine ⟨⟨k + 1, by omega, by go_num, ?_, hbk.trans hb2⟩, by simp [intOf]; omega⟩
        rw [sumsTo_succ, HS.out]
        exact hown2
    · go_wp2
      go_ret
      obtain rfl : k = n := by omega
      exact ⟨_, rfl, hown, hbk⟩

set_option maxHeartbeats 4000000 in
set_option maxRecDepth 100000 in
theorem within_any {A : Option Addr} {own : List Int} {n c : Nat} {d : Int} (w : World) (hn : own.length = n) (hm : n ≤ 1048576) (h0 : 0 ≤ d) (h1 : d ≤ 500) (hb : InB own) (hr : Rds w w.heap.size A (sumsTo own n)) :
    Calls Try.prog 35 #[.slice A (n + 1) c, .int .i64 d] w fun e w' => e = .returned (.bool (kpB d own)) ∧ w = w' := by
  have HN := Lib.hid hn
  have HIN := Lib.hid hb
  clear hn hb
  go_enter Try.func35, Try.ntmps35
  go_wp2
  go_loop [5, 6, 15] (fun m l i => ∃ (k : Nat) (M L : Int), k ≤ n + 1 ∧ i = .int .i64 k ∧ m = .int .i64 M ∧ l = .int .i64 L ∧ Way d own k M L ∧ (-9000000000000000 ≤ M ∧ M ≤ 9000000000000000) ∧ (-9000000000000000 ≤ L ∧ L ≤ 9000000000000000)) (fun _ _ i => n + 1 - (intOf i).toNat)
  case atStart => exact ⟨0, 0, 0, by omega, rfl, rfl, rfl, Way.start d own, by omega, by omega⟩
  case round =>
    obtain ⟨k, M, L, hk, rfl, rfl, rfl, hw, hM, hL⟩ := hrel
    by_cases hlt : k < n + 1
    · obtain ⟨ad, rfl, hlad, hcell⟩ := hr.at_ (sumsTo_get own (show k ≤ n by omega))
      have hbo := pre_bound40 HIN.out (by have := HN.out; omega) k (by have := HN.out; omega)
      have hmb := mul_bound h0 h1 (show k ≤ 1048576 by omega)
      obtain ⟨⟨m1, m2⟩, m3, m4⟩ := hmb
      have HO : Hid (osl d own k = 1000 * pre own k - (1000 - d) * k) := Lib.hid rfl
      have HF : Hid (ofs d own k = 1000 * pre own k - (1000 + d) * k) := Lib.hid rfl
      have HW := Lib.hid hw
      clear hw
      generalize pre own k = p at *
      have hoB : -9000000000000000 ≤ osl d own k ∧ osl d own k ≤ 9000000000000000 := by have := HO.out; omega
      have hfB : -9000000000000000 ≤ ofs d own k ∧ ofs d own k ≤ 9000000000000000 := by have := HF.out; omega
      by_cases hbad : osl d own k < M - 2000 ∨ L + 2000 < ofs d own k
      · have HNO := Lib.hid (kpB_false (HW.out.bad (by have := HN.out; omega) hbad))
        rcases hbad with hbad | hbad
        · have t1 : decide (1000 * p - (1000 - d) * k < M - 2000) = true := decide_eq_true (by have := HO.out; omega)
          clear hbad
          go_wp2
          go_ret
          exact ⟨by rw [HNO.out]; rfl, rfl⟩
        · by_cases hb1 : osl d own k < M - 2000
          · have t1 : decide (1000 * p - (1000 - d) * k < M - 2000) = true := decide_eq_true (by have := HO.out; omega)
            clear hbad hb1
            go_wp2
            go_ret
            exact ⟨by rw [HNO.out]; rfl, rfl⟩
          · have t1 : decide (1000 * p - (1000 - d) * k < M - 2000) = false := decide_eq_false (by have := HO.out; omega)
            have t2 : decide (L + 2000 < 1000 * p - (1000 + d) * k) = true := decide_eq_true (by have := HF.out; omega)
            clear hbad hb1
            go_wp2
            go_ret
            exact ⟨by rw [HNO.out]; rfl, rfl⟩
      · have t1 : decide (1000 * p - (1000 - d) * k < M - 2000) = false := decide_eq_false (by have := HO.out; omega)
        have t2 : decide (L + 2000 < 1000 * p - (1000 + d) * k) = false := decide_eq_false (by have := HF.out; omega)
        have HS := Lib.hid (HW.out.step (by omega) (by omega))
        clear hbad
        go_wp2

        go_round
        case rel => 
          refine ⟨k + 1, _, _, by omega, by go_num, rfl, rfl, ?_, ?_, ?_⟩
          · rw [← HO.out, ← HF.out]
            have e1 : (if M < osl d own k then osl d own k else M) = max M (osl d own k) := by split <;> omega
            have e2 : (if ofs d own k < L then ofs d own k else L) = min L (ofs d own k) := by split <;> omega
            rw [e1, e2]
            exact HS.out
          · rw [← HO.out]; split <;> omega
          · rw [← HF.out]; split <;> omega
        case measure => simp [intOf]; omega
    · have hkk : k = n + 1 := by omega
      have HNO := Lib.hid (kpB_true (by rw [hkk, ← HN.out] at hw; exact hw.done))
      clear hw hkk
      go_wp2
      go_ret
      exact ⟨by rw [HNO.out]; rfl, rfl⟩
end Go.Proofs.Ytconfkjchjcjgaa
