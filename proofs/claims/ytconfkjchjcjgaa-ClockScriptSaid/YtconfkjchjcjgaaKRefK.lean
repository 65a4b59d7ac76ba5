/- The document's Keeps. -/
import Derived.Test.YtconfkjchjcjgaaKKeep
namespace Go.Proofs.Ytconfkjchjcjgaa
open Go.RowKit
set_option linter.unusedVariables false

theorem infoI : (Try.prog.info? 3).map (fun i => (i.zero, i.size, i.bytes)) = some (some (.int .i64 0), 1, 8) := by kernel_rfl
theorem gd_bound {d g : Int} (h0 : 0 ≤ d) (h1 : d ≤ 500) (a : 0 ≤ g) (b : g ≤ 1048576) : 0 ≤ g * d ∧ g * d ≤ 524288000 := by
  have p := Int.mul_nonneg a h0
  have q := Int.mul_le_mul_of_nonneg_left h1 a
  omega
theorem badB_false {x : Int} (h : badB x = false) : 0 ≤ x ∧ x ≤ 1048576 := by unfold badB at h; simp at h; omega
theorem badB_true {x : Int} (h : badB x = true) : x < 0 ∨ 1048576 < x := by unfold badB at h; simp at h; omega

set_option maxHeartbeats 2000000 in
set_option maxRecDepth 100000 in
theorem refKeepOut_any {A : Option Addr} {rs : List Ro} {n c : Nat} {node d : Int} (w : World) (hm : n ≤ 200) (h : ¬ ((0 ≤ d ∧ d ≤ 500) ∧ 0 ≤ node ∧ node ≤ 63)) :
    Calls Try.prog 22 #[.slice A n c, .int .i64 node, .int .i64 d] w fun e w' => e = .returned (.tuple #[.bool false, .int .i64 2]) ∧ w = w' := by
  by_cases c1 : d < 0
  · have t1 : decide (d < 0) = true := decide_eq_true c1
    clear h
    go_enter Try.func22, Try.ntmps22
    go_wp2
    go_returns
    exact ⟨rfl, rfl⟩
  have t1 : decide (d < 0) = false := decide_eq_false c1
  by_cases c2 : 500 < d
  · have t2 : decide (500 < d) = true := decide_eq_true c2
    clear h c1
    go_enter Try.func22, Try.ntmps22
    go_wp2
    go_returns
    exact ⟨rfl, rfl⟩
  have t2 : decide (500 < d) = false := decide_eq_false c2
  by_cases c3 : node < 0
  · have t3 : decide (node < 0) = true := decide_eq_true c3
    clear h c1 c2
    go_enter Try.func22, Try.ntmps22
    go_wp2
    go_returns
    exact ⟨rfl, rfl⟩
  have t3 : decide (node < 0) = false := decide_eq_false c3
  have c4 : 63 < node := by omega
  have t4 : decide (63 < node) = true := decide_eq_true c4
  clear h c1 c2 c3
  go_enter Try.func22, Try.ntmps22
  go_wp2
  go_returns
  exact ⟨rfl, rfl⟩

/-- what Keeps answers -/
noncomputable def resB (rs : List Ro) (node : Nat) (d : Int) : Bool := if badC rs = true then false else kpB d (ownOf node rs)
noncomputable def resE (rs : List Ro) : Int := if badC rs = true then 2 else 0

set_option maxHeartbeats 8000000 in
set_option maxRecDepth 100000 in
theorem refKeep_any {A : Option Addr} {rs : List Ro} {n c node : Nat} {d : Int} (w : World) (hn : rs.length = n) (hm : n ≤ 200) (hC : Course w w.heap.size A rs) (h0 : 0 ≤ d) (h1 : d ≤ 500) (hnd : node ≤ 63) :
    Calls Try.prog 22 #[.slice A n c, .int .i64 node, .int .i64 d] w fun e w' => e = .returned (.tuple #[.bool (resB rs node d), .int .i64 (resE rs)]) ∧ Below w.heap.size w w' := by
  obtain ⟨i0, hi, hz0, hz1, hz2⟩ := info_parts infoI
  have t1 : decide (d < 0) = false := decide_eq_false (by omega)
  have t2 : decide (500 < d) = false := decide_eq_false (by omega)
  have t3 : decide ((node : Int) < 0) = false := decide_eq_false (by omega)
  have t4 : decide ((63 : Int) < (node : Int)) = false := decide_eq_false (by omega)
  have t5 : decide ((1048576 : Int) < (n : Int)) = false := decide_eq_false (by omega)
  have HN := Lib.hid hn
  clear hn
  go_enter Try.func22, Try.ntmps22
  go_wp2
  clear t1 t2 t3 t4 t5
  go_loopw [8, 9] (fun v i wr => ∃ k : Nat, k ≤ n ∧ i = .int .i64 k ∧ wr.ownsRow w.heap.size 3 1 v k (cI ((ownOf node rs).take k)) ∧ Below w.heap.size w wr ∧ ∀ j (hj : j < rs.length), j < k → rs[j].xs.any badB = false) (fun _ i _ => n - (intOf i).toNat)
  case atStart => exact ⟨0, by omega, rfl, ⟨rfl, .inl ⟨rfl, rfl⟩⟩, Below.refl _ _, fun j _ hj => absurd hj (Nat.not_lt_zero j)⟩
  case round =>
    obtain ⟨k, hk, rfl, hown, hbk, hno⟩ := hrel
    have HNO := Lib.hid hno
    have HOWN := Lib.hid hown
    clear hno hown
    by_cases hlt : k < n
    · have hkx : k < rs.length := by have := HN.out; omega
      have HR : Hid (rs[k].xs.getD node 0 = (ownOf node rs)[k]'(by rw [ownOf_length]; exact hkx)) := Lib.hid (own_get hkx).symm
      have hC' := hC.below hbk
      obtain ⟨ad, hA, hlad, hcell⟩ := hC'.rows.at_ (ro_get hkx)
      have hxs := hC'.each rs[k] (List.getElem_mem _)
      have hlen := hC'.len rs[k] (List.getElem_mem _)
      generalize hx : rs[k] = x at *
      have HX := Lib.hid hx
      have HC := Lib.hid hC
      clear hx hC hC'
      subst hA
      obtain ⟨L, hL⟩ : ∃ L, x.xs.length = L := ⟨_, rfl⟩
      rw [hL] at hcell hlen
      have HL := Lib.hid hL
      clear hL
      go_wp2
      obtain ⟨wo, hwo⟩ : ∃ wo : World, wo = wr := ⟨_, rfl⟩
      subst hwo
      go_loop [10] (fun i => ∃ q : Nat, q ≤ L ∧ i = .int .i64 q ∧ ∀ j (hj : j < x.xs.length), j < q → badB x.xs[j] = false) (fun i => L - (intOf i).toNat)
      case atStart => exact ⟨0, by omega, rfl, fun j _ hj => absurd hj (Nat.not_lt_zero j)⟩
      case round =>
        obtain ⟨q, hq, rfl, hnq⟩ := hrel
        have HNQ := Lib.hid hnq
        clear hnq
        by_cases hql : q < L
        · have hqx : q < x.xs.length := by have := HL.out; omega
          obtain ⟨ad2, hA2, hl2, hcx⟩ := hxs.at_ (cI_get hqx)
          rw [hA2] at hcell
          generalize hy : x.xs[q] = y at *
          have HY := Lib.hid hy
          clear hy hA2
          cases hb : badB y
          · have := badB_false hb
            have u1 : decide (y < 0) = false := decide_eq_false (by omega)
            have u2 : decide (1048576 < y) = false := decide_eq_false (by omega)
            have HB := Lib.hid hb
            clear hb this
            go_wp2
            go_round
            case rel =>
              refine ⟨q + 1, by omega, by go_num, fun j hj hjk => ?_⟩
              rcases Nat.lt_or_ge j q with q' | q'
              · exact HNQ.out j hj q'
              · obtain rfl : j = q := by omega
                rw [HY.out]; exact HB.out
            case measure => simp [intOf]; omega
          · have hbad : badC rs = true := any_at (fun r : Ro => r.xs.any badB) rs hkx (by rw [HX.out]; exact any_at badB x.xs hqx (by rw [HY.out]; exact hb))
            have e1 : resB rs node d = false := by unfold resB; rw [if_pos hbad]
            have e2 : resE rs = 2 := by unfold resE; rw [if_pos hbad]
            have E1 := Lib.hid e1
            have E2 := Lib.hid e2
            clear e1 e2 hbad
            rcases badB_true hb with hb' | hb'
            · have u1 : decide (y < 0) = true := decide_eq_true hb'
              clear hb
              go_wp2
              go_returns
              exact ⟨by rw [E1.out, E2.out]; rfl, hbk⟩
            · have u1 : decide (y < 0) = false := decide_eq_false (by omega)
              have u2 : decide (1048576 < y) = true := decide_eq_true hb'
              clear hb
              go_wp2
              go_returns
              exact ⟨by rw [E1.out, E2.out]; rfl, hbk⟩
        · have HA := Lib.hid (any_to badB x.xs fun j hj => HNQ.out j hj (by have := HL.out; omega))
          have hk8 : (k + 1) * 8 ≤ 140737488355328 := by omega
          have HS : Hid ((ownOf node rs).take (k + 1) = (ownOf node rs).take k ++ [x.xs.getD node 0]) := Lib.hid (by rw [List.take_succ_eq_append_getElem (by rw [ownOf_length]; exact hkx), ← HR.out])
          by_cases hnl : node < L
          · have hx' : (cI x.xs)[node]? = some (.int .i64 (x.xs.getD node 0)) := by
              have : node < x.xs.length := by have := HL.out; omega
              rw [cI_get this]; simp [this]
            obtain ⟨ad2, hA2, hl2, hcx⟩ := hxs.at_ hx'
            rw [hA2] at hcell
            generalize x.xs.getD node 0 = z at *
            clear hxs hx' hA2
            go_wp2_with (at_builtin; go_loud (refine app_one _ rfl (.tmp 82) (.tmp 84) 61 rfl w.heap.size 3 i0 (.int .i64 0) 8 Try.underlying61 hi hz0 hz1 hz2 rfl _ k _ rfl HOWN.out _ rfl rfl (by unfold maxLen; omega) hk8 (by have := hbk.size; omega) ?_); intro v' w2 hown2 hb2)
            refine ⟨⟨k + 1, by omega, by go_num, ?_, hbk.trans hb2, fun j hj hjk => ?_⟩, by simp [intOf]; omega⟩
            · rw [HS.out]
              simpa [cI] using hown2
            · rcases Nat.lt_or_ge j k with q' | q'
              · exact HNO.out j hj q'
              · obtain rfl : j = k := by omega
                rw [HX.out]; exact HA.out
          · have hx0 : x.xs.getD node 0 = 0 := by
              have : x.xs.length ≤ node := by have := HL.out; omega
              rw [List.getD_eq_getElem?_getD, List.getElem?_eq_none this]; rfl
            rw [hx0] at HS
            clear hxs hx0
            go_wp2_with (at_builtin; go_loud (refine app_one _ rfl (.tmp 82) (.tmp 84) 61 rfl w.heap.size 3 i0 (.int .i64 0) 8 Try.underlying61 hi hz0 hz1 hz2 rfl _ k _ rfl HOWN.out _ rfl rfl (by unfold maxLen; omega) hk8 (by have := hbk.size; omega) ?_); intro v' w2 hown2 hb2)
            refine ⟨⟨k + 1, by omega, by go_num, ?_, hbk.trans hb2, fun j hj hjk => ?_⟩, by simp [intOf]; omega⟩
            · rw [HS.out]
              simpa [cI] using hown2
            · rcases Nat.lt_or_ge j k with q' | q'
              · exact HNO.out j hj q'
              · obtain rfl : j = k := by omega
                rw [HX.out]; exact HA.out
    · have hbad : badC rs = false := any_to (fun r : Ro => r.xs.any badB) rs fun j hj => HNO.out j hj (by have := HN.out; omega)
      have HIN := Lib.hid ((badC_no hbad).own node)
      have e1 : resB rs node d = kpB d (ownOf node rs) := by unfold resB; rw [hbad]; rfl
      have e2 : resE rs = 0 := by unfold resE; rw [hbad]; rfl
      have E1 := Lib.hid e1
      have E2 := Lib.hid e2
      obtain rfl : k = n := by omega
      have HOL := Lib.hid ((ownOf_length node rs).trans HN.out)
      have HOW : Hid (wr.ownsRow w.heap.size 3 1 _ k (cI (ownOf node rs))) := Lib.hid (by have := HOWN.out; rwa [List.take_of_length_le (by rw [HOL.out]; exact Nat.le_refl _)] at this)
      clear e1 e2 hbad hC HN HOWN HNO
      generalize ownOf node rs = own at *
      obtain ⟨A', cp, rfl, hrd, hcc, hcm, -⟩ := own_open HOW.out
      clear HOW
      go_wp2
      go_loopw [12] (fun i W => ∃ a : Nat, a ≤ k ∧ i = .int .i64 a ∧ W = wr ∧ ∀ b, b < a → ∀ q, b < q → q ≤ k → Pair d own b q) (fun i _ => k - (intOf i).toNat)
      case atStart => exact ⟨0, by omega, rfl, rfl, fun b hb => absurd hb (Nat.not_lt_zero b)⟩
      case round =>
        obtain ⟨a, ha, rfl, rfl, hpa⟩ := hrel
        have HPA := Lib.hid hpa
        clear hpa
        by_cases hak : a < k
        · go_wp2
          go_loop [13, 14] (fun s j => ∃ (q : Nat) (S : Int), a ≤ q ∧ q ≤ k ∧ j = .int .i64 q ∧ s = .int .i64 S ∧ S = pre own q - pre own a ∧ (0 ≤ S ∧ S ≤ q * 1048576) ∧ ∀ b, a < b → b ≤ q → Pair d own a b) (fun _ j => k - (intOf j).toNat)
          case atStart => exact ⟨a, 0, by omega, by omega, rfl, rfl, by omega, by omega, fun b h1 h2 => by omega⟩
          case round =>
            obtain ⟨q, S, haq, hqk, rfl, rfl, hS, hSb, hp⟩ := hrel
            have HS := Lib.hid hS
            have HP := Lib.hid hp
            clear hS hp
            by_cases hql : q < k
            · have hqo : q < own.length := by have := HOL.out; omega
              obtain ⟨ad, rfl, hlad, hcell⟩ := hrd.at_ (cI_get hqo)
              have hxb := HIN.out own[q] (List.getElem_mem _)
              have HX : Hid (pre own (q + 1) - pre own a = S + own[q]) := Lib.hid (by rw [pre_succ own q hqo, HS.out]; omega)
              have hiff := pair_iff (d := d) (own := own) (j := a) (k := q + 1)
              rw [HX.out, show ((q + 1 : Nat) : Int) - a = (q : Int) - a + 1 by omega] at hiff
              have HI := Lib.hid hiff
              clear hiff
              generalize own[q] = x at *
              obtain ⟨g1, g2⟩ := gd_bound h0 h1 (show 0 ≤ (q : Int) - a + 1 by omega) (by omega)
              by_cases c1 : 1000 * (S + x) < 1000 * ((q : Int) - a + 1) - ((q : Int) - a + 1) * d - 2000
              · have hno : kpB d own = false := kpB_false fun hK => by
                  have h := (HI.out.1 (hK (q + 1) (by have := HOL.out; omega) a (by omega))).1
                  exact absurd c1 (Int.not_lt.2 h)
                have HNO := Lib.hid hno
                have u1 : decide (1000 * (S + x) < 1000 * ((q : Int) - a + 1) - ((q : Int) - a + 1) * d - 2000) = true := decide_eq_true c1
                clear hno c1
                go_wp2
                go_returns
                exact ⟨by rw [E1.out, E2.out, HNO.out]; rfl, hbk⟩
              · have u1 : decide (1000 * (S + x) < 1000 * ((q : Int) - a + 1) - ((q : Int) - a + 1) * d - 2000) = false := decide_eq_false c1
                by_cases c2 : 1000 * ((q : Int) - a + 1) + ((q : Int) - a + 1) * d + 2000 < 1000 * (S + x)
                · have hno : kpB d own = false := kpB_false fun hK => by
                    have h := (HI.out.1 (hK (q + 1) (by have := HOL.out; omega) a (by omega))).2
                    exact absurd c2 (Int.not_lt.2 h)
                  have HNO := Lib.hid hno
                  have u2 : decide (1000 * ((q : Int) - a + 1) + ((q : Int) - a + 1) * d + 2000 < 1000 * (S + x)) = true := decide_eq_true c2
                  clear hno c1 c2
                  go_wp2
                  go_returns
                  exact ⟨by rw [E1.out, E2.out, HNO.out]; rfl, hbk⟩
                · have u2 : decide (1000 * ((q : Int) - a + 1) + ((q : Int) - a + 1) * d + 2000 < 1000 * (S + x)) = false := decide_eq_false c2
                  have HOKP := Lib.hid (HI.out.2 ⟨Int.not_lt.1 c1, Int.not_lt.1 c2⟩)
                  clear c1 c2
                  go_wp2
                  go_round
                  case rel =>
                    refine ⟨q + 1, S + x, by omega, by omega, by go_num, rfl, HX.out.symm, by omega, fun b h1 h2 => ?_⟩
                    rcases Nat.lt_or_ge q b with q' | q'
                    · obtain rfl : b = q + 1 := by omega
                      exact HOKP.out
                    · exact HP.out b h1 q'
                  case measure => simp [intOf]; omega
            · obtain rfl : q = k := by omega
              go_wp2
              refine ⟨⟨a + 1, by omega, by go_num, trivial, fun b hb q' h1 h2 => ?_⟩, by simp [intOf]; omega⟩
              rcases Nat.lt_or_ge b a with q'' | q''
              · exact HPA.out b q'' q' h1 h2
              · obtain rfl : b = a := by omega
                exact HP.out q' h1 h2
        · have HYES := Lib.hid (kpB_true (d := d) (own := own) fun q hq b hb => HPA.out b (by have := HOL.out; omega) q hb (by have := HOL.out; omega))
          go_wp2
          go_returns
          exact ⟨by rw [E1.out, E2.out, HYES.out]; rfl, hbk⟩
end Go.Proofs.Ytconfkjchjcjgaa
