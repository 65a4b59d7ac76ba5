/- The walk over Keeps. -/
import Derived.Test.YtconfkjchjcjgaaKSum2
namespace Go.Proofs.Ytconfkjchjcjgaa
open Go.RowKit
set_option linter.unusedVariables false

/-- a number that may not be in a step -/
def badB (x : Int) : Bool := decide (x < 0) || decide (1048576 < x)
theorem bad_any (x : Int) (w : World) : Calls Try.prog 46 #[.int .i64 x] w fun e w' => e = .returned (.bool (badB x)) ∧ w = w' := by
  unfold badB
  go_enter Try.func46, Try.ntmps46
  by_cases h : x < 0
  · go_wp2
    go_ret
    exact ⟨by simp [h], rfl⟩
  · have h' : decide (x < 0) = false := decide_eq_false h
    go_wp2
    go_ret
    exact ⟨by simp, rfl⟩
theorem bad_yes {x : Int} (h : badB x = true) (w : World) : Calls Try.prog 46 #[.int .i64 x] w fun e w' => e = .returned (.bool true) ∧ w = w' := by rw [← h]; exact bad_any x w
theorem bad_no {x : Int} (h : badB x = false) (w : World) : Calls Try.prog 46 #[.int .i64 x] w fun e w' => e = .returned (.bool false) ∧ w = w' := by rw [← h]; exact bad_any x w

/-- where the first one stands -/
def First (p : Bool) (r : Int) : Prop := (p = true ∧ 0 ≤ r ∧ r ≤ 9223372036854775807) ∨ (p = false ∧ r = -1)
theorem any_to {α : Type} (p : α → Bool) (xs : List α) (h : ∀ j (hj : j < xs.length), p xs[j] = false) : xs.any p = false := by
  rw [List.any_eq_false]
  intro x hx
  obtain ⟨j, hj, rfl⟩ := List.getElem_of_mem hx
  rw [h j hj]
  decide
theorem any_at {α : Type} (p : α → Bool) (xs : List α) {k : Nat} (hk : k < xs.length) (h : p xs[k] = true) : xs.any p = true := List.any_eq_true.2 ⟨_, List.getElem_mem _, h⟩

set_option maxHeartbeats 2000000 in
set_option maxRecDepth 100000 in
theorem idxI_any {A : Option Addr} {xs : List Int} {n c lim : Nat} (w : World) (hn : xs.length = n) (hm : n ≤ 140737488351232) (hr : Rds w lim A (cI xs)) :
    Calls Try.prog 54 #[.slice A n c, .func (.func 46) #[] #[]] w fun e w' => ∃ r, e = .returned (.int .i64 r) ∧ First (xs.any badB) r ∧ w = w' := by
  have HN := Lib.hid hn
  clear hn
  go_enter Try.func54, Try.ntmps54
  go_wp2
  go_loop [8] (fun i => ∃ k : Nat, k ≤ n ∧ i = .int .i64 k ∧ ∀ j (hj : j < xs.length), j < k → badB xs[j] = false) (fun i => n - (intOf i).toNat)
  case atStart => exact ⟨0, by omega, rfl, fun j _ hj => absurd hj (Nat.not_lt_zero j)⟩
  case round =>
    obtain ⟨k, hk, rfl, hno⟩ := hrel
    have HNO := Lib.hid hno
    clear hno
    by_cases hlt : k < n
    · have hkx : k < xs.length := by have := HN.out; omega
      obtain ⟨ad, rfl, hlad, hcell⟩ := hr.at_ (cI_get hkx)
      generalize hx : xs[k] = x at *
      have HX := Lib.hid hx
      clear hx
      cases hb : badB x
      · have ct := Lib.hid (bad_no hb w)
        have HB := Lib.hid hb
        clear hb
        go_wp2_with (go_at_call 46; refine ct.out.mono ?_; rintro e w' ⟨rfl, rfl⟩)
        go_round
        case rel =>
          refine ⟨k + 1, by omega, by go_num, fun j hj hjk => ?_⟩
          rcases Nat.lt_or_ge j k with q | q
          · exact HNO.out j hj q
          · obtain rfl : j = k := by omega
            rw [HX.out]; exact HB.out
        case measure => simp [intOf]; omega
      · have ct := Lib.hid (bad_yes hb w)
        have HA := Lib.hid (any_at badB xs hkx (by rw [HX.out]; exact hb))
        clear hb
        go_wp2_with (go_at_call 46; refine ct.out.mono ?_; rintro e w' ⟨rfl, rfl⟩)
        go_ret
        exact ⟨_, rfl, .inl ⟨HA.out, by omega, by omega⟩, rfl⟩
    · have HA := Lib.hid (any_to badB xs fun j hj => HNO.out j hj (by have := HN.out; omega))
      go_wp2
      go_ret
      exact ⟨_, rfl, .inr ⟨HA.out, rfl⟩, rfl⟩
set_option maxRecDepth 100000 in
theorem stepB_any {A : Option Addr} {xs : List Int} {n c lim : Nat} (w : World) (hn : xs.length = n) (hm : n ≤ 140737488351232) (hr : Rds w lim A (cI xs)) :
    Calls Try.prog 34 #[.slice A n c] w fun e w' => e = .returned (.bool (xs.any badB)) ∧ w = w' := by
  have ct := Lib.hid (idxI_any (c := c) w hn hm hr)
  clear hr
  generalize xs.any badB = p at *
  have cc : Calls Try.prog 45 #[.slice A n c, .func (.func 46) #[] #[]] w fun e w' => e = .returned (.bool p) ∧ w = w' := by
    go_enter Try.func45, Try.ntmps45
    go_wp2_with fail
    refine ct.out.mono ?_
    rintro e w' ⟨r, rfl, hf, rfl⟩
    rcases hf with ⟨rfl, h1, h2⟩ | ⟨rfl, rfl⟩
    · go_wp2
      go_ret
      exact ⟨by simp, rfl⟩
    · go_wp2
      go_ret
      exact ⟨by simp, rfl⟩
  clear ct
  go_enter Try.func34, Try.ntmps34
  go_wp2_with (go_at_call 45; refine cc.mono ?_; rintro e w' ⟨rfl, rfl⟩)
  go_ret
  exact ⟨rfl, rfl⟩

/-- a course with a number that may not be -/
def badC (rs : List Ro) : Bool := rs.any fun r => r.xs.any badB
theorem badC_no {rs : List Ro} (h : badC rs = false) : InC rs := by
  intro r hr x hx
  unfold badC at h
  rw [List.any_eq_false] at h
  have h1 := h r hr
  rw [Bool.not_eq_true, List.any_eq_false] at h1
  have h2 := h1 x hx
  unfold badB at h2
  simp at h2
  omega
theorem step_yes {r : Ro} {n lim : Nat} {w : World} (h : r.xs.any badB = true) (hn : r.xs.length = n) (hm : n ≤ 140737488351232) (hr : Rds w lim r.A (cI r.xs)) :
    Calls Try.prog 34 #[.slice r.A n r.c] w fun e w' => e = .returned (.bool true) ∧ w = w' := by rw [← h]; exact stepB_any w hn hm hr
theorem step_no {r : Ro} {n lim : Nat} {w : World} (h : r.xs.any badB = false) (hn : r.xs.length = n) (hm : n ≤ 140737488351232) (hr : Rds w lim r.A (cI r.xs)) :
    Calls Try.prog 34 #[.slice r.A n r.c] w fun e w' => e = .returned (.bool false) ∧ w = w' := by rw [← h]; exact stepB_any w hn hm hr

set_option maxHeartbeats 2000000 in
set_option maxRecDepth 100000 in
theorem idxR_any {A : Option Addr} {rs : List Ro} {n c lim : Nat} (w : World) (hn : rs.length = n) (hm : n ≤ 140737488351232) (hC : Course w lim A rs) :
    Calls Try.prog 44 #[.slice A n c, .func (.func 34) #[] #[]] w fun e w' => ∃ r, e = .returned (.int .i64 r) ∧ First (badC rs) r ∧ w = w' := by
  have HN := Lib.hid hn
  clear hn
  go_enter Try.func44, Try.ntmps44
  go_wp2
  go_loop [8] (fun i => ∃ k : Nat, k ≤ n ∧ i = .int .i64 k ∧ ∀ j (hj : j < rs.length), j < k → rs[j].xs.any badB = false) (fun i => n - (intOf i).toNat)
  case atStart => exact ⟨0, by omega, rfl, fun j _ hj => absurd hj (Nat.not_lt_zero j)⟩
  case round =>
    obtain ⟨k, hk, rfl, hno⟩ := hrel
    have HNO := Lib.hid hno
    clear hno
    by_cases hlt : k < n
    · have hkx : k < rs.length := by have := HN.out; omega
      obtain ⟨ad, hA, hlad, hcell⟩ := hC.rows.at_ (ro_get hkx)
      have hxs := hC.each rs[k] (List.getElem_mem _)
      have hlen := hC.len rs[k] (List.getElem_mem _)
      generalize hx : rs[k] = x at *
      have HX := Lib.hid hx
      have HC := Lib.hid hC
      clear hx hC
      subst hA
      cases hb : x.xs.any badB
      · have ct := Lib.hid (step_no hb rfl hlen hxs)
        have HB := Lib.hid hb
        clear hb hxs
        generalize x.xs.length = L at *
        go_wp2_with (go_at_call 34; refine ct.out.mono ?_; rintro e w' ⟨rfl, rfl⟩)
        go_round
        case rel =>
          refine ⟨k + 1, by omega, by go_num, fun j hj hjk => ?_⟩
          rcases Nat.lt_or_ge j k with q | q
          · exact HNO.out j hj q
          · obtain rfl : j = k := by omega
            rw [HX.out]; exact HB.out
        case measure => simp [intOf]; omega
      · have ct := Lib.hid (step_yes hb rfl hlen hxs)
        have HA := Lib.hid (any_at (fun r : Ro => r.xs.any badB) rs hkx (by rw [HX.out]; exact hb))
        clear hb hxs
        generalize x.xs.length = L at *
        go_wp2_with (go_at_call 34; refine ct.out.mono ?_; rintro e w' ⟨rfl, rfl⟩)
        go_ret
        exact ⟨_, rfl, .inl ⟨HA.out, by omega, by omega⟩, rfl⟩
    · have HA := Lib.hid (any_to (fun r : Ro => r.xs.any badB) rs fun j hj => HNO.out j hj (by have := HN.out; omega))
      go_wp2
      go_ret
      exact ⟨_, rfl, .inr ⟨HA.out, rfl⟩, rfl⟩
set_option maxRecDepth 100000 in
theorem conR_any {A : Option Addr} {rs : List Ro} {n c lim : Nat} {p : Bool} (hp : badC rs = p) (w : World) (hn : rs.length = n) (hm : n ≤ 140737488351232) (hC : Course w lim A rs) :
    Calls Try.prog 33 #[.slice A n c, .func (.func 34) #[] #[]] w fun e w' => e = .returned (.bool p) ∧ w = w' := by
  have ct := Lib.hid (idxR_any (c := c) w hn hm hC)
  rw [hp] at ct
  clear hC hp
  go_enter Try.func33, Try.ntmps33
  go_wp2_with fail
  refine ct.out.mono ?_
  rintro e w' ⟨r, rfl, hf, rfl⟩
  rcases hf with ⟨rfl, h1, h2⟩ | ⟨rfl, rfl⟩
  · go_wp2
    go_ret
    exact ⟨by simp, rfl⟩
  · go_wp2
    go_ret
    exact ⟨by simp, rfl⟩

/-- what Keeps is asked of -/
def KeepFits (rs : List Ro) (node d : Int) : Prop := ((0 ≤ d ∧ d ≤ 500) ∧ 0 ≤ node ∧ node ≤ 63) ∧ rs.length ≤ 1048576 ∧ badC rs = false
set_option maxHeartbeats 4000000 in
set_option maxRecDepth 100000 in
theorem keepBad_any {A : Option Addr} {rs : List Ro} {n c lim : Nat} {node d : Int} (w : World) (hn : rs.length = n) (hm : n ≤ 140737488351232) (hC : Course w lim A rs) (h : ¬ KeepFits rs node d) :
    Calls Try.prog 11 #[.slice A n c, .int .i64 node, .int .i64 d] w fun e w' => e = .returned (.tuple #[.bool false, .int .i64 2]) ∧ w = w' := by
  by_cases hd : d < 0 ∨ 500 < d
  · have ct := noDrift_yes hd w
    clear h hd hC
    go_enter Try.func11, Try.ntmps11
    go_wp2_with (go_at_call 32; refine ct.mono ?_; rintro e w' ⟨rfl, rfl⟩)
    go_returns
    exact ⟨rfl, rfl⟩
  have ct := noDrift_no (d := d) (by omega) (by omega) w
  by_cases h1 : node < 0
  · clear h hd hC
    have t1 : decide (node < 0) = true := decide_eq_true h1
    go_enter Try.func11, Try.ntmps11
    go_wp2_with (go_at_call 32; refine ct.mono ?_; rintro e w' ⟨rfl, rfl⟩)
    go_returns
    exact ⟨rfl, rfl⟩
  have t1 : decide (node < 0) = false := decide_eq_false h1
  by_cases h2 : 63 < node
  · clear h hd hC h1
    have t2 : decide (63 < node) = true := decide_eq_true h2
    go_enter Try.func11, Try.ntmps11
    go_wp2_with (go_at_call 32; refine ct.mono ?_; rintro e w' ⟨rfl, rfl⟩)
    go_returns
    exact ⟨rfl, rfl⟩
  have t2 : decide (63 < node) = false := decide_eq_false h2
  by_cases h3 : 1048576 < n
  · clear h hd hC h1 h2
    have t3 : decide ((1048576 : Int) < (n : Int)) = true := decide_eq_true (by omega)
    go_enter Try.func11, Try.ntmps11
    go_wp2_with (go_at_call 32; refine ct.mono ?_; rintro e w' ⟨rfl, rfl⟩)
    go_returns
    exact ⟨rfl, rfl⟩
  have t3 : decide ((1048576 : Int) < (n : Int)) = false := decide_eq_false (by omega)
  have hb : badC rs = true := by
    cases e : badC rs
    · exact absurd ⟨⟨by omega, by omega, by omega⟩, by omega, e⟩ h
    · rfl
  have cb := Lib.hid (conR_any (c := c) hb w hn hm hC)
  clear h hd hC h1 h2 h3 hb hn
  go_enter Try.func11, Try.ntmps11
  go_wp2_with (first | (go_at_call 32; refine ct.mono ?_; rintro e w' ⟨rfl, rfl⟩) | (go_at_call 33; refine cb.out.mono ?_; rintro e w' ⟨rfl, rfl⟩))
  go_returns
  exact ⟨rfl, rfl⟩
set_option maxHeartbeats 4000000 in
set_option maxRecDepth 100000 in
theorem keep_any {A : Option Addr} {rs : List Ro} {n c node : Nat} {d : Int} (w : World) (hn : rs.length = n) (hC : Course w w.heap.size A rs) (h : KeepFits rs node d) :
    Calls Try.prog 11 #[.slice A n c, .int .i64 node, .int .i64 d] w fun e w' => e = .returned (.tuple #[.bool (kpB d (ownOf node rs)), .int .i64 0]) ∧ Below w.heap.size w w' := by
  obtain ⟨⟨⟨h0, h1⟩, h2, h3⟩, h4, hb⟩ := h
  have ct := noDrift_no h0 h1 w
  have t1 : decide ((node : Int) < 0) = false := decide_eq_false (by omega)
  have t2 : decide ((63 : Int) < (node : Int)) = false := decide_eq_false (by omega)
  have t3 : decide ((1048576 : Int) < (n : Int)) = false := decide_eq_false (by omega)
  have cb := Lib.hid (conR_any (c := c) hb w hn (by omega) hC)
  have cs := Lib.hid (sums_any (c := c) w hn (by omega) (show node ≤ 63 by omega) hC (badC_no hb))
  have HIN := Lib.hid ((badC_no hb).own node)
  have HL := Lib.hid ((ownOf_length node rs).trans hn)
  have hm : n ≤ 1048576 := by omega
  clear hC hb hn h4
  generalize ownOf node rs = own at *
  go_enter Try.func11, Try.ntmps11
  go_wp2_with (first | (go_at_call 32; refine ct.mono ?_; rintro e w' ⟨rfl, rfl⟩) | (go_at_call 33; refine cb.out.mono ?_; rintro e w' ⟨rfl, rfl⟩))
  go_at_call 36
  refine cs.out.mono ?_
  rintro e w1 ⟨v, rfl, hown, hb1⟩
  obtain ⟨A', cp, rfl, hrd, hcc, hcm, -⟩ := own_open hown
  have cw := Lib.hid (within_any (c := cp) w1 HL.out hm h0 h1 HIN.out hrd)
  clear hown hrd
  go_wp2_with (go_at_call 35; refine cw.out.mono ?_; rintro e w' ⟨rfl, rfl⟩)
  go_returns
  exact ⟨rfl, hb1⟩
end Go.Proofs.Ytconfkjchjcjgaa
