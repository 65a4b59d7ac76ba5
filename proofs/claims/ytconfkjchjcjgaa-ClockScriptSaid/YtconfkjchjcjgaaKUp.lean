/- The walk up a heap, and the walk down. -/
import Derived.Test.YtconfkjchjcjgaaKHa
namespace Go.Proofs.Ytconfkjchjcjgaa
open Go.RowKit
set_option linter.unusedVariables false

/-- the heap as its functions are handed it -/
def hV (b : Nat) : Value := .iface 75 (.pointer (some ⟨b, 2, none⟩))
/-- what the walk up has come to -/
structure UpAt (w0 : World) (b mb : Nat) (now : Int) (g cap : Nat) (f0 : Nat → En) (N n : Nat) (w : World) (f : Nat → En) : Prop where
  ha : Ha w b mb now g cap f N
  rea : Rea f0 f n
  outs : Outs (Hs g f0 N) w0 w
section
variable {w w' : World} {b mb : Nat} {now : Int} {g cap : Nat} {f f1 : Nat → En} {N n : Nat}
theorem UpAt.start (h : Ha w b mb now g cap f N) : UpAt w b mb now g cap f N n w f := ⟨h, Rea.refl f n, Outs.refl _ w⟩
theorem UpAt.go {w1 : World} (h : UpAt w b mb now g cap f N n w1 f1) (hb : Below w1.heap.size w1 w') : UpAt w b mb now g cap f N n w' f1 := ⟨h.ha.go hb, h.rea, h.outs.then hb h.outs.size⟩
theorem UpAt.swp {w1 : World} {i j : Nat} (h : UpAt w b mb now g cap f N n w1 f1) (hn : n ≤ N) (hi : i < n) (hj : j < n) (ha : Ha w' b mb now g cap (swp f1 i j) N) (ho : Outs (Hs g f1 N) w1 w') : UpAt w b mb now g cap f N n w' (swp f1 i j) :=
  ⟨ha, h.rea.trans (Rea.swp f1 hi hj), h.outs.trans ho (fun k hk => .inl (Hs.rea h.rea hn hk))⟩

set_option maxHeartbeats 4000000 in
set_option maxRecDepth 100000 in
theorem up_any (h : Ha w b mb now g cap f N) (hn : n ≤ N) {j : Nat} (hj : j < n) (hu : Up ltE f n j) :
    Calls Try.prog 48 #[hV b, .int .i64 j] w fun e w' => e = .returned (.tuple #[]) ∧ ∃ f', UpAt w b mb now g cap f N n w' f' ∧ Hp ltE f' n := by
  have hm : (N : Int) ≤ 1073741824 := by have := h.le; have := h.max; omega
  have H := Lib.hid h
  have HU := Lib.hid hu
  clear h hu
  unfold hV
  go_enter Try.func48, Try.ntmps48
  go_wp2_with fail
  go_loopw [1] (fun v wr => ∃ (k : Nat) (f1 : Nat → En), v = .int .i64 k ∧ k < n ∧ Up ltE f1 n k ∧ UpAt w b mb now g cap f N n wr f1) (fun v _ => (intOf v).toNat)
  case atStart => exact ⟨j, f, rfl, hj, HU.out, UpAt.start H.out⟩
  case round =>
    obtain ⟨k, f1, rfl, hk, hup, hat⟩ := hrel
    have HUP := Lib.hid hup
    have HAT := Lib.hid hat
    clear hup hat
    by_cases h0 : k = 0
    · subst h0
      go_wp2
      go_end0
      exact ⟨rfl, f1, HAT.out, HUP.out.done (.inl rfl)⟩
    · obtain ⟨p, hp⟩ : ∃ p, p = par k := ⟨_, rfl⟩
      have hpk : p < k := by rw [hp]; exact par_lt (by omega)
      have hpI : ((k : Int) - 1) / 2 = p := by rw [hp]; unfold par; omega
      have hk1 : (1 : Int) ≤ k := by omega
      have t1 : (((k : Int) - 1) / 2 == (k : Int)) = false := by rw [hpI]; simp; omega
      have HPI := Lib.hid hpI
      have HP := Lib.hid hp
      clear hpI hp
      have hme := meth_less (HAT.out.ha.c2)
      have cl := less_any HAT.out.ha (i := k) (j := p) (by omega) (by omega)
      cases hlt : ltE (f1 k) (f1 p)
      · rw [hlt] at cl
        have CL := Lib.hid cl
        have HL := Lib.hid hlt
        clear cl hlt
        go_wp2_with fail
        rw [HPI.out]
        refine CL.out.mono ?_
        rintro e w1 ⟨rfl, hb⟩
        have HAT1 := Lib.hid (HAT.out.go hb)
        clear hb hme
        go_wp2
        go_end0
        exact ⟨rfl, f1, HAT1.out, HUP.out.done (.inr (by rw [← HP.out]; exact HL.out))⟩
      · rw [hlt] at cl
        have CL := Lib.hid cl
        have HL := Lib.hid hlt
        clear cl hlt
        go_wp2_with fail
        rw [HPI.out]
        refine CL.out.mono ?_
        rintro e w1 ⟨rfl, hb⟩
        have HAT1 := Lib.hid (HAT.out.go hb)
        clear hb hme
        have hme := meth_swap (HAT1.out.ha.c2)
        have cs := Lib.hid (swap_any HAT1.out.ha (i := p) (j := k) (by omega) (by omega) (by omega))
        go_wp2_with fail
        refine cs.out.mono ?_
        rintro e w2 ⟨rfl, ha2, ho2⟩
        have HAT2 := Lib.hid (HAT1.out.swp hn (i := p) (j := k) (by omega) (by omega) ha2 ho2)
        have hst := HUP.out.step ltE_ord (by omega) hk (by rw [← HP.out]; exact HL.out)
        rw [← HP.out] at hst
        have HST := Lib.hid hst
        clear ha2 ho2 hme hst
        go_wp2
        go_roundw
        case rel => exact ⟨p, _, rfl, by omega, HST.out, HAT2.out⟩
        case measure => simp [intOf]; omega

/-- what the walk down has come to at place k, from i -/
def DownAt (f : Nat → En) (n i k : Nat) : Prop := (k = i ∧ Hole ltE f n k) ∨ (i < k ∧ Down ltE f n k)
theorem DownAt.le {f : Nat → En} {n i k : Nat} (h : DownAt f n i k) : i ≤ k := by rcases h with ⟨h, _⟩ | ⟨h, _⟩ <;> omega
theorem par_two {c k : Nat} (h : 0 < c) : par c = k ↔ c = 2 * k + 1 ∨ c = 2 * k + 2 := by unfold par; omega

set_option maxHeartbeats 8000000 in
set_option maxRecDepth 100000 in
theorem down_any (h : Ha w b mb now g cap f N) (hn : n ≤ N) {i : Nat} (hi : i < n) (hu : Hole ltE f n i) :
    Calls Try.prog 47 #[hV b, .int .i64 i, .int .i64 n] w fun e w' => ∃ (r : Bool) (f' : Nat → En), e = .returned (.bool r) ∧ UpAt w b mb now g cap f N n w' f' ∧ ((r = true ∧ Hp ltE f' n) ∨ (r = false ∧ Up ltE f' n i)) := by
  have hm : (N : Int) ≤ 1073741824 := by have := h.le; have := h.max; omega
  have H := Lib.hid h
  have HU := Lib.hid hu
  clear h hu
  unfold hV
  go_enter Try.func47, Try.ntmps47
  go_wp2
  go_loopw [7] (fun v wr => ∃ (k : Nat) (f1 : Nat → En), v = .int .i64 k ∧ k < n ∧ DownAt f1 n i k ∧ UpAt w b mb now g cap f N n wr f1) (fun v _ => n - (intOf v).toNat)
  case atStart => exact ⟨i, f, rfl, hi, .inl ⟨rfl, HU.out⟩, UpAt.start H.out⟩
  case round =>
    obtain ⟨k, f1, rfl, hk, hst, hat⟩ := hrel
    have hik := hst.le
    have HST := Lib.hid hst
    have HAT := Lib.hid hat
    clear hst hat
    by_cases h0 : n ≤ 2 * k + 1
    · have t1 : decide ((n : Int) ≤ 2 * (k : Int) + 1) = true := decide_eq_true (by omega)
      have HNO : Hid (∀ c, 0 < c → c < n → par c = k → ltE (f1 c) (f1 k) = false) := Lib.hid fun c h1 h2 h3 => by
        rw [par_two h1] at h3
        omega
      rcases HST.out with ⟨e, q⟩ | ⟨e, q⟩
      · have HUP := Lib.hid (q.up HNO.out)
        have t9 : decide ((i : Int) < (k : Int)) = false := decide_eq_false (by omega)
        subst e
        clear q
        go_wp2
        go_ret
        exact ⟨false, f1, by simp, HAT.out, .inr ⟨rfl, HUP.out⟩⟩
      · have HUP := Lib.hid (q.done HNO.out)
        have t9 : decide ((i : Int) < (k : Int)) = true := decide_eq_true (by omega)
        clear q
        go_wp2
        go_ret
        exact ⟨true, f1, rfl, HAT.out, .inl ⟨rfl, HUP.out⟩⟩
    · have t1 : decide ((n : Int) ≤ 2 * (k : Int) + 1) = false := decide_eq_false (by omega)
      have t2 : decide (2 * (k : Int) + 1 < 0) = false := decide_eq_false (by omega)
      by_cases h2 : n ≤ 2 * k + 2
      · have t3 : decide (2 * (k : Int) + 1 + 1 < (n : Int)) = false := decide_eq_false (by omega)
        obtain ⟨j, hj⟩ : ∃ j, j = 2 * k + 1 := ⟨_, rfl⟩
        have hjn : j < n := by omega
        have HJ : Hid (2 * (k : Int) + 1 = (j : Int)) := Lib.hid (by omega)
        have HPJ : Hid (par j = k) := Lib.hid ((par_two (by omega)).2 (by omega))
        have HMIN : Hid (∀ c, 0 < c → c < n → par c = k → ltE (f1 c) (f1 j) = false) := Lib.hid fun c h1 h2' h3 => by
          rw [par_two h1] at h3
          obtain rfl : c = j := by omega
          cases e : ltE (f1 c) (f1 c)
          · rfl
          · rw [ltE_ord.asy _ _ e] at e; cases e
        have hkj : k < j := by omega
        clear hj
        have cl := less_any HAT.out.ha (i := j) (j := k) (by omega) (by omega)
        have hme := meth_less (HAT.out.ha.c2)
        cases hlt : ltE (f1 j) (f1 k)
        · rw [hlt] at cl
          have CL := Lib.hid cl
          have HL := Lib.hid hlt
          clear cl hlt
          go_wp2_with fail
          try rw [HJ.out]
          refine CL.out.mono ?_
          rintro e w1 ⟨rfl, hb⟩
          have HAT1 := Lib.hid (HAT.out.go hb)
          have HNO : Hid (∀ c, 0 < c → c < n → par c = k → ltE (f1 c) (f1 k) = false) := Lib.hid fun c h1 h2 h3 => ltE_ord.tr _ _ _ (HMIN.out c h1 h2 h3) HL.out
          clear hb hme
          rcases HST.out with ⟨e, q⟩ | ⟨e, q⟩
          · have HUP := Lib.hid (q.up HNO.out)
            have t9 : decide ((i : Int) < (k : Int)) = false := decide_eq_false (by omega)
            subst e
            clear q
            go_wp2
            go_ret
            exact ⟨false, f1, by simp, HAT1.out, .inr ⟨rfl, HUP.out⟩⟩
          · have HUP := Lib.hid (q.done HNO.out)
            have t9 : decide ((i : Int) < (k : Int)) = true := decide_eq_true (by omega)
            clear q
            go_wp2
            go_ret
            exact ⟨true, f1, rfl, HAT1.out, .inl ⟨rfl, HUP.out⟩⟩
        · rw [hlt] at cl
          have CL := Lib.hid cl
          have HL := Lib.hid hlt
          clear cl hlt
          go_wp2_with fail
          try rw [HJ.out]
          refine CL.out.mono ?_
          rintro e w1 ⟨rfl, hb⟩
          have HAT1 := Lib.hid (HAT.out.go hb)
          clear hb hme
          have hme := meth_swap (HAT1.out.ha.c2)
          have cs := Lib.hid (swap_any HAT1.out.ha (i := k) (j := j) (by omega) (by omega) (by omega))
          go_wp2_with fail
          refine cs.out.mono ?_
          rintro e w2 ⟨rfl, ha2, ho2⟩
          have HAT2 := Lib.hid (HAT1.out.swp hn (i := k) (j := j) (by omega) (by omega) ha2 ho2)
          have hho : Hole ltE f1 n k := by
            rcases HST.out with ⟨_, q⟩ | ⟨_, q⟩
            · exact q
            · exact q.hole
          have HST2 := Lib.hid (hho.step ltE_ord (by omega) hjn HPJ.out HL.out HMIN.out)
          clear ha2 ho2 hme hho
          go_wp2
          go_roundw
          case rel => exact ⟨j, _, rfl, hjn, .inr ⟨by have := HST.out; omega, HST2.out⟩, HAT2.out⟩
          case measure => simp [intOf]; omega
      · have t3 : decide (2 * (k : Int) + 1 + 1 < (n : Int)) = true := decide_eq_true (by omega)
        obtain ⟨j1, hj1⟩ : ∃ j, j = 2 * k + 1 := ⟨_, rfl⟩
        obtain ⟨j2, hj2⟩ : ∃ j, j = 2 * k + 2 := ⟨_, rfl⟩
        have HJ1 : Hid (2 * (k : Int) + 1 = (j1 : Int)) := Lib.hid (by omega)
        have HJ2 : Hid ((j1 : Int) + 1 = (j2 : Int)) := Lib.hid (by omega)
        have hirr : ∀ x, ltE x x = false := fun x => by
          cases e : ltE x x
          · rfl
          · rw [ltE_ord.asy _ _ e] at e; cases e
        have HIRR := Lib.hid hirr
        clear hirr
        cases hlt0 : ltE (f1 j2) (f1 j1)
        · obtain ⟨j, hj⟩ : ∃ j, j = j1 := ⟨_, rfl⟩
          have hjn : j < n := by omega
          have hkj : k < j := by omega
          have HJ : Hid (2 * (k : Int) + 1 = (j : Int)) := Lib.hid (by omega)
          have HPJ : Hid (par j = k) := Lib.hid ((par_two (by omega)).2 (by omega))
          have HMIN : Hid (∀ c, 0 < c → c < n → par c = k → ltE (f1 c) (f1 j) = false) := Lib.hid fun c h1 h2' h3 => by
            rw [par_two h1] at h3
            rcases h3 with h3 | h3
            · obtain rfl : c = j := by omega
              exact HIRR.out _
            · obtain rfl : c = j2 := by omega
              rw [hj]; exact hlt0
          have cl0 := less_any HAT.out.ha (i := j2) (j := j1) (by omega) (by omega)
          rw [hlt0] at cl0
          have CL0 := Lib.hid cl0
          have HL0 := Lib.hid hlt0
          clear cl0 hlt0
          have hme0 := meth_less (HAT.out.ha.c2)
          go_wp2_with fail
          rw [HJ1.out, HJ2.out]
          refine CL0.out.mono ?_
          rintro e w0 ⟨rfl, hb⟩
          have HAT0 := HAT
          clear HAT
          have HAT := Lib.hid (HAT0.out.go hb)
          clear hb hme0 HAT0 CL0
          subst hj
          clear hj1 hj2
          have cl := less_any HAT.out.ha (i := j) (j := k) (by omega) (by omega)
          have hme := meth_less (HAT.out.ha.c2)
          cases hlt : ltE (f1 j) (f1 k)
          · rw [hlt] at cl
            have CL := Lib.hid cl
            have HL := Lib.hid hlt
            clear cl hlt
            go_wp2_with fail
            try rw [HJ.out]
            refine CL.out.mono ?_
            rintro e w1 ⟨rfl, hb⟩
            have HAT1 := Lib.hid (HAT.out.go hb)
            have HNO : Hid (∀ c, 0 < c → c < n → par c = k → ltE (f1 c) (f1 k) = false) := Lib.hid fun c h1 h2 h3 => ltE_ord.tr _ _ _ (HMIN.out c h1 h2 h3) HL.out
            clear hb hme
            rcases HST.out with ⟨e, q⟩ | ⟨e, q⟩
            · have HUP := Lib.hid (q.up HNO.out)
              have t9 : decide ((i : Int) < (k : Int)) = false := decide_eq_false (by omega)
              subst e
              clear q
              go_wp2
              go_ret
              exact ⟨false, f1, by simp, HAT1.out, .inr ⟨rfl, HUP.out⟩⟩
            · have HUP := Lib.hid (q.done HNO.out)
              have t9 : decide ((i : Int) < (k : Int)) = true := decide_eq_true (by omega)
              clear q
              go_wp2
              go_ret
              exact ⟨true, f1, rfl, HAT1.out, .inl ⟨rfl, HUP.out⟩⟩
          · rw [hlt] at cl
            have CL := Lib.hid cl
            have HL := Lib.hid hlt
            clear cl hlt
            go_wp2_with fail
            try rw [HJ.out]
            refine CL.out.mono ?_
            rintro e w1 ⟨rfl, hb⟩
            have HAT1 := Lib.hid (HAT.out.go hb)
            clear hb hme
            have hme := meth_swap (HAT1.out.ha.c2)
            have cs := Lib.hid (swap_any HAT1.out.ha (i := k) (j := j) (by omega) (by omega) (by omega))
            go_wp2_with fail
            refine cs.out.mono ?_
            rintro e w2 ⟨rfl, ha2, ho2⟩
            have HAT2 := Lib.hid (HAT1.out.swp hn (i := k) (j := j) (by omega) (by omega) ha2 ho2)
            have hho : Hole ltE f1 n k := by
              rcases HST.out with ⟨_, q⟩ | ⟨_, q⟩
              · exact q
              · exact q.hole
            have HST2 := Lib.hid (hho.step ltE_ord (by omega) hjn HPJ.out HL.out HMIN.out)
            clear ha2 ho2 hme hho
            go_wp2
            go_roundw
            case rel => exact ⟨j, _, rfl, hjn, .inr ⟨by have := HST.out; omega, HST2.out⟩, HAT2.out⟩
            case measure => simp [intOf]; omega
        · obtain ⟨j, hj⟩ : ∃ j, j = j2 := ⟨_, rfl⟩
          have hjn : j < n := by omega
          have hkj : k < j := by omega
          have HJ : Hid (2 * (k : Int) + 1 + 1 = (j : Int)) := Lib.hid (by omega)
          have HPJ : Hid (par j = k) := Lib.hid ((par_two (by omega)).2 (by omega))
          have HMIN : Hid (∀ c, 0 < c → c < n → par c = k → ltE (f1 c) (f1 j) = false) := Lib.hid fun c h1 h2' h3 => by
            rw [par_two h1] at h3
            rcases h3 with h3 | h3
            · obtain rfl : c = j1 := by omega
              rw [hj]; exact ltE_ord.asy _ _ hlt0
            · obtain rfl : c = j := by omega
              exact HIRR.out _
          have cl0 := less_any HAT.out.ha (i := j2) (j := j1) (by omega) (by omega)
          rw [hlt0] at cl0
          have CL0 := Lib.hid cl0
          have HL0 := Lib.hid hlt0
          clear cl0 hlt0
          have hme0 := meth_less (HAT.out.ha.c2)
          go_wp2_with fail
          rw [HJ1.out, HJ2.out]
          refine CL0.out.mono ?_
          rintro e w0 ⟨rfl, hb⟩
          have HAT0 := HAT
          clear HAT
          have HAT := Lib.hid (HAT0.out.go hb)
          clear hb hme0 HAT0 CL0
          subst hj
          clear hj1 hj2
          have cl := less_any HAT.out.ha (i := j) (j := k) (by omega) (by omega)
          have hme := meth_less (HAT.out.ha.c2)
          cases hlt : ltE (f1 j) (f1 k)
          · rw [hlt] at cl
            have CL := Lib.hid cl
            have HL := Lib.hid hlt
            clear cl hlt
            go_wp2_with fail
            try rw [HJ.out]
            refine CL.out.mono ?_
            rintro e w1 ⟨rfl, hb⟩
            have HAT1 := Lib.hid (HAT.out.go hb)
            have HNO : Hid (∀ c, 0 < c → c < n → par c = k → ltE (f1 c) (f1 k) = false) := Lib.hid fun c h1 h2 h3 => ltE_ord.tr _ _ _ (HMIN.out c h1 h2 h3) HL.out
            clear hb hme
            rcases HST.out with ⟨e, q⟩ | ⟨e, q⟩
            · have HUP := Lib.hid (q.up HNO.out)
              have t9 : decide ((i : Int) < (k : Int)) = false := decide_eq_false (by omega)
              subst e
              clear q
              go_wp2
              go_ret
              exact ⟨false, f1, by simp, HAT1.out, .inr ⟨rfl, HUP.out⟩⟩
            · have HUP := Lib.hid (q.done HNO.out)
              have t9 : decide ((i : Int) < (k : Int)) = true := decide_eq_true (by omega)
              clear q
              go_wp2
              go_ret
              exact ⟨true, f1, rfl, HAT1.out, .inl ⟨rfl, HUP.out⟩⟩
          · rw [hlt] at cl
            have CL := Lib.hid cl
            have HL := Lib.hid hlt
            clear cl hlt
            go_wp2_with fail
            try rw [HJ.out]
            refine CL.out.mono ?_
            rintro e w1 ⟨rfl, hb⟩
            have HAT1 := Lib.hid (HAT.out.go hb)
            clear hb hme
            have hme := meth_swap (HAT1.out.ha.c2)
            have cs := Lib.hid (swap_any HAT1.out.ha (i := k) (j := j) (by omega) (by omega) (by omega))
            go_wp2_with fail
            refine cs.out.mono ?_
            rintro e w2 ⟨rfl, ha2, ho2⟩
            have HAT2 := Lib.hid (HAT1.out.swp hn (i := k) (j := j) (by omega) (by omega) ha2 ho2)
            have hho : Hole ltE f1 n k := by
              rcases HST.out with ⟨_, q⟩ | ⟨_, q⟩
              · exact q
              · exact q.hole
            have HST2 := Lib.hid (hho.step ltE_ord (by omega) hjn HPJ.out HL.out HMIN.out)
            clear ha2 ho2 hme hho
            go_wp2
            go_roundw
            case rel => exact ⟨j, _, rfl, hjn, .inr ⟨by have := HST.out; omega, HST2.out⟩, HAT2.out⟩
            case measure => simp [intOf]; omega
end
end Go.Proofs.Ytconfkjchjcjgaa
