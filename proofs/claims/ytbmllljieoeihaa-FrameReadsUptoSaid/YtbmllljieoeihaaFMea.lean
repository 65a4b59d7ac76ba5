/- The walk over the frame's measured: how many bytes the first frame has, or why there is none. -/
import Derived.Test.YtbmllljieoeihaaFPut
namespace Go.Proofs.Ytbmllljieoeihaa
open Go.RowKit
set_option linter.unusedVariables false

theorem add_ne {ad : Addr} {k : Nat} (h : k ≠ 0) : ad.add k = ⟨ad.block, ad.off + k, none⟩ := by unfold Addr.add; rw [if_neg h]
theorem c8_take (zs : List Int) (k : Nat) : c8 (zs.take k) = (c8 zs).take k := by simp [c8]
theorem c8_drop (zs : List Int) (k : Nat) : c8 (zs.drop k) = (c8 zs).drop k := by simp [c8]
theorem Rds.cut {w : World} {lim : Nat} {ad : Addr} {zs : List Int} (h : Rds w lim (some ad) (c8 zs)) (k m : Nat) : Rds w lim (some (ad.add k)) (c8 ((zs.drop k).take m)) := by
  have h1 := h.drop k ((c8 zs).length + k + 1) (by omega)
  rw [if_neg (by omega), ← c8_drop] at h1
  have h2 := h1.take m
  rw [← c8_take] at h2
  exact h2
theorem Rds.cut0 {w : World} {lim : Nat} {ad : Addr} {zs : List Int} (h : Rds w lim (some ad) (c8 zs)) {k : Nat} (m : Nat) (hk : k ≠ 0) :
    Rds w lim (if m = 0 then some ad else some ⟨ad.block, ad.off + k, none⟩) (c8 ((zs.drop k).take m)) := by
  by_cases hm : m = 0
  · subst hm
    rw [List.take_zero]
    exact Rds.nil_
  · rw [if_neg hm, ← add_ne hk]
    exact h.cut k m

set_option maxHeartbeats 1600000 in
theorem measured_any (A : Option Addr) (zs : List Int) (c lim : Nat) (w : World) (hl : zs.length ≤ 140737492549632) (hc : zs.length ≤ c) (hz : Byt zs) (hr : Rds w lim A (c8 zs)) :
    Calls Try.prog 28 #[.slice A zs.length c] w fun e w' => e = .returned (.tuple #[.int .i64 ((mea zs).1 : Nat), .int .i64 ((mea zs).2 : Nat)]) ∧ ∃ n, w' = w.drewN n := by
  by_cases h8 : zs.length < 8
  · rw [show mea zs = (0, 4) by unfold mea; rw [if_pos h8]]
    have h8' : (zs.length : Int) < 8 := by omega
    go_enter Try.func28, Try.ntmps28
    go_wp2
    go_ret2
    exact ⟨rfl, 0, rfl⟩
  · have h8' : ¬ (zs.length : Int) < 8 := by omega
    obtain ⟨ad, rfl, _, _⟩ := hr.at_ (c8_get (show 0 < zs.length by omega))
    have hm : mea zs = if un ((zs.drop 4).take 4) ≠ hs zs ∨ 1048576 < sz zs then (0, 5) else
        if zs.length < sz zs + 12 then (0, 4) else
        if un ((zs.drop (8 + sz zs)).take 4) ≠ mor (hs zs) ((zs.drop 8).take (sz zs)) then (0, 5) else (sz zs + 12, 0) := by
      conv => lhs; unfold mea
      rw [if_neg h8]
    have hr0 : Rds w lim (some ad) (c8 (zs.take 4)) := by rw [c8_take]; exact hr.take 4
    have hr1 := hr.cut 1 3
    have hr4 := hr.cut 4 4
    have hS := sum_any (some ad) (zs.take 4) 4 lim w (by rw [List.length_take]; omega) (hz.take 4) hr0
    rw [show (zs.take 4).length = 4 by rw [List.length_take]; omega] at hS
    have hN := fnum_len (some (ad.add 1)) ((zs.drop 1).take 3) 3 3 lim w (by rw [List.length_take, List.length_drop]; omega) (by omega) ((hz.drop 1).take 3) hr1
    have hM := fnum_len (some (ad.add 4)) ((zs.drop 4).take 4) 4 4 lim w (by rw [List.length_take, List.length_drop]; omega) (by omega) ((hz.drop 4).take 4) hr4
    rw [add_ne (by decide)] at hN hM
    have hsl : sz zs < 16777216 := by
      have := un_lt ((hz.drop 1).take 3)
      rw [show ((zs.drop 1).take 3).length = 3 by rw [List.length_take, List.length_drop]; omega] at this
      exact this
    have hhl : hs zs < 4294967296 := mor_lt _ _
    have hel : un ((zs.drop 4).take 4) < 4294967296 := by
      have := un_lt ((hz.drop 4).take 4)
      rw [show ((zs.drop 4).take 4).length = 4 by rw [List.length_take, List.length_drop]; omega] at this
      exact this
    change Calls _ _ _ _ fun e w' => e = .returned (.int .u32 (hs zs : Nat)) ∧ w' = w at hS
    change Calls _ _ _ _ fun e w' => e = .returned (.int .u32 (sz zs : Nat)) ∧ w' = w at hN
    rw [hm]
    clear hm
    generalize hSv : hs zs = S at *
    generalize hNv : sz zs = N at *
    generalize hMv : un ((zs.drop 4).take 4) = M at *
    by_cases h5 : M ≠ S ∨ 1048576 < N
    · rw [if_pos h5]
      rcases (show M ≠ S ∨ (M = S ∧ 1048576 < N) by omega) with h1 | ⟨rfl, h2⟩
      · have hb : ((M : Int) != (S : Int)) = true := by simp; omega
        clear h5
        go_enter Try.func28, Try.ntmps28
        go_wp2_with fail
        refine hS.mono ?_
        rintro e w1 ⟨rfl, rfl⟩
        go_wp2_with fail
        refine hN.mono ?_
        rintro e w2 ⟨rfl, rfl⟩
        go_wp2_with fail
        refine hM.mono ?_
        rintro e w3 ⟨rfl, rfl⟩
        go_wp2
        go_ret2
        exact ⟨rfl, 0, rfl⟩
      · have hb : ((M : Int) != (M : Int)) = false := by simp
        have h2' : (1048576 : Int) < (N : Int) := by omega
        clear h5
        go_enter Try.func28, Try.ntmps28
        go_wp2_with fail
        refine hS.mono ?_
        rintro e w1 ⟨rfl, rfl⟩
        go_wp2_with fail
        refine hN.mono ?_
        rintro e w2 ⟨rfl, rfl⟩
        go_wp2_with fail
        refine hM.mono ?_
        rintro e w3 ⟨rfl, rfl⟩
        go_wp2
        go_ret2
        exact ⟨rfl, 0, rfl⟩
    · rw [if_neg h5]
      obtain rfl : M = S := by omega
      have h2 : N ≤ 1048576 := by omega
      have h2' : ¬ (1048576 : Int) < (N : Int) := by omega
      have hb : ((M : Int) != (M : Int)) = false := by simp
      have HS := Lib.hid hSv
      have HN := Lib.hid hNv
      have HZ := Lib.hid hz
      clear h5 hSv hNv hMv hz
      by_cases h6 : zs.length < N + 12
      · rw [if_pos h6]
        have h6' : (zs.length : Int) < 8 + (N : Int) + 4 := by omega
        go_enter Try.func28, Try.ntmps28
        go_wp2_with fail
        refine hS.mono ?_
        rintro e w1 ⟨rfl, rfl⟩
        go_wp2_with fail
        refine hN.mono ?_
        rintro e w2 ⟨rfl, rfl⟩
        go_wp2_with fail
        refine hM.mono ?_
        rintro e w3 ⟨rfl, rfl⟩
        go_wp2
        go_ret2
        exact ⟨rfl, 0, rfl⟩
      · rw [if_neg h6]
        have h6' : ¬ (zs.length : Int) < 8 + (N : Int) + 4 := by omega
        have hrA := hr.cut (8 + N) 4
        have hrB := hr.cut0 N (show 8 ≠ 0 by decide)
        have hE := fun k => fnum_len _ ((zs.drop (8 + N)).take 4) 4 4 lim (w.drewN k) (by rw [List.length_take, List.length_drop]; omega) (by omega) ((HZ.out.drop _).take 4) (hrA.drewN k)
        have hlB : ((zs.drop 8).take N).length = N := by rw [List.length_take, List.length_drop]; omega
        have hF := fun k => more_any M _ ((zs.drop 8).take N) N lim (w.drewN k) hhl (by omega) ((HZ.out.drop _).take N) (hrB.drewN k)
        rw [hlB] at hF
        have hgl := mor_lt M ((zs.drop 8).take N)
        have hq1 : 0 ≤ 8 + (N : Int) + 4 ∧ 8 + (N : Int) + 4 ≤ (c : Int) := by omega
        have hq2 : max (8 + (N : Int) + 4) 0 = 8 + (N : Int) + 4 := by omega
        have hq3 : (8 + (N : Int) + 4).toNat = 8 + N + 4 := by omega
        have hq4 : (8 + (N : Int)).toNat = 8 + N := by omega
        have hq5 : 0 ≤ 8 + (N : Int) ∧ 8 + (N : Int) ≤ 8 + (N : Int) + 4 := by omega
        have hq6 : (8 : Int) ≤ 8 + (N : Int) := by omega
        have hq7 : 0 ≤ 8 + (N : Int) ∧ 8 + (N : Int) ≤ (c : Int) := by omega
        have hq8 : max (8 + (N : Int)) 0 = 8 + (N : Int) := by omega
        generalize mor M ((zs.drop 8).take N) = G at *
        generalize un ((zs.drop (8 + N)).take 4) = E at *
        by_cases h7 : E = G
        · subst h7
          have hb2 : ((E : Int) != (E : Int)) = false := by simp
          rw [if_neg (by simp)]
          go_enter Try.func28, Try.ntmps28
          go_wp2_with fail
          refine hS.mono ?_
          rintro e w1 ⟨rfl, rfl⟩
          go_wp2_with fail
          refine hN.mono ?_
          rintro e w2 ⟨rfl, rfl⟩
          go_wp2_with fail
          refine hM.mono ?_
          rintro e w3 ⟨rfl, rfl⟩
          go_wp2
          go_quiet (first | with_reducible exact Calls.quiet_of_same (hE _) | with_reducible exact Calls.quiet_of_same (hF _))
          go_wp2
          all_goals go_ret2
          all_goals exact ⟨by simp <;> omega, _, rfl⟩
        · have hb2 : ((E : Int) != (G : Int)) = true := by simp; omega
          rw [if_pos h7]
          go_enter Try.func28, Try.ntmps28
          go_wp2_with fail
          refine hS.mono ?_
          rintro e w1 ⟨rfl, rfl⟩
          go_wp2_with fail
          refine hN.mono ?_
          rintro e w2 ⟨rfl, rfl⟩
          go_wp2_with fail
          refine hM.mono ?_
          rintro e w3 ⟨rfl, rfl⟩
          go_wp2
          go_quiet (first | with_reducible exact Calls.quiet_of_same (hE _) | with_reducible exact Calls.quiet_of_same (hF _))
          go_wp2
          all_goals go_ret2
          all_goals exact ⟨rfl, _, rfl⟩

end Go.Proofs.Ytbmllljieoeihaa
