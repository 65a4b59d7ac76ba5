/- The walks over the document's own number and Read of frames. -/
import Derived.Test.YtbmllljieoeihaaFRef
import Derived.Test.YtbmllljieoeihaaFLives
namespace Go.Proofs.Ytbmllljieoeihaa
open Go.RowKit
set_option linter.unusedVariables false

theorem num4 {a b c d : Int} (h : Byt [a, b, c, d]) :
    bits .or .u32 a (b * 256) = (un [a, b] : Nat) ∧ bits .or .u32 (un [a, b] : Nat) (c * 65536) = (un [a, b, c] : Nat) ∧ bits .or .u32 (un [a, b, c] : Nat) (d * 16777216) = (un [a, b, c, d] : Nat) := by
  have ha := h a (by simp)
  have hb := h b (by simp)
  have hc := h c (by simp)
  have hd := h d (by simp)
  have h1 := num_next h (j := 1) (by simp) (by omega)
  have h2 := num_next h (j := 2) (by simp) (by omega)
  have h3 := num_next h (j := 3) (by simp) (by omega)
  have e1 : ([a, b, c, d] : List Int)[1] = b := rfl
  have e2 : ([a, b, c, d] : List Int)[2] = c := rfl
  have e3 : ([a, b, c, d] : List Int)[3] = d := rfl
  rw [e1, show b * 2 ^ (8 * 1) % 4294967296 = b * 256 by omega] at h1
  rw [e2, show c * 2 ^ (8 * 2) % 4294967296 = c * 65536 by omega] at h2
  rw [e3, show d * 2 ^ (8 * 3) % 4294967296 = d * 16777216 by omega] at h3
  refine ⟨?_, h2, h3⟩
  have e : ((un (([a, b, c, d] : List Int).take 1) : Nat) : Int) = a := by
    show ((a.toNat + 256 * 0 : Nat) : Int) = a
    omega
  rw [e] at h1
  exact h1

theorem four_list {zs : List Int} (h : zs.length = 4) : ∃ a b c d, zs = [a, b, c, d] := by
  match zs, h with
  | [a, b, c, d], _ => exact ⟨a, b, c, d, rfl⟩

set_option maxHeartbeats 800000 in
theorem refnum_any (ad : Addr) (zs : List Int) (c lim : Nat) (w : World) (h4 : zs.length = 4) (hz : Byt zs) (hr : Rds w lim (some ad) (c8 zs)) :
    Calls Try.prog 33 #[.slice (some ad) 4 c] w fun e w' => e = .returned (.int .u32 (un zs : Nat)) ∧ ∃ n, w' = w.drewN n := by
  obtain ⟨z0, z1, z2, z3, rfl⟩ := four_list h4
  obtain ⟨k1, k2, k3⟩ := num4 hz
  have b0 := hz z0 (by simp)
  have b1 := hz z1 (by simp)
  have b2 := hz z2 (by simp)
  have b3 := hz z3 (by simp)
  have hc : ∀ j u, (c8 [z0, z1, z2, z3])[j]? = some u → w.cell? (ad.add j) = some u := fun j u h => by
    obtain ⟨ad', e, _, hh⟩ := hr.at_ h
    obtain rfl := Option.some.inj e
    exact hh
  have h0 : w.cell? ad = some (.int .u8 z0) := hc 0 _ rfl
  have h1 := hc 1 _ rfl
  have h2 := hc 2 _ rfl
  have h3 := hc 3 _ rfl
  rw [add_ne (by decide)] at h1 h2 h3
  generalize un [z0, z1, z2, z3] = U at *
  generalize un [z0, z1, z2] = V at *
  generalize un [z0, z1] = X at *
  clear hz hr hc
  go_enter Try.func33, Try.ntmps33
  go_wp2
  go_quiet (fail)
  go_wp2
  go_ret
  exact ⟨rfl, _, rfl⟩

theorem own_nil (w : World) (B : Nat) : w.ownsRow B 5 1 (.slice none 0 0) 0 (c8 []) := ⟨rfl, .inl ⟨rfl, rfl⟩⟩
theorem below_drewN' {B : Nat} {a w : World} (h : Below B a w) (n : Nat) : Below B a (w.drewN n) := ⟨h.os, h.tape, h.output, h.size, h.block⟩

theorem sz_eq {z1 z2 z3 : Int} (h : Byt [z1, z2, z3]) : z1 + z2 * 256 + z3 * 65536 = ((un [z1, z2, z3] : Nat) : Int) := by
  have h1 := h z1 (by simp)
  have h2 := h z2 (by simp)
  have h3 := h z3 (by simp)
  show _ = ((z1.toNat + 256 * (z2.toNat + 256 * (z3.toNat + 256 * 0)) : Nat) : Int)
  omega

theorem drop3 {zs : List Int} (h : 4 ≤ zs.length) : ∃ z1 z2 z3, (zs.drop 1).take 3 = [z1, z2, z3] ∧ zs[1]? = some z1 ∧ zs[2]? = some z2 ∧ zs[3]? = some z3 := by
  match zs, h with
  | _ :: a :: b :: c :: _, _ => exact ⟨a, b, c, rfl, rfl, rfl, rfl⟩
  | [_, _, _], h => simp at h
  | [_, _], h => simp at h
  | [_], h => simp at h
  | [], h => simp at h

set_option maxHeartbeats 3200000 in
theorem refread_any (A : Option Addr) (zs : List Int) (c : Nat) (w : World) (hl : zs.length ≤ 140737492549632) (hc : zs.length ≤ c) (hz : Byt zs) (hr : Rds w w.heap.size A (c8 zs)) :
    Calls Try.prog 17 #[.slice A zs.length c] w fun e w' => ∃ A' c', e = .returned (.tuple #[.agg #[.int .u8 (frd zs).k, .slice A' (frd zs).body.length c'], .int .i64 ((mea zs).1 : Nat), .int .i64 ((mea zs).2 : Nat)]) ∧
      w'.ownsRow w.heap.size 5 1 (.slice A' (frd zs).body.length c') (frd zs).body.length (c8 (frd zs).body) ∧ Below w.heap.size w w' := by
  obtain ⟨i0, hi, hz0, hz1, hz2⟩ := info_parts info8
  have hB := Nat.le_refl w.heap.size
  have hb1 : Below w.heap.size w (w.alloc (.cells #[.int .u8 0, .slice none 0 0] 28)) := (Below.refl _ _).alloc (Nat.le_refl _) _
  have hw1 := Whole.new w 28 #[.int .u8 0, .slice none 0 0]
  have hr1 := hr.alloc (Nat.le_refl _) (.cells #[.int .u8 0, .slice none 0 0] 28)
  have bad : ∀ (E : Nat) (v1 v2 : Value) (q : Nat), Below w.heap.size w ((((w.alloc (.cells #[.int .u8 0, .slice none 0 0] 28)).drewN q).setCell ⟨w.heap.size, 0, none⟩ v1).setCell ⟨w.heap.size, 1, none⟩ v2) := fun E v1 v2 q =>
    ((below_drewN' hb1 q).setCell (p := ⟨w.heap.size, 0, none⟩) hB v1).setCell (p := ⟨w.heap.size, 1, none⟩) hB v2
  by_cases h8 : zs.length < 8
  · have hm : mea zs = (0, 4) := by unfold mea; rw [if_pos h8]
    have h8' : (zs.length : Int) < 8 := by omega
    rw [hm, frd_bad hm (by decide)]
    go_enter Try.func17, Try.ntmps17
    go_wp2
    go_returns
    exact ⟨none, 0, rfl, own_nil _ _, (Below.refl _ _).alloc (Nat.le_refl _) _⟩
  · have h8' : ¬ (zs.length : Int) < 8 := by omega
    obtain ⟨ad, rfl, hadl, hc0⟩ := hr.at_ (c8_get (show 0 < zs.length by omega))
    have hm : mea zs = if un ((zs.drop 4).take 4) ≠ hs zs ∨ 1048576 < sz zs then (0, 5) else
        if zs.length < sz zs + 12 then (0, 4) else
        if un ((zs.drop (8 + sz zs)).take 4) ≠ mor (hs zs) ((zs.drop 8).take (sz zs)) then (0, 5) else (sz zs + 12, 0) := by
      conv => lhs; unfold mea
      rw [if_neg h8]
    have hr0 : Rds (w.alloc (.cells #[.int .u8 0, .slice none 0 0] 28)) w.heap.size (some ad) (c8 (zs.take 4)) := by rw [c8_take]; exact hr1.take 4
    have hS := sum_at_ref (zs.take 4) (hz.take 4) (by rw [List.length_take]; omega) (some ad) c w.heap.size (w.alloc (.cells #[.int .u8 0, .slice none 0 0] 28)) hr0
    change Calls _ _ _ _ fun e w' => e = .returned (.int .u32 (hs zs : Nat)) ∧ w' = _ at hS
    have hr4 := hr1.cut 4 4
    rw [add_ne (by decide)] at hr4
    have hM := fun q => refnum_any ⟨ad.block, ad.off + 4, none⟩ ((zs.drop 4).take 4) (c - 4) w.heap.size ((w.alloc (.cells #[.int .u8 0, .slice none 0 0] 28)).drewN q) (by rw [List.length_take, List.length_drop]; omega) ((hz.drop 4).take 4) (hr4.drewN q)
    obtain ⟨z1, z2, z3, hz3, hg1, hg2, hg3⟩ := drop3 (zs := zs) (by omega)
    have hsz3 : z1 + z2 * 256 + z3 * 65536 = ((sz zs : Nat) : Int) := by unfold sz; rw [hz3]; exact sz_eq (by rw [← hz3]; exact (hz.drop 1).take 3)
    have hbz : Byt [z1, z2, z3] := by rw [← hz3]; exact (hz.drop 1).take 3
    have b1 := hbz z1 (by simp)
    have b2 := hbz z2 (by simp)
    have b3 := hbz z3 (by simp)
    have cellAt : ∀ j z, zs[j]? = some z → j ≠ 0 → (w.alloc (.cells #[.int .u8 0, .slice none 0 0] 28)).cell? ⟨ad.block, ad.off + j, none⟩ = some (.int .u8 z) := fun j z h hj => by
      obtain ⟨ad', e, _, hh⟩ := hr1.at_ (k := j) (u := .int .u8 z) (by simp [c8, h])
      obtain rfl := Option.some.inj e
      rw [add_ne hj] at hh
      exact hh
    have hc1 := cellAt 1 z1 hg1 (by decide)
    have hc2 := cellAt 2 z2 hg2 (by decide)
    have hc3 := cellAt 3 z3 hg3 (by decide)
    have hq1 : IntKind.i64.wrap (z2 * 256) = z2 * 256 := IntWalk.i64_in _ (by omega)
    have hq2 : IntKind.i64.wrap (z1 + z2 * 256) = z1 + z2 * 256 := IntWalk.i64_in _ (by omega)
    have hq3 : IntKind.i64.wrap (z3 * 65536) = z3 * 65536 := IntWalk.i64_in _ (by omega)
    have hq4 : IntKind.i64.wrap (z1 + z2 * 256 + z3 * 65536) = z1 + z2 * 256 + z3 * 65536 := IntWalk.i64_in _ (by omega)
    have hhl : hs zs < 4294967296 := mor_lt _ _
    have hsl : sz zs < 16777216 := by omega
    clear cellAt hg1 hg2 hg3 hz3 hbz hr0 hr4
    have HZ := Lib.hid hz
    have HC0 := Lib.hid hc0
    have HW1 := Lib.hid hw1
    have HM := Lib.hid hm
    rw [HM.out]
    clear hz hc0 hw1 hm
    generalize hSv : hs zs = S at *
    generalize hNv : sz zs = N at *
    generalize hMv : un ((zs.drop 4).take 4) = M at *
    have HB := Lib.hid bad
    have HS := Lib.hid hSv
    have HN := Lib.hid hNv
    clear bad hSv hNv hMv
    by_cases h5 : M ≠ S ∨ 1048576 < N
    · have hme : mea zs = (0, 5) := by rw [HM.out, if_pos h5]
      rw [if_pos h5, frd_bad hme (by decide)]
      rcases (show M ≠ S ∨ (M = S ∧ 1048576 < N) by omega) with h1 | ⟨rfl, h2⟩
      · have hb : ((S : Int) != (M : Int)) = true := by simp; omega
        clear h5
        go_enter Try.func17, Try.ntmps17
        go_wp2_with fail
        refine hS.mono ?_
        rintro e w2 ⟨rfl, rfl⟩
        go_wp2
        go_quiet (fail)
        go_wp2_with fail
        refine (hM _).mono ?_
        rintro e w3 ⟨rfl, q3, rfl⟩
        go_wp2
        go_returns
        exact ⟨none, 0, rfl, own_nil _ _, by first | exact HB.out 0 _ _ _ | (rw [World.drewN_drewN]; exact HB.out 0 _ _ _)⟩
      · have hb : ((M : Int) != (M : Int)) = false := by simp
        have h2' : (1048576 : Int) < (N : Int) := by omega
        clear h5
        go_enter Try.func17, Try.ntmps17
        go_wp2_with fail
        refine hS.mono ?_
        rintro e w2 ⟨rfl, rfl⟩
        go_wp2
        go_quiet (fail)
        go_wp2_with fail
        refine (hM _).mono ?_
        rintro e w3 ⟨rfl, q3, rfl⟩
        go_wp2
        go_returns
        exact ⟨none, 0, rfl, own_nil _ _, by first | exact HB.out 0 _ _ _ | (rw [World.drewN_drewN]; exact HB.out 0 _ _ _)⟩
    · rw [if_neg h5]
      obtain rfl : M = S := by omega
      have h2 : N ≤ 1048576 := by omega
      have h2' : ¬ (1048576 : Int) < (N : Int) := by omega
      have hb : ((M : Int) != (M : Int)) = false := by simp
      by_cases h6 : zs.length < N + 12
      · have hme : mea zs = (0, 4) := by rw [HM.out, if_neg h5, if_pos h6]
        rw [if_pos h6, frd_bad hme (by decide)]
        have h6' : (zs.length : Int) < (N : Int) + 12 := by omega
        clear h5
        go_enter Try.func17, Try.ntmps17
        go_wp2_with fail
        refine hS.mono ?_
        rintro e w2 ⟨rfl, rfl⟩
        go_wp2
        go_quiet (fail)
        go_wp2_with fail
        refine (hM _).mono ?_
        rintro e w3 ⟨rfl, q3, rfl⟩
        go_wp2
        go_returns
        exact ⟨none, 0, rfl, own_nil _ _, by first | exact HB.out 0 _ _ _ | (rw [World.drewN_drewN]; exact HB.out 0 _ _ _)⟩
      · have h6' : ¬ (zs.length : Int) < (N : Int) + 12 := by omega
        have HI := Lib.hid h5
        rw [if_neg h6]
        clear h5
        have hN0 := HM.out
        have hrb : Rds (w.alloc (.cells #[.int .u8 0, .slice none 0 0] 28)) w.heap.size (some ⟨ad.block, ad.off + 8, none⟩) (c8 ((zs.drop 8).take N)) := by
          have h := hr1.cut 8 N
          rw [add_ne (by decide)] at h
          exact h
        have hre := hr1.cut (8 + N) 4
        have hlB : ((zs.drop 8).take N).length = N := by rw [List.length_take, List.length_drop]; omega
        have HBB := Lib.hid ((HZ.out.drop 8).take N)
        have HBE := Lib.hid ((HZ.out.drop (8 + N)).take 4)
        have HLE := Lib.hid (show ((zs.drop (8 + N)).take 4).length = 4 by rw [List.length_take, List.length_drop]; omega)
        have hr8 : 0 ≤ 8 + (N : Int) ∧ 8 + (N : Int) ≤ (c : Int) := by omega
        have hp1 : IntKind.i64.wrap (8 + (N : Int)) = 8 + (N : Int) := IntWalk.i64_in _ (by omega)
        have hp2 : IntKind.i64.wrap (12 + (N : Int)) = 12 + (N : Int) := IntWalk.i64_in _ (by omega)
        have hp3 : (8 + (N : Int)).toNat = 8 + N := by omega
        have hp4 : (12 + (N : Int)).toNat = 12 + N := by omega
        have hp5 : 0 ≤ 12 + (N : Int) ∧ 12 + (N : Int) ≤ (c : Int) := by omega
        have hp6 : 0 ≤ 8 + (N : Int) ∧ 8 + (N : Int) ≤ 12 + (N : Int) := by omega
        have hp7 : max (12 + (N : Int)) 0 = 12 + (N : Int) := by omega
        have hp8 : ¬ c = 8 + N := by omega
        have hp9 : ¬ c = 8 := by omega
        have hp10 : (8 : Int) ≤ 8 + (N : Int) := by omega
        have hp11 : max (8 + (N : Int)) 0 = 8 + (N : Int) := by omega
        have hp12 : 12 + N - (8 + N) = 4 := by omega
        have hp13 : 8 + N - 8 = N := by omega
        have HGO := Lib.hid (show frd zs = if un ((zs.drop (8 + N)).take 4) ≠ mor M ((zs.drop 8).take N) then (⟨0, []⟩ : Fr) else ⟨zs.headD 0, (zs.drop 8).take N⟩ by
          unfold frd fra
          rw [HM.out, if_neg HI.out, if_neg h6]
          by_cases h : un ((zs.drop (8 + N)).take 4) ≠ mor M ((zs.drop 8).take N)
          · rw [if_pos h, if_pos h]
            exact if_neg (by decide)
          · rw [if_neg h, if_neg h]
            exact if_pos rfl)
        have hgl := mor_lt M ((zs.drop 8).take N)
        have HG2 := Lib.hid (show mor M ((zs.drop 8).take N) = mor M ((zs.drop 8).take N) from rfl)
        rw [HGO.out]
        have HMO := Lib.hid (fun A5 c5 lim w5 (h : Rds w5 lim A5 (c8 ((zs.drop 8).take N))) => refMore_len M A5 ((zs.drop 8).take N) N c5 lim w5 hlB hhl (by omega) HBB.out h)
        have HNU := Lib.hid (fun w5 (h : Rds w5 w.heap.size (some (ad.add (8 + N))) (c8 ((zs.drop (8 + N)).take 4))) => refnum_any (ad.add (8 + N)) ((zs.drop (8 + N)).take 4) (c - (8 + N)) w.heap.size w5 HLE.out HBE.out h)
        have hkz : zs.headD 0 = zs[0] := by
          cases zs with
          | nil => simp at h8
          | cons z r => rfl
        have hc0 := HC0.out
        rw [show ad.add 0 = ad from rfl] at hc0
        rw [hkz]
        generalize zs[0] = k0 at *
        generalize (zs.drop 8).take N = body at *
        generalize un ((zs.drop (8 + N)).take 4) = E at *
        generalize hG : mor M body = G at *
        clear hN0 HG2 HGO HM HI HC0 hkz hr
        by_cases hEG : E = G
        · subst hEG
          have hb2 : ((E : Int) != (E : Int)) = false := by simp
          rw [if_neg (by simp), if_neg (by simp)]
          rw [hlB]
          go_enter Try.func17, Try.ntmps17
          go_wp2_with fail
          refine hS.mono ?_
          rintro e w2 ⟨rfl, rfl⟩
          go_wp2
          go_quiet (fail)
          go_wp2_with fail
          refine (hM _).mono ?_
          rintro e w3 ⟨rfl, q3, rfl⟩
          go_wp2_with (at_builtin; go_loud (refine app_many _ rfl (.tmp 47) (.tmp 51) 23 rfl (w.heap.size + 1) 5 i0 (.int .u8 0) 1 Try.underlying23 hi hz0 hz1 hz2 rfl _ 0 [] (by simp [Act.eval, Act.put]) (own_empty' _ (by simp) 5) (some ⟨ad.block, ad.off + 8, none⟩) N (c - 8) _ (c8 body) rfl (by rw [c8_length, hlB]) ((hrb.drewN _).alloc (by simp) (.cells #[] 5)) (fun h => by cases h) (c8_one body) (by unfold maxLen; omega) (by omega) (by simp) ?_))
          intro v5 w5 hown5 hb5
          have hb5' : Below (w.heap.size + 1) (w.alloc (.cells #[.int .u8 0, .slice none 0 0] 28)) w5 := by
            refine Below.trans ?_ hb5
            exact (below_drewN' (Below.refl _ _) _).alloc (by simp) _
          have hw5 := HW1.out.below hb5' (by omega)
          have hbw5 := hb1.trans (hb5'.mono (by omega))
          have hre5 := hre.below (hb5'.mono (by omega))
          have hcz : w5.cell? ad = some (.int .u8 k0) := by
            rw [(hb5'.mono (show w.heap.size ≤ w.heap.size + 1 by omega)).cell hadl, hb1.cell hadl]
            exact hc0
          obtain ⟨A5, c5, rfl, hrd5, _, _, _⟩ := own_open hown5
          have hown5' := own_base hown5 (show w.heap.size ≤ w.heap.size + 1 by omega)
          have hMo := fun q => HMO.out A5 c5 w5.heap.size (w5.drewN q) (hrd5.drewN q)
          have hNu := fun q => HNU.out (w5.drewN q) (hre5.drewN q)
          have hf0 := hw5.frozen 0
          have hf1 := hw5.frozen 1
          have hx0 := hw5.cell 0
          have hx1 := hw5.cell 1
          clear hown5 hb5 hb5' hre5 hrd5 hre hrb hr1 hb1 hS hM
          go_wp2
          go_quiet (first | with_reducible exact Calls.quiet_of_same (hMo _) | with_reducible exact Calls.quiet_of (hNu _))
          have hput := put_two (u := .int .u8 k0) (u' := .slice A5 N c5) (w := w5.drewN nq) ⟨_, _, hw5.drewN nq⟩
          have hfin : (((w5.drewN nq).setCell ⟨w.heap.size, 0, none⟩ (.int .u8 k0)).setCell ⟨w.heap.size, 1, none⟩ (.slice A5 N c5)).ownsRow w.heap.size 5 1 (.slice A5 N c5) N (c8 body) := own_put (by decide) hown5' (hw5.drewN nq)
          have hbel : Below w.heap.size w (((w5.drewN nq).setCell ⟨w.heap.size, 0, none⟩ (.int .u8 k0)).setCell ⟨w.heap.size, 1, none⟩ (.slice A5 N c5)) := ((below_drewN' hbw5 nq).setCell (p := ⟨w.heap.size, 0, none⟩) hB _).setCell (p := ⟨w.heap.size, 1, none⟩) hB _
          have HP := Lib.hid hput
          have HFI := Lib.hid hfin
          have HBE2 := Lib.hid hbel
          clear hput hfin hbel hown5' hbw5
          go_wp2
          generalize ((w5.drewN nq).setCell ⟨w.heap.size, 0, none⟩ (.int .u8 k0)).setCell ⟨w.heap.size, 1, none⟩ (.slice A5 N c5) = w6 at *
          obtain ⟨hy0, hy1⟩ := HP.out
          (try simp only [Exit.inBlock, Exit.then])
          refine bodyPost_ret (by simp [results, Try.results17, go_sem, hy0, hy1]; try rfl) rfl ?_
          exact ⟨A5, c5, rfl, HFI.out, HBE2.out⟩
        · have hb2 : ((G : Int) != (E : Int)) = true := by simp; omega
          rw [if_pos hEG, if_pos hEG]
          go_enter Try.func17, Try.ntmps17
          go_wp2_with fail
          refine hS.mono ?_
          rintro e w2 ⟨rfl, rfl⟩
          go_wp2
          go_quiet (fail)
          go_wp2_with fail
          refine (hM _).mono ?_
          rintro e w3 ⟨rfl, q3, rfl⟩
          go_wp2_with (at_builtin; go_loud (refine app_many _ rfl (.tmp 47) (.tmp 51) 23 rfl (w.heap.size + 1) 5 i0 (.int .u8 0) 1 Try.underlying23 hi hz0 hz1 hz2 rfl _ 0 [] (by simp [Act.eval, Act.put]) (own_empty' _ (by simp) 5) (some ⟨ad.block, ad.off + 8, none⟩) N (c - 8) _ (c8 body) rfl (by rw [c8_length, hlB]) ((hrb.drewN _).alloc (by simp) (.cells #[] 5)) (fun h => by cases h) (c8_one body) (by unfold maxLen; omega) (by omega) (by simp) ?_))
          intro v5 w5 hown5 hb5
          have hb5' : Below (w.heap.size + 1) (w.alloc (.cells #[.int .u8 0, .slice none 0 0] 28)) w5 := by
            refine Below.trans ?_ hb5
            exact (below_drewN' (Below.refl _ _) _).alloc (by simp) _
          have hw5 := HW1.out.below hb5' (by omega)
          have hbw5 := hb1.trans (hb5'.mono (by omega))
          have hre5 := hre.below (hb5'.mono (by omega))
          have hcz : w5.cell? ad = some (.int .u8 k0) := by
            rw [(hb5'.mono (show w.heap.size ≤ w.heap.size + 1 by omega)).cell hadl, hb1.cell hadl]
            exact hc0
          obtain ⟨A5, c5, rfl, hrd5, _, _, _⟩ := own_open hown5
          have hown5' := own_base hown5 (show w.heap.size ≤ w.heap.size + 1 by omega)
          have hMo := fun q => HMO.out A5 c5 w5.heap.size (w5.drewN q) (hrd5.drewN q)
          have hNu := fun q => HNU.out (w5.drewN q) (hre5.drewN q)
          have hf0 := hw5.frozen 0
          have hf1 := hw5.frozen 1
          have hx0 := hw5.cell 0
          have hx1 := hw5.cell 1
          clear hown5 hb5 hb5' hre5 hrd5 hre hrb hr1 hb1 hS hM
          go_wp2
          go_quiet (first | with_reducible exact Calls.quiet_of_same (hMo _) | with_reducible exact Calls.quiet_of (hNu _))
          have HP := Lib.hid (put_two (u := .int .u8 0) (u' := .slice none 0 0) (w := w5.drewN nq) ⟨_, _, hw5.drewN nq⟩)
          have HBE2 := Lib.hid (show Below w.heap.size w (((w5.drewN nq).setCell ⟨w.heap.size, 0, none⟩ (.int .u8 0)).setCell ⟨w.heap.size, 1, none⟩ (.slice none 0 0)) from ((below_drewN' hbw5 nq).setCell (p := ⟨w.heap.size, 0, none⟩) hB _).setCell (p := ⟨w.heap.size, 1, none⟩) hB _)
          clear hown5' hbw5
          go_wp2
          generalize ((w5.drewN nq).setCell ⟨w.heap.size, 0, none⟩ (.int .u8 0)).setCell ⟨w.heap.size, 1, none⟩ (.slice none 0 0) = w6 at *
          obtain ⟨hy0, hy1⟩ := HP.out
          (try simp only [Exit.inBlock, Exit.then])
          refine bodyPost_ret (by simp [results, Try.results17, go_sem, hy0, hy1]; try rfl) rfl ?_
          exact ⟨none, 0, rfl, own_nil _ _, HBE2.out⟩

end Go.Proofs.Ytbmllljieoeihaa
