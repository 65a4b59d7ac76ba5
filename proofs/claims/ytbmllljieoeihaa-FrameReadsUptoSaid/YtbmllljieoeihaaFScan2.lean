/- The walk over the frame's Scan. -/
import Derived.Test.YtbmllljieoeihaaFScan
namespace Go.Proofs.Ytbmllljieoeihaa
open Go.RowKit
set_option linter.unusedVariables false

set_option maxHeartbeats 3200000 in
theorem fscan_any (A : Option Addr) (zs : List Int) (c : Nat) (w : World) (hl : zs.length ≤ 1099511627776) (hc : zs.length ≤ c) (hz : Byt zs) (hr : Rds w w.heap.size A (c8 zs)) :
    Calls Try.prog 12 #[.slice A zs.length c] w fun e w' => ∃ A' c' rs, e = .returned (.tuple #[.slice A' rs.length c', .int .i64 ((scn zs).2.1 : Nat), .int .i64 ((scn zs).2.2 : Nat)]) ∧
      rs.map FR.f = (scn zs).1 ∧ w'.ownsRow w.heap.size 28 2 (.slice A' rs.length c') rs.length (cF rs) ∧ Bds w' w.heap.size rs ∧ Below w.heap.size w w' := by
  obtain ⟨i0, hi, hz0, hz1, hz2⟩ := info_parts info28
  have hR0 := fread_any A zs c w (by omega) hc hz hr
  have HZ := Lib.hid hz
  clear hz
  go_enter Try.func12, Try.ntmps12
  go_wp2_with fail
  refine hR0.mono ?_
  rintro e w1 ⟨A1, c1, rfl, hown1, hb1⟩
  go_wp2
  go_loopw [2, 3, 4, 6] (fun l n e size wr => ∃ (N : Nat) (rs : List FR) (v : Value) (A2 : Option Addr) (c2 : Nat), v = l ∧ n = .int .i64 N ∧ e = .int .i64 ((mea (zs.drop N)).2 : Nat) ∧ size = .int .i64 ((mea (zs.drop N)).1 : Nat) ∧
      ScanAt zs w wr w1.heap.size N rs v A2 c2) (fun _ n _ _ _ => zs.length - (intOf n).toNat)
  case atStart =>
    refine ⟨0, [], .slice none 0 0, A1, c1, rfl, rfl, rfl, rfl, ?_⟩
    exact ⟨by omega, by simp, by simp, hb1.size, Whole.new w1 _ _, own_below hown1 ((Below.refl _ _).alloc (Nat.le_refl _) _), ⟨rfl, .inl ⟨rfl, rfl⟩⟩, (fun r hr => by cases hr), hb1.alloc hb1.size _⟩
  case round =>
    obtain ⟨N, rs, v, A2, c2, rfl, rfl, rfl, rfl, hs⟩ := hrel
    have HS := Lib.hid hs
    have hv0 := hs.var.cell 0
    have hv1 := hs.var.cell 1
    have hle := hs.le
    clear hs hR0 hown1 hb1
    by_cases hE : (mea (zs.drop N)).2 = 0
    · obtain ⟨h12, hSl⟩ := mea_le hE
      rw [List.length_drop] at hSl
      have hst := scn_step hE
      have hp : 0 < zs.length := by omega
      obtain ⟨ad, rfl, _, _⟩ := hr.at_ (c8_get hp)
      have HST := Lib.hid hst
      rw [hE]
      generalize hSg : (mea (zs.drop N)).1 = S at *
      have hf := HS.out.few
      have hrow := HS.out.row
      have hBs : w1.heap.size + 1 ≤ wr.heap.size := HS.out.var.lt
      have hq1 : 0 ≤ (N : Int) + (S : Int) ∧ (N : Int) + (S : Int) ≤ (zs.length : Int) := by omega
      have hq2 : ((N : Int) + (S : Int)).toNat = N + S := by omega
      have hq3 : IntKind.i64.wrap ((N : Int) + (S : Int)) = (N : Int) + (S : Int) := IntWalk.i64_in _ (by omega)
      generalize hfr : frd (zs.drop N) = fr at *
      clear hst
      by_cases hcN : c = N + S
      · have hd := hr.drop (N + S) c (by rw [c8_length]; exact hc)
        rw [if_pos hcN, ← c8_drop] at hd
        have hrd := hd
        have hcN' : N + S = c := hcN.symm
        clear hcN
        have hR := fun w' (hr' : Rds w' w'.heap.size (some ad) (c8 (zs.drop (N + S)))) => fread_at (some ad) (zs.drop (N + S)) 0 0 w' (by rw [List.length_drop]; omega) (by omega) (by omega) (HZ.out.drop _) hr'
        clear hd
        go_wp2_with (at_builtin; go_loud (refine app_frame wr rfl (.tmp 23) (.tmp 25) 31 rfl (w1.heap.size + 1) 28 i0 (.agg #[.int .u8 0, .slice none 0 0]) Try.underlying31 hi hz0 hz1 hz2 rfl v rs.length (cF rs) rfl hrow (.int .u8 fr.k) (.slice A2 fr.body.length c2) rfl rfl rfl (by omega) hBs ?_))
        intro v' w' hown' hg'
        have hbN : Below w.heap.size w w' := (HS.out.below.alloc HS.out.below.size _).grown hg' (HS.out.below.alloc HS.out.below.size _).size (fun q hq => by have := ((hrow.alloc (.cells #[.int .u8 fr.k, .slice A2 fr.body.length c2] 28)).lt q hq).1; have := HS.out.low; omega)
        go_wp2_with fail
        refine (hR w' ((hrd.below hbN).more hbN.size)).mono ?_
        rintro e w2 ⟨A5, c5, rfl, hown5, hb5⟩
        subst hfr
        obtain ⟨hnx, hvw⟩ := ScanAt.next HS.out HS.out.var.lt hE hSg hown' hg' hown5 hb5
        have hf0 := hvw.frozen 0
        have hf1 := hvw.frozen 1
        have hx0 := hvw.cell 0
        have hx1 := hvw.cell 1
        have HNX := Lib.hid hnx
        clear hnx hvw hown5 hb5 hown' hg' hbN
        go_wp2
        go_roundw
        case rel =>
          have hnx := HNX.out
          rw [hcN'] at hnx
          exact ⟨c, _, v', A5, c5, rfl, by rw [← hcN']; go_num, rfl, rfl, hnx⟩
        case measure => simp [intOf]; omega
      · have hd := hr.drop (N + S) c (by rw [c8_length]; exact hc)
        rw [if_neg hcN, ← c8_drop] at hd
        have hrd : Rds w w.heap.size (some (ad.add (N + S))) (c8 (zs.drop (N + S))) := hd
        have hR := fun w' (hr' : Rds w' w'.heap.size (some (ad.add (N + S))) (c8 (zs.drop (N + S)))) => fread_at (some (ad.add (N + S))) (zs.drop (N + S)) (zs.length - (N + S)) (c - (N + S)) w' (by rw [List.length_drop]) (by omega) (by omega) (HZ.out.drop _) hr'
        clear hd
        go_wp2_with (at_builtin; go_loud (refine app_frame wr rfl (.tmp 23) (.tmp 25) 31 rfl (w1.heap.size + 1) 28 i0 (.agg #[.int .u8 0, .slice none 0 0]) Try.underlying31 hi hz0 hz1 hz2 rfl v rs.length (cF rs) rfl hrow (.int .u8 fr.k) (.slice A2 fr.body.length c2) rfl rfl rfl (by omega) hBs ?_))
        intro v' w' hown' hg'
        have hbN : Below w.heap.size w w' := (HS.out.below.alloc HS.out.below.size _).grown hg' (HS.out.below.alloc HS.out.below.size _).size (fun q hq => by have := ((hrow.alloc (.cells #[.int .u8 fr.k, .slice A2 fr.body.length c2] 28)).lt q hq).1; have := HS.out.low; omega)
        go_wp2_with fail
        refine (hR w' ((hrd.below hbN).more hbN.size)).mono ?_
        rintro e w2 ⟨A5, c5, rfl, hown5, hb5⟩
        subst hfr
        obtain ⟨hnx, hvw⟩ := ScanAt.next HS.out HS.out.var.lt hE hSg hown' hg' hown5 hb5
        have hf0 := hvw.frozen 0
        have hf1 := hvw.frozen 1
        have hx0 := hvw.cell 0
        have hx1 := hvw.cell 1
        have HNX := Lib.hid hnx
        clear hnx hvw hown5 hb5 hown' hg' hbN
        go_wp2
        go_roundw
        case rel => exact ⟨N + S, _, v', A5, c5, rfl, by go_num, rfl, rfl, HNX.out⟩
        case measure => simp [intOf]; omega
    · have hne : (((mea (zs.drop N)).2 : Nat) : Int) ≠ 0 := by omega
      have hend := scn_end hE
      have htold := HS.out.told
      rw [hend, List.append_nil, Nat.add_zero, List.length_drop] at htold
      obtain ⟨A', c', rfl⟩ := row_shape HS.out.row
      have hrow := own_base HS.out.row (Nat.le_trans HS.out.low (Nat.le_succ _))
      have hbd := HS.out.bds
      have hbl := HS.out.below
      have HT := Lib.hid htold
      generalize hEg : (mea (zs.drop N)).2 = E at *
      clear htold hend
      by_cases hN : N = zs.length
      · have hNi : (N : Int) = (zs.length : Int) := by omega
        have ht := HT.out
        rw [if_pos (by omega)] at ht
        have HT2 := Lib.hid ht
        clear ht HT
        go_wp2
        go_returns
        refine ⟨A', c', rs, ?_, by rw [HT2.out], hrow, hbd, hbl⟩
        rw [HT2.out, hN]
        rfl
      · have hNi : ¬ (N : Int) = (zs.length : Int) := by omega
        have ht := HT.out
        rw [if_neg (by omega)] at ht
        have HT2 := Lib.hid ht
        clear ht HT
        go_wp2
        go_returns
        refine ⟨A', c', rs, ?_, by rw [HT2.out], hrow, hbd, hbl⟩
        rw [HT2.out]
        rfl

end Go.Proofs.Ytbmllljieoeihaa
