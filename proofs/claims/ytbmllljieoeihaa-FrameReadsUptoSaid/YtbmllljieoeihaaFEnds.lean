/- The walk over the frame's Ends. -/
import Derived.Test.YtbmllljieoeihaaFScan
import Derived.Test.YtbmllljieoeihaaEnd
namespace Go.Proofs.Ytbmllljieoeihaa
open Go.RowKit
set_option linter.unusedVariables false

theorem info3 : (Try.prog.info? 3).map (fun i => (i.zero, i.size, i.bytes)) = some (some (.int .i64 0), 1, 8) := by kernel_rfl
theorem cI_append (a b : List Int) : cI (a ++ b) = cI a ++ cI b := by simp [cI]

/-- where the places' list stands -/
structure EndsAt (zs : List Int) (w wr : World) (N : Nat) (L : List Int) (v : Value) : Prop where
  le : N ≤ zs.length
  told : plc 0 (scn zs).1 = L ++ plc N (scn (zs.drop N)).1
  few : L.length ≤ N
  row : wr.ownsRow w.heap.size 3 1 v L.length (cI L)
  below : Below w.heap.size w wr

theorem EndsAt.next {zs : List Int} {w wr w' : World} {N S n : Nat} {L : List Int} {v v' : Value} (h : EndsAt zs w wr N L v) (hE : (mea (zs.drop N)).2 = 0) (hS : (mea (zs.drop N)).1 = S)
    (hrow : w'.ownsRow w.heap.size 3 1 v' (L.length + 1) (cI L ++ [.int .i64 ((N : Int) + (S : Int))])) (hb : Below w.heap.size wr w') : EndsAt zs w (w'.drewN n) (N + S) (L ++ [((N : Int) + (S : Int))]) v' := by
  subst hS
  obtain ⟨h12, hSl⟩ := mea_le hE
  rw [List.length_drop] at hSl
  refine ⟨by omega, ?_, by have := h.few; simp; omega, ?_, below_drewN (h.below.trans hb) n⟩
  · rw [h.told, scn_step hE]
    have hfl : (frd (zs.drop N)).body.length + 12 = (mea (zs.drop N)).1 := by
      rw [show frd (zs.drop N) = fra (zs.drop N) from if_pos hE, fra_length hE]
      omega
    simp only [plc, hfl, List.append_assoc, List.cons_append, List.nil_append]
    rfl
  · rw [List.length_append, cI_append]
    exact hrow

theorem measured_at (A : Option Addr) (zs : List Int) (n c lim : Nat) (w : World) (hn : zs.length = n) (hl : n ≤ 140737492549632) (hc : n ≤ c) (hz : Byt zs) (hr : Rds w lim A (c8 zs)) :
    Calls Try.prog 28 #[.slice A n c] w fun e w' => e = .returned (.tuple #[.int .i64 ((mea zs).1 : Nat), .int .i64 ((mea zs).2 : Nat)]) ∧ ∃ n, w' = w.drewN n := by
  subst hn
  exact measured_any A zs c lim w hl hc hz hr

set_option maxHeartbeats 3200000 in
theorem fends_any (A : Option Addr) (zs : List Int) (c : Nat) (w : World) (hl : zs.length ≤ 1099511627776) (hc : zs.length ≤ c) (hz : Byt zs) (hr : Rds w w.heap.size A (c8 zs)) :
    Calls Try.prog 21 #[.slice A zs.length c] w fun e w' => ∃ A' c', e = .returned (.slice A' (plc 0 (scn zs).1).length c') ∧ w'.ownsRow w.heap.size 3 1 (.slice A' (plc 0 (scn zs).1).length c') (plc 0 (scn zs).1).length (cI (plc 0 (scn zs).1)) ∧ Below w.heap.size w w' := by
  obtain ⟨i0, hi, hz0, hz1, hz2⟩ := info_parts info3
  have hM0 := measured_any A zs c w.heap.size w (by omega) hc hz hr
  have HZ := Lib.hid hz
  clear hz
  go_enter Try.func21, Try.ntmps21
  go_wp2_with fail
  refine hM0.mono ?_
  rintro e w1 ⟨rfl, n1, rfl⟩
  go_wp2
  go_loopw [3, 4, 5, 6] (fun l n size e wr => ∃ (N : Nat) (L : List Int) (v : Value), v = l ∧ n = .int .i64 N ∧ e = .int .i64 ((mea (zs.drop N)).2 : Nat) ∧ size = .int .i64 ((mea (zs.drop N)).1 : Nat) ∧ EndsAt zs w wr N L v) (fun _ n _ _ _ => zs.length - (intOf n).toNat)
  case atStart =>
    exact ⟨0, [], .slice none 0 0, rfl, rfl, rfl, rfl, by omega, by simp, by simp, ⟨rfl, .inl ⟨rfl, rfl⟩⟩, below_drewN (Below.refl _ _) _⟩
  case round =>
    obtain ⟨N, L, v, rfl, rfl, rfl, rfl, hs⟩ := hrel
    have HS := Lib.hid hs
    have hle := hs.le
    clear hs hM0
    by_cases hE : (mea (zs.drop N)).2 = 0
    · obtain ⟨h12, hSl⟩ := mea_le hE
      rw [List.length_drop] at hSl
      have hp : 0 < zs.length := by omega
      obtain ⟨ad, rfl, _, _⟩ := hr.at_ (c8_get hp)
      rw [hE]
      generalize hSg : (mea (zs.drop N)).1 = S at *
      have hf := HS.out.few
      have hrow := HS.out.row
      have hBs := HS.out.below.size
      have hq1 : 0 ≤ (N : Int) + (S : Int) ∧ (N : Int) + (S : Int) ≤ (zs.length : Int) := by omega
      have hq2 : ((N : Int) + (S : Int)).toNat = N + S := by omega
      have hq3 : IntKind.i64.wrap ((N : Int) + (S : Int)) = (N : Int) + (S : Int) := IntWalk.i64_in _ (by omega)
      by_cases hcN : c = N + S
      · have hd := hr.drop (N + S) c (by rw [c8_length]; exact hc)
        rw [if_pos hcN, ← c8_drop] at hd
        have hrd := hd
        have hcN' : N + S = c := hcN.symm
        clear hcN
        have hR := fun w' (hr' : Rds w' w.heap.size (some ad) (c8 (zs.drop (N + S)))) => measured_at (some ad) (zs.drop (N + S)) (0) (0) w.heap.size w' (by rw [List.length_drop]; omega) (by omega) (by omega) (HZ.out.drop _) hr'
        clear hd
        go_wp2_with (at_builtin; go_loud (refine app_one wr rfl (.tmp 24) (.tmp 26) 39 rfl w.heap.size 3 i0 (.int .i64 0) 8 Try.underlying39 hi hz0 hz1 hz2 rfl v L.length (cI L) rfl hrow (.int .i64 ((N : Int) + (S : Int))) rfl rfl (by unfold maxLen; omega) (by omega) hBs ?_))
        intro v' w' hown' hb'
        go_wp2_with fail
        refine (hR w' (hrd.below (HS.out.below.trans hb'))).mono ?_
        rintro e w2 ⟨rfl, n2, rfl⟩
        have hnx := EndsAt.next (n := n2) HS.out hE hSg hown' hb'
        have HNX := Lib.hid hnx
        clear hnx hown' hb'
        go_wp2
        go_roundw
        case rel =>
          have hnx := HNX.out
          rw [hcN'] at hnx
          exact ⟨c, _, v', rfl, by rw [← hcN']; go_num, rfl, rfl, hnx⟩
        case measure => simp [intOf]; omega
      · have hd := hr.drop (N + S) c (by rw [c8_length]; exact hc)
        rw [if_neg hcN, ← c8_drop] at hd
        have hrd : Rds w w.heap.size (some (ad.add (N + S))) (c8 (zs.drop (N + S))) := hd
        have hR := fun w' (hr' : Rds w' w.heap.size (some (ad.add (N + S))) (c8 (zs.drop (N + S)))) => measured_at (some (ad.add (N + S))) (zs.drop (N + S)) (zs.length - (N + S)) (c - (N + S)) w.heap.size w' (by rw [List.length_drop]) (by omega) (by omega) (HZ.out.drop _) hr'
        clear hd
        go_wp2_with (at_builtin; go_loud (refine app_one wr rfl (.tmp 24) (.tmp 26) 39 rfl w.heap.size 3 i0 (.int .i64 0) 8 Try.underlying39 hi hz0 hz1 hz2 rfl v L.length (cI L) rfl hrow (.int .i64 ((N : Int) + (S : Int))) rfl rfl (by unfold maxLen; omega) (by omega) hBs ?_))
        intro v' w' hown' hb'
        go_wp2_with fail
        refine (hR w' (hrd.below (HS.out.below.trans hb'))).mono ?_
        rintro e w2 ⟨rfl, n2, rfl⟩
        have hnx := EndsAt.next (n := n2) HS.out hE hSg hown' hb'
        have HNX := Lib.hid hnx
        clear hnx hown' hb'
        go_wp2
        go_roundw
        case rel =>
          exact ⟨N + S, _, v', rfl, by go_num, rfl, rfl, HNX.out⟩
        case measure => simp [intOf]; omega
    · have hne : (((mea (zs.drop N)).2 : Nat) : Int) ≠ 0 := by omega
      have hend := scn_end hE
      have htold := HS.out.told
      rw [hend] at htold
      have ht : plc 0 (scn zs).1 = L := by rw [htold]; simp [plc]
      obtain ⟨A', c', rfl⟩ := row_shape HS.out.row
      have hrow := HS.out.row
      have hbl := HS.out.below
      have HT := Lib.hid ht
      generalize hEg : (mea (zs.drop N)).2 = E at *
      clear htold hend ht
      go_wp2
      go_ret
      refine ⟨A', c', by rw [HT.out]; rfl, by rw [HT.out]; exact hrow, hbl⟩

end Go.Proofs.Ytbmllljieoeihaa
