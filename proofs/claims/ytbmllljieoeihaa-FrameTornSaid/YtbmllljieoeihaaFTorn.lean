/- A first part of frames' bytes tells just those that lie in it whole, and is never taken for altered: for all frames, cut anywhere. No condition. -/
import Derived.Test.YtbmllljieoeihaaFBack
namespace Go.Proofs.Ytbmllljieoeihaa
open Go.RowKit
set_option linter.unusedVariables false

theorem whl_step {fs : List Fr} {j n : Nat} (hj : j < fs.length) (h : fs[j].body.length + 12 ≤ n) : whl (fs.drop j) n = ((whl (fs.drop (j + 1)) (n - (fs[j].body.length + 12))).1 + 1, fs[j].body.length + 12 + (whl (fs.drop (j + 1)) (n - (fs[j].body.length + 12))).2) := by
  rw [List.drop_eq_getElem_cons hj, whl, if_pos h]
theorem whl_stop {fs : List Fr} {j n : Nat} (hj : j < fs.length) (h : ¬ fs[j].body.length + 12 ≤ n) : whl (fs.drop j) n = (0, 0) := by
  rw [List.drop_eq_getElem_cons hj, whl, if_neg h]
theorem whl_nil {fs : List Fr} {j n : Nat} (hj : fs.length ≤ j) : whl (fs.drop j) n = (0, 0) := by
  rw [List.drop_eq_nil_of_le hj, whl]

set_option maxHeartbeats 3200000 in
theorem ftorn_walk (A : Option Addr) (rs : List FR) (c : Nat) (cut : Int) (w : World) (hcut : -9223372036854775808 ≤ cut ∧ cut ≤ 9223372036854775807) (hcap : rs.length ≤ c) (hk : ∀ r ∈ rs, (0 ≤ r.f.k ∧ r.f.k ≤ 255) ∧ Byt r.f.body) (hr : Rdf w w.heap.size A rs) :
    Calls Try.prog 6 #[.slice A rs.length c, .int .i64 cut] w fun e w' => e = .returned (.bool true) ∧ Below w.heap.size w w' := by
  have HC := Lib.hid hcut
  clear hcut
  go_enter Try.func6, Try.ntmps6
  go_wp2_with fail
  refine (flives_any _).mono ?_
  rintro e w1 ⟨rfl, hb1⟩
  have hr1 : Rdf w1 w1.heap.size A rs := (hr.below hb1).more hb1.size
  by_cases h40 : 40 < rs.length
  · have h40' : (40 : Int) < (rs.length : Int) := by omega
    go_wp2
    go_ret
    exact ⟨rfl, hb1⟩
  · have h40' : ¬ (40 : Int) < (rs.length : Int) := by omega
    go_wp2
    go_loop [6] (fun i => ∃ j : Nat, j ≤ rs.length ∧ i = .int .i64 j ∧ ∀ r ∈ rs.take j, r.f.body.length ≤ 2000) (fun i => rs.length - (intOf i).toNat)
    case atStart => exact ⟨0, by omega, rfl, by simp⟩
    case round =>
      obtain ⟨j, hj, rfl, hall⟩ := hrel
      have HALL := Lib.hid hall
      clear hall
      by_cases hlt : j < rs.length
      · obtain ⟨ad, rfl, _, hc0, hc1⟩ := hr1.at_ hlt
        by_cases hbig : 2000 < rs[j].f.body.length
        · have hbig' : (2000 : Int) < (rs[j].f.body.length : Int) := by omega
          generalize rs[j].f.body.length = m at *
          generalize rs[j].A = D at *
          generalize rs[j].c = x at *
          go_wp2
          go_ret
          exact ⟨rfl, hb1⟩
        · have hbig' : ¬ (2000 : Int) < (rs[j].f.body.length : Int) := by omega
          have HB := Lib.hid (show ∀ r ∈ rs.take (j + 1), r.f.body.length ≤ 2000 from fun r hr => by
            rw [List.take_add_one, List.getElem?_eq_getElem hlt] at hr
            rcases List.mem_append.1 hr with hr | hr
            · exact HALL.out r hr
            · simp at hr
              subst hr
              omega)
          generalize rs[j].f.body.length = m at *
          generalize rs[j].A = D at *
          generalize rs[j].c = x at *
          go_wp2
          go_round
          case rel => exact ⟨j + 1, by omega, by go_num, HB.out⟩
          case measure => simp [intOf]; omega
      · obtain rfl : j = rs.length := by omega
        have hall := HALL.out
        rw [List.take_length] at hall
        have hfew : Few rs := ⟨by omega, fun r hr => ⟨⟨(hk r hr).1, (hk r hr).2, by have := hall r hr; omega⟩, hall r hr⟩⟩
        have hok : ∀ f ∈ rs.map FR.f, Fok f := fun f h => by
          obtain ⟨r, hr, rfl⟩ := List.mem_map.1 h
          exact (hfew.2 r hr).1
        have hsh : (fbs (rs.map FR.f)).length ≤ 80480 := Nat.le_trans (fbs_length fun f h => by
          obtain ⟨r, hr, rfl⟩ := List.mem_map.1 h
          exact (hfew.2 r hr).2) (by simp; omega)
        have hbz := fbs_byt hok
        have HSC := Lib.hid (scn_torn (rs.map FR.f) hok)
        have HBL := Lib.hid (fun r (hr : r ∈ rs) => (hfew.2 r hr).2)
        have hp := put_any' A rs rs.length c w1 rfl hfew hr1
        generalize hZ : fbs (rs.map FR.f) = zs at *
        have HBZ := Lib.hid hbz
        clear hall HALL hk hfew hok hbz
        go_wp2_with fail
        refine hp.mono ?_
        rintro e w2 ⟨D, k, rfl, hk, hd, hb2⟩
        go_wp2_with fail
        refine (pick_any cut ((zs.length : Int) + 1) w2 (by omega) (by omega) HC.out).mono ?_
        rintro e w3 ⟨⟨at_, rfl, hat⟩, rfl⟩
        have hr2 : Rdf w3 w3.heap.size A rs := (hr1.below hb2).more hb2.size
        have hat' : at_ ≤ zs.length := by omega
        go_wp2
        go_loop [5, 10] (fun i n => ∃ j N : Nat, j ≤ rs.length ∧ N ≤ at_ ∧ i = .int .i64 j ∧ n = .int .i64 N ∧ whl (rs.map FR.f) at_ = (j + (whl ((rs.map FR.f).drop j) (at_ - N)).1, N + (whl ((rs.map FR.f).drop j) (at_ - N)).2)) (fun i _ => rs.length - (intOf i).toNat)
        case atStart => exact ⟨0, 0, by omega, by omega, rfl, rfl, by simp⟩
        case round =>
          obtain ⟨j, N, hj, hN, rfl, rfl, hw⟩ := hrel
          have HW := Lib.hid hw
          clear hw
          by_cases hjl : j < rs.length
          · obtain ⟨ad, rfl, _, hc0, hc1⟩ := hr2.at_ hjl
            have hjm : j < (rs.map FR.f).length := by simpa using hjl
            have hgm : (rs.map FR.f)[j] = rs[j].f := by simp
            have hml := HBL.out _ (List.getElem_mem hjl)
            by_cases hfit : rs[j].f.body.length + 12 ≤ at_ - N
            · have hst := whl_step hjm (n := at_ - N) (by rw [hgm]; exact hfit)
              have hw2 := HW.out
              rw [hst, hgm] at hw2
              have HW2 := Lib.hid hw2
              have hfit' : (N : Int) + (rs[j].f.body.length : Int) + 12 ≤ (at_ : Int) := by omega
              clear hst hw2 hgm
              generalize rs[j].f.body.length = m at *
              generalize rs[j].A = Dj at *
              generalize rs[j].c = x at *
              generalize rs[j].f.k = kk at *
              go_wp2
              go_round
              case rel =>
                refine ⟨j + 1, N + m + 12, by omega, by omega, by go_num, by go_num, ?_⟩
                rw [HW2.out, show at_ - N - (m + 12) = at_ - (N + m + 12) by omega]
                congr 1 <;> omega
              case measure => simp [intOf] <;> omega
            · have hst := whl_stop hjm (n := at_ - N) (by rw [hgm]; exact hfit)
              have hw2 := HW.out
              rw [hst] at hw2
              have HW2 := Lib.hid (show whl (rs.map FR.f) at_ = (j, N) from hw2)
              have hfit' : ¬ (N : Int) + (rs[j].f.body.length : Int) + 12 ≤ (at_ : Int) := by omega
              clear hst hw2 hgm hfit
              generalize rs[j].f.body.length = m at *
              generalize rs[j].A = Dj at *
              generalize rs[j].c = x at *
              generalize rs[j].f.k = kk at *
              have hsc := HSC.out at_ hat'
              rw [HW2.out, ← List.map_take] at hsc
              have hzt : (zs.take at_).length = at_ := by rw [List.length_take]; omega
              have hdt : Rds w3 w3.heap.size D (c8 (zs.take at_)) := by rw [c8_take]; exact hd.take at_
              have hcj : (j : Int) ≤ (c : Int) := by omega
              have hak : (at_ : Int) ≤ (k : Int) := by omega
              have HBT := Lib.hid (HBZ.out.take at_)
              by_cases hE : N = at_
              · rw [if_pos hE] at hsc
                have hNa : ((N : Int) == (at_ : Int)) = true := by simp [hE]
                have hsn := fscan_len D (zs.take at_) at_ at_ w3 hzt (by omega) (by omega) HBT.out hdt hsc
                clear hsc HW2 hp hr1 hr HW hdt
                clear hE
                go_wp2_with fail
                refine hsn.mono ?_
                rintro e w4 ⟨A3, c3, rs3, rfl, hm3, hrow3, hbd3, hb3⟩
                have hl3 : rs3.length = j := by have := congrArg List.length hm3; simp only [List.length_map, List.length_take] at this; omega
                have hrd3 := Rdf.ofOwn hrow3 hbd3
                have hrd4 : Rdf w4 w4.heap.size (some ad) (rs.take j) := ((hr2.below hb3).more hb3.size).take j
                have hS := sameFrames_yes A3 (some ad) rs3 (rs.take j) j j c3 c w4.heap.size w4 hl3 (by rw [List.length_take]; omega) (by omega) hm3 (fun r hr => by
                  have h1 : r.f ∈ (rs.take j).map FR.f := by rw [← hm3]; exact List.mem_map_of_mem hr
                  obtain ⟨r', hr', e⟩ := List.mem_map.1 h1
                  have := HBL.out r' (List.mem_of_mem_take hr')
                  rw [← e]
                  omega) hrd3 hrd4
                have hbF := belowGo hb1 (Nat.le_refl _) (hb2.trans (hb3.mono hb2.size))
                clear hrd3 hrd4 hrow3 hbd3 hb3 hm3
                go_wp2_with fail
                refine hS.mono ?_
                rintro e w5 ⟨rfl, q, rfl⟩
                go_wp2
                go_ret
                exact ⟨rfl, below_drewN hbF q⟩
              · rw [if_neg hE] at hsc
                have hNa : ((N : Int) == (at_ : Int)) = false := by simp; omega
                have hsn := fscan_len D (zs.take at_) at_ at_ w3 hzt (by omega) (by omega) HBT.out hdt hsc
                clear hsc HW2 hp hr1 hr HW hdt
                clear hE
                go_wp2_with fail
                refine hsn.mono ?_
                rintro e w4 ⟨A3, c3, rs3, rfl, hm3, hrow3, hbd3, hb3⟩
                have hl3 : rs3.length = j := by have := congrArg List.length hm3; simp only [List.length_map, List.length_take] at this; omega
                have hrd3 := Rdf.ofOwn hrow3 hbd3
                have hrd4 : Rdf w4 w4.heap.size (some ad) (rs.take j) := ((hr2.below hb3).more hb3.size).take j
                have hS := sameFrames_yes A3 (some ad) rs3 (rs.take j) j j c3 c w4.heap.size w4 hl3 (by rw [List.length_take]; omega) (by omega) hm3 (fun r hr => by
                  have h1 : r.f ∈ (rs.take j).map FR.f := by rw [← hm3]; exact List.mem_map_of_mem hr
                  obtain ⟨r', hr', e⟩ := List.mem_map.1 h1
                  have := HBL.out r' (List.mem_of_mem_take hr')
                  rw [← e]
                  omega) hrd3 hrd4
                have hbF := belowGo hb1 (Nat.le_refl _) (hb2.trans (hb3.mono hb2.size))
                clear hrd3 hrd4 hrow3 hbd3 hb3 hm3
                go_wp2_with fail
                refine hS.mono ?_
                rintro e w5 ⟨rfl, q, rfl⟩
                go_wp2
                go_ret
                exact ⟨rfl, below_drewN hbF q⟩
          · obtain rfl : j = rs.length := by omega
            have hst := whl_nil (fs := rs.map FR.f) (j := rs.length) (n := at_ - N) (by simp)
            have hw2 := HW.out
            rw [hst] at hw2
            have HW2 := Lib.hid (show whl (rs.map FR.f) at_ = (rs.length, N) from hw2)
            clear hst hw2
            have hsc := HSC.out at_ hat'
            rw [HW2.out, ← List.map_take] at hsc
            have hzt : (zs.take at_).length = at_ := by rw [List.length_take]; omega
            have hdt : Rds w3 w3.heap.size D (c8 (zs.take at_)) := by rw [c8_take]; exact hd.take at_
            have hcj : (rs.length : Int) ≤ (c : Int) := by omega
            have hak : (at_ : Int) ≤ (k : Int) := by omega
            have HBT := Lib.hid (HBZ.out.take at_)
            by_cases hE : N = at_
            · rw [if_pos hE] at hsc
              have hNa : ((N : Int) == (at_ : Int)) = true := by simp [hE]
              have hsn := fscan_len D (zs.take at_) at_ at_ w3 hzt (by omega) (by omega) HBT.out hdt hsc
              clear hsc HW2 hp hr1 hr HW hdt
              clear hE
              go_wp2_with fail
              refine hsn.mono ?_
              rintro e w4 ⟨A3, c3, rs3, rfl, hm3, hrow3, hbd3, hb3⟩
              have hl3 : rs3.length = rs.length := by have := congrArg List.length hm3; simp only [List.length_map, List.length_take] at this; omega
              have hrd3 := Rdf.ofOwn hrow3 hbd3
              have hrd4 : Rdf w4 w4.heap.size A (rs.take rs.length) := ((hr2.below hb3).more hb3.size).take rs.length
              have hS := sameFrames_yes A3 A rs3 (rs.take rs.length) rs.length rs.length c3 c w4.heap.size w4 hl3 (by rw [List.length_take]; omega) (by omega) hm3 (fun r hr => by
                have h1 : r.f ∈ (rs.take rs.length).map FR.f := by rw [← hm3]; exact List.mem_map_of_mem hr
                obtain ⟨r', hr', e⟩ := List.mem_map.1 h1
                have := HBL.out r' (List.mem_of_mem_take hr')
                rw [← e]
                omega) hrd3 hrd4
              have hbF := belowGo hb1 (Nat.le_refl _) (hb2.trans (hb3.mono hb2.size))
              clear hrd3 hrd4 hrow3 hbd3 hb3 hm3
              go_wp2_with fail
              refine hS.mono ?_
              rintro e w5 ⟨rfl, q, rfl⟩
              go_wp2
              go_ret
              exact ⟨rfl, below_drewN hbF q⟩
            · rw [if_neg hE] at hsc
              have hNa : ((N : Int) == (at_ : Int)) = false := by simp; omega
              have hsn := fscan_len D (zs.take at_) at_ at_ w3 hzt (by omega) (by omega) HBT.out hdt hsc
              clear hsc HW2 hp hr1 hr HW hdt
              clear hE
              go_wp2_with fail
              refine hsn.mono ?_
              rintro e w4 ⟨A3, c3, rs3, rfl, hm3, hrow3, hbd3, hb3⟩
              have hl3 : rs3.length = rs.length := by have := congrArg List.length hm3; simp only [List.length_map, List.length_take] at this; omega
              have hrd3 := Rdf.ofOwn hrow3 hbd3
              have hrd4 : Rdf w4 w4.heap.size A (rs.take rs.length) := ((hr2.below hb3).more hb3.size).take rs.length
              have hS := sameFrames_yes A3 A rs3 (rs.take rs.length) rs.length rs.length c3 c w4.heap.size w4 hl3 (by rw [List.length_take]; omega) (by omega) hm3 (fun r hr => by
                have h1 : r.f ∈ (rs.take rs.length).map FR.f := by rw [← hm3]; exact List.mem_map_of_mem hr
                obtain ⟨r', hr', e⟩ := List.mem_map.1 h1
                have := HBL.out r' (List.mem_of_mem_take hr')
                rw [← e]
                omega) hrd3 hrd4
              have hbF := belowGo hb1 (Nat.le_refl _) (hb2.trans (hb3.mono hb2.size))
              clear hrd3 hrd4 hrow3 hbd3 hb3 hm3
              go_wp2_with fail
              refine hS.mono ?_
              rintro e w5 ⟨rfl, q, rfl⟩
              go_wp2
              go_ret
              exact ⟨rfl, below_drewN hbF q⟩

open Go.ChangeShapes Go.WideShapes Go.ChangeAt
set_option maxRecDepth 100000 in
theorem ftorn_lifted (os : Os) (started : os.Started) (H : Type) (enc : TypeId × Value → H) :
    ReturnsInHanded {} Try.checked os 6 .any (Rows.frameTornSpec.pre6 enc Try.prog Try.f6 Rows.frameTornRow.domain false) (Rows.frameTornSpec.post enc Try.prog Try.f6 false true false false) := by
  refine returnsInHanded_of_change_sized (C := Try.checked) own started (by kernel_rfl) Try.func6
    (ChangeSpec.witness6 (enc := enc) (C := Try.checked) false ⟨#[], #[.slice none 0 0, .int .i64 0], []⟩ 8 (by kernel_rfl) (by kernel_rfl) (by kernel_rfl) (by kernel_rfl)) ?_
  intro W base args ds gs before hval0 hW _ hsz0 _
  have hsz : (DataW.weightsEach Try.prog (Try.f6.params.toList ++ Rows.frameTornSpec.plain.varTypes Try.prog) (ds ++ gs)).all (· ≤ reachBytes) = true := hsz0
  have hval : ∀ (j : Nat) t v, Try.f6.params[j]? = some t → args[j]? = some v → Value.okWide Try.prog W .any base t v := hval0
  have hW' := hW
  obtain ⟨p, q, hA0, hV, rfl, _, _⟩ := hW
  have hA : DataW.TrodAll enc Try.prog W 0 (fun _ => true) true Try.f6.params.toList args.toList ds p := hA0
  rw [Try.params6] at hA hval hsz
  obtain ⟨v0, vs0, d0, ds0, p0, q0, hargs, rfl, rfl, h0, r0⟩ := trodAll_cons hA
  obtain ⟨v1, vs1, d1, ds1, p1, q1, rfl, rfl, rfl, h1, r1⟩ := trodAll_cons r0
  obtain ⟨rfl, rfl, rfl⟩ := trodAll_nil r1
  obtain rfl : args = #[v0, v1] := by cases args; simp_all
  obtain ⟨A0, rs0, c0, hf0⟩ := open_frames (hval 0 31 v0 rfl rfl) h0
  obtain rfl := hf0.val
  obtain ⟨a1, rfl, rfl, rfl, w1⟩ := open_int Try.underlying3 (hval 1 3 v1 rfl rfl) h1
  have b1 := bounds_i64 w1
  exact law_close laid rfl hW' (by kernel_rfl) rfl Try.underlying4 rfl (ftorn_walk A0 rs0 c0 a1 W b1 hf0.cap hf0.kinds hf0.rds)

theorem frameTorn_holds : Rows.FrameTornSaid :=
  OpenClaim.holds_of_wide 6 Try.f6 rfl rfl rfl rfl rfl rfl rfl ⟨rfl, rfl, rfl, rfl, rfl⟩ rfl rfl rfl rfl rfl (by kernel_rfl) Try.func6 (by kernel_rfl)
    (of_decide_eq_true (by kernel_rfl)) (by unfold Func.isWrapper; first | (rw [if_pos (by decide +kernel)]; kernel_rfl) | (rw [if_neg (by decide +kernel)]; exact ⟨rfl, rfl⟩))
    (fun os started H enc _ => ftorn_lifted os started H enc)

#print axioms frameTorn_holds

end Go.Proofs.Ytbmllljieoeihaa
