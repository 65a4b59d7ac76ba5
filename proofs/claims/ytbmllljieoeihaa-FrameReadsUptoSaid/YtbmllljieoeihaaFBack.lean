/- Frames that stand one behind the other are read back, to the last: for all frames. No condition. -/
import Derived.Test.YtbmllljieoeihaaFOpen
import Derived.Test.YtbmllljieoeihaaFPutL
import Derived.Test.YtbmllljieoeihaaFScan2
import Derived.Test.YtbmllljieoeihaaFEnds
namespace Go.Proofs.Ytbmllljieoeihaa
open Go.RowKit
set_option linter.unusedVariables false

theorem fscan_len (A : Option Addr) (zs : List Int) (n c : Nat) (w : World) (hn : zs.length = n) (hl : n ≤ 1099511627776) (hc : n ≤ c) (hz : Byt zs) (hr : Rds w w.heap.size A (c8 zs)) {fs : List Fr} {N E : Nat} (hS : scn zs = (fs, N, E)) :
    Calls Try.prog 12 #[.slice A n c] w fun e w' => ∃ A' c' rs, e = .returned (.tuple #[.slice A' rs.length c', .int .i64 (N : Nat), .int .i64 (E : Nat)]) ∧
      rs.map FR.f = fs ∧ w'.ownsRow w.heap.size 28 2 (.slice A' rs.length c') rs.length (cF rs) ∧ Bds w' w.heap.size rs ∧ Below w.heap.size w w' := by
  subst hn
  have h := fscan_any A zs c w hl hc hz hr
  rw [hS] at h
  exact h

theorem plc_length : ∀ (a : Nat) (fs : List Fr), (plc a fs).length = fs.length
  | a, [] => rfl
  | a, f :: r => by rw [plc, List.length_cons, plc_length _ r, List.length_cons]
theorem plc_last : ∀ (fs : List Fr) (a : Nat), 0 < fs.length → (plc a fs)[fs.length - 1]? = some (((a + (fbs fs).length : Nat) : Int))
  | [f], a, _ => by simp [plc, fbs, fby_length]
  | f :: g :: r, a, _ => by
    have ih := plc_last (g :: r) (a + (f.body.length + 12)) (by simp)
    have e : (fbs (f :: g :: r)).length = f.body.length + 12 + (fbs (g :: r)).length := by simp [fbs, fby_length]
    rw [plc, show (f :: g :: r).length - 1 = ((g :: r).length - 1) + 1 by simp, List.getElem?_cons_succ, ih, e]
    congr 2
    omega

theorem fends_len (A : Option Addr) (zs : List Int) (n c : Nat) (w : World) (hn : zs.length = n) (hl : n ≤ 1099511627776) (hc : n ≤ c) (hz : Byt zs) (hr : Rds w w.heap.size A (c8 zs)) {L : List Int} {m : Nat} (hL : plc 0 (scn zs).1 = L) (hm : L.length = m) :
    Calls Try.prog 21 #[.slice A n c] w fun e w' => ∃ A' c', e = .returned (.slice A' m c') ∧ w'.ownsRow w.heap.size 3 1 (.slice A' m c') m (cI L) ∧ Below w.heap.size w w' := by
  subst hn hL hm
  exact fends_any A zs c w hl hc hz hr

set_option maxHeartbeats 3200000 in
theorem fback_walk (A : Option Addr) (rs : List FR) (c : Nat) (w : World) (hk : ∀ r ∈ rs, (0 ≤ r.f.k ∧ r.f.k ≤ 255) ∧ Byt r.f.body) (hr : Rdf w w.heap.size A rs) :
    Calls Try.prog 8 #[.slice A rs.length c] w fun e w' => e = .returned (.bool true) ∧ Below w.heap.size w w' := by
  go_enter Try.func8, Try.ntmps8
  go_wp2_with fail
  refine (flives_any _).mono ?_
  rintro e w1 ⟨rfl, hb1⟩
  have hr1 : Rdf w1 w1.heap.size A rs := (hr.below hb1).more hb1.size
  by_cases h40 : 40 < rs.length
  · have h40' : (40 : Int) < (rs.length : Int) := by omega
    go_wp2
    go_ret
    exact ⟨rfl, hb1⟩
  · have h40' : ¬ (40 : Int) < (rs.length : Int) := by omega
    go_wp2
    go_loop [3] (fun i => ∃ j : Nat, j ≤ rs.length ∧ i = .int .i64 j ∧ ∀ r ∈ rs.take j, r.f.body.length ≤ 2000) (fun i => rs.length - (intOf i).toNat)
    case atStart => exact ⟨0, by omega, rfl, by simp⟩
    case round =>
      obtain ⟨j, hj, rfl, hall⟩ := hrel
      have HALL := Lib.hid hall
      clear hall
      by_cases hlt : j < rs.length
      · obtain ⟨ad, rfl, _, hc0, hc1⟩ := hr1.at_ hlt
        by_cases hbig : 2000 < rs[j].f.body.length
        · have hbig' : (2000 : Int) < (rs[j].f.body.length : Int) := by omega
          generalize rs[j].f.body.length = m at *
          generalize rs[j].A = D at *
          generalize rs[j].c = x at *
          go_wp2
          go_ret
          exact ⟨rfl, hb1⟩
        · have hbig' : ¬ (2000 : Int) < (rs[j].f.body.length : Int) := by omega
          have HB := Lib.hid (show ∀ r ∈ rs.take (j + 1), r.f.body.length ≤ 2000 from fun r hr => by
            rw [List.take_add_one, List.getElem?_eq_getElem hlt] at hr
            rcases List.mem_append.1 hr with hr | hr
            · exact HALL.out r hr
            · simp at hr
              subst hr
              omega)
          generalize rs[j].f.body.length = m at *
          generalize rs[j].A = D at *
          generalize rs[j].c = x at *
          go_wp2
          go_round
          case rel => exact ⟨j + 1, by omega, by go_num, HB.out⟩
          case measure => simp [intOf]; omega
      · obtain rfl : j = rs.length := by omega
        have hall := HALL.out
        rw [List.take_length] at hall
        have hfew : Few rs := ⟨by omega, fun r hr => ⟨⟨(hk r hr).1, (hk r hr).2, by have := hall r hr; omega⟩, hall r hr⟩⟩
        have hok : ∀ f ∈ rs.map FR.f, Fok f := fun f h => by
          obtain ⟨r, hr, rfl⟩ := List.mem_map.1 h
          exact (hfew.2 r hr).1
        have hsh : (fbs (rs.map FR.f)).length ≤ 80480 := Nat.le_trans (fbs_length fun f h => by
          obtain ⟨r, hr, rfl⟩ := List.mem_map.1 h
          exact (hfew.2 r hr).2) (by simp; omega)
        have hbz := fbs_byt hok
        have hsc := scn_all (rs.map FR.f) hok
        have hpl : plc 0 (scn (fbs (rs.map FR.f))).1 = plc 0 (rs.map FR.f) := by rw [hsc]
        have hpll : (plc 0 (rs.map FR.f)).length = rs.length := by rw [plc_length, List.length_map]
        have HLA := Lib.hid (plc_last (rs.map FR.f) 0)
        have HBL := Lib.hid (fun r (hr : r ∈ rs) => (hfew.2 r hr).2)
        have hp := put_any' A rs rs.length c w1 rfl hfew hr1
        generalize hZ : fbs (rs.map FR.f) = zs at *
        clear hall HALL hk hfew hok
        go_wp2_with fail
        refine hp.mono ?_
        rintro e w2 ⟨D, k, rfl, hk, hd, hb2⟩
        go_wp2_with fail
        refine (fscan_len D zs zs.length k w2 rfl (by omega) hk hbz hd hsc).mono ?_
        rintro e w3 ⟨A3, c3, rs3, rfl, hm3, hrow3, hbd3, hb3⟩
        have hd3 : Rds w3 w3.heap.size D (c8 zs) := (hd.below hb3).more hb3.size
        go_wp2_with fail
        refine (fends_len D zs zs.length k w3 rfl (by omega) hk hbz hd3 hpl hpll).mono ?_
        rintro e w4 ⟨A4, c4, rfl, hrow4, hb4⟩
        have hrd3 : Rdf w4 w4.heap.size A3 rs3 := ((Rdf.ofOwn hrow3 hbd3).below hb4).more hb4.size
        have hb24 : Below w1.heap.size w1 w4 := hb2.trans ((hb3.mono hb2.size).trans (hb4.mono (Nat.le_trans hb2.size hb3.size)))
        have hrd4 : Rdf w4 w4.heap.size A rs := (hr1.below hb24).more hb24.size
        have hl3 : rs3.length = rs.length := by have := congrArg List.length hm3; simpa using this
        have hS := fun n (hn : rs.length = n) => sameFrames_yes A3 A rs3 rs n n c3 c w4.heap.size w4 (hl3.trans hn) hn (by omega) hm3 (fun r hr => by
          have h1 : r.f ∈ rs.map FR.f := by rw [← hm3]; exact List.mem_map_of_mem hr
          obtain ⟨r', hr', e⟩ := List.mem_map.1 h1
          have := HBL.out r' hr'
          rw [← e]
          omega) hrd3 hrd4
        have hbF := belowGo hb1 (Nat.le_refl _) hb24
        have hlast := HLA.out
        rw [List.length_map, Nat.zero_add] at hlast
        have hro := Rds.ofOwn hrow4
        have HBF := Lib.hid hbF
        clear hb1 hb24 hb2 hb3 hb4 hrd3 hrd4 hrow3 hbd3 hd hd3 hr1 hr hsc hpl hp hrow4 hbF HLA HBL hm3
        by_cases h0 : rs.length = 0
        · have h0' : (rs.length : Int) = 0 := by omega
          go_wp2_with fail
          refine (hS 0 h0).mono ?_
          rintro e w5 ⟨rfl, q, rfl⟩
          go_wp2
          go_ret
          exact ⟨rfl, below_drewN HBF.out q⟩
        · have h0' : ¬ (rs.length : Int) = 0 := by omega
          obtain ⟨ad4, rfl, _, hc4⟩ := hro.at_ (k := rs.length - 1) (u := .int .i64 (zs.length : Nat)) (by
            have h := hlast (by omega)
            simp only [cI, List.getElem?_map, h, Option.map_some])
          have hq1 : 0 ≤ (rs.length : Int) - 1 := by omega
          have hq2 : ((rs.length : Int) - 1).toNat = rs.length - 1 := by omega
          have hq3 : IntKind.i64.wrap ((rs.length : Int) - 1) = (rs.length : Int) - 1 := IntWalk.i64_in _ (by omega)
          have hq4 : (rs.length : Int) - 1 < (rs.length : Int) := by omega
          clear hlast
          go_wp2_with fail
          refine (hS _ rfl).mono ?_
          rintro e w5 ⟨rfl, q, rfl⟩
          go_wp2
          go_ret
          exact ⟨rfl, below_drewN HBF.out q⟩

open Go.ChangeShapes Go.WideShapes Go.ChangeAt
set_option maxRecDepth 100000 in
theorem fback_lifted (os : Os) (started : os.Started) (H : Type) (enc : TypeId × Value → H) :
    ReturnsInHanded {} Try.checked os 8 .any (Rows.frameBackSpec.pre6 enc Try.prog Try.f8 Rows.frameBackRow.domain false) (Rows.frameBackSpec.post enc Try.prog Try.f8 false true false false) := by
  refine returnsInHanded_of_change_sized (C := Try.checked) own started (by kernel_rfl) Try.func8
    (ChangeSpec.witness6 (enc := enc) (C := Try.checked) false ⟨#[], #[.slice none 0 0], []⟩ 8 (by kernel_rfl) (by kernel_rfl) (by kernel_rfl) (by kernel_rfl)) ?_
  intro W base args ds gs before hval0 hW _ hsz0 _
  have hsz : (DataW.weightsEach Try.prog (Try.f8.params.toList ++ Rows.frameBackSpec.plain.varTypes Try.prog) (ds ++ gs)).all (· ≤ reachBytes) = true := hsz0
  have hval : ∀ (j : Nat) t v, Try.f8.params[j]? = some t → args[j]? = some v → Value.okWide Try.prog W .any base t v := hval0
  have hW' := hW
  obtain ⟨p, q, hA0, hV, rfl, _, _⟩ := hW
  have hA : DataW.TrodAll enc Try.prog W 0 (fun _ => true) true Try.f8.params.toList args.toList ds p := hA0
  rw [Try.params8] at hA hval hsz
  obtain ⟨v0, vs0, d0, ds0, p0, q0, hargs, rfl, rfl, h0, r0⟩ := trodAll_cons hA
  obtain ⟨rfl, rfl, rfl⟩ := trodAll_nil r0
  obtain rfl : args = #[v0] := by cases args; simp_all
  obtain ⟨A0, rs0, c0, hf0⟩ := open_frames (hval 0 31 v0 rfl rfl) h0
  obtain rfl := hf0.val
  exact law_close laid rfl hW' (by kernel_rfl) rfl Try.underlying4 rfl (fback_walk A0 rs0 c0 W hf0.kinds hf0.rds)

theorem frameBack_holds : Rows.FrameBackSaid :=
  OpenClaim.holds_of_wide 8 Try.f8 rfl rfl rfl rfl rfl rfl rfl ⟨rfl, rfl, rfl, rfl, rfl⟩ rfl rfl rfl rfl rfl (by kernel_rfl) Try.func8 (by kernel_rfl)
    (of_decide_eq_true (by kernel_rfl)) (by unfold Func.isWrapper; first | (rw [if_pos (by decide +kernel)]; kernel_rfl) | (rw [if_neg (by decide +kernel)]; exact ⟨rfl, rfl⟩))
    (fun os started H enc _ => fback_lifted os started H enc)

#print axioms frameBack_holds

end Go.Proofs.Ytbmllljieoeihaa
