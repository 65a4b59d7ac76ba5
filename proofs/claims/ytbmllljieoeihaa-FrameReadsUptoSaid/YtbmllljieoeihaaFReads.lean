/- Any bytes are read as frames as the document says: of any bytes, where they are together of bulk at most 1048576. -/
import Derived.Test.YtbmllljieoeihaaFMut
import Derived.Test.YtbmllljieoeihaaFWrites
import Derived.JoinedCond
import Derived.Deep.CondSized
namespace Go.Proofs.Ytbmllljieoeihaa
open Go.RowKit
set_option linter.unusedVariables false

theorem fends_at (A : Option Addr) (zs : List Int) (n c : Nat) (w : World) (hn : zs.length = n) (hl : n ≤ 1099511627776) (hc : n ≤ c) (hz : Byt zs) (hr : Rds w w.heap.size A (c8 zs)) :
    Calls Try.prog 21 #[.slice A n c] w fun e w' => ∃ A' c', e = .returned (.slice A' (plc 0 (scn zs).1).length c') ∧ w'.ownsRow w.heap.size 3 1 (.slice A' (plc 0 (scn zs).1).length c') (plc 0 (scn zs).1).length (cI (plc 0 (scn zs).1)) ∧ Below w.heap.size w w' := by
  subst hn
  exact fends_any A zs c w hl hc hz hr

theorem fscan_at (A : Option Addr) (zs : List Int) (n c : Nat) (w : World) (hn : zs.length = n) (hl : n ≤ 1099511627776) (hc : n ≤ c) (hz : Byt zs) (hr : Rds w w.heap.size A (c8 zs)) :
    Calls Try.prog 12 #[.slice A n c] w fun e w' => ∃ A' c' rs, e = .returned (.tuple #[.slice A' rs.length c', .int .i64 ((scn zs).2.1 : Nat), .int .i64 ((scn zs).2.2 : Nat)]) ∧
      rs.map FR.f = (scn zs).1 ∧ w'.ownsRow w.heap.size 28 2 (.slice A' rs.length c') rs.length (cF rs) ∧ Bds w' w.heap.size rs ∧ Below w.heap.size w w' := by
  subst hn
  exact fscan_any A zs c w hl hc hz hr

theorem fbs_count : ∀ fs : List Fr, fs.length ≤ (fbs fs).length
  | [] => by simp
  | a :: t => by
    have e : (fbs (a :: t)).length = a.body.length + 12 + (fbs t).length := by simp [fbs, fby_length]
    have ih := fbs_count t
    rw [e, List.length_cons]
    omega
theorem fbs_part : ∀ {fs : List Fr} {f : Fr}, f ∈ fs → f.body.length ≤ (fbs fs).length
  | a :: t, f, h => by
    have e : (fbs (a :: t)).length = a.body.length + 12 + (fbs t).length := by simp [fbs, fby_length]
    rcases List.mem_cons.1 h with h | h
    · rw [e, h]; omega
    · have := fbs_part h
      omega

set_option maxHeartbeats 6400000 in
set_option maxRecDepth 1000000 in
theorem freads_walk (A : Option Addr) (zs : List Int) (c : Nat) (w : World) (hl : zs.length ≤ 1048576) (hc : zs.length ≤ c) (hz : Byt zs) (hr : Rds w w.heap.size A (c8 zs)) :
    Calls Try.prog 5 #[.slice A zs.length c] w fun e w' => e = .returned (.bool true) ∧ Below w.heap.size w w' := by
  have HZ := Lib.hid hz
  clear hz
  have hfl : (frd zs).body.length ≤ 1048576 := by
    unfold frd
    split
    · rename_i h
      rw [fra_length h]
      have := mea_ok h
      omega
    · simp
  generalize hn : zs.length = n at *
  go_enter Try.func5, Try.ntmps5
  go_wp2_with fail
  refine (flives_any _).mono ?_
  rintro e w1 ⟨rfl, hb1⟩
  have hr1 := hr.go hb1
  go_wp2_with fail
  refine (own_len A zs n c w1 hn (by omega) hr1).mono ?_
  rintro e w2 ⟨g, rfl, hw2, hg2, hb2⟩
  have hr2 := hr1.go hb2
  have hbb2 := belowGo hb1 (Nat.le_refl _) hb2
  have ho2 := own_reads hw2
  clear hr1 hb1 hb2 hr
  go_wp2_with fail
  refine (fread_at (some ⟨g, 0, none⟩) zs n (n + 5) w2 hn (by omega) (by omega) HZ.out ho2).mono ?_
  rintro e w3 ⟨A3, c3, rfl, hown3, hb3⟩
  have hbv4 : Below w2.heap.size w2 (w3.alloc (.cells #[.int .u8 (frd zs).k, .slice A3 (frd zs).body.length c3] 28)) := hb3.alloc hb3.size _
  have hr4 : Rds (w3.alloc (.cells #[.int .u8 (frd zs).k, .slice A3 (frd zs).body.length c3] 28)) (w3.alloc (.cells #[.int .u8 (frd zs).k, .slice A3 (frd zs).body.length c3] 28)).heap.size A (c8 zs) := (hr2.below hbv4).more hbv4.size
  have hvar4 := Whole.new w3 28 #[.int .u8 (frd zs).k, .slice A3 (frd zs).body.length c3]
  have hown4 := hown3.alloc (.cells #[.int .u8 (frd zs).k, .slice A3 (frd zs).body.length c3] 28)
  have hV4 := hb3.size
  have hc5 : n ≤ c := hc
  clear hb3 hown3
  go_wp2_with fail
  generalize hv4 : w3.alloc (.cells #[.int .u8 (frd zs).k, .slice A3 (frd zs).body.length c3] 28) = v4 at *
  have hV4s : w3.heap.size < v4.heap.size := by rw [← hv4]; simp
  generalize w3.heap.size = V4 at *
  refine (refread_at A zs n c v4 hn (by omega) hc HZ.out hr4).mono ?_
  rintro e w5 ⟨A5, c5, rfl, hown5, hb5⟩
  have hbv6 : Below v4.heap.size v4 (w5.alloc (.cells #[.int .u8 (frd zs).k, .slice A5 (frd zs).body.length c5] 28)) := hb5.alloc hb5.size _
  have hvar7 := Whole.new w5 28 #[.int .u8 (frd zs).k, .slice A5 (frd zs).body.length c5]
  have hown6 := hown5.alloc (.cells #[.int .u8 (frd zs).k, .slice A5 (frd zs).body.length c5] 28)
  have hV7 := hb5.size
  clear hb5 hown5 hv4
  go_wp2_with fail
  generalize hv6 : w5.alloc (.cells #[.int .u8 (frd zs).k, .slice A5 (frd zs).body.length c5] 28) = v6 at *
  have hV7s : w5.heap.size < v6.heap.size := by rw [← hv6]; simp
  generalize w5.heap.size = V7 at *
  have hb26 : Below w2.heap.size w2 v6 := hbv4.trans (hbv6.mono hbv4.size)
  have ho6 : Rds v6 v6.heap.size (some ⟨g, 0, none⟩) (c8 zs) := (ho2.below hb26).more hb26.size
  refine (fscan_at (some ⟨g, 0, none⟩) zs n (n + 5) v6 hn (by omega) (by omega) HZ.out ho6).mono ?_
  rintro e w7 ⟨A7, c7, rs, rfl, hm7, hrow7, hbd7, hb7⟩
  have hb27 : Below w2.heap.size w2 w7 := hb26.trans (hb7.mono hb26.size)
  have hr7 : Rds w7 w7.heap.size A (c8 zs) := (hr2.below hb27).more hb27.size
  go_wp2_with fail
  refine (refscan_len A zs n c w7 hn (by omega) hc HZ.out hr7).mono ?_
  rintro e w8 ⟨A8, c8', rs', rfl, hm8, hrow8, hbd8, hb8⟩
  have hb28 : Below w2.heap.size w2 w8 := hb27.trans (hb8.mono hb27.size)
  -- all that is known behind the four readings
  have x1 := hb27.size
  have x2 := hb26.size
  have x3 := hb7.size
  have x4 := hbv4.size
  have x5 := hbv6.size
  have hvar4' : Whole w8 V4 28 #[.int .u8 (frd zs).k, .slice A3 (frd zs).body.length c3] := ((hvar4.below hbv6 hV4s).below hb7 (by omega)).below hb8 (by omega)
  have hvar7' : Whole w8 V7 28 #[.int .u8 (frd zs).k, .slice A5 (frd zs).body.length c5] := (hvar7.below hb7 hV7s).below hb8 (by omega)
  have hown3' := own_below (own_below (own_below hown4 hbv6) hb7) hb8
  have hown5' := own_below (own_below hown6 hb7) hb8
  have hrow7' := own_below hrow7 hb8
  have hbd7' : Bds w8 v6.heap.size rs := fun r h => own_below (hbd7 r h) hb8
  have he : rs.map FR.f = rs'.map FR.f := by rw [hm7, hm8]
  have hlr : rs.length = rs'.length := by have := congrArg List.length he; simpa using this
  have hsz := scn_size zs.length zs (Nat.le_refl _)
  have hrl : ∀ r ∈ rs, r.f.body.length ≤ 1048576 := fun r hr => by
    have h1 : r.f ∈ (scn zs).1 := by rw [← hm7]; exact List.mem_map_of_mem hr
    have := fbs_part h1
    omega
  have hct := fbs_count (scn zs).1
  have hrsl : rs.length ≤ 1048576 := by
    rw [← hm7, List.length_map] at hct
    rw [← hm7] at hsz
    omega
  have hpll : (plc 0 (scn zs).1).length ≤ 1048576 := by
    rw [plc_length]
    omega
  have hrd7 := Rdf.ofOwn hrow7' hbd7'
  have hrd8 := Rdf.ofOwn hrow8 hbd8
  have hSB := sameBytes_yes A3 A5 (frd zs).body (frd zs).body (frd zs).body.length (frd zs).body.length c3 c5 w8.heap.size w8 rfl rfl (by omega) rfl (Rds.ofOwn hown3') (Rds.ofOwn hown5')
  have hSF := fun q => sameFrames_yes A7 A8 rs rs' rs.length rs'.length c7 c8' w8.heap.size (w8.drewN q) rfl rfl (by omega) he (fun r hr => by have := hrl r hr; omega) (hrd7.drewN q) (hrd8.drewN q)
  have hMut : Mut w8 w8 w2.heap.size V4 (frd zs).k A3 (frd zs).body.length c3 rs A7 c7 := ⟨hvar4', ⟨_, rfl, own_base hown3' (by omega)⟩, own_base hrow7' x2, fun r h => ⟨_, rfl, own_base (hbd7' r h) x2⟩, Below.refl _ _⟩
  have hk1 : ((frd zs).k == (frd zs).k) = true := by simp
  have hk2 : ((((mea zs).1 : Nat) : Int) == (((mea zs).1 : Nat) : Int)) = true := by simp
  have hk3 : ((((mea zs).2 : Nat) : Int) == (((mea zs).2 : Nat) : Int)) = true := by simp
  have HMut := Lib.hid hMut
  have HRL := Lib.hid hrl
  have HPLL := Lib.hid hpll
  have HB28 := Lib.hid hb28
  have HBB2 := Lib.hid hbb2
  have HW2 := Lib.hid hw2
  have HR2 := Lib.hid hr2
  have hc40 := hvar4'.cell 0
  have hc41 := hvar4'.cell 1
  have hc70 := hvar7'.cell 0
  have hc71 := hvar7'.cell 1
  clear hMut hb28 hbb2 hw2 hr2 hrow7 hbd7 hb7 hb8 hrow8 hbd8 hm7 hm8 hown3' hown5' hown4 hown6 hrow7' hbd7' hrd7 hrd8 hbv4 hbv6 hb26 hb27 ho2 ho6 hr4 hr7 hvar4 hvar7 hvar4' hvar7' hv6 he hlr x1 x2 x3 x4 x5 hrl hV4 hV7 hV4s hV7s hsz hct hpll
  generalize (frd zs).body.length = fl at *
  generalize (frd zs).k = fk at *
  generalize (mea zs).1 = M at *
  generalize (mea zs).2 = E at *
  go_wp2_with fail
  refine hSB.mono ?_
  rintro e w9 ⟨rfl, q9, rfl⟩
  go_wp2_with fail
  refine (hSF _).mono ?_
  rintro e w10 ⟨rfl, q10, rfl⟩
  go_wp2
  clear hSB hSF hc40 hc41 hc70 hc71 hk1 hk2 hk3
  go_loopw [17] (fun i wr => ∃ j : Nat, j ≤ fl ∧ i = .int .i64 j ∧ Mut w8 wr w2.heap.size V4 fk A3 fl c3 rs A7 c7) (fun i _ => fl - (intOf i).toNat)
  case atStart => exact ⟨0, by omega, rfl, by first | exact HMut.out.drewN _ | exact (HMut.out.drewN _).drewN _⟩
  case round =>
    obtain ⟨j, hj, rfl, hmu⟩ := hrel
    have HM := Lib.hid hmu
    have hc41 := hmu.var.cell 1
    clear hmu
    by_cases hlt : j < fl
    · obtain ⟨L, hL, hrow⟩ := HM.out.body
      obtain ⟨gb, cs, z, rfl, hBg, hW, hcell, hfr⟩ := byte_at hrow hlt
      have HW := Lib.hid hW
      clear hrow hW hL
      go_wp2
      go_still_tail 10, (by kernel_rfl)
      change wpList _ _ _ _ _ wr.drew
      go_wp2
      go_roundw
      case rel => exact ⟨j + 1, by omega, by go_num, HM.out.drew.put HW.out hBg _⟩
      case measure => simp [intOf]; omega
    · go_wp2
      clear hc41
      go_loopw [18] (fun i wr => ∃ j : Nat, j ≤ rs.length ∧ i = .int .i64 j ∧ Mut w8 wr w2.heap.size V4 fk A3 fl c3 rs A7 c7) (fun i _ => rs.length - (intOf i).toNat)
      case atStart => exact ⟨0, by omega, rfl, HM.out⟩
      case round =>
        obtain ⟨i, hi, rfl, hmu⟩ := hrel
        have HMi := Lib.hid hmu
        clear hmu
        by_cases hil : i < rs.length
        · obtain ⟨m2, hm2⟩ : ∃ m2, rs[i].f.body.length = m2 := ⟨_, rfl⟩
          have hm2l : m2 ≤ 1048576 := by rw [← hm2]; exact HRL.out _ (List.getElem_mem hil)
          obtain ⟨ad, rfl, _, _⟩ := HMi.out.at_ hil
          go_wp2
          go_loopw [19] (fun i wr => ∃ j : Nat, j ≤ m2 ∧ i = .int .i64 j ∧ Mut w8 wr w2.heap.size V4 fk A3 fl c3 rs (some ad) c7) (fun i _ => m2 - (intOf i).toNat)
          case atStart => exact ⟨0, by omega, rfl, HMi.out⟩
          case round =>
            obtain ⟨j2, hj2, rfl, hmu⟩ := hrel
            have HMj := Lib.hid hmu
            clear hmu
            obtain ⟨ad2, e2, hc0, hc1⟩ := HMj.out.at_ hil
            obtain rfl := Option.some.inj e2
            rw [hm2] at hc1
            by_cases hlt2 : j2 < m2
            · obtain ⟨L, hL, hrow⟩ := HMj.out.bods _ (List.getElem_mem hil)
              rw [hm2] at hrow
              obtain ⟨gb, cs, z, hA, hBg, hW, hcell, hfr⟩ := byte_at hrow hlt2
              rw [hA] at hc1
              have HW := Lib.hid hW
              clear hrow hW hL hA
              generalize rs[i].c = x at *
              generalize rs[i].f.k = kk at *
              go_wp2
              go_still_tail 16, (by kernel_rfl)
              change wpList _ _ _ _ _ wr.drew
              go_wp2
              go_roundw
              case rel => exact ⟨j2 + 1, by omega, by go_num, HMj.out.drew.put HW.out hBg _⟩
              case measure => simp [intOf]; omega
            · generalize rs[i].A = Ar at *
              generalize rs[i].c = x at *
              generalize rs[i].f.k = kk at *
              go_wp2
              go_roundw
              case rel => exact ⟨i + 1, by omega, by go_num, HMj.out⟩
              case measure => simp [intOf]; omega
        · have hb := HMi.out.below
          have hbw := HB28.out.trans hb
          have hbf := belowGo HBB2.out (Nat.le_refl _) hbw
          have hw := HW2.out.go hbw
          have hrz := HR2.out.go hbw
          have HWF := Lib.hid hw
          have HRF := Lib.hid hrz
          have HBF := Lib.hid hbf
          have hk2 : ((M : Int) == (M : Int)) = true := by simp
          have ho := own_reads hw
          clear hb hbw hbf hw hrz
          go_wp2_with fail
          refine (fends_at (some ⟨g, 0, none⟩) zs n (n + 5) wr hn (by omega) (by omega) HZ.out ho).mono ?_
          rintro e w11 ⟨A11, c11, rfl, hrow11, hb11⟩
          have hr11 := HRF.out.go hb11
          go_wp2_with fail
          refine (refends_any A zs n c w11 hn (by omega) hc HZ.out hr11).mono ?_
          rintro e w12 ⟨A12, c12, rfl, hrow12, hb12⟩
          have hr12 := hr11.go hb12
          have hw12 := (HWF.out.go hb11).go hb12
          have hb13 := belowGo (belowGo HBF.out (Nat.le_refl _) hb11) (Nat.le_refl _) hb12
          have hi1 := Rds.ofOwn (own_below hrow11 hb12)
          have hi2 := Rds.ofOwn hrow12
          have hpl := HPLL.out
          clear hrow11 hrow12 hb11 hb12 hr11 ho
          generalize plc 0 (scn zs).1 = P at *
          go_wp2_with fail
          refine (sameInts_yes A11 A12 P P.length c11 c12 w12.heap.size w12 rfl (by omega) hi1 hi2).mono ?_
          rintro e w13 ⟨rfl, q13, rfl⟩
          go_wp2_with fail
          refine (kept_len A zs n c g w12.heap.size (w12.drewN q13) hn (by omega) (hr12.drewN _) (hw12.drewN _)).mono ?_
          rintro e w14 ⟨rfl, q14, rfl⟩
          go_wp2
          go_ret
          exact ⟨rfl, by first | exact below_drewN hb13 _ | exact below_drewN (below_drewN hb13 _) _⟩

open Go.ChangeShapes Go.WideShapes Go.ChangeAt
theorem freads_contract (H : Type) (enc : TypeId × Value → H) (W : World) (base : Nat) (args : Array Value) (ds gs : List (DataW H)) (before : List MemPlace)
    (hval0 : ∀ (j : Nat) t v, Try.f5.params[j]? = some t → args[j]? = some v → Value.okWide Try.prog W .any base t v)
    (hW : DataW.Whole enc Try.prog Try.f5.params.toList Rows.frameReadsSpec.vars false W args.toList ds gs before) (hk : Rows.uptoSmall H (ds ++ gs) = true) :
    Calls Try.prog 5 args W fun e W2 => ∃ v, e = .returned v ∧ Rows.frameReadsSpec.post enc Try.prog Try.f5 false true false false W args v W2 := by
  have hval : ∀ (j : Nat) t v, Try.f5.params[j]? = some t → args[j]? = some v → Value.okWide Try.prog W .any base t v := hval0
  have hW' := hW
  obtain ⟨p, q, hA0, hV, rfl, _, _⟩ := hW
  have hA : DataW.TrodAll enc Try.prog W 0 (fun _ => true) true Try.f5.params.toList args.toList ds p := hA0
  rw [Try.params5] at hA hval
  obtain ⟨rfl, rfl⟩ := trodVars_none hV
  obtain ⟨v0, vs0, d0, ds0, p0, q0, hargs, rfl, rfl, h0, r0⟩ := trodAll_cons hA
  obtain ⟨rfl, rfl, rfl⟩ := trodAll_nil r0
  obtain rfl : args = #[v0] := by cases args; simp_all
  have hbulk := upto_bound hk
  obtain ⟨A0, zs0, c0, hb0⟩ := open_bytes Try.underlying23 Try.underlying5 cells8 (hval 0 23 v0 rfl rfl) h0
  have hl0 : zs0.length ≤ 1048576 := hb0.bulk (upto_part hbulk (by simp))
  obtain rfl := hb0.val
  exact law_close laid rfl hW' (by kernel_rfl) rfl Try.underlying4 rfl (freads_walk A0 zs0 c0 W hl0 hb0.cap hb0.byt hb0.rds)

set_option maxRecDepth 100000 in
theorem freads_lifted (os : Os) (started : os.Started) (H : Type) (enc : TypeId × Value → H) (F : Stop.Interp) :
    ReturnsInHanded {} Try.checked os 5 .any ((Rows.OpenSpec.upto Rows.frameReadsSpec).pre6 enc Try.prog Try.f5 Rows.frameReadsUptoRow.domain false) (((Rows.OpenSpec.upto Rows.frameReadsSpec).at F).post enc Try.prog Try.f5 false true false false) := by
  refine returnsInHanded_of_cond (C := Try.checked) (s := Rows.OpenSpec.upto Rows.frameReadsSpec) (k := Rows.uptoSmall) rfl own started (by kernel_rfl) Try.func5
    (OpenSpec.witness (enc := enc) (C := Try.checked) (s := Rows.OpenSpec.upto Rows.frameReadsSpec) (k := Rows.uptoSmall) rfl false ⟨#[], #[.slice none 0 0], []⟩ 8 (by kernel_rfl) (by kernel_rfl) (by kernel_rfl)
      (x := ([.nil], [], [])) (by kernel_rfl) rfl (by kernel_rfl)) ?_
  intro W base args ds gs before hval hW _ hk _
  exact freads_contract H enc W base args ds gs before hval hW hk

theorem frameReads_holds : Rows.FrameReadsUptoSaid :=
  OpenClaim.holds_of_cond 5 Try.f5 rfl rfl rfl rfl rfl rfl rfl ⟨rfl, rfl, rfl, rfl, rfl⟩ rfl rfl rfl rfl rfl (by kernel_rfl) Try.func5 (by kernel_rfl)
    (of_decide_eq_true (by kernel_rfl)) (by unfold Func.isWrapper; first | (rw [if_pos (by decide +kernel)]; kernel_rfl) | (rw [if_neg (by decide +kernel)]; exact ⟨rfl, rfl⟩))
    (fun os started H enc _ F => freads_lifted os started H enc F)

#print axioms frameReads_holds

end Go.Proofs.Ytbmllljieoeihaa
