/- The statement of the chapter's worked examples: they come out as they are written. -/
import Derived.Test.YtconfkjchjcjgaaKRes
namespace Go.Proofs.Ytconfkjchjcjgaa
open Go.RowKit
set_option linter.unusedVariables false

set_option maxHeartbeats 2000000 in
set_option maxRecDepth 100000 in
theorem one_any {A : Option Addr} {xs : List Int} {n c : Nat} (w : World) (hn : xs.length = n) (hm : n ≤ 200) (hi64 : I64 xs) (hr : Rds w w.heap.size A (cI xs)) :
    Calls Try.prog 12 #[.slice A n c] w fun e w' => ∃ A' c' rs', e = .returned (.slice A' n c') ∧ rs'.length = n ∧ rs'.map Ro.xs = xs.map (fun x => [x]) ∧ Course w' w'.heap.size A' rs' ∧ Below w.heap.size w w' := by
  obtain ⟨j0, hj, hy0, hy1, hy2⟩ := info_parts infoRow
  have HN := Lib.hid hn
  clear hn
  go_enter Try.func12, Try.ntmps12
  go_wp2
  go_loopw [3, 4] (fun v i wr => ∃ (k : Nat) (rs' : List Ro), k ≤ n ∧ i = .int .i64 k ∧ rs'.length = k ∧ rs'.map Ro.xs = (xs.take k).map (fun x => [x]) ∧ wr.ownsRow w.heap.size 61 1 v k (rs'.map Ro.v) ∧ Owned w.heap.size wr rs' ∧ Below w.heap.size w wr) (fun _ i _ => n - (intOf i).toNat)
  case atStart => exact ⟨0, [], by omega, rfl, rfl, by simp, ⟨rfl, .inl ⟨rfl, rfl⟩⟩, fun r hr => (by cases hr), Below.refl _ _⟩
  case round =>
    obtain ⟨k, rs', hk, rfl, hl', hx', hown, hrs', hbk⟩ := hrel
    have HL' := Lib.hid hl'
    have HX' := Lib.hid hx'
    have HRS := Lib.hid hrs'
    by_cases hlt : k < n
    · have hkx : k < xs.length := by have := HN.out; omega
      obtain ⟨ad, rfl, hlad, hcell⟩ := (hr.below hbk).at_ (cI_get hkx)
      have HK := Lib.hid (show (xs.take (k + 1)).map (fun x => [x]) = (xs.take k).map (fun x => [x]) ++ [[xs[k]]] by rw [List.take_succ_eq_append_getElem hkx, List.map_append]; rfl)
      generalize xs[k] = x at *
      clear hl' hx' hrs'
      have hx0 := Whole.new wr 3 #[.int .i64 x]
      have hrow0 : (wr.alloc (.cells #[.int .i64 x] 3)).ownsRow wr.heap.size 3 1 (.slice (some ⟨wr.heap.size, 0, none⟩) 1 1) 1 (cI [x]) := ⟨rfl, .inr ⟨wr.heap.size, 1, _, rfl, Nat.le_refl _, hx0, Nat.le_refl _, by unfold maxLen; omega, rfl, rfl⟩⟩
      have hb2 : Below wr.heap.size (wr.alloc (.cells #[.int .i64 x] 3)) (wr.alloc (.cells #[.int .i64 x] 3)) := Below.refl _ _
      have HO2 := Lib.hid (lend_kept hown hb2)
      have HR0 := Lib.hid hrow0
      have HRS2 : Hid (Owned w.heap.size (wr.alloc (.cells #[.int .i64 x] 3)) rs') := Lib.hid fun r hr => lend_kept (HRS.out r hr) hb2
      obtain ⟨A0, q0, rfl, -⟩ := own_open hown
      clear hx0 hrow0 hown hr
      go_wp2_with (at_builtin; go_loud (refine app_oneg _ rfl (.tmp 11) (.tmp 17) 28 rfl w.heap.size 61 j0 (.slice none 0 0) 24 Try.underlying28 hj hy0 hy1 hy2 rfl (.slice A0 k q0) k _ rfl HO2.out (.slice (some ⟨wr.heap.size, 0, none⟩) 1 1) (by rw [World.size_alloc]; rfl) rfl (by unfold maxLen; omega) (by omega) (by have := hbk.size; simp; omega) ?_); intro v3 w3 hown3 hg3)
      have hb3 : Below w.heap.size w w3 := lend_below hbk hb2 hg3 HO2.out
      have hrx : w3.ownsRow w.heap.size 3 1 (.slice (some ⟨wr.heap.size, 0, none⟩) 1 1) 1 (cI [x]) := own_far (by decide) ((lend_base HR0.out hbk.size).alloc _) (HO2.out.alloc _) hg3
      have hrs3 : Owned w.heap.size w3 rs' := fun r hr => own_far (by decide) ((HRS2.out r hr).alloc _) (HO2.out.alloc _) hg3
      refine ⟨⟨k + 1, rs' ++ [⟨some ⟨wr.heap.size, 0, none⟩, [x], 1⟩], by omega, by go_num, by simp [HL'.out], ?_, ?_, fun r hr => ?_, hb3⟩, by simp [intOf]; omega⟩
      · rw [HK.out, List.map_append, HX'.out]
        rfl
      · rw [List.map_append]
        exact hown3
      · rcases List.mem_append.1 hr with hr | hr
        · exact hrs3 r hr
        · rw [List.mem_singleton.1 hr]
          exact hrx
    · obtain rfl : k = n := by omega
      have hx := HX'.out
      rw [List.take_of_length_le (by rw [HN.out]; exact Nat.le_refl _)] at hx
      have HXX := Lib.hid hx
      obtain ⟨A0, q0, rfl, hrd, -⟩ := own_open hown
      have HRD := Lib.hid hrd
      clear hx hrd hown hrs' hx' hl'
      go_wp2
      go_ret
      refine ⟨A0, q0, rs', rfl, HL'.out, HXX.out, ⟨HRD.out, fun r hr => Rds.ofOwn (HRS.out r hr), ?_, ?_, fun r hr e => ?_⟩, hbk⟩
      · intro r hr
        obtain ⟨x, hx, e⟩ := List.mem_map.1 (show r.xs ∈ xs.map (fun x => [x]) by rw [← HXX.out]; exact List.mem_map_of_mem hr)
        rw [← e]
        intro z hz
        rw [List.mem_singleton.1 hz]
        exact hi64 x hx
      · intro r hr
        obtain ⟨x, hx, e⟩ := List.mem_map.1 (show r.xs ∈ xs.map (fun x => [x]) by rw [← HXX.out]; exact List.mem_map_of_mem hr)
        rw [← e]
        show 1 ≤ 140737488351232
        omega
      · have h1 := (HRS.out r hr).2
        unfold Ro.v at h1
        rcases h1 with ⟨h1, _⟩ | ⟨g, cap, cur, h1, _⟩
        · injection h1
        · injection h1 with h1
          rw [e] at h1
          cases h1

def nA : ByteArray := ⟨#[97]⟩
def nB : ByteArray := ⟨#[98]⟩
theorem ls1 : setL [] ⟨nA, 0 + 5⟩ = [⟨nA, 5⟩] := by decide +kernel
theorem ls2 : setL [⟨nA, 5⟩] ⟨nB, 0 + 5⟩ = [⟨nA, 5⟩, ⟨nB, 5⟩] := by decide +kernel
theorem ls3 : setL [⟨nA, 5⟩, ⟨nB, 5⟩] ⟨nA, 0 + 3⟩ = [⟨nA, 3⟩, ⟨nB, 5⟩] := by decide +kernel
theorem ls4 : due (0 + 2) [⟨nA, 3⟩, ⟨nB, 5⟩] = [] ∧ rest (0 + 2) [⟨nA, 3⟩, ⟨nB, 5⟩] = [⟨nA, 3⟩, ⟨nB, 5⟩] := by decide +kernel
theorem ls5 : due (0 + 2 + 3) [⟨nA, 3⟩, ⟨nB, 5⟩] = [⟨nA, 3⟩, ⟨nB, 5⟩] ∧ rest (0 + 2 + 3) [⟨nA, 3⟩, ⟨nB, 5⟩] = [] := by decide +kernel

set_option maxHeartbeats 8000000 in
set_option maxRecDepth 100000 in
theorem knames_walk (w : World) : Calls Try.prog 3 #[] w fun e w' => e = .returned (.bool true) ∧ Below w.heap.size w w' := by
  go_enter Try.func3, Try.ntmps3
  go_wp2_with fail
  refine (lives_any w).mono ?_
  rintro e w1 ⟨rfl, hb1⟩
  have HB1 := Lib.hid hb1
  have cw := Lib.hid (waitBad_any (l := 0) (d := 0) (by unfold WaitFits; omega) w1)
  clear hb1
  go_wp2_with fail
  refine cw.out.mono ?_
  rintro e w' ⟨rfl, rfl⟩
  have h5 := Whole.new w1 3 #[.int .i64 1, .int .i64 0, .int .i64 0, .int .i64 0, .int .i64 1]
  have c5 := Lib.hid (one_any (xs := [1, 0, 0, 0, 1]) (n := 5) (c := 5) _ rfl (by omega) (by intro z hz; simp at hz; omega) (whole_rds h5 (by simp) rfl))
  have HB2 := Lib.hid (HB1.out.alloc HB1.out.size (.cells #[.int .i64 1, .int .i64 0, .int .i64 0, .int .i64 0, .int .i64 1] 3))
  clear h5
  go_wp2_with fail
  refine c5.out.mono ?_
  rintro e w3 ⟨A', c', rs', rfl, hl', hx', hC, hb3⟩
  have HB3 := Lib.hid (HB2.out.trans (hb3.mono HB2.out.size))
  have ck := keepX_any (node := 0) (d := 0) (c := c') w3 hl' (by omega) hC hx'
  rw [(resX_yes (X := [1, 0, 0, 0, 1].map (fun x => [x])) (node := 0) (d := 0) ⟨by omega, by omega, by rfl⟩).1, (resX_yes (X := [1, 0, 0, 0, 1].map (fun x => [x])) (node := 0) (d := 0) ⟨by omega, by omega, by rfl⟩).2, kpB_C, show kpC 0 (ownX (0 : Int).toNat ([1, 0, 0, 0, 1].map (fun x => [x]))) = false by decide +kernel] at ck
  have CK := Lib.hid ck
  clear hl' hx' hC hb3 ck c5
  go_wp2_with fail
  refine CK.out.mono ?_
  rintro e w4 ⟨rfl, hb4⟩
  have HB4 := Lib.hid (HB3.out.trans (hb4.mono HB3.out.size))
  clear hb4 CK
  have h5 := Whole.new w4 3 #[.int .i64 1, .int .i64 0, .int .i64 0, .int .i64 1]
  have c5 := Lib.hid (one_any (xs := [1, 0, 0, 1]) (n := 4) (c := 4) _ rfl (by omega) (by intro z hz; simp at hz; omega) (whole_rds h5 (by simp) rfl))
  have HB5 := Lib.hid (HB4.out.alloc HB4.out.size (.cells #[.int .i64 1, .int .i64 0, .int .i64 0, .int .i64 1] 3))
  clear h5
  go_wp2_with fail
  refine c5.out.mono ?_
  rintro e w6 ⟨A', c', rs', rfl, hl', hx', hC, hb6⟩
  have HB6 := Lib.hid (HB5.out.trans (hb6.mono HB5.out.size))
  have ck := keepX_any (node := 0) (d := 0) (c := c') w6 hl' (by omega) hC hx'
  rw [(resX_yes (X := [1, 0, 0, 1].map (fun x => [x])) (node := 0) (d := 0) ⟨by omega, by omega, by rfl⟩).1, (resX_yes (X := [1, 0, 0, 1].map (fun x => [x])) (node := 0) (d := 0) ⟨by omega, by omega, by rfl⟩).2, kpB_C, show kpC 0 (ownX (0 : Int).toNat ([1, 0, 0, 1].map (fun x => [x]))) = true by decide +kernel] at ck
  have CK := Lib.hid ck
  clear hl' hx' hC hb6 ck c5
  go_wp2_with fail
  refine CK.out.mono ?_
  rintro e w7 ⟨rfl, hb7⟩
  have HB7 := Lib.hid (HB6.out.trans (hb7.mono HB6.out.size))
  clear hb7 CK
  go_wp2_with fail
  refine (at_new (w0 := w) HB7.out).mono ?_
  rintro e w8 ⟨b, rfl, h8⟩
  have c1 := at_set h8 (s := nA) (t := 5) (by decide) (by rw [Lib.toList_data]; rfl) (by omega) (by omega) (by omega)
  rw [ls1] at c1
  have C1 := Lib.hid c1
  clear h8 c1
  go_wp2_with fail
  refine C1.out.mono ?_
  rintro e w9 ⟨rfl, h9⟩
  have c1 := at_set h9 (s := nB) (t := 5) (by decide) (by rw [Lib.toList_data]; rfl) (by omega) (by omega) (by omega)
  rw [ls2] at c1
  have C1 := Lib.hid c1
  clear h9 c1
  go_wp2_with fail
  refine C1.out.mono ?_
  rintro e w10 ⟨rfl, h10⟩
  have c1 := at_set h10 (s := nA) (t := 3) (by decide) (by rw [Lib.toList_data]; rfl) (by omega) (by omega) (by omega)
  rw [ls3] at c1
  have C1 := Lib.hid c1
  clear h10 c1
  go_wp2_with fail
  refine C1.out.mono ?_
  rintro e w11 ⟨rfl, h11⟩
  have c1 := at_tick h11 (by omega) (by omega) (t := 2) (by omega)
  rw [ls4.1, ls4.2] at c1
  have C1 := Lib.hid c1
  clear h11 c1
  go_wp2_with fail
  refine C1.out.mono ?_
  rintro e w12 ⟨A2, n2, q2, rfl, hn2, -, h12⟩
  obtain rfl : n2 = 0 := hn2
  have c1 := at_tick h12 (by omega) (by omega) (t := 3) (by omega)
  rw [ls5.1, ls5.2] at c1
  have C1 := Lib.hid c1
  clear h12 c1
  go_wp2_with fail
  refine C1.out.mono ?_
  rintro e w13 ⟨A3, n3, q3, rfl, hn3, hr3, h13⟩
  obtain rfl : n3 = 2 := hn3
  have H13 := Lib.hid h13
  rw [cT_cS] at hr3
  have HR3 := Lib.hid hr3
  have C1 := Lib.hid (at_leftNo h13 (s := nA) (by decide) rfl)
  clear h13 hr3
  go_wp2_with fail
  refine C1.out.mono ?_
  rintro e w' ⟨rfl, rfl⟩
  have hw := Whole.new w13 9 #[.string nA, .string nB]
  have hr5 : Rds (w13.alloc (.cells #[.string nA, .string nB] 9)) (w13.heap.size + 1) (some ⟨w13.heap.size, 0, none⟩) (cS ([⟨nA, 3⟩, ⟨nB, 5⟩].map fun x : It => lst x.nm)) := whole_rds hw (by omega) (by rw [← cT_cS]; rfl)
  have cs := sameTexts_any A3 (some ⟨w13.heap.size, 0, none⟩) _ _ 2 2 q3 2 (w13.heap.size + 1) (w13.alloc (.cells #[.string nA, .string nB] 9)) rfl rfl (by omega) (by omega) ((HR3.out.alloc (Nat.le_refl _) _).more (Nat.le_succ _)) hr5
  rw [show sameT ([⟨nA, 3⟩, ⟨nB, 5⟩].map fun x : It => lst x.nm) ([⟨nA, 3⟩, ⟨nB, 5⟩].map fun x : It => lst x.nm) = true from decide_eq_true rfl] at cs
  have CS := Lib.hid cs
  clear hw hr5 cs C1
  unfold nA nB at CS
  go_wp2_with fail
  refine CS.out.mono ?_
  rintro e w14 ⟨rfl, k, hk⟩
  have hb14 : Below w13.heap.size w13 w14 := by rw [hk]; exact bDrewN ((Below.refl _ w13).alloc (Nat.le_refl _) _) k
  have h14 := H13.out.go hb14
  have H14 := Lib.hid h14
  have C1 := Lib.hid (at_now h14)
  have C2 := Lib.hid (at_dropNo h14 (s := ⟨#[97]⟩) (by decide) rfl)
  have C3 := Lib.hid (at_setBad h14 (s := ⟨#[97]⟩) (t := 0) (.inl (.inl (by omega))))
  clear hb14 h14 hk CS
  go_wp2_with (first
    | (go_at_call 18; refine C1.out.mono ?_; rintro e w' ⟨rfl, rfl⟩)
    | (go_at_call 19; refine C2.out.mono ?_; rintro e w' ⟨rfl, rfl⟩)
    | (go_at_call 14; refine C3.out.mono ?_; rintro e w' ⟨rfl, rfl⟩))
  go_ret
  exact ⟨rfl, H14.out.below⟩
open Go.ChangeShapes Go.WideShapes Go.ChangeAt
set_option maxRecDepth 100000 in
theorem knames_lifted (os : Os) (started : os.Started) (H : Type) (enc : TypeId × Value → H) :
    ReturnsInHanded {} Try.checked os 3 .any (Rows.clockNamesSpec.pre6 enc Try.prog Try.f3 Rows.clockNamesRow.domain false) (Rows.clockNamesSpec.post enc Try.prog Try.f3 false true false false) := by
  refine returnsInHanded_of_change_sized (C := Try.checked) own started (by kernel_rfl) Try.func3
    (ChangeSpec.witness6 (enc := enc) (C := Try.checked) false ⟨#[], #[], []⟩ 8 (by kernel_rfl) (by kernel_rfl) (by kernel_rfl) (by kernel_rfl)) ?_
  intro W base args ds gs before hval0 hW _ hsz0 _
  have hsz : (DataW.weightsEach Try.prog (Try.f3.params.toList ++ Rows.clockNamesSpec.plain.varTypes Try.prog) (ds ++ gs)).all (· ≤ reachBytes) = true := hsz0
  have hval : ∀ (j : Nat) t v, Try.f3.params[j]? = some t → args[j]? = some v → Value.okWide Try.prog W .any base t v := hval0
  have hW' := hW
  obtain ⟨p, q, hA0, hV, rfl, _, _⟩ := hW
  have hA : DataW.TrodAll enc Try.prog W 0 (fun _ => true) true Try.f3.params.toList args.toList ds p := hA0
  rw [Try.params3] at hA hval hsz
  obtain ⟨hargs, rfl, rfl⟩ := trodAll_nil hA
  obtain rfl : args = #[] := by cases args; simp_all
  exact law_close laid rfl hW' (by kernel_rfl) rfl Try.underlying4 rfl (knames_walk W)

theorem clockNames_holds : Rows.ClockNamesSaid :=
  OpenClaim.holds_of_wide 3 Try.f3 rfl rfl rfl rfl rfl rfl rfl ⟨rfl, rfl, rfl, rfl, rfl⟩ rfl rfl rfl rfl rfl (by kernel_rfl) Try.func3 (by kernel_rfl)
    (of_decide_eq_true (by kernel_rfl)) (by unfold Func.isWrapper; first | (rw [if_pos (by decide +kernel)]; kernel_rfl) | (rw [if_neg (by decide +kernel)]; exact ⟨rfl, rfl⟩))
    (fun os started H enc _ => knames_lifted os started H enc)

#print axioms clockNames_holds
end Go.Proofs.Ytconfkjchjcjgaa
