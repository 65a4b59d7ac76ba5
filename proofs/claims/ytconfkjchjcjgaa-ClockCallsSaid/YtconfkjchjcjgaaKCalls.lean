/- The statement that any course is judged, and any lease waited for, as the document says: for every course, node, drift and lease. -/
import Derived.Test.YtconfkjchjcjgaaKRes
namespace Go.Proofs.Ytconfkjchjcjgaa
open Go.RowKit
set_option linter.unusedVariables false

set_option maxHeartbeats 4000000 in
set_option maxRecDepth 100000 in
theorem kcalls_walk {A : Option Addr} {rs : List Ro} {n c : Nat} (node d l : Int) (w : World) (hn : rs.length = n) (hm : n ≤ 140737488351232) (hC : Course w w.heap.size A rs) :
    Calls Try.prog 4 #[.slice A n c, .int .i64 node, .int .i64 d, .int .i64 l] w fun e w' => e = .returned (.bool true) ∧ Below w.heap.size w w' := by
  have HC := Lib.hid hC
  have HN := Lib.hid hn
  clear hC hn
  go_enter Try.func4, Try.ntmps4
  go_wp2_with fail
  refine (lives_any w).mono ?_
  rintro e w1 ⟨rfl, hb1⟩
  have HB1 := Lib.hid hb1
  clear hb1
  have hC1 := HC.out.below HB1.out
  have cs := small_any (c := c) w1 HN.out hm hC1
  cases hs : smallB rs
  · rw [hs] at cs
    have CS := Lib.hid cs
    clear cs hC1 hs
    go_wp2_with fail
    refine CS.out.mono ?_
    rintro e w' ⟨rfl, rfl⟩
    go_wp2
    go_ret
    exact ⟨rfl, HB1.out⟩
  · rw [hs] at cs
    obtain ⟨h64, h200⟩ := smallB_iff.1 hs
    have CS := Lib.hid cs
    have CL := Lib.hid (lend_any (c := c) w1 HN.out (by have := HN.out; omega) h64 (hC1.more HB1.out.size))
    have H200 : n ≤ 200 := by have := HN.out; omega
    clear cs hC1 hs h64 h200
    go_wp2_with (go_at_call 20; refine CS.out.mono ?_; rintro e w' ⟨rfl, rfl⟩)
    refine CL.out.mono ?_
    rintro e w2 ⟨A', c', rs', rfl, hl', hx', hC2, hb2⟩
    have CK := Lib.hid (keepX_any (node := node) (d := d) (c := c') w2 hl' H200 hC2 hx')
    have HB2 := Lib.hid (HB1.out.trans (hb2.mono HB1.out.size))
    clear hl' hx' hC2 hb2 CL CS
    go_wp2_with fail
    refine CK.out.mono ?_
    rintro e w3 ⟨rfl, hb3⟩
    have HB3 := Lib.hid (HB2.out.trans (hb3.mono HB2.out.size))
    have CR := Lib.hid (refX_any (node := node) (d := d) (c := c) w3 HN.out H200 ((HC.out.below HB3.out).more HB3.out.size) rfl)
    clear hb3 CK
    generalize resX (rs.map Ro.xs) node d = x at *
    generalize errX (rs.map Ro.xs) node d = y at *
    go_wp2_with fail
    refine CR.out.mono ?_
    rintro e w4 ⟨rfl, hb4⟩
    have HB4 := Lib.hid (HB3.out.trans (hb4.mono HB3.out.size))
    have cw1 := Lib.hid (waitX_any l d w4)
    have cw2 := Lib.hid (refWaitX_any l d w4)
    clear hb4 CR
    generalize waitR l d = z at *
    generalize waitE l d = u at *
    go_wp2_with (first | (go_at_call 10; refine cw1.out.mono ?_; rintro e w' ⟨rfl, rfl⟩) | (go_at_call 23; refine cw2.out.mono ?_; rintro e w' ⟨rfl, rfl⟩))
    go_ret
    exact ⟨by simp, HB4.out⟩

open Go.ChangeShapes Go.WideShapes Go.ChangeAt
set_option maxRecDepth 100000 in
theorem kcalls_lifted (os : Os) (started : os.Started) (H : Type) (enc : TypeId × Value → H) :
    ReturnsInHanded {} Try.checked os 4 .any (Rows.clockCallsSpec.pre6 enc Try.prog Try.f4 Rows.clockCallsRow.domain false) (Rows.clockCallsSpec.post enc Try.prog Try.f4 false true false false) := by
  refine returnsInHanded_of_change_sized (C := Try.checked) own started (by kernel_rfl) Try.func4
    (ChangeSpec.witness6 (enc := enc) (C := Try.checked) false ⟨#[], #[.slice none 0 0, .int .i64 0, .int .i64 0, .int .i64 0], []⟩ 8 (by kernel_rfl) (by kernel_rfl) (by kernel_rfl) (by kernel_rfl)) ?_
  intro W base args ds gs before hval0 hW _ hsz0 _
  have hsz : (DataW.weightsEach Try.prog (Try.f4.params.toList ++ Rows.clockCallsSpec.plain.varTypes Try.prog) (ds ++ gs)).all (· ≤ reachBytes) = true := hsz0
  have hval : ∀ (j : Nat) t v, Try.f4.params[j]? = some t → args[j]? = some v → Value.okWide Try.prog W .any base t v := hval0
  have hW' := hW
  obtain ⟨p, q, hA0, hV, rfl, _, _⟩ := hW
  have hA : DataW.TrodAll enc Try.prog W 0 (fun _ => true) true Try.f4.params.toList args.toList ds p := hA0
  rw [Try.params4] at hA hval hsz
  obtain ⟨v0, vs0, d0, ds0, p0, q0, hargs, rfl, rfl, h0, r0⟩ := trodAll_cons hA
  obtain ⟨v1, vs1, d1, ds1, p1, q1, rfl, rfl, rfl, h1, r1⟩ := trodAll_cons r0
  obtain ⟨v2, vs2, d2, ds2, p2, q2, rfl, rfl, rfl, h2, r2⟩ := trodAll_cons r1
  obtain ⟨v3, vs3, d3, ds3, p3, q3, rfl, rfl, rfl, h3, r3⟩ := trodAll_cons r2
  obtain ⟨rfl, rfl, rfl⟩ := trodAll_nil r3
  obtain rfl : args = #[v0, v1, v2, v3] := by cases args; simp_all
  obtain ⟨A0, rs0, c0, hc0⟩ := open_course (hval 0 28 v0 rfl rfl) h0 (sized_mem hsz (j := 0) (t := 28) rfl rfl)
  obtain rfl := hc0.val
  obtain ⟨a1, rfl, rfl, rfl, w1⟩ := open_int Try.underlying3 (hval 1 3 v1 rfl rfl) h1
  have b1 := bounds_i64 w1
  obtain ⟨a2, rfl, rfl, rfl, w2⟩ := open_int Try.underlying3 (hval 2 3 v2 rfl rfl) h2
  have b2 := bounds_i64 w2
  obtain ⟨a3, rfl, rfl, rfl, w3⟩ := open_int Try.underlying3 (hval 3 3 v3 rfl rfl) h3
  have b3 := bounds_i64 w3
  exact law_close laid rfl hW' (by kernel_rfl) rfl Try.underlying4 rfl (kcalls_walk a1 a2 a3 W rfl hc0.len hc0.course)

theorem clockCalls_holds : Rows.ClockCallsSaid :=
  OpenClaim.holds_of_wide 4 Try.f4 rfl rfl rfl rfl rfl rfl rfl ⟨rfl, rfl, rfl, rfl, rfl⟩ rfl rfl rfl rfl rfl (by kernel_rfl) Try.func4 (by kernel_rfl)
    (of_decide_eq_true (by kernel_rfl)) (by unfold Func.isWrapper; first | (rw [if_pos (by decide +kernel)]; kernel_rfl) | (rw [if_neg (by decide +kernel)]; exact ⟨rfl, rfl⟩))
    (fun os started H enc _ => kcalls_lifted os started H enc)

#print axioms clockCalls_holds
end Go.Proofs.Ytconfkjchjcjgaa
