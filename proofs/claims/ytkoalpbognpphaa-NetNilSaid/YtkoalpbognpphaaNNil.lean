/- The statement on nets that are not there: nil, or ones that nobody made. -/
import Derived.Test.YtkoalpbognpphaaNOpen
import Derived.Test.YtkoalpbognpphaaNNob
namespace Go.Proofs.Ytkoalpbognpphaa
open Go.RowKit Go.Maps
set_option linter.unusedVariables false

/-- what stands at the two nets, behind a call that they refused -/
structure NilAt7 (w0 w : World) (a g : Nat) (r : Ac7) : Prop where
  wa : Whole w a 45 (ac7Cells r)
  wd : Whole w g 57 #[.pointer none, .int .u64 0, .map none]
  wl : Whole w (g + 1) 23 #[.pointer none, .pointer (some ⟨g, 0, none⟩)]
  below : Below w0.heap.size w0 w
theorem NilAt7.go {w0 w w' : World} {a g : Nat} {r : Ac7} (h : NilAt7 w0 w a g r) (hb : Below w.heap.size w w') : NilAt7 w0 w' a g r :=
  ⟨h.wa.below hb h.wa.lt, h.wd.below hb h.wd.lt, h.wl.below hb h.wl.lt, h.below.trans (hb.mono h.below.size)⟩
theorem NilAt7.nob {w0 w : World} {a g : Nat} {r : Ac7} (h : NilAt7 w0 w a g r) {p : Option Addr} (hp : p = none ∨ p = some ⟨g, 0, none⟩) : Nob w p := by
  rcases hp with rfl | rfl
  · exact .inl rfl
  · exact .inr ⟨g, 0, _, rfl, h.wd⟩
theorem ac7_cells {w : World} {a : Nat} {r : Ac7} (h : Whole w a 45 (ac7Cells r)) : w.cell? ⟨a, 0, none⟩ = some (.int .i64 r.kd) ∧ w.cell? ⟨a, 1, none⟩ = some (.int .i64 r.frm) ∧ w.cell? ⟨a, 2, none⟩ = some (.int .i64 r.to_) ∧ w.cell? ⟨a, 3, none⟩ = some (.slice r.A r.L r.c) ∧ w.cell? ⟨a, 4, none⟩ = some (.int .u64 r.n) :=
  ⟨by simpa [ac7Cells] using h.cell 0, by simpa [ac7Cells] using h.cell 1, by simpa [ac7Cells] using h.cell 2, by simpa [ac7Cells] using h.cell 3, by simpa [ac7Cells] using h.cell 4⟩
def zeroNet : Array Value := #[.pointer none, .int .u64 0, .map none]
theorem same_zero (w : World) : Calls Try.prog 20 #[.agg #[.int .u64 0, .int .u64 0, .int .i64 0, .int .i64 0, .slice none 0 0], .agg #[.int .u64 0, .int .u64 0, .int .i64 0, .int .i64 0, .slice none 0 0]] w fun e w' => e = .returned (.bool true) ∧ Below w.heap.size w w' :=
  same_any (x := le0) (y := le0) (k := (none, 0)) (k' := (none, 0)) Rds.nil_ Rds.nil_ (by decide) (by decide)

set_option maxHeartbeats 8000000 in
set_option maxRecDepth 100000 in
theorem nnil_walk (r : Ac7) (w : World) : Calls Try.prog 5 #[.agg (ac7Cells r)] w fun e w' => e = .returned (.bool true) ∧ Below w.heap.size w w' := by
  have h0 : NilAt7 w (((w.alloc (.cells (ac7Cells r) 45)).alloc (.cells zeroNet 57)).alloc (.cells #[.pointer none, .pointer (some ⟨w.heap.size + 1, 0, none⟩)] 23)) w.heap.size (w.heap.size + 1) r := by
    refine ⟨((Whole.new _ _ _).alloc _).alloc _, ?_, ?_, (((Below.refl _ _).alloc (Nat.le_refl _) _).alloc (by simp) _).alloc (by simp; omega) _⟩
    · have := (Whole.new (w.alloc (.cells (ac7Cells r) 45)) 57 zeroNet).alloc (.cells #[.pointer none, .pointer (some ⟨w.heap.size + 1, 0, none⟩)] 23)
      simpa [zeroNet] using this
    · have := Whole.new ((w.alloc (.cells (ac7Cells r) 45)).alloc (.cells zeroNet 57)) 23 #[.pointer none, .pointer (some ⟨w.heap.size + 1, 0, none⟩)]
      simpa using this
  have H0 := Lib.hid h0
  clear h0
  simp only [ac7Cells, zeroNet] at H0 ⊢
  go_enter Try.func5, Try.ntmps5
  go_upto_region 2 with fail
  generalize (((w.alloc (.cells #[.int .i64 r.kd, .int .i64 r.frm, .int .i64 r.to_, .slice r.A r.L r.c, .int .u64 r.n] 45)).alloc (.cells #[.pointer none, .int .u64 0, .map none] 57)).alloc (.cells #[.pointer none, .pointer (some ⟨w.heap.size + 1, 0, none⟩)] 23)) = W at H0 ⊢
  generalize hg : w.heap.size + 1 = g at H0 ⊢
  go_wp2
  go_loopw [4] (fun i wr => ∃ k : Nat, k ≤ 2 ∧ i = .int .i64 k ∧ NilAt7 w wr w.heap.size g r) (fun i _ => 2 - (intOf i).toNat)
  case atStart => exact ⟨0, by omega, rfl, H0.out⟩
  case round =>
    obtain ⟨k, hk, rfl, N0⟩ := hrel
    by_cases hlt : k < 2
    · obtain ⟨p, hpc, hp⟩ : ∃ p, wr.cell? ⟨g + 1, k, none⟩ = some (.pointer p) ∧ (p = none ∨ p = some ⟨g, 0, none⟩) := by
        have hk2 : k = 0 ∨ k = 1 := by omega
        rcases hk2 with rfl | rfl
        · exact ⟨none, N0.wl.cell 0, .inl rfl⟩
        · exact ⟨some ⟨g, 0, none⟩, N0.wl.cell 1, .inr rfl⟩
      have hklt : (k : Int) < 2 := by omega
      obtain ⟨a0, a1, a2, a3, a4⟩ := ac7_cells N0.wa
      have N := Lib.hid N0
      have HP := Lib.hid hp
      clear N0 hp
      go_wp2_with fail
      refine (nobSend_any _ _ _ (N.out.nob HP.out)).mono ?_
      rintro e v1 ⟨rfl, hv⟩
      rw [hv]
      clear hv
      go_wp2_with fail
      refine (nobDeliver_any _ (N.out.nob HP.out)).mono ?_
      rintro e v2 ⟨rfl, hb⟩
      simp only [zeroL]
      have N2 := N.out.go hb
      have N4 := N2.go (newL_below v2)
      have hx := newL_whole v2
      have HX := Lib.hid hx
      clear hb N2 hx a0 a1 a2 a3 a4
      have NX := Lib.hid N4
      clear N4
      go_upto_region 8 with fail
      change Code.wp _ _ _ _ (newL v2)
      generalize newL v2 = v3 at HX NX ⊢
      generalize v2.heap.size = x at HX ⊢
      obtain ⟨a0, a1, a2, a3, a4⟩ := ac7_cells NX.out.wa
      go_wp2_with fail
      refine (nobDouble_any _ (NX.out.nob HP.out)).mono ?_
      rintro e v4 ⟨rfl, hb⟩
      have N5 := Lib.hid (NX.out.go hb)
      have HX5 := Lib.hid (HX.out.below hb HX.out.lt)
      clear hb a0 a1 a2 a3 a4 NX HX N
      obtain ⟨a0, a1, a2, a3, a4⟩ := ac7_cells N5.out.wa
      go_wp2_with fail
      refine (nobClear_any _ (N5.out.nob HP.out)).mono ?_
      rintro e v5 ⟨rfl, hv⟩
      rw [hv]
      clear hv
      obtain ⟨c0, c1, c2, c3, c4⟩ := cells5 HX5.out
      go_wp2_with fail
      refine (same_zero _).mono ?_
      rintro e v6 ⟨rfl, hb⟩
      have N6 := Lib.hid (N5.out.go hb)
      clear hb a0 a1 a2 a3 a4 N5 HX5 c0 c1 c2 c3 c4
      obtain ⟨a0, a1, a2, a3, a4⟩ := ac7_cells N6.out.wa
      go_wp2_with fail
      refine (nobLose_any _ (N6.out.nob HP.out)).mono ?_
      rintro e v7 ⟨rfl, hb⟩
      have N7 := Lib.hid (N6.out.go hb)
      clear hb a0 a1 a2 a3 a4 N6
      obtain ⟨a0, a1, a2, a3, a4⟩ := ac7_cells N7.out.wa
      go_wp2_with fail
      refine (nobFlight_any (N7.out.nob HP.out)).mono ?_
      rintro e v8 ⟨rfl, hv⟩
      rw [hv]
      clear hv
      go_wp2_with fail
      refine (nobTo_any _ (N7.out.nob HP.out)).mono ?_
      rintro e v9 ⟨rfl, hv⟩
      rw [hv]
      clear hv
      go_wp2_with fail
      refine (nobSent_any (N7.out.nob HP.out)).mono ?_
      rintro e v10 ⟨rfl, hv⟩
      rw [hv]
      clear hv
      go_wp2
      go_roundw
      case rel => exact ⟨k + 1, by omega, by go_num, N7.out⟩
      case measure => simp [intOf]; omega
    · obtain rfl : k = 2 := by omega
      go_wp2_with fail
      refine (lives_any wr).mono ?_
      rintro e w9 ⟨rfl, hb9⟩
      have hbf := N0.below.trans (hb9.mono N0.below.size)
      clear hb9 N0
      go_wp2
      go_returns
      exact ⟨by simp, hbf⟩

open Go.ChangeShapes Go.WideShapes Go.ChangeAt
set_option maxRecDepth 100000 in
theorem nnil_lifted (os : Os) (started : os.Started) (H : Type) (enc : TypeId × Value → H) :
    ReturnsInHanded {} Try.checked os 5 .any (Rows.netNilSpec.pre6 enc Try.prog Try.f5 Rows.netNilRow.domain false) (Rows.netNilSpec.post enc Try.prog Try.f5 false true false false) := by
  refine returnsInHanded_of_change_sized (C := Try.checked) own started (by kernel_rfl) Try.func5
    (ChangeSpec.witness6 (enc := enc) (C := Try.checked) false ⟨#[], #[.agg #[.int .i64 0, .int .i64 0, .int .i64 0, .slice none 0 0, .int .u64 0]], []⟩ 8 (by kernel_rfl) (by kernel_rfl) (by kernel_rfl) (by kernel_rfl)) ?_
  intro W base args ds gs before hval0 hW _ hsz0 _
  have hsz : (DataW.weightsEach Try.prog (Try.f5.params.toList ++ Rows.netNilSpec.plain.varTypes Try.prog) (ds ++ gs)).all (· ≤ reachBytes) = true := hsz0
  have hval : ∀ (j : Nat) t v, Try.f5.params[j]? = some t → args[j]? = some v → Value.okWide Try.prog W .any base t v := hval0
  have hW' := hW
  obtain ⟨p, q, hA0, hV, rfl, _, _⟩ := hW
  have hA : DataW.TrodAll enc Try.prog W 0 (fun _ => true) true Try.f5.params.toList args.toList ds p := hA0
  rw [Try.params5] at hA hval hsz
  obtain ⟨v0, vs0, d0, ds0, p0, q0, hargs, rfl, rfl, h0, r0⟩ := trodAll_cons hA
  obtain ⟨rfl, rfl, rfl⟩ := trodAll_nil r0
  obtain rfl : args = #[v0] := by cases args; simp_all
  obtain ⟨x0, hx0, ha0⟩ := open_act7 (hval 0 45 v0 rfl rfl) h0 (sized_mem hsz (j := 0) (t := 45) rfl rfl)
  obtain rfl := hx0
  exact law_close laid rfl hW' (by kernel_rfl) rfl Try.underlying4 rfl (nnil_walk x0 W)

theorem netNil_holds : Rows.NetNilSaid :=
  OpenClaim.holds_of_wide 5 Try.f5 rfl rfl rfl rfl rfl rfl rfl ⟨rfl, rfl, rfl, rfl, rfl⟩ rfl rfl rfl rfl rfl (by kernel_rfl) Try.func5 (by kernel_rfl)
    (of_decide_eq_true (by kernel_rfl)) (by unfold Func.isWrapper; first | (rw [if_pos (by decide +kernel)]; kernel_rfl) | (rw [if_neg (by decide +kernel)]; exact ⟨rfl, rfl⟩))
    (fun os started H enc _ => nnil_lifted os started H enc)

#print axioms netNil_holds
end Go.Proofs.Ytkoalpbognpphaa
