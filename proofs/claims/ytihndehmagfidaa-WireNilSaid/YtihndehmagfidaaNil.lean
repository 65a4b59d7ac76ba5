/- The statement on readers that are not there: for every number, a reader that is nil or that nobody made reads nothing. No condition. -/
import Derived.Test.YtihndehmagfidaaLives
import Derived.Test.YtihndehmagfidaaEnd
namespace Go.Proofs.Ytihndehmagfidaa
open Go.RowKit
set_option linter.unusedVariables false

set_option maxHeartbeats 1600000 in
theorem nil_walk (a : Int) (ha : -9223372036854775808 ≤ a ∧ a ≤ 9223372036854775807) (w : World) : Calls Try.prog 9 #[.int .i64 a] w fun e w' => e = .returned (.bool true) ∧ Below w.heap.size w w' := by
  go_enter Try.func9, Try.ntmps9
  go_wp2_with fail
  have hb0 : Below w.heap.size w ((w.alloc (.cells #[.bool false, .slice none 0 0, .int .i64 0, .int .i64 0] 55)).alloc (.cells #[.pointer none, .pointer (some ⟨w.heap.size, 0, none⟩)] 32)) :=
    ((Below.refl _ _).alloc (Nat.le_refl _) _).alloc (by simp) _
  have hw0 : Whole ((w.alloc (.cells #[.bool false, .slice none 0 0, .int .i64 0, .int .i64 0] 55)).alloc (.cells #[.pointer none, .pointer (some ⟨w.heap.size, 0, none⟩)] 32)) w.heap.size 55 #[.bool false, .slice none 0 0, .int .i64 0, .int .i64 0] :=
    (Whole.new _ _ _).alloc _
  have hw1 : Whole ((w.alloc (.cells #[.bool false, .slice none 0 0, .int .i64 0, .int .i64 0] 55)).alloc (.cells #[.pointer none, .pointer (some ⟨w.heap.size, 0, none⟩)] 32)) (w.heap.size + 1) 32 #[.pointer none, .pointer (some ⟨w.heap.size, 0, none⟩)] := by
    have := Whole.new (w.alloc (.cells #[.bool false, .slice none 0 0, .int .i64 0, .int .i64 0] 55)) 32 #[.pointer none, .pointer (some ⟨w.heap.size, 0, none⟩)]
    simpa using this
  generalize ((w.alloc (.cells #[.bool false, .slice none 0 0, .int .i64 0, .int .i64 0] 55)).alloc (.cells #[.pointer none, .pointer (some ⟨w.heap.size, 0, none⟩)] 32)) = W at *
  have hc0 : W.cell? ⟨w.heap.size + 1, 0, none⟩ = some (.pointer none) := hw1.cell 0
  have hc1 : W.cell? ⟨w.heap.size + 1, 1, none⟩ = some (.pointer (some ⟨w.heap.size, 0, none⟩)) := hw1.cell 1
  have HC0 : ∀ n, Hid ((W.drewN n).cell? ⟨w.heap.size, 0, none⟩ = some (.bool false)) := fun n => Lib.hid (hw0.cell 0)
  have HE0 : Hid (Ers W none 1) := Lib.hid (Ers.nil_ W)
  have HE1 : Hid (Ers W (some ⟨w.heap.size, 0, none⟩) 1) := Lib.hid (Ers.zero W w.heap.size (hw0.cell 0))
  go_loopw [4] (fun i wr => ∃ k n : Nat, k ≤ 2 ∧ i = .int .i64 k ∧ wr = W.drewN n) (fun i _ => 2 - (intOf i).toNat)
  case atStart => exact ⟨0, 0, by omega, rfl, rfl⟩
  case round =>
    obtain ⟨k, n, hk, rfl, rfl⟩ := hrel
    have hk3 : k = 0 ∨ k = 1 ∨ k = 2 := by omega
    rcases hk3 with rfl | rfl | rfl
    · have E := HE0.out.drewN n
      have HS : Hid (Stp (W.drewN n) none true) := Lib.hid (E.off (by decide))
      have HE : Hid (Ers (W.drewN n) none 1) := Lib.hid E
      clear E
      go_wp2_with fail
      refine (fail_stop HS.out a).mono ?_
      rintro e w1 ⟨rfl, rfl⟩
      go_wp2_with fail
      refine (uint_stop HS.out).mono ?_
      rintro e w1 ⟨rfl, rfl⟩
      go_wp2_with fail
      refine (int_stop HS.out).mono ?_
      rintro e w1 ⟨rfl, rfl⟩
      go_wp2_with fail
      refine (bool_stop HS.out).mono ?_
      rintro e w1 ⟨rfl, rfl⟩
      go_wp2_with fail
      refine (text_stop HS.out).mono ?_
      rintro e w1 ⟨rfl, rfl⟩
      go_wp2_with fail
      refine (count_stop HS.out a).mono ?_
      rintro e w1 ⟨rfl, rfl⟩
      go_wp2_with fail
      refine (HE.out.now).mono ?_
      rintro e w1 ⟨rfl, rfl⟩
      go_wp2_with fail
      refine (at_nil _).mono ?_
      rintro e w1 ⟨rfl, rfl⟩
      go_wp2_with fail
      refine (done_stop (by decide) HE.out).mono ?_
      rintro e w1 ⟨rfl, n', rfl⟩
      go_wp2
      go_roundw
      case rel => exact ⟨1, n + n', by omega, rfl, rfl⟩
      case measure => simp [intOf]
    · have E := HE1.out.drewN n
      have HS : Hid (Stp (W.drewN n) (some ⟨w.heap.size, 0, none⟩) true) := Lib.hid (E.off (by decide))
      have HE : Hid (Ers (W.drewN n) (some ⟨w.heap.size, 0, none⟩) 1) := Lib.hid E
      clear E
      go_wp2_with fail
      refine (fail_stop HS.out a).mono ?_
      rintro e w1 ⟨rfl, rfl⟩
      go_wp2_with fail
      refine (uint_stop HS.out).mono ?_
      rintro e w1 ⟨rfl, rfl⟩
      go_wp2_with fail
      refine (int_stop HS.out).mono ?_
      rintro e w1 ⟨rfl, rfl⟩
      go_wp2_with fail
      refine (bool_stop HS.out).mono ?_
      rintro e w1 ⟨rfl, rfl⟩
      go_wp2_with fail
      refine (text_stop HS.out).mono ?_
      rintro e w1 ⟨rfl, rfl⟩
      go_wp2_with fail
      refine (count_stop HS.out a).mono ?_
      rintro e w1 ⟨rfl, rfl⟩
      go_wp2_with fail
      refine (HE.out.now).mono ?_
      rintro e w1 ⟨rfl, rfl⟩
      go_wp2_with fail
      refine (at_zero _ _ (HC0 _).out).mono ?_
      rintro e w1 ⟨rfl, rfl⟩
      go_wp2_with fail
      refine (done_stop (by decide) HE.out).mono ?_
      rintro e w1 ⟨rfl, n', rfl⟩
      go_wp2
      go_roundw
      case rel => exact ⟨2, n + n', by omega, rfl, rfl⟩
      case measure => simp [intOf]
    · go_wp2_with fail
      refine (lives_any _).mono ?_
      rintro e w1 ⟨rfl, hb1⟩
      go_wp2
      go_ret
      exact ⟨rfl, (below_drewN hb0 n).trans (hb1.mono hb0.size)⟩

open Go.ChangeShapes Go.WideShapes Go.ChangeAt
set_option maxRecDepth 100000 in
theorem nil_lifted (os : Os) (started : os.Started) (H : Type) (enc : TypeId × Value → H) :
    ReturnsInHanded {} Try.checked os 9 .any (Rows.wireNilSpec.pre6 enc Try.prog Try.f9 Rows.wireNilRow.domain false) (Rows.wireNilSpec.post enc Try.prog Try.f9 false true false false) := by
  refine returnsInHanded_of_change_sized (C := Try.checked) own started (by kernel_rfl) Try.func9
    (ChangeSpec.witness6 (enc := enc) (C := Try.checked) false ⟨#[], #[.int .i64 0], []⟩ 8 (by kernel_rfl) (by kernel_rfl) (by kernel_rfl) (by kernel_rfl)) ?_
  intro W base args ds gs before hval0 hW _ hsz0 _
  have hsz : (DataW.weightsEach Try.prog (Try.f9.params.toList ++ Rows.wireNilSpec.plain.varTypes Try.prog) (ds ++ gs)).all (· ≤ reachBytes) = true := hsz0
  have hval : ∀ (j : Nat) t v, Try.f9.params[j]? = some t → args[j]? = some v → Value.okWide Try.prog W .any base t v := hval0
  have hW' := hW
  obtain ⟨p, q, hA0, hV, rfl, _, _⟩ := hW
  have hA : DataW.TrodAll enc Try.prog W 0 (fun _ => true) true Try.f9.params.toList args.toList ds p := hA0
  rw [Try.params9] at hA hval hsz
  obtain ⟨v0, vs0, d0, ds0, p0, q0, hargs, rfl, rfl, h0, r0⟩ := trodAll_cons hA
  obtain ⟨rfl, rfl, rfl⟩ := trodAll_nil r0
  obtain rfl : args = #[v0] := by cases args; simp_all
  obtain ⟨a0, rfl, rfl, rfl, w0⟩ := open_int Try.underlying3 (hval 0 3 v0 rfl rfl) h0
  have b0 := bounds_i64 w0
  exact law_close laid rfl hW' (by kernel_rfl) rfl Try.underlying4 rfl (nil_walk a0 b0 W)

theorem wireNil_holds : Rows.WireNilSaid :=
  OpenClaim.holds_of_wide 9 Try.f9 rfl rfl rfl rfl rfl rfl rfl ⟨rfl, rfl, rfl, rfl, rfl⟩ rfl rfl rfl rfl rfl (by kernel_rfl) Try.func9 (by kernel_rfl)
    (of_decide_eq_true (by kernel_rfl)) (by unfold Func.isWrapper; first | (rw [if_pos (by decide +kernel)]; kernel_rfl) | (rw [if_neg (by decide +kernel)]; exact ⟨rfl, rfl⟩))
    (fun os started H enc _ => nil_lifted os started H enc)

#print axioms wireNil_holds
end Go.Proofs.Ytihndehmagfidaa
