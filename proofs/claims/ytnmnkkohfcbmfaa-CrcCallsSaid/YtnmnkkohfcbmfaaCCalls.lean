/- Any bytes are summed, on from any sum, and sums turned over zeros, joined and changed, as the document says: for all values. No condition. -/
import Derived.Test.YtnmnkkohfcbmfaaCLives
import Derived.Test.YtnmnkkohfcbmfaaKit
namespace Go.Proofs.Ytnmnkkohfcbmfaa
open Go.RowKit Go.Lib
set_option linter.unusedVariables false

set_option maxHeartbeats 3200000 in
set_option maxRecDepth 1000000 in
theorem calls_walk (A : Option Addr) (zs : List Int) (c : Nat) (x y n at_ : Int) (w : World) (hx : 0 ≤ x ∧ x ≤ 4294967295) (hy : 0 ≤ y ∧ y ≤ 4294967295) (hn : -9223372036854775808 ≤ n ∧ n ≤ 9223372036854775807)
    (hl : zs.length ≤ 140737488351232) (hz : Byt zs) (hr : Rds w w.heap.size A (c8 zs)) :
    Calls Try.prog 4 #[.slice A zs.length c, .int .u32 x, .int .u32 y, .int .i64 n, .int .i64 at_] w fun e w' => e = .returned (.bool true) ∧ Below w.heap.size w w' := by
  obtain ⟨X, rfl⟩ : ∃ X : Nat, x = X := ⟨x.toNat, by omega⟩
  obtain ⟨Y, rfl⟩ : ∃ Y : Nat, y = Y := ⟨y.toNat, by omega⟩
  have hX : X < 4294967296 := by omega
  have hY : Y < 4294967296 := by omega
  have hn1 := hn.1
  have hn2 := hn.2
  have e1 : (Y : Int) % 256 = ((Y % 256 : Nat) : Int) := by omega
  have e2 : (Y : Int) / 256 % 256 = ((Y / 256 % 256 : Nat) : Int) := by omega
  have E1 := Lib.hid e1
  have E2 := Lib.hid e2
  have HZ := Lib.hid hz
  have hB := Nat.le_refl w.heap.size
  have hne : ∀ a : Int, (a != a) = false := fun a => by simp
  clear hx hy hn e1 e2 hz
  go_enter Try.func4, Try.ntmps4
  go_wp2_with fail
  refine (clives_any _).mono ?_
  rintro e w1 ⟨rfl, hb1⟩
  have hr1 := hr.go hb1
  go_wp2_with fail
  refine (own_any A zs c w1 hl hr1).mono ?_
  rintro e w2 ⟨g, rfl, hw2, _, hb2'⟩
  have hr2 := hr1.go hb2'
  have hb2 := belowGo hb1 hB hb2'
  have ho2 := own_reads hw2
  clear hb1 hr1 hb2'
  go_wp2_with fail
  refine (sum_any _ zs (zs.length + 5) _ w2 (by omega) HZ.out ho2).mono ?_
  rintro e w3 ⟨rfl, rfl⟩
  go_wp2_with fail
  refine (refSum_any A zs c _ w3 (by omega) HZ.out hr2).mono ?_
  rintro e w4 ⟨rfl, rfl⟩
  generalize mor 0 zs = S at *
  go_wp2_with fail
  refine (more_any X _ zs (zs.length + 5) _ w4 hX (by omega) HZ.out ho2).mono ?_
  rintro e w5 ⟨rfl, rfl⟩
  go_wp2_with fail
  refine (refMore_any X A zs c _ w5 hX (by omega) HZ.out hr2).mono ?_
  rintro e w6 ⟨rfl, rfl⟩
  generalize mor X zs = M at *
  go_wp2_with fail
  refine (kept_any A zs c g _ w6 hl hr2 hw2).mono ?_
  rintro e w7 ⟨rfl, n7, rfl⟩
  have hb7 := below_drewN hb2 n7
  clear hb2 hr2 ho2 hw2
  generalize w6.drewN n7 = w8 at *
  go_wp2_with fail
  refine (zeros_any X n w8 hX hn2).mono ?_
  rintro e w9 ⟨rfl, hb9'⟩
  have hb9 := belowGo hb7 hB hb9'
  clear hb7 hb9'
  go_wp2_with fail
  refine (refZeros_any X n w9 hX hn2).mono ?_
  rintro e w10 ⟨rfl, rfl⟩
  generalize zerX X n = R at *
  generalize errN n = K at *
  go_wp2_with fail
  refine (joined_any X Y n w10 hX hY hn2).mono ?_
  rintro e w11 ⟨rfl, hb11'⟩
  have hb11 := belowGo hb9 hB hb11'
  clear hb9 hb11'
  go_wp2_with fail
  refine (refJoined_any X Y n w11 hX hY hn2).mono ?_
  rintro e w12 ⟨rfl, rfl⟩
  generalize joiX X Y n = R2 at *
  generalize errN n = K2 at *
  go_wp2_with fail
  rw [E1.out, E2.out]
  refine (changed_any X (Y % 256) (Y / 256 % 256) at_ n w12 hX (by omega) (by omega) hn2 hn1).mono ?_
  rintro e w13 ⟨rfl, hb13'⟩
  have hb13 := belowGo hb11 hB hb13'
  clear hb11 hb13'
  go_wp2_with fail
  rw [E1.out, E2.out]
  refine (refChanged_any X (Y % 256) (Y / 256 % 256) at_ n w13 hX (by omega) (by omega) hn2 hn1).mono ?_
  rintro e w14 ⟨rfl, rfl⟩
  generalize chaX X at_ (Y % 256) (Y / 256 % 256) n = R3 at *
  generalize errC at_ n = K3 at *
  go_wp2
  go_ret
  exact ⟨rfl, hb13⟩

open Go.ChangeShapes Go.WideShapes Go.ChangeAt
set_option maxRecDepth 100000 in
theorem ccalls_lifted (os : Os) (started : os.Started) (H : Type) (enc : TypeId × Value → H) :
    ReturnsInHanded {} Try.checked os 4 .any (Rows.crcCallsSpec.pre6 enc Try.prog Try.f4 Rows.crcCallsRow.domain false) (Rows.crcCallsSpec.post enc Try.prog Try.f4 false true false false) := by
  refine returnsInHanded_of_change_sized (C := Try.checked) own started (by kernel_rfl) Try.func4
    (ChangeSpec.witness6 (enc := enc) (C := Try.checked) false ⟨#[], #[.slice none 0 0, .int .u32 0, .int .u32 0, .int .i64 0, .int .i64 0], []⟩ 8 (by kernel_rfl) (by kernel_rfl) (by kernel_rfl) (by kernel_rfl)) ?_
  intro W base args ds gs before hval0 hW _ hsz0 _
  have hsz : (DataW.weightsEach Try.prog (Try.f4.params.toList ++ Rows.crcCallsSpec.plain.varTypes Try.prog) (ds ++ gs)).all (· ≤ reachBytes) = true := hsz0
  have hval : ∀ (j : Nat) t v, Try.f4.params[j]? = some t → args[j]? = some v → Value.okWide Try.prog W .any base t v := hval0
  have hW' := hW
  obtain ⟨p, q, hA0, hV, rfl, _, _⟩ := hW
  have hA : DataW.TrodAll enc Try.prog W 0 (fun _ => true) true Try.f4.params.toList args.toList ds p := hA0
  rw [Try.params4] at hA hval hsz
  obtain ⟨v0, vs0, d0, ds0, p0, q0, hargs, rfl, rfl, h0, r0⟩ := trodAll_cons hA
  obtain ⟨v1, vs1, d1, ds1, p1, q1, rfl, rfl, rfl, h1, r1⟩ := trodAll_cons r0
  obtain ⟨v2, vs2, d2, ds2, p2, q2, rfl, rfl, rfl, h2, r2⟩ := trodAll_cons r1
  obtain ⟨v3, vs3, d3, ds3, p3, q3, rfl, rfl, rfl, h3, r3⟩ := trodAll_cons r2
  obtain ⟨v4, vs4, d4, ds4, p4, q4, rfl, rfl, rfl, h4, r4⟩ := trodAll_cons r3
  obtain ⟨rfl, rfl, rfl⟩ := trodAll_nil r4
  obtain rfl : args = #[v0, v1, v2, v3, v4] := by cases args; simp_all
  obtain ⟨A0, zs0, c0, hb0⟩ := open_bytes Try.underlying27 Try.underlying5 cells8 (hval 0 27 v0 rfl rfl) h0
  have hl0 := hb0.reach hsz (j := 0) (t := 27) (e := 5) rfl rfl Try.underlying27 bytes8
  obtain rfl := hb0.val
  obtain ⟨a1, rfl, rfl, rfl, w1⟩ := open_int Try.underlying22 (hval 1 22 v1 rfl rfl) h1
  have b1 := bounds_u32 w1
  obtain ⟨a2, rfl, rfl, rfl, w2⟩ := open_int Try.underlying22 (hval 2 22 v2 rfl rfl) h2
  have b2 := bounds_u32 w2
  obtain ⟨a3, rfl, rfl, rfl, w3⟩ := open_int Try.underlying3 (hval 3 3 v3 rfl rfl) h3
  have b3 := bounds_i64 w3
  obtain ⟨a4, rfl, rfl, rfl, w4⟩ := open_int Try.underlying3 (hval 4 3 v4 rfl rfl) h4
  have b4 := bounds_i64 w4
  exact law_close laid rfl hW' (by kernel_rfl) rfl Try.underlying4 rfl (calls_walk A0 zs0 c0 a1 a2 a3 a4 W b1 b2 b3 hl0 hb0.byt hb0.rds)

theorem crcCalls_holds : Rows.CrcCallsSaid :=
  OpenClaim.holds_of_wide 4 Try.f4 rfl rfl rfl rfl rfl rfl rfl ⟨rfl, rfl, rfl, rfl, rfl⟩ rfl rfl rfl rfl rfl (by kernel_rfl) Try.func4 (by kernel_rfl)
    (of_decide_eq_true (by kernel_rfl)) (by unfold Func.isWrapper; first | (rw [if_pos (by decide +kernel)]; kernel_rfl) | (rw [if_neg (by decide +kernel)]; exact ⟨rfl, rfl⟩))
    (fun os started H enc _ => ccalls_lifted os started H enc)

#print axioms crcCalls_holds
end Go.Proofs.Ytnmnkkohfcbmfaa
