/- The statement on what is read as a number: for all bytes it is just the bytes that the number has. No condition. -/
import Derived.Test.YtihndehmagfidaaLives
import Derived.Test.YtihndehmagfidaaEnd
import Derived.Deep.RegionHeld3
namespace Go.Proofs.Ytihndehmagfidaa
open Go.RowKit
set_option linter.unusedVariables false

set_option maxHeartbeats 1600000 in
theorem one_walk (A : Option Addr) (zs : List Int) (c : Nat) (w : World) (hl : zs.length ≤ 140737488351232) (hc : zs.length ≤ c) (hz : Byt zs) (hA : A = none → zs.length = 0 ∧ c = 0) (hr : Rds w w.heap.size A (c8 zs)) :
    Calls Try.prog 8 #[.slice A zs.length c] w fun e w' => e = .returned (.bool true) ∧ Below w.heap.size w w' := by
  obtain ⟨i0, hi, hz0, hz1, hz2⟩ := info_parts info8
  go_enter Try.func8, Try.ntmps8
  go_wp2_with fail
  refine (lives_any _).mono ?_
  rintro e w1 ⟨rfl, hb1⟩
  have hr1 := (hr.below hb1).more hb1.size
  have hown1 := World.ownsRow_made (base := w1.heap.size) (e := 5) (size := 1) w1 #[] 0 (Nat.le_refl _) (by unfold maxLen; omega) rfl
  have hr1' := hr1.alloc (Nat.le_refl _) (.cells #[] 5)
  go_wp2_with (at_builtin; go_loud (refine app_many (w1.alloc (.cells #[] 5)) rfl (.tmp 9) (.tmp 10) 23 rfl w1.heap.size 5 i0 (.int .u8 0) 1 Try.underlying23 hi hz0 hz1 hz2 rfl _ 0 [] rfl hown1 A zs.length c w1.heap.size (c8 zs) rfl (c8_length zs).symm hr1' (fun h => (hA h).2) (c8_one zs) (by unfold maxLen; omega) (by omega) (by simp) ?_))
  intro v2 w2 hown2 hb2
  have hb3 := hb1.trans ((((Below.refl w1.heap.size w1).alloc (Nat.le_refl _) (.cells #[] 5)).trans hb2).mono hb1.size)
  have hr2 := hr1'.below hb2
  obtain ⟨A2, c2, rfl, hrd2, _, _, _⟩ := own_open hown2
  go_wp2_with fail
  refine (readUint_any A2 zs c2 _ w2 (by omega) hz hrd2).mono ?_
  rintro e w3 ⟨rfl, rfl⟩
  obtain ⟨X, n, E, hd, hX0, hX1, hn, hn1, hE0, hE⟩ := dec_ok zs 0 0 (by omega) (by omega) (by decide) hz
  rw [hd]
  simp only
  by_cases h0 : E = 0
  · subst h0
    obtain ⟨m, hm, hm1, hml, henc⟩ := dec_enc0 hz hd
    obtain rfl : n = m := by omega
    have HEN := Lib.hid henc
    clear hd hm henc
    have hd1 : decide (1 ≤ (n : Int)) = true := decide_eq_true (by omega)
    have hd2 : decide ((n : Int) ≤ (zs.length : Int)) = true := decide_eq_true (by omega)
    clear hb1 hr1 hown1 hr1' hb2 hown2 hrd2 hr2
    have hnc0 : (0 : Int) ≤ (n : Int) := by omega
    have hnc : (n : Int) ≤ (c : Int) := by omega
    have HA := Lib.hid hA
    clear hA
    go_wp2_with fail
    go_region_held3 (fun w' => Below w.heap.size w w')
      (first | assumption | exact Below.drew (by assumption) | (exact Below.trans (by assumption) (Below.mono (by assumption) (Below.size (by assumption)))) | (exact below_drewN (by assumption) _))
      (first
        | (go_at_call 12; refine (appUint_any none [] 0 X _ hX0 hX1 (by decide) (by decide) (fun _ => ⟨rfl, rfl⟩) Rds.nil_).mono ?_; rintro e w5 ⟨v5, rfl, hown5, hb5⟩; have hh5 : Below w.heap.size w w5 := (Below.trans (by assumption) (Below.mono hb5 (Below.size (by assumption)))); obtain ⟨A5, c5, rfl, hr5, _, _, _⟩ := own_open hown5)
        | (go_at_call 16; refine (sameBytes_yes A5 A (enc X) (zs.take n) (enc X).length n c5 c w5.heap.size _ rfl (by rw [List.length_take]; omega) (by have := enc_length X; omega) HEN.out hr5 (by rw [show c8 (zs.take n) = (c8 zs).take n by simp [c8]]; exact ((hr.below hh5).more hh5.size).take n)).mono ?_; rintro e w6 ⟨rfl, n6, rfl⟩))
    all_goals go_wp2
    all_goals go_ret
    all_goals exact ⟨rfl, by first | assumption | exact below_drewN (by assumption) _ | exact Below.drew (by assumption)⟩
  · obtain ⟨rfl, rfl⟩ := hE0 h0
    have hE1 : (E != 0) = true := by simpa using h0
    clear h0 hd
    go_wp2
    go_ret
    exact ⟨rfl, hb3⟩

open Go.ChangeShapes Go.WideShapes Go.ChangeAt
set_option maxRecDepth 100000 in
theorem one_lifted (os : Os) (started : os.Started) (H : Type) (enc : TypeId × Value → H) :
    ReturnsInHanded {} Try.checked os 8 .any (Rows.wireOneSpec.pre6 enc Try.prog Try.f8 Rows.wireOneRow.domain false) (Rows.wireOneSpec.post enc Try.prog Try.f8 false true false false) := by
  refine returnsInHanded_of_change_sized (C := Try.checked) own started (by kernel_rfl) Try.func8
    (ChangeSpec.witness6 (enc := enc) (C := Try.checked) false ⟨#[], #[.slice none 0 0], []⟩ 8 (by kernel_rfl) (by kernel_rfl) (by kernel_rfl) (by kernel_rfl)) ?_
  intro W base args ds gs before hval0 hW _ hsz0 _
  have hsz : (DataW.weightsEach Try.prog (Try.f8.params.toList ++ Rows.wireOneSpec.plain.varTypes Try.prog) (ds ++ gs)).all (· ≤ reachBytes) = true := hsz0
  have hval : ∀ (j : Nat) t v, Try.f8.params[j]? = some t → args[j]? = some v → Value.okWide Try.prog W .any base t v := hval0
  have hW' := hW
  obtain ⟨p, q, hA0, hV, rfl, _, _⟩ := hW
  have hA : DataW.TrodAll enc Try.prog W 0 (fun _ => true) true Try.f8.params.toList args.toList ds p := hA0
  rw [Try.params8] at hA hval hsz
  obtain ⟨v0, vs0, d0, ds0, p0, q0, hargs, rfl, rfl, h0, r0⟩ := trodAll_cons hA
  obtain ⟨rfl, rfl, rfl⟩ := trodAll_nil r0
  obtain rfl : args = #[v0] := by cases args; simp_all
  obtain ⟨A0, zs0, c0, hb0⟩ := open_bytes Try.underlying23 Try.underlying5 cells8 (hval 0 23 v0 rfl rfl) h0
  have hl0 := hb0.reach hsz (j := 0) (t := 23) (e := 5) rfl rfl Try.underlying23 bytes8
  obtain rfl := hb0.val
  exact law_close laid rfl hW' (by kernel_rfl) rfl Try.underlying4 rfl (one_walk A0 zs0 c0 W hl0 hb0.cap hb0.byt hb0.nil_ hb0.rds)

theorem wireOne_holds : Rows.WireOneSaid :=
  OpenClaim.holds_of_wide 8 Try.f8 rfl rfl rfl rfl rfl rfl rfl ⟨rfl, rfl, rfl, rfl, rfl⟩ rfl rfl rfl rfl rfl (by kernel_rfl) Try.func8 (by kernel_rfl)
    (of_decide_eq_true (by kernel_rfl)) (by unfold Func.isWrapper; first | (rw [if_pos (by decide +kernel)]; kernel_rfl) | (rw [if_neg (by decide +kernel)]; exact ⟨rfl, rfl⟩))
    (fun os started H enc _ => one_lifted os started H enc)

#print axioms wireOne_holds
end Go.Proofs.Ytihndehmagfidaa
