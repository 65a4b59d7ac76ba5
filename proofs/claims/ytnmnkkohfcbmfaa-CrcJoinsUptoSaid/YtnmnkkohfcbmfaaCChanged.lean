/- What a changed byte does to a sum can be told without the others: for all bytes, any place, any byte. No condition. -/
import Derived.Test.YtnmnkkohfcbmfaaCLives
import Derived.Test.YtnmnkkohfcbmfaaCPick
import Derived.Deep.RegionHeld3
namespace Go.Proofs.Ytnmnkkohfcbmfaa
open Go.RowKit Go.Lib
set_option linter.unusedVariables false

theorem keep_drew {a : Addr} {v : Value} {B : Nat} {w w' : World} (h : w'.cell? a = some v ∧ Below B w w') : w'.drew.cell? a = some v ∧ Below B w w'.drew := ⟨h.1, h.2.drew⟩
theorem keep_below {a : Addr} {v : Value} {B : Nat} {w w' w2 : World} (h : w'.cell? a = some v ∧ Below B w w') (hB : B ≤ w.heap.size) (hb : Below w'.heap.size w' w2) : w2.cell? a = some v ∧ Below B w w2 :=
  ⟨by rw [hb.cell (World.block_lt_of_cell? _ _ h.1)]; exact h.1, h.2.trans (hb.mono (Nat.le_trans hB h.2.size))⟩
theorem rds_keep {a : Addr} {v : Value} {w w' : World} {A : Option Addr} {xs : List Value} (hr : Rds w w.heap.size A xs) (h : w'.cell? a = some v ∧ Below w.heap.size w w') : Rds w' w.heap.size A xs := hr.below h.2

theorem sum_len (A : Option Addr) (zs : List Int) (n c lim : Nat) (w : World) (hn : zs.length = n) (hl : n ≤ 9223372036854775807) (hz : Byt zs) (hr : Rds w lim A (c8 zs)) :
    Calls Try.prog 10 #[.slice A n c] w fun e w' => e = .returned (.int .u32 (mor 0 zs)) ∧ w' = w := by
  subst hn
  exact sum_any A zs c lim w hl hz hr

set_option maxHeartbeats 3200000 in
theorem changed_walk (A : Option Addr) (zs : List Int) (c : Nat) (at_ x : Int) (w : World) (hat : -9223372036854775808 ≤ at_ ∧ at_ ≤ 9223372036854775807) (hx : 0 ≤ x ∧ x ≤ 255)
    (hl : zs.length ≤ 140737488351232) (hz : Byt zs) (hA : A = none → zs.length = 0 ∧ c = 0) (hc : zs.length ≤ c) (hr : Rds w w.heap.size A (c8 zs)) :
    Calls Try.prog 6 #[.slice A zs.length c, .int .i64 at_, .int .u8 x] w fun e w' => e = .returned (.bool true) ∧ Below w.heap.size w w' := by
  obtain ⟨X, rfl⟩ : ∃ X : Nat, x = X := ⟨x.toNat, by omega⟩
  have hX : X < 256 := by omega
  have hB := Nat.le_refl w.heap.size
  have HZ := Lib.hid hz
  have HA := Lib.hid hA
  have HAT := Lib.hid hat
  obtain ⟨i0, hi, hz0, hz1, hz2⟩ := info_parts info8
  clear hx hz hA hat
  go_enter Try.func6, Try.ntmps6
  go_wp2_with fail
  refine (clives_any _).mono ?_
  rintro e w1 ⟨rfl, hb1⟩
  have hr1 := hr.go hb1
  by_cases h0 : zs.length = 0
  · have h0' : (zs.length : Int) = 0 := by omega
    go_wp2
    go_ret
    exact ⟨rfl, hb1⟩
  · have h0' : ¬ (zs.length : Int) = 0 := by omega
    go_wp2_with fail
    refine (pick_any at_ zs.length w1 (by omega) (by omega) HAT.out).mono ?_
    rintro e w2 ⟨⟨i, rfl, hi'⟩, rfl⟩
    have hil : i < zs.length := by omega
    have hown1 := World.ownsRow_made (base := w2.heap.size) (e := 5) (size := 1) w2 #[] 0 (Nat.le_refl _) (by unfold maxLen; omega) rfl
    have hr1' := hr1.alloc (Nat.le_refl _) (.cells #[] 5)
    go_wp2_with (at_builtin; go_loud (refine app_many (w2.alloc (.cells #[] 5)) rfl (.tmp 20) (.tmp 21) 27 rfl w2.heap.size 5 i0 (.int .u8 0) 1 Try.underlying27 hi hz0 hz1 hz2 rfl _ 0 [] rfl hown1 A zs.length c w2.heap.size (c8 zs) rfl (c8_length zs).symm hr1' (fun h => (HA.out h).2) (c8_one zs) (by unfold maxLen; omega) (by omega) (by simp) ?_))
    intro v3 w3 hown3 hb3'
    have hb3 : Below w.heap.size w w3 := hb1.trans ((((Below.refl w2.heap.size w2).alloc (Nat.le_refl _) (.cells #[] 5)).trans hb3').mono hb1.size)
    have hr3 := hr1'.below hb3'
    have hg2 : w.heap.size ≤ w2.heap.size := hb1.size
    rcases hown3.2 with ⟨hv, hn⟩ | ⟨g, cap, cur, hv, hg, _⟩
    · exact absurd (by simpa using hn) h0
    · subst hv
      have hst := hown3.stored i (.int .u8 X)
      have hcell := hown3.cellAt i (by omega)
      rw [c8_get hil] at hcell
      have hfr := hown3.frozenAt i
      rw [show (c8 zs).set i (.int .u8 X) = c8 (zs.set i X) by simp [c8, List.map_set]] at hst
      have hb4 : Below w.heap.size w (w3.setCell ⟨g, i, none⟩ (.int .u8 X)) := hb3.setCell (show w.heap.size ≤ g by omega) _
      have hr4 := hr3.below ((Below.refl w2.heap.size w3).setCell (p := ⟨g, i, none⟩) hg (.int .u8 X))
      obtain ⟨hown4, _⟩ := hst
      have hz0 := HZ.out zs[i] (List.getElem_mem hil)
      have hzx : Byt (zs.set i (X : Int)) := by
        intro z h
        rcases List.mem_or_eq_of_mem_set h with h | h
        · exact HZ.out z h
        · subst h
          omega
      have hHX := Lib.hid hzx
      have hms := mor_set (s := 0) HZ.out i hil (c := (X : Int)) (by omega)
      have hgd : zs.getD i 0 = zs[i] := by simp [List.getD, hil]
      obtain ⟨ad, hAd, hadl, hcA⟩ := hr4.at_ (c8_get hil)
      rw [hgd] at hms
      generalize hzi : zs[i] = o at *
      obtain ⟨O, rfl⟩ : ∃ O : Nat, o = O := ⟨o.toNat, by omega⟩
      have hO : O < 256 := by omega
      have herr : errC (i : Int) (zs.length : Int) = 0 := if_neg (by omega)
      have hcha : chaX (mor 0 zs) (i : Int) O X (zs.length : Int) = mor 0 (zs.set i (X : Int)) := by
        unfold chaX
        rw [if_neg (by omega), hms]
        simp only [Int.toNat_natCast]
        rw [show ((zs.length : Int) - 1 - (i : Int)).toNat = zs.length - 1 - i by omega]
      have hr5 := hr4.more (show w2.heap.size ≤ (w3.setCell ⟨g, i, none⟩ (.int .u8 X)).heap.size by simp; exact Nat.le_trans (by simp) hb3'.size)
      have hro := Rds.ofOwn hown4
      have HC1 := Lib.hid hcha
      have HC2 := Lib.hid herr
      have HG := Lib.hid hgd
      subst hAd
      clear hms hcha herr hgd hr1 hr1' hown1 hb3' hr3 hb3 hr4 hown3 hown4 hzi hz0 hzx hadl hb1 hr
      have hi0 : (0 : Int) ≤ (i : Int) := by omega
      go_wp2_with fail
      generalize w3.setCell ⟨g, i, none⟩ (.int .u8 X) = w4 at *
      have hl9 : (zs.length : Int) ≤ 9223372036854775807 := by omega
      have hl8 : -9223372036854775808 ≤ (zs.length : Int) := by omega
      have hml := mor_lt 0 zs
      have hzb := HZ.out
      have hr8 := hr5
      have hS0 : w4.cell? (ad.add i) = some (.int .u8 O) ∧ Below w4.heap.size w4 w4 := ⟨hcA, Below.refl _ _⟩
      have hlB := Nat.le_refl w4.heap.size
      clear hr5 hcA hcell hfr
      go_region_held3 (fun w' => w'.cell? (ad.add i) = some (.int .u8 O) ∧ Below w4.heap.size w4 w')
        (first | assumption | exact keep_drew (by assumption) | exact keep_below (by assumption) (by assumption) (by assumption))
        (first
          | (go_at_call 10; refine (sum_any (some ad) zs c w4.heap.size _ (by omega) hzb (rds_keep hr8 (by assumption))).mono ?_; rintro e w5 ⟨rfl, rfl⟩)
          | (go_at_call 12; refine (changed_any (mor 0 zs) O X i zs.length _ hml hO hX hl9 hl8).mono ?_; rintro e w6 ⟨rfl, hb6⟩))
      have hS6 : w6.cell? (ad.add i) = some (.int .u8 O) ∧ Below w4.heap.size w4 w6 := by assumption
      have hro6 := hro.below hS6.2
      have hb7 : Below w.heap.size w w6 := hb4.trans (hS6.2.mono hb4.size)
      rw [HC1.out, HC2.out]
      have hsl := sum_len (some ⟨g, 0, none⟩) (zs.set i (X : Int)) zs.length cap _ w6 (by simp) (by omega) hHX.out hro6
      have hbb : Below w4.heap.size w4 w6 := hS6.2
      generalize mor 0 (zs.set i (X : Int)) = R at *
      have HSL := Lib.hid hsl
      have HB7 := Lib.hid hb7
      clear hsl hro6 hS6 hr8 hb4 hro hbb hS0 hb7 hml hzb hlB
      go_wp2_with fail
      refine HSL.out.mono ?_
      rintro e w7 ⟨rfl, rfl⟩
      go_wp2
      go_ret
      exact ⟨rfl, HB7.out⟩

open Go.ChangeShapes Go.WideShapes Go.ChangeAt
set_option maxRecDepth 100000 in
theorem cchanged_lifted (os : Os) (started : os.Started) (H : Type) (enc : TypeId × Value → H) :
    ReturnsInHanded {} Try.checked os 6 .any (Rows.crcChangedSpec.pre6 enc Try.prog Try.f6 Rows.crcChangedRow.domain false) (Rows.crcChangedSpec.post enc Try.prog Try.f6 false true false false) := by
  refine returnsInHanded_of_change_sized (C := Try.checked) own started (by kernel_rfl) Try.func6
    (ChangeSpec.witness6 (enc := enc) (C := Try.checked) false ⟨#[], #[.slice none 0 0, .int .i64 0, .int .u8 0], []⟩ 8 (by kernel_rfl) (by kernel_rfl) (by kernel_rfl) (by kernel_rfl)) ?_
  intro W base args ds gs before hval0 hW _ hsz0 _
  have hsz : (DataW.weightsEach Try.prog (Try.f6.params.toList ++ Rows.crcChangedSpec.plain.varTypes Try.prog) (ds ++ gs)).all (· ≤ reachBytes) = true := hsz0
  have hval : ∀ (j : Nat) t v, Try.f6.params[j]? = some t → args[j]? = some v → Value.okWide Try.prog W .any base t v := hval0
  have hW' := hW
  obtain ⟨p, q, hA0, hV, rfl, _, _⟩ := hW
  have hA : DataW.TrodAll enc Try.prog W 0 (fun _ => true) true Try.f6.params.toList args.toList ds p := hA0
  rw [Try.params6] at hA hval hsz
  obtain ⟨v0, vs0, d0, ds0, p0, q0, hargs, rfl, rfl, h0, r0⟩ := trodAll_cons hA
  obtain ⟨v1, vs1, d1, ds1, p1, q1, rfl, rfl, rfl, h1, r1⟩ := trodAll_cons r0
  obtain ⟨v2, vs2, d2, ds2, p2, q2, rfl, rfl, rfl, h2, r2⟩ := trodAll_cons r1
  obtain ⟨rfl, rfl, rfl⟩ := trodAll_nil r2
  obtain rfl : args = #[v0, v1, v2] := by cases args; simp_all
  obtain ⟨A0, zs0, c0, hb0⟩ := open_bytes Try.underlying27 Try.underlying5 cells8 (hval 0 27 v0 rfl rfl) h0
  have hl0 := hb0.reach hsz (j := 0) (t := 27) (e := 5) rfl rfl Try.underlying27 bytes8
  obtain rfl := hb0.val
  obtain ⟨a1, rfl, rfl, rfl, w1⟩ := open_int Try.underlying3 (hval 1 3 v1 rfl rfl) h1
  have b1 := bounds_i64 w1
  obtain ⟨a2, rfl, rfl, rfl, w2⟩ := open_int Try.underlying5 (hval 2 5 v2 rfl rfl) h2
  have b2 := bounds_u8 w2
  exact law_close laid rfl hW' (by kernel_rfl) rfl Try.underlying4 rfl (changed_walk A0 zs0 c0 a1 a2 W b1 b2 hl0 hb0.byt hb0.nil_ hb0.cap hb0.rds)

theorem crcChanged_holds : Rows.CrcChangedSaid :=
  OpenClaim.holds_of_wide 6 Try.f6 rfl rfl rfl rfl rfl rfl rfl ⟨rfl, rfl, rfl, rfl, rfl⟩ rfl rfl rfl rfl rfl (by kernel_rfl) Try.func6 (by kernel_rfl)
    (of_decide_eq_true (by kernel_rfl)) (by unfold Func.isWrapper; first | (rw [if_pos (by decide +kernel)]; kernel_rfl) | (rw [if_neg (by decide +kernel)]; exact ⟨rfl, rfl⟩))
    (fun os started H enc _ => cchanged_lifted os started H enc)

#print axioms crcChanged_holds
end Go.Proofs.Ytnmnkkohfcbmfaa
