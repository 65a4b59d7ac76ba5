/- The statement on the chapter's examples: they come out as they are written. No condition. -/
import Derived.Test.YtihndehmagfidaaLives
import Derived.Test.YtihndehmagfidaaKit
import Derived.Test.YtihndehmagfidaaApp
import Derived.Test.YtihndehmagfidaaEnd
namespace Go.Proofs.Ytihndehmagfidaa
open Go.RowKit Go.Lib
set_option linter.unusedVariables false

theorem same_rd {w1 w2 : World} {g c : Nat} {A : Option Addr} {zs : List Int} {p e : Int} (h : RD w1 g A c zs p e) (hb : Below w1.heap.size w1 w2) : RD w2 g A c zs p e := h.below hb h.1.lt

set_option maxRecDepth 100000 in
set_option maxHeartbeats 6400000 in
theorem names_walk (w : World) : Calls Try.prog 3 #[] w fun e w' => e = .returned (.bool true) ∧ Below w.heap.size w w' := by
  have hB := Nat.le_refl w.heap.size
  go_enter Try.func3, Try.ntmps3
  go_wp2_with fail
  refine (lives_any _).mono ?_
  rintro e w1 ⟨rfl, hb1⟩

  go_wp2_with fail
  refine (appInt_any none [] 0 (0) w1 (by decide) (by decide) (by decide) (fun _ => ⟨rfl, rfl⟩) Rds.nil_).mono ?_
  rintro e w2 ⟨v2, rfl, hown2, hbb2⟩
  rw [show ([] ++ enc (zag (0)) : List Int) = [0] from by decide +kernel] at hown2
  have hb2 := belowGo hb1 hB hbb2
  clear hb1 hbb2
  obtain ⟨A2, c2, rfl, hrb_2, hc2, _, hn2⟩ := own_open hown2
  clear hown2
  go_wp2_with fail
  refine (appInt_any A2 [0] c2 (-1) w2 (by decide) (by decide) hc2 hn2 hrb_2).mono ?_
  rintro e w3 ⟨v3, rfl, hown3, hbb3⟩
  rw [show ([0] ++ enc (zag (-1)) : List Int) = [0, 1] from by decide +kernel] at hown3
  have hb3 := belowGo hb2 hB hbb3
  clear hb2 hbb3
  obtain ⟨A3, c3, rfl, hrb_3, hc3, _, hn3⟩ := own_open hown3
  clear hown3
  go_wp2_with fail
  refine (appInt_any A3 [0, 1] c3 (1) w3 (by decide) (by decide) hc3 hn3 hrb_3).mono ?_
  rintro e w4 ⟨v4, rfl, hown4, hbb4⟩
  rw [show ([0, 1] ++ enc (zag (1)) : List Int) = [0, 1, 2] from by decide +kernel] at hown4
  have hb4 := belowGo hb3 hB hbb4
  clear hb3 hbb4
  obtain ⟨A4, c4, rfl, hrb_4, hc4, _, hn4⟩ := own_open hown4
  clear hown4
  go_wp2_with fail
  refine (appInt_any A4 [0, 1, 2] c4 (-64) w4 (by decide) (by decide) hc4 hn4 hrb_4).mono ?_
  rintro e w5 ⟨v5, rfl, hown5, hbb5⟩
  rw [show ([0, 1, 2] ++ enc (zag (-64)) : List Int) = [0, 1, 2, 127] from by decide +kernel] at hown5
  have hb5 := belowGo hb4 hB hbb5
  clear hb4 hbb5
  obtain ⟨A5, c5, rfl, hrb_5, hc5, _, hn5⟩ := own_open hown5
  clear hown5
  go_wp2_with fail
  refine (appInt_any A5 [0, 1, 2, 127] c5 (64) w5 (by decide) (by decide) hc5 hn5 hrb_5).mono ?_
  rintro e w6 ⟨v6, rfl, hown6, hbb6⟩
  rw [show ([0, 1, 2, 127] ++ enc (zag (64)) : List Int) = [0, 1, 2, 127, 128, 1] from by decide +kernel] at hown6
  have hb6 := belowGo hb5 hB hbb6
  clear hb5 hbb6
  obtain ⟨A6, c6, rfl, hrb_6, hc6, _, hn6⟩ := own_open hown6
  clear hown6
  go_wp2_with fail
  refine (appUint_any none [] 0 0 w6 (by decide) (by decide) (by decide) (by decide) (fun _ => ⟨rfl, rfl⟩) Rds.nil_).mono ?_
  rintro e w7 ⟨v7, rfl, hown7, hbb7⟩
  rw [show ([] ++ enc 0 : List Int) = [0] from by decide +kernel] at hown7
  have hrb_7 := hrb_6.go hbb7
  have hb7 := belowGo hb6 hB hbb7
  clear hrb_6 hb6 hbb7
  obtain ⟨A7, c7, rfl, hrc_7, hc7, _, hn7⟩ := own_open hown7
  clear hown7
  go_wp2_with fail
  refine (appUint_any A7 [0] c7 127 w7 (by decide) (by decide) (by decide) hc7 hn7 hrc_7).mono ?_
  rintro e w8 ⟨v8, rfl, hown8, hbb8⟩
  rw [show ([0] ++ enc 127 : List Int) = [0, 127] from by decide +kernel] at hown8
  have hrb_8 := hrb_7.go hbb8
  have hb8 := belowGo hb7 hB hbb8
  clear hrb_7 hb7 hbb8
  obtain ⟨A8, c8, rfl, hrc_8, hc8, _, hn8⟩ := own_open hown8
  clear hown8
  go_wp2_with fail
  refine (appUint_any A8 [0, 127] c8 128 w8 (by decide) (by decide) (by decide) hc8 hn8 hrc_8).mono ?_
  rintro e w9 ⟨v9, rfl, hown9, hbb9⟩
  rw [show ([0, 127] ++ enc 128 : List Int) = [0, 127, 128, 1] from by decide +kernel] at hown9
  have hrb_9 := hrb_8.go hbb9
  have hb9 := belowGo hb8 hB hbb9
  clear hrb_8 hb8 hbb9
  obtain ⟨A9, c9, rfl, hrc_9, hc9, _, hn9⟩ := own_open hown9
  clear hown9
  go_wp2_with fail
  have hrx_10 := Rds.made w9 5 [128] #[.int .u8 128] rfl
  have hs10 : (w9.alloc (.cells #[.int .u8 128] 5)).heap.size = w9.heap.size + 1 := by simp
  rw [← hs10] at hrx_10
  have hbb10 : Below w9.heap.size w9 (w9.alloc (.cells #[.int .u8 128] 5)) := (Below.refl _ _).alloc (Nat.le_refl _) _
  clear hs10
  have hrb_10 := hrb_9.go hbb10
  have hrc_10 := hrc_9.go hbb10
  have hb10 := belowGo hb9 hB hbb10
  clear hrb_9 hrc_9 hb9 hbb10
  generalize w9.alloc (.cells #[.int .u8 128] 5) = w10 at *
  refine (readUint_len _ [128] 1 1 _ w10 (by decide) (by decide) (by unfold Byt; decide) hrx_10 (X := 0) (N := 0) (E := 4) (by decide +kernel)).mono ?_
  rintro e wr10 ⟨rfl, rfl⟩
  clear hrx_10
  rename World => w10
  go_wp2_with fail
  have hrx_11 := Rds.made w10 5 [128, 0] #[.int .u8 128, .int .u8 0] rfl
  have hs11 : (w10.alloc (.cells #[.int .u8 128, .int .u8 0] 5)).heap.size = w10.heap.size + 1 := by simp
  rw [← hs11] at hrx_11
  have hbb11 : Below w10.heap.size w10 (w10.alloc (.cells #[.int .u8 128, .int .u8 0] 5)) := (Below.refl _ _).alloc (Nat.le_refl _) _
  clear hs11
  have hrb_11 := hrb_10.go hbb11
  have hrc_11 := hrc_10.go hbb11
  have hb11 := belowGo hb10 hB hbb11
  clear hrb_10 hrc_10 hb10 hbb11
  generalize w10.alloc (.cells #[.int .u8 128, .int .u8 0] 5) = w11 at *
  refine (readUint_len _ [128, 0] 2 2 _ w11 (by decide) (by decide) (by unfold Byt; decide) hrx_11 (X := 0) (N := 0) (E := 5) (by decide +kernel)).mono ?_
  rintro e wr11 ⟨rfl, rfl⟩
  clear hrx_11
  rename World => w11
  go_wp2_with fail
  have hrx_12 := Rds.made w11 5 [255, 255, 255, 255, 255, 255, 255, 255, 255, 255] #[.int .u8 255, .int .u8 255, .int .u8 255, .int .u8 255, .int .u8 255, .int .u8 255, .int .u8 255, .int .u8 255, .int .u8 255, .int .u8 255] rfl
  have hs12 : (w11.alloc (.cells #[.int .u8 255, .int .u8 255, .int .u8 255, .int .u8 255, .int .u8 255, .int .u8 255, .int .u8 255, .int .u8 255, .int .u8 255, .int .u8 255] 5)).heap.size = w11.heap.size + 1 := by simp
  rw [← hs12] at hrx_12
  have hbb12 : Below w11.heap.size w11 (w11.alloc (.cells #[.int .u8 255, .int .u8 255, .int .u8 255, .int .u8 255, .int .u8 255, .int .u8 255, .int .u8 255, .int .u8 255, .int .u8 255, .int .u8 255] 5)) := (Below.refl _ _).alloc (Nat.le_refl _) _
  clear hs12
  have hrb_12 := hrb_11.go hbb12
  have hrc_12 := hrc_11.go hbb12
  have hb12 := belowGo hb11 hB hbb12
  clear hrb_11 hrc_11 hb11 hbb12
  generalize w11.alloc (.cells #[.int .u8 255, .int .u8 255, .int .u8 255, .int .u8 255, .int .u8 255, .int .u8 255, .int .u8 255, .int .u8 255, .int .u8 255, .int .u8 255] 5) = w12 at *
  refine (readUint_len _ [255, 255, 255, 255, 255, 255, 255, 255, 255, 255] 10 10 _ w12 (by decide) (by decide) (by unfold Byt; decide) hrx_12 (X := 0) (N := 0) (E := 5) (by decide +kernel)).mono ?_
  rintro e wr12 ⟨rfl, rfl⟩
  clear hrx_12
  rename World => w12
  go_wp2_with fail
  refine (appText_any none [] 0 ⟨#[97, 98]⟩ w12 (by decide) (by decide) (by decide) (fun _ => ⟨rfl, rfl⟩) Rds.nil_).mono ?_
  rintro e w13 ⟨v13, rfl, hown13, hbb13⟩
  rw [show ([] ++ (enc ((⟨#[97, 98]⟩ : ByteArray).size : Int) ++ nums ⟨#[97, 98]⟩) : List Int) = [2, 97, 98] from by decide +kernel] at hown13
  have hrb_13 := hrb_12.go hbb13
  have hrc_13 := hrc_12.go hbb13
  have hb13 := belowGo hb12 hB hbb13
  clear hrb_12 hrc_12 hb12 hbb13
  obtain ⟨At, ct, rfl, hrt_13, _, _, _⟩ := own_open hown13
  clear hown13
  go_wp2_with fail
  have hrx_14 := Rds.made w13 5 [2] #[.int .u8 2] rfl
  have hs14 : (w13.alloc (.cells #[.int .u8 2] 5)).heap.size = w13.heap.size + 1 := by simp
  rw [← hs14] at hrx_14
  have hbb14 : Below w13.heap.size w13 (w13.alloc (.cells #[.int .u8 2] 5)) := (Below.refl _ _).alloc (Nat.le_refl _) _
  clear hs14
  have hrb_14 := hrb_13.go hbb14
  have hrc_14 := hrc_13.go hbb14
  have hrt_14 := hrt_13.go hbb14
  have hb14 := belowGo hb13 hB hbb14
  clear hrb_13 hrc_13 hrt_13 hb13 hbb14
  generalize w13.alloc (.cells #[.int .u8 2] 5) = w14 at *
  refine (new_any _ [2] 1 w14 (by decide) (by decide) (by intro h; cases h) (by unfold Byt; decide) hrx_14).mono ?_
  rintro e w15 ⟨g, Ag, cg, rfl, hg1, hg2, hrd_15, hbb15⟩
  have hgw : w.heap.size ≤ g := Nat.le_trans hb14.size hg1
  clear hrx_14
  have hrb_15 := hrb_14.go hbb15
  have hrc_15 := hrc_14.go hbb15
  have hrt_15 := hrt_14.go hbb15
  have hb15 := belowGo hb14 hB hbb15
  clear hrb_14 hrc_14 hrt_14 hb14 hbb15
  go_wp2_with fail
  have hrx_16 := Rds.made w15 5 [0, 1, 2, 127, 128, 1] #[.int .u8 0, .int .u8 1, .int .u8 2, .int .u8 127, .int .u8 128, .int .u8 1] rfl
  have hs16 : (w15.alloc (.cells #[.int .u8 0, .int .u8 1, .int .u8 2, .int .u8 127, .int .u8 128, .int .u8 1] 5)).heap.size = w15.heap.size + 1 := by simp
  rw [← hs16] at hrx_16
  have hbb16 : Below w15.heap.size w15 (w15.alloc (.cells #[.int .u8 0, .int .u8 1, .int .u8 2, .int .u8 127, .int .u8 128, .int .u8 1] 5)) := (Below.refl _ _).alloc (Nat.le_refl _) _
  clear hs16
  have hrb_16 := hrb_15.go hbb16
  have hrc_16 := hrc_15.go hbb16
  have hrt_16 := hrt_15.go hbb16
  have hrd_16 := same_rd hrd_15 hbb16
  have hb16 := belowGo hb15 hB hbb16
  clear hrb_15 hrc_15 hrt_15 hrd_15 hb15 hbb16
  generalize w15.alloc (.cells #[.int .u8 0, .int .u8 1, .int .u8 2, .int .u8 127, .int .u8 128, .int .u8 1] 5) = w16 at *
  refine (sameBytes_yes A6 _ [0, 1, 2, 127, 128, 1] [0, 1, 2, 127, 128, 1] 6 6 c6 6 w16.heap.size w16 rfl rfl (by decide) rfl hrb_16 hrx_16).mono ?_
  rintro e ws16 ⟨rfl, n16, rfl⟩
  clear hrx_16
  have hrb_17 := hrb_16.now n16
  have hrc_17 := hrc_16.now n16
  have hrt_17 := hrt_16.now n16
  have hrd_17 := hrd_16.drewN n16
  have hb17 := below_drewN hb16 n16
  clear hrb_16 hrc_16 hrt_16 hrd_16 hb16
  generalize w16.drewN n16 = w17 at *
  go_wp2_with fail
  have hrx_18 := Rds.made w17 5 [0, 127, 128, 1] #[.int .u8 0, .int .u8 127, .int .u8 128, .int .u8 1] rfl
  have hs18 : (w17.alloc (.cells #[.int .u8 0, .int .u8 127, .int .u8 128, .int .u8 1] 5)).heap.size = w17.heap.size + 1 := by simp
  rw [← hs18] at hrx_18
  have hbb18 : Below w17.heap.size w17 (w17.alloc (.cells #[.int .u8 0, .int .u8 127, .int .u8 128, .int .u8 1] 5)) := (Below.refl _ _).alloc (Nat.le_refl _) _
  clear hs18
  have hrb_18 := hrb_17.go hbb18
  have hrc_18 := hrc_17.go hbb18
  have hrt_18 := hrt_17.go hbb18
  have hrd_18 := same_rd hrd_17 hbb18
  have hb18 := belowGo hb17 hB hbb18
  clear hrb_17 hrc_17 hrt_17 hrd_17 hb17 hbb18
  generalize w17.alloc (.cells #[.int .u8 0, .int .u8 127, .int .u8 128, .int .u8 1] 5) = w18 at *
  refine (sameBytes_yes A9 _ [0, 127, 128, 1] [0, 127, 128, 1] 4 4 c9 4 w18.heap.size w18 rfl rfl (by decide) rfl hrc_18 hrx_18).mono ?_
  rintro e ws18 ⟨rfl, n18, rfl⟩
  clear hrx_18
  have hrb_19 := hrb_18.now n18
  have hrc_19 := hrc_18.now n18
  have hrt_19 := hrt_18.now n18
  have hrd_19 := hrd_18.drewN n18
  have hb19 := below_drewN hb18 n18
  clear hrb_18 hrc_18 hrt_18 hrd_18 hb18
  generalize w18.drewN n18 = w19 at *
  go_wp2_with fail
  have hrx_20 := Rds.made w19 5 [2, 97, 98] #[.int .u8 2, .int .u8 97, .int .u8 98] rfl
  have hs20 : (w19.alloc (.cells #[.int .u8 2, .int .u8 97, .int .u8 98] 5)).heap.size = w19.heap.size + 1 := by simp
  rw [← hs20] at hrx_20
  have hbb20 : Below w19.heap.size w19 (w19.alloc (.cells #[.int .u8 2, .int .u8 97, .int .u8 98] 5)) := (Below.refl _ _).alloc (Nat.le_refl _) _
  clear hs20
  have hrb_20 := hrb_19.go hbb20
  have hrc_20 := hrc_19.go hbb20
  have hrt_20 := hrt_19.go hbb20
  have hrd_20 := same_rd hrd_19 hbb20
  have hb20 := belowGo hb19 hB hbb20
  clear hrb_19 hrc_19 hrt_19 hrd_19 hb19 hbb20
  generalize w19.alloc (.cells #[.int .u8 2, .int .u8 97, .int .u8 98] 5) = w20 at *
  refine (sameBytes_yes At _ [2, 97, 98] [2, 97, 98] 3 3 ct 3 w20.heap.size w20 rfl rfl (by decide) rfl hrt_20 hrx_20).mono ?_
  rintro e ws20 ⟨rfl, n20, rfl⟩
  clear hrx_20
  have hrb_21 := hrb_20.now n20
  have hrc_21 := hrc_20.now n20
  have hrt_21 := hrt_20.now n20
  have hrd_21 := hrd_20.drewN n20
  have hb21 := below_drewN hb20 n20
  clear hrb_20 hrc_20 hrt_20 hrd_20 hb20
  generalize w20.drewN n20 = w21 at *
  have hbo := bool_go (k := 0) hrd_21 (by decide)
  rw [show truth (List.drop 0 [2]) = (false, 0, 5) from by decide +kernel] at hbo
  have HB := Lib.hid hbo
  clear hbo hrd_21
  go_wp2_with fail
  refine HB.out.mono ?_
  rintro e wb ⟨rfl, hrd2, hgg⟩
  have hbf := hb21.grown hgg hb21.size (fun k hk => by cases hk; exact hgw)
  clear HB
  go_wp2_with fail
  refine (err_made hrd2).mono ?_
  rintro e wc ⟨rfl, rfl⟩
  go_wp2_with fail
  refine (uint_stop (hrd2.ers.off (by decide))).mono ?_
  rintro e wc ⟨rfl, rfl⟩
  go_wp2_with fail
  refine (at_made hrd2).mono ?_
  rintro e wc ⟨rfl, rfl⟩
  go_wp2
  go_ret
  exact ⟨rfl, hbf⟩

open Go.ChangeShapes Go.WideShapes Go.ChangeAt
set_option maxRecDepth 100000 in
theorem names_lifted (os : Os) (started : os.Started) (H : Type) (enc : TypeId × Value → H) :
    ReturnsInHanded {} Try.checked os 3 .any (Rows.wireNamesSpec.pre6 enc Try.prog Try.f3 Rows.wireNamesRow.domain false) (Rows.wireNamesSpec.post enc Try.prog Try.f3 false true false false) := by
  refine returnsInHanded_of_change_sized (C := Try.checked) own started (by kernel_rfl) Try.func3
    (ChangeSpec.witness6 (enc := enc) (C := Try.checked) false ⟨#[], #[], []⟩ 8 (by kernel_rfl) (by kernel_rfl) (by kernel_rfl) (by kernel_rfl)) ?_
  intro W base args ds gs before hval0 hW _ hsz0 _
  have hsz : (DataW.weightsEach Try.prog (Try.f3.params.toList ++ Rows.wireNamesSpec.plain.varTypes Try.prog) (ds ++ gs)).all (· ≤ reachBytes) = true := hsz0
  have hval : ∀ (j : Nat) t v, Try.f3.params[j]? = some t → args[j]? = some v → Value.okWide Try.prog W .any base t v := hval0
  have hW' := hW
  obtain ⟨p, q, hA0, hV, rfl, _, _⟩ := hW
  have hA : DataW.TrodAll enc Try.prog W 0 (fun _ => true) true Try.f3.params.toList args.toList ds p := hA0
  rw [Try.params3] at hA hval hsz
  obtain ⟨hargs, rfl, rfl⟩ := trodAll_nil hA
  obtain rfl : args = #[] := by cases args; simp_all
  exact law_close laid rfl hW' (by kernel_rfl) rfl Try.underlying4 rfl (names_walk W)

theorem wireNames_holds : Rows.WireNamesSaid :=
  OpenClaim.holds_of_wide 3 Try.f3 rfl rfl rfl rfl rfl rfl rfl ⟨rfl, rfl, rfl, rfl, rfl⟩ rfl rfl rfl rfl rfl (by kernel_rfl) Try.func3 (by kernel_rfl)
    (of_decide_eq_true (by kernel_rfl)) (by unfold Func.isWrapper; first | (rw [if_pos (by decide +kernel)]; kernel_rfl) | (rw [if_neg (by decide +kernel)]; exact ⟨rfl, rfl⟩))
    (fun os started H enc _ => names_lifted os started H enc)

#print axioms wireNames_holds
end Go.Proofs.Ytihndehmagfidaa
