/- The statement on putting down numbers, truths and texts: for all values, behind all bytes, they are put down as the document says. No condition. -/
import Derived.Test.YtihndehmagfidaaLives
import Derived.Test.YtihndehmagfidaaKit
import Derived.Test.YtihndehmagfidaaRef
import Derived.Test.YtihndehmagfidaaEnd
namespace Go.Proofs.Ytihndehmagfidaa
open Go.RowKit Go.Lib
set_option linter.unusedVariables false

set_option maxHeartbeats 3200000 in
theorem writes_walk (A : Option Addr) (zs : List Int) (c : Nat) (x y : Int) (s : ByteArray) (w : World) (hx0 : 0 ≤ x) (hx1 : x ≤ 18446744073709551615) (hy : -9223372036854775808 ≤ y ∧ y ≤ 9223372036854775807) (hs1 : s.size ≤ 140737488351232)
    (hl : zs.length ≤ 140737488351232) (hc : zs.length ≤ c) (hA : A = none → zs.length = 0 ∧ c = 0) (hr : Rds w w.heap.size A (c8 zs)) :
    Calls Try.prog 4 #[.slice A zs.length c, .int .u64 x, .int .i64 y, .string s] w fun e w' => e = .returned (.bool true) ∧ Below w.heap.size w w' := by
  have HA := Lib.hid hA
  clear hA
  have hno : ∀ g : Nat, (some (⟨g, 0, none⟩ : Addr)) = none → zs.length = 0 ∧ zs.length + 5 = 0 := fun g h => by cases h
  have hB := Nat.le_refl w.heap.size
  go_enter Try.func4, Try.ntmps4
  go_wp2_with fail
  refine (lives_any _).mono ?_
  rintro e w1 ⟨rfl, hb1⟩
  have hr1 := hr.go hb1
  go_wp2_with fail
  refine (own_any A zs c w1 hl hr1).mono ?_
  rintro e w2 ⟨g, rfl, hw2, _, hb2'⟩
  have hrb2 := hr1.go hb2'
  have hb2 := belowGo hb1 hB hb2'
  clear hb1 hr1 hb2'
  go_wp2_with fail
  refine (appUint_any (some ⟨g, 0, none⟩) zs (zs.length + 5) x w2 hx0 hx1 hl (by omega) (hno g) (own_reads hw2)).mono ?_
  rintro e w3 ⟨v3, rfl, hown3, hb3'⟩
  obtain ⟨A3, c3, rfl, hr3, _, _, _⟩ := own_open hown3
  have hw3 := hw2.go hb3'
  have hrb3 := hrb2.go hb3'
  have hb3 := belowGo hb2 hB hb3'
  clear hb2 hrb2 hw2 hown3 hb3'
  go_wp2_with fail
  refine (refUint_put A zs c x w3 hx0 hx1 hl hc HA.out hrb3).mono ?_
  rintro e w4 ⟨v4, rfl, hown4, hb4'⟩
  obtain ⟨A4, c4, rfl, hr4, _, _, _⟩ := own_open hown4
  have hr34 := hr3.go hb4'
  have hw4 := hw3.go hb4'
  have hrb4 := hrb3.go hb4'
  have hb4 := belowGo hb3 hB hb4'
  clear hb3 hr3 hw3 hrb3 hown4 hb4'
  have hle5 := enc_length x
  go_wp2_with fail
  refine (sameBytes_yes A3 A4 (zs ++ enc x) (zs ++ enc x) _ _ c3 c4 w4.heap.size w4 (by simp) (by simp) (by omega) rfl hr34 hr4).mono ?_
  rintro e w5 ⟨rfl, n5, rfl⟩
  have hw5 := hw4.drewN n5
  have hrb5 := hrb4.now n5
  have hb5 := below_drewN hb4 n5
  clear hr34 hr4 hw4 hrb4 hb4
  generalize w4.drewN n5 = w5 at *
  go_wp2_with fail
  refine (appInt_any (some ⟨g, 0, none⟩) zs (zs.length + 5) y w5 hy hl (by omega) (hno g) (own_reads hw5)).mono ?_
  rintro e w6 ⟨v6, rfl, hown6, hb6'⟩
  obtain ⟨A6, c6, rfl, hr6, _, _, _⟩ := own_open hown6
  have hw6 := hw5.go hb6'
  have hrb6 := hrb5.go hb6'
  have hb6 := belowGo hb5 hB hb6'
  clear hb5 hrb5 hw5 hown6 hb6'
  go_wp2_with fail
  refine (refInt_put A zs c y w6 hy hl hc HA.out hrb6).mono ?_
  rintro e w7 ⟨v7, rfl, hown7, hb7'⟩
  obtain ⟨A7, c7, rfl, hr7, _, _, _⟩ := own_open hown7
  have hr67 := hr6.go hb7'
  have hw7 := hw6.go hb7'
  have hrb7 := hrb6.go hb7'
  have hb7 := belowGo hb6 hB hb7'
  clear hb6 hr6 hw6 hrb6 hown7 hb7'
  have hle8 := enc_length (zag y)
  go_wp2_with fail
  refine (sameBytes_yes A6 A7 (zs ++ enc (zag y)) (zs ++ enc (zag y)) _ _ c6 c7 w7.heap.size w7 (by simp) (by simp) (by omega) rfl hr67 hr7).mono ?_
  rintro e w8 ⟨rfl, n8, rfl⟩
  have hw8 := hw7.drewN n8
  have hrb8 := hrb7.now n8
  have hb8 := below_drewN hb7 n8
  clear hr67 hr7 hw7 hrb7 hb7
  generalize w7.drewN n8 = w8 at *
  go_wp2_with fail
  refine (appBool_any (some ⟨g, 0, none⟩) zs (zs.length + 5) (decide (0 < y)) w8  hl (by omega) (hno g) (own_reads hw8)).mono ?_
  rintro e w9 ⟨v9, rfl, hown9, hb9'⟩
  obtain ⟨A9, c9, rfl, hr9, _, _, _⟩ := own_open hown9
  have hw9 := hw8.go hb9'
  have hrb9 := hrb8.go hb9'
  have hb9 := belowGo hb8 hB hb9'
  clear hb8 hrb8 hw8 hown9 hb9'
  go_wp2_with fail
  refine (refBool_put A zs c (decide (0 < y)) w9  hl hc HA.out hrb9).mono ?_
  rintro e w10 ⟨v10, rfl, hown10, hb10'⟩
  obtain ⟨A10, c10, rfl, hr10, _, _, _⟩ := own_open hown10
  have hr910 := hr9.go hb10'
  have hw10 := hw9.go hb10'
  have hrb10 := hrb9.go hb10'
  have hb10 := belowGo hb9 hB hb10'
  clear hb9 hr9 hw9 hrb9 hown10 hb10'
  have hle11 := hl
  go_wp2_with fail
  refine (sameBytes_yes A9 A10 (zs ++ [bit (decide (0 < y))]) (zs ++ [bit (decide (0 < y))]) _ _ c9 c10 w10.heap.size w10 (by simp) (by simp) (by omega) rfl hr910 hr10).mono ?_
  rintro e w11 ⟨rfl, n11, rfl⟩
  have hw11 := hw10.drewN n11
  have hrb11 := hrb10.now n11
  have hb11 := below_drewN hb10 n11
  clear hr910 hr10 hw10 hrb10 hb10
  generalize w10.drewN n11 = w11 at *
  by_cases hs : s.size ≤ 65536
  · go_wp2_with fail
    refine (appText_any (some ⟨g, 0, none⟩) zs (zs.length + 5) s w11 hs hl (by omega) (hno g) (own_reads hw11)).mono ?_
    rintro e w12 ⟨v12, rfl, hown12, hb12'⟩
    obtain ⟨A12, c12, rfl, hr12, _, _, _⟩ := own_open hown12
    have hw12 := hw11.go hb12'
    have hrb12 := hrb11.go hb12'
    have hb12 := belowGo hb11 hB hb12'
    clear hb11 hrb11 hw11 hown12 hb12'
    go_wp2_with fail
    refine (refText_put A zs c s w12 hs hl hc HA.out hrb12).mono ?_
    rintro e w13 ⟨v13, rfl, hown13, hb13'⟩
    obtain ⟨A13, c13, rfl, hr13, _, _, _⟩ := own_open hown13
    have hr1213 := hr12.go hb13'
    have hw13 := hw12.go hb13'
    have hrb13 := hrb12.go hb13'
    have hb13 := belowGo hb12 hB hb13'
    clear hb12 hr12 hw12 hrb12 hown13 hb13'
    have hle14 := enc_length (s.size : Int)
    go_wp2_with fail
    refine (sameBytes_yes A12 A13 (zs ++ (enc s.size ++ nums s)) (zs ++ (enc s.size ++ nums s)) _ _ c12 c13 w13.heap.size w13 (by simp) (by simp) (by have := nums_length s; omega) rfl hr1213 hr13).mono ?_
    rintro e w14 ⟨rfl, n14, rfl⟩
    have hw14 := hw13.drewN n14
    have hrb14 := hrb13.now n14
    have hb14 := below_drewN hb13 n14
    clear hr1213 hr13 hw13 hrb13 hb13
    generalize w13.drewN n14 = w14 at *
    go_wp2_with fail
    refine (kept_any A zs c g _ w14 hl hrb14 hw14).mono ?_
    rintro e w15 ⟨rfl, n15, rfl⟩
    go_wp2
    go_ret
    exact ⟨rfl, below_drewN hb14 n15⟩
  · go_wp2_with fail
    refine (appText_long _ _ _ s w11 (by omega) (by omega)).mono ?_
    rintro e w12 ⟨rfl, rfl⟩
    go_wp2_with fail
    refine (refText_long _ _ _ s w12 (by omega) (by omega)).mono ?_
    rintro e w13 ⟨rfl, rfl⟩
    go_wp2_with fail
    refine (sameBytes_yes none none [] [] 0 0 0 0 0 w13 rfl rfl (by omega) rfl Rds.nil_ Rds.nil_).mono ?_
    rintro e w14 ⟨rfl, n14, rfl⟩
    have hw14 := hw11.drewN n14
    have hrb14 := hrb11.now n14
    have hb14 := below_drewN hb11 n14
    clear hw11 hrb11 hb11
    generalize w13.drewN n14 = w14 at *
    go_wp2_with fail
    refine (kept_any A zs c g _ w14 hl hrb14 hw14).mono ?_
    rintro e w15 ⟨rfl, n15, rfl⟩
    go_wp2
    go_ret
    exact ⟨rfl, below_drewN hb14 n15⟩

open Go.ChangeShapes Go.WideShapes Go.ChangeAt
set_option maxRecDepth 100000 in
theorem writes_lifted (os : Os) (started : os.Started) (H : Type) (enc : TypeId × Value → H) :
    ReturnsInHanded {} Try.checked os 4 .any (Rows.wireWritesSpec.pre6 enc Try.prog Try.f4 Rows.wireWritesRow.domain false) (Rows.wireWritesSpec.post enc Try.prog Try.f4 false true false false) := by
  refine returnsInHanded_of_change_sized (C := Try.checked) own started (by kernel_rfl) Try.func4
    (ChangeSpec.witness6 (enc := enc) (C := Try.checked) false ⟨#[], #[.slice none 0 0, .int .u64 0, .int .i64 0, .string ⟨#[]⟩], []⟩ 8 (by kernel_rfl) (by kernel_rfl) (by kernel_rfl) (by kernel_rfl)) ?_
  intro W base args ds gs before hval0 hW _ hsz0 _
  have hsz : (DataW.weightsEach Try.prog (Try.f4.params.toList ++ Rows.wireWritesSpec.plain.varTypes Try.prog) (ds ++ gs)).all (· ≤ reachBytes) = true := hsz0
  have hval : ∀ (j : Nat) t v, Try.f4.params[j]? = some t → args[j]? = some v → Value.okWide Try.prog W .any base t v := hval0
  have hW' := hW
  obtain ⟨p, q, hA0, hV, rfl, _, _⟩ := hW
  have hA : DataW.TrodAll enc Try.prog W 0 (fun _ => true) true Try.f4.params.toList args.toList ds p := hA0
  rw [Try.params4] at hA hval hsz
  obtain ⟨v0, vs0, d0, ds0, p0, q0, hargs, rfl, rfl, h0, r0⟩ := trodAll_cons hA
  obtain ⟨v1, vs1, d1, ds1, p1, q1, rfl, rfl, rfl, h1, r1⟩ := trodAll_cons r0
  obtain ⟨v2, vs2, d2, ds2, p2, q2, rfl, rfl, rfl, h2, r2⟩ := trodAll_cons r1
  obtain ⟨v3, vs3, d3, ds3, p3, q3, rfl, rfl, rfl, h3, r3⟩ := trodAll_cons r2
  obtain ⟨rfl, rfl, rfl⟩ := trodAll_nil r3
  obtain rfl : args = #[v0, v1, v2, v3] := by cases args; simp_all
  obtain ⟨A0, zs0, c0, hb0⟩ := open_bytes Try.underlying23 Try.underlying5 cells8 (hval 0 23 v0 rfl rfl) h0
  have hl0 := hb0.reach hsz (j := 0) (t := 23) (e := 5) rfl rfl Try.underlying23 bytes8
  obtain rfl := hb0.val
  obtain ⟨a1, rfl, rfl, rfl, w1⟩ := open_int Try.underlying26 (hval 1 26 v1 rfl rfl) h1
  have b1 := bounds_u64 w1
  obtain ⟨a2, rfl, rfl, rfl, w2⟩ := open_int Try.underlying2 (hval 2 2 v2 rfl rfl) h2
  have b2 := bounds_i64 w2
  obtain ⟨s3, rfl, rfl, rfl, ws3⟩ := Go.ChangeMaps.open_string Try.underlying9 (hval 3 9 v3 rfl rfl) h3
  have hs3 : s3.size ≤ 140737488351232 := text_reach hsz (j := 3) (t := 9) rfl rfl
  exact law_close laid rfl hW' (by kernel_rfl) rfl Try.underlying4 rfl (writes_walk A0 zs0 c0 a1 a2 s3 W b1.1 b1.2 b2 hs3 hl0 hb0.cap hb0.nil_ hb0.rds)

theorem wireWrites_holds : Rows.WireWritesSaid :=
  OpenClaim.holds_of_wide 4 Try.f4 rfl rfl rfl rfl rfl rfl rfl ⟨rfl, rfl, rfl, rfl, rfl⟩ rfl rfl rfl rfl rfl (by kernel_rfl) Try.func4 (by kernel_rfl)
    (of_decide_eq_true (by kernel_rfl)) (by unfold Func.isWrapper; first | (rw [if_pos (by decide +kernel)]; kernel_rfl) | (rw [if_neg (by decide +kernel)]; exact ⟨rfl, rfl⟩))
    (fun os started H enc _ => writes_lifted os started H enc)

#print axioms wireWrites_holds
end Go.Proofs.Ytihndehmagfidaa
