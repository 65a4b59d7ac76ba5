/- The sum of two pieces, one behind the other, is told by their own sums. Condition: the three pieces hold together no more than 1048576 bytes. -/
import Derived.Test.YtnmnkkohfcbmfaaCChanged
import Derived.JoinedCond
namespace Go.Proofs.Ytnmnkkohfcbmfaa
open Go.RowKit Go.Lib
set_option linter.unusedVariables false

theorem joi_mor {s : Nat} (hs : s < 4294967296) {b : List Int} (hb : Byt b) : joiX s (mor 0 b) (b.length : Int) = mor s b := by
  unfold joiX
  rw [if_neg (by omega), Int.toNat_natCast, ← mor_join hs hb]

theorem more_len (s : Nat) (A : Option Addr) (zs : List Int) (n c lim : Nat) (w : World) (hn : zs.length = n) (hs : s < 4294967296) (hl : n ≤ 9223372036854775807) (hz : Byt zs) (hr : Rds w lim A (c8 zs)) :
    Calls Try.prog 16 #[.int .u32 s, .slice A n c] w fun e w' => e = .returned (.int .u32 (mor s zs)) ∧ w' = w := by
  subst hn
  exact more_any s A zs c lim w hs hl hz hr

set_option maxHeartbeats 3200000 in
set_option maxRecDepth 1000000 in
theorem joins_walk (A B D : Option Addr) (a b d : List Int) (ca cb cd : Nat) (w : World)
    (hla : a.length ≤ 1048576) (hlb : b.length ≤ 1048576) (hld : d.length ≤ 1048576) (hza : Byt a) (hzb : Byt b) (hzd : Byt d)
    (hA : A = none → a.length = 0 ∧ ca = 0) (hB : B = none → b.length = 0 ∧ cb = 0) (hD : D = none → d.length = 0 ∧ cd = 0)
    (hra : Rds w w.heap.size A (c8 a)) (hrb : Rds w w.heap.size B (c8 b)) (hrd : Rds w w.heap.size D (c8 d)) :
    Calls Try.prog 5 #[.slice A a.length ca, .slice B b.length cb, .slice D d.length cd] w fun e w' => e = .returned (.bool true) ∧ Below w.heap.size w w' := by
  have hBB := Nat.le_refl w.heap.size
  have HZA := Lib.hid hza
  have HZB := Lib.hid hzb
  have HZD := Lib.hid hzd
  have HA := Lib.hid hA
  have HB := Lib.hid hB
  have HD := Lib.hid hD
  obtain ⟨i0, hi, hz0, hz1, hz2⟩ := info_parts info8
  clear hza hzb hzd hA hB hD
  go_enter Try.func5, Try.ntmps5
  go_wp2_with fail
  refine (clives_any _).mono ?_
  rintro e w1 ⟨rfl, hb1⟩
  have hra1 := hra.go hb1
  have hrb1 := hrb.go hb1
  have hrd1 := hrd.go hb1
  clear hra hrb hrd
  have hown1 := World.ownsRow_made (base := w1.heap.size) (e := 5) (size := 1) w1 #[] 0 (Nat.le_refl _) (by unfold maxLen; omega) rfl
  have hra1' := hra1.alloc (Nat.le_refl _) (.cells #[] 5)
  go_wp2_with (at_builtin; go_loud (refine app_many (w1.alloc (.cells #[] 5)) rfl (.tmp 15) (.tmp 16) 27 rfl w1.heap.size 5 i0 (.int .u8 0) 1 Try.underlying27 hi hz0 hz1 hz2 rfl _ 0 [] rfl hown1 A a.length ca w1.heap.size (c8 a) rfl (c8_length a).symm hra1' (fun h => (HA.out h).2) (c8_one a) (by unfold maxLen; omega) (by omega) (by simp) ?_))
  intro v2 w2 hown2 hb2'
  have hb2 : Below w1.heap.size w1 w2 := ((Below.refl w1.heap.size w1).alloc (Nat.le_refl _) (.cells #[] 5)).trans hb2'
  have hrb2 := hrb1.below hb2
  clear hown1 hra1' hb2'
  have hs2 := hb2.size
  try simp only [Nat.zero_add, List.nil_append] at hown2
  go_wp2_with (at_builtin; go_loud (refine app_many w2 rfl (.tmp 17) (.tmp 18) 27 rfl w1.heap.size 5 i0 (.int .u8 0) 1 Try.underlying27 hi hz0 hz1 hz2 rfl v2 a.length (c8 a) rfl hown2 B b.length cb w1.heap.size (c8 b) rfl (c8_length b).symm hrb2 (fun h => (HB.out h).2) (c8_one b) (by unfold maxLen; omega) (by omega) hs2 ?_))
  intro v3 w3 hown3 hb3'
  rw [← c8_append] at hown3
  have hb13 : Below w1.heap.size w1 w3 := hb2.trans hb3'
  have hb3 : Below w.heap.size w w3 := belowGo hb1 hBB hb13
  have hra3 := hra1.go hb13
  have hrb3 := hrb1.go hb13
  have hrd3 := hrd1.go hb13
  obtain ⟨A3, c3, rfl, hr3, hc3, hm3, hn3⟩ := own_open hown3
  have H3 := Lib.hid hn3
  clear hown2 hown3 hb2 hb3' hb13 hra1 hrb1 hrd1 hrb2 hs2 hb1 hn3 hm3 hc3
  have hown4 := World.ownsRow_made (base := w3.heap.size) (e := 5) (size := 1) w3 #[] 0 (Nat.le_refl _) (by unfold maxLen; omega) rfl
  have hr3' := hr3.alloc (Nat.le_refl _) (.cells #[] 5)
  go_wp2_with (at_builtin; go_loud (refine app_many (w3.alloc (.cells #[] 5)) rfl (.tmp 20) (.tmp 21) 27 rfl w3.heap.size 5 i0 (.int .u8 0) 1 Try.underlying27 hi hz0 hz1 hz2 rfl _ 0 [] rfl hown4 A3 (a.length + b.length) c3 w3.heap.size (c8 (a ++ b)) rfl (by rw [c8_length, List.length_append]) hr3' (fun h => (H3.out h).2) (c8_one _) (by unfold maxLen; omega) (by omega) (by simp) ?_))
  intro v4 w4 hown4' hb4'
  have hb4 : Below w3.heap.size w3 w4 := ((Below.refl w3.heap.size w3).alloc (Nat.le_refl _) (.cells #[] 5)).trans hb4'
  have hrd4 := hrd3.below hb4
  clear hown4 hr3' hb4'
  have hs4 := hb4.size
  try simp only [Nat.zero_add, List.nil_append] at hown4'
  go_wp2_with (at_builtin; go_loud (refine app_many w4 rfl (.tmp 22) (.tmp 23) 27 rfl w3.heap.size 5 i0 (.int .u8 0) 1 Try.underlying27 hi hz0 hz1 hz2 rfl v4 (a.length + b.length) (c8 (a ++ b)) rfl hown4' D d.length cd w3.heap.size (c8 d) rfl (c8_length d).symm hrd4 (fun h => (HD.out h).2) (c8_one d) (by unfold maxLen; omega) (by omega) hs4 ?_))
  intro v5 w5 hown5 hb5'
  rw [← c8_append] at hown5
  have hb35 : Below w3.heap.size w3 w5 := hb4.trans hb5'
  have hb5 : Below w.heap.size w w5 := belowGo hb3 hBB hb35
  have hra5 := hra3.go hb35
  have hrb5 := hrb3.go hb35
  have hrd5 := hrd3.go hb35
  have hr35 := hr3.go hb35
  obtain ⟨A5, c5, rfl, hr5, hc5, hm5, hn5⟩ := own_open hown5
  clear hown4' hown5 hb4 hb5' hb35 hra3 hrb3 hrd3 hrd4 hs4 hb3 hn5 hm5 hc5 hr3 hi hz0 hz1 hz2
  have hma := mor_lt 0 a
  have hmb := mor_lt 0 b
  have hmd := mor_lt 0 d
  have e1 : joiX (mor 0 a) (mor 0 b) (b.length : Int) = mor 0 (a ++ b) := by rw [joi_mor hma HZB.out, ← mor_append HZA.out]
  have hmab := mor_lt 0 (a ++ b)
  have e2 : joiX (mor 0 (a ++ b)) (mor 0 d) (d.length : Int) = mor 0 ((a ++ b) ++ d) := by rw [joi_mor hmab HZD.out, ← mor_append (HZA.out.append HZB.out)]
  have e3 : mor (mor 0 a) b = mor 0 (a ++ b) := (mor_append HZA.out b).symm
  have E1 := Lib.hid e1
  have E2 := Lib.hid e2
  have E3 := Lib.hid e3
  clear e1 e2 e3
  go_wp2_with fail
  refine (sum_any A a ca _ w5 (by omega) HZA.out hra5).mono ?_
  rintro e w6 ⟨rfl, rfl⟩
  go_wp2_with fail
  refine (sum_any B b cb _ w6 (by omega) HZB.out hrb5).mono ?_
  rintro e w7 ⟨rfl, rfl⟩
  go_wp2_with fail
  refine (joined_any (mor 0 a) (mor 0 b) b.length w7 hma hmb (by omega)).mono ?_
  rintro e w8 ⟨rfl, hb8'⟩
  rw [show errN (b.length : Int) = 0 from if_neg (by omega), E1.out]
  have hb8 := belowGo hb5 hBB hb8'
  have hra8 := hra5.go hb8'
  have hrb8 := hrb5.go hb8'
  have hrd8 := hrd5.go hb8'
  have hr38 := hr35.go hb8'
  have hr8 := hr5.go hb8'
  clear hb5 hra5 hrb5 hrd5 hr35 hr5 hb8'
  go_wp2_with fail
  refine (sum_any D d cd _ w8 (by omega) HZD.out hrd8).mono ?_
  rintro e w9 ⟨rfl, rfl⟩
  go_wp2_with fail
  refine (joined_any (mor 0 (a ++ b)) (mor 0 d) d.length w9 hmab hmd (by omega)).mono ?_
  rintro e w10 ⟨rfl, hb10'⟩
  rw [show errN (d.length : Int) = 0 from if_neg (by omega), E2.out]
  have hb10 := belowGo hb8 hBB hb10'
  have hra10 := hra8.go hb10'
  have hrb10 := hrb8.go hb10'
  have hr310 := hr38.go hb10'
  have hr10 := hr8.go hb10'
  clear hb8 hra8 hrb8 hrd8 hr38 hr8 hb10'
  go_wp2_with fail
  refine (sum_len A3 (a ++ b) (a.length + b.length) c3 _ w10 (by simp) (by omega) (HZA.out.append HZB.out) hr310).mono ?_
  rintro e w11 ⟨rfl, rfl⟩
  go_wp2_with fail
  refine (sum_len A5 ((a ++ b) ++ d) (a.length + b.length + d.length) c5 _ w11 (by simp; omega) (by omega) ((HZA.out.append HZB.out).append HZD.out) hr10).mono ?_
  rintro e w12 ⟨rfl, rfl⟩
  go_wp2_with fail
  refine (sum_any A a ca _ w12 (by omega) HZA.out hra10).mono ?_
  rintro e w13 ⟨rfl, rfl⟩
  go_wp2_with fail
  refine (more_any (mor 0 a) B b cb _ w13 hma (by omega) HZB.out hrb10).mono ?_
  rintro e w14 ⟨rfl, rfl⟩
  rw [E3.out]
  go_wp2
  go_ret
  exact ⟨rfl, hb10⟩

open Go.ChangeShapes Go.WideShapes Go.ChangeAt
theorem cjoins_contract (H : Type) (enc : TypeId × Value → H) (W : World) (base : Nat) (args : Array Value) (ds gs : List (DataW H)) (before : List MemPlace)
    (hval0 : ∀ (j : Nat) t v, Try.f5.params[j]? = some t → args[j]? = some v → Value.okWide Try.prog W .any base t v)
    (hW : DataW.Whole enc Try.prog Try.f5.params.toList Rows.crcJoinsSpec.vars false W args.toList ds gs before) (hk : Rows.uptoSmall H (ds ++ gs) = true) :
    Calls Try.prog 5 args W fun e W2 => ∃ v, e = .returned v ∧ Rows.crcJoinsSpec.post enc Try.prog Try.f5 false true false false W args v W2 := by
  have hval : ∀ (j : Nat) t v, Try.f5.params[j]? = some t → args[j]? = some v → Value.okWide Try.prog W .any base t v := hval0
  have hW' := hW
  obtain ⟨p, q, hA0, hV, rfl, _, _⟩ := hW
  have hA : DataW.TrodAll enc Try.prog W 0 (fun _ => true) true Try.f5.params.toList args.toList ds p := hA0
  rw [Try.params5] at hA hval
  obtain ⟨rfl, rfl⟩ := trodVars_none hV
  obtain ⟨v0, vs0, d0, ds0, p0, q0, hargs, rfl, rfl, h0, r0⟩ := trodAll_cons hA
  obtain ⟨v1, vs1, d1, ds1, p1, q1, rfl, rfl, rfl, h1, r1⟩ := trodAll_cons r0
  obtain ⟨v2, vs2, d2, ds2, p2, q2, rfl, rfl, rfl, h2, r2⟩ := trodAll_cons r1
  obtain ⟨rfl, rfl, rfl⟩ := trodAll_nil r2
  obtain rfl : args = #[v0, v1, v2] := by cases args; simp_all
  have hbulk := upto_bound hk
  obtain ⟨A0, zs0, c0, hb0⟩ := open_bytes Try.underlying27 Try.underlying5 cells8 (hval 0 27 v0 rfl rfl) h0
  have hl0 : zs0.length ≤ 1048576 := hb0.bulk (upto_part hbulk (by simp))
  obtain rfl := hb0.val
  obtain ⟨A1, zs1, c1, hb1⟩ := open_bytes Try.underlying27 Try.underlying5 cells8 (hval 1 27 v1 rfl rfl) h1
  have hl1 : zs1.length ≤ 1048576 := hb1.bulk (upto_part hbulk (by simp))
  obtain rfl := hb1.val
  obtain ⟨A2, zs2, c2, hb2⟩ := open_bytes Try.underlying27 Try.underlying5 cells8 (hval 2 27 v2 rfl rfl) h2
  have hl2 : zs2.length ≤ 1048576 := hb2.bulk (upto_part hbulk (by simp))
  obtain rfl := hb2.val
  exact law_close laid rfl hW' (by kernel_rfl) rfl Try.underlying4 rfl (joins_walk A0 A1 A2 zs0 zs1 zs2 c0 c1 c2 W hl0 hl1 hl2 hb0.byt hb1.byt hb2.byt hb0.nil_ hb1.nil_ hb2.nil_ hb0.rds hb1.rds hb2.rds)

set_option maxRecDepth 100000 in
theorem cjoins_lifted (os : Os) (started : os.Started) (H : Type) (enc : TypeId × Value → H) (F : Stop.Interp) :
    ReturnsInHanded {} Try.checked os 5 .any ((Rows.OpenSpec.upto Rows.crcJoinsSpec).pre6 enc Try.prog Try.f5 Rows.crcJoinsUptoRow.domain false) (((Rows.OpenSpec.upto Rows.crcJoinsSpec).at F).post enc Try.prog Try.f5 false true false false) := by
  refine returnsInHanded_of_cond (C := Try.checked) (s := Rows.OpenSpec.upto Rows.crcJoinsSpec) (k := Rows.uptoSmall) rfl own started (by kernel_rfl) Try.func5
    (OpenSpec.witness (enc := enc) (C := Try.checked) (s := Rows.OpenSpec.upto Rows.crcJoinsSpec) (k := Rows.uptoSmall) rfl false ⟨#[], #[.slice none 0 0, .slice none 0 0, .slice none 0 0], []⟩ 8 (by kernel_rfl) (by kernel_rfl) (by kernel_rfl)
      (x := ([.nil, .nil, .nil], [], [])) (by kernel_rfl) rfl (by kernel_rfl)) ?_
  intro W base args ds gs before hval hW _ hk _
  exact cjoins_contract H enc W base args ds gs before hval hW hk

theorem crcJoins_holds : Rows.CrcJoinsUptoSaid :=
  OpenClaim.holds_of_cond 5 Try.f5 rfl rfl rfl rfl rfl rfl rfl ⟨rfl, rfl, rfl, rfl, rfl⟩ rfl rfl rfl rfl rfl (by kernel_rfl) Try.func5 (by kernel_rfl)
    (of_decide_eq_true (by kernel_rfl)) (by unfold Func.isWrapper; first | (rw [if_pos (by decide +kernel)]; kernel_rfl) | (rw [if_neg (by decide +kernel)]; exact ⟨rfl, rfl⟩))
    (fun os started H enc _ F => cjoins_lifted os started H enc F)

#print axioms crcJoins_holds
end Go.Proofs.Ytnmnkkohfcbmfaa
