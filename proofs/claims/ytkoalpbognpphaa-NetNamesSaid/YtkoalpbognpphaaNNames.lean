/- The statement on the chapter's examples. -/
import Derived.Test.YtkoalpbognpphaaNOpen
import Derived.Test.YtkoalpbognpphaaNSameU
import Derived.Laws.MakeOwn
namespace Go.Proofs.Ytkoalpbognpphaa
open Go.RowKit Go.Maps
set_option linter.unusedVariables false

theorem made8n (n : Nat) : (madeCells (Value.int .u8 0).cells (n * 1)).toList = c8 (List.replicate n 0) := by
  rw [show (Value.int .u8 0).cells = #[.int .u8 0] from rfl, Nat.mul_one]
  unfold madeCells
  apply List.ext_getElem
  · simp [c8]
  · intro i h1 h2
    simp [c8, Nat.mod_one]
/-- a new slice of n bytes 0 -/
theorem made_runN (w : World) (n : Nat) (N : Int) (hN : N = n) (hn : n ≤ 1048576) : ∃ w', (Instr.makeSlice 29 (.int .i64 N) (.int .i64 N)).run Try.prog w = .ok (.slice (some ⟨w.heap.size, 0, none⟩) n n) w' ∧ Below w.heap.size w w' := by
  subst hN
  obtain ⟨i0, hi, hz0, hz1, hz2⟩ := info_parts info8
  obtain ⟨w9, hrun, hown, hgr⟩ := run_make_full (P := Try.prog) w w.heap.size 29 5 i0 (.int .u8 0) 1 Try.underlying29 hi hz0 hz1 .i64 .i64 n (by rw [hz2]; omega) (by unfold maxLen; omega) (Nat.le_refl _)
  exact ⟨w9, hrun, (Below.refl _ _).grown hgr (Nat.le_refl _) (by simp)⟩

theorem at_sendBad {w0 w : World} {b mb : Nat} {es : List (Le × Pl)} {sent : Nat} (h : At7 w0 w b mb es sent) (f t : Int) (A : Option Addr) (n c : Nat) (hn : n ≤ 9223372036854775807) (hE : sendE f t n ≠ 0) :
    Calls Try.prog 9 #[.pointer (some ⟨b, 0, none⟩), .int .i64 f, .int .i64 t, .slice A n c] w fun e w' => e = .returned (.tuple #[.int .u64 0, .int .i64 (sendE f t n)]) ∧ w' = w := by
  obtain ⟨⟨S, h1, h2⟩, h3⟩ := h
  exact sendBad_any h1 f t A n c hn hE
theorem at_deliverNo2 {w0 w : World} {b mb : Nat} {es : List (Le × Pl)} {sent : Nat} (h : At7 w0 w b mb es sent) (x : Int) (hx : 0 ≤ x ∧ x ≤ 18446744073709551615) (hp : pick es x = none) :
    Calls Try.prog 11 #[.pointer (some ⟨b, 0, none⟩), .int .u64 x] w fun e w' => e = .returned (.tuple #[zeroL, .int .i64 6]) ∧ At7 w0 w' b mb es sent ∧ Below w.heap.size w w' := by
  obtain ⟨⟨S, h1, h2⟩, h3⟩ := id h
  refine (deliverNo_any h1 x hx hp).mono ?_
  rintro e w' ⟨rfl, hb⟩
  exact ⟨rfl, h.go hb, hb⟩
theorem Rds.ofCells1 (w : World) : Rds (w.alloc (.cells #[.int .u64 1] 25)) (w.heap.size + 1) (some ⟨w.heap.size, 0, none⟩) (cU [1]) := by
  intro _
  refine ⟨_, rfl, by simp, fun j u hu => ?_⟩
  have hadd : (⟨w.heap.size, 0, none⟩ : Addr).add j = ⟨w.heap.size, j, none⟩ := by unfold Addr.add; split <;> simp_all
  rw [hadd, (Whole.new w _ _).cell j, ← hu]
  simp [cU]
theorem letter_whole (w : World) (c0 c1 c2 c3 c4 : Value) : Whole (w.alloc (.cells #[c0, c1, c2, c3, c4] 32)) w.heap.size 32 #[c0, c1, c2, c3, c4] := Whole.new w _ _
def e1 (k1 : Pl) : Le × Pl := (⟨1, 1, 0, 1, [97]⟩, k1)
def e2 (k2 : Pl) : Le × Pl := (⟨2, 2, 1, 0, [98]⟩, k2)
def e3 (k1 : Pl) : Le × Pl := (⟨3, 1, 0, 1, [97]⟩, k1)

set_option maxHeartbeats 8000000 in
set_option maxRecDepth 100000 in
theorem nnames_walk (w : World) : Calls Try.prog 3 #[] w fun e w' => e = .returned (.bool true) ∧ Below w.heap.size w w' := by
  go_enter Try.func3, Try.ntmps3
  go_wp2_with fail
  refine (lives_any w).mono ?_
  rintro e w0 ⟨rfl, hb0⟩
  go_wp2_with fail
  refine (at_new (w0 := w) hb0).mono ?_
  rintro e w1 ⟨b, mb, rfl, h1, -, -⟩
  have H1 := Lib.hid (h1.go ((Below.refl _ _).alloc (Nat.le_refl _) (.cells #[.int .u8 97] 5 (1, 2))))
  have R1 := Lib.hid (Rds.madeF5 w1 5 [97] #[.int .u8 97] (1, 2) rfl)
  have cv := conv_same5 w1 #[.int .u8 97] 1 1
  clear h1 hb0
  go_wp2_with fail
  refine (at_send H1.out 0 1 (some ⟨w1.heap.size, 0, none⟩) [97] 1 1 rfl (by decide) (by simpa using R1.out) (by omega) (by decide)).mono ?_
  rintro e w2 ⟨rfl, k1, h2⟩
  have H2 := Lib.hid (h2.go ((Below.refl _ _).alloc (Nat.le_refl _) (.cells #[.int .u8 98] 5 (1, 2))))
  have R2 := Lib.hid (Rds.madeF5 w2 5 [98] #[.int .u8 98] (1, 2) rfl)
  have cv := conv_same5 w2 #[.int .u8 98] 1 1
  clear h2
  go_wp2_with fail
  refine (at_send H2.out 1 0 (some ⟨w2.heap.size, 0, none⟩) [98] 1 1 rfl (by decide) (by simpa using R2.out) (by omega) (by simp)).mono ?_
  rintro e w3 ⟨rfl, k2, h3⟩
  have H3 := Lib.hid h3
  clear h3
  go_wp2_with fail
  refine (at_double H3.out 1 (by omega) (p := e1 k1) (by rfl) (by omega) (by simp)).mono ?_
  rintro e w4 ⟨rfl, h4⟩
  have H4 : Hid (At7 w w4 b mb [e1 k1, e2 k2, e3 k1] 3) := Lib.hid h4
  clear h4
  go_wp2_with fail
  refine (at_deliver H4.out 3 (by omega) (p := e3 k1) (by rfl)).mono ?_
  rintro e w5 ⟨k, rfl, h5, hbd⟩
  have h5' : At7 w w5 b mb [e1 k1, e2 k2] 3 := h5
  have RB := Lib.hid hbd.rds
  simp only [val, e3, List.length_cons, List.length_nil, Nat.zero_add]
  have hx := letter_whole w5 (.int .u64 3) (.int .u64 1) (.int .i64 0) (.int .i64 1) (.slice k.1 1 k.2)
  have hba : Below w5.heap.size w5 (w5.alloc (.cells #[.int .u64 3, .int .u64 1, .int .i64 0, .int .i64 1, .slice k.1 1 k.2] 32)) := (Below.refl _ _).alloc (Nat.le_refl _) _
  have H5 := Lib.hid (h5'.go hba)
  have HX := Lib.hid hx
  have RC := Lib.hid (RB.out.below hba)
  have hsz := hba.size
  have HSZ := Lib.hid hsz
  clear h5 h5' hbd hx hba hsz
  go_upto_region 8 with fail
  change Code.wp _ _ _ _ (w5.alloc (.cells #[.int .u64 3, .int .u64 1, .int .i64 0, .int .i64 1, .slice k.1 1 k.2] 32))
  generalize (w5.alloc (.cells #[.int .u64 3, .int .u64 1, .int .i64 0, .int .i64 1, .slice k.1 1 k.2] 32)) = w6 at H5 HX RC HSZ ⊢
  generalize w5.heap.size = x at HX RC HSZ ⊢
  go_wp2_with fail
  refine (at_deliverNo2 H5.out 3 (by omega) (by rfl)).mono ?_
  rintro e w7 ⟨rfl, h7, hb7⟩
  simp only [zeroL]
  have H7 := Lib.hid (h7.go (newL_below w7))
  have hb8 := hb7.trans ((newL_below w7).mono hb7.size)
  have HX8 := Lib.hid (HX.out.below hb8 HX.out.lt)
  have RC8 := Lib.hid ((RC.out.more HSZ.out).below hb8)
  clear h7 hb7 hb8
  go_upto_region 9 with fail
  change Code.wp _ _ _ _ (newL w7)
  generalize newL w7 = w8 at H7 HX8 RC8 ⊢
  obtain ⟨c0, c1, c2, c3, c4⟩ := cells5 HX8.out
  have hcv : (convert 29 9 (.slice k.1 1 k.2)).run Try.prog w8 = .ok (.string ⟨#[97]⟩) w8 := conv_text w8 29 5 9 Try.underlying29 Try.underlying5 Try.underlying9 (zs := [97]) RC8.out k.2
  go_wp2_with fail
  refine (at_to H7.out 1).mono ?_
  rintro e w9 ⟨A9, c9, n9, rfl, hn9, hr9, h9, -⟩
  obtain rfl : n9 = 1 := hn9
  have hba : Below w9.heap.size w9 (w9.alloc (.cells #[.int .u64 1] 25)) := (Below.refl _ _).alloc (Nat.le_refl _) _
  have H9 := Lib.hid (h9.go hba)
  have ct := sameNums_any A9 (some ⟨w9.heap.size, 0, none⟩) [1] [1] c9 1 (w9.heap.size + 1) (w9.alloc (.cells #[.int .u64 1] 25)) (by decide) (by decide) ((hr9.below hba).more (by omega)) (Rds.ofCells1 w9)
  have CT := Lib.hid ct
  clear h9 hr9 hba ct hcv c0 c1 c2 c3 c4
  go_wp2_with fail
  refine CT.out.mono ?_
  rintro e w10 ⟨rfl, n10, rfl⟩
  have e1 : sameU [1] [1] = true := by decide
  rw [e1]
  clear e1
  generalize (w9.alloc (.cells #[.int .u64 1] 25)) = w10 at H9 CT ⊢
  have H10 := Lib.hid (H9.out.go (bDrewN (Below.refl _ _) n10))
  clear H9 CT
  go_wp2_with fail
  refine (at_lose H10.out 1 (by omega) (p := e1 k1) (by rfl)).mono ?_
  rintro e w11 ⟨rfl, h11⟩
  have H11 : Hid (At7 w w11 b mb [e2 k2] 3) := Lib.hid h11
  clear h11
  go_wp2_with fail
  refine (at_to H11.out 1).mono ?_
  rintro e w12 ⟨A12, c12, n12, rfl, hn12, -, h12, -⟩
  obtain rfl : n12 = 0 := hn12
  have H12 := Lib.hid h12
  clear h12
  go_wp2_with fail
  refine (at_sendBad H12.out 0 64 none 0 0 (by omega) (by decide)).mono ?_
  rintro e w13 ⟨rfl, hv⟩
  rw [hv, show sendE 0 64 0 = 2 from by decide]
  clear hv
  obtain ⟨w14, hrun, hb14⟩ := made_runN w12 16385 16385 rfl (by decide)
  have H14 := Lib.hid (H12.out.go hb14)
  clear hb14
  go_wp2_with fail
  refine (at_sendBad H14.out 0 1 (some ⟨w12.heap.size, 0, none⟩) 16385 16385 (by omega) (by decide)).mono ?_
  rintro e w15 ⟨rfl, hv⟩
  rw [hv, show sendE 0 1 16385 = 3 from by decide]
  clear hv hrun
  have HB := Lib.hid H14.out.below
  go_wp2
  go_ret
  exact ⟨rfl, HB.out⟩

open Go.ChangeShapes Go.WideShapes Go.ChangeAt
set_option maxRecDepth 100000 in
theorem nnames_lifted (os : Os) (started : os.Started) (H : Type) (enc : TypeId × Value → H) :
    ReturnsInHanded {} Try.checked os 3 .any (Rows.netNamesSpec.pre6 enc Try.prog Try.f3 Rows.netNamesRow.domain false) (Rows.netNamesSpec.post enc Try.prog Try.f3 false true false false) := by
  refine returnsInHanded_of_change_sized (C := Try.checked) own started (by kernel_rfl) Try.func3
    (ChangeSpec.witness6 (enc := enc) (C := Try.checked) false ⟨#[], #[], []⟩ 8 (by kernel_rfl) (by kernel_rfl) (by kernel_rfl) (by kernel_rfl)) ?_
  intro W base args ds gs before hval0 hW _ hsz0 _
  have hsz : (DataW.weightsEach Try.prog (Try.f3.params.toList ++ Rows.netNamesSpec.plain.varTypes Try.prog) (ds ++ gs)).all (· ≤ reachBytes) = true := hsz0
  have hval : ∀ (j : Nat) t v, Try.f3.params[j]? = some t → args[j]? = some v → Value.okWide Try.prog W .any base t v := hval0
  have hW' := hW
  obtain ⟨p, q, hA0, hV, rfl, _, _⟩ := hW
  have hA : DataW.TrodAll enc Try.prog W 0 (fun _ => true) true Try.f3.params.toList args.toList ds p := hA0
  rw [Try.params3] at hA hval hsz
  obtain ⟨hargs, rfl, rfl⟩ := trodAll_nil hA
  obtain rfl : args = #[] := by cases args; simp_all
  exact law_close laid rfl hW' (by kernel_rfl) rfl Try.underlying4 rfl (nnames_walk W)

theorem netNames_holds : Rows.NetNamesSaid :=
  OpenClaim.holds_of_wide 3 Try.f3 rfl rfl rfl rfl rfl rfl rfl ⟨rfl, rfl, rfl, rfl, rfl⟩ rfl rfl rfl rfl rfl (by kernel_rfl) Try.func3 (by kernel_rfl)
    (of_decide_eq_true (by kernel_rfl)) (by unfold Func.isWrapper; first | (rw [if_pos (by decide +kernel)]; kernel_rfl) | (rw [if_neg (by decide +kernel)]; exact ⟨rfl, rfl⟩))
    (fun os started H enc _ => nnames_lifted os started H enc)

#print axioms netNames_holds
end Go.Proofs.Ytkoalpbognpphaa
