/- The worked examples of the chapter come out as they are written. -/
import Derived.Test.YtnpomiidkdnebaaDSameT
import Derived.Test.YtnpomiidkdnebaaDLives
import Derived.Test.YtnpomiidkdnebaaEnd
import Derived.Lib.SlBytesConst
namespace Go.Proofs.Ytnpomiidkdnebaa
open Go.RowKit
set_option linter.unusedVariables false

theorem conv_same (w : World) (C : Array Value) (n c : Nat) : (convert 29 29 (.slice (some ⟨w.heap.size, 0, none⟩) n c)).run Try.prog (w.alloc (.cells C 5)) = .ok (.slice (some ⟨w.heap.size, 0, none⟩) n c) (w.alloc (.cells C 5 (C.size, C.size + 1))) :=
  Lib.run_convert_bytes_const w 29 5 C n c Try.underlying29 Try.underlying5
theorem Rds.madeF (w : World) (t : TypeId) (zs : List Int) (cs : Array Value) (fr : Nat × Nat) (h : cs.toList = c8 zs) : Rds (w.alloc (.cells cs t fr)) (w.heap.size + 1) (some ⟨w.heap.size, 0, none⟩) (c8 zs) := by
  intro _
  refine ⟨_, rfl, by simp, fun j u hu => ?_⟩
  have hadd : (⟨w.heap.size, 0, none⟩ : Addr).add j = ⟨w.heap.size, j, none⟩ := by unfold Addr.add; split <;> simp_all
  rw [hadd, cell_of_row _ _ j cs t fr (heap_alloc_new w _), ← hu, ← h]
  simp

def nB : ByteArray := ByteArray.mk #[98]
def dA4 : Dsk := ⟨100, [⟨[97], z70 ++ [120, 121, 122], 70⟩], false, -1, 5⟩
def dA5 : Dsk := ⟨100, [⟨[97], z70 ++ [120, 121], 72⟩], false, -1, 5⟩
def dA6 : Dsk := ⟨100, [⟨[97], z70 ++ [120, 121], 72⟩], false, 0, 5⟩
def dA7 : Dsk := ⟨100, [⟨[97], z70 ++ [120, 121], 72⟩], true, 0, 5⟩
def dA9 : Dsk := ⟨100, [⟨[98], z70 ++ [120, 121], 72⟩], false, -1, 6⟩
theorem eA4 : dAppend dA3 (lst nA) [120, 121, 122] = (0, dA4) := by kernel_rfl
theorem eA5 : dCrash dA4 [2] = (0, dA5) := by kernel_rfl
theorem eA5r : dRead dA5 (lst nA) = (z70 ++ [120, 121], 0) := by kernel_rfl
theorem eA5s : dSynced dA5 (lst nA) = (72, 0) := by kernel_rfl
theorem eA5a : dAppend dA5 (lst nA) (List.replicate 29 0) = (8, dA5) := by kernel_rfl
theorem eA6 : dFuse dA5 0 = (0, dA6) := by kernel_rfl
theorem eA7 : dSync dA6 (lst nA) = (10, dA7) := by kernel_rfl
theorem eA8 : dCrash dA7 [] = (0, dA5) := by kernel_rfl
theorem eA9 : dRename dA5 (lst nA) (lst nB) = (0, dA9) := by kernel_rfl
theorem eA9n : dNames dA9 = [[98]] := by kernel_rfl
theorem eA9r : dRead dA9 (lst nA) = ([], 6) := by kernel_rfl
theorem okA4 : Okd dA4 := by have := okd_append okA3 (lst nA) [120, 121, 122]; rw [eA4] at this; exact this
theorem okA5 : Okd dA5 := by have := okd_crash okA4 [2]; rw [eA5] at this; exact this
theorem okA6 : Okd dA6 := by have := okd_fuse okA5 (n := 0) (by decide); rw [eA6] at this; exact this
theorem okA7 : Okd dA7 := by have := okd_sync okA6 (lst nA); rw [eA7] at this; exact this
theorem okA9 : Okd dA9 := by have := okd_rename okA5 (lst nA) (lst nB); rw [eA9] at this; exact this
theorem eA10 : ∃ D, dTurn (xr 1) dA9 (lst nB) 0 = (0, D) ∧ (dTurn (xr 1) D (lst nB) 72).1 = 6 ∧ Okd D := by
  have h : (dTurn (xr 1) dA9 (lst nB) 0).1 = 0 := by kernel_rfl
  exact ⟨(dTurn (xr 1) dA9 (lst nB) 0).2, Prod.ext h rfl, by kernel_rfl, okd_turn okA9 _ _ _⟩

set_option maxHeartbeats 8000000 in
set_option maxRecDepth 8000 in
theorem names_walk (w : World) : Calls Try.prog 3 #[] w fun e w' => e = .returned (.bool true) ∧ Below w.heap.size w w' := by
  have hconv := conv_same
  go_enter Try.func3, Try.ntmps3
  go_wp2_with fail
  refine (lives_any w).mono ?_
  rintro e w0 ⟨rfl, hb0⟩
  go_wp2_with fail
  refine (new_any 100 (by decide) w0).mono ?_
  rintro e w1 ⟨S1, d, rfl, hk1, hb1', hS1'⟩
  have hb1 : Below w.heap.size w w1 := hb0.trans (hb1'.mono hb0.size)
  have hS1 : ∀ k, S1 k → w.heap.size ≤ k := fun k hk => Nat.le_trans hb0.size (hS1' k hk)
  clear hb1' hS1' hb0
  go_wp2_with fail
  have hm := make_any nA (by decide) w1 hk1 (okd_room (okd_new 100 (by decide)) (by decide))
  rw [eA1] at hm
  refine hm.mono ?_
  rintro e w2 ⟨rfl, S2, hk2, ht2⟩
  obtain ⟨hb2, hS2⟩ := Turn.go hb1 (Nat.le_refl _) ht2 hS1
  obtain ⟨w3, hrun, hr3, hb3⟩ := made_run w2 70 70 rfl (by decide)
  have hk3 := hk2.go hb3
  have hb3' : Below w.heap.size w w3 := hb2.trans (hb3.mono hb2.size)
  have hlt2 := hk2.lt
  clear hm hk1 hb1 hS1 ht2
  go_wp2_with fail
  have ha := append_any nA (by decide) z70 (some ⟨w2.heap.size, 0, none⟩) 70 70 w3 hk3 (okd_room okA1 (by decide)) okA1 rfl (by decide) (by decide) (fun e => by cases e) hr3 (fun ad e _ hs => by obtain rfl := Option.some.inj e; exact Nat.lt_irrefl _ (hlt2 _ hs))
  rw [eA2] at ha
  refine ha.mono ?_
  rintro e w4 ⟨rfl, S4, hk4, ht4⟩
  obtain ⟨hb4, hS4⟩ := Turn.go hb3' (Nat.le_refl _) ht4 hS2
  clear ha hrun hr3 hk2 hk3 hb2 hb3 hb3' hlt2 ht4
  go_wp2_with fail
  have hs := sync_any nA (by decide) w4 hk4 (okd_room okA2 (by decide))
  rw [eA3] at hs
  refine hs.mono ?_
  rintro e w5 ⟨rfl, S5, hk5, ht5⟩
  obtain ⟨hb5, hS5⟩ := Turn.go hb4 (Nat.le_refl _) ht5 hS4
  clear hs hk4 hb4 hS4 ht5
  -- xyz
  go_wp2_with fail
  have hr6 := Rds.madeF w5 5 [120, 121, 122] #[.int .u8 120, .int .u8 121, .int .u8 122] (3, 4) rfl
  have hb6 : Below w5.heap.size w5 (w5.alloc (.cells #[.int .u8 120, .int .u8 121, .int .u8 122] 5 (3, 4))) := (Below.refl _ _).alloc (Nat.le_refl _) _
  have hk6 := hk5.go hb6
  have hb6' : Below w.heap.size w _ := hb5.trans (hb6.mono hb5.size)
  have hlt5 := hk5.lt
  have ha := append_any nA (by decide) [120, 121, 122] (some ⟨w5.heap.size, 0, none⟩) 3 3 _ hk6 (okd_room okA3 (by decide)) okA3 rfl (by decide) (by decide) (fun e => by cases e) (by simpa using hr6) (fun ad e _ hs => by obtain rfl := Option.some.inj e; exact Nat.lt_irrefl _ (hlt5 _ hs))
  rw [eA4] at ha
  refine ha.mono ?_
  rintro e w7 ⟨rfl, S7, hk7, ht7⟩
  obtain ⟨hb7, hS7⟩ := Turn.go hb6' (Nat.le_refl _) ht7 hS5
  clear ha hr6 hb6 hk6 hb6' hlt5 ht7 hk5 hb5 hS5
  -- Crash of 2
  go_wp2_with fail
  have hb8 : Below w7.heap.size w7 (w7.alloc (.cells #[.int .i64 2] 3)) := (Below.refl _ _).alloc (Nat.le_refl _) _
  have hr8 : Rds (w7.alloc (.cells #[.int .i64 2] 3)) (w7.alloc (.cells #[.int .i64 2] 3)).heap.size (some ⟨w7.heap.size, 0, none⟩) (cN [2]) := by
    intro _
    refine ⟨_, rfl, by simp, fun j u hu => ?_⟩
    exact one_new w7 3 (.int .i64 2) j u hu
  have hk8 := hk7.go hb8
  have hb8' : Below w.heap.size w _ := hb7.trans (hb8.mono hb7.size)
  have hlt7 := hk7.lt
  have hc := crash_any (some ⟨w7.heap.size, 0, none⟩) [2] 1 1 _ hk8 (okd_room okA4 (by decide)) okA4 rfl (by decide) (by decide) hr8 (fun ad e _ hs => by obtain rfl := Option.some.inj e; exact Nat.lt_irrefl _ (hlt7 _ hs))
  rw [eA5] at hc
  refine hc.mono ?_
  rintro e w9 ⟨rfl, S9, hk9, ht9⟩
  obtain ⟨hb9, hS9⟩ := Turn.go hb8' (Nat.le_refl _) ht9 hS7
  clear hc hr8 hb8 hk8 hb8' hlt7 ht9 hk7 hb7 hS7
  -- Read, Synced
  go_wp2_with fail
  have hrd := read_any nA (by decide) w9 hk9 (len30 okA5)
  rw [eA5r] at hrd
  refine hrd.mono ?_
  rintro e w10 ⟨v, rfl, hv, hb10'⟩
  obtain ⟨A10, c10, rfl, _, _, _, _⟩ := own_open hv
  have hl72 : (z70 ++ [120, 121]).length = 72 := by decide +kernel
  simp only [hl72] at hv ⊢
  have hk10 := hk9.go hb10'
  have hb10 : Below w.heap.size w w10 := hb9.trans (hb10'.mono hb9.size)
  clear hrd hv hb10' hk9 hb9 hl72
  go_wp2_with fail
  have hsy := synced_any nA (by decide) w10 hk10
  rw [eA5s] at hsy
  refine hsy.mono ?_
  rintro e w11 ⟨rfl, hb11'⟩
  have hk11 := hk10.go hb11'
  have hb11 : Below w.heap.size w w11 := hb10.trans (hb11'.mono hb10.size)
  clear hsy hb11' hk10 hb10
  -- Append of 29
  obtain ⟨w12, hrun, hr12, hb12'⟩ := made_run w11 29 29 rfl (by decide)
  have hk12 := hk11.go hb12'
  have hb12 : Below w.heap.size w w12 := hb11.trans (hb12'.mono hb11.size)
  have hlt11 := hk11.lt
  go_wp2_with fail
  have ha := append_any nA (by decide) (List.replicate 29 0) (some ⟨w11.heap.size, 0, none⟩) 29 29 w12 hk12 (okd_room okA5 (by decide)) okA5 rfl (by decide) (by decide) (fun e => by cases e) hr12 (fun ad e _ hs => by obtain rfl := Option.some.inj e; exact Nat.lt_irrefl _ (hlt11 _ hs))
  rw [eA5a] at ha
  refine ha.mono ?_
  rintro e w13 ⟨rfl, S13, hk13, ht13⟩
  obtain ⟨hb13, hS13⟩ := Turn.go hb12 (Nat.le_refl _) ht13 hS9
  clear ha hrun hr12 hb12' hk12 hlt11 hk11 hb11 hb12 ht13 hS9
  -- Fuse, Sync, On
  go_wp2_with fail
  have hf := fuse_any 0 w13 hk13
  rw [eA6] at hf
  refine hf.mono ?_
  rintro e w14 ⟨rfl, hk14, ht14⟩
  obtain ⟨hb14, hS14⟩ := Turn.go hb13 (Nat.le_refl _) ht14 hS13
  clear hf ht14 hk13 hb13
  go_wp2_with fail
  have hs := sync_any nA (by decide) w14 hk14 (okd_room okA6 (by decide))
  rw [eA7] at hs
  refine hs.mono ?_
  rintro e w15 ⟨rfl, S15, hk15, ht15⟩
  obtain ⟨hb15, hS15⟩ := Turn.go hb14 (Nat.le_refl _) ht15 hS14
  clear hs ht15 hk14 hb14 hS14
  go_wp2_with fail
  refine (on_any w15 hk15).mono ?_
  rintro e w16 ⟨rfl, hw16⟩
  rw [hw16]
  clear hw16 w16
  rw [show (!dA7.off) = false from rfl]
  -- Crash of none
  go_wp2_with fail
  have hc := crash_any none [] 0 0 w15 hk15 (okd_room okA7 (by decide)) okA7 rfl (by decide) (by decide) Rds.none_ (fun ad e => by cases e)
  rw [eA8] at hc
  refine hc.mono ?_
  rintro e w17 ⟨rfl, S17, hk17, ht17⟩
  obtain ⟨hb17, hS17⟩ := Turn.go hb15 (Nat.le_refl _) ht17 hS15
  clear hc ht17 hk15 hb15 hS15
  go_wp2_with fail
  refine (on_any w17 hk17).mono ?_
  rintro e w18 ⟨rfl, hw18⟩
  rw [hw18]
  clear hw18 w18
  rw [show (!dA5.off) = true from rfl]
  go_wp2_with fail
  have hl := left_any w17 hk17
  rw [show dLeft dA5 = 28 by kernel_rfl] at hl
  refine hl.mono ?_
  rintro e w18 ⟨rfl, hw18⟩
  rw [hw18]
  clear hw18 w18 hl
  -- Rename, Names
  go_wp2_with fail
  have hn := rename_any nA nB (by decide) (by decide) w17 hk17 (okd_room okA5 (by decide)) okA5
  rw [eA9] at hn
  refine hn.mono ?_
  rintro e w19 ⟨rfl, S19, hk19, ht19⟩
  obtain ⟨hb19, hS19⟩ := Turn.go hb17 (Nat.le_refl _) ht19 hS17
  clear hn ht19 hk17 hb17 hS17
  go_wp2_with fail
  have hna := names_on w19 hk19 (by decide) okA9.srt
  rw [eA9n] at hna
  refine hna.mono ?_
  rintro e w20 ⟨v, rfl, hv, hb20'⟩
  obtain ⟨A20, c20, rfl, hr20, _, _, _⟩ := own_open hv
  have hk20 := hk19.go hb20'
  have hb20 : Below w.heap.size w w20 := hb19.trans (hb20'.mono hb19.size)
  clear hna hv hb20' hk19 hb19
  go_wp2_with fail
  have hb21' : Below w20.heap.size w20 (w20.alloc (.cells #[.string nB] 9)) := (Below.refl _ _).alloc (Nat.le_refl _) _
  have hr21 : Rds (w20.alloc (.cells #[.string nB] 9)) (w20.alloc (.cells #[.string nB] 9)).heap.size (some ⟨w20.heap.size, 0, none⟩) (cS [[98]]) := by
    intro _
    refine ⟨_, rfl, by simp, fun j u hu => ?_⟩
    exact one_new w20 9 (.string nB) j u hu
  have hst := sameTexts_any A20 (some ⟨w20.heap.size, 0, none⟩) [[98]] [[98]] 1 1 c20 1 (w20.alloc (.cells #[.string nB] 9)).heap.size (w20.alloc (.cells #[.string nB] 9)) rfl rfl (by decide) (by decide) ((hr20.below hb21').more hb21'.size) hr21
  rw [show sameT [[98]] [[98]] = true from rfl] at hst
  refine hst.mono ?_
  rintro e w22 ⟨rfl, q, rfl⟩
  have hb22' := bDrewN hb21' q
  have hk22 := hk20.go hb22'
  have hb22 : Below w.heap.size w _ := hb20.trans (hb22'.mono hb20.size)
  clear hst hr21 hr20 hb21' hb22' hk20 hb20
  generalize (w20.alloc (.cells #[.string nB] 9)).drewN q = w23 at *
  -- Read, Turn
  go_wp2_with fail
  have hrd := read_any nA (by decide) w23 hk22 (len30 okA9)
  rw [eA9r] at hrd
  refine hrd.mono ?_
  rintro e w24 ⟨v, rfl, hv, hb24'⟩
  have hk24 := hk22.go hb24'
  have hb24 : Below w.heap.size w w24 := hb22.trans (hb24'.mono hb22.size)
  clear hrd hv hb24' hk22 hb22
  obtain ⟨D10, eT, eT2, okT⟩ := eA10
  go_wp2_with fail
  have htu := turn_any nB (by decide) 0 1 w24 hk24 okA9
  rw [eT] at htu
  refine htu.mono ?_
  rintro e w25 ⟨rfl, S25, hk25, ht25⟩
  obtain ⟨hb25, hS25⟩ := Turn.go hb24 (Nat.le_refl _) ht25 hS19
  clear htu ht25 hk24 hb24
  go_wp2_with fail
  have htu := turn_any nB (by decide) 72 1 w25 hk25 okT
  rw [eT2] at htu
  refine htu.mono ?_
  rintro e w26 ⟨rfl, S26, hk26, ht26⟩
  obtain ⟨hb26, hS26⟩ := Turn.go hb25 (Nat.le_refl _) ht26 hS25
  clear htu ht26 hk25 hb25
  go_wp2
  go_returns
  exact ⟨by simp, hb26⟩

open Go.ChangeShapes Go.WideShapes Go.ChangeAt
set_option maxRecDepth 100000 in
theorem dnames_lifted (os : Os) (started : os.Started) (H : Type) (enc : TypeId × Value → H) :
    ReturnsInHanded {} Try.checked os 3 .any (Rows.diskNamesSpec.pre6 enc Try.prog Try.f3 Rows.diskNamesRow.domain false) (Rows.diskNamesSpec.post enc Try.prog Try.f3 false true false false) := by
  refine returnsInHanded_of_change_sized (C := Try.checked) own started (by kernel_rfl) Try.func3
    (ChangeSpec.witness6 (enc := enc) (C := Try.checked) false ⟨#[], #[], []⟩ 8 (by kernel_rfl) (by kernel_rfl) (by kernel_rfl) (by kernel_rfl)) ?_
  intro W base args ds gs before hval0 hW _ hsz0 _
  have hsz : (DataW.weightsEach Try.prog (Try.f3.params.toList ++ Rows.diskNamesSpec.plain.varTypes Try.prog) (ds ++ gs)).all (· ≤ reachBytes) = true := hsz0
  have hval : ∀ (j : Nat) t v, Try.f3.params[j]? = some t → args[j]? = some v → Value.okWide Try.prog W .any base t v := hval0
  have hW' := hW
  obtain ⟨p, q, hA0, hV, rfl, _, _⟩ := hW
  have hA : DataW.TrodAll enc Try.prog W 0 (fun _ => true) true Try.f3.params.toList args.toList ds p := hA0
  rw [Try.params3] at hA hval hsz
  obtain ⟨hargs, rfl, rfl⟩ := trodAll_nil hA
  obtain rfl : args = #[] := by cases args; simp_all
  exact law_close laid rfl hW' (by kernel_rfl) rfl Try.underlying4 rfl (names_walk W)

theorem diskNames_holds : Rows.DiskNamesSaid :=
  OpenClaim.holds_of_wide 3 Try.f3 rfl rfl rfl rfl rfl rfl rfl ⟨rfl, rfl, rfl, rfl, rfl⟩ rfl rfl rfl rfl rfl (by kernel_rfl) Try.func3 (by kernel_rfl)
    (of_decide_eq_true (by kernel_rfl)) (by unfold Func.isWrapper; first | (rw [if_pos (by decide +kernel)]; kernel_rfl) | (rw [if_neg (by decide +kernel)]; exact ⟨rfl, rfl⟩))
    (fun os started H enc _ => dnames_lifted os started H enc)

#print axioms diskNames_holds
end Go.Proofs.Ytnpomiidkdnebaa
