/- The statement's closing: the stage's theorem. -/
import Derived.Test.YtbobakfcmkaijaaGreatDoorM25
namespace Go.Proofs.YtbobakfcmkaijaaGreatDoor
open Go.RowKit
set_option linter.unusedVariables false
open Go.ChangeShapes Go.WideShapes Go.ChangeAt
set_option maxRecDepth 100000 in
theorem snapcrash_contract (H : Type) (enc : TypeId × Value → H) (W : World) (base : Nat) (args : Array Value) (ds gs : List (DataW H)) (before : List MemPlace)
    (hval0 : ∀ (j : Nat) t v, Tryz.f5.params[j]? = some t → args[j]? = some v → Value.okWide Tryz.prog W .any base t v)
    (hW : DataW.Whole enc Tryz.prog Tryz.f5.params.toList Rows.snapCrashSpec.vars false W args.toList ds gs before) (hsz : (DataW.weightsEach Tryz.prog (Tryz.f5.params.toList ++ Rows.snapCrashSpec.plain.varTypes Tryz.prog) (ds ++ gs)).all (· ≤ reachBytes) = true) (hp : Pow W) (hm : MaxL W) :
    Calls Tryz.prog 5 args W fun e W2 => ∃ v, e = .returned v ∧ Rows.snapCrashSpec.post enc Tryz.prog Tryz.f5 false true false false W args v W2 := by
  have hval : ∀ (j : Nat) t v, Tryz.f5.params[j]? = some t → args[j]? = some v → Value.okWide Tryz.prog W .any base t v := hval0
  have hW' := hW
  obtain ⟨p, q, hA0, hV, rfl, _, _⟩ := hW
  have hA : DataW.TrodAll enc Tryz.prog W 0 (fun _ => true) true Tryz.f5.params.toList args.toList ds p := hA0
  rw [Tryz.params5] at hA hval hsz
  obtain ⟨v0, vs0, d0, ds0, p0, q0, hargs, rfl, rfl, h0, r0⟩ := trodAll_cons hA
  obtain ⟨v1, vs1, d1, ds1, p1, q1, rfl, rfl, rfl, h1, r1⟩ := trodAll_cons r0
  obtain ⟨v2, vs2, d2, ds2, p2, q2, rfl, rfl, rfl, h2, r2⟩ := trodAll_cons r1
  obtain ⟨v3, vs3, d3, ds3, p3, q3, rfl, rfl, rfl, h3, r3⟩ := trodAll_cons r2
  obtain ⟨v4, vs4, d4, ds4, p4, q4, rfl, rfl, rfl, h4, r4⟩ := trodAll_cons r3
  obtain ⟨rfl, rfl, rfl⟩ := trodAll_nil r4
  obtain rfl : args = #[v0, v1, v2, v3, v4] := by cases args; simp_all
  obtain ⟨A0, ys0, c0, hy0⟩ := open_lists (hval 0 40 v0 rfl rfl) h0
  obtain rfl := hy0.val
  obtain ⟨A1, bs1, c1, ho1⟩ := open_bools (hval 1 53 v1 rfl rfl) h1
  obtain rfl := ho1.val
  obtain ⟨A2, bs2, c2, ho2⟩ := open_bools (hval 2 53 v2 rfl rfl) h2
  obtain rfl := ho2.val
  obtain ⟨a3, rfl, rfl, rfl, w3⟩ := open_int Tryz.underlying3 (hval 3 3 v3 rfl rfl) h3
  have b3 := bounds_i64 w3
  obtain ⟨A4, zs4, c4, hn4⟩ := open_nums Tryz.underlying54 Tryz.underlying3 cellsN (hval 4 54 v4 rfl rfl) h4
  have hl4 := hn4.reach hsz (j := 4) (t := 54) (e := 3) rfl rfl Tryz.underlying54 bytesN
  obtain rfl := hn4.val
  exact law_close laid rfl hW' (by kernel_rfl) rfl Tryz.underlying4 rfl (scrash_walk A0 A1 A2 A4 ys0 bs1 bs2 zs4 ys0.length c0 bs1.length c1 bs2.length c2 zs4.length c4 a3 W hp hm rfl hy0.len hy0.cap hy0.byt hy0.lens hy0.rds hy0.bods rfl ho1.rds rfl ho2.rds rfl (by have := hn4.cap; have := hn4.capMax; unfold maxLen at this; omega) (fun z hz => (hn4.i64 z hz).2) hn4.rds b3)

theorem snapcrash_reads (os : Os) {H : Type} (enc : TypeId × Value → H) : ∃ places, DataW.whole enc Tryz.prog ((laidWorld os).forCall (fun _ _ => 0) ⟨#[], #[.slice none 0 0, .slice none 0 0, .slice none 0 0, .int .i64 0, .slice none 0 0], []⟩).memory Tryz.f5.params.toList Rows.snapCrashSpec.vars false (#[.slice none 0 0, .slice none 0 0, .slice none 0 0, .int .i64 0, .slice none 0 0] : Array Value).toList 8 = some ([.nil, .nil, .nil, .lit (.int .i64 0), .nil], [], places) :=
  ⟨[], by kernel_rfl⟩

set_option maxRecDepth 100000 in
theorem snapcrash_lifted (os : Os) (started : os.Started) (H : Type) (enc : TypeId × Value → H) (F : Stop.Interp) :
    ReturnsInHanded {} Tryz.checked os 5 .any ((OpenSpec.ofChange Rows.snapCrashSpec).preRow enc Tryz.prog Tryz.f5 Rows.snapCrashRow.domain false Rows.snapCrashRow.laid) (((OpenSpec.ofChange Rows.snapCrashSpec).at F).post enc Tryz.prog Tryz.f5 false true false false) := by
  obtain ⟨places, hx⟩ := snapcrash_reads os enc
  refine returnsInHanded_of_row (C := Tryz.checked) (s := OpenSpec.ofChange Rows.snapCrashSpec) own started (by kernel_rfl) Tryz.func5
    (witness_row_at (enc := enc) (C := Tryz.checked) false (laidWorld os) #[.slice none 0 0, .slice none 0 0, .slice none 0 0, .int .i64 0, .slice none 0 0] (laidWorld_os os) (by kernel_rfl) (by kernel_rfl) (by kernel_rfl)
      (OpenSpec.preRow_of_cond 8 hx (by kernel_rfl) (fun k hk => by cases hk) (by kernel_rfl) (laidWorld_met os _))) ?_
  intro W base args ds gs before hval hW _ _ hsz hL hsh _
  exact snapcrash_contract H enc W base args ds gs before hval hW hsz (pow_of hL) (maxL_of hsh)

theorem snapCrash_said : Rows.SnapCrashSaid :=
  OpenClaim.holds_of_cond 5 Tryz.f5 rfl rfl rfl rfl rfl rfl rfl ⟨rfl, rfl, rfl, rfl, rfl⟩ rfl rfl rfl rfl rfl (by kernel_rfl) Tryz.func5 (by kernel_rfl)
    (of_decide_eq_true (by kernel_rfl)) (by unfold Func.isWrapper; first | (rw [if_pos (by decide +kernel)]; kernel_rfl) | (rw [if_neg (by decide +kernel)]; exact ⟨rfl, rfl⟩))
    (fun os started H enc _ F => by rw [OpenClaim.pre_eq_preRow]; exact snapcrash_lifted os started H enc F)

theorem snapcrash_plain (f : FuncId) (fn : Func) (hf : Tryz.pinned.checked.prog.funcNamed "berthmaster/berthmasterlaw06.SnapCrash" = some f) (hfn : Tryz.pinned.checked.prog.funcs[f]? = some fn) :
    true = Tryz.pinned.checked.prog.looks [] ∧ ∀ (j : Nat) t, fn.params[j]? = some t → Tryz.pinned.checked.prog.wantsStandIn t = false := by
  obtain rfl : f = 5 := Option.some.inj ((show Tryz.prog.funcNamed "berthmaster/berthmasterlaw06.SnapCrash" = some 5 by kernel_rfl).symm.trans hf) |>.symm
  obtain rfl : fn = Tryz.f5 := (Option.some.inj (Tryz.func5.symm.trans hfn)).symm
  refine ⟨by kernel_rfl, fun j t ht => ?_⟩
  rw [Tryz.params5] at ht
  have hm := Array.mem_of_getElem? ht
  simp only [List.mem_toArray, List.mem_cons, List.not_mem_nil, or_false] at hm
  rcases hm with rfl | rfl | rfl | rfl | rfl
  all_goals (show Tryz.prog.wantsStandIn _ = false; kernel_rfl)

theorem snapCrash_holds : Rows.SnapCrashCardSaid :=
  Claim7.holds_tied_plain_at .later [] _ _ _ _ snapCrash_said (fun _ h => by cases h) (by kernel_rfl) (fun _ h => by cases h) snapCrash_row_tie rfl ⟨rfl, rfl⟩ (by kernel_rfl) rfl snapcrash_plain (by kernel_rfl)

#print axioms snapCrash_holds
end Go.Proofs.YtbobakfcmkaijaaGreatDoor
