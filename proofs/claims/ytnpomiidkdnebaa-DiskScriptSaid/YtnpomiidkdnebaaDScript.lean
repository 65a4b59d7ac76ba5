/- The statement on scripts: of any room and any acts (at most 200, of at most 2,000 bytes, others end it) a disk and the document's answer do the same, act by act. Conditions: none beyond the statement's own. -/
import Derived.Test.YtnpomiidkdnebaaDAfter
import Derived.Test.YtnpomiidkdnebaaDLives
namespace Go.Proofs.Ytnpomiidkdnebaa
open Go.RowKit Go.ChangeShapes Go.WideShapes Go.ChangeAt
set_option linter.unusedVariables false

set_option maxHeartbeats 4000000 in
set_option maxRecDepth 8000 in
theorem script_walk (r : Int) (A : Option Addr) (az : List Ac) (c : Nat) (W : World) (ha : ActsArg W (.slice A az.length c) A az c) :
    Calls Try.prog 4 #[.int .i64 r, .slice A az.length c] W fun e w' => e = .returned (.bool true) ∧ Below W.heap.size W w' := by
  by_cases hr : r < 0 ∨ 1073741824 < r
  · have hn1 := fun w => new_bad r hr w
    have hn2 := fun w => rnew_bad r hr w
    clear hr
    go_enter Try.func4, Try.ntmps4
    go_wp2_with fail
    refine (lives_any W).mono ?_
    rintro e w1 ⟨rfl, hb1⟩
    go_wp2_with fail
    refine (hn1 w1).mono ?_
    rintro e w2 ⟨rfl, h2⟩
    rw [h2]
    clear h2 w2
    go_wp2_with fail
    refine (hn2 w1).mono ?_
    rintro e w3 ⟨rfl, h3⟩
    rw [h3]
    clear h3 w3
    go_wp2
    go_returns
    exact ⟨by simp, hb1⟩
  · obtain ⟨R, rfl⟩ : ∃ R : Nat, r = R := ⟨r.toNat, by omega⟩
    have hR : R ≤ 1073741824 := by omega
    have hn1 := fun w => new_any R hR w
    have hn2 := fun w => rnew_any R hR w
    have hl := ha.cap
    clear hr
    have HA := Lib.hid ha
    obtain ⟨n, hn⟩ : ∃ n, n = az.length := ⟨_, rfl⟩
    rw [← hn] at hl ⊢
    have HN := Lib.hid hn
    clear ha hn
    go_enter Try.func4, Try.ntmps4
    go_wp2_with fail
    refine (lives_any W).mono ?_
    rintro e w1 ⟨rfl, hb1⟩
    go_wp2_with fail
    refine (hn1 w1).mono ?_
    rintro e w2 ⟨Sd, d, rfl, hd, hb2, hSd⟩
    go_wp2_with fail
    refine (hn2 w2).mono ?_
    rintro e w3 ⟨Sx, x, rfl, hx, hb3, hSx⟩
    have hb12 := hb1.trans (hb2.mono hb1.size)
    have hb13 := hb12.trans (hb3.mono hb12.size)
    have hpair : Pair (fun k => Sd k ∨ Sx k) w3 d x (dNew R) (dNew R) := ⟨Sd, Sx, hd.go hb3, hx, fun k hk hk' => by have h1 := hd.lt k hk; have h2 := hSx k hk'; omega, fun k => Iff.rfl⟩
    have hSn : ∀ k, Sd k ∨ Sx k → W.heap.size ≤ k := fun k hk => by
      have h1 := hb1.size
      have h2 := hb12.size
      rcases hk with hk | hk
      · have := hSd k hk; omega
      · have := hSx k hk; omega
    have HP := Lib.hid hpair
    have HS := Lib.hid hSn
    clear hn1 hn2 hd hx hb12 hb2 hb3 hb1 hSd hSx hpair hSn
    by_cases h200 : 200 < n
    · have h200' : (200 : Int) < n := by omega
      go_wp2
      go_returns
      exact ⟨by simp, hb13⟩
    · have h200' : ¬ (200 : Int) < n := by omega
      go_wp2
      go_loopw [9] (fun i wr => ∃ (k : Nat) (S : Nat → Prop) (D : Dsk), k ≤ n ∧ i = .int .i64 k ∧ Pair S wr d x D D ∧ Beh k D ∧ Below W.heap.size W wr ∧ ∀ j, S j → W.heap.size ≤ j) (fun i _ => n - (intOf i).toNat)
      case atStart => exact ⟨0, _, _, Nat.zero_le _, rfl, HP.out, Beh.new R hR, hb13, HS.out⟩
      case round =>
        obtain ⟨k, S, D, hk, rfl, hp, hbeh, hbw, hS⟩ := hrel
        by_cases hlt : k < n
        · have hkl : k < az.length := by rw [← HN.out]; exact hlt
          obtain ⟨ad, rfl, hadb, hcells⟩ := HA.out.at_ hkl
          obtain ⟨k0, k1, k2, k3, k4, k5⟩ := hcells wr hbw
          have hin := HA.out.acts _ (List.getElem_mem hkl)
          have hak := AcOk.new hin hbw hS
          generalize az[k] = a at *
          have hlb := hin.ok.bl
          by_cases hbig : 2000 < a.L
          · have hbig' : (2000 : Int) < a.L := by omega
            clear hp hbeh hak hin hcells
            go_wp2
            go_returns
            exact ⟨by simp, hbw⟩
          · have hbig' : ¬ (2000 : Int) < a.L := by omega
            have hg := hbeh.gd (by omega)
            have hst := stepk_any a d x D D S wr hp hg hg hak
            have hbeh' := hbeh.after a hak.nb.2 (by rw [hlb]; omega)
            have HB := Lib.hid hbeh'
            have HSS := Lib.hid hS
            unfold acCells at hst
            have hl200 : k ≤ 200 := by omega
            clear hp hbeh hak hin hcells hg hbeh' hS hlb
            obtain ⟨kd, nm, to, aA, aL, ac, ab, an, aAk, am, ack, aks⟩ := a
            dsimp only at *
            go_wp2_with fail
            refine hst.mono ?_
            rintro e w4 ⟨b, rfl, hbt, hat⟩
            obtain rfl : b = true := by first | exact hbt rfl | exact hbt trivial | exact hbt
            obtain ⟨S', hp', hT⟩ := hat
            have hb4 : Below W.heap.size W w4 := ⟨hT.outs.os.trans hbw.os, hT.outs.tape.trans hbw.tape, hT.outs.output.trans hbw.output, Nat.le_trans hbw.size hT.outs.size, fun j hj => (hT.outs.block j (Nat.lt_of_lt_of_le hj hbw.size) (fun hk => by have := HSS.out j hk; omega)).trans (hbw.block j hj)⟩
            have hS4 : ∀ j, S' j → W.heap.size ≤ j := fun j hj => by
              rcases hT.new j hj with h | h
              · exact HSS.out j h
              · have := hbw.size; omega
            have hsame := same_any w4 hp' (HB.out.gd (by omega))
            clear hst hbt hT
            go_wp2_with fail
            refine hsame.mono ?_
            rintro e w5 ⟨rfl, hb5⟩
            have hp5 := hp'.go hb5
            have hb5' := hb4.trans (hb5.mono hb4.size)
            clear hsame hp' hb5 hb4
            go_wp2
            go_roundw
            case rel => exact ⟨k + 1, S', _, by omega, by go_num, hp5, HB.out, hb5', hS4⟩
            case measure => simp [intOf]; omega
        · clear hp hbeh
          go_wp2
          go_returns
          exact ⟨by simp, hbw⟩

open Go.ChangeShapes Go.WideShapes Go.ChangeAt
set_option maxRecDepth 100000 in
theorem dscript_lifted (os : Os) (started : os.Started) (H : Type) (enc : TypeId × Value → H) :
    ReturnsInHanded {} Try.checked os 4 .any (Rows.diskScriptSpec.pre6 enc Try.prog Try.f4 Rows.diskScriptRow.domain false) (Rows.diskScriptSpec.post enc Try.prog Try.f4 false true false false) := by
  refine returnsInHanded_of_change_sized (C := Try.checked) own started (by kernel_rfl) Try.func4
    (ChangeSpec.witness6 (enc := enc) (C := Try.checked) false ⟨#[], #[.int .i64 0, .slice none 0 0], []⟩ 8 (by kernel_rfl) (by kernel_rfl) (by kernel_rfl) (by kernel_rfl)) ?_
  intro W base args ds gs before hval0 hW _ hsz0 _
  have hsz : (DataW.weightsEach Try.prog (Try.f4.params.toList ++ Rows.diskScriptSpec.plain.varTypes Try.prog) (ds ++ gs)).all (· ≤ reachBytes) = true := hsz0
  have hval : ∀ (j : Nat) t v, Try.f4.params[j]? = some t → args[j]? = some v → Value.okWide Try.prog W .any base t v := hval0
  have hW' := hW
  obtain ⟨p, q, hA0, hV, rfl, _, _⟩ := hW
  have hA : DataW.TrodAll enc Try.prog W 0 (fun _ => true) true Try.f4.params.toList args.toList ds p := hA0
  rw [Try.params4] at hA hval hsz
  obtain ⟨v0, vs0, d0, ds0, p0, q0, hargs, rfl, rfl, h0, r0⟩ := trodAll_cons hA
  obtain ⟨v1, vs1, d1, ds1, p1, q1, rfl, rfl, rfl, h1, r1⟩ := trodAll_cons r0
  obtain ⟨rfl, rfl, rfl⟩ := trodAll_nil r1
  obtain rfl : args = #[v0, v1] := by cases args; simp_all
  obtain ⟨a0, rfl, rfl, rfl, w0⟩ := open_int Try.underlying3 (hval 0 3 v0 rfl rfl) h0
  have b0 := bounds_i64 w0
  obtain ⟨A1, az1, c1, ha1⟩ := open_acts (hval 1 43 v1 rfl rfl) h1 (sized_mem hsz (j := 1) (t := 43) rfl rfl)
  obtain rfl := ha1.val
  exact law_close laid rfl hW' (by kernel_rfl) rfl Try.underlying4 rfl (script_walk a0 A1 az1 c1 W ha1)

theorem diskScript_holds : Rows.DiskScriptSaid :=
  OpenClaim.holds_of_wide 4 Try.f4 rfl rfl rfl rfl rfl rfl rfl ⟨rfl, rfl, rfl, rfl, rfl⟩ rfl rfl rfl rfl rfl (by kernel_rfl) Try.func4 (by kernel_rfl)
    (of_decide_eq_true (by kernel_rfl)) (by unfold Func.isWrapper; first | (rw [if_pos (by decide +kernel)]; kernel_rfl) | (rw [if_neg (by decide +kernel)]; exact ⟨rfl, rfl⟩))
    (fun os started H enc _ => dscript_lifted os started H enc)

#print axioms diskScript_holds
end Go.Proofs.Ytnpomiidkdnebaa
