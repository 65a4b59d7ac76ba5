/- The statement on reading a number: for all bytes it is read as the document says. No condition. -/
import Derived.Test.YtihndehmagfidaaLives
import Derived.Test.YtihndehmagfidaaKit
import Derived.Test.YtihndehmagfidaaEnd
namespace Go.Proofs.Ytihndehmagfidaa
open Go.RowKit
set_option linter.unusedVariables false

theorem rem7 {d : Int} (h0 : 0 ≤ d) (h1 : d ≤ 255) : d.tmod 128 = d % 128 := Int.tmod_eq_emod_of_nonneg h0

set_option maxHeartbeats 1600000 in
theorem refReadUint_any (A : Option Addr) (zs : List Int) (c lim : Nat) (w : World) (hl : zs.length ≤ 140737488351232) (hz : Byt zs) (hr : Rds w lim A (c8 zs)) :
    Calls Try.prog 28 #[.slice A zs.length c] w fun e w' =>
      e = .returned (.tuple #[.int .u64 (dec 0 0 zs).1, .int .i64 (dec 0 0 zs).2.1, .int .i64 (dec 0 0 zs).2.2]) ∧ w' = w := by
  rw [← decR_dec zs 0 0 (by omega) (by omega) (by decide) hz]
  go_enter Try.func28, Try.ntmps28
  go_wp2
  go_loop [5, 6] (fun x i => ∃ (k : Nat) (X : Int), k ≤ zs.length ∧ k ≤ 9 ∧ i = .int .i64 k ∧ x = .int .u64 X ∧ decR 0 0 zs = decR X k (zs.drop k)) (fun _ i => zs.length - (intOf i).toNat)
  case atStart => exact ⟨0, 0, by omega, by omega, rfl, rfl, rfl⟩
  case round =>
    obtain ⟨k, X, hk, hk9, rfl, rfl, hd⟩ := hrel
    have HD := Lib.hid hd
    clear hd
    by_cases hlt : k < zs.length
    · obtain ⟨ad, rfl, _, hcell⟩ := hr.at_ (c8_get hlt)
      have hb := hz zs[k] (List.getElem_mem hlt)
      have HS : Hid (decR X k (zs.drop k) = decR X k (zs[k] :: zs.drop (k + 1))) := by rw [List.drop_eq_getElem_cons hlt]; rfl
      generalize hzk : zs[k] = d at *
      have HZ := Lib.hid hzk
      clear hzk
      by_cases h9 : k = 9
      · subst h9
        have hcell9 : w.cell? ⟨ad.block, ad.off + 9, none⟩ = some (.int .u8 d) := by
          rw [← hcell]; rfl
        by_cases hd1 : d = 1
        · subst hd1
          have hv : decR 0 0 zs = (bits .or .u64 X (IntKind.u64.wrap 9223372036854775808), 10, 0) := by
            rw [HD.out, HS.out]; simp only [decR]; rw [if_neg (by omega), if_neg (by omega), if_neg (by omega)]; rfl
          have HV := Lib.hid hv
          clear hv
          go_wp2
          go_ret3
          exact ⟨by rw [HV.out]; rfl, rfl⟩
        · have hdn : (d != 1) = true := by simpa using hd1
          have hv : decR 0 0 zs = (0, 0, 5) := by rw [HD.out, HS.out]; simp only [decR]; rw [if_pos ⟨trivial, hd1⟩]
          have HV := Lib.hid hv
          clear hv hd1
          go_wp2
          go_ret3
          exact ⟨by rw [HV.out]; rfl, rfl⟩
      · have hk9' : ((k : Int) == 9) = false := by simp; omega
        have hk9n : ¬ (k = 9 ∧ d ≠ 1) := fun h => h9 h.1
        have HK := Lib.hid hk9n
        clear hk9n
        go_wp2
        · have h0 : d = 0 := by assumption
          have hk0 : 0 < k := by assumption
          have hv : decR 0 0 zs = (0, 0, 5) := by
            rw [HD.out, HS.out]; simp only [decR]; rw [if_neg HK.out, if_neg (by omega), if_pos ⟨h0, hk0⟩]
          go_ret3
          exact ⟨by rw [hv]; rfl, rfl⟩
        · have h0 : d = 0 := by assumption
          have hk0 : ¬ 0 < k := by assumption
          have hv : decR 0 0 zs = (bits .or .u64 X (IntKind.u64.wrap 0), (k : Int) + 1, 0) := by
            rw [HD.out, HS.out]; simp only [decR]; rw [if_neg HK.out, if_neg (by omega), if_neg (by omega), show d % 128 * 2 ^ (7 * k) = 0 by rw [h0]; simp]
          go_ret3
          exact ⟨by rw [hv]; rfl, rfl⟩
        · have h0 : ¬ d = 0 := by assumption
          have h128 : d < 128 := by assumption
          have hv : decR 0 0 zs = (bits .or .u64 X (IntKind.u64.wrap (d % 128 * 2 ^ (7 * k))), (k : Int) + 1, 0) := by
            rw [HD.out, HS.out]; simp only [decR]; rw [if_neg HK.out, if_neg (by omega), if_neg (by omega)]
          go_ret3
          exact ⟨by rw [hv]; rfl, rfl⟩
        · have h128 : 128 ≤ d := by assumption
          go_round
          case rel => exact ⟨k + 1, _, by omega, by omega, by go_num, rfl, by rw [HD.out, HS.out]; simp only [decR]; rw [if_neg HK.out, if_pos h128]⟩
          case measure => simp [intOf]; omega
    · have hv : decR 0 0 zs = (0, 0, 4) := by rw [HD.out, List.drop_eq_nil_of_le (by omega)]; rfl
      have HV := Lib.hid hv
      clear hv
      go_wp2
      go_ret3
      exact ⟨by rw [HV.out]; rfl, rfl⟩

set_option maxHeartbeats 800000 in
theorem reads_walk (A : Option Addr) (zs : List Int) (c : Nat) (w : World) (hl : zs.length ≤ 140737488351232) (hz : Byt zs) (hr : Rds w w.heap.size A (c8 zs)) :
    Calls Try.prog 5 #[.slice A zs.length c] w fun e w' => e = .returned (.bool true) ∧ Below w.heap.size w w' := by
  go_enter Try.func5, Try.ntmps5
  go_wp2_with fail
  refine (lives_any _).mono ?_
  rintro e w1 ⟨rfl, hb1⟩
  have hr1 := (hr.below hb1).more hb1.size
  go_wp2_with fail
  refine (own_any A zs c w1 hl hr1).mono ?_
  rintro e w2 ⟨g, rfl, hw2, hg, hb2⟩
  have hr2 := hr1.below hb2
  have hb3 := hb1.trans (hb2.mono hb1.size)
  have hro : Rds w2 (g + 1) (some ⟨g, 0, none⟩) (c8 zs) := by
    intro _
    refine ⟨_, rfl, by simp, fun j u hu => ?_⟩
    have hadd : (⟨g, 0, none⟩ : Addr).add j = ⟨g, j, none⟩ := by unfold Addr.add; split <;> simp_all
    rw [hadd, hw2.cell j]
    have hj : j < (c8 zs).length := (List.getElem?_eq_some_iff.1 hu).1
    rw [c8_append]
    simp only [List.getElem?_toArray]
    rw [List.getElem?_append_left hj, hu]
  go_wp2_with fail
  refine (readUint_any _ zs _ _ w2 (by omega) hz hro).mono ?_
  rintro e w3 ⟨rfl, rfl⟩
  generalize hR : dec 0 0 zs = R
  have HR := Lib.hid hR
  clear hR
  obtain ⟨X, n, E⟩ := R
  have hX : (X == X) = true := by simp
  have hn : (n == n) = true := by simp
  have hE : (E == E) = true := by simp
  go_wp2_with fail
  refine (refReadUint_any A zs c _ w3 hl hz hr2).mono ?_
  rintro e w4 ⟨rfl, rfl⟩
  rw [HR.out]
  go_wp2_with fail
  refine (kept_any A zs c g _ w4 hl hr2 hw2).mono ?_
  rintro e w5 ⟨rfl, n5, rfl⟩
  go_wp2
  go_ret
  exact ⟨rfl, below_drewN hb3 n5⟩

open Go.ChangeShapes Go.WideShapes Go.ChangeAt
set_option maxRecDepth 100000 in
theorem reads_lifted (os : Os) (started : os.Started) (H : Type) (enc : TypeId × Value → H) :
    ReturnsInHanded {} Try.checked os 5 .any (Rows.wireReadsSpec.pre6 enc Try.prog Try.f5 Rows.wireReadsRow.domain false) (Rows.wireReadsSpec.post enc Try.prog Try.f5 false true false false) := by
  refine returnsInHanded_of_change_sized (C := Try.checked) own started (by kernel_rfl) Try.func5
    (ChangeSpec.witness6 (enc := enc) (C := Try.checked) false ⟨#[], #[.slice none 0 0], []⟩ 8 (by kernel_rfl) (by kernel_rfl) (by kernel_rfl) (by kernel_rfl)) ?_
  intro W base args ds gs before hval0 hW _ hsz0 _
  have hsz : (DataW.weightsEach Try.prog (Try.f5.params.toList ++ Rows.wireReadsSpec.plain.varTypes Try.prog) (ds ++ gs)).all (· ≤ reachBytes) = true := hsz0
  have hval : ∀ (j : Nat) t v, Try.f5.params[j]? = some t → args[j]? = some v → Value.okWide Try.prog W .any base t v := hval0
  have hW' := hW
  obtain ⟨p, q, hA0, hV, rfl, _, _⟩ := hW
  have hA : DataW.TrodAll enc Try.prog W 0 (fun _ => true) true Try.f5.params.toList args.toList ds p := hA0
  rw [Try.params5] at hA hval hsz
  obtain ⟨v0, vs0, d0, ds0, p0, q0, hargs, rfl, rfl, h0, r0⟩ := trodAll_cons hA
  obtain ⟨rfl, rfl, rfl⟩ := trodAll_nil r0
  obtain rfl : args = #[v0] := by cases args; simp_all
  obtain ⟨A0, zs0, c0, hb0⟩ := open_bytes Try.underlying23 Try.underlying5 cells8 (hval 0 23 v0 rfl rfl) h0
  have hl0 := hb0.reach hsz (j := 0) (t := 23) (e := 5) rfl rfl Try.underlying23 bytes8
  obtain rfl := hb0.val
  exact law_close laid rfl hW' (by kernel_rfl) rfl Try.underlying4 rfl (reads_walk A0 zs0 c0 W hl0 hb0.byt hb0.rds)

theorem wireReads_holds : Rows.WireReadsSaid :=
  OpenClaim.holds_of_wide 5 Try.f5 rfl rfl rfl rfl rfl rfl rfl ⟨rfl, rfl, rfl, rfl, rfl⟩ rfl rfl rfl rfl rfl (by kernel_rfl) Try.func5 (by kernel_rfl)
    (of_decide_eq_true (by kernel_rfl)) (by unfold Func.isWrapper; first | (rw [if_pos (by decide +kernel)]; kernel_rfl) | (rw [if_neg (by decide +kernel)]; exact ⟨rfl, rfl⟩))
    (fun os started H enc _ => reads_lifted os started H enc)

#print axioms wireReads_holds
end Go.Proofs.Ytihndehmagfidaa
