/- The statement on watches that are not there: nil, or ones that nobody made: every call of such a watch is refused, for every act. -/
import Derived.Test.YtconfkjchjcjgaaKNob
import Derived.Test.YtconfkjchjcjgaaKOpen
namespace Go.Proofs.Ytconfkjchjcjgaa
open Go.RowKit Go.Maps
set_option linter.unusedVariables false

/-- what stands at the two watches -/
structure NilAt8 (w0 w : World) (a g : Nat) (r : Ac8) : Prop where
  wa : Whole w a 50 (ac8Cells r)
  wd : w.cell? ⟨g, 0, none⟩ = some (.pointer none)
  lt : g < w.heap.size
  wl : Whole w (g + 1) 30 #[.pointer none, .pointer (some ⟨g, 0, none⟩)]
  below : Below w0.heap.size w0 w
theorem NilAt8.nob {w0 w : World} {a g : Nat} {r : Ac8} (h : NilAt8 w0 w a g r) {p : Option Addr} (hp : p = none ∨ p = some ⟨g, 0, none⟩) : Nob w p := by
  rcases hp with rfl | rfl
  · exact .inl rfl
  · exact .inr ⟨g, rfl, h.wd⟩
theorem ac8_cells {w : World} {a : Nat} {r : Ac8} (h : Whole w a 50 (ac8Cells r)) : w.cell? ⟨a, 0, none⟩ = some (.int .i64 r.kd) ∧ w.cell? ⟨a, 1, none⟩ = some (.string r.nm) ∧ w.cell? ⟨a, 2, none⟩ = some (.int .i64 r.n) :=
  ⟨by simpa [ac8Cells] using h.cell 0, by simpa [ac8Cells] using h.cell 1, by simpa [ac8Cells] using h.cell 2⟩
def zeroWatch : Array Value := #[.pointer none, .int .i64 0, .slice none 0 0, .map none]

set_option maxHeartbeats 4000000 in
set_option maxRecDepth 100000 in
theorem knil_walk (r : Ac8) (w : World) : Calls Try.prog 6 #[.agg (ac8Cells r)] w fun e w' => e = .returned (.bool true) ∧ Below w.heap.size w w' := by
  have h0 : NilAt8 w (((w.alloc (.cells (ac8Cells r) 50)).alloc (.cells zeroWatch 58)).alloc (.cells #[.pointer none, .pointer (some ⟨w.heap.size + 1, 0, none⟩)] 30)) w.heap.size (w.heap.size + 1) r := by
    refine ⟨((Whole.new _ _ _).alloc _).alloc _, ?_, by simp, ?_, (((Below.refl _ _).alloc (Nat.le_refl _) _).alloc (by simp) _).alloc (by simp; omega) _⟩
    · have := (Whole.new (w.alloc (.cells (ac8Cells r) 50)) 58 zeroWatch).alloc (.cells #[.pointer none, .pointer (some ⟨w.heap.size + 1, 0, none⟩)] 30)
      have h := this.cell 0
      simpa [zeroWatch] using h
    · have := Whole.new ((w.alloc (.cells (ac8Cells r) 50)).alloc (.cells zeroWatch 58)) 30 #[.pointer none, .pointer (some ⟨w.heap.size + 1, 0, none⟩)]
      simpa using this
  have H0 := Lib.hid h0
  clear h0
  simp only [ac8Cells, zeroWatch] at H0 ⊢
  go_enter Try.func6, Try.ntmps6
  go_upto_region 2 with fail
  generalize (((w.alloc (.cells #[.int .i64 r.kd, .string r.nm, .int .i64 r.n] 50)).alloc (.cells #[.pointer none, .int .i64 0, .slice none 0 0, .map none] 58)).alloc (.cells #[.pointer none, .pointer (some ⟨w.heap.size + 1, 0, none⟩)] 30)) = W at H0 ⊢
  generalize hg : w.heap.size + 1 = g at H0 ⊢
  go_wp2
  go_loopw [4] (fun i wr => ∃ k : Nat, k ≤ 2 ∧ i = .int .i64 k ∧ NilAt8 w wr w.heap.size g r) (fun i _ => 2 - (intOf i).toNat)
  case atStart => exact ⟨0, by omega, rfl, H0.out⟩
  case round =>
    obtain ⟨k, hk, rfl, N0⟩ := hrel
    by_cases hlt : k < 2
    · obtain ⟨p, hpc, hp⟩ : ∃ p, wr.cell? ⟨g + 1, k, none⟩ = some (.pointer p) ∧ (p = none ∨ p = some ⟨g, 0, none⟩) := by
        have hk2 : k = 0 ∨ k = 1 := by omega
        rcases hk2 with rfl | rfl
        · exact ⟨none, N0.wl.cell 0, .inl rfl⟩
        · exact ⟨some ⟨g, 0, none⟩, N0.wl.cell 1, .inr rfl⟩
      have hklt : (k : Int) < 2 := by omega
      obtain ⟨a0, a1, a2⟩ := ac8_cells N0.wa
      have hn := Lib.hid (N0.nob hp)
      have N := Lib.hid N0
      clear N0 hp
      go_wp2_with (first
        | (go_at_call 15; refine (nobTick_any _ hn.out).mono ?_; rintro e w' ⟨rfl, rfl⟩)
        | (go_at_call 16; refine (nobLeft_any _ hn.out).mono ?_; rintro e w' ⟨rfl, rfl⟩)
        | (go_at_call 14; refine (nobSet_any _ _ hn.out).mono ?_; rintro e w' ⟨rfl, rfl⟩)
        | (go_at_call 19; refine (nobDrop_any _ hn.out).mono ?_; rintro e w' ⟨rfl, rfl⟩)
        | (go_at_call 18; refine (nobNow_any hn.out).mono ?_; rintro e w' ⟨rfl, rfl⟩)
        | (go_at_call 29; refine (nobNames_any hn.out).mono ?_; rintro e w' ⟨rfl, rfl⟩))
      go_roundw
      case rel => exact ⟨k + 1, by omega, by go_num, N.out⟩
      case measure => simp [intOf]; omega
    · obtain rfl : k = 2 := by omega
      go_wp2_with fail
      refine (lives_any wr).mono ?_
      rintro e w9 ⟨rfl, hb9⟩
      have hbf := N0.below.trans (hb9.mono N0.below.size)
      clear hb9 N0
      go_wp2
      go_ret
      exact ⟨rfl, hbf⟩

open Go.ChangeShapes Go.WideShapes Go.ChangeAt
set_option maxRecDepth 100000 in
theorem knil_lifted (os : Os) (started : os.Started) (H : Type) (enc : TypeId × Value → H) :
    ReturnsInHanded {} Try.checked os 6 .any (Rows.clockNilSpec.pre6 enc Try.prog Try.f6 Rows.clockNilRow.domain false) (Rows.clockNilSpec.post enc Try.prog Try.f6 false true false false) := by
  refine returnsInHanded_of_change_sized (C := Try.checked) own started (by kernel_rfl) Try.func6
    (ChangeSpec.witness6 (enc := enc) (C := Try.checked) false ⟨#[], #[.agg #[.int .i64 0, .string ⟨#[]⟩, .int .i64 0]], []⟩ 8 (by kernel_rfl) (by kernel_rfl) (by kernel_rfl) (by kernel_rfl)) ?_
  intro W base args ds gs before hval0 hW _ hsz0 _
  have hsz : (DataW.weightsEach Try.prog (Try.f6.params.toList ++ Rows.clockNilSpec.plain.varTypes Try.prog) (ds ++ gs)).all (· ≤ reachBytes) = true := hsz0
  have hval : ∀ (j : Nat) t v, Try.f6.params[j]? = some t → args[j]? = some v → Value.okWide Try.prog W .any base t v := hval0
  have hW' := hW
  obtain ⟨p, q, hA0, hV, rfl, _, _⟩ := hW
  have hA : DataW.TrodAll enc Try.prog W 0 (fun _ => true) true Try.f6.params.toList args.toList ds p := hA0
  rw [Try.params6] at hA hval hsz
  obtain ⟨v0, vs0, d0, ds0, p0, q0, hargs, rfl, rfl, h0, r0⟩ := trodAll_cons hA
  obtain ⟨rfl, rfl, rfl⟩ := trodAll_nil r0
  obtain rfl : args = #[v0] := by cases args; simp_all
  obtain ⟨x0, hx0, ha0⟩ := open_act8 (hval 0 50 v0 rfl rfl) h0 (sized_mem hsz (j := 0) (t := 50) rfl rfl)
  obtain rfl := hx0
  exact law_close laid rfl hW' (by kernel_rfl) rfl Try.underlying4 rfl (knil_walk x0 W)

theorem clockNil_holds : Rows.ClockNilSaid :=
  OpenClaim.holds_of_wide 6 Try.f6 rfl rfl rfl rfl rfl rfl rfl ⟨rfl, rfl, rfl, rfl, rfl⟩ rfl rfl rfl rfl rfl (by kernel_rfl) Try.func6 (by kernel_rfl)
    (of_decide_eq_true (by kernel_rfl)) (by unfold Func.isWrapper; first | (rw [if_pos (by decide +kernel)]; kernel_rfl) | (rw [if_neg (by decide +kernel)]; exact ⟨rfl, rfl⟩))
    (fun os started H enc _ => knil_lifted os started H enc)

#print axioms clockNil_holds
end Go.Proofs.Ytconfkjchjcjgaa
