/- The statement on journals that are not there: nil, or ones that nobody opened; over no disk there is none. -/
import Derived.Test.YtfiebjfdlplpjaaGreatDoorM17
namespace Go.Proofs.YtfiebjfdlplpjaaGreatDoor
open Go.RowKit
set_option linter.unusedVariables false

section
variable {w : World} {p : Option Addr}
theorem jrefusal_no (h : NobodyJ w p) : Calls Tryz.prog 39 #[.pointer p] w fun e w' => e = .returned (.int .i64 1) ∧ Below w.heap.size w w' := by
  have hc := jnobodys_yes p w h
  go_enter Tryz.func39, Tryz.ntmps39
  go_wp2_with fail
  refine hc.mono ?_
  rintro e w1 ⟨rfl, hw⟩
  rw [hw]
  clear hw w1
  go_wp2
  go_returns
  exact ⟨by simp, Below.refl _ _⟩
set_option maxRecDepth 4000 in
theorem jappend_no (h : NobodyJ w p) (v : Value) : Calls Tryz.prog 10 #[.pointer p, v] w fun e w' => e = .returned (.tuple #[.int .u64 0, .int .i64 1]) ∧ Below w.heap.size w w' := by
  have hc := jnobodys_yes p w h
  go_enter Tryz.func10, Tryz.ntmps10
  go_wp2_with fail
  refine hc.mono ?_
  rintro e w1 ⟨rfl, hw⟩
  rw [hw]
  clear hw w1
  go_wp2
  go_returns
  exact ⟨by simp, Below.refl _ _⟩
theorem jread_no (h : NobodyJ w p) (n : Value) : Calls Tryz.prog 19 #[.pointer p, n] w fun e w' => e = .returned (.tuple #[.slice none 0 0, .int .i64 1]) ∧ Below w.heap.size w w' := by
  have hc := jrefusal_no h
  go_enter Tryz.func19, Tryz.ntmps19
  go_wp2_with fail
  refine hc.mono ?_
  rintro e w1 ⟨rfl, hw⟩
  have HB := Lib.hid hw
  clear hw hc
  go_wp2
  go_returns
  exact ⟨by simp, HB.out⟩
theorem jsync_no (h : NobodyJ w p) : Calls Tryz.prog 11 #[.pointer p] w fun e w' => e = .returned (.int .i64 1) ∧ Below w.heap.size w w' := by
  have hc := jrefusal_no h
  go_enter Tryz.func11, Tryz.ntmps11
  go_wp2_with fail
  refine hc.mono ?_
  rintro e w1 ⟨rfl, hw⟩
  have HB := Lib.hid hw
  clear hw hc
  go_wp2
  go_returns
  exact ⟨by simp, HB.out⟩
theorem jdrop_no (h : NobodyJ w p) (n : Value) : Calls Tryz.prog 17 #[.pointer p, n] w fun e w' => e = .returned (.int .i64 1) ∧ Below w.heap.size w w' := by
  have hc := jrefusal_no h
  go_enter Tryz.func17, Tryz.ntmps17
  go_wp2_with fail
  refine hc.mono ?_
  rintro e w1 ⟨rfl, hw⟩
  have HB := Lib.hid hw
  clear hw hc
  go_wp2
  go_returns
  exact ⟨by simp, HB.out⟩
theorem jrestart_no (h : NobodyJ w p) (n : Value) : Calls Tryz.prog 20 #[.pointer p, n] w fun e w' => e = .returned (.int .i64 1) ∧ Below w.heap.size w w' := by
  have hc := jrefusal_no h
  go_enter Tryz.func20, Tryz.ntmps20
  go_wp2_with fail
  refine hc.mono ?_
  rintro e w1 ⟨rfl, hw⟩
  have HB := Lib.hid hw
  clear hw hc
  go_wp2
  go_returns
  exact ⟨by simp, HB.out⟩
theorem jall_no (h : NobodyJ w p) : Calls Tryz.prog 14 #[.pointer p] w fun e w' => e = .returned (.slice none 0 0) ∧ Below w.heap.size w w' := by
  have hc := jnobodys_yes p w h
  go_enter Tryz.func14, Tryz.ntmps14
  go_wp2_with fail
  refine hc.mono ?_
  rintro e w1 ⟨rfl, hw⟩
  rw [hw]
  clear hw w1
  go_wp2
  go_returns
  exact ⟨by simp, Below.refl _ _⟩
theorem jfirst_no (h : NobodyJ w p) : Calls Tryz.prog 18 #[.pointer p] w fun e w' => e = .returned (.int .u64 0) ∧ Below w.heap.size w w' := by
  have hc := jnobodys_yes p w h
  go_enter Tryz.func18, Tryz.ntmps18
  go_wp2_with fail
  refine hc.mono ?_
  rintro e w1 ⟨rfl, hw⟩
  rw [hw]
  clear hw w1
  go_wp2
  go_returns
  exact ⟨by simp, Below.refl _ _⟩
theorem jnext_no (h : NobodyJ w p) : Calls Tryz.prog 21 #[.pointer p] w fun e w' => e = .returned (.int .u64 0) ∧ Below w.heap.size w w' := by
  have hc := jnobodys_yes p w h
  go_enter Tryz.func21, Tryz.ntmps21
  go_wp2_with fail
  refine hc.mono ?_
  rintro e w1 ⟨rfl, hw⟩
  rw [hw]
  clear hw w1
  go_wp2
  go_returns
  exact ⟨by simp, Below.refl _ _⟩
theorem NobodyJ.below {w' : World} (h : NobodyJ w p) (hl : ∀ d, p = some d → d.block < w.heap.size) (hb : Below w.heap.size w w') : NobodyJ w' p := Nobody.below h hl hb
end

def zJn : Array Value := #[.pointer none, .pointer none, .string ⟨#[]⟩, .bool false, .int .u64 0, .slice none 0 0]
/-- what stands at the two journals, behind a call that they refused -/
structure NilAt (w0 w : World) (g : Nat) (p : Option Addr) : Prop where
  nob : NobodyJ w p
  lt : ∀ d, p = some d → d.block < w.heap.size
  wd : Whole w g 51 zJn
  wl : Whole w (g + 1) 27 #[.pointer none, .pointer (some ⟨g, 0, none⟩)]
  below : Below w0.heap.size w0 w
theorem NilAt.go {w0 w w' : World} {g : Nat} {p : Option Addr} (h : NilAt w0 w g p) (hb : Below w.heap.size w w') : NilAt w0 w' g p :=
  ⟨h.nob.below h.lt hb, fun d e => Nat.lt_of_lt_of_le (h.lt d e) hb.size, h.wd.below hb h.wd.lt, h.wl.below hb h.wl.lt, h.below.trans (hb.mono h.below.size)⟩

set_option maxHeartbeats 4000000 in
set_option maxRecDepth 10000 in
theorem jnil_walk (A : Option Addr) (L c : Nat) (n : Int) (w : World) (hp : Pow w) : Calls Tryz.prog 4 #[.slice A L c, .int .u64 n] w fun e w' => e = .returned (.bool true) ∧ Below w.heap.size w w' := by
  go_enter Tryz.func4, Tryz.ntmps4
  go_wp2_with fail
  refine (jopen_no none _ w (.inl rfl) (fun d e => by cases e)).mono ?_
  rintro e w1 ⟨rfl, hb1⟩
  go_wp2_with fail
  have hn0 : Nobody (w1.alloc (.cells #[.pointer none, .bool false, .int .i64 0, .int .i64 0, .int .i64 0, .map none] 48)) (some ⟨w1.heap.size, 0, none⟩) := .inr ⟨_, rfl, (Whole.new _ _ _).cell 0⟩
  have hba : Below w.heap.size w (w1.alloc (.cells #[.pointer none, .bool false, .int .i64 0, .int .i64 0, .int .i64 0, .map none] 48)) := hb1.alloc hb1.size _
  refine (jopen_no (some ⟨w1.heap.size, 0, none⟩) _ (w1.alloc (.cells #[.pointer none, .bool false, .int .i64 0, .int .i64 0, .int .i64 0, .map none] 48)) hn0 (fun d e => by cases e; simp)).mono ?_
  rintro e w2 ⟨rfl, hb2⟩
  have hb3 := hba.trans (hb2.mono hba.size)
  clear hn0 hba hb1 hb2
  go_wp2_with fail
  have hb0 : Below w.heap.size w ((w2.alloc (.cells zJn 51)).alloc (.cells #[.pointer none, .pointer (some ⟨w2.heap.size, 0, none⟩)] 27)) := (hb3.alloc hb3.size _).alloc (by have := hb3.size; simp; omega) _
  have hw0 : Whole ((w2.alloc (.cells zJn 51)).alloc (.cells #[.pointer none, .pointer (some ⟨w2.heap.size, 0, none⟩)] 27)) w2.heap.size 51 zJn := (Whole.new _ _ _).alloc _
  have hw1 : Whole ((w2.alloc (.cells zJn 51)).alloc (.cells #[.pointer none, .pointer (some ⟨w2.heap.size, 0, none⟩)] 27)) (w2.heap.size + 1) 27 #[.pointer none, .pointer (some ⟨w2.heap.size, 0, none⟩)] := by
    have := Whole.new (w2.alloc (.cells zJn 51)) 27 #[.pointer none, .pointer (some ⟨w2.heap.size, 0, none⟩)]
    simpa using this
  change Below _ _ ((w2.alloc (.cells #[.pointer none, .pointer none, .string ⟨#[]⟩, .bool false, .int .u64 0, .slice none 0 0] 51)).alloc (.cells #[.pointer none, .pointer (some ⟨w2.heap.size, 0, none⟩)] 27)) at hb0
  change Whole ((w2.alloc (.cells #[.pointer none, .pointer none, .string ⟨#[]⟩, .bool false, .int .u64 0, .slice none 0 0] 51)).alloc (.cells #[.pointer none, .pointer (some ⟨w2.heap.size, 0, none⟩)] 27)) _ _ _ at hw0
  change Whole ((w2.alloc (.cells #[.pointer none, .pointer none, .string ⟨#[]⟩, .bool false, .int .u64 0, .slice none 0 0] 51)).alloc (.cells #[.pointer none, .pointer (some ⟨w2.heap.size, 0, none⟩)] 27)) _ _ _ at hw1
  generalize ((w2.alloc (.cells #[.pointer none, .pointer none, .string ⟨#[]⟩, .bool false, .int .u64 0, .slice none 0 0] 51)).alloc (.cells #[.pointer none, .pointer (some ⟨w2.heap.size, 0, none⟩)] 27)) = W at *
  generalize w2.heap.size = g at *
  clear hb3
  go_loopw [10] (fun i wr => ∃ k : Nat, k ≤ 2 ∧ i = .int .i64 k ∧ Below w.heap.size w wr ∧ Whole wr g 51 zJn ∧ Whole wr (g + 1) 27 #[.pointer none, .pointer (some ⟨g, 0, none⟩)]) (fun i _ => 2 - (intOf i).toNat)
  case atStart => exact ⟨0, by omega, rfl, hb0, hw0, hw1⟩
  case round =>
    obtain ⟨k, hk, rfl, Bwr, Wwr, Lwr⟩ := hrel
    by_cases hlt : k < 2
    · obtain ⟨p, hpc, N0⟩ : ∃ p, wr.cell? ⟨g + 1, k, none⟩ = some (.pointer p) ∧ NilAt w wr g p := by
        have hk2 : k = 0 ∨ k = 1 := by omega
        rcases hk2 with rfl | rfl
        · exact ⟨none, Lwr.cell 0, ⟨.inl rfl, (fun d e => by cases e), Wwr, Lwr, Bwr⟩⟩
        · exact ⟨some ⟨g, 0, none⟩, Lwr.cell 1, ⟨.inr ⟨g, rfl, Wwr.cell 0⟩, (fun d e => by cases e; exact Wwr.lt), Wwr, Lwr, Bwr⟩⟩
      have hklt : (k : Int) < 2 := by omega
      clear hb0 hw0 hw1 Bwr Wwr Lwr
      go_wp2_with fail
      refine (jappend_no N0.nob (.slice A L c)).mono ?_
      rintro e v1 ⟨rfl, hb⟩
      have N1 := N0.go hb
      clear hb N0
      go_wp2_with fail
      refine (jread_no N1.nob (.int .u64 n)).mono ?_
      rintro e v2 ⟨rfl, hb⟩
      have N2 := N1.go hb
      clear hb N1
      go_wp2_with fail
      refine (jsync_no N2.nob).mono ?_
      rintro e v3 ⟨rfl, hb⟩
      have N3 := N2.go hb
      clear hb N2
      go_wp2_with fail
      refine (jdrop_no N3.nob (.int .u64 n)).mono ?_
      rintro e v4 ⟨rfl, hb⟩
      have N4 := N3.go hb
      clear hb N3
      go_wp2_with fail
      refine (jrestart_no N4.nob (.int .u64 n)).mono ?_
      rintro e v5 ⟨rfl, hb⟩
      have N5 := N4.go hb
      clear hb N4
      go_wp2_with fail
      refine (jall_no N5.nob).mono ?_
      rintro e v6 ⟨rfl, hb⟩
      have N6 := N5.go hb
      clear hb N5
      go_wp2_with fail
      refine (jfirst_no N6.nob).mono ?_
      rintro e v7 ⟨rfl, hb⟩
      have N7 := N6.go hb
      clear hb N6
      go_wp2_with fail
      refine (jnext_no N7.nob).mono ?_
      rintro e v8 ⟨rfl, hb⟩
      have N8 := N7.go hb
      clear hb N7
      go_wp2
      go_roundw
      case rel => exact ⟨k + 1, by omega, by go_num, N8.below, N8.wd, N8.wl⟩
      case measure => simp [intOf]; omega
    · obtain rfl : k = 2 := by omega
      go_wp2_with fail
      refine (lives5_any wr (hp.go Bwr)).mono ?_
      rintro e w9 ⟨rfl, hb9⟩
      have hbf := Bwr.trans (hb9.mono Bwr.size)
      clear hb9 Bwr hb0 hw0 hw1 Wwr Lwr
      go_wp2
      go_returns
      exact ⟨by simp, hbf⟩

open Go.ChangeShapes Go.WideShapes Go.ChangeAt
set_option maxRecDepth 100000 in
theorem jnil_contract (H : Type) (enc : TypeId × Value → H) (W : World) (base : Nat) (args : Array Value) (ds gs : List (DataW H)) (before : List MemPlace)
    (hval0 : ∀ (j : Nat) t v, Tryz.f4.params[j]? = some t → args[j]? = some v → Value.okWide Tryz.prog W .any base t v)
    (hW : DataW.Whole enc Tryz.prog Tryz.f4.params.toList Rows.journalNilSpec.vars false W args.toList ds gs before) (hsz : (DataW.weightsEach Tryz.prog (Tryz.f4.params.toList ++ Rows.journalNilSpec.plain.varTypes Tryz.prog) (ds ++ gs)).all (· ≤ reachBytes) = true) (hp : Pow W) :
    Calls Tryz.prog 4 args W fun e W2 => ∃ v, e = .returned v ∧ Rows.journalNilSpec.post enc Tryz.prog Tryz.f4 false true false false W args v W2 := by
  have hval : ∀ (j : Nat) t v, Tryz.f4.params[j]? = some t → args[j]? = some v → Value.okWide Tryz.prog W .any base t v := hval0
  have hW' := hW
  obtain ⟨p, q, hA0, hV, rfl, _, _⟩ := hW
  have hA : DataW.TrodAll enc Tryz.prog W 0 (fun _ => true) true Tryz.f4.params.toList args.toList ds p := hA0
  rw [Tryz.params4] at hA hval hsz
  obtain ⟨v0, vs0, d0, ds0, p0, q0, hargs, rfl, rfl, h0, r0⟩ := trodAll_cons hA
  obtain ⟨v1, vs1, d1, ds1, p1, q1, rfl, rfl, rfl, h1, r1⟩ := trodAll_cons r0
  obtain ⟨rfl, rfl, rfl⟩ := trodAll_nil r1
  obtain rfl : args = #[v0, v1] := by cases args; simp_all
  obtain ⟨A0, zs0, c0, hb0⟩ := open_bytes Tryz.underlying33 Tryz.underlying5 cells8 (hval 0 33 v0 rfl rfl) h0
  have hl0 := hb0.reach hsz (j := 0) (t := 33) (e := 5) rfl rfl Tryz.underlying33 bytes8
  obtain rfl := hb0.val
  obtain ⟨a1, rfl, rfl, rfl, w1⟩ := open_int Tryz.underlying30 (hval 1 30 v1 rfl rfl) h1
  have b1 := bounds_u64 w1
  exact law_close laid rfl hW' (by kernel_rfl) rfl Tryz.underlying4 rfl (jnil_walk A0 zs0.length c0 a1 W hp)

theorem jnil_reads (os : Os) {H : Type} (enc : TypeId × Value → H) : ∃ places, DataW.whole enc Tryz.prog ((laidWorld os).forCall (fun _ _ => 0) ⟨#[], #[.slice none 0 0, .int .u64 0], []⟩).memory Tryz.f4.params.toList Rows.journalNilSpec.vars false (#[.slice none 0 0, .int .u64 0] : Array Value).toList 8 = some ([.nil, .lit (.int .u64 0)], [], places) :=
  ⟨[], by kernel_rfl⟩

set_option maxRecDepth 100000 in
theorem jnil_lifted (os : Os) (started : os.Started) (H : Type) (enc : TypeId × Value → H) (F : Stop.Interp) :
    ReturnsInHanded {} Tryz.checked os 4 .any ((OpenSpec.ofChange Rows.journalNilSpec).preRow enc Tryz.prog Tryz.f4 Rows.journalNilRow.domain false Rows.journalNilRow.laid) (((OpenSpec.ofChange Rows.journalNilSpec).at F).post enc Tryz.prog Tryz.f4 false true false false) := by
  obtain ⟨places, hx⟩ := jnil_reads os enc
  refine returnsInHanded_of_row (C := Tryz.checked) (s := OpenSpec.ofChange Rows.journalNilSpec) own started (by kernel_rfl) Tryz.func4
    (witness_row_at (enc := enc) (C := Tryz.checked) false (laidWorld os) #[.slice none 0 0, .int .u64 0] (laidWorld_os os) (by kernel_rfl) (by kernel_rfl) (by kernel_rfl)
      (OpenSpec.preRow_of_cond 8 hx (by kernel_rfl) (fun k hk => by cases hk) (by kernel_rfl) (laidWorld_met os _))) ?_
  intro W base args ds gs before hval hW _ _ hsz hL _ _
  exact jnil_contract H enc W base args ds gs before hval hW hsz (pow_of hL)

theorem journalNil_said : Rows.JournalNilSaid :=
  OpenClaim.holds_of_cond 4 Tryz.f4 rfl rfl rfl rfl rfl rfl rfl ⟨rfl, rfl, rfl, rfl, rfl⟩ rfl rfl rfl rfl rfl (by kernel_rfl) Tryz.func4 (by kernel_rfl)
    (of_decide_eq_true (by kernel_rfl)) (by unfold Func.isWrapper; first | (rw [if_pos (by decide +kernel)]; kernel_rfl) | (rw [if_neg (by decide +kernel)]; exact ⟨rfl, rfl⟩))
    (fun os started H enc _ F => by rw [OpenClaim.pre_eq_preRow]; exact jnil_lifted os started H enc F)

theorem jnil_plain (f : FuncId) (fn : Func) (hf : Tryz.pinned.checked.prog.funcNamed "berthmaster/berthmasterlaw05.JournalNil" = some f) (hfn : Tryz.pinned.checked.prog.funcs[f]? = some fn) :
    false = Tryz.pinned.checked.prog.looks [] ∧ ∀ (j : Nat) t, fn.params[j]? = some t → Tryz.pinned.checked.prog.wantsStandIn t = false := by
  obtain rfl : f = 4 := Option.some.inj ((show Tryz.prog.funcNamed "berthmaster/berthmasterlaw05.JournalNil" = some 4 by kernel_rfl).symm.trans hf) |>.symm
  obtain rfl : fn = Tryz.f4 := (Option.some.inj (Tryz.func4.symm.trans hfn)).symm
  refine ⟨by kernel_rfl, fun j t ht => ?_⟩
  rw [Tryz.params4] at ht
  have hm := Array.mem_of_getElem? ht
  simp only [List.mem_toArray, List.mem_cons, List.not_mem_nil, or_false] at hm
  rcases hm with rfl | rfl
  all_goals (show Tryz.prog.wantsStandIn _ = false; kernel_rfl)

theorem journalNil_holds : Rows.JournalNilCardSaid :=
  Claim7.holds_tied_plain_at .later [] _ _ _ _ journalNil_said (fun _ h => by cases h) (by kernel_rfl) (fun _ h => by cases h) journalNil_row_tie rfl ⟨rfl, rfl⟩ (by kernel_rfl) rfl jnil_plain (by kernel_rfl)

#print axioms journalNil_holds
end Go.Proofs.YtfiebjfdlplpjaaGreatDoor
