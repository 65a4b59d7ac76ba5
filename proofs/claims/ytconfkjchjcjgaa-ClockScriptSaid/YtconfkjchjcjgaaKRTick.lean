/- The document's Tick. -/
import Derived.Test.YtconfkjchjcjgaaKRDrop
import Derived.Test.YtconfkjchjcjgaaKOnceM
namespace Go.Proofs.Ytconfkjchjcjgaa
open Go.RowKit
set_option linter.unusedVariables false
section
variable {w : World} {R : Nat → Prop} {x n c : Nat} {A : Option Addr} {T : Int} {L : List It}
theorem rtickBad_any (x : Nat) {t : Int} (hb : t < 0 ∨ 1048576 < t) (w : World) :
    Calls Try.prog 25 #[.pointer (some ⟨x, 0, none⟩), .int .i64 t] w fun e w' => e = .returned (.tuple #[.slice none 0 0, .int .i64 2]) ∧ w = w' := by
  by_cases c1 : t < 0
  · have t1 : decide (t < 0) = true := decide_eq_true c1
    clear hb
    go_enter Try.func25, Try.ntmps25
    go_wp2
    go_returns
    exact ⟨rfl, rfl⟩
  have t1 : decide (t < 0) = false := decide_eq_false c1
  have t2 : decide (1048576 < t) = true := decide_eq_true (by omega)
  clear hb c1
  go_enter Try.func25, Try.ntmps25
  go_wp2
  go_returns
  exact ⟨rfl, rfl⟩
theorem RwAt.reads (h : RwAt w R x A n c T L) (t : Int) : RwAt (w.setCell ⟨x, 0, none⟩ (.int .i64 t)) R x A n c t L :=
  { h with
    top := by simpa using h.top.put 0 (.int .i64 t)
    rds := fun hne => by
      obtain ⟨ad, e, hb, hc⟩ := h.rds hne
      refine ⟨ad, e, by simpa [World.setCell] using hb, fun j u hu => ?_⟩
      rw [World.cell?_of_block (Below.heap_setCell _ _ _ _ (by rw [blk_add]; exact (h.inR ad hne e).2))]
      exact hc j u hu
    lt := fun k hk => by simpa [World.setCell] using h.lt k hk }
/-- w.L = w.L[1:] -/
theorem RwAt.tail {y : It} {L1 : List It} (h : RwAt w R x A n c T (y :: L1)) : RwAt (w.setCell ⟨x, 1, none⟩ (.slice (if c = 1 then A else A.map (·.add 2)) (n - 1) (c - 1))) R x (if c = 1 then A else A.map (·.add 2)) (n - 1) (c - 1) T L1 := by
  have hl := h.len
  have hcp := h.cap
  rw [List.length_cons] at hl
  have hr0 := rowed_drop2 (k := 1) h.rds hcp (by rw [cE_length, h.len])
  rw [← cE_drop, List.drop_succ_cons, List.drop_zero, show 1 * 2 = 2 from rfl] at hr0
  refine { top := by simpa using h.top.put 1 _, len := by omega, cap := by omega, cmax := by have := h.cmax; omega, few := by have := h.few; omega, nil_ := fun e => ?_, rds := fun hne => ?_, inR := fun ad hne e => ?_, sx := h.sx, lt := fun k hk => by simpa [World.setCell] using h.lt k hk }
  · cases A with
    | none => have := (h.nil_ rfl).1; omega
    | some ad => split at e <;> cases e
  · obtain ⟨ad, e, hb, hc⟩ := hr0 hne
    have hne0 : cE (y :: L1) ≠ [] := by intro z; have := congrArg List.length z; rw [cE_length] at this; simp at this
    have hbx : ad.block ≠ x := by
      cases A with
      | none => split at e <;> cases e
      | some a0 =>
        have hx := (h.inR a0 hne0 rfl).2
        split at e
        · cases e; exact hx
        · have := Option.some.inj e; rw [← this, blk_add]; exact hx
    refine ⟨ad, e, by simpa [World.setCell] using hb, fun j u hu => ?_⟩
    rw [World.cell?_of_block (Below.heap_setCell _ _ _ _ (by rw [blk_add]; exact hbx))]
    exact hc j u hu
  · have hne0 : cE (y :: L1) ≠ [] := by intro z; have := congrArg List.length z; rw [cE_length] at this; simp at this
    cases A with
    | none => split at e <;> cases e
    | some a0 =>
      have hx := h.inR a0 hne0 rfl
      split at e
      · cases e; exact hx
      · have := Option.some.inj e; rw [← this, blk_add]; exact hx

set_option maxHeartbeats 8000000 in
set_option maxRecDepth 100000 in
theorem rtick_any (h : Rw w R x T L) (hT : 0 ≤ T ∧ T ≤ 4611686018426000000) {t : Int} (ht : 0 ≤ t ∧ t ≤ 1048576) :
    Calls Try.prog 25 #[.pointer (some ⟨x, 0, none⟩), .int .i64 t] w fun e w' => ∃ v, e = .returned (.tuple #[v, .int .i64 0]) ∧ w'.ownsRow w.heap.size 9 1 v (due (T + t) L).length (cT (due (T + t) L)) ∧ Rw w' R x (T + t) (rest (T + t) L) ∧ Outs (fun k => k = x) w w' := by
  obtain ⟨i0, hi, hz0, hz1, hz2⟩ := info_parts infoS
  obtain ⟨A, n, c, h⟩ := h
  have c0 := h.c0
  have f0 := h.top.frozen 0
  have hw1 := h.reads (T + t)
  have ho1 : Outs (fun k => k = x) w (w.setCell ⟨x, 0, none⟩ (.int .i64 (T + t))) := (Outs.refl (fun k => k = x) w).setCell (p := ⟨x, 0, none⟩) (.inl rfl) _
  have t1 : decide (t < 0) = false := decide_eq_false (by omega)
  have t2 : decide (1048576 < t) = false := decide_eq_false (by omega)
  have HLT := Lib.hid h.lt
  have hfew := h.few
  have hLn := h.len
  have HW1 : Hid (Rw (w.setCell ⟨x, 0, none⟩ (.int .i64 (T + t))) R x (T + t) L) := Lib.hid ⟨_, _, _, hw1⟩
  have HO1 := Lib.hid ho1
  have hlen : L.length ≤ 1000000 := by omega
  clear h hw1 ho1 hfew hLn
  go_enter Try.func25, Try.ntmps25
  go_wp2
  generalize w.setCell ⟨x, 0, none⟩ (.int .i64 (T + t)) = w1 at *
  clear c0 f0
  obtain ⟨tt, htt⟩ : ∃ tt, tt = T + t := ⟨_, rfl⟩
  rw [← htt] at HW1
  have httB : 0 ≤ tt ∧ tt ≤ 4611686018427387904 := by omega
  have HTT := Lib.hid htt
  clear htt
  go_loopw [6] (fun v wr => ∃ T1 L1 : List It, wr.ownsRow w.heap.size 9 1 v T1.length (cT T1) ∧ T1 ++ L1 = L ∧ (∀ y ∈ T1, y.at_ ≤ tt) ∧ Rw wr R x tt L1 ∧ Outs (fun k => k = x) w wr) (fun v _ => L.length - sliceLen v)
  case atStart => exact ⟨[], L, ⟨rfl, .inl ⟨rfl, rfl⟩⟩, rfl, by simp, HW1.out, HO1.out⟩
  case round =>
    obtain ⟨T1, L1, hrow, happ, hdue, hrw, hout⟩ := hrel
    have hln : T1.length + L1.length = L.length := by rw [← happ, List.length_append]
    have HAPP := Lib.hid happ
    have HDUE := Lib.hid hdue
    have HRW := Lib.hid hrw
    have HOUT := Lib.hid hout
    have HROW := Lib.hid hrow
    obtain ⟨A0, q0, rfl, -⟩ := own_open hrow
    obtain ⟨A, n, c, hw⟩ := hrw
    have c0 := hw.c0
    have c1 := hw.c1
    have hnl := hw.len
    have hcap := hw.cap
    have hcm : (c : Int) ≤ 9223372036854775807 := by have := hw.cmax; unfold maxLen at this; omega
    clear happ hdue hout hrow
    cases L1 with
    | nil =>
      obtain rfl : n = 0 := by simpa using hnl.symm
      have hd := due_rest (t := tt) (T := T1) (L1 := []) HDUE.out (.inl rfl)
      rw [HAPP.out] at hd
      have HD := Lib.hid hd
      clear hd hw
      go_wp2
      go_quiet (fail)
      go_wp2
      go_returns
      refine ⟨.slice A0 T1.length q0, rfl, ?_, ?_, ?_⟩
      · rw [← HTT.out, HD.out.1]; exact HROW.out
      · rw [← HTT.out, HD.out.2]; exact HRW.out.go (bDrewN (Below.refl _ _) _)
      · exact HOUT.out.drewN _
    | cons y L1 =>
      obtain ⟨ad, rfl, e0, e1⟩ := hw.at0 rfl
      obtain ⟨n, rfl⟩ : ∃ m, n = m + 1 := ⟨n - 1, by simp at hnl; omega⟩
      have hn1 : ((0 : Int) < (n + 1 : Nat)) := by omega
      have hn2 : (n : Int) ≤ 1000000 := by simp only [List.length_cons] at hnl hln; omega
      have HW := Lib.hid hw
      obtain ⟨ya, hya⟩ : ∃ ya, y.at_ = ya := ⟨_, rfl⟩
      rw [hya] at e1
      have HYA := Lib.hid hya
      clear hya hw
      by_cases hle : ya ≤ tt
      · have tl : decide (ya ≤ tt) = true := decide_eq_true hle
        have hk16 : (T1.length + 1) * 16 ≤ 140737488355328 := by simp only [List.length_cons] at hln; omega
        have hTm : T1.length + 1 ≤ maxLen := by unfold maxLen; simp only [List.length_cons] at hln; omega
        go_wp2
        go_quiet (fail)
        have HROW2 := Lib.hid (ownRow_block_kept HROW.out (w' := wr.drewN nq) fun g hg => rfl)
        have hszr := HOUT.out.size
        go_wp2_with (at_builtin; go_loud (refine app_one _ rfl (.tmp 42) (.tmp 50) 33 rfl w.heap.size 9 i0 (.string ⟨#[]⟩) 16 Try.underlying33 hi hz0 hz1 hz2 rfl _ T1.length _ rfl HROW2.out (.string y.nm) rfl rfl hTm hk16 (by simpa using hszr) ?_); intro v' w2 hown2 hb2; obtain ⟨A2, q2, rfl, -⟩ := own_open hown2; have HB2 := Lib.hid hb2; have HW2 := Lib.hid hown2; clear hb2 hown2; have HT2 := Lib.hid ((HW.out.go (bDrewN (Below.refl _ _) nq)).outs (Outs.ofBelow HB2.out) (fun k hk e => by have := HLT.out k hk; omega)); have c1x := HT2.out.c1; have f1x := HT2.out.top.frozen 1)
        have htl := HT2.out.tail
        rw [show ((some ad : Option Addr).map (·.add 2)) = some ⟨ad.block, ad.off + 2, none⟩ from by rw [Option.map_some, addr_off (by decide)]] at htl
        have hxlt := HLT.out x HT2.out.sx
        refine ⟨⟨T1 ++ [y], L1, ?_, by rw [List.append_assoc]; exact HAPP.out, fun z hz => ?_, ⟨_, _, _, htl⟩, ?_⟩, ?_⟩
        · have := ownRow_block_kept (w' := w2.setCell ⟨x, 1, none⟩ (.slice (if c = 1 then some ad else some ⟨ad.block, ad.off + 2, none⟩) n (c - 1))) HW2.out fun g hg => Below.heap_setCell _ _ _ _ (by
            have := (HW2.out.lt g hg).1
            show g ≠ x
            omega)
          simpa [cT] using this
        · rcases List.mem_append.1 hz with hz | hz
          · exact HDUE.out z hz
          · obtain rfl := List.mem_singleton.1 hz
            rw [HYA.out]; exact hle
        · exact ((HOUT.out.drewN nq).trans (Outs.ofBelow HB2.out) (fun _ hk => .inr hk)).setCell (p := ⟨x, 1, none⟩) (.inl rfl) _
        · simp only [List.length_cons] at hln
          show L.length - (T1.length + 1) < L.length - T1.length
          omega
      · have tl : decide (ya ≤ tt) = false := decide_eq_false hle
        have hd := due_rest (t := tt) (T := T1) (L1 := y :: L1) HDUE.out (.inr ⟨y, L1, rfl, by have := HYA.out; omega⟩)
        rw [HAPP.out] at hd
        have HD := Lib.hid hd
        clear hd
        go_wp2
        go_quiet (fail)
        go_wp2
        go_returns
        refine ⟨.slice A0 T1.length q0, rfl, ?_, ?_, ?_⟩
        · rw [← HTT.out, HD.out.1]; exact HROW.out
        · rw [← HTT.out, HD.out.2]; exact HRW.out.go (bDrewN (Below.refl _ _) _)
        · exact HOUT.out.drewN _
end
end Go.Proofs.Ytconfkjchjcjgaa
