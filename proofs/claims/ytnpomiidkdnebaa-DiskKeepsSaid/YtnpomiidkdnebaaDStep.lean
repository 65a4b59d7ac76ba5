/- The program's one way of a step. -/
import Derived.Test.YtnpomiidkdnebaaDFind
namespace Go.Proofs.Ytnpomiidkdnebaa
open Go.RowKit Go.Maps
set_option linter.unusedVariables false

def burn (D : Dsk) : Dsk := { D with fuse := if D.fuse = -1 then -1 else D.fuse - 1 }

section
variable {S : Nat → Prop} {d mb nn : Nat} {M : DataW Unit} {blk : Nm → Nat} {vs : Nm → Value} {D : Dsk}
theorem DkAt.burn_ {w : World} (h : DkAt w S d mb nn M blk vs D) (h1 : D.fuse = -1) : DkAt w S d mb nn M blk vs (burn D) := by
  have e : burn D = D := by
    cases D
    simp only at h1
    subst h1
    rfl
  rw [e]
  exact h

set_option maxHeartbeats 1000000 in
theorem step_gen (Pr : (Nat → Prop) → Nat → Nat → DataW Unit → (Nm → Nat) → (Nm → Value) → Prop) (fv : Nat) (lb : Array Value) (t : List Fl → List Fl) (w : World) (h : DkAt w S d mb nn M blk vs D) (hp0 : D.fuse = 0 → Pr S mb nn M blk vs) (hst : D.steps + 1 ≤ 9223372036854775807) (hf0 : -1 ≤ D.fuse) (hf1 : D.fuse ≤ 9223372036854775807)
    (eg : ∀ args w, (callFunc fv args).run Try.prog w = .ok (.enter fv args) w)
    (hdo0 : D.fuse ≠ 0 → ∀ w1, DkAt w1 S d mb nn M blk vs (burn D) → Outs S w w1 → w1.heap.size = w.heap.size → Calls Try.prog fv lb w1 fun e w2 => e = .returned (.tuple #[]) ∧ ∃ S' mb' nn' M' blk' vs', DkAt w2 S' d mb' nn' M' blk' vs' { burn D with files := t D.files } ∧ Pr S' mb' nn' M' blk' vs' ∧ Turn S S' w1 w2) :
    Calls Try.prog 34 #[.pointer (some ⟨d, 0, none⟩), .func (.func fv) #[] lb] w fun e w' => e = .returned (.int .i64 (dStep D t).1) ∧ ∃ S' mb' nn' M' blk' vs', DkAt w' S' d mb' nn' M' blk' vs' (dStep D t).2 ∧ Pr S' mb' nn' M' blk' vs' ∧ Turn S S' w w' := by
  have c3 := h.c3
  have f1 := h.fz 1
  have f3 := h.fz 3
  have c1 := h.c1
  by_cases hz : D.fuse = 0
  · have e : dStep D t = (10, fall D) := by simp [dStep, hz]
    rw [e]
    have hz0 := hz
    rw [hz] at c3
    have hh := h.head 1 (.bool true) (fall D) rfl (by simp [topCells, fall, left])
    have ho : Turn S S w (w.setCell ⟨d, 1, none⟩ (.bool true)) := ⟨(Outs.refl _ _).setCell (.inl h.sd) _, fun _ h => .inl h⟩
    have HH := Lib.hid hh
    have HO := Lib.hid ho
    clear hh ho e hz hdo0
    go_enter Try.func34, Try.ntmps34
    go_wp2
    go_returns
    exact ⟨rfl, S, mb, nn, M, blk, vs, HH.out, hp0 hz0, HO.out⟩
  · have e : dStep D t = (0, { tick D with files := t D.files }) := by simp [dStep, hz]
    rw [e]
    have hn1 : (D.fuse == 0) = false := by simpa using hz
    have hdo := hdo0 hz
    clear hdo0
    -- what stands behind the work
    have fin : ∀ w1 w2, Outs S w w1 → w1.heap.size = w.heap.size → (∃ S' mb' nn' M' blk' vs', DkAt w2 S' d mb' nn' M' blk' vs' { burn D with files := t D.files } ∧ Pr S' mb' nn' M' blk' vs' ∧ Turn S S' w1 w2) → w2.cell? ⟨d, 4, none⟩ = some (.int .i64 D.steps) ∧ w2.frozen? ⟨d, 4, none⟩ = false ∧
        ∃ S' mb' nn' M' blk' vs', DkAt (w2.setCell ⟨d, 4, none⟩ (.int .i64 (D.steps + 1))) S' d mb' nn' M' blk' vs' { tick D with files := t D.files } ∧ Pr S' mb' nn' M' blk' vs' ∧ Turn S S' w (w2.setCell ⟨d, 4, none⟩ (.int .i64 (D.steps + 1))) := by
      rintro w1 w2 ho hs ⟨S', mb', nn', M', blk', vs', hk, hp, ht⟩
      refine ⟨hk.c4, hk.fz 4, S', mb', nn', M', blk', vs', hk.head 4 _ _ rfl ?_, hp, ⟨(ho.trans ht.outs (fun i hi => .inl hi)).setCell ?_ _, fun k hk => ?_⟩⟩
      · simp [topCells, burn, tick, left]
      · rcases ht.new d hk.sd with e | e
        · exact .inl e
        · exact .inr (by have e' : w1.heap.size ≤ d := e; show w.heap.size ≤ d; omega)
      · rcases ht.new k hk with e | e
        · exact .inl e
        · exact .inr (by omega)
    by_cases hm : D.fuse = -1
    · have hn2 : (D.fuse != -1) = false := by simp [hm]
      have hcon := hdo w (h.burn_ hm) (Outs.refl _ _) rfl
      have FIN := Lib.hid (fin w)
      have hst' : (D.steps : Int) + 1 ≤ 9223372036854775807 := by omega
      rw [hm] at c3
      clear fin hdo e hn1 hn2 hz hst
      go_enter Try.func34, Try.ntmps34
      go_wp2_with fail
      refine hcon.mono ?_
      rintro e w2 ⟨rfl, hk⟩
      obtain ⟨c4, f4, hfin⟩ := FIN.out w2 (Outs.refl _ _) (by first | rfl | trivial) hk
      have HF := Lib.hid hfin
      clear hfin hk
      go_wp2
      go_returns
      exact ⟨rfl, HF.out⟩
    · have hn2 : (D.fuse != -1) = true := by simpa using hm
      have hb : burn D = { D with fuse := D.fuse - 1 } := by simp [burn, hm]
      have h1 : DkAt (w.setCell ⟨d, 3, none⟩ (.int .i64 (D.fuse - 1))) S d mb nn M blk vs (burn D) := by
        rw [hb]
        exact h.head 3 _ _ rfl (by simp [topCells, left])
      have ho : Outs S w (w.setCell ⟨d, 3, none⟩ (.int .i64 (D.fuse - 1))) := (Outs.refl _ _).setCell (.inl h.sd) _
      have hcon := hdo _ h1 ho (by simp [World.setCell])
      have FIN := Lib.hid (fin (w.setCell ⟨d, 3, none⟩ (.int .i64 (D.fuse - 1))))
      have hst' : (D.steps : Int) + 1 ≤ 9223372036854775807 := by omega
      have HO := Lib.hid ho
      have hF0 : 0 ≤ D.fuse - 1 := by omega
      generalize hF : D.fuse = F at *
      clear fin hdo e hst ho h1 hb hF h
      go_enter Try.func34, Try.ntmps34
      go_wp2_with fail
      refine hcon.mono ?_
      rintro e w2 ⟨rfl, hk⟩
      obtain ⟨c4, f4, hfin⟩ := FIN.out w2 HO.out (by first | rfl | simp [World.setCell]) hk
      have HF := Lib.hid hfin
      clear hfin hk
      go_wp2
      go_returns
      exact ⟨rfl, HF.out⟩

theorem step_any (fv : Nat) (lb : Array Value) (t : List Fl → List Fl) (w : World) (h : DkAt w S d mb nn M blk vs D) (hnn : nn ≤ D.steps) (hst : D.steps + 1 ≤ 9223372036854775807) (hf0 : -1 ≤ D.fuse) (hf1 : D.fuse ≤ 9223372036854775807)
    (eg : ∀ args w, (callFunc fv args).run Try.prog w = .ok (.enter fv args) w)
    (hdo : ∀ w1, DkAt w1 S d mb nn M blk vs (burn D) → Outs S w w1 → w1.heap.size = w.heap.size → Calls Try.prog fv lb w1 fun e w2 => e = .returned (.tuple #[]) ∧ ∃ S', Dk 1 w2 S' d { burn D with files := t D.files } ∧ Turn S S' w1 w2) :
    Calls Try.prog 34 #[.pointer (some ⟨d, 0, none⟩), .func (.func fv) #[] lb] w fun e w' => e = .returned (.int .i64 (dStep D t).1) ∧ ∃ S', Dk 0 w' S' d (dStep D t).2 ∧ Turn S S' w w' := by
  refine (step_gen (fun _ _ nn' _ _ _ => nn' ≤ (dStep D t).2.steps) fv lb t w h (fun hz => ?_) hst hf0 hf1 eg (fun hz w1 h1 ho hs => (hdo w1 h1 ho hs).mono ?_)).mono ?_
  · simp only [dStep, if_pos hz, fall]
    exact hnn
  · rintro e w2 ⟨rfl, S', ⟨mb', nn', M', blk', vs', hk, hn⟩, ht⟩
    refine ⟨rfl, S', mb', nn', M', blk', vs', hk, ?_, ht⟩
    simp only [dStep, if_neg hz, tick]
    exact hn
  · rintro e w' ⟨rfl, S', mb', nn', M', blk', vs', hk, hn, ht⟩
    exact ⟨rfl, S', ⟨mb', nn', M', blk', vs', hk, hn⟩, ht⟩
end
end Go.Proofs.Ytnpomiidkdnebaa
