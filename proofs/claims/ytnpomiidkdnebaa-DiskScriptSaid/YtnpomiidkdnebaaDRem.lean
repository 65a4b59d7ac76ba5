/- The program's Remove and Rename. -/
import Derived.Test.YtnpomiidkdnebaaDDel
namespace Go.Proofs.Ytnpomiidkdnebaa
open Go.RowKit Go.Maps Go.WideMaps
set_option linter.unusedVariables false

theorem okd_burn {D : Dsk} (h : Okd D) : Okd (burn D) :=
  ⟨h.srt, h.nms, h.sy, h.fits, h.room, by have := h.fuse0; simp only [burn]; split <;> omega, by have := h.fuse1; simp only [burn]; split <;> omega⟩

theorem dRemove_err {D : Dsk} {l : Nm} (h : fcode D l ≠ 0) : dRemove D l = (fcode D l, D) := by
  unfold dRemove
  unfold fcode at h ⊢
  by_cases ha : ask D [l] ≠ 0
  · simp only [if_pos ha]
  · simp only [if_neg ha] at h ⊢
    by_cases hn : (find D.files l).isNone = true
    · simp only [if_pos hn]
    · simp only [if_neg hn] at h
      exact absurd rfl h

section
variable {S : Nat → Prop} {d mb nn : Nat} {M : DataW Unit} {blk : Nm → Nat} {vs : Nm → Value} {D : Dsk}

set_option maxHeartbeats 1000000 in
theorem remove1_any (s : ByteArray) (hs : s.size ≤ maxLen) (b1 b2 : Nat) (w : World) (h : DkAt w S d mb nn M blk vs D) (hnn : nn ≤ D.steps) (hok : Okd D)
    (h1 : Whole w b1 23 #[.pointer (some ⟨d, 0, none⟩)]) (h2 : Whole w b2 9 #[.string s]) :
    Calls Try.prog 62 #[.pointer (some ⟨b1, 0, none⟩), .pointer (some ⟨b2, 0, none⟩)] w fun e w2 => e = .returned (.tuple #[]) ∧ ∃ S', Dk 1 w2 S' d { D with files := del (lst s) D.files } ∧ Turn S S' w w2 := by
  have c1 : w.cell? ⟨b1, 0, none⟩ = some (.pointer (some ⟨d, 0, none⟩)) := h1.cell 0
  have c2 : w.cell? ⟨b2, 0, none⟩ = some (.string s) := h2.cell 0
  have hcon := forget_any s hs w h hok
  clear h1 h2 h
  go_enter Try.func62, Try.ntmps62
  go_wp2_with fail
  refine hcon.mono ?_
  rintro e w2 ⟨rfl, M', h2, ho⟩
  have H2 := Lib.hid h2
  have HO := Lib.hid ho
  clear h2 ho hcon
  go_wp2
  go_returns
  exact ⟨by simp, S, ⟨mb, nn, M', blk, vs, H2.out, by show nn ≤ D.steps + 1; omega⟩, ⟨HO.out, fun k hk => .inl hk⟩⟩
theorem remove1_enters : ∀ args w, (callFunc 62 args).run Try.prog w = .ok (.enter 62 args) w := enters_of Try.func62 (by kernel_rfl) rfl

set_option maxHeartbeats 2000000 in
set_option maxRecDepth 5000 in
theorem remove_any (s : ByteArray) (hs : s.size ≤ 9223372036854775807) (w : World) (h : Dk 0 w S d D) (hr : Room D) (hok : Okd D) :
    Calls Try.prog 26 #[.pointer (some ⟨d, 0, none⟩), .string s] w fun e w' => e = .returned (.int .i64 (dRemove D (lst s)).1) ∧ ∃ S', Dk 0 w' S' d (dRemove D (lst s)).2 ∧ Turn S S' w w' := by
  obtain ⟨mb, nn, M, blk, vs, h, hnn⟩ := h
  obtain ⟨W1, hW1⟩ : ∃ W1, W1 = (w.alloc (.cells #[.pointer (some ⟨d, 0, none⟩)] 23)).alloc (.cells #[.string s] 9) := ⟨_, rfl⟩
  have hb : Below w.heap.size w W1 := by rw [hW1]; exact ((Below.refl _ w).alloc (Nat.le_refl _) _).alloc (by simp) _
  have x1 : Whole W1 w.heap.size 23 #[.pointer (some ⟨d, 0, none⟩)] := by rw [hW1]; exact (Whole.new w _ _).alloc _
  have x2 : Whole W1 (w.heap.size + 1) 9 #[.string s] := by
    rw [hW1]
    have := Whole.new (w.alloc (.cells #[.pointer (some ⟨d, 0, none⟩)] 23)) 9 #[.string s]
    rw [World.size_alloc] at this
    exact this
  have h1 := h.go hb
  have hcon := find_any s hs W1 h1 hnn
  have HX := Lib.hid hW1
  clear hW1
  have hD : Dk 0 w S d D := ⟨mb, nn, M, blk, vs, h, hnn⟩
  by_cases hc : fcode D (lst s) = 0
  · obtain ⟨ha, f, hf⟩ := fcode_ok hc
    have e1 : fpt D blk (lst s) = .pointer (some ⟨blk (lst s), 0, none⟩) := by simp [fpt, hc]
    have e2 : dRemove D (lst s) = dStep D (del (lst s)) := by
      unfold dRemove
      rw [if_neg (by simp [ha]), hf]
      rfl
    rw [e1, hc] at hcon
    rw [e2]
    clear e1 e2 hc
    generalize blk (lst s) = bk at hcon
    go_enter Try.func26, Try.ntmps26
    go_wp2_with fail
    rw [← HX.out]
    refine hcon.mono ?_
    rintro e w1 ⟨rfl, hb1⟩
    have y1 := x1.below hb1 x1.lt
    have y2 := x2.below hb1 x2.lt
    have c1 : w1.cell? ⟨w.heap.size, 0, none⟩ = some (.pointer (some ⟨d, 0, none⟩)) := y1.cell 0
    have hb2 : Below w.heap.size w w1 := hb.trans (hb1.mono hb.size)
    have hcon2 := step_any 62 #[.pointer (some ⟨w.heap.size, 0, none⟩), .pointer (some ⟨w.heap.size + 1, 0, none⟩)] (del (lst s)) w1 (h.go hb2) hnn (by have := hr.steps; omega) hr.f0 hr.f1 remove1_enters
      (fun w3 h3 ho hsz => remove1_any s hs w.heap.size (w.heap.size + 1) w3 h3 hnn (okd_burn hok) (y1.outs ho (fun e => Nat.lt_irrefl _ (h.lt _ e))) (y2.outs ho (fun e => by have := h.lt _ e; omega)))
    clear hcon x1 x2 y1 y2 h1 hb hb1 HX
    go_wp2_with fail
    refine hcon2.mono ?_
    rintro e w3 ⟨rfl, S', hk, ht⟩
    have HK := Lib.hid hk
    have HT := Lib.hid ((Turn.below hb2).trans ht)
    clear hcon2 hk ht hb2
    go_wp2
    go_returns
    exact ⟨by simp, S', HK.out, HT.out⟩
  · have e1 : fpt D blk (lst s) = .pointer none := by simp [fpt, hc]
    rw [dRemove_err hc]
    have hn : (fcode D (lst s) != 0) = true := by simpa using hc
    rw [e1] at hcon
    generalize fcode D (lst s) = c at *
    clear hc e1 h h1
    go_enter Try.func26, Try.ntmps26
    go_wp2_with fail
    rw [← HX.out]
    refine hcon.mono ?_
    rintro e w1 ⟨rfl, hb1⟩
    have hb2 : Below w.heap.size w w1 := hb.trans (hb1.mono hb.size)
    clear hb hb1 x1 x2 hcon HX
    go_wp2
    go_returns
    exact ⟨by simp, S, hD.go hb2, Turn.below hb2⟩
end
end Go.Proofs.Ytnpomiidkdnebaa
