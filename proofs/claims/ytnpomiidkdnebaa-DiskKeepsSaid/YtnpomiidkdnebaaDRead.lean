/- The program's New, Fuse, Read, Synced. -/
import Derived.Test.YtnpomiidkdnebaaDMake
namespace Go.Proofs.Ytnpomiidkdnebaa
open Go.RowKit Go.Maps Go.WideMaps
set_option linter.unusedVariables false

set_option maxHeartbeats 1000000 in
set_option maxRecDepth 5000 in
theorem new_any (r : Nat) (hr : r ≤ 1073741824) (w : World) :
    Calls Try.prog 9 #[.int .i64 r] w fun e w' => ∃ S d, e = .returned (.tuple #[.pointer (some ⟨d, 0, none⟩), .int .i64 0]) ∧ Dk 0 w' S d (dNew r) ∧ Below w.heap.size w w' ∧ ∀ k, S k → w.heap.size ≤ k := by
  have h1 : ¬ (r : Int) < 0 := by omega
  have h2 : ¬ (1073741824 : Int) < r := by omega
  have hmm := @run_makeMap Try.prog
  go_enter Try.func9, Try.ntmps9
  go_wp2
  go_returns
  have hb : Below w.heap.size w ((w.alloc (.map #[] 0)).alloc (.cells #[.pointer (some ⟨w.heap.size + 1, 0, none⟩), .bool false, .int .i64 r, .int .i64 (-1), .int .i64 0, .map (some w.heap.size)] 54)) := ((Below.refl _ w).alloc (Nat.le_refl _) _).alloc (by simp) _
  refine ⟨fun k => k = w.heap.size ∨ k = w.heap.size + 1, w.heap.size + 1, rfl, ⟨w.heap.size, 0, .map [], fun _ => 0, fun _ => undef, ?_, Nat.zero_le _⟩, hb, fun k hk => by omega⟩
  have hx := Whole.new (w.alloc (.map #[] 0)) 54 #[.pointer (some ⟨w.heap.size + 1, 0, none⟩), .bool false, .int .i64 r, .int .i64 (-1), .int .i64 0, .map (some w.heap.size)]
  rw [World.size_alloc] at hx
  exact
    { top := by
        have : topCells (w.heap.size + 1) w.heap.size (dNew r) = #[.pointer (some ⟨w.heap.size + 1, 0, none⟩), .bool false, .int .i64 r, .int .i64 (-1), .int .i64 0, .map (some w.heap.size)] := by simp [topCells, dNew, left, used]
        rw [this]
        exact hx
      map := (World.ownsMap_made w Try.prog 9 ptrR).alloc _
      key := fun l z => rfl
      fil := fun l f hf => by cases hf
      inj := fun l l' f f' hf => by cases hf
      sd := .inr rfl
      sm := .inl rfl
      sb := fun l f hf => by cases hf
      lt := fun k hk => by simp; omega }
theorem new_bad (r : Int) (hr : r < 0 ∨ 1073741824 < r) (w : World) :
    Calls Try.prog 9 #[.int .i64 r] w fun e w' => e = .returned (.tuple #[.pointer none, .int .i64 2]) ∧ w' = w := by
  by_cases h1 : r < 0
  · go_enter Try.func9, Try.ntmps9
    go_wp2
    go_returns
    exact ⟨by simp, rfl⟩
  · have h2 : 1073741824 < r := by omega
    go_enter Try.func9, Try.ntmps9
    go_wp2
    go_returns
    exact ⟨by simp, rfl⟩

section
variable {S : Nat → Prop} {d mb nn : Nat} {M : DataW Unit} {blk : Nm → Nat} {vs : Nm → Value} {D : Dsk}
theorem fuse_any (n : Int) (w : World) (h : Dk 0 w S d D) :
    Calls Try.prog 16 #[.pointer (some ⟨d, 0, none⟩), .int .i64 n] w fun e w' => e = .returned (.int .i64 (dFuse D n).1) ∧ Dk 0 w' S d (dFuse D n).2 ∧ Turn S S w w' := by
  have hcon := refusal_none w h
  cases ho : D.off
  · rw [ho] at hcon
    by_cases hn : n < 0
    · have e : dFuse D n = (2, D) := by simp [dFuse, ho, hn]
      rw [e]
      go_enter Try.func16, Try.ntmps16
      go_wp2_with (refine hcon.mono ?_; rintro e w' ⟨rfl, rfl⟩)
      go_returns
      exact ⟨by simp, h, Turn.refl _ _⟩
    · have e : dFuse D n = (0, { D with fuse := n }) := by simp [dFuse, ho, hn]
      rw [e]
      obtain ⟨mb, nn, M, blk, vs, h, hnn⟩ := h
      have c3 := h.c3
      have f3 := h.fz 3
      have hh : Dk 0 (w.setCell ⟨d, 3, none⟩ (.int .i64 n)) S d { D with fuse := n } := ⟨mb, nn, M, blk, vs, h.head 3 _ _ rfl (by simp [topCells, left]), hnn⟩
      have ht : Turn S S w (w.setCell ⟨d, 3, none⟩ (.int .i64 n)) := ⟨(Outs.refl _ _).setCell (.inl h.sd) _, fun _ h => .inl h⟩
      have HH := Lib.hid hh
      have HT := Lib.hid ht
      clear hh ht e h
      go_enter Try.func16, Try.ntmps16
      go_wp2_with (refine hcon.mono ?_; rintro e w' ⟨rfl, rfl⟩)
      go_returns
      exact ⟨by simp, HH.out, HT.out⟩
  · rw [ho] at hcon
    have e : dFuse D n = (10, D) := by simp [dFuse, ho]
    rw [e]
    go_enter Try.func16, Try.ntmps16
    go_wp2_with (refine hcon.mono ?_; rintro e w' ⟨rfl, rfl⟩)
    go_returns
    exact ⟨by simp, h, Turn.refl _ _⟩

theorem dclone_any (A : Option Addr) (n c : Nat) (xs : List Int) (w : World) (hn : xs.length = n) (hl : n ≤ 140737488355328) (hr : Rds w w.heap.size A (c8 xs)) :
    Calls Try.prog 45 #[.slice A n c] w fun e w' => ∃ v, e = .returned v ∧ w'.ownsRow w.heap.size 5 1 v n (c8 xs) ∧ Below w.heap.size w w' := by
  cases A with
  | none =>
    obtain rfl : xs = [] := by
      cases xs with
      | nil => rfl
      | cons x r => obtain ⟨ad, e, _⟩ := hr (by simp [c8]); cases e
    obtain rfl : n = 0 := by simpa using hn.symm
    refine (Try.bytes_Clone_nil 0 c w).mono ?_
    rintro e w' ⟨rfl, rfl⟩
    exact ⟨_, rfl, World.ownsRow_nil _ _ _ _, Below.refl _ _⟩
  | some ad =>
    refine (Try.bytes_Clone_at ad n c xs w hn hl ?_).mono ?_
    · intro i hi
      have hi' : i < xs.length := by omega
      obtain ⟨ad', e, _, hc⟩ := hr.at_ (c8_get hi')
      obtain rfl := Option.some.inj e
      rw [hc, List.getD_eq_getElem?_getD, List.getElem?_eq_getElem hi']
      rfl
    · rintro e w' ⟨v, rfl, ho, _, hb⟩
      exact ⟨v, rfl, ho, hb⟩

theorem dRead_err {D : Dsk} {l : Nm} (h : fcode D l ≠ 0) : dRead D l = ([], fcode D l) := by
  unfold dRead
  unfold fcode at h ⊢
  by_cases ha : ask D [l] ≠ 0
  · simp only [if_pos ha]
  · simp only [if_neg ha] at h ⊢
    cases hn : find D.files l with
    | none => rfl
    | some f => rw [hn] at h; exact absurd rfl h
theorem dSynced_err {D : Dsk} {l : Nm} (h : fcode D l ≠ 0) : dSynced D l = (0, fcode D l) := by
  unfold dSynced
  unfold fcode at h ⊢
  by_cases ha : ask D [l] ≠ 0
  · simp only [if_pos ha]
  · simp only [if_neg ha] at h ⊢
    cases hn : find D.files l with
    | none => rfl
    | some f => rw [hn] at h; exact absurd rfl h

set_option maxHeartbeats 1000000 in
set_option maxRecDepth 5000 in
theorem read_any (s : ByteArray) (hs : s.size ≤ 9223372036854775807) (w : World) (h : Dk 0 w S d D) (hb30 : ∀ l f, find D.files l = some f → f.bs.length ≤ 1073741824) :
    Calls Try.prog 14 #[.pointer (some ⟨d, 0, none⟩), .string s] w fun e w' => ∃ v, e = .returned (.tuple #[v, .int .i64 (dRead D (lst s)).2]) ∧ w'.ownsRow w.heap.size 5 1 v (dRead D (lst s)).1.length (c8 (dRead D (lst s)).1) ∧ Below w.heap.size w w' := by
  obtain ⟨mb, nn, M, blk, vs, h, hnn⟩ := h
  have hcon := find_any s hs w h hnn
  by_cases hc : fcode D (lst s) = 0
  · obtain ⟨ha, f, hf⟩ := fcode_ok hc
    have e1 : fpt D blk (lst s) = .pointer (some ⟨blk (lst s), 0, none⟩) := by simp [fpt, hc]
    have e2 : dRead D (lst s) = (f.bs, 0) := by
      unfold dRead
      rw [if_neg (by simp [ha]), hf]
    rw [e1, hc] at hcon
    rw [e2]
    clear e1 e2 hc
    have hlen := hb30 _ f hf
    obtain ⟨hW, hR⟩ := h.fil _ f hf
    obtain ⟨A, c, hv, hr, hnc, hcm, hA0⟩ := own_open hR
    generalize f.bs = xs at *
    generalize hN : xs.length = N at *
    generalize blk (lst s) = bk at *
    go_enter Try.func14, Try.ntmps14
    go_wp2_with fail
    refine hcon.mono ?_
    rintro e w1 ⟨rfl, hb⟩
    have w0 : w1.cell? ⟨bk, 0, none⟩ = some (.slice A N c) := by rw [← hv]; exact (hW.below hb hW.lt).cell 0
    have hr1 := (hr.below hb).more hb.size
    have hcl := dclone_any A N c xs w1 hN (by omega) hr1
    clear hW hR hr hr1 hv hcon hA0 hnc hcm h hf
    clear hN
    go_wp2_with fail
    refine hcl.mono ?_
    rintro e w2 ⟨v, rfl, ho, hb2⟩
    have HO := Lib.hid (ownRow_base ho (B' := w.heap.size) (fun g hg => Nat.le_trans hb.size (ownRow_block ho hg).1))
    have HB := Lib.hid (hb.trans (hb2.mono hb.size))
    clear ho hb2 hcl w0
    go_wp2
    go_returns
    exact ⟨v, by simp, HO.out, HB.out⟩
  · have e1 : fpt D blk (lst s) = .pointer none := by simp [fpt, hc]
    rw [dRead_err hc]
    have hn : (fcode D (lst s) != 0) = true := by simpa using hc
    rw [e1] at hcon
    generalize fcode D (lst s) = c at *
    clear hc e1 h
    go_enter Try.func14, Try.ntmps14
    go_wp2_with fail
    refine hcon.mono ?_
    rintro e w1 ⟨rfl, hb⟩
    go_wp2
    go_returns
    exact ⟨_, by simp, World.ownsRow_nil _ _ _ _, hb⟩

set_option maxHeartbeats 1000000 in
set_option maxRecDepth 5000 in
theorem synced_any (s : ByteArray) (hs : s.size ≤ 9223372036854775807) (w : World) (h : Dk 0 w S d D) :
    Calls Try.prog 15 #[.pointer (some ⟨d, 0, none⟩), .string s] w fun e w' => e = .returned (.tuple #[.int .i64 (dSynced D (lst s)).1, .int .i64 (dSynced D (lst s)).2]) ∧ Below w.heap.size w w' := by
  obtain ⟨mb, nn, M, blk, vs, h, hnn⟩ := h
  have hcon := find_any s hs w h hnn
  by_cases hc : fcode D (lst s) = 0
  · obtain ⟨ha, f, hf⟩ := fcode_ok hc
    have e1 : fpt D blk (lst s) = .pointer (some ⟨blk (lst s), 0, none⟩) := by simp [fpt, hc]
    have e2 : dSynced D (lst s) = (f.sy, 0) := by
      unfold dSynced
      rw [if_neg (by simp [ha]), hf]
    rw [e1, hc] at hcon
    rw [e2]
    clear e1 e2 hc
    obtain ⟨hW, hR⟩ := h.fil _ f hf
    generalize f.sy = N at *
    generalize blk (lst s) = bk at *
    go_enter Try.func15, Try.ntmps15
    go_wp2_with fail
    refine hcon.mono ?_
    rintro e w1 ⟨rfl, hb⟩
    have w0 : w1.cell? ⟨bk, 1, none⟩ = some (.int .i64 N) := (hW.below hb hW.lt).cell 1
    clear hW hR hcon h hf
    go_wp2
    go_returns
    exact ⟨by simp, hb⟩
  · have e1 : fpt D blk (lst s) = .pointer none := by simp [fpt, hc]
    rw [dSynced_err hc]
    have hn : (fcode D (lst s) != 0) = true := by simpa using hc
    rw [e1] at hcon
    generalize fcode D (lst s) = c at *
    clear hc e1 h
    go_enter Try.func15, Try.ntmps15
    go_wp2_with fail
    refine hcon.mono ?_
    rintro e w1 ⟨rfl, hb⟩
    go_wp2
    go_returns
    exact ⟨by simp, hb⟩
end
end Go.Proofs.Ytnpomiidkdnebaa
