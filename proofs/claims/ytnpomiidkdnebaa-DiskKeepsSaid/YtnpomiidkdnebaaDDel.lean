/- A file goes from the disk, or gets another name; the program's Remove. -/
import Derived.Test.YtnpomiidkdnebaaDRead
namespace Go.Proofs.Ytnpomiidkdnebaa
open Go.RowKit Go.Maps Go.WideMaps
set_option linter.unusedVariables false

section
variable {S : Nat → Prop} {d mb nn : Nat} {M : DataW Unit} {blk : Nm → Nat} {vs : Nm → Value} {D : Dsk}

theorem str_ne {l m : Nm} (h : l ≠ m) : (Lit.string l) ≠ .string m := fun e => h (by injection e)

theorem DkAt.dropFile {w w' : World} (h : DkAt w S d mb nn M blk vs D) {l : Nm} (D' : Dsk) (hfiles : D'.files = del l D.files)
    (hsz : w.heap.size ≤ w'.heap.size) (ho : ∀ k, k < w.heap.size → k ≠ d → k ≠ mb → w'.heap[k]? = w.heap[k]?) (htop : Whole w' d 54 (topCells d mb D'))
    (n' : Nat) (hM : w'.ownsMap Try.prog 9 ptrR mb n' (M.del (.string l))) :
    DkAt w' S d mb n' (M.del (.string l)) blk vs D' := by
  have hfd : ∀ m, find D'.files m = if l = m then none else find D.files m := fun m => by rw [hfiles, find_del]
  have old : ∀ m f', find D'.files m = some f' → l ≠ m ∧ find D.files m = some f' := by
    intro m f' hm
    rw [hfd] at hm
    by_cases e : l = m
    · rw [if_pos e] at hm; cases hm
    · rw [if_neg e] at hm; exact ⟨e, hm⟩
  refine { top := htop, map := hM, key := ?_, fil := ?_, inj := ?_, sd := h.sd, sm := h.sm, sb := ?_, lt := fun k hk => Nat.lt_of_lt_of_le (h.lt k hk) hsz }
  · intro m z
    rw [hfd]
    by_cases e : l = m
    · subst e
      rw [atKey_del_same, if_pos rfl]
    · rw [atKey_del_other (str_ne (Ne.symm e)), h.key, if_neg e]
  · intro m f' hm
    obtain ⟨hne, hq⟩ := old m f' hm
    exact ⟨(ho _ (h.blt hq) (h.ne_blk hq) (h.ne_map hq)).trans (h.fil m f' hq).1, ownRow_block_kept (h.fil m f' hq).2 fun k hk => ho _ (h.rlt hq hk) (h.ne_row hq hk) (h.ne_rowm hq hk)⟩
  · intro m m' f1 f2 h1 h2 hne
    exact h.inj m m' f1 f2 (old m f1 h1).2 (old m' f2 h2).2 hne
  · intro m f' hm
    exact h.sb m f' (old m f' hm).2

theorem DkAt.moveFile {w w' : World} (h : DkAt w S d mb nn M blk vs D) {l m : Nm} {f : Fl} (hf : find D.files l = some f) (hm : find D.files m = none) (D' : Dsk) (hfiles : D'.files = ins { f with nm := m } (del l D.files))
    (hsz : w.heap.size ≤ w'.heap.size) (ho : ∀ k, k < w.heap.size → k ≠ mb → w'.heap[k]? = w.heap[k]?) (htc : topCells d mb D' = topCells d mb D)
    (n' : Nat) (hM : w'.ownsMap Try.prog 9 ptrR mb n' ((M.del (.string l)).put (.string m) (.lit (.int .i64 (blk l))))) :
    DkAt w' S d mb n' ((M.del (.string l)).put (.string m) (.lit (.int .i64 (blk l)))) (fun x => if x = m then blk l else blk x) (fun x => if x = m then vs l else vs x) D' := by
  have hlm : l ≠ m := fun e => by rw [e, hm] at hf; cases hf
  have hdm : find (del l D.files) m = none := by rw [find_del, if_neg hlm, hm]
  have hfd : ∀ x, find D'.files x = if m = x then some { f with nm := m } else if l = x then none else find D.files x := fun x => by
    rw [hfiles, find_ins (f := { f with nm := m }) hdm, find_del]
  have old : ∀ x f', find D'.files x = some f' → x ≠ m → l ≠ x ∧ find D.files x = some f' := by
    intro x f' hx hne
    rw [hfd, if_neg (Ne.symm hne)] at hx
    by_cases e : l = x
    · rw [if_pos e] at hx; cases hx
    · rw [if_neg e] at hx; exact ⟨e, hx⟩
  refine { top := by rw [htc]; exact (ho d (h.lt _ h.sd) h.top_map).trans h.top, map := hM, key := ?_, fil := ?_, inj := ?_, sd := h.sd, sm := h.sm, sb := ?_, lt := fun k hk => Nat.lt_of_lt_of_le (h.lt k hk) hsz }
  · intro x z
    rw [hfd]
    by_cases e : m = x
    · subst e
      rw [atKey_put_same (h.map.isMap.del _) (keyLit m)]
      simp
    · rw [atKey_put_other (str_ne (Ne.symm e)), if_neg e]
      by_cases e2 : l = x
      · subst e2
        rw [atKey_del_same, if_pos rfl]
      · rw [atKey_del_other (str_ne (Ne.symm e2)), h.key, if_neg e2]
        cases find D.files x <;> simp [Ne.symm e]
  · intro x f' hx
    by_cases e : x = m
    · subst e
      rw [hfd, if_pos rfl] at hx
      obtain rfl := Option.some.inj hx
      simp only [if_pos]
      exact ⟨(ho _ (h.blt hf) (h.ne_map hf)).trans (h.fil l f hf).1, ownRow_block_kept (h.fil l f hf).2 fun k hk => ho _ (h.rlt hf hk) (h.ne_rowm hf hk)⟩
    · obtain ⟨hne, hq⟩ := old x f' hx e
      simp only [if_neg e]
      exact ⟨(ho _ (h.blt hq) (h.ne_map hq)).trans (h.fil x f' hq).1, ownRow_block_kept (h.fil x f' hq).2 fun k hk => ho _ (h.rlt hq hk) (h.ne_rowm hq hk)⟩
  · intro x y f1 f2 h1 h2 hne
    by_cases e1 : x = m
    · have e2 : y ≠ m := fun e => hne (e1.trans e.symm)
      obtain ⟨hy, hq⟩ := old y f2 h2 e2
      simp only [if_pos e1, if_neg e2]
      exact h.inj l y f f2 hf hq hy
    · obtain ⟨hx, hq⟩ := old x f1 h1 e1
      by_cases e2 : y = m
      · simp only [if_neg e1, if_pos e2]
        exact h.inj x l f1 f hq hf (Ne.symm hx)
      · simp only [if_neg e1, if_neg e2]
        exact h.inj x y f1 f2 hq (old y f2 h2 e2).2 hne
  · intro x f' hx
    by_cases e : x = m
    · simp only [if_pos e]
      exact h.sb l f hf
    · simp only [if_neg e]
      exact h.sb x f' (old x f' hx e).2

set_option maxHeartbeats 1000000 in
set_option maxRecDepth 5000 in
theorem forget_any (s : ByteArray) (hs : s.size ≤ maxLen) (w : World) (h : DkAt w S d mb nn M blk vs D) (hok : Okd D) :
    Calls Try.prog 47 #[.pointer (some ⟨d, 0, none⟩), .string s] w fun e w' => e = .returned (.tuple #[]) ∧ ∃ M', DkAt w' S d mb nn M' blk vs { D with files := del (lst s) D.files } ∧ Outs S w w' := by
  have c5 := h.c5
  have hlook := look_at h s hs
  cases hf : find D.files (lst s) with
  | none =>
    have e2 : fptr D blk (lst s) = .pointer none := by simp [fptr, hf]
    rw [e2] at hlook
    go_enter Try.func47, Try.ntmps47
    go_wp2
    go_returns
    refine ⟨by simp, M, ?_, Outs.refl _ _⟩
    rw [del_none hf]
    exact h
  | some f =>
    have e2 : fptr D blk (lst s) = .pointer (some ⟨blk (lst s), 0, none⟩) := by simp [fptr, hf]
    rw [e2] at hlook
    obtain ⟨hW, hR⟩ := h.fil _ f hf
    obtain ⟨A, c, hv, hr, hnc, hcm, hA0⟩ := own_open hR
    have w0 : w.cell? ⟨blk (lst s), 0, none⟩ = some (.slice A f.bs.length c) := by rw [← hv]; exact hW.cell 0
    have c2 := h.c2
    have f2 := h.fz 2
    have hu := used_del hok.srt hf
    have hl2 : left D + f.bs.length = left { D with files := del (lst s) D.files } := by simp only [left]; omega
    have hl0 : 0 ≤ left D := by have := hok.fits; simp only [left]; omega
    have hl3 : left D ≤ 1073741824 := by have := hok.room; simp only [left]; omega
    have hn30 : f.bs.length ≤ 1073741824 := by have := hok.fits; have := hok.room; omega
    -- the world behind the room's store
    have hset : DkAt ((w.setCell ⟨d, 2, none⟩ (.int .i64 (left D + f.bs.length))).drew) S d mb nn M blk vs { D with room := D.room + f.bs.length } :=
      (DkAt.head h 2 _ { D with room := D.room + f.bs.length } rfl (by simp only [topCells, left]; simp; omega)).go (bDrewN (Below.refl _ _) 1)
    have k5 := h.c5
    have ho1 : Outs S w ((w.setCell ⟨d, 2, none⟩ (.int .i64 (left D + f.bs.length))).drew) := ((Outs.refl S w).setCell (p := ⟨d, 2, none⟩) (.inl h.sd) _).drew
    have hb1 : ∀ k, k ≠ d → ((w.setCell ⟨d, 2, none⟩ (.int .i64 (left D + f.bs.length))).drew).heap[k]? = w.heap[k]? := fun k hk => Below.heap_setCell _ _ _ _ hk
    have k5 : (w.setCell ⟨d, 2, none⟩ (.int .i64 (left D + f.bs.length))).cell? ⟨d, 5, none⟩ = some (.map (some mb)) := hset.c5
    obtain ⟨w3, hrun, hM, hturn⟩ := hset.map.drop lawS Try.underlying52 (keyS s hs) 0
    have hgr := hturn.grown
    have hsz1 : ((w.setCell ⟨d, 2, none⟩ (.int .i64 (left D + f.bs.length))).drew).heap.size = w.heap.size := by simp [World.setCell, World.drew]
    have hfin : DkAt w3 S d mb nn (M.del (.string (lst s))) blk vs { D with files := del (lst s) D.files } := by
      refine h.dropFile _ rfl ?_ ?_ ?_ nn hM
      · exact Nat.le_trans (Nat.le_of_eq hsz1.symm) hgr.size
      · intro k hk h1 h2
        exact (hgr.block k (by omega) (fun e => h2 (by injection e))).trans (hb1 k h1)
      · have := hset.top.grown hgr (fun e => h.top_map (by injection e))
        have e : topCells d mb { D with room := D.room + f.bs.length } = topCells d mb { D with files := del (lst s) D.files } := by
          simp only [topCells, left]
          congr 5
          simp
          omega
        rwa [e] at this
    have hOut : Outs S w w3 := ho1.grown hgr (fun k hk => by cases hk; exact .inl h.sm)
    have HF := Lib.hid hfin
    have HO := Lib.hid hOut
    generalize hbk : blk (lst s) = bk at *
    generalize hN : f.bs.length = N at *
    clear hset hl2 hv hr hR hW hnc hfin hOut hgr hM hturn hb1 ho1 hu
    generalize hLD : left D = L at *
    go_enter Try.func47, Try.ntmps47
    go_wp2
    go_still_tail 12, (by kernel_rfl)
    change wpList _ _ _ _ _ w.drew
    go_wp2
    go_returns
    exact ⟨by simp, _, HF.out, HO.out⟩
end
end Go.Proofs.Ytnpomiidkdnebaa
