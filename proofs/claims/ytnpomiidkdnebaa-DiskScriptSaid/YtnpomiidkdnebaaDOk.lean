/- What holds of a disk holds behind every call. -/
import Derived.Test.YtnpomiidkdnebaaDAppW
namespace Go.Proofs.Ytnpomiidkdnebaa
set_option linter.unusedVariables false

theorem ask_okn {D : Dsk} {l : Nm} (h : ask D [l] = 0) : D.off = false ∧ okN l = true := by
  unfold ask at h
  split at h
  · cases h
  · rename_i ho
    split at h
    · rename_i ha
      exact ⟨by simpa using ho, by simpa using ha⟩
    · cases h
theorem ask_okn2 {D : Dsk} {l m : Nm} (h : ask D [l, m] = 0) : D.off = false ∧ okN l = true ∧ okN m = true := by
  unfold ask at h
  split at h
  · cases h
  · rename_i ho
    split at h
    · rename_i ha
      simp at ha
      exact ⟨by simpa using ho, ha.1, ha.2⟩
    · cases h

/-- with other files -/
theorem okd_files {D : Dsk} (h : Okd D) {fs : List Fl} (h1 : Srt fs) (h2 : ∀ f ∈ fs, okN f.nm = true) (h3 : ∀ f ∈ fs, f.sy ≤ f.bs.length) (h4 : used fs ≤ D.room) {fu : Int} {o : Bool} {n : Nat} (h5 : -1 ≤ fu) (h6 : fu ≤ 9223372036854775807) : Okd ⟨D.room, fs, o, fu, n⟩ :=
  ⟨h1, h2, h3, h4, h.room, h5, h6⟩
theorem okd_step {D : Dsk} (h : Okd D) {t : List Fl → List Fl} (h1 : Srt (t D.files)) (h2 : ∀ f ∈ t D.files, okN f.nm = true) (h3 : ∀ f ∈ t D.files, f.sy ≤ f.bs.length) (h4 : used (t D.files) ≤ D.room) : Okd (dStep D t).2 := by
  unfold dStep
  split
  · exact okd_files h h.srt h.nms h.sy h.fits h.fuse0 h.fuse1
  · exact okd_files h h1 h2 h3 h4 (by have := h.fuse0; simp only [tick]; split <;> omega) (by have := h.fuse1; simp only [tick]; split <;> omega)
theorem steps_step (D : Dsk) (t : List Fl → List Fl) : (dStep D t).2.steps ≤ D.steps + 1 ∧ D.steps ≤ (dStep D t).2.steps ∧ (dStep D t).2.room = D.room := by
  unfold dStep
  split
  · exact ⟨by simp [fall], by simp [fall], rfl⟩
  · exact ⟨by simp [tick], by simp [tick], rfl⟩
theorem mem_upd {fs : List Fl} {l : Nm} {g : Fl → Fl} {f : Fl} (h : f ∈ upd l g fs) : ∃ a ∈ fs, f = g a ∨ f = a := by
  obtain ⟨a, ha, rfl⟩ := List.mem_map.1 h
  refine ⟨a, ha, ?_⟩
  split
  · exact .inl rfl
  · exact .inr rfl
theorem mem_del {fs : List Fl} {l : Nm} {f : Fl} (h : f ∈ del l fs) : f ∈ fs := (List.mem_filter.1 h).1
theorem used_del_le {fs : List Fl} (hs : Srt fs) (l : Nm) : used (del l fs) ≤ used fs := by
  cases h : find fs l with
  | none => rw [del_none h]; exact Nat.le_refl _
  | some f => have := used_del hs h; omega

theorem okd_make {D : Dsk} (h : Okd D) (l : Nm) : Okd (dMake D l).2 := by
  unfold dMake
  split
  · exact h
  · rename_i ha
    split
    · exact h
    · rename_i hn
      have hf : find D.files l = none := by simpa using hn
      have ho := (ask_okn (D := D) (l := l) (by simpa using ha)).2
      refine okd_step h (srt_ins h.srt hf) ?_ ?_ (by rw [used_ins]; have := h.fits; simpa using this)
      · intro f hm
        rcases mem_ins.1 hm with rfl | hm
        · exact ho
        · exact h.nms f hm
      · intro f hm
        rcases mem_ins.1 hm with rfl | hm
        · exact Nat.le_refl _
        · exact h.sy f hm
theorem okd_sync {D : Dsk} (h : Okd D) (l : Nm) : Okd (dSync D l).2 := by
  unfold dSync
  split
  · exact h
  · split
    · exact h
    · refine okd_step h (srt_upd h.srt l _ (fun _ => rfl)) ?_ ?_ (by rw [used_upd D.files l (fun f => { f with sy := f.bs.length }) (fun _ _ => rfl)]; exact h.fits)
      · intro f hm
        obtain ⟨a, ha, rfl | rfl⟩ := mem_upd hm
        · exact h.nms a ha
        · exact h.nms f ha
      · intro f hm
        obtain ⟨a, ha, rfl | rfl⟩ := mem_upd hm
        · exact Nat.le_refl _
        · exact h.sy f ha
theorem okd_remove {D : Dsk} (h : Okd D) (l : Nm) : Okd (dRemove D l).2 := by
  unfold dRemove
  split
  · exact h
  · split
    · exact h
    · exact okd_step h (srt_del h.srt l) (fun f hm => h.nms f (mem_del hm)) (fun f hm => h.sy f (mem_del hm)) (Nat.le_trans (used_del_le h.srt l) h.fits)
theorem okd_rename {D : Dsk} (h : Okd D) (l m : Nm) : Okd (dRename D l m).2 := by
  unfold dRename
  split
  · exact h
  · rename_i ha
    have ho := (ask_okn2 (D := D) (l := l) (m := m) (by simpa using ha)).2.2
    cases hf : find D.files l with
    | none => exact h
    | some f =>
      simp only
      split
      · exact h
      · rename_i hne
        have hs1 := srt_del h.srt l
        have hs2 := srt_del hs1 m
        have hm2 : find (del m (del l D.files)) m = none := by rw [find_del, if_pos rfl]
        refine okd_step h (srt_ins (f := { f with nm := m }) hs2 hm2) ?_ ?_ ?_
        · intro a ha
          rcases mem_ins.1 ha with rfl | ha
          · exact ho
          · exact h.nms a (mem_del (mem_del ha))
        · intro a ha
          rcases mem_ins.1 ha with rfl | ha
          · exact h.sy f (find_some hf).1
          · exact h.sy a (mem_del (mem_del ha))
        · rw [mv, used_ins]
          have h1 := used_del h.srt hf
          have h2 := used_del_le hs1 m
          have := h.fits
          simp only
          omega
theorem okd_fuse {D : Dsk} (h : Okd D) {n : Int} (hn : n ≤ 9223372036854775807) : Okd (dFuse D n).2 := by
  unfold dFuse
  split
  · exact h
  · split
    · exact h
    · exact okd_files h h.srt h.nms h.sy h.fits (by omega) hn
theorem okd_free {D : Dsk} (h : Okd D) : Okd (dFree D) := okd_files h h.srt h.nms h.sy h.fits (by omega) (by omega)
theorem okd_crash {D : Dsk} (h : Okd D) (ks : List Int) : Okd (dCrash D ks).2 := by
  unfold dCrash
  split
  · exact h
  · have := okd_crsN h D.files.length ks
    rw [crsN_all] at this
    exact okd_files h this.srt this.nms this.sy this.fits (by omega) (by omega)
theorem okd_turn {D : Dsk} (h : Okd D) (x : Int → Int) (l : Nm) (i : Int) : Okd (dTurn x D l i).2 := by
  unfold dTurn
  split
  · exact h
  · cases hf : find D.files l with
    | none => exact h
    | some f =>
      simp only
      split
      · exact h
      · refine okd_files h (fs := upd l (fun f => { f with bs := f.bs.modify i.toNat x }) D.files) (srt_upd h.srt l _ (fun _ => rfl)) ?_ ?_ (by rw [used_turn]; exact h.fits) h.fuse0 h.fuse1
        · intro f hm
          obtain ⟨a, ha, rfl | rfl⟩ := mem_upd hm
          · exact h.nms a ha
          · exact h.nms f ha
        · intro f hm
          obtain ⟨a, ha, rfl | rfl⟩ := mem_upd hm
          · simpa using h.sy a ha
          · exact h.sy f ha

/-- pieces that fit -/
theorem okd_puts (l : Nm) : ∀ (ps : List (List Int)) (D : Dsk) (f : Fl), Okd D → find D.files l = some f → used D.files + ps.flatten.length ≤ D.room → Okd (puts l D ps).2
  | [], D, f, h, _, _ => h
  | p :: ps, D, f, h, hf, hl => by
    unfold puts
    split
    · exact okd_files h h.srt h.nms h.sy h.fits h.fuse0 h.fuse1
    · simp only [List.flatten_cons, List.length_append] at hl
      refine okd_puts l ps _ { f with bs := f.bs ++ p } ?_ (put1_find hf p) (by simp only [used_put1 h.srt hf]; show _ ≤ D.room; omega)
      refine okd_files (n := D.steps + 1) (o := D.off) (fu := (tick D).fuse) h (fs := put1 l p D.files) (srt_upd h.srt l _ (fun _ => rfl)) ?_ ?_ (by rw [used_put1 h.srt hf]; omega) (by have := h.fuse0; simp only [tick]; split <;> omega) (by have := h.fuse1; simp only [tick]; split <;> omega)
      · intro f hm
        obtain ⟨a, ha, rfl | rfl⟩ := mem_upd hm
        · exact h.nms a ha
        · exact h.nms f ha
      · intro f hm
        obtain ⟨a, ha, rfl | rfl⟩ := mem_upd hm
        · have := h.sy a ha
          simp only [List.length_append]
          omega
        · exact h.sy f ha
theorem parts_flat (b : List Int) : (parts b).flatten = b := by
  have key : ∀ n, ((List.range n).map (part b)).flatten = b.take (64 * n) := by
    intro n
    induction n with
    | zero => simp
    | succ n ih =>
      rw [List.range_succ, List.map_append, List.flatten_append, ih]
      simp only [List.map_cons, List.map_nil, List.flatten_cons, List.flatten_nil, List.append_nil, part]
      rw [show 64 * (n + 1) = 64 * n + 64 by omega, List.take_add]
  unfold parts
  rw [key, List.take_of_length_le (by simp only [nparts]; omega)]
theorem okd_append {D : Dsk} (h : Okd D) (l : Nm) (b : List Int) : Okd (dAppend D l b).2 := by
  unfold dAppend
  split
  · exact h
  · cases hf : find D.files l with
    | none => exact h
    | some f =>
      simp only [Option.isNone_some, Bool.false_eq_true, if_false]
      split
      · exact h
      · rename_i hl
        refine okd_puts l _ D f h hf ?_
        rw [parts_flat]
        simp only [left] at hl
        omega
theorem steps_puts (l : Nm) : ∀ (ps : List (List Int)) (D : Dsk), (puts l D ps).2.steps ≤ D.steps + ps.length ∧ D.steps ≤ (puts l D ps).2.steps ∧ (puts l D ps).2.room = D.room
  | [], D => ⟨by simp [puts], by simp [puts], rfl⟩
  | p :: ps, D => by
    unfold puts
    split
    · exact ⟨by simp [fall], by simp [fall], rfl⟩
    · obtain ⟨h1, h2, h3⟩ := steps_puts l ps { tick D with files := put1 l p D.files }
      refine ⟨?_, ?_, h3⟩
      · simp only [tick, List.length_cons] at h1 ⊢
        omega
      · simp only [tick] at h2 ⊢
        omega
theorem steps_append (D : Dsk) (l : Nm) (b : List Int) : (dAppend D l b).2.steps ≤ D.steps + (b.length + 63) / 64 ∧ D.steps ≤ (dAppend D l b).2.steps ∧ (dAppend D l b).2.room = D.room := by
  unfold dAppend
  split
  · exact ⟨Nat.le_add_right _ _, Nat.le_refl _, rfl⟩
  · split
    · exact ⟨Nat.le_add_right _ _, Nat.le_refl _, rfl⟩
    · split
      · exact ⟨Nat.le_add_right _ _, Nat.le_refl _, rfl⟩
      · have := steps_puts l (parts b) D
        simpa [parts, nparts] using this
theorem steps_make (D : Dsk) (l : Nm) : (dMake D l).2.steps ≤ D.steps + 1 ∧ D.steps ≤ (dMake D l).2.steps ∧ (dMake D l).2.room = D.room := by
  unfold dMake
  split
  · exact ⟨Nat.le_add_right _ _, Nat.le_refl _, rfl⟩
  · split
    · exact ⟨Nat.le_add_right _ _, Nat.le_refl _, rfl⟩
    · exact steps_step D _
theorem steps_sync (D : Dsk) (l : Nm) : (dSync D l).2.steps ≤ D.steps + 1 ∧ D.steps ≤ (dSync D l).2.steps ∧ (dSync D l).2.room = D.room := by
  unfold dSync
  split
  · exact ⟨Nat.le_add_right _ _, Nat.le_refl _, rfl⟩
  · split
    · exact ⟨Nat.le_add_right _ _, Nat.le_refl _, rfl⟩
    · exact steps_step D _
theorem steps_remove (D : Dsk) (l : Nm) : (dRemove D l).2.steps ≤ D.steps + 1 ∧ D.steps ≤ (dRemove D l).2.steps ∧ (dRemove D l).2.room = D.room := by
  unfold dRemove
  split
  · exact ⟨Nat.le_add_right _ _, Nat.le_refl _, rfl⟩
  · split
    · exact ⟨Nat.le_add_right _ _, Nat.le_refl _, rfl⟩
    · exact steps_step D _
theorem steps_rename (D : Dsk) (l m : Nm) : (dRename D l m).2.steps ≤ D.steps + 1 ∧ D.steps ≤ (dRename D l m).2.steps ∧ (dRename D l m).2.room = D.room := by
  unfold dRename
  split
  · exact ⟨Nat.le_add_right _ _, Nat.le_refl _, rfl⟩
  · cases find D.files l with
    | none => exact ⟨Nat.le_add_right _ _, Nat.le_refl _, rfl⟩
    | some f =>
      simp only
      split
      · exact ⟨Nat.le_add_right _ _, Nat.le_refl _, rfl⟩
      · exact steps_step D _
theorem steps_fuse (D : Dsk) (n : Int) : (dFuse D n).2.steps = D.steps ∧ (dFuse D n).2.room = D.room := by
  unfold dFuse
  split
  · exact ⟨rfl, rfl⟩
  · split <;> exact ⟨rfl, rfl⟩
theorem steps_crash (D : Dsk) (ks : List Int) : (dCrash D ks).2.steps = D.steps ∧ (dCrash D ks).2.room = D.room := by
  unfold dCrash
  split <;> exact ⟨rfl, rfl⟩
theorem steps_turn (x : Int → Int) (D : Dsk) (l : Nm) (i : Int) : (dTurn x D l i).2.steps = D.steps ∧ (dTurn x D l i).2.room = D.room := by
  unfold dTurn
  split
  · exact ⟨rfl, rfl⟩
  · cases find D.files l with
    | none => exact ⟨rfl, rfl⟩
    | some f =>
      simp only
      split <;> exact ⟨rfl, rfl⟩
theorem okd_room {D : Dsk} (h : Okd D) (hs : D.steps + 100 ≤ 1099511627776) : Room D := ⟨hs, h.fuse0, h.fuse1⟩
theorem okd_new (r : Nat) (hr : r ≤ 1073741824) : Okd (dNew r) := ⟨List.Pairwise.nil, by simp [dNew], by simp [dNew], by simp [dNew, used], hr, by simp [dNew], by simp [dNew]⟩
theorem len30 {D : Dsk} (h : Okd D) : ∀ l f, find D.files l = some f → f.bs.length ≤ 1073741824 := by
  intro l f hf
  have h1 := used_del h.srt hf
  have := h.fits
  have := h.room
  omega
end Go.Proofs.Ytnpomiidkdnebaa
