/- Where a file stands among the others, by name. No program is named here. -/
import Derived.Test.YtnpomiidkdnebaaDMath
namespace Go.Proofs.Ytnpomiidkdnebaa
set_option linter.unusedVariables false

def pos (fs : List Fl) (l : Nm) : Nat := (fs.takeWhile (fun f => decide (f.nm < l))).length
def hit (fs : List Fl) (l : Nm) : Bool := (find fs l).isSome
theorem pos_le (fs : List Fl) (l : Nm) : pos fs l ≤ fs.length := by
  unfold pos
  exact (List.takeWhile_prefix _).length_le
theorem pos_cons (g : Fl) (r : List Fl) (l : Nm) : pos (g :: r) l = if g.nm < l then pos r l + 1 else 0 := by
  unfold pos
  rw [List.takeWhile_cons]
  by_cases h : g.nm < l <;> simp [h]
theorem pos_eq : ∀ (fs : List Fl) (l : Nm) (k : Nat), k ≤ fs.length → (∀ j (h : j < fs.length), j < k → fs[j].nm < l) → (∀ (h : k < fs.length), ¬ fs[k].nm < l) → pos fs l = k
  | [], l, k, hk, _, _ => by simp [pos] at hk ⊢; omega
  | g :: r, l, 0, hk, _, h2 => by
    have h3 : ¬ g.nm < l := h2 (by simp)
    rw [pos_cons, if_neg h3]
  | g :: r, l, k + 1, hk, h1, h2 => by
    have h3 : g.nm < l := h1 0 (by simp) (by omega)
    rw [pos_cons, if_pos h3]
    congr 1
    exact pos_eq r l k (by simpa using hk) (fun j hj hjk => h1 (j + 1) (by simpa using hj) (by omega)) (fun hk' => h2 (by simpa using hk'))
theorem pos_lt : ∀ (fs : List Fl) (l : Nm) (j : Nat) (h : j < fs.length), j < pos fs l → fs[j].nm < l
  | [], l, j, h, _ => by simp at h
  | g :: r, l, 0, h, hp => by
    rw [pos_cons] at hp
    split at hp
    · assumption
    · omega
  | g :: r, l, j + 1, h, hp => by
    rw [pos_cons] at hp
    split at hp
    · exact pos_lt r l j (by simpa using h) (by omega)
    · omega

theorem find_at {fs : List Fl} (hs : Srt fs) {l : Nm} {f : Fl} (h : find fs l = some f) : fs[pos fs l]? = some f := by
  induction fs with
  | nil => cases h
  | cons g r ih =>
    obtain ⟨h1, h2⟩ := List.pairwise_cons.1 hs
    rw [pos_cons]
    obtain ⟨hm, hn⟩ := find_some h
    unfold find at h
    rw [List.find?_cons] at h
    by_cases hg : g.nm = l
    · rw [show (g.nm == l) = true by simpa using hg] at h
      rw [if_neg (by rw [hg]; exact List.lt_irrefl l)]
      simpa using h
    · rw [show (g.nm == l) = false by simpa using hg] at h
      have hr := ih h2 h
      have : g.nm < l := by
        rcases List.mem_cons.1 hm with rfl | hm
        · exact absurd hn hg
        · rw [← hn]
          exact h1 f hm
      rw [if_pos this]
      simpa using hr
theorem find_nil_at {fs : List Fl} (hs : Srt fs) {l : Nm} {k : Nat} (hk : k < fs.length) (h : fs[k].nm = l) : find fs l = some fs[k] := by
  rw [← h]
  exact find_mem hs (List.getElem_mem hk)
theorem pos_lt_len {fs : List Fl} (hs : Srt fs) {l : Nm} {f : Fl} (h : find fs l = some f) : pos fs l < fs.length := (List.getElem?_eq_some_iff.1 (find_at hs h)).1
theorem ins_pos {fs : List Fl} {f : Fl} (h : find fs f.nm = none) : fs.take (pos fs f.nm) ++ f :: fs.drop (pos fs f.nm) = ins f fs := by
  induction fs with
  | nil => simp [pos, ins]
  | cons g r ih =>
    have hg : g.nm ≠ f.nm := find_none h g (by simp)
    have hr : find r f.nm = none := by
      unfold find at h ⊢
      rw [List.find?_cons] at h
      rwa [show (g.nm == f.nm) = false by simpa using hg] at h
    rw [pos_cons]
    unfold ins
    by_cases hl : g.nm < f.nm
    · have hn : ¬ f.nm < g.nm := fun h2 => List.lt_irrefl _ (List.lt_trans hl h2)
      rw [if_pos hl, if_neg hn]
      simp [ih hr]
    · have hn : f.nm < g.nm := by
        refine Decidable.byContradiction fun h2 => hg ?_
        exact List.le_antisymm (List.not_lt.1 h2) (List.not_lt.1 hl)
      rw [if_neg hl, if_pos hn]
      simp
theorem del_pos {fs : List Fl} (hs : Srt fs) {l : Nm} {f : Fl} (h : find fs l = some f) : fs.take (pos fs l) ++ fs.drop (pos fs l + 1) = del l fs := by
  induction fs with
  | nil => cases h
  | cons g r ih =>
    obtain ⟨h1, h2⟩ := List.pairwise_cons.1 hs
    rw [pos_cons]
    obtain ⟨hm, hn⟩ := find_some h
    unfold find at h
    rw [List.find?_cons] at h
    by_cases hg : g.nm = l
    · rw [if_neg (by rw [hg]; exact List.lt_irrefl l)]
      have e : del l (g :: r) = del l r := by
        unfold del
        rw [List.filter_cons_of_neg (by simpa using hg)]
      have hr : find r l = none := by
        refine List.find?_eq_none.2 fun a ha => ?_
        have := nm_lt_ne (h1 a ha)
        rw [hg] at this
        simpa using this.symm
      rw [e, del_none hr]
      simp
    · rw [show (g.nm == l) = false by simpa using hg] at h
      have : g.nm < l := by
        rcases List.mem_cons.1 hm with rfl | hm
        · exact absurd hn hg
        · rw [← hn]
          exact h1 f hm
      rw [if_pos this]
      have e : del l (g :: r) = g :: del l r := by
        unfold del
        rw [List.filter_cons_of_pos (by simpa using hg)]
      rw [e, ← ih h2 h]
      simp
theorem upd_pos {fs : List Fl} (hs : Srt fs) {l : Nm} {f : Fl} (h : find fs l = some f) (g : Fl → Fl) : fs.set (pos fs l) (g f) = upd l g fs := by
  have hat := find_at hs h
  have hl := pos_lt_len hs h
  have hge : fs[pos fs l] = f := by rw [List.getElem?_eq_getElem hl] at hat; exact Option.some.inj hat
  apply List.ext_getElem
  · simp [upd]
  · intro i h1 h2
    have hi : i < fs.length := by simpa [upd] using h2
    simp only [List.getElem_set, upd, List.getElem_map]
    by_cases e : pos fs l = i
    · subst e
      rw [if_pos rfl, hge, if_pos (find_some h).2]
    · rw [if_neg e]
      have : fs[i].nm ≠ l := fun e2 => e (srt_get hs hl hi (by rw [hge, e2]; exact (find_some h).2))
      rw [if_neg this]
end Go.Proofs.Ytnpomiidkdnebaa
