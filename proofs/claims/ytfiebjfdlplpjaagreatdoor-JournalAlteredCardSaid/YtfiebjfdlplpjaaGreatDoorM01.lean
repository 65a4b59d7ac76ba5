/- Several texts, each a section: DMath, JName, Math. -/
import Derived.Lib.ItoaNum
import Derived.WalkKit
import Derived.Laws.Bits64b
import Derived.Laws.BitsLemmas
import Derived.IntWalk
section
/- A disk as plain mathematics: its files, rising by name; what each call answers and makes of it. No program is named here. -/
namespace Go.Proofs.YtfiebjfdlplpjaaGreatDoor
set_option linter.unusedVariables false

abbrev Nm := List UInt8

/-- a file: its name, its bytes, how many of them are synced -/
structure Fl where
  nm : Nm
  bs : List Int
  sy : Nat

/-- a disk: fuse -1 is none -/
structure Dsk where
  room : Nat
  files : List Fl
  off : Bool
  fuse : Int
  steps : Nat

def okN (l : Nm) : Bool := decide (1 ≤ l.length) && (decide (l.length ≤ 24) && l.all (fun b => decide (33 ≤ b.toNat) && decide (b.toNat ≤ 126)))
def used (fs : List Fl) : Nat := (fs.map (fun f => f.bs.length)).sum
def find (fs : List Fl) (l : Nm) : Option Fl := fs.find? (fun f => f.nm == l)
def ins (f : Fl) : List Fl → List Fl
  | [] => [f]
  | g :: r => if f.nm < g.nm then f :: g :: r else g :: ins f r
def del (l : Nm) (fs : List Fl) : List Fl := fs.filter (fun f => !(f.nm == l))
def upd (l : Nm) (g : Fl → Fl) (fs : List Fl) : List Fl := fs.map (fun f => if f.nm = l then g f else f)

def tick (D : Dsk) : Dsk := { D with fuse := if D.fuse = -1 then -1 else D.fuse - 1, steps := D.steps + 1 }
def fall (D : Dsk) : Dsk := { D with off := true }
/-- one step, that makes t of the files -/
def dStep (D : Dsk) (t : List Fl → List Fl) : Int × Dsk :=
  if D.fuse = 0 then (10, fall D) else (0, { tick D with files := t D.files })
def ask (D : Dsk) (l : List Nm) : Int := if D.off then 10 else if l.all okN then 0 else 2
def dNew (room : Nat) : Dsk := ⟨room, [], false, -1, 0⟩
def dMake (D : Dsk) (l : Nm) : Int × Dsk :=
  if ask D [l] ≠ 0 then (ask D [l], D) else if (find D.files l).isSome then (7, D) else dStep D (ins ⟨l, [], 0⟩)
def put1 (l : Nm) (p : List Int) : List Fl → List Fl := upd l (fun f => { f with bs := f.bs ++ p })
def puts (l : Nm) : Dsk → List (List Int) → Int × Dsk
  | D, [] => (0, D)
  | D, p :: ps => if D.fuse = 0 then (10, fall D) else puts l { tick D with files := put1 l p D.files } ps
def part (b : List Int) (k : Nat) : List Int := (b.drop (64 * k)).take 64
def nparts (b : List Int) : Nat := (b.length + 63) / 64
def parts (b : List Int) : List (List Int) := (List.range (nparts b)).map (part b)
def left (D : Dsk) : Int := (D.room : Int) - (used D.files : Int)
def dAppend (D : Dsk) (l : Nm) (b : List Int) : Int × Dsk :=
  if ask D [l] ≠ 0 then (ask D [l], D) else if (find D.files l).isNone then (6, D) else if left D < b.length then (8, D) else puts l D (parts b)
def dSync (D : Dsk) (l : Nm) : Int × Dsk :=
  if ask D [l] ≠ 0 then (ask D [l], D) else if (find D.files l).isNone then (6, D) else dStep D (upd l (fun f => { f with sy := f.bs.length }))
def mv (f : Fl) (l m : Nm) (fs : List Fl) : List Fl := ins { f with nm := m } (del m (del l fs))
def dRename (D : Dsk) (l m : Nm) : Int × Dsk :=
  if ask D [l, m] ≠ 0 then (ask D [l, m], D) else match find D.files l with
  | none => (6, D)
  | some f => if l = m then (0, D) else dStep D (mv f l m)
def dRemove (D : Dsk) (l : Nm) : Int × Dsk :=
  if ask D [l] ≠ 0 then (ask D [l], D) else if (find D.files l).isNone then (6, D) else dStep D (del l)
def dRead (D : Dsk) (l : Nm) : List Int × Int :=
  if ask D [l] ≠ 0 then ([], ask D [l]) else match find D.files l with | none => ([], 6) | some f => (f.bs, 0)
def dSynced (D : Dsk) (l : Nm) : Nat × Int :=
  if ask D [l] ≠ 0 then (0, ask D [l]) else match find D.files l with | none => (0, 6) | some f => (f.sy, 0)
def names (D : Dsk) : List Nm := D.files.map (·.nm)
def dNames (D : Dsk) : List Nm := if D.off then [] else names D
def dLeft (D : Dsk) : Int := if D.off then 0 else left D
def dFuse (D : Dsk) (n : Int) : Int × Dsk := if D.off then (10, D) else if n < 0 then (2, D) else (0, { D with fuse := n })
def dFree (D : Dsk) : Dsk := { D with fuse := -1 }
def keptOf (f : Fl) (k : Int) : Nat := f.sy + (min k ((f.bs.length : Int) - f.sy)).toNat
def cutTo (f : Fl) (k : Int) : Fl := { f with bs := f.bs.take (keptOf f k), sy := keptOf f k }
def crsN (n : Nat) (fs : List Fl) (ks : List Int) : List Fl := fs.mapIdx (fun j f => if j < n then cutTo f (ks.getD j 0) else f)
def crs (fs : List Fl) (ks : List Int) : List Fl := fs.mapIdx (fun j f => cutTo f (ks.getD j 0))
def dCrash (D : Dsk) (keep : List Int) : Int × Dsk :=
  if keep.any (fun k => decide (k < 0)) then (2, D) else (0, { D with files := crs D.files keep, off := false, fuse := -1 })
def dTurn (xr : Int → Int) (D : Dsk) (l : Nm) (at_ : Int) : Int × Dsk :=
  if okN l = false then (2, D) else match find D.files l with
  | none => (6, D)
  | some f => if at_ < 0 ∨ (f.bs.length : Int) ≤ at_ then (6, D) else (0, { D with files := upd l (fun f => { f with bs := f.bs.modify at_.toNat xr }) D.files })

/-! ## what holds of a disk -/
def Srt (fs : List Fl) : Prop := fs.Pairwise (fun a b => a.nm < b.nm)
structure Okd (D : Dsk) : Prop where
  srt : Srt D.files
  nms : ∀ f ∈ D.files, okN f.nm = true
  sy : ∀ f ∈ D.files, f.sy ≤ f.bs.length
  fits : used D.files ≤ D.room
  room : D.room ≤ 1073741824
  fuse0 : -1 ≤ D.fuse
  fuse1 : D.fuse ≤ 9223372036854775807

theorem nm_lt_ne {a b : Nm} (h : a < b) : a ≠ b := by
  rintro rfl
  exact List.lt_irrefl a h

theorem find_some {fs : List Fl} {l : Nm} {f : Fl} (h : find fs l = some f) : f ∈ fs ∧ f.nm = l := by
  unfold find at h
  exact ⟨List.mem_of_find?_eq_some h, by simpa using List.find?_some h⟩
theorem find_none {fs : List Fl} {l : Nm} (h : find fs l = none) : ∀ f ∈ fs, f.nm ≠ l := by
  intro f hf e
  have := List.find?_eq_none.1 h f hf
  simp [e] at this
theorem find_mem {fs : List Fl} (hs : Srt fs) {f : Fl} (hf : f ∈ fs) : find fs f.nm = some f := by
  induction fs with
  | nil => cases hf
  | cons g r ih =>
    obtain ⟨h1, h2⟩ := List.pairwise_cons.1 hs
    unfold find
    rw [List.find?_cons]
    rcases List.mem_cons.1 hf with rfl | hr
    · simp
    · have hne := nm_lt_ne (h1 f hr)
      rw [show (g.nm == f.nm) = false by simpa using hne]
      exact ih h2 hr
theorem find_ins {fs : List Fl} {f : Fl} (hn : find fs f.nm = none) (l : Nm) : find (ins f fs) l = if f.nm = l then some f else find fs l := by
  induction fs with
  | nil => by_cases h : f.nm = l <;> simp [find, ins, h]
  | cons g r ih =>
    have hg : g.nm ≠ f.nm := find_none hn g (by simp)
    have hr : find r f.nm = none := by
      unfold find at hn ⊢
      rw [List.find?_cons] at hn
      rwa [show (g.nm == f.nm) = false by simpa using hg] at hn
    unfold ins
    split
    · by_cases h : f.nm = l <;> simp [find, List.find?_cons, h]
    · by_cases h : f.nm = l
      · have h' : g.nm ≠ l := by rw [← h]; exact hg
        have := ih hr
        rw [if_pos h] at this ⊢
        unfold find at this ⊢
        rw [List.find?_cons, show (g.nm == l) = false by simpa using h']
        exact this
      · have := ih hr
        rw [if_neg h] at this ⊢
        unfold find at this ⊢
        rw [List.find?_cons, List.find?_cons, this]
theorem find_del (fs : List Fl) (m l : Nm) : find (del m fs) l = if m = l then none else find fs l := by
  induction fs with
  | nil => simp [find, del]
  | cons g r ih =>
    unfold find del at ih ⊢
    by_cases h : m = l
    · rw [if_pos h] at ih ⊢
      subst h
      by_cases hg : g.nm = m <;> simp [hg] at ih ⊢ <;> assumption
    · rw [if_neg h] at ih ⊢
      by_cases hg : g.nm = m
      · have : g.nm ≠ l := by rw [hg]; exact h
        simp [hg, h] at ih ⊢
        exact ih
      · by_cases hl : g.nm = l
        · simp [hl, Ne.symm h]
        · simp [hg, hl] at ih ⊢
          exact ih
theorem find_upd (fs : List Fl) (m l : Nm) (g : Fl → Fl) (hg : ∀ f, (g f).nm = f.nm) : find (upd m g fs) l = (find fs l).map (fun f => if l = m then g f else f) := by
  induction fs with
  | nil => simp [find, upd]
  | cons a r ih =>
    unfold find upd at ih ⊢
    rw [List.map_cons, List.find?_cons, List.find?_cons]
    have ha : (if a.nm = m then g a else a).nm = a.nm := by split <;> simp [hg]
    rw [ha]
    by_cases h : a.nm = l
    · simp [h]
    · rw [show (a.nm == l) = false by simpa using h]
      exact ih
theorem used_cons (f : Fl) (fs : List Fl) : used (f :: fs) = f.bs.length + used fs := by simp [used]
theorem used_ins (f : Fl) (fs : List Fl) : used (ins f fs) = f.bs.length + used fs := by
  induction fs with
  | nil => simp [ins, used]
  | cons g r ih =>
    unfold ins
    split
    · simp [used]
    · rw [used_cons, used_cons, ih]
      omega
theorem used_del {fs : List Fl} (hs : Srt fs) {l : Nm} {f : Fl} (h : find fs l = some f) : used (del l fs) + f.bs.length = used fs := by
  induction fs with
  | nil => simp [find] at h
  | cons g r ih =>
    obtain ⟨h1, h2⟩ := List.pairwise_cons.1 hs
    unfold find at h
    rw [List.find?_cons] at h
    by_cases hg : g.nm = l
    · rw [show (g.nm == l) = true by simpa using hg] at h
      obtain rfl := Option.some.inj h
      have : del l (g :: r) = r := by
        unfold del
        rw [List.filter_cons_of_neg (by simpa using hg)]
        refine List.filter_eq_self.2 fun a ha => ?_
        have := nm_lt_ne (h1 a ha)
        rw [hg] at this
        simpa using this.symm
      rw [this, used_cons]
      omega
    · rw [show (g.nm == l) = false by simpa using hg] at h
      have := ih h2 h
      have e : del l (g :: r) = g :: del l r := by
        unfold del
        rw [List.filter_cons_of_pos (by simpa using hg)]
      rw [e, used_cons, used_cons]
      omega
theorem del_none {fs : List Fl} {l : Nm} (h : find fs l = none) : del l fs = fs := by
  refine List.filter_eq_self.2 fun a ha => ?_
  simpa using find_none h a ha
theorem mem_ins {f a : Fl} {fs : List Fl} : a ∈ ins f fs ↔ a = f ∨ a ∈ fs := by
  induction fs with
  | nil => simp [ins]
  | cons g r ih =>
    unfold ins
    split
    · simp
    · rw [List.mem_cons, ih, List.mem_cons]
      constructor <;> (rintro (h | h | h) <;> simp [h])
theorem srt_ins {f : Fl} {fs : List Fl} (hs : Srt fs) (hn : find fs f.nm = none) : Srt (ins f fs) := by
  induction fs with
  | nil => exact List.pairwise_singleton _ _
  | cons g r ih =>
    obtain ⟨h1, h2⟩ := List.pairwise_cons.1 hs
    have hg : g.nm ≠ f.nm := find_none hn g (by simp)
    have hr : find r f.nm = none := by
      unfold find at hn ⊢
      rw [List.find?_cons] at hn
      rwa [show (g.nm == f.nm) = false by simpa using hg] at hn
    unfold ins
    split
    · rename_i hlt
      refine List.pairwise_cons.2 ⟨fun a ha => ?_, hs⟩
      rcases List.mem_cons.1 ha with rfl | ha
      · exact hlt
      · exact List.lt_trans hlt (h1 a ha)
    · rename_i hlt
      refine List.pairwise_cons.2 ⟨fun a ha => ?_, ih h2 hr⟩
      rcases mem_ins.1 ha with rfl | ha
      · refine Decidable.byContradiction fun h => hg ?_
        exact List.le_antisymm (List.not_lt.1 hlt) (List.not_lt.1 h)
      · exact h1 a ha
theorem srt_del {fs : List Fl} (hs : Srt fs) (l : Nm) : Srt (del l fs) := List.Pairwise.filter _ hs
theorem upd_nm (fs : List Fl) (m : Nm) (g : Fl → Fl) (hg : ∀ f, (g f).nm = f.nm) : (upd m g fs).map (·.nm) = fs.map (·.nm) := by
  unfold upd
  rw [List.map_map]
  refine List.map_congr_left fun a _ => ?_
  show (if a.nm = m then g a else a).nm = a.nm
  split <;> simp [hg]
theorem srt_iff (fs : List Fl) : Srt fs ↔ (fs.map (·.nm)).Pairwise (fun a b => a < b) := by
  unfold Srt
  rw [List.pairwise_map]
theorem srt_upd {fs : List Fl} (hs : Srt fs) (m : Nm) (g : Fl → Fl) (hg : ∀ f, (g f).nm = f.nm) : Srt (upd m g fs) := by
  rw [srt_iff, upd_nm fs m g hg, ← srt_iff]
  exact hs
theorem upd_none {fs : List Fl} {l : Nm} (h : find fs l = none) (g : Fl → Fl) : upd l g fs = fs := by
  unfold upd
  conv => rhs; rw [← List.map_id fs]
  refine List.map_congr_left fun a ha => ?_
  rw [if_neg (find_none h a ha)]
  rfl
theorem used_put1 {fs : List Fl} (hs : Srt fs) {l : Nm} {f : Fl} (h : find fs l = some f) (p : List Int) : used (put1 l p fs) = used fs + p.length := by
  induction fs with
  | nil => simp [find] at h
  | cons g r ih =>
    obtain ⟨h1, h2⟩ := List.pairwise_cons.1 hs
    unfold find at h
    rw [List.find?_cons] at h
    by_cases hg : g.nm = l
    · have hr : find r l = none := by
        refine List.find?_eq_none.2 fun a ha => ?_
        have := nm_lt_ne (h1 a ha)
        rw [hg] at this
        simpa using this.symm
      have e : put1 l p (g :: r) = { g with bs := g.bs ++ p } :: r := by
        have := upd_none hr (fun f => { f with bs := f.bs ++ p })
        unfold put1 upd at this ⊢
        rw [List.map_cons, if_pos hg, this]
      rw [e, used_cons, used_cons]
      simp
      omega
    · rw [show (g.nm == l) = false by simpa using hg] at h
      have := ih h2 h
      have e : put1 l p (g :: r) = g :: put1 l p r := by
        unfold put1 upd
        rw [List.map_cons, if_neg hg]
      rw [e, used_cons, used_cons, this]
      omega
theorem used_upd (fs : List Fl) (m : Nm) (g : Fl → Fl) (hg : ∀ f ∈ fs, (g f).bs.length = f.bs.length) : used (upd m g fs) = used fs := by
  unfold used upd
  rw [List.map_map]
  congr 1
  refine List.map_congr_left fun a ha => ?_
  show (if a.nm = m then g a else a).bs.length = a.bs.length
  split <;> simp [hg a ha]

theorem crsN_zero (fs : List Fl) (ks : List Int) : crsN 0 fs ks = fs := by
  apply List.ext_getElem
  · simp [crsN]
  · intro i h1 h2
    simp [crsN]
theorem crsN_all (fs : List Fl) (ks : List Int) : crsN fs.length fs ks = crs fs ks := by
  apply List.ext_getElem
  · simp [crsN, crs]
  · intro i h1 h2
    simp only [crsN, crs, List.getElem_mapIdx]
    rw [if_pos (by simpa [crsN] using h1)]
theorem crsN_length (n : Nat) (fs : List Fl) (ks : List Int) : (crsN n fs ks).length = fs.length := by simp [crsN]
theorem crsN_nm (n : Nat) (fs : List Fl) (ks : List Int) : (crsN n fs ks).map (·.nm) = fs.map (·.nm) := by
  apply List.ext_getElem
  · simp [crsN]
  · intro i h1 h2
    simp only [crsN, List.getElem_map, List.getElem_mapIdx]
    split <;> rfl
theorem crsN_srt {n : Nat} {fs : List Fl} {ks : List Int} (h : Srt fs) : Srt (crsN n fs ks) := by
  rw [srt_iff, crsN_nm, ← srt_iff]
  exact h
theorem srt_get {fs : List Fl} (h : Srt fs) {i j : Nat} (hi : i < fs.length) (hj : j < fs.length) (e : fs[i].nm = fs[j].nm) : i = j := by
  have h' := (srt_iff fs).1 h
  rcases Nat.lt_trichotomy i j with hl | hl | hl
  · have := List.pairwise_iff_getElem.1 h' i j (by simpa using hi) (by simpa using hj) hl
    simp only [List.getElem_map] at this
    exact absurd e (nm_lt_ne this)
  · exact hl
  · have := List.pairwise_iff_getElem.1 h' j i (by simpa using hj) (by simpa using hi) hl
    simp only [List.getElem_map] at this
    exact absurd e.symm (nm_lt_ne this)
theorem crsN_step {n : Nat} {fs : List Fl} (ks : List Int) (h : Srt fs) (hn : n < fs.length) : upd fs[n].nm (fun f => cutTo f (ks.getD n 0)) (crsN n fs ks) = crsN (n + 1) fs ks := by
  apply List.ext_getElem
  · simp [crsN, upd]
  · intro i h1 h2
    have hi : i < fs.length := by simpa [crsN] using h2
    simp only [upd, crsN, List.getElem_map, List.getElem_mapIdx]
    by_cases e : i = n
    · subst e
      rw [if_neg (Nat.lt_irrefl i), if_pos rfl, if_pos (by omega)]
    · have hne : (if i < n then cutTo fs[i] (ks.getD i 0) else fs[i]).nm ≠ fs[n].nm := by
        have : (if i < n then cutTo fs[i] (ks.getD i 0) else fs[i]).nm = fs[i].nm := by split <;> rfl
        rw [this]
        exact fun e' => e (srt_get h hi hn e')
      rw [if_neg hne]
      by_cases hlt : i < n
      · rw [if_pos hlt, if_pos (by omega)]
      · rw [if_neg hlt, if_neg (by omega)]
theorem crsN_find {n : Nat} {fs : List Fl} (ks : List Int) (h : Srt fs) (hn : n < fs.length) : find (crsN n fs ks) fs[n].nm = some fs[n] := by
  refine find_mem (crsN_srt h) ?_
  refine List.mem_iff_getElem.2 ⟨n, by rw [crsN_length]; exact hn, ?_⟩
  simp [crsN]
theorem crsN_used (n : Nat) (fs : List Fl) (ks : List Int) : used (crsN n fs ks) ≤ used fs := by
  induction fs generalizing n ks with
  | nil => simp [crsN, used]
  | cons f r ih =>
    have e : crsN n (f :: r) ks = (if 0 < n then cutTo f (ks.getD 0 0) else f) :: crsN (n - 1) r ks.tail := by
      unfold crsN
      rw [List.mapIdx_cons]
      congr 1
      refine List.mapIdx_eq_mapIdx_iff.2 fun i hi => ?_
      have e2 : ks.getD (i + 1) 0 = ks.tail.getD i 0 := by cases ks <;> simp
      rw [e2]
      by_cases hlt : i + 1 < n
      · rw [if_pos hlt, if_pos (by omega)]
      · rw [if_neg hlt, if_neg (by omega)]
    rw [e, used_cons, used_cons]
    have := ih (n - 1) ks.tail
    have h2 : (if 0 < n then cutTo f (ks.getD 0 0) else f).bs.length ≤ f.bs.length := by
      split
      · simp only [cutTo, List.length_take]
        omega
      · exact Nat.le_refl _
    omega
theorem crsN_sy {n : Nat} {fs : List Fl} {ks : List Int} (h : ∀ f ∈ fs, f.sy ≤ f.bs.length) : ∀ f ∈ crsN n fs ks, f.sy ≤ f.bs.length := by
  intro f hf
  obtain ⟨i, hi, rfl⟩ := List.mem_iff_getElem.1 hf
  have hi' : i < fs.length := by simpa [crsN] using hi
  have := h _ (List.getElem_mem hi')
  simp only [crsN, List.getElem_mapIdx]
  split
  · simp only [cutTo, List.length_take]
    have h2 : keptOf fs[i] (ks.getD i 0) ≤ fs[i].bs.length := by
      unfold keptOf
      omega
    omega
  · exact this
theorem crsN_okn {n : Nat} {fs : List Fl} {ks : List Int} (h : ∀ f ∈ fs, okN f.nm = true) : ∀ f ∈ crsN n fs ks, okN f.nm = true := by
  intro f hf
  obtain ⟨i, hi, rfl⟩ := List.mem_iff_getElem.1 hf
  have hi' : i < fs.length := by simpa [crsN] using hi
  have := h _ (List.getElem_mem hi')
  simp only [crsN, List.getElem_mapIdx]
  split
  · exact this
  · exact this
theorem okd_crsN {D : Dsk} (h : Okd D) (n : Nat) (ks : List Int) : Okd { D with files := crsN n D.files ks } :=
  ⟨crsN_srt h.srt, crsN_okn h.nms, crsN_sy h.sy, Nat.le_trans (crsN_used _ _ _) h.fits, h.room, h.fuse0, h.fuse1⟩
end Go.Proofs.YtfiebjfdlplpjaaGreatDoor
end

section
/- The names of a journal's files as plain mathematics: a number's twelve digits, told and read back, in order. No program is named here. -/
namespace Go.Proofs.YtfiebjfdlplpjaaGreatDoor
set_option linter.unusedVariables false

/-- one digit -/
def d1 (x : Nat) : UInt8 := UInt8.ofNat (48 + x % 10)
/-- the k lowest digits of a number, the highest first -/
def dig : Nat → Nat → Nm
  | 0, _ => []
  | k + 1, n => dig k (n / 10) ++ [d1 n]
/-- digits, read on behind a number -/
def rdg : Nat → Nm → Option Nat
  | a, [] => some a
  | a, c :: r => if 48 ≤ c.toNat ∧ c.toNat ≤ 57 then rdg (a * 10 + (c.toNat - 48)) r else none

theorem d1_toNat (x : Nat) : (d1 x).toNat = 48 + x % 10 := by
  unfold d1
  rw [UInt8.toNat_ofNat']
  have : x % 10 < 10 := Nat.mod_lt _ (by decide)
  omega
theorem dig_length : ∀ (k n : Nat), (dig k n).length = k
  | 0, _ => rfl
  | k + 1, n => by simp [dig, dig_length k]
theorem rdg_append : ∀ (a b : Nm) (x : Nat), rdg x (a ++ b) = (rdg x a).bind (fun y => rdg y b)
  | [], b, x => rfl
  | c :: r, b, x => by
    simp only [List.cons_append, rdg]
    split
    · exact rdg_append r b _
    · rfl
theorem rdg_dig : ∀ (k n x : Nat), n < 10 ^ k → rdg x (dig k n) = some (x * 10 ^ k + n)
  | 0, n, x, h => by
    simp at h
    subst h
    simp [dig, rdg]
  | k + 1, n, x, h => by
    have h1 : n / 10 < 10 ^ k := by
      rw [Nat.pow_succ] at h
      omega
    rw [dig, rdg_append, rdg_dig k _ x h1]
    show rdg _ [d1 n] = _
    have hd := d1_toNat n
    have h10 : n % 10 < 10 := Nat.mod_lt _ (by decide)
    simp only [rdg, hd]
    rw [if_pos (by omega), Nat.pow_succ]
    congr 1
    rw [Nat.add_mul, ← Nat.mul_assoc]
    generalize x * 10 ^ k * 10 = m
    omega
theorem u8_ext {a b : UInt8} (h : a.toNat = b.toNat) : a = b := UInt8.toNat_inj.1 h
theorem rdg_back : ∀ (k : Nat) (l : Nm) (n : Nat), l.length = k → rdg 0 l = some n → l = dig k n ∧ n < 10 ^ k
  | 0, l, n, hl, h => by
    obtain rfl := List.eq_nil_of_length_eq_zero hl
    simp only [rdg, Option.some.injEq] at h
    subst h
    exact ⟨rfl, by decide⟩
  | k + 1, l, n, hl, h => by
    have hne : l ≠ [] := by rintro rfl; simp at hl
    have he := (List.dropLast_concat_getLast hne).symm
    generalize l.getLast hne = c at he
    generalize hq : l.dropLast = r at he
    subst he
    have hrl : r.length = k := by simpa using hl
    rw [rdg_append] at h
    cases hr : rdg 0 r with
    | none => rw [hr] at h; cases h
    | some y =>
      rw [hr] at h
      have h2 : rdg y [c] = some n := h
      obtain ⟨h3, h4⟩ := rdg_back k r y hrl hr
      simp only [rdg] at h2
      split at h2
      · rename_i hc
        obtain rfl := Option.some.inj h2
        have e1 : (y * 10 + (c.toNat - 48)) / 10 = y := by omega
        refine ⟨?_, by rw [Nat.pow_succ]; omega⟩
        rw [dig, e1, ← h3]
        congr 2
        refine u8_ext ?_
        rw [d1_toNat]
        omega
      · cases h2
theorem append_lt {a b : Nm} (h : a < b) (hl : a.length = b.length) (c d : Nm) : a ++ c < b ++ d := by
  induction a generalizing b with
  | nil =>
    cases b with
    | nil => exact absurd h (List.lt_irrefl _)
    | cons y b => simp at hl
  | cons x a ih =>
    cases b with
    | nil => simp at hl
    | cons y b =>
      rw [List.cons_lt_cons_iff] at h
      rw [List.cons_append, List.cons_append, List.cons_lt_cons_iff]
      rcases h with h | ⟨h1, h2⟩
      · exact .inl h
      · exact .inr ⟨h1, ih h2 (by simpa using hl)⟩
theorem lt_append (a : Nm) {c d : Nm} (h : c < d) : a ++ c < a ++ d := by
  induction a with
  | nil => exact h
  | cons x a ih => rw [List.cons_append, List.cons_append, List.cons_lt_cons_iff]; exact .inr ⟨rfl, ih⟩
theorem dig_lt : ∀ (k a b : Nat), a < b → b < 10 ^ k → dig k a < dig k b
  | 0, a, b, h, hb => by simp at hb; omega
  | k + 1, a, b, h, hb => by
    rw [Nat.pow_succ] at hb
    rcases Nat.lt_or_ge (a / 10) (b / 10) with h1 | h1
    · exact append_lt (dig_lt k _ _ h1 (by omega)) (by simp [dig_length]) _ _
    · have e : a / 10 = b / 10 := by omega
      rw [dig, dig, e]
      refine lt_append _ ?_
      rw [List.cons_lt_cons_iff]
      left
      show (d1 a).toNat < (d1 b).toNat
      rw [d1_toNat, d1_toNat]
      omega

/-- the name of the segment of that number -/
def segN (l : Nm) (n : Nat) : Nm := l ++ (45 :: dig 12 n)
def cutN (l : Nm) : Nm := l ++ [45, 99, 117, 116]
/-- the number that a file's name tells -/
def segNo (l f : Nm) : Option Nat := if (l ++ [45]).isPrefixOf f && decide ((f.drop (l.length + 1)).length = 12) then rdg 0 (f.drop (l.length + 1)) else none
def maxNo : Nat := 999999999999

theorem segNo_segN (l : Nm) {n : Nat} (h : n ≤ maxNo) : segNo l (segN l n) = some n := by
  have hd : (segN l n).drop (l.length + 1) = dig 12 n := by
    unfold segN
    rw [List.drop_append, List.drop_eq_nil_of_le (by omega), show l.length + 1 - l.length = 1 by omega]
    rfl
  unfold segNo
  rw [hd, dig_length, rdg_dig 12 n 0 (by unfold maxNo at h; omega)]
  have : (l ++ [45]).isPrefixOf (segN l n) = true := by
    rw [List.isPrefixOf_iff_prefix]
    exact ⟨dig 12 n, by simp [segN]⟩
  simp [this]
theorem segNo_back {l f : Nm} {n : Nat} (h : segNo l f = some n) : f = segN l n ∧ n ≤ maxNo := by
  unfold segNo at h
  split at h
  · rename_i hc
    simp only [Bool.and_eq_true, decide_eq_true_eq, List.isPrefixOf_iff_prefix] at hc
    obtain ⟨⟨r, hr⟩, h2⟩ := hc
    obtain ⟨h3, h4⟩ := rdg_back 12 _ n h2 h
    refine ⟨?_, by unfold maxNo; omega⟩
    have hd : f.drop (l.length + 1) = r := by
      rw [← hr, List.drop_append, List.drop_eq_nil_of_le (by simp)]
      simp
    rw [hd] at h3
    rw [← hr, h3]
    simp [segN]
  · cases h
theorem segN_lt (l : Nm) {a b : Nat} (h : a < b) (hb : b ≤ maxNo) : segN l a < segN l b := by
  refine lt_append _ ?_
  rw [List.cons_lt_cons_iff]
  exact .inr ⟨rfl, dig_lt 12 a b h (by unfold maxNo at hb; omega)⟩
theorem segN_inj {l : Nm} {a b : Nat} (ha : a ≤ maxNo) (hb : b ≤ maxNo) (h : segN l a = segN l b) : a = b := by
  have h1 := segNo_segN l ha
  rw [h, segNo_segN l hb] at h1
  exact (Option.some.inj h1).symm
theorem segN_lt_iff (l : Nm) {a b : Nat} (ha : a ≤ maxNo) (hb : b ≤ maxNo) : segN l a < segN l b ↔ a < b := by
  refine ⟨fun h => ?_, fun h => segN_lt l h hb⟩
  rcases Nat.lt_trichotomy a b with h1 | h1 | h1
  · exact h1
  · subst h1; exact absurd h (List.lt_irrefl _)
  · exact absurd (List.lt_trans h (segN_lt l h1 ha)) (List.lt_irrefl _)
theorem segNo_cut (l : Nm) : segNo l (cutN l) = none := by
  unfold segNo
  have : (cutN l).drop (l.length + 1) = [99, 117, 116] := by
    unfold cutN
    rw [List.drop_append, List.drop_eq_nil_of_le (by omega), show l.length + 1 - l.length = 1 by omega]
    rfl
  rw [this]
  simp
theorem segN_ne_cut (l : Nm) (n : Nat) : segN l n ≠ cutN l := by
  intro h
  have := congrArg List.length h
  simp [segN, cutN, dig_length] at this

/-- as the library tells a number: zeros ahead of its digits -/
theorem zero_dig : ∀ k, List.replicate k (48 : UInt8) = dig k 0
  | 0 => rfl
  | k + 1 => by
    rw [List.replicate_succ', zero_dig k]
    rfl
theorem dig_dec : ∀ (k n : Nat), n < 10 ^ (k + 1) → List.replicate (k + 1 - (Lib.decDigits n).length) 48 ++ Lib.decDigits n = dig (k + 1) n
  | k, n, h => by
    by_cases hs : n < 10
    · rw [Lib.decDigits_one hs]
      show List.replicate k 48 ++ _ = dig k (n / 10) ++ [d1 n]
      rw [zero_dig, show n / 10 = 0 by omega, d1, Nat.mod_eq_of_lt hs]
    · cases k with
      | zero => simp at h; omega
      | succ k =>
        have ih := dig_dec k (n / 10) (by rw [Nat.pow_succ] at h; omega)
        rw [Lib.decDigits, dif_neg hs]
        show _ = dig (k + 1) (n / 10) ++ [d1 n]
        rw [← ih, List.length_append, List.append_assoc]
        simp only [List.length_singleton]
        rw [show k + 1 + 1 - ((Lib.decDigits (n / 10)).length + 1) = k + 1 - (Lib.decDigits (n / 10)).length by omega]
        rfl
theorem dec_len {n : Nat} (h : n ≤ maxNo) : (Lib.decDigits n).length ≤ 12 := by
  rw [Lib.decDigits_length]
  have : ∀ (k n : Nat), n < 10 ^ (k + 1) → Lib.nDigits n ≤ k + 1 := by
    intro k
    induction k with
    | zero => intro n h; rw [Lib.nDigits_small (by simpa using h)]; omega
    | succ k ih =>
      intro n h
      by_cases hs : n < 10
      · rw [Lib.nDigits_small hs]; omega
      · rw [Lib.nDigits_big hs]
        have := ih (n / 10) (by rw [Nat.pow_succ] at h; omega)
        omega
  exact this 11 n (by unfold maxNo at h; omega)
theorem segN_dec (l : Nm) {n : Nat} (h : n ≤ maxNo) : l ++ [45] ++ List.replicate (12 - (Lib.decDigits n).length) 48 ++ Lib.decDigits n = segN l n := by
  rw [List.append_assoc, dig_dec 11 n (by unfold maxNo at h; omega), segN]
  simp

/-! ## the segments among a disk's files -/
/-- the numbers of a journal's segments among files' names -/
def nos (l : Nm) (fs : List Nm) : List Nat := fs.filterMap (segNo l)
theorem nos_mem {l : Nm} {fs : List Nm} {n : Nat} : n ∈ nos l fs ↔ n ≤ maxNo ∧ segN l n ∈ fs := by
  unfold nos
  rw [List.mem_filterMap]
  constructor
  · rintro ⟨f, hf, h⟩
    obtain ⟨rfl, h2⟩ := segNo_back h
    exact ⟨h2, hf⟩
  · rintro ⟨h1, h2⟩
    exact ⟨_, h2, segNo_segN l h1⟩
theorem nos_rise {l : Nm} {fs : List Nm} (h : fs.Pairwise (· < ·)) : (nos l fs).Pairwise (· < ·) := by
  unfold nos
  rw [List.pairwise_filterMap]
  refine h.imp ?_
  intro a b hab x hx y hy
  obtain ⟨rfl, h1⟩ := segNo_back hx
  obtain ⟨rfl, h2⟩ := segNo_back hy
  exact (segN_lt_iff l h1 h2).1 hab
theorem rise_ext : ∀ {a b : List Nat}, a.Pairwise (· < ·) → b.Pairwise (· < ·) → (∀ n, n ∈ a ↔ n ∈ b) → a = b
  | [], [], _, _, _ => rfl
  | [], y :: b, _, _, h => absurd ((h y).2 (by simp)) (by simp)
  | x :: a, [], _, _, h => absurd ((h x).1 (by simp)) (by simp)
  | x :: a, y :: b, ha, hb, h => by
    obtain ⟨ha1, ha2⟩ := List.pairwise_cons.1 ha
    obtain ⟨hb1, hb2⟩ := List.pairwise_cons.1 hb
    have exy : x = y := by
      rcases List.mem_cons.1 ((h x).1 (by simp)) with e | e
      · exact e
      · rcases List.mem_cons.1 ((h y).2 (by simp)) with e' | e'
        · exact e'.symm
        · have := hb1 x e
          have := ha1 y e'
          omega
    subst exy
    congr 1
    refine rise_ext ha2 hb2 fun n => ?_
    have hn := h n
    rw [List.mem_cons, List.mem_cons] at hn
    constructor
    · intro hm
      rcases hn.1 (.inr hm) with e | e
      · have := ha1 n hm; omega
      · exact e
    · intro hm
      rcases hn.2 (.inr hm) with e | e
      · have := hb1 n hm; omega
      · exact e
theorem find_isSome {fs : List Fl} {l : Nm} : (find fs l).isSome ↔ l ∈ fs.map (·.nm) := by
  rw [List.mem_map]
  constructor
  · intro h
    obtain ⟨f, hf⟩ := Option.isSome_iff_exists.1 h
    exact ⟨f, find_some hf⟩
  · rintro ⟨f, hf, h⟩
    cases hq : find fs l with
    | none => exact absurd h (find_none hq f hf)
    | some g => rfl
end Go.Proofs.YtfiebjfdlplpjaaGreatDoor
end

section
/- Plain mathematics of numbers as bytes: the digits of a number, and what is read from bytes. No program is named here. -/
namespace Go.Proofs.YtfiebjfdlplpjaaGreatDoor

/-- the digits of x to the base 128, the lowest first, 128 added to all but the last: at most k + 1 of them -/
def encF : Nat → Int → List Int
  | 0, x => [x]
  | k + 1, x => if x < 128 then [x] else (x % 128 + 128) :: encF k (x / 128)
def enc (x : Int) : List Int := encF 9 x

theorem encF_more : ∀ (k : Nat) (x : Int), 0 ≤ x → x < 128 ^ (k + 1) → encF (k + 1) x = encF k x
  | 0, x, h0, h1 => by
    have : x < 128 := by simpa using h1
    simp [encF, this]
  | k + 1, x, h0, h1 => by
    have e : encF (k + 1 + 1) x = if x < 128 then [x] else (x % 128 + 128) :: encF (k + 1) (x / 128) := rfl
    rw [e]
    have e2 : encF (k + 1) x = if x < 128 then [x] else (x % 128 + 128) :: encF k (x / 128) := rfl
    rw [e2]
    by_cases hx : x < 128
    · simp [hx]
    · rw [if_neg hx, if_neg hx, encF_more k (x / 128) (by omega) (by
        have : x < 128 ^ (k + 1) * 128 := by rw [← Int.pow_succ]; exact h1
        omega)]
theorem encF_length : ∀ (k : Nat) (x : Int), (encF k x).length ≤ k + 1
  | 0, x => by simp [encF]
  | k + 1, x => by
    unfold encF
    split
    · simp
    · have := encF_length k (x / 128); simp; omega
theorem encF_pos : ∀ (k : Nat) (x : Int), 1 ≤ (encF k x).length
  | 0, x => by simp [encF]
  | k + 1, x => by unfold encF; split <;> simp
theorem enc_length (x : Int) : (enc x).length ≤ 10 := encF_length 9 x
theorem enc_pos (x : Int) : 1 ≤ (enc x).length := encF_pos 9 x
theorem enc_small {x : Int} (h : x < 128) : enc x = [x] := by simp [enc, encF, h]
theorem enc_step {x : Int} (h : 128 ≤ x) (h1 : x ≤ 18446744073709551615) : enc x = (x % 128 + 128) :: enc (x / 128) := by
  have e : encF 9 x = if x < 128 then [x] else (x % 128 + 128) :: encF 8 (x / 128) := rfl
  show encF 9 x = _ :: encF 9 (x / 128)
  rw [e, if_neg (by omega), encF_more 8 (x / 128) (by omega) (by omega)]
theorem encF_range : ∀ (k : Nat) (x : Int), 0 ≤ x → x < 256 * 128 ^ k → ∀ z ∈ encF k x, 0 ≤ z ∧ z ≤ 255
  | 0, x, h0, h1, z, hz => by simp [encF] at hz; subst hz; simp at h1; omega
  | k + 1, x, h0, h1, z, hz => by
    unfold encF at hz
    split at hz
    · simp at hz; omega
    · rcases List.mem_cons.1 hz with rfl | hz
      · omega
      · refine encF_range k (x / 128) (by omega) ?_ z hz
        have : x < 256 * 128 ^ k * 128 := by
          have e : (256 : Int) * 128 ^ (k + 1) = 256 * 128 ^ k * 128 := by rw [Int.pow_succ, Int.mul_assoc]
          omega
        omega
theorem enc_range {x : Int} (h : 0 ≤ x) (h1 : x ≤ 18446744073709551615) : ∀ z ∈ enc x, 0 ≤ z ∧ z ≤ 255 := encF_range 9 x h (by omega)

theorem or128 : ∀ m : Fin 256, (m.val ||| 128) = m.val % 128 + 128 := by decide +kernel
/-- the byte of a digit that is not the last -/
theorem or_digit (x : Int) : Go.bits .or .u8 (x % 256) 128 = x % 128 + 128 := by
  obtain ⟨n, hn⟩ := Int.eq_ofNat_of_zero_le (show 0 ≤ x % 256 by omega)
  have hb : n < 256 := by omega
  rw [hn, show (128 : Int) = ((128 : Nat) : Int) from rfl, (bits_nat .u8 8 (by decide) wraps_u8 n 128 (by omega) (by decide)).2, or128 ⟨n, hb⟩]
  show ((n % 128 + 128 : Nat) : Int) = _
  omega

/-- what ReadUint tells of bytes, from the place i on, with x read so far: the number, how many bytes it has, the error -/
def dec : Int → Nat → List Int → Int × Int × Int
  | _, _, [] => (0, 0, 4)
  | x, i, d :: r =>
    if i = 9 ∧ d ≠ 1 then (0, 0, 5)
    else if 128 ≤ d then dec (x + d % 128 * 2 ^ (7 * i)) (i + 1) r
    else if d = 0 ∧ 0 < i then (0, 0, 5)
    else (x + d % 128 * 2 ^ (7 * i), i + 1, 0)
/-- the same, as the machine reckons it -/
def decR : Int → Nat → List Int → Int × Int × Int
  | _, _, [] => (0, 0, 4)
  | x, i, d :: r =>
    if i = 9 ∧ d ≠ 1 then (0, 0, 5)
    else if 128 ≤ d then decR (Go.bits .or .u64 x (IntKind.u64.wrap (d % 128 * 2 ^ (7 * i)))) (i + 1) r
    else if d = 0 ∧ 0 < i then (0, 0, 5)
    else (Go.bits .or .u64 x (IntKind.u64.wrap (d % 128 * 2 ^ (7 * i))), i + 1, 0)

theorem or_add (x t : Int) (i : Nat) (hi : 7 * i ≤ 63) (hx0 : 0 ≤ x) (hx : x < 2 ^ (7 * i)) (ht0 : 0 ≤ t) (ht : t * 2 ^ (7 * i) ≤ 18446744073709551615) :
    Go.bits .or .u64 x (IntKind.u64.wrap (t * 2 ^ (7 * i))) = x + t * 2 ^ (7 * i) := by
  obtain ⟨a, rfl⟩ := Int.eq_ofNat_of_zero_le hx0
  obtain ⟨b, rfl⟩ := Int.eq_ofNat_of_zero_le ht0
  have hcast : ((2 ^ (7 * i) : Nat) : Int) = 2 ^ (7 * i) := by simp
  have ha : a < 2 ^ (7 * i) := by rw [← hcast] at hx; exact_mod_cast hx
  have hp : 2 ^ (7 * i) ≤ 2 ^ 63 := Nat.pow_le_pow_right (by decide) hi
  have hw : IntKind.u64.wrap ((b : Int) * 2 ^ (7 * i)) = ((2 ^ (7 * i) * b : Nat) : Int) := by
    rw [IntWalk.u64_in _ ⟨Int.mul_nonneg (by omega) (by rw [← hcast]; omega), ht⟩, Int.natCast_mul, hcast, Int.mul_comm]
  have hb : 2 ^ (7 * i) * b ≤ 18446744073709551615 := by
    rw [← hcast, Int.mul_comm, ← Int.natCast_mul] at ht
    generalize 2 ^ (7 * i) * b = q at ht ⊢
    omega
  rw [hw, bits_or_u64_nat a _ (by omega) (by omega), Nat.or_comm, ← Nat.two_pow_add_eq_or_of_lt ha b]
  rw [Int.natCast_add, Int.natCast_mul, hcast]
  rw [Int.mul_comm, Int.add_comm]

theorem decR_dec : ∀ (l : List Int) (x : Int) (i : Nat), i ≤ 9 → 0 ≤ x → x < 2 ^ (7 * i) → (∀ z ∈ l, 0 ≤ z ∧ z ≤ 255) → decR x i l = dec x i l
  | [], _, _, _, _, _, _ => rfl
  | d :: r, x, i, hi, hx0, hx, hz => by
    have hd := hz d (by simp)
    unfold decR dec
    by_cases h9 : i = 9 ∧ d ≠ 1
    · rw [if_pos h9, if_pos h9]
    · rw [if_neg h9, if_neg h9]
      have hpos : (0 : Int) < 2 ^ (7 * i) := Int.pow_pos (by decide)
      have hstep : x + d % 128 * 2 ^ (7 * i) < 2 ^ (7 * (i + 1)) := by
        have e : (2 : Int) ^ (7 * (i + 1)) = 128 * 2 ^ (7 * i) := by
          rw [show 7 * (i + 1) = 7 * i + 7 by omega, Int.pow_add, Int.mul_comm]; rfl
        have h1 : d % 128 * 2 ^ (7 * i) ≤ 127 * 2 ^ (7 * i) := Int.mul_le_mul_of_nonneg_right (by omega) (by omega)
        omega
      have hbound : d % 128 * 2 ^ (7 * i) ≤ 18446744073709551615 := by
        by_cases h : i = 9
        · subst h
          have : d = 1 := by omega
          subst this
          rw [show (1 : Int) % 128 = 1 from rfl, Int.one_mul, show 7 * 9 = 63 from rfl]
          exact Int.le_of_lt (by decide)
        · have hp : (2 : Int) ^ (7 * (i + 1)) ≤ 2 ^ 63 := by
            have h : (2 : Nat) ^ (7 * (i + 1)) ≤ 2 ^ 63 := Nat.pow_le_pow_right (by decide) (by omega)
            have hc : ((2 ^ (7 * (i + 1)) : Nat) : Int) = 2 ^ (7 * (i + 1)) := by simp
            rw [← hc]
            exact Int.ofNat_le.2 h
          omega
      have e := or_add x (d % 128) i (by omega) hx0 hx (by omega) hbound
      rw [e]
      by_cases h128 : 128 ≤ d
      · rw [if_pos h128, if_pos h128]
        refine decR_dec r _ (i + 1) (by omega) ?_ hstep (fun z hz' => hz z (by simp [hz']))
        have : 0 ≤ d % 128 * 2 ^ (7 * i) := Int.mul_nonneg (by omega) (by omega)
        omega
      · rw [if_neg h128, if_neg h128]

/-- bytes: each from 0 to 255 -/
def Byt (zs : List Int) : Prop := ∀ z ∈ zs, 0 ≤ z ∧ z ≤ 255
theorem Byt.drop {zs : List Int} (h : Byt zs) (k : Nat) : Byt (zs.drop k) := fun z hz => h z (List.mem_of_mem_drop hz)
theorem Byt.take {zs : List Int} (h : Byt zs) (k : Nat) : Byt (zs.take k) := fun z hz => h z (List.mem_of_mem_take hz)
theorem Byt.append {a b : List Int} (h : Byt a) (h' : Byt b) : Byt (a ++ b) := fun z hz => (List.mem_append.1 hz).elim (h z) (h' z)

/-- the signed number that stands behind a number -/
def zig (x : Int) : Int := if x % 2 = 0 then x / 2 else -(x / 2) - 1
theorem and_one {x : Int} (h0 : 0 ≤ x) (h1 : x ≤ 18446744073709551615) : Go.bits .and .u64 x 1 = x % 2 := by
  obtain ⟨n, rfl⟩ := Int.eq_ofNat_of_zero_le h0
  rw [show (1 : Int) = ((1 : Nat) : Int) from rfl, bits_and_u64_nat n 1 (by omega) (by omega), Nat.and_one_is_mod]
  omega
theorem zig_of {x : Int} (h0 : 0 ≤ x) (h1 : x ≤ 18446744073709551615) : Go.bits .xor .i64 (x / 2) (-(x % 2)) = zig x := by
  obtain ⟨n, hn⟩ := Int.eq_ofNat_of_zero_le (show 0 ≤ x / 2 by omega)
  have hb : n < 9223372036854775808 := by omega
  unfold zig Go.bits
  rw [hn]
  have h1 : (BitVec.ofInt 64 ((n : Nat) : Int)) = BitVec.ofNat 64 n := by rw [BitVec.ofInt_natCast]
  show IntKind.i64.wrap ((BitVec.ofInt 64 (n : Int) ^^^ BitVec.ofInt 64 (-(x % 2))).toNat : Int) = _
  rw [h1]
  by_cases he : x % 2 = 0
  · rw [he, if_pos rfl]
    have : BitVec.ofInt 64 (-0) = 0#64 := by decide
    rw [this, BitVec.xor_zero, BitVec.toNat_ofNat, Nat.mod_eq_of_lt (by omega), IntKind.wrap_i64]
    omega
  · rw [show x % 2 = 1 by omega, if_neg (by decide)]
    have : BitVec.ofInt 64 (-1) = BitVec.allOnes 64 := by decide
    rw [this, BitVec.xor_allOnes, BitVec.toNat_not, BitVec.toNat_ofNat, Nat.mod_eq_of_lt (by omega), IntKind.wrap_i64]
    omega
/-- what dec tells lies within its bounds -/
def DecOk (m : Nat) (R : Int × Int × Int) : Prop :=
  ∃ (X : Int) (n : Nat) (E : Int), R = (X, (n : Int), E) ∧ 0 ≤ X ∧ X ≤ 18446744073709551615 ∧ n ≤ m ∧ (E = 0 → 1 ≤ n) ∧ (E ≠ 0 → X = 0 ∧ n = 0) ∧ (E = 0 ∨ E = 3 ∨ E = 4 ∨ E = 5)

theorem pow_split (i : Nat) : (2 : Int) ^ (7 * (i + 1)) = 128 * 2 ^ (7 * i) := by
  rw [show 7 * (i + 1) = 7 * i + 7 by omega, Int.pow_add, Int.mul_comm]; rfl
theorem pow_63 (i : Nat) (h : i ≤ 9) : (2 : Int) ^ (7 * i) ≤ 9223372036854775808 := by
  have h : (2 : Nat) ^ (7 * i) ≤ 2 ^ 63 := Nat.pow_le_pow_right (by decide) (by omega)
  have hc : ((2 ^ (7 * i) : Nat) : Int) = 2 ^ (7 * i) := by simp
  rw [← hc]
  omega

theorem dec_ok : ∀ (l : List Int) (x : Int) (i : Nat), i ≤ 9 → 0 ≤ x → x < 2 ^ (7 * i) → Byt l → DecOk (i + l.length) (dec x i l)
  | [], _, i, _, _, _, _ => ⟨0, 0, 4, rfl, by omega, by omega, by omega, by omega, by omega, by omega⟩
  | d :: r, x, i, hi, hx0, hx, hz => by
    have hd := hz d (by simp)
    unfold dec
    by_cases h9 : i = 9 ∧ d ≠ 1
    · rw [if_pos h9]; exact ⟨0, 0, 5, rfl, by omega, by omega, by omega, by omega, by omega, by omega⟩
    · rw [if_neg h9]
      have hpos : (0 : Int) < 2 ^ (7 * i) := Int.pow_pos (by decide)
      have h1 : d % 128 * 2 ^ (7 * i) ≤ 127 * 2 ^ (7 * i) := Int.mul_le_mul_of_nonneg_right (by omega) (by omega)
      have h2 : 0 ≤ d % 128 * 2 ^ (7 * i) := Int.mul_nonneg (by omega) (by omega)
      have hstep : x + d % 128 * 2 ^ (7 * i) < 2 ^ (7 * (i + 1)) := by rw [pow_split]; omega
      by_cases h128 : 128 ≤ d
      · rw [if_pos h128]
        obtain ⟨X, n, E, h⟩ := dec_ok r _ (i + 1) (by omega) (by omega) hstep (fun z hz' => hz z (by simp [hz']))
        exact ⟨X, n, E, h.1, h.2.1, h.2.2.1, by have := h.2.2.2.1; simp; omega, h.2.2.2.2⟩
      · rw [if_neg h128]
        by_cases h0 : d = 0 ∧ 0 < i
        · rw [if_pos h0]; exact ⟨0, 0, 5, rfl, by omega, by omega, by omega, by omega, by omega, by omega⟩
        · rw [if_neg h0]
          refine ⟨_, i + 1, 0, rfl, by omega, ?_, by rw [List.length_cons]; omega, by omega, by omega, by omega⟩
          have hp := pow_63 i hi
          by_cases h : i = 9
          · have : d = 1 := by omega
            subst this
            rw [show (1 : Int) % 128 = 1 from rfl, Int.one_mul]
            omega
          · have hp2 := pow_63 (i + 1) (by omega)
            omega

/-- a number that may not be above most, from the beginning of l: the number, how many bytes, the error -/
def num (most : Int) (l : List Int) : Int × Int × Int :=
  if (dec 0 0 l).2.2 = 0 then (if most < (dec 0 0 l).1 then (0, 0, 3) else ((dec 0 0 l).1, (dec 0 0 l).2.1, 0))
  else (0, 0, (dec 0 0 l).2.2)
theorem num_ok (most : Int) (l : List Int) (hz : Byt l) (h0 : 0 ≤ most) : DecOk l.length (num most l) ∧ (num most l).1 ≤ most := by
  obtain ⟨X, n, E, h⟩ := dec_ok l 0 0 (by omega) (by omega) (by decide) hz
  unfold num
  rw [h.1]
  simp only
  by_cases hE : E = 0
  · rw [if_pos hE]
    by_cases hX : most < X
    · rw [if_pos hX]
      exact ⟨⟨0, 0, 3, rfl, by omega, by omega, by omega, by omega, by omega, by omega⟩, h0⟩
    · rw [if_neg hX]
      exact ⟨⟨X, n, 0, rfl, h.2.1, h.2.2.1, by have := h.2.2.2.1; omega, fun _ => h.2.2.2.2.1 hE, by omega, by omega⟩, by simp; omega⟩
  · rw [if_neg hE]
    exact ⟨⟨0, 0, E, rfl, by omega, by omega, by omega, by omega, by omega, h.2.2.2.2.2.2⟩, h0⟩

theorem dec_enc : ∀ (l : List Int) (x : Int) (i : Nat) (X N : Int), i ≤ 9 → (∀ z ∈ l, 0 ≤ z ∧ z ≤ 255) → dec x i l = (X, N, 0) →
    ∃ (Y : Int) (m : Nat), X = x + Y * 2 ^ (7 * i) ∧ N = i + m ∧ 1 ≤ m ∧ m ≤ l.length ∧ 0 ≤ Y ∧ encF (9 - i) Y = l.take m ∧ (0 < i → 0 < Y)
  | [], x, i, X, N, _, _, h => by simp [dec] at h
  | d :: r, x, i, X, N, hi, hz, h => by
    have hd := hz d (by simp)
    unfold dec at h
    by_cases h9 : i = 9 ∧ d ≠ 1
    · rw [if_pos h9] at h; simp at h
    · rw [if_neg h9] at h
      by_cases h128 : 128 ≤ d
      · rw [if_pos h128] at h
        have hi9 : i < 9 := by
          rcases Nat.lt_or_ge i 9 with h' | h'
          · exact h'
          · exact absurd ⟨by omega, by omega⟩ h9
        obtain ⟨Y, m, h1, h2, h3, h4, h5, h6, h7⟩ := dec_enc r _ (i + 1) X N (by omega) (fun z hz' => hz z (by simp [hz'])) h
        have hY := h7 (by omega)
        refine ⟨d % 128 + 128 * Y, m + 1, ?_, by omega, by omega, by rw [List.length_cons]; omega, by omega, ?_, fun _ => by omega⟩
        · rw [h1, pow_split, Int.add_mul, Int.mul_comm 128 Y, Int.mul_assoc Y 128]
          omega
        · rw [show 9 - i = (9 - (i + 1)) + 1 by omega]
          show (if d % 128 + 128 * Y < 128 then [d % 128 + 128 * Y] else ((d % 128 + 128 * Y) % 128 + 128) :: encF (9 - (i + 1)) ((d % 128 + 128 * Y) / 128)) = _
          rw [if_neg (by omega), show (d % 128 + 128 * Y) / 128 = Y by omega, show (d % 128 + 128 * Y) % 128 + 128 = d by omega, h6]
          rfl
      · rw [if_neg h128] at h
        by_cases h0 : d = 0 ∧ 0 < i
        · rw [if_pos h0] at h; simp at h
        · rw [if_neg h0] at h
          simp only [Prod.mk.injEq] at h
          refine ⟨d, 1, ?_, by omega, by omega, by rw [List.length_cons]; omega, by omega, ?_, fun hi0 => by omega⟩
          · rw [← h.1, Int.emod_eq_of_lt hd.1 (by omega)]
          · cases hk : 9 - i with
            | zero => rfl
            | succ k => simp [encF, show d < 128 by omega]

theorem dec_enc0 {l : List Int} {X N : Int} (hz : Byt l) (h : dec 0 0 l = (X, N, 0)) : ∃ m : Nat, N = m ∧ 1 ≤ m ∧ m ≤ l.length ∧ enc X = l.take m := by
  obtain ⟨Y, m, h1, h2, h3, h4, _, h6, _⟩ := dec_enc l 0 0 X N (by omega) hz h
  refine ⟨m, by omega, h3, h4, ?_⟩
  have : X = Y := by rw [h1]; simp
  subst this
  exact h6

/-- digits that are read back, whatever stands behind them -/
theorem enc_dec : ∀ (k : Nat) (Y x : Int) (i : Nat) (more : List Int), i + k = 9 → 0 ≤ Y → Y < 2 ^ (64 - 7 * i) → (0 < i → 0 < Y) → dec x i (encF k Y ++ more) = (x + Y * 2 ^ (7 * i), (i : Int) + (encF k Y).length, 0)
  | 0, Y, x, i, more, hi, h0, h1, hp => by
    have h9 : i = 9 := by omega
    subst h9
    have hY : Y = 1 := by
      have : Y < 2 := by simpa using h1
      have := hp (by omega)
      omega
    subst hY
    simp [encF, dec]
  | k + 1, Y, x, i, more, hi, h0, h1, hp => by
    unfold encF
    by_cases hlt : Y < 128
    · rw [if_pos hlt]
      show dec x i (Y :: more) = _
      unfold dec
      rw [if_neg (by omega), if_neg (by omega), if_neg (by omega), Int.emod_eq_of_lt h0 hlt]
      simp
    · rw [if_neg hlt]
      show dec x i ((Y % 128 + 128) :: (encF k (Y / 128) ++ more)) = _
      unfold dec
      rw [if_neg (by omega), if_pos (by omega), enc_dec k (Y / 128) _ (i + 1) more (by omega) (by omega) ?_ (fun _ => by omega)]
      · have e : x + (Y % 128 + 128) % 128 * 2 ^ (7 * i) + Y / 128 * 2 ^ (7 * (i + 1)) = x + Y * 2 ^ (7 * i) := by
          rw [pow_split, show (Y % 128 + 128) % 128 = Y % 128 by omega, ← Int.mul_assoc, Int.add_assoc, ← Int.add_mul]
          congr 2
          omega
        rw [e, List.length_cons]
        simp only [Prod.mk.injEq, true_and, and_true]
        omega
      · have e : (2 : Int) ^ (64 - 7 * i) = 128 * 2 ^ (64 - 7 * (i + 1)) := by
          rw [show 64 - 7 * i = (64 - 7 * (i + 1)) + 7 by omega, Int.pow_add, Int.mul_comm]; rfl
        rw [e] at h1
        omega
theorem enc_dec0 {Y : Int} (h0 : 0 ≤ Y) (h1 : Y ≤ 18446744073709551615) (more : List Int) : dec 0 0 (enc Y ++ more) = (Y, ((enc Y).length : Int), 0) := by
  have := enc_dec 9 Y 0 0 more (by omega) h0 (by show Y < 2 ^ 64; omega) (by omega)
  rw [show encF 9 Y = enc Y from rfl] at this
  rw [this]
  simp

/-- a first part of a number's digits is too short -/
theorem enc_short : ∀ (k : Nat) (Y x : Int) (i j : Nat), i + k = 9 → 0 ≤ Y → j < (encF k Y).length → dec x i ((encF k Y).take j) = (0, 0, 4)
  | _, _, _, _, 0, _, _, _ => by simp [dec]
  | 0, Y, x, i, j + 1, _, _, hj => by simp [encF] at hj
  | k + 1, Y, x, i, j + 1, hi, h0, hj => by
    unfold encF at hj ⊢
    by_cases hlt : Y < 128
    · rw [if_pos hlt] at hj; simp at hj
    · rw [if_neg hlt] at hj ⊢
      show dec x i ((Y % 128 + 128) :: (encF k (Y / 128)).take j) = _
      unfold dec
      rw [if_neg (by omega), if_pos (by omega)]
      exact enc_short k (Y / 128) _ (i + 1) j (by omega) (by omega) (by simpa using hj)
theorem enc_short0 {Y : Int} (h0 : 0 ≤ Y) {j : Nat} (hj : j < (enc Y).length) : dec 0 0 ((enc Y).take j) = (0, 0, 4) := enc_short 9 Y 0 0 j (by omega) h0 hj

/-- the number that a signed number is written as -/
def zag (x : Int) : Int := if 0 ≤ x then 2 * x else -2 * x - 1
theorem zag_range {x : Int} (h : -9223372036854775808 ≤ x ∧ x ≤ 9223372036854775807) : 0 ≤ zag x ∧ zag x ≤ 18446744073709551615 := by unfold zag; split <;> omega
theorem zig_zag (x : Int) : zig (zag x) = x := by
  unfold zig zag
  by_cases h : 0 ≤ x
  · rw [if_pos h, if_pos (by omega)]; omega
  · rw [if_neg h, if_neg (by omega)]; omega

theorem xor_zero64 (a : Int) : Go.bits .xor .i64 a 0 = IntKind.i64.wrap a := by
  show IntKind.i64.wrap ((BitVec.ofInt 64 a ^^^ BitVec.ofInt 64 0).toNat : Int) = _
  rw [show BitVec.ofInt 64 0 = 0#64 by decide, BitVec.xor_zero, BitVec.toNat_ofInt, IntKind.wrap_i64, IntKind.wrap_i64]
  omega
theorem xor_ones64 (a : Int) : Go.bits .xor .i64 a (-1) = IntKind.i64.wrap (-a - 1) := by
  show IntKind.i64.wrap ((BitVec.ofInt 64 a ^^^ BitVec.ofInt 64 (-1)).toNat : Int) = _
  rw [show BitVec.ofInt 64 (-1) = BitVec.allOnes 64 by decide, BitVec.xor_allOnes, BitVec.toNat_not, BitVec.toNat_ofInt, IntKind.wrap_i64, IntKind.wrap_i64]
  omega
theorem zag_of {x : Int} (h : -9223372036854775808 ≤ x ∧ x ≤ 9223372036854775807) : IntKind.u64.wrap (Go.bits .xor .i64 (RowKit.wrap64 (x * 2)) (x / 9223372036854775808)) = zag x := by
  unfold zag
  by_cases h0 : 0 ≤ x
  · rw [if_pos h0, show x / 9223372036854775808 = 0 by omega, xor_zero64, IntKind.wrap_u64, IntKind.wrap_i64]
    unfold RowKit.wrap64
    omega
  · rw [if_neg h0, show x / 9223372036854775808 = -1 by omega, xor_ones64, IntKind.wrap_u64, IntKind.wrap_i64]
    unfold RowKit.wrap64
    omega

theorem num_enc {Y most : Int} (h0 : 0 ≤ Y) (h1 : Y ≤ most) (h2 : most ≤ 18446744073709551615) (more : List Int) : num most (enc Y ++ more) = (Y, ((enc Y).length : Int), 0) := by
  unfold num
  rw [enc_dec0 h0 (by omega)]
  simp only
  rw [if_pos trivial, if_neg (by omega)]
end Go.Proofs.YtfiebjfdlplpjaaGreatDoor
end
