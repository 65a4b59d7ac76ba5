/- Several texts, each a section: DMath, DFrame, DObj, DName, DFind, DStep. -/
import Derived.Test.YtbobakfcmkaijaaGreatDoorM01
import Derived.Maps.OwnSet
import Derived.Sort.KeysCollected
import Derived.Test.YtbobakfcmkaijaaGreatDoorM02
import Derived.Lib.Builder
section
/- A disk as plain mathematics: its files, rising by name; what each call answers and makes of it. No program is named here. -/
namespace Go.Proofs.YtbobakfcmkaijaaGreatDoor
set_option linter.unusedVariables false

abbrev Nm := List UInt8

/-- a file: its name, its bytes, how many of them are synced -/
structure Fl where
  nm : Nm
  bs : List Int
  sy : Nat

/-- a disk: fuse -1 is none -/
structure Dsk where
  room : Nat
  files : List Fl
  off : Bool
  fuse : Int
  steps : Nat

def okN (l : Nm) : Bool := decide (1 ≤ l.length) && (decide (l.length ≤ 24) && l.all (fun b => decide (33 ≤ b.toNat) && decide (b.toNat ≤ 126)))
def used (fs : List Fl) : Nat := (fs.map (fun f => f.bs.length)).sum
def find (fs : List Fl) (l : Nm) : Option Fl := fs.find? (fun f => f.nm == l)
def ins (f : Fl) : List Fl → List Fl
  | [] => [f]
  | g :: r => if f.nm < g.nm then f :: g :: r else g :: ins f r
def del (l : Nm) (fs : List Fl) : List Fl := fs.filter (fun f => !(f.nm == l))
def upd (l : Nm) (g : Fl → Fl) (fs : List Fl) : List Fl := fs.map (fun f => if f.nm = l then g f else f)

def tick (D : Dsk) : Dsk := { D with fuse := if D.fuse = -1 then -1 else D.fuse - 1, steps := D.steps + 1 }
def fall (D : Dsk) : Dsk := { D with off := true }
/-- one step, that makes t of the files -/
def dStep (D : Dsk) (t : List Fl → List Fl) : Int × Dsk :=
  if D.fuse = 0 then (10, fall D) else (0, { tick D with files := t D.files })
def ask (D : Dsk) (l : List Nm) : Int := if D.off then 10 else if l.all okN then 0 else 2
def dNew (room : Nat) : Dsk := ⟨room, [], false, -1, 0⟩
def dMake (D : Dsk) (l : Nm) : Int × Dsk :=
  if ask D [l] ≠ 0 then (ask D [l], D) else if (find D.files l).isSome then (7, D) else dStep D (ins ⟨l, [], 0⟩)
def put1 (l : Nm) (p : List Int) : List Fl → List Fl := upd l (fun f => { f with bs := f.bs ++ p })
def puts (l : Nm) : Dsk → List (List Int) → Int × Dsk
  | D, [] => (0, D)
  | D, p :: ps => if D.fuse = 0 then (10, fall D) else puts l { tick D with files := put1 l p D.files } ps
def part (b : List Int) (k : Nat) : List Int := (b.drop (64 * k)).take 64
def nparts (b : List Int) : Nat := (b.length + 63) / 64
def parts (b : List Int) : List (List Int) := (List.range (nparts b)).map (part b)
def left (D : Dsk) : Int := (D.room : Int) - (used D.files : Int)
def dAppend (D : Dsk) (l : Nm) (b : List Int) : Int × Dsk :=
  if ask D [l] ≠ 0 then (ask D [l], D) else if (find D.files l).isNone then (6, D) else if left D < b.length then (8, D) else puts l D (parts b)
def dSync (D : Dsk) (l : Nm) : Int × Dsk :=
  if ask D [l] ≠ 0 then (ask D [l], D) else if (find D.files l).isNone then (6, D) else dStep D (upd l (fun f => { f with sy := f.bs.length }))
def mv (f : Fl) (l m : Nm) (fs : List Fl) : List Fl := ins { f with nm := m } (del m (del l fs))
def dRename (D : Dsk) (l m : Nm) : Int × Dsk :=
  if ask D [l, m] ≠ 0 then (ask D [l, m], D) else match find D.files l with
  | none => (6, D)
  | some f => if l = m then (0, D) else dStep D (mv f l m)
def dRemove (D : Dsk) (l : Nm) : Int × Dsk :=
  if ask D [l] ≠ 0 then (ask D [l], D) else if (find D.files l).isNone then (6, D) else dStep D (del l)
def dRead (D : Dsk) (l : Nm) : List Int × Int :=
  if ask D [l] ≠ 0 then ([], ask D [l]) else match find D.files l with | none => ([], 6) | some f => (f.bs, 0)
def dSynced (D : Dsk) (l : Nm) : Nat × Int :=
  if ask D [l] ≠ 0 then (0, ask D [l]) else match find D.files l with | none => (0, 6) | some f => (f.sy, 0)
def names (D : Dsk) : List Nm := D.files.map (·.nm)
def dNames (D : Dsk) : List Nm := if D.off then [] else names D
def dLeft (D : Dsk) : Int := if D.off then 0 else left D
def dFuse (D : Dsk) (n : Int) : Int × Dsk := if D.off then (10, D) else if n < 0 then (2, D) else (0, { D with fuse := n })
def dFree (D : Dsk) : Dsk := { D with fuse := -1 }
def keptOf (f : Fl) (k : Int) : Nat := f.sy + (min k ((f.bs.length : Int) - f.sy)).toNat
def cutTo (f : Fl) (k : Int) : Fl := { f with bs := f.bs.take (keptOf f k), sy := keptOf f k }
def crsN (n : Nat) (fs : List Fl) (ks : List Int) : List Fl := fs.mapIdx (fun j f => if j < n then cutTo f (ks.getD j 0) else f)
def crs (fs : List Fl) (ks : List Int) : List Fl := fs.mapIdx (fun j f => cutTo f (ks.getD j 0))
def dCrash (D : Dsk) (keep : List Int) : Int × Dsk :=
  if keep.any (fun k => decide (k < 0)) then (2, D) else (0, { D with files := crs D.files keep, off := false, fuse := -1 })
def dTurn (xr : Int → Int) (D : Dsk) (l : Nm) (at_ : Int) : Int × Dsk :=
  if okN l = false then (2, D) else match find D.files l with
  | none => (6, D)
  | some f => if at_ < 0 ∨ (f.bs.length : Int) ≤ at_ then (6, D) else (0, { D with files := upd l (fun f => { f with bs := f.bs.modify at_.toNat xr }) D.files })

/-! ## what holds of a disk -/
def Srt (fs : List Fl) : Prop := fs.Pairwise (fun a b => a.nm < b.nm)
structure Okd (D : Dsk) : Prop where
  srt : Srt D.files
  nms : ∀ f ∈ D.files, okN f.nm = true
  sy : ∀ f ∈ D.files, f.sy ≤ f.bs.length
  fits : used D.files ≤ D.room
  room : D.room ≤ 1073741824
  fuse0 : -1 ≤ D.fuse
  fuse1 : D.fuse ≤ 9223372036854775807

theorem nm_lt_ne {a b : Nm} (h : a < b) : a ≠ b := by
  rintro rfl
  exact List.lt_irrefl a h

theorem find_some {fs : List Fl} {l : Nm} {f : Fl} (h : find fs l = some f) : f ∈ fs ∧ f.nm = l := by
  unfold find at h
  exact ⟨List.mem_of_find?_eq_some h, by simpa using List.find?_some h⟩
theorem find_none {fs : List Fl} {l : Nm} (h : find fs l = none) : ∀ f ∈ fs, f.nm ≠ l := by
  intro f hf e
  have := List.find?_eq_none.1 h f hf
  simp [e] at this
theorem find_mem {fs : List Fl} (hs : Srt fs) {f : Fl} (hf : f ∈ fs) : find fs f.nm = some f := by
  induction fs with
  | nil => cases hf
  | cons g r ih =>
    obtain ⟨h1, h2⟩ := List.pairwise_cons.1 hs
    unfold find
    rw [List.find?_cons]
    rcases List.mem_cons.1 hf with rfl | hr
    · simp
    · have hne := nm_lt_ne (h1 f hr)
      rw [show (g.nm == f.nm) = false by simpa using hne]
      exact ih h2 hr
theorem find_ins {fs : List Fl} {f : Fl} (hn : find fs f.nm = none) (l : Nm) : find (ins f fs) l = if f.nm = l then some f else find fs l := by
  induction fs with
  | nil => by_cases h : f.nm = l <;> simp [find, ins, h]
  | cons g r ih =>
    have hg : g.nm ≠ f.nm := find_none hn g (by simp)
    have hr : find r f.nm = none := by
      unfold find at hn ⊢
      rw [List.find?_cons] at hn
      rwa [show (g.nm == f.nm) = false by simpa using hg] at hn
    unfold ins
    split
    · by_cases h : f.nm = l <;> simp [find, List.find?_cons, h]
    · by_cases h : f.nm = l
      · have h' : g.nm ≠ l := by rw [← h]; exact hg
        have := ih hr
        rw [if_pos h] at this ⊢
        unfold find at this ⊢
        rw [List.find?_cons, show (g.nm == l) = false by simpa using h']
        exact this
      · have := ih hr
        rw [if_neg h] at this ⊢
        unfold find at this ⊢
        rw [List.find?_cons, List.find?_cons, this]
theorem find_del (fs : List Fl) (m l : Nm) : find (del m fs) l = if m = l then none else find fs l := by
  induction fs with
  | nil => simp [find, del]
  | cons g r ih =>
    unfold find del at ih ⊢
    by_cases h : m = l
    · rw [if_pos h] at ih ⊢
      subst h
      by_cases hg : g.nm = m <;> simp [hg] at ih ⊢ <;> assumption
    · rw [if_neg h] at ih ⊢
      by_cases hg : g.nm = m
      · have : g.nm ≠ l := by rw [hg]; exact h
        simp [hg, h] at ih ⊢
        exact ih
      · by_cases hl : g.nm = l
        · simp [hl, Ne.symm h]
        · simp [hg, hl] at ih ⊢
          exact ih
theorem find_upd (fs : List Fl) (m l : Nm) (g : Fl → Fl) (hg : ∀ f, (g f).nm = f.nm) : find (upd m g fs) l = (find fs l).map (fun f => if l = m then g f else f) := by
  induction fs with
  | nil => simp [find, upd]
  | cons a r ih =>
    unfold find upd at ih ⊢
    rw [List.map_cons, List.find?_cons, List.find?_cons]
    have ha : (if a.nm = m then g a else a).nm = a.nm := by split <;> simp [hg]
    rw [ha]
    by_cases h : a.nm = l
    · simp [h]
    · rw [show (a.nm == l) = false by simpa using h]
      exact ih
theorem used_cons (f : Fl) (fs : List Fl) : used (f :: fs) = f.bs.length + used fs := by simp [used]
theorem used_ins (f : Fl) (fs : List Fl) : used (ins f fs) = f.bs.length + used fs := by
  induction fs with
  | nil => simp [ins, used]
  | cons g r ih =>
    unfold ins
    split
    · simp [used]
    · rw [used_cons, used_cons, ih]
      omega
theorem used_del {fs : List Fl} (hs : Srt fs) {l : Nm} {f : Fl} (h : find fs l = some f) : used (del l fs) + f.bs.length = used fs := by
  induction fs with
  | nil => simp [find] at h
  | cons g r ih =>
    obtain ⟨h1, h2⟩ := List.pairwise_cons.1 hs
    unfold find at h
    rw [List.find?_cons] at h
    by_cases hg : g.nm = l
    · rw [show (g.nm == l) = true by simpa using hg] at h
      obtain rfl := Option.some.inj h
      have : del l (g :: r) = r := by
        unfold del
        rw [List.filter_cons_of_neg (by simpa using hg)]
        refine List.filter_eq_self.2 fun a ha => ?_
        have := nm_lt_ne (h1 a ha)
        rw [hg] at this
        simpa using this.symm
      rw [this, used_cons]
      omega
    · rw [show (g.nm == l) = false by simpa using hg] at h
      have := ih h2 h
      have e : del l (g :: r) = g :: del l r := by
        unfold del
        rw [List.filter_cons_of_pos (by simpa using hg)]
      rw [e, used_cons, used_cons]
      omega
theorem del_none {fs : List Fl} {l : Nm} (h : find fs l = none) : del l fs = fs := by
  refine List.filter_eq_self.2 fun a ha => ?_
  simpa using find_none h a ha
theorem mem_ins {f a : Fl} {fs : List Fl} : a ∈ ins f fs ↔ a = f ∨ a ∈ fs := by
  induction fs with
  | nil => simp [ins]
  | cons g r ih =>
    unfold ins
    split
    · simp
    · rw [List.mem_cons, ih, List.mem_cons]
      constructor <;> (rintro (h | h | h) <;> simp [h])
theorem srt_ins {f : Fl} {fs : List Fl} (hs : Srt fs) (hn : find fs f.nm = none) : Srt (ins f fs) := by
  induction fs with
  | nil => exact List.pairwise_singleton _ _
  | cons g r ih =>
    obtain ⟨h1, h2⟩ := List.pairwise_cons.1 hs
    have hg : g.nm ≠ f.nm := find_none hn g (by simp)
    have hr : find r f.nm = none := by
      unfold find at hn ⊢
      rw [List.find?_cons] at hn
      rwa [show (g.nm == f.nm) = false by simpa using hg] at hn
    unfold ins
    split
    · rename_i hlt
      refine List.pairwise_cons.2 ⟨fun a ha => ?_, hs⟩
      rcases List.mem_cons.1 ha with rfl | ha
      · exact hlt
      · exact List.lt_trans hlt (h1 a ha)
    · rename_i hlt
      refine List.pairwise_cons.2 ⟨fun a ha => ?_, ih h2 hr⟩
      rcases mem_ins.1 ha with rfl | ha
      · refine Decidable.byContradiction fun h => hg ?_
        exact List.le_antisymm (List.not_lt.1 hlt) (List.not_lt.1 h)
      · exact h1 a ha
theorem srt_del {fs : List Fl} (hs : Srt fs) (l : Nm) : Srt (del l fs) := List.Pairwise.filter _ hs
theorem upd_nm (fs : List Fl) (m : Nm) (g : Fl → Fl) (hg : ∀ f, (g f).nm = f.nm) : (upd m g fs).map (·.nm) = fs.map (·.nm) := by
  unfold upd
  rw [List.map_map]
  refine List.map_congr_left fun a _ => ?_
  show (if a.nm = m then g a else a).nm = a.nm
  split <;> simp [hg]
theorem srt_iff (fs : List Fl) : Srt fs ↔ (fs.map (·.nm)).Pairwise (fun a b => a < b) := by
  unfold Srt
  rw [List.pairwise_map]
theorem srt_upd {fs : List Fl} (hs : Srt fs) (m : Nm) (g : Fl → Fl) (hg : ∀ f, (g f).nm = f.nm) : Srt (upd m g fs) := by
  rw [srt_iff, upd_nm fs m g hg, ← srt_iff]
  exact hs
theorem upd_none {fs : List Fl} {l : Nm} (h : find fs l = none) (g : Fl → Fl) : upd l g fs = fs := by
  unfold upd
  conv => rhs; rw [← List.map_id fs]
  refine List.map_congr_left fun a ha => ?_
  rw [if_neg (find_none h a ha)]
  rfl
theorem used_put1 {fs : List Fl} (hs : Srt fs) {l : Nm} {f : Fl} (h : find fs l = some f) (p : List Int) : used (put1 l p fs) = used fs + p.length := by
  induction fs with
  | nil => simp [find] at h
  | cons g r ih =>
    obtain ⟨h1, h2⟩ := List.pairwise_cons.1 hs
    unfold find at h
    rw [List.find?_cons] at h
    by_cases hg : g.nm = l
    · have hr : find r l = none := by
        refine List.find?_eq_none.2 fun a ha => ?_
        have := nm_lt_ne (h1 a ha)
        rw [hg] at this
        simpa using this.symm
      have e : put1 l p (g :: r) = { g with bs := g.bs ++ p } :: r := by
        have := upd_none hr (fun f => { f with bs := f.bs ++ p })
        unfold put1 upd at this ⊢
        rw [List.map_cons, if_pos hg, this]
      rw [e, used_cons, used_cons]
      simp
      omega
    · rw [show (g.nm == l) = false by simpa using hg] at h
      have := ih h2 h
      have e : put1 l p (g :: r) = g :: put1 l p r := by
        unfold put1 upd
        rw [List.map_cons, if_neg hg]
      rw [e, used_cons, used_cons, this]
      omega
theorem used_upd (fs : List Fl) (m : Nm) (g : Fl → Fl) (hg : ∀ f ∈ fs, (g f).bs.length = f.bs.length) : used (upd m g fs) = used fs := by
  unfold used upd
  rw [List.map_map]
  congr 1
  refine List.map_congr_left fun a ha => ?_
  show (if a.nm = m then g a else a).bs.length = a.bs.length
  split <;> simp [hg a ha]

theorem crsN_zero (fs : List Fl) (ks : List Int) : crsN 0 fs ks = fs := by
  apply List.ext_getElem
  · simp [crsN]
  · intro i h1 h2
    simp [crsN]
theorem crsN_all (fs : List Fl) (ks : List Int) : crsN fs.length fs ks = crs fs ks := by
  apply List.ext_getElem
  · simp [crsN, crs]
  · intro i h1 h2
    simp only [crsN, crs, List.getElem_mapIdx]
    rw [if_pos (by simpa [crsN] using h1)]
theorem crsN_length (n : Nat) (fs : List Fl) (ks : List Int) : (crsN n fs ks).length = fs.length := by simp [crsN]
theorem crsN_nm (n : Nat) (fs : List Fl) (ks : List Int) : (crsN n fs ks).map (·.nm) = fs.map (·.nm) := by
  apply List.ext_getElem
  · simp [crsN]
  · intro i h1 h2
    simp only [crsN, List.getElem_map, List.getElem_mapIdx]
    split <;> rfl
theorem crsN_srt {n : Nat} {fs : List Fl} {ks : List Int} (h : Srt fs) : Srt (crsN n fs ks) := by
  rw [srt_iff, crsN_nm, ← srt_iff]
  exact h
theorem srt_get {fs : List Fl} (h : Srt fs) {i j : Nat} (hi : i < fs.length) (hj : j < fs.length) (e : fs[i].nm = fs[j].nm) : i = j := by
  have h' := (srt_iff fs).1 h
  rcases Nat.lt_trichotomy i j with hl | hl | hl
  · have := List.pairwise_iff_getElem.1 h' i j (by simpa using hi) (by simpa using hj) hl
    simp only [List.getElem_map] at this
    exact absurd e (nm_lt_ne this)
  · exact hl
  · have := List.pairwise_iff_getElem.1 h' j i (by simpa using hj) (by simpa using hi) hl
    simp only [List.getElem_map] at this
    exact absurd e.symm (nm_lt_ne this)
theorem crsN_step {n : Nat} {fs : List Fl} (ks : List Int) (h : Srt fs) (hn : n < fs.length) : upd fs[n].nm (fun f => cutTo f (ks.getD n 0)) (crsN n fs ks) = crsN (n + 1) fs ks := by
  apply List.ext_getElem
  · simp [crsN, upd]
  · intro i h1 h2
    have hi : i < fs.length := by simpa [crsN] using h2
    simp only [upd, crsN, List.getElem_map, List.getElem_mapIdx]
    by_cases e : i = n
    · subst e
      rw [if_neg (Nat.lt_irrefl i), if_pos rfl, if_pos (by omega)]
    · have hne : (if i < n then cutTo fs[i] (ks.getD i 0) else fs[i]).nm ≠ fs[n].nm := by
        have : (if i < n then cutTo fs[i] (ks.getD i 0) else fs[i]).nm = fs[i].nm := by split <;> rfl
        rw [this]
        exact fun e' => e (srt_get h hi hn e')
      rw [if_neg hne]
      by_cases hlt : i < n
      · rw [if_pos hlt, if_pos (by omega)]
      · rw [if_neg hlt, if_neg (by omega)]
theorem crsN_find {n : Nat} {fs : List Fl} (ks : List Int) (h : Srt fs) (hn : n < fs.length) : find (crsN n fs ks) fs[n].nm = some fs[n] := by
  refine find_mem (crsN_srt h) ?_
  refine List.mem_iff_getElem.2 ⟨n, by rw [crsN_length]; exact hn, ?_⟩
  simp [crsN]
theorem crsN_used (n : Nat) (fs : List Fl) (ks : List Int) : used (crsN n fs ks) ≤ used fs := by
  induction fs generalizing n ks with
  | nil => simp [crsN, used]
  | cons f r ih =>
    have e : crsN n (f :: r) ks = (if 0 < n then cutTo f (ks.getD 0 0) else f) :: crsN (n - 1) r ks.tail := by
      unfold crsN
      rw [List.mapIdx_cons]
      congr 1
      refine List.mapIdx_eq_mapIdx_iff.2 fun i hi => ?_
      have e2 : ks.getD (i + 1) 0 = ks.tail.getD i 0 := by cases ks <;> simp
      rw [e2]
      by_cases hlt : i + 1 < n
      · rw [if_pos hlt, if_pos (by omega)]
      · rw [if_neg hlt, if_neg (by omega)]
    rw [e, used_cons, used_cons]
    have := ih (n - 1) ks.tail
    have h2 : (if 0 < n then cutTo f (ks.getD 0 0) else f).bs.length ≤ f.bs.length := by
      split
      · simp only [cutTo, List.length_take]
        omega
      · exact Nat.le_refl _
    omega
theorem crsN_sy {n : Nat} {fs : List Fl} {ks : List Int} (h : ∀ f ∈ fs, f.sy ≤ f.bs.length) : ∀ f ∈ crsN n fs ks, f.sy ≤ f.bs.length := by
  intro f hf
  obtain ⟨i, hi, rfl⟩ := List.mem_iff_getElem.1 hf
  have hi' : i < fs.length := by simpa [crsN] using hi
  have := h _ (List.getElem_mem hi')
  simp only [crsN, List.getElem_mapIdx]
  split
  · simp only [cutTo, List.length_take]
    have h2 : keptOf fs[i] (ks.getD i 0) ≤ fs[i].bs.length := by
      unfold keptOf
      omega
    omega
  · exact this
theorem crsN_okn {n : Nat} {fs : List Fl} {ks : List Int} (h : ∀ f ∈ fs, okN f.nm = true) : ∀ f ∈ crsN n fs ks, okN f.nm = true := by
  intro f hf
  obtain ⟨i, hi, rfl⟩ := List.mem_iff_getElem.1 hf
  have hi' : i < fs.length := by simpa [crsN] using hi
  have := h _ (List.getElem_mem hi')
  simp only [crsN, List.getElem_mapIdx]
  split
  · exact this
  · exact this
theorem okd_crsN {D : Dsk} (h : Okd D) (n : Nat) (ks : List Int) : Okd { D with files := crsN n D.files ks } :=
  ⟨crsN_srt h.srt, crsN_okn h.nms, crsN_sy h.sy, Nat.le_trans (crsN_used _ _ _) h.fits, h.room, h.fuse0, h.fuse1⟩
end Go.Proofs.YtbobakfcmkaijaaGreatDoor
end

section
/- What a call leaves as it was: all but the blocks S, and but for what is new. No program is named here. -/
namespace Go.Proofs.YtbobakfcmkaijaaGreatDoor
open Go.RowKit
set_option linter.unusedVariables false

theorem bDrewN {B : Nat} {a w : World} (h : Below B a w) (n : Nat) : Below B a (w.drewN n) := ⟨h.os, h.tape, h.output, h.size, h.block⟩
structure Outs (S : Nat → Prop) (w w' : World) : Prop where
  os : w'.os = w.os
  tape : w'.tape = w.tape
  output : w'.output = w.output
  size : w.heap.size ≤ w'.heap.size
  block : ∀ k, k < w.heap.size → ¬ S k → w'.heap[k]? = w.heap[k]?

section
variable {S S' : Nat → Prop} {w w' a b c : World}
theorem Outs.refl (S : Nat → Prop) (w : World) : Outs S w w := ⟨rfl, rfl, rfl, Nat.le_refl _, fun _ _ _ => rfl⟩
theorem Outs.trans (h : Outs S a b) (k : Outs S' b c) (hs : ∀ i, S' i → S i ∨ a.heap.size ≤ i) : Outs S a c :=
  ⟨k.os.trans h.os, k.tape.trans h.tape, k.output.trans h.output, Nat.le_trans h.size k.size, fun i hi hn => (k.block i (Nat.lt_of_lt_of_le hi h.size) (fun e => by rcases hs i e with e | e; exact hn e; omega)).trans (h.block i hi hn)⟩
theorem Outs.same (h : Outs S a b) (k : Outs S b c) : Outs S a c := h.trans k fun _ hi => .inl hi
theorem Outs.drewN (h : Outs S a b) (n : Nat) : Outs S a (b.drewN n) := ⟨h.os, h.tape, h.output, h.size, h.block⟩
theorem Outs.drew (h : Outs S a b) : Outs S a b.drew := ⟨h.os, h.tape, h.output, h.size, h.block⟩
theorem Outs.alloc (h : Outs S a b) (o : Obj) : Outs S a (b.alloc o) :=
  ⟨h.os, h.tape, h.output, by have := h.size; simp; omega, fun k hk hn => (Below.heap_alloc b o k (Nat.lt_of_lt_of_le hk h.size)).trans (h.block k hk hn)⟩
theorem Outs.setCell (h : Outs S a b) {p : Addr} (hp : S p.block ∨ a.heap.size ≤ p.block) (u : Value) : Outs S a (b.setCell p u) :=
  ⟨h.os, h.tape, h.output, by have := h.size; simp [World.setCell]; exact this, fun k hk hn => (Below.heap_setCell b p u k (fun e => by rcases hp with hp | hp; exact hn (e ▸ hp); omega)).trans (h.block k hk hn)⟩
theorem Outs.grown (h : Outs S a b) {row : Option Nat} (hg : b.grownBy c row) (hr : ∀ k, row = some k → S k ∨ a.heap.size ≤ k) : Outs S a c :=
  ⟨hg.os.trans h.os, hg.tape.trans h.tape, hg.output.trans h.output, Nat.le_trans h.size hg.size, fun k hk hn => (hg.block k (Nat.lt_of_lt_of_le hk h.size) (fun e => by rcases hr k e.symm with e | e; exact hn e; omega)).trans (h.block k hk hn)⟩
theorem Outs.then (h : Outs S a b) {B : Nat} (hb : Below B b c) (hB : a.heap.size ≤ B) : Outs S a c :=
  ⟨hb.os.trans h.os, hb.tape.trans h.tape, hb.output.trans h.output, Nat.le_trans h.size hb.size, fun k hk hn => (hb.block k (by omega)).trans (h.block k hk hn)⟩
theorem Outs.of (hb : Below w.heap.size w w') : Outs S w w' := (Outs.refl S w).then hb (Nat.le_refl _)
theorem Outs.below (h : Outs S w w') {B : Nat} (hS : ∀ k, S k → B ≤ k) (hB : B ≤ w.heap.size) : Below B w w' :=
  ⟨h.os, h.tape, h.output, h.size, fun k hk => h.block k (by omega) (fun e => by have := hS k e; omega)⟩
theorem Outs.mono (h : Outs S w w') (hs : ∀ k, S k → S' k) : Outs S' w w' := ⟨h.os, h.tape, h.output, h.size, fun k hk hn => h.block k hk (fun e => hn (hs k e))⟩
theorem Outs.cell (h : Outs S w w') {p : Addr} (hp : p.block < w.heap.size) (hn : ¬ S p.block) : w'.cell? p = w.cell? p := World.cell?_of_block (h.block _ hp hn)
theorem Whole.outs {g : Nat} {t : TypeId} {cs : Array Value} (hw : Whole w g t cs) (h : Outs S w w') (hn : ¬ S g) : Whole w' g t cs := (h.block g hw.lt hn).trans hw
theorem turned_outs {H : Type} {b : Nat} (h : w.mapTurned w' b) (hS : S b) : Outs S w w' := by
  have := h.grown
  exact (Outs.refl S w).grown this (fun k hk => by cases hk; exact .inl hS)
end

/-- what a call makes of the places -/
structure Turn (S S' : Nat → Prop) (w w' : World) : Prop where
  outs : Outs S w w'
  new : ∀ k, S' k → S k ∨ w.heap.size ≤ k

section
variable {S S' S2 : Nat → Prop} {w w' : World}
theorem Turn.refl (S : Nat → Prop) (w : World) : Turn S S w w := ⟨Outs.refl S w, fun _ h => .inl h⟩
theorem Turn.trans {a b c : World} (h : Turn S S' a b) (k : Turn S' S2 b c) : Turn S S2 a c :=
  ⟨h.outs.trans k.outs h.new, fun i hi => by
    rcases k.new i hi with e | e
    · exact h.new i e
    · exact .inr (Nat.le_trans h.outs.size e)⟩
theorem Turn.below {w w' : World} (h : Below w.heap.size w w') : Turn S S w w' := ⟨Outs.of h, fun k hk => .inl hk⟩
end

/-- two blocks of other types, or of other cells, are two -/
theorem Whole.ne {w : World} {g k : Nat} {t u : TypeId} {cs ds : Array Value} (h : Whole w g t cs) (h' : Whole w k u ds) (hne : t ≠ u) : g ≠ k := by
  rintro rfl
  unfold Whole at h h'
  rw [h] at h'
  injection h' with h'
  injection h' with _ h'
  exact hne h'
theorem Whole.ne_map {H : Type} {P : Program} {w : World} {g : Nat} {t : TypeId} {cs : Array Value} (h : Whole w g t cs) {k : TypeId} {R : Value → Option (DataW H × List MemPlace)} {b n : Nat} {D : DataW H} (h' : w.ownsMap P k R b n D) : g ≠ b := by
  rintro rfl
  obtain ⟨es, cl, h', _⟩ := h'
  unfold Whole at h
  rw [h] at h'
  cases h'
/-- a row's block holds cells of its type -/
theorem ownRow_block {w : World} {B : Nat} {e : TypeId} {size : Nat} {v : Value} {n : Nat} {xs : List Value} (h : w.ownsRow B e size v n xs) {g : Nat} (hg : v.ownBlock = some g) : B ≤ g ∧ g < w.heap.size ∧ ∃ cs, w.heap[g]? = some (.cells cs e (0, 0)) := by
  rcases h.2 with ⟨rfl, _⟩ | ⟨g', cap, cur, rfl, hb, hh, _⟩
  · cases hg
  · obtain rfl : g' = g := by simpa [Value.ownBlock] using hg
    exact ⟨hb, (Array.getElem?_eq_some_iff.1 hh).1, _, hh⟩
theorem ownRow_ne {w : World} {B : Nat} {e : TypeId} {size : Nat} {v : Value} {n : Nat} {xs : List Value} (h : w.ownsRow B e size v n xs) {g k : Nat} (hg : v.ownBlock = some g) {t : TypeId} {cs : Array Value} (h' : Whole w k t cs) (hne : e ≠ t) : g ≠ k := by
  obtain ⟨_, _, ds, hh⟩ := ownRow_block h hg
  exact Whole.ne (cs := ds) hh h' hne
theorem ownRow_ne_map {H : Type} {P : Program} {w : World} {B : Nat} {e : TypeId} {size : Nat} {v : Value} {n : Nat} {xs : List Value} (h : w.ownsRow B e size v n xs) {g : Nat} (hg : v.ownBlock = some g) {k : TypeId} {R : Value → Option (DataW H × List MemPlace)} {b m : Nat} {D : DataW H} (h' : w.ownsMap P k R b m D) : g ≠ b := by
  obtain ⟨_, _, ds, hh⟩ := ownRow_block h hg
  exact Whole.ne_map (cs := ds) hh h'
/-- a row stands where its block stands -/
theorem ownRow_block_kept {w w' : World} {B : Nat} {e : TypeId} {size : Nat} {v : Value} {n : Nat} {xs : List Value} (h : w.ownsRow B e size v n xs) (hk : ∀ g, v.ownBlock = some g → w'.heap[g]? = w.heap[g]?) : w'.ownsRow B e size v n xs := by
  rcases h.2 with ⟨rfl, hn⟩ | ⟨g, cap, cur, rfl, hb, hh, r⟩
  · exact ⟨h.1, .inl ⟨rfl, hn⟩⟩
  · exact ⟨h.1, .inr ⟨g, cap, cur, rfl, hb, (hk g (by simp [Value.ownBlock])).trans hh, r⟩⟩
theorem ownRow_base {w : World} {B B' : Nat} {e : TypeId} {size : Nat} {v : Value} {n : Nat} {xs : List Value} (h : w.ownsRow B e size v n xs) (hk : ∀ g, v.ownBlock = some g → B' ≤ g) : w.ownsRow B' e size v n xs := by
  rcases h.2 with ⟨rfl, hn⟩ | ⟨g, cap, cur, rfl, hb, hh, r⟩
  · exact ⟨h.1, .inl ⟨rfl, hn⟩⟩
  · exact ⟨h.1, .inr ⟨g, cap, cur, rfl, hk g (by simp [Value.ownBlock]), hh, r⟩⟩
theorem ownsMap_block_kept {H : Type} {P : Program} {w w' : World} {k : TypeId} {R : Value → Option (DataW H × List MemPlace)} {b n : Nat} {D : DataW H} (h : w.ownsMap P k R b n D) (hk : w'.heap[b]? = w.heap[b]?) : w'.ownsMap P k R b n D := by
  obtain ⟨es, cl, h1, r⟩ := h
  exact ⟨es, cl, hk.trans h1, r⟩
end Go.Proofs.YtbobakfcmkaijaaGreatDoor
end

section
/- A disk of the program in memory, and its calls that read. -/
namespace Go.Proofs.YtbobakfcmkaijaaGreatDoor
open Go.RowKit Go.Maps
set_option linter.unusedVariables false

/-- how a pointer to a file reads: by its block's number -/
def ptrR : Value → Option (DataW Unit × List MemPlace)
  | .pointer (some ⟨b, 0, none⟩) => some (.lit (.int .i64 b), [])
  | .pointer none => some (.nil, [])
  | _ => none
theorem ptrR_nil {v : Value} {ps : List MemPlace} (h : ptrR v = some (.nil, ps)) : v = .pointer none := by
  unfold ptrR at h
  split at h
  · cases h
  · rfl
  · cases h
theorem ptrR_at {v : Value} {b : Nat} {ps : List MemPlace} (h : ptrR v = some (.lit (.int .i64 b), ps)) : v = .pointer (some ⟨b, 0, none⟩) := by
  unfold ptrR at h
  split at h
  · rename_i b' 
    simp only [Option.some.injEq, Prod.mk.injEq, DataW.lit.injEq, Lit.int.injEq, true_and, Int.natCast_inj] at h
    rw [h.1]
  · cases h
  · cases h

def topCells (d mb : Nat) (D : Dsk) : Array Value := #[.pointer (some ⟨d, 0, none⟩), .bool D.off, .int .i64 (left D), .int .i64 D.fuse, .int .i64 D.steps, .map (some mb)]

structure DkAt (w : World) (S : Nat → Prop) (d mb nn : Nat) (M : DataW Unit) (blk : Nm → Nat) (vs : Nm → Value) (D : Dsk) : Prop where
  top : Whole w d 45 (topCells d mb D)
  map : w.ownsMap Tryz.prog 9 ptrR mb nn M
  key : ∀ l z, M.atKey (.string l) z = match find D.files l with | none => z | some _ => .lit (.int .i64 (blk l))
  fil : ∀ l f, find D.files l = some f → Whole w (blk l) 100 #[vs l, .int .i64 f.sy] ∧ w.ownsRow 0 5 1 (vs l) f.bs.length (c8 f.bs)
  inj : ∀ l l' f f', find D.files l = some f → find D.files l' = some f' → l ≠ l' → blk l ≠ blk l' ∧ ∀ g, (vs l).ownBlock = some g → (vs l').ownBlock ≠ some g
  sd : S d
  sm : S mb
  sb : ∀ l f, find D.files l = some f → S (blk l) ∧ ∀ g, (vs l).ownBlock = some g → S g
  lt : ∀ k, S k → k < w.heap.size

/-- a disk in memory; e: how many files more than steps it may bear -/
def Dk (e : Nat) (w : World) (S : Nat → Prop) (d : Nat) (D : Dsk) : Prop := ∃ mb nn M blk vs, DkAt w S d mb nn M blk vs D ∧ nn ≤ D.steps + e

section
variable {S S' S2 : Nat → Prop} {w w' : World} {d mb nn : Nat} {M : DataW Unit} {blk : Nm → Nat} {vs : Nm → Value} {D : Dsk}
theorem DkAt.outs (h : DkAt w S d mb nn M blk vs D) (ho : Outs S2 w w') (hn : ∀ k, S k → ¬ S2 k) : DkAt w' S d mb nn M blk vs D :=
  { top := h.top.outs ho (hn _ h.sd)
    map := ownsMap_block_kept h.map (ho.block _ h.map.lt (hn _ h.sm))
    key := h.key
    fil := fun l f hf => ⟨(h.fil l f hf).1.outs ho (hn _ (h.sb l f hf).1), ownRow_block_kept (h.fil l f hf).2 fun g hg => ho.block _ (ownRow_block (h.fil l f hf).2 hg).2.1 (hn _ ((h.sb l f hf).2 g hg))⟩
    inj := h.inj
    sd := h.sd
    sm := h.sm
    sb := h.sb
    lt := fun k hk => Nat.lt_of_lt_of_le (h.lt k hk) ho.size }
theorem DkAt.go (h : DkAt w S d mb nn M blk vs D) (hb : Below w.heap.size w w') : DkAt w' S d mb nn M blk vs D := h.outs (S2 := fun _ => False) (Outs.of hb) (fun _ _ h => h)
theorem Dk.outs {e : Nat} (h : Dk e w S d D) (ho : Outs S2 w w') (hn : ∀ k, S k → ¬ S2 k) : Dk e w' S d D := by
  obtain ⟨mb, nn, M, blk, vs, h, hnn⟩ := h
  exact ⟨mb, nn, M, blk, vs, h.outs ho hn, hnn⟩
theorem Dk.go {e : Nat} (h : Dk e w S d D) (hb : Below w.heap.size w w') : Dk e w' S d D := h.outs (S2 := fun _ => False) (Outs.of hb) (fun _ _ h => h)
theorem Dk.lt {e : Nat} (h : Dk e w S d D) : ∀ k, S k → k < w.heap.size := by
  obtain ⟨mb, nn, M, blk, vs, h, hnn⟩ := h
  exact h.lt
theorem Dk.sd {e : Nat} (h : Dk e w S d D) : S d := by
  obtain ⟨mb, nn, M, blk, vs, h, hnn⟩ := h
  exact h.sd
theorem Dk.more {e : Nat} (h : Dk 0 w S d D) : Dk e w S d D := by
  obtain ⟨mb, nn, M, blk, vs, h, hnn⟩ := h
  exact ⟨mb, nn, M, blk, vs, h, by omega⟩
/-- another head -/
theorem DkAt.head (h : DkAt w S d mb nn M blk vs D) (i : Nat) (u : Value) (D' : Dsk) (hf : D'.files = D.files) (hc : (topCells d mb D).setIfInBounds i u = topCells d mb D') : DkAt (w.setCell ⟨d, i, none⟩ u) S d mb nn M blk vs D' :=
  have hne : ∀ l f, find D.files l = some f → blk l ≠ d := fun l f hlf => Whole.ne (h.fil l f hlf).1 h.top (by decide)
  have hrow : ∀ l f, find D.files l = some f → ∀ g, (vs l).ownBlock = some g → g ≠ d := fun l f hlf g hg => ownRow_ne (h.fil l f hlf).2 hg h.top (by decide)
  { top := by
      have := h.top.put i u
      rwa [hc] at this
    map := h.map.setCell (Whole.ne_map h.top h.map).symm u
    key := by rw [hf]; exact h.key
    fil := fun l f hlf => by
      rw [hf] at hlf
      exact ⟨(h.fil l f hlf).1.far (p := ⟨d, i, none⟩) (hne l f hlf) u, ownRow_block_kept (h.fil l f hlf).2 fun g hg => Below.heap_setCell _ _ _ _ (hrow l f hlf g hg)⟩
    inj := by rw [hf]; exact h.inj
    sd := h.sd
    sm := h.sm
    sb := by rw [hf]; exact h.sb
    lt := fun k hk => by simpa [World.setCell] using h.lt k hk }
end

section
variable {S : Nat → Prop} {w : World} {d mb nn : Nat} {M : DataW Unit} {blk : Nm → Nat} {vs : Nm → Value} {D : Dsk}
theorem DkAt.c0 (h : DkAt w S d mb nn M blk vs D) : w.cell? ⟨d, 0, none⟩ = some (.pointer (some ⟨d, 0, none⟩)) := h.top.cell 0
theorem DkAt.c1 (h : DkAt w S d mb nn M blk vs D) : w.cell? ⟨d, 1, none⟩ = some (.bool D.off) := h.top.cell 1
theorem DkAt.c2 (h : DkAt w S d mb nn M blk vs D) : w.cell? ⟨d, 2, none⟩ = some (.int .i64 (left D)) := h.top.cell 2
theorem DkAt.c3 (h : DkAt w S d mb nn M blk vs D) : w.cell? ⟨d, 3, none⟩ = some (.int .i64 D.fuse) := h.top.cell 3
theorem DkAt.c4 (h : DkAt w S d mb nn M blk vs D) : w.cell? ⟨d, 4, none⟩ = some (.int .i64 D.steps) := h.top.cell 4
theorem DkAt.c5 (h : DkAt w S d mb nn M blk vs D) : w.cell? ⟨d, 5, none⟩ = some (.map (some mb)) := h.top.cell 5
theorem DkAt.fz (h : DkAt w S d mb nn M blk vs D) (i : Nat) : w.frozen? ⟨d, i, none⟩ = false := h.top.frozen i
end

/-! ## whose is it? -/
theorem infoDisk : (Tryz.prog.info? 45).isSome = true := by kernel_rfl
theorem neq_same (d : Nat) (w : World) : (binOp .neq 23 (.pointer (some ⟨d, 0, none⟩)) (.pointer (some ⟨d, 0, none⟩))).run Tryz.prog w = .ok (.bool false) w := by
  obtain ⟨j, hj⟩ := Option.isSome_iff_exists.1 infoDisk
  exact Go.Lib.run_neq_ptr_same (P := Tryz.prog) w _ Tryz.underlying23 hj
theorem neq_nil (d : Nat) (w : World) : (binOp .neq 23 (.pointer none) (.pointer (some ⟨d, 0, none⟩))).run Tryz.prog w = .ok (.bool true) w := by
  have h : ∀ k : Nat, (Op.equalIn (k + 1) 23 (.pointer none) (.pointer (some ⟨d, 0, none⟩))).run Tryz.prog w = .ok false w := fun k => by
    simp [Op.equalIn, run_underlying Tryz.underlying23]
  simp only [binOp]
  simp [Op.equal, Op.maxDepth, h 9999]
set_option maxRecDepth 4000 in
theorem nobodys_no (d : Nat) (w : World) (h0 : w.cell? ⟨d, 0, none⟩ = some (.pointer (some ⟨d, 0, none⟩))) :
    Calls Tryz.prog 35 #[.pointer (some ⟨d, 0, none⟩)] w fun e w' => e = .returned (.bool false) ∧ w' = w := by
  have hq := neq_same d w
  go_enter Tryz.func35, Tryz.ntmps35
  go_wp2
  go_ret
  exact ⟨by simp, rfl⟩
theorem nobodys_nil (w : World) :
    Calls Tryz.prog 35 #[.pointer none] w fun e w' => e = .returned (.bool true) ∧ w' = w := by
  go_enter Tryz.func35, Tryz.ntmps35
  go_wp2
  go_ret
  exact ⟨by simp, rfl⟩
set_option maxRecDepth 4000 in
theorem nobodys_zero (d : Nat) (w : World) (h0 : w.cell? ⟨d, 0, none⟩ = some (.pointer none)) :
    Calls Tryz.prog 35 #[.pointer (some ⟨d, 0, none⟩)] w fun e w' => e = .returned (.bool true) ∧ w' = w := by
  have hq := neq_nil d w
  go_enter Tryz.func35, Tryz.ntmps35
  go_wp2
  go_ret
  exact ⟨by simp, rfl⟩
/-- a pointer that is no disk's -/
def Nobody (w : World) (p : Option Addr) : Prop := p = none ∨ ∃ d, p = some ⟨d, 0, none⟩ ∧ w.cell? ⟨d, 0, none⟩ = some (.pointer none)
theorem nobodys_yes (p : Option Addr) (w : World) (h : Nobody w p) :
    Calls Tryz.prog 35 #[.pointer p] w fun e w' => e = .returned (.bool true) ∧ w' = w := by
  rcases h with rfl | ⟨d, rfl, h⟩
  · exact nobodys_nil w
  · exact nobodys_zero d w h

/-! ## On, Steps, Left -/
theorem on_any {e : Nat} {S : Nat → Prop} {d : Nat} {D : Dsk} (w : World) (h : Dk e w S d D) :
    Calls Tryz.prog 30 #[.pointer (some ⟨d, 0, none⟩)] w fun e w' => e = .returned (.bool (!D.off)) ∧ w' = w := by
  obtain ⟨mb, nn, M, blk, vs, h, hnn⟩ := h
  have c0 := h.c0
  have c1 := h.c1
  go_enter Tryz.func30, Tryz.ntmps30
  go_wp2_with (refine (nobodys_no d w c0).mono ?_; rintro e w' ⟨rfl, rfl⟩)
  go_ret
  exact ⟨by simp, rfl⟩
theorem on_no (p : Option Addr) (w : World) (h : Nobody w p) :
    Calls Tryz.prog 30 #[.pointer p] w fun e w' => e = .returned (.bool false) ∧ w' = w := by
  go_enter Tryz.func30, Tryz.ntmps30
  go_wp2_with (refine (nobodys_yes p w h).mono ?_; rintro e w' ⟨rfl, rfl⟩)
  go_ret
  exact ⟨by simp, rfl⟩
/-! ## Free -/
end Go.Proofs.YtbobakfcmkaijaaGreatDoor
end

section
/- The program's test of a file's name. -/
namespace Go.Proofs.YtbobakfcmkaijaaGreatDoor
open Go.RowKit Go.Maps
set_option linter.unusedVariables false

def okB (b : UInt8) : Bool := decide (33 ≤ b.toNat) && decide (b.toNat ≤ 126)

theorem okN_long {l : Nm} (h : 24 < l.length) : okN l = false := by simp [okN]; omega
theorem okN_short {l : Nm} (h1 : 1 ≤ l.length) (h2 : l.length ≤ 24) : okN l = l.all okB := by
  have a : decide (1 ≤ l.length) = true := by simpa using h1
  have b : decide (l.length ≤ 24) = true := by simpa using h2
  unfold okN
  rw [a, b]
  rfl
theorem okN_len {l : Nm} (h : okN l = true) : 1 ≤ l.length ∧ l.length ≤ 24 := by
  simp only [okN, Bool.and_eq_true, decide_eq_true_eq] at h
  exact ⟨h.1, h.2.1⟩

set_option maxHeartbeats 800000 in
theorem mayNot_any (s : ByteArray) (hs : s.size ≤ 9223372036854775807) (w : World) :
    Calls Tryz.prog 68 #[.string s] w fun e w' => e = .returned (.bool (!okN s.data.toList)) ∧ ∃ n, w' = w.drewN n := by
  have hsz : s.size = s.data.toList.length := by simp
  have hl : s.toList = s.data.toList := Lib.toList_data s
  have he : (ByteArray.mk #[]).toList = [] := by rw [Lib.toList_data]
  by_cases h0 : s.size = 0
  · have hn : s.data.toList = [] := List.eq_nil_of_length_eq_zero (by omega)
    have hq : s.toList = [] := by rw [hl, hn]
    have hf : okN s.data.toList = false := by rw [hn]; rfl
    rw [hf]
    clear hf hn hl he hsz
    go_enter Tryz.func68, Tryz.ntmps68
    go_wp2
    go_ret
    exact ⟨by simp, 0, rfl⟩
  · have hq : ¬ s.toList = [] := by
      rw [hl]
      intro hn
      rw [hn] at hsz
      exact h0 hsz
    have hq1 : s.toList.isEmpty = false := by simpa using hq
    by_cases h24 : 24 < s.size
    · rw [okN_long (by omega)]
      have h24' : (24 : Int) < s.size := by omega
      clear hl he hsz h24
      go_enter Tryz.func68, Tryz.ntmps68
      go_wp2
      go_ret
      exact ⟨by simp, 0, rfl⟩
    · rw [okN_short (by omega) (by omega)]
      have h24' : ¬ (24 : Int) < s.size := by omega
      have HL := Lib.hid hl
      have HS := Lib.hid hsz
      generalize hr : s.data.toList.all okB = r
      have HR := Lib.hid hr
      clear hr
      clear hl he hsz h24
      go_enter Tryz.func68, Tryz.ntmps68
      go_wp2
      go_loopw [13] (fun i wr => ∃ k : Nat, k ≤ s.size ∧ i = .int .i64 k ∧ (s.data.toList.take k).all okB = true ∧ ∃ n, wr = w.drewN n) (fun i _ => s.size - (intOf i).toNat)
      case atStart => exact ⟨0, Nat.zero_le _, rfl, rfl, 0, rfl⟩
      case round =>
        obtain ⟨k, hk, rfl, hall, n, rfl⟩ := hrel
        have HA := Lib.hid hall
        clear hall
        by_cases hlt : k < s.size
        · have hg : s.data[k]'(by exact hlt) = s.data.toList[k]'(by rw [← HS.out]; exact hlt) := by simp
          have hkl : k < s.data.toList.length := by rw [← HS.out]; exact hlt
          have hb : okB (s.data.toList[k]'hkl) = decide (33 ≤ ((s[k]'hlt).toNat : Int) ∧ ((s[k]'hlt).toNat : Int) ≤ 126) := by
            have e : s[k]'hlt = s.data.toList[k]'hkl := by rw [← hg]; rfl
            rw [e]
            simp only [okB, Bool.decide_and]
            congr 1 <;> exact decide_eq_decide.2 (by omega)
          have bad : okB (s.data.toList[k]'hkl) = false → s.data.toList.all okB = false := fun h => by
            rw [List.all_eq_false]
            exact ⟨_, List.getElem_mem hkl, by rw [h]; decide⟩
          have HB := Lib.hid hb
          have HBad := Lib.hid bad
          clear hg hb bad
          go_wp2
          all_goals first
            | (go_roundw
               case rel =>
                 refine ⟨k + 1, by omega, by go_num, ?_, n, rfl⟩
                 rw [List.take_add_one, List.getElem?_eq_getElem hkl, List.all_append, HA.out]
                 simp only [Option.toList_some, List.all_cons, List.all_nil, Bool.and_true, Bool.true_and]
                 rw [HB.out]
                 exact decide_eq_true (by omega)
               case measure => simp [intOf]; omega)
            | (go_ret
               refine ⟨?_, n, rfl⟩
               rw [← HR.out, HBad.out (by rw [HB.out]; exact decide_eq_false (by omega))]
               rfl)
        · go_wp2
          go_ret
          refine ⟨?_, n, rfl⟩
          have := HA.out
          rw [List.take_of_length_le (by rw [← HS.out]; omega)] at this
          rw [← HR.out, this]
          rfl

/-- texts that the model can hold -/
abbrev Txt := { s : ByteArray // s.size ≤ 9223372036854775807 }
instance : Inhabited Txt := ⟨⟨ByteArray.mk #[], by decide⟩⟩
def encT (s : Txt) : Value := .string s.1
theorem mayNot_pred (w : World) : PredAt Tryz.prog 68 #[] encT (fun s => !okN s.1.data.toList) w := fun W x hb => mayNot_any x.1 x.2 W
theorem mayNot_enters : ∀ args w, (callFunc 68 args).run Tryz.prog w = .ok (.enter 68 args) w := enters_of Tryz.func68 (by kernel_rfl) rfl
/-- the test over a new slice of names -/
theorem names_any (ss : List Txt) (b n c : Nat) (w : World) (hn : ss.length = n) (hbig : n ≤ 9223372036854775807) (hc : ∀ j, j < ss.length → w.cell? ⟨b, j, none⟩ = some (encT ss[j]!)) :
    Calls Tryz.prog 67 #[.slice (some ⟨b, 0, none⟩) n c, .func (.func 68) #[] #[]] w fun e w' => e = .returned (.bool (!(ss.map (·.1.data.toList)).all okN)) ∧ ∃ q, w' = w.drewN q := by
  have h := Tryz.slices_ContainsFunc_f67 encT (fun s => !okN s.1.data.toList) 68 #[] mayNot_enters b 0 n c ss w (mayNot_pred w) (by omega) hbig (by simpa using hc)
  refine h.mono ?_
  rintro e w' ⟨rfl, q, rfl⟩
  refine ⟨?_, q, rfl⟩
  rw [List.take_of_length_le (by omega), List.any_eq_not_all_not, List.all_map]
  congr 3
  simp only [Bool.not_not]
  rfl
end Go.Proofs.YtbobakfcmkaijaaGreatDoor
end

section
/- The program's refusals, and its search for a file. -/
namespace Go.Proofs.YtbobakfcmkaijaaGreatDoor
open Go.RowKit Go.Maps Go.WideMaps
set_option linter.unusedVariables false

def lst (s : ByteArray) : Nm := s.data.toList
theorem lst_length (s : ByteArray) : (lst s).length = s.size := by simp [lst]
theorem lst_inj {a b : ByteArray} (h : lst a = lst b) : a = b := by
  apply ByteArray.ext
  exact Array.toList_inj.1 h

theorem refusal_any {S : Nat → Prop} {d : Nat} {D : Dsk} (ss : List Txt) (b n c : Nat) (w : World) (h : Dk 0 w S d D) (hn : ss.length = n) (hbig : n ≤ 9223372036854775807) (hc : ∀ j, j < ss.length → w.cell? ⟨b, j, none⟩ = some (encT ss[j]!)) :
    Calls Tryz.prog 43 #[.pointer (some ⟨d, 0, none⟩), .slice (some ⟨b, 0, none⟩) n c] w fun e w' => e = .returned (.int .i64 (ask D (ss.map (lst ·.1)))) ∧ ∃ q, w' = w.drewN q := by
  obtain ⟨mb, nn, M, blk, vs, h, hnn⟩ := h
  have c0 := h.c0
  have c1 := h.c1
  have hcon := names_any ss b n c w hn hbig hc
  have ha : ask D (ss.map (lst ·.1)) = if D.off then 10 else if (ss.map (·.1.data.toList)).all okN then 0 else 2 := rfl
  rw [ha]
  clear hc ha
  generalize (ss.map (·.1.data.toList)).all okN = r at hcon ⊢
  generalize D.off = o at c1 ⊢
  cases o
  · cases r
    all_goals
      go_enter Tryz.func43, Tryz.ntmps43
      go_wp2_with (first
        | (go_at_call 35; refine (nobodys_no d w c0).mono ?_; rintro e w' ⟨rfl, rfl⟩)
        | (go_at_call 67; refine hcon.mono ?_; rintro e w' ⟨rfl, q, rfl⟩))
      go_ret
      exact ⟨by simp, q, rfl⟩
  · go_enter Tryz.func43, Tryz.ntmps43
    go_wp2_with (first
      | (go_at_call 35; refine (nobodys_no d w c0).mono ?_; rintro e w' ⟨rfl, rfl⟩)
      | (go_at_call 67; refine hcon.mono ?_; rintro e w' ⟨rfl, q, rfl⟩))
    go_ret
    exact ⟨by simp, 0, rfl⟩
theorem refusal_none {e : Nat} {S : Nat → Prop} {d : Nat} {D : Dsk} (w : World) (h : Dk e w S d D) :
    Calls Tryz.prog 43 #[.pointer (some ⟨d, 0, none⟩), .slice none 0 0] w fun e w' => e = .returned (.int .i64 (if D.off then 10 else 0)) ∧ w' = w := by
  obtain ⟨mb, nn, M, blk, vs, h, hnn⟩ := h
  have c0 := h.c0
  have c1 := h.c1
  have hcon := Tryz.slices_ContainsFunc_empty_f67 (α := Txt) none 0 (.func (.func 68) #[] #[]) w
  generalize D.off = o at c1 ⊢
  cases o
  all_goals
    go_enter Tryz.func43, Tryz.ntmps43
    go_wp2_with (first
      | (go_at_call 35; refine (nobodys_no d w c0).mono ?_; rintro e w' ⟨rfl, rfl⟩)
      | (go_at_call 67; refine hcon.mono ?_; rintro e w' ⟨rfl, rfl⟩))
    go_ret
    exact ⟨by simp, rfl⟩
theorem refusal_no (p : Option Addr) (v : Value) (w : World) (h : Nobody w p) :
    Calls Tryz.prog 43 #[.pointer p, v] w fun e w' => e = .returned (.int .i64 1) ∧ w' = w := by
  go_enter Tryz.func43, Tryz.ntmps43
  go_wp2_with (first
    | (go_at_call 35; refine (nobodys_yes p w h).mono ?_; rintro e w' ⟨rfl, rfl⟩))
  go_ret
  exact ⟨by simp, rfl⟩

theorem keyS (s : ByteArray) (hs : s.size ≤ maxLen) : keyOf Tryz.prog 9 (.string s) = some (.string (lst s)) := keyOf_string_mk Tryz.underlying9 hs
theorem lawS : Keyed Tryz.prog 9 := string_keyed Tryz.underlying9
theorem zeroP (w : World) : (zeroValue 69).run Tryz.prog w = .ok (.pointer none) w := by kernel_rfl

def fptr (D : Dsk) (blk : Nm → Nat) (l : Nm) : Value := match find D.files l with | none => .pointer none | some _ => .pointer (some ⟨blk l, 0, none⟩)

/-- 'd.files[name]' -/
theorem look_at {S : Nat → Prop} {w : World} {d mb nn : Nat} {M : DataW Unit} {blk : Nm → Nat} {vs : Nm → Value} {D : Dsk} (h : DkAt w S d mb nn M blk vs D) (s : ByteArray) (hs : s.size ≤ maxLen) :
    (Instr.lookup 43 (.map (some mb)) (.string s) false).run Tryz.prog w = .ok (fptr D blk (lst s)) w := by
  obtain ⟨v, ps, hrun, hv⟩ := h.map.lookup lawS Tryz.underlying43 (zeroP w) (zd := .nil) (zp := []) rfl (keyS s hs)
  rw [h.key] at hv
  rw [hrun]
  unfold fptr
  cases hf : find D.files (lst s) with
  | none =>
    rw [hf] at hv
    rw [ptrR_nil hv]
  | some f =>
    rw [hf] at hv
    rw [ptrR_at hv]

/-- what find answers -/
def fcode (D : Dsk) (l : Nm) : Int := if ask D [l] ≠ 0 then ask D [l] else if (find D.files l).isNone then 6 else 0
def fpt (D : Dsk) (blk : Nm → Nat) (l : Nm) : Value := if fcode D l = 0 then .pointer (some ⟨blk l, 0, none⟩) else .pointer none

theorem ask_one (D : Dsk) (l : Nm) : ask D [l] = 10 ∨ ask D [l] = 2 ∨ ask D [l] = 0 := by
  unfold ask
  split
  · exact .inl rfl
  · split
    · exact .inr (.inr rfl)
    · exact .inr (.inl rfl)

theorem one_text (s : ByteArray) (hs : s.size ≤ 9223372036854775807) (w : World) (t : TypeId) : ∀ j, j < ([⟨s, hs⟩] : List Txt).length → (w.alloc (.cells #[.string s] t)).cell? ⟨w.heap.size, j, none⟩ = some (encT ([⟨s, hs⟩] : List Txt)[j]!) := by
  intro j hj
  obtain rfl : j = 0 := by simpa using hj
  exact (Whole.new w t #[.string s]).cell 0

set_option maxHeartbeats 800000 in
theorem find_any {S : Nat → Prop} {d mb nn : Nat} {M : DataW Unit} {blk : Nm → Nat} {vs : Nm → Value} {D : Dsk} (s : ByteArray) (hs : s.size ≤ 9223372036854775807) (w : World) (h : DkAt w S d mb nn M blk vs D) (hnn : nn ≤ D.steps) :
    Calls Tryz.prog 69 #[.pointer (some ⟨d, 0, none⟩), .string s] w fun e w' => e = .returned (.tuple #[fpt D blk (lst s), .int .i64 (fcode D (lst s))]) ∧ Below w.heap.size w w' := by
  have hb : Below w.heap.size w (w.alloc (.cells #[.string s] 9)) := (Below.refl _ w).alloc (Nat.le_refl _) _
  have h1 := h.go hb
  have c5 := h.c5
  have hcon := refusal_any [⟨s, hs⟩] w.heap.size 1 1 (w.alloc (.cells #[.string s] 9)) ⟨mb, nn, M, blk, vs, h1, hnn⟩ rfl (by decide) (one_text s hs w _)
  have he : ask D ([(⟨s, hs⟩ : Txt)].map (lst ·.1)) = ask D [lst s] := rfl
  rw [he] at hcon
  have hlook : ∀ q, (Instr.lookup 43 (.map (some mb)) (.string s) false).run Tryz.prog ((w.alloc (.cells #[.string s] 9)).drewN q) = .ok (fptr D blk (lst s)) ((w.alloc (.cells #[.string s] 9)).drewN q) := fun q =>
    look_at (h1.go (bDrewN (Below.refl _ _) q)) s hs
  have hB : ∀ q, Below w.heap.size w ((w.alloc (.cells #[.string s] 9)).drewN q) := fun q => ⟨hb.os, hb.tape, hb.output, hb.size, hb.block⟩
  have HB := Lib.hid hB
  clear hB he
  have c5' : ∀ q, ((w.alloc (.cells #[.string s] 9)).drewN q).cell? ⟨d, 5, none⟩ = some (.map (some mb)) := fun q => h1.c5
  cases hf : find D.files (lst s) with
  | none =>
    have e1 : fptr D blk (lst s) = .pointer none := by simp [fptr, hf]
    rw [e1] at hlook
    have e2 : fpt D blk (lst s) = .pointer none := by
      unfold fpt fcode
      rw [hf]
      rcases ask_one D (lst s) with e | e | e <;> simp [e]
    have e3 : fcode D (lst s) = if ask D [lst s] ≠ 0 then ask D [lst s] else 6 := by simp [fcode, hf]
    rw [e2, e3]
    clear e1 e2 e3 hf
    rcases ask_one D (lst s) with e | e | e
    all_goals
      rw [e] at hcon ⊢
      clear e
      go_enter Tryz.func69, Tryz.ntmps69
      go_wp2_with (refine hcon.mono ?_; rintro e w' ⟨rfl, q, rfl⟩)
      go_returns
      exact ⟨by simp, HB.out _⟩
  | some f =>
    have e1 : fptr D blk (lst s) = .pointer (some ⟨blk (lst s), 0, none⟩) := by simp [fptr, hf]
    rw [e1] at hlook
    have e2 : fpt D blk (lst s) = if ask D [lst s] ≠ 0 then .pointer none else .pointer (some ⟨blk (lst s), 0, none⟩) := by
      unfold fpt fcode
      rw [hf]
      rcases ask_one D (lst s) with e | e | e <;> simp [e]
    have e3 : fcode D (lst s) = ask D [lst s] := by
      unfold fcode
      rw [hf]
      rcases ask_one D (lst s) with e | e | e <;> simp [e]
    rw [e2, e3]
    clear e1 e2 e3 hf
    generalize blk (lst s) = bk at *
    rcases ask_one D (lst s) with e | e | e
    all_goals
      rw [e] at hcon ⊢
      clear e
      go_enter Tryz.func69, Tryz.ntmps69
      go_wp2_with (refine hcon.mono ?_; rintro e w' ⟨rfl, q, rfl⟩)
      go_returns
      exact ⟨by simp, HB.out _⟩
theorem find_no (p : Option Addr) (s : ByteArray) (w : World) (h : Nobody w p) :
    Calls Tryz.prog 69 #[.pointer p, .string s] w fun e w' => e = .returned (.tuple #[.pointer none, .int .i64 1]) ∧ Below w.heap.size w w' := by
  have hb : Below w.heap.size w (w.alloc (.cells #[.string s] 9)) := (Below.refl _ w).alloc (Nat.le_refl _) _
  have h1 : Nobody (w.alloc (.cells #[.string s] 9)) p := by
    rcases h with rfl | ⟨d, rfl, h⟩
    · exact .inl rfl
    · exact .inr ⟨d, rfl, Lib.cell?_alloc_some _ h⟩
  have HB := Lib.hid hb
  clear hb
  go_enter Tryz.func69, Tryz.ntmps69
  go_wp2_with (refine (refusal_no p _ _ h1).mono ?_; rintro e w' ⟨rfl, rfl⟩)
  go_returns
  exact ⟨by simp, HB.out⟩
end Go.Proofs.YtbobakfcmkaijaaGreatDoor
end

section
/- The program's one way of a step. -/
namespace Go.Proofs.YtbobakfcmkaijaaGreatDoor
open Go.RowKit Go.Maps
set_option linter.unusedVariables false

def burn (D : Dsk) : Dsk := { D with fuse := if D.fuse = -1 then -1 else D.fuse - 1 }

section
variable {S : Nat → Prop} {d mb nn : Nat} {M : DataW Unit} {blk : Nm → Nat} {vs : Nm → Value} {D : Dsk}
theorem DkAt.burn_ {w : World} (h : DkAt w S d mb nn M blk vs D) (h1 : D.fuse = -1) : DkAt w S d mb nn M blk vs (burn D) := by
  have e : burn D = D := by
    cases D
    simp only at h1
    subst h1
    rfl
  rw [e]
  exact h

set_option maxHeartbeats 1000000 in
theorem step_gen (Pr : (Nat → Prop) → Nat → Nat → DataW Unit → (Nm → Nat) → (Nm → Value) → Prop) (fv : Nat) (lb : Array Value) (t : List Fl → List Fl) (w : World) (h : DkAt w S d mb nn M blk vs D) (hp0 : D.fuse = 0 → Pr S mb nn M blk vs) (hst : D.steps + 1 ≤ 9223372036854775807) (hf0 : -1 ≤ D.fuse) (hf1 : D.fuse ≤ 9223372036854775807)
    (eg : ∀ args w, (callFunc fv args).run Tryz.prog w = .ok (.enter fv args) w)
    (hdo0 : D.fuse ≠ 0 → ∀ w1, DkAt w1 S d mb nn M blk vs (burn D) → Outs S w w1 → w1.heap.size = w.heap.size → Calls Tryz.prog fv lb w1 fun e w2 => e = .returned (.tuple #[]) ∧ ∃ S' mb' nn' M' blk' vs', DkAt w2 S' d mb' nn' M' blk' vs' { burn D with files := t D.files } ∧ Pr S' mb' nn' M' blk' vs' ∧ Turn S S' w1 w2) :
    Calls Tryz.prog 83 #[.pointer (some ⟨d, 0, none⟩), .func (.func fv) #[] lb] w fun e w' => e = .returned (.int .i64 (dStep D t).1) ∧ ∃ S' mb' nn' M' blk' vs', DkAt w' S' d mb' nn' M' blk' vs' (dStep D t).2 ∧ Pr S' mb' nn' M' blk' vs' ∧ Turn S S' w w' := by
  have c3 := h.c3
  have f1 := h.fz 1
  have f3 := h.fz 3
  have c1 := h.c1
  by_cases hz : D.fuse = 0
  · have e : dStep D t = (10, fall D) := by simp [dStep, hz]
    rw [e]
    have hz0 := hz
    rw [hz] at c3
    have hh := h.head 1 (.bool true) (fall D) rfl (by simp [topCells, fall, left])
    have ho : Turn S S w (w.setCell ⟨d, 1, none⟩ (.bool true)) := ⟨(Outs.refl _ _).setCell (.inl h.sd) _, fun _ h => .inl h⟩
    have HH := Lib.hid hh
    have HO := Lib.hid ho
    clear hh ho e hz hdo0
    go_enter Tryz.func83, Tryz.ntmps83
    go_wp2
    go_returns
    exact ⟨rfl, S, mb, nn, M, blk, vs, HH.out, hp0 hz0, HO.out⟩
  · have e : dStep D t = (0, { tick D with files := t D.files }) := by simp [dStep, hz]
    rw [e]
    have hn1 : (D.fuse == 0) = false := by simpa using hz
    have hdo := hdo0 hz
    clear hdo0
    -- what stands behind the work
    have fin : ∀ w1 w2, Outs S w w1 → w1.heap.size = w.heap.size → (∃ S' mb' nn' M' blk' vs', DkAt w2 S' d mb' nn' M' blk' vs' { burn D with files := t D.files } ∧ Pr S' mb' nn' M' blk' vs' ∧ Turn S S' w1 w2) → w2.cell? ⟨d, 4, none⟩ = some (.int .i64 D.steps) ∧ w2.frozen? ⟨d, 4, none⟩ = false ∧
        ∃ S' mb' nn' M' blk' vs', DkAt (w2.setCell ⟨d, 4, none⟩ (.int .i64 (D.steps + 1))) S' d mb' nn' M' blk' vs' { tick D with files := t D.files } ∧ Pr S' mb' nn' M' blk' vs' ∧ Turn S S' w (w2.setCell ⟨d, 4, none⟩ (.int .i64 (D.steps + 1))) := by
      rintro w1 w2 ho hs ⟨S', mb', nn', M', blk', vs', hk, hp, ht⟩
      refine ⟨hk.c4, hk.fz 4, S', mb', nn', M', blk', vs', hk.head 4 _ _ rfl ?_, hp, ⟨(ho.trans ht.outs (fun i hi => .inl hi)).setCell ?_ _, fun k hk => ?_⟩⟩
      · simp [topCells, burn, tick, left]
      · rcases ht.new d hk.sd with e | e
        · exact .inl e
        · exact .inr (by have e' : w1.heap.size ≤ d := e; show w.heap.size ≤ d; omega)
      · rcases ht.new k hk with e | e
        · exact .inl e
        · exact .inr (by omega)
    by_cases hm : D.fuse = -1
    · have hn2 : (D.fuse != -1) = false := by simp [hm]
      have hcon := hdo w (h.burn_ hm) (Outs.refl _ _) rfl
      have FIN := Lib.hid (fin w)
      have hst' : (D.steps : Int) + 1 ≤ 9223372036854775807 := by omega
      rw [hm] at c3
      clear fin hdo e hn1 hn2 hz hst
      go_enter Tryz.func83, Tryz.ntmps83
      go_wp2_with fail
      refine hcon.mono ?_
      rintro e w2 ⟨rfl, hk⟩
      obtain ⟨c4, f4, hfin⟩ := FIN.out w2 (Outs.refl _ _) (by first | rfl | trivial) hk
      have HF := Lib.hid hfin
      clear hfin hk
      go_wp2
      go_returns
      exact ⟨rfl, HF.out⟩
    · have hn2 : (D.fuse != -1) = true := by simpa using hm
      have hb : burn D = { D with fuse := D.fuse - 1 } := by simp [burn, hm]
      have h1 : DkAt (w.setCell ⟨d, 3, none⟩ (.int .i64 (D.fuse - 1))) S d mb nn M blk vs (burn D) := by
        rw [hb]
        exact h.head 3 _ _ rfl (by simp [topCells, left])
      have ho : Outs S w (w.setCell ⟨d, 3, none⟩ (.int .i64 (D.fuse - 1))) := (Outs.refl _ _).setCell (.inl h.sd) _
      have hcon := hdo _ h1 ho (by simp [World.setCell])
      have FIN := Lib.hid (fin (w.setCell ⟨d, 3, none⟩ (.int .i64 (D.fuse - 1))))
      have hst' : (D.steps : Int) + 1 ≤ 9223372036854775807 := by omega
      have HO := Lib.hid ho
      have hF0 : 0 ≤ D.fuse - 1 := by omega
      generalize hF : D.fuse = F at *
      clear fin hdo e hst ho h1 hb hF h
      go_enter Tryz.func83, Tryz.ntmps83
      go_wp2_with fail
      refine hcon.mono ?_
      rintro e w2 ⟨rfl, hk⟩
      obtain ⟨c4, f4, hfin⟩ := FIN.out w2 HO.out (by first | rfl | simp [World.setCell]) hk
      have HF := Lib.hid hfin
      clear hfin hk
      go_wp2
      go_returns
      exact ⟨rfl, HF.out⟩

theorem step_any (fv : Nat) (lb : Array Value) (t : List Fl → List Fl) (w : World) (h : DkAt w S d mb nn M blk vs D) (hnn : nn ≤ D.steps) (hst : D.steps + 1 ≤ 9223372036854775807) (hf0 : -1 ≤ D.fuse) (hf1 : D.fuse ≤ 9223372036854775807)
    (eg : ∀ args w, (callFunc fv args).run Tryz.prog w = .ok (.enter fv args) w)
    (hdo : ∀ w1, DkAt w1 S d mb nn M blk vs (burn D) → Outs S w w1 → w1.heap.size = w.heap.size → Calls Tryz.prog fv lb w1 fun e w2 => e = .returned (.tuple #[]) ∧ ∃ S', Dk 1 w2 S' d { burn D with files := t D.files } ∧ Turn S S' w1 w2) :
    Calls Tryz.prog 83 #[.pointer (some ⟨d, 0, none⟩), .func (.func fv) #[] lb] w fun e w' => e = .returned (.int .i64 (dStep D t).1) ∧ ∃ S', Dk 0 w' S' d (dStep D t).2 ∧ Turn S S' w w' := by
  refine (step_gen (fun _ _ nn' _ _ _ => nn' ≤ (dStep D t).2.steps) fv lb t w h (fun hz => ?_) hst hf0 hf1 eg (fun hz w1 h1 ho hs => (hdo w1 h1 ho hs).mono ?_)).mono ?_
  · simp only [dStep, if_pos hz, fall]
    exact hnn
  · rintro e w2 ⟨rfl, S', ⟨mb', nn', M', blk', vs', hk, hn⟩, ht⟩
    refine ⟨rfl, S', mb', nn', M', blk', vs', hk, ?_, ht⟩
    simp only [dStep, if_neg hz, tick]
    exact hn
  · rintro e w' ⟨rfl, S', mb', nn', M', blk', vs', hk, hn, ht⟩
    exact ⟨rfl, S', ⟨mb', nn', M', blk', vs', hk, hn⟩, ht⟩
end
end Go.Proofs.YtbobakfcmkaijaaGreatDoor
end
