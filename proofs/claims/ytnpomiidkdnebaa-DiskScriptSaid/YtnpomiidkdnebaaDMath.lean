/- A disk as plain mathematics: its files, rising by name; what each call answers and makes of it. No program is named here. -/
namespace Go.Proofs.Ytnpomiidkdnebaa
set_option linter.unusedVariables false

abbrev Nm := List UInt8

/-- a file: its name, its bytes, how many of them are synced -/
structure Fl where
  nm : Nm
  bs : List Int
  sy : Nat

/-- a disk: fuse -1 is none -/
structure Dsk where
  room : Nat
  files : List Fl
  off : Bool
  fuse : Int
  steps : Nat

def okN (l : Nm) : Bool := decide (1 ≤ l.length) && (decide (l.length ≤ 24) && l.all (fun b => decide (33 ≤ b.toNat) && decide (b.toNat ≤ 126)))
def used (fs : List Fl) : Nat := (fs.map (fun f => f.bs.length)).sum
def find (fs : List Fl) (l : Nm) : Option Fl := fs.find? (fun f => f.nm == l)
def ins (f : Fl) : List Fl → List Fl
  | [] => [f]
  | g :: r => if f.nm < g.nm then f :: g :: r else g :: ins f r
def del (l : Nm) (fs : List Fl) : List Fl := fs.filter (fun f => !(f.nm == l))
def upd (l : Nm) (g : Fl → Fl) (fs : List Fl) : List Fl := fs.map (fun f => if f.nm = l then g f else f)

def tick (D : Dsk) : Dsk := { D with fuse := if D.fuse = -1 then -1 else D.fuse - 1, steps := D.steps + 1 }
def fall (D : Dsk) : Dsk := { D with off := true }
/-- one step, that makes t of the files -/
def dStep (D : Dsk) (t : List Fl → List Fl) : Int × Dsk :=
  if D.fuse = 0 then (10, fall D) else (0, { tick D with files := t D.files })
def ask (D : Dsk) (l : List Nm) : Int := if D.off then 10 else if l.all okN then 0 else 2
def dNew (room : Nat) : Dsk := ⟨room, [], false, -1, 0⟩
def dMake (D : Dsk) (l : Nm) : Int × Dsk :=
  if ask D [l] ≠ 0 then (ask D [l], D) else if (find D.files l).isSome then (7, D) else dStep D (ins ⟨l, [], 0⟩)
def put1 (l : Nm) (p : List Int) : List Fl → List Fl := upd l (fun f => { f with bs := f.bs ++ p })
def puts (l : Nm) : Dsk → List (List Int) → Int × Dsk
  | D, [] => (0, D)
  | D, p :: ps => if D.fuse = 0 then (10, fall D) else puts l { tick D with files := put1 l p D.files } ps
def part (b : List Int) (k : Nat) : List Int := (b.drop (64 * k)).take 64
def nparts (b : List Int) : Nat := (b.length + 63) / 64
def parts (b : List Int) : List (List Int) := (List.range (nparts b)).map (part b)
def left (D : Dsk) : Int := (D.room : Int) - (used D.files : Int)
def dAppend (D : Dsk) (l : Nm) (b : List Int) : Int × Dsk :=
  if ask D [l] ≠ 0 then (ask D [l], D) else if (find D.files l).isNone then (6, D) else if left D < b.length then (8, D) else puts l D (parts b)
def dSync (D : Dsk) (l : Nm) : Int × Dsk :=
  if ask D [l] ≠ 0 then (ask D [l], D) else if (find D.files l).isNone then (6, D) else dStep D (upd l (fun f => { f with sy := f.bs.length }))
def mv (f : Fl) (l m : Nm) (fs : List Fl) : List Fl := ins { f with nm := m } (del m (del l fs))
def dRename (D : Dsk) (l m : Nm) : Int × Dsk :=
  if ask D [l, m] ≠ 0 then (ask D [l, m], D) else match find D.files l with
  | none => (6, D)
  | some f => if l = m then (0, D) else dStep D (mv f l m)
def dRemove (D : Dsk) (l : Nm) : Int × Dsk :=
  if ask D [l] ≠ 0 then (ask D [l], D) else if (find D.files l).isNone then (6, D) else dStep D (del l)
def dRead (D : Dsk) (l : Nm) : List Int × Int :=
  if ask D [l] ≠ 0 then ([], ask D [l]) else match find D.files l with | none => ([], 6) | some f => (f.bs, 0)
def dSynced (D : Dsk) (l : Nm) : Nat × Int :=
  if ask D [l] ≠ 0 then (0, ask D [l]) else match find D.files l with | none => (0, 6) | some f => (f.sy, 0)
def names (D : Dsk) : List Nm := D.files.map (·.nm)
def dNames (D : Dsk) : List Nm := if D.off then [] else names D
def dLeft (D : Dsk) : Int := if D.off then 0 else left D
def dFuse (D : Dsk) (n : Int) : Int × Dsk := if D.off then (10, D) else if n < 0 then (2, D) else (0, { D with fuse := n })
def dFree (D : Dsk) : Dsk := { D with fuse := -1 }
def keptOf (f : Fl) (k : Int) : Nat := f.sy + (min k ((f.bs.length : Int) - f.sy)).toNat
def cutTo (f : Fl) (k : Int) : Fl := { f with bs := f.bs.take (keptOf f k), sy := keptOf f k }
def crsN (n : Nat) (fs : List Fl) (ks : List Int) : List Fl := fs.mapIdx (fun j f => if j < n then cutTo f (ks.getD j 0) else f)
def crs (fs : List Fl) (ks : List Int) : List Fl := fs.mapIdx (fun j f => cutTo f (ks.getD j 0))
def dCrash (D : Dsk) (keep : List Int) : Int × Dsk :=
  if keep.any (fun k => decide (k < 0)) then (2, D) else (0, { D with files := crs D.files keep, off := false, fuse := -1 })
def dTurn (xr : Int → Int) (D : Dsk) (l : Nm) (at_ : Int) : Int × Dsk :=
  if okN l = false then (2, D) else match find D.files l with
  | none => (6, D)
  | some f => if at_ < 0 ∨ (f.bs.length : Int) ≤ at_ then (6, D) else (0, { D with files := upd l (fun f => { f with bs := f.bs.modify at_.toNat xr }) D.files })

/-! ## what holds of a disk -/
def Srt (fs : List Fl) : Prop := fs.Pairwise (fun a b => a.nm < b.nm)
structure Okd (D : Dsk) : Prop where
  srt : Srt D.files
  nms : ∀ f ∈ D.files, okN f.nm = true
  sy : ∀ f ∈ D.files, f.sy ≤ f.bs.length
  fits : used D.files ≤ D.room
  room : D.room ≤ 1073741824
  fuse0 : -1 ≤ D.fuse
  fuse1 : D.fuse ≤ 9223372036854775807

theorem nm_lt_ne {a b : Nm} (h : a < b) : a ≠ b := by
  rintro rfl
  exact List.lt_irrefl a h

theorem find_some {fs : List Fl} {l : Nm} {f : Fl} (h : find fs l = some f) : f ∈ fs ∧ f.nm = l := by
  unfold find at h
  exact ⟨List.mem_of_find?_eq_some h, by simpa using List.find?_some h⟩
theorem find_none {fs : List Fl} {l : Nm} (h : find fs l = none) : ∀ f ∈ fs, f.nm ≠ l := by
  intro f hf e
  have := List.find?_eq_none.1 h f hf
  simp [e] at this
theorem find_mem {fs : List Fl} (hs : Srt fs) {f : Fl} (hf : f ∈ fs) : find fs f.nm = some f := by
  induction fs with
  | nil => cases hf
  | cons g r ih =>
    obtain ⟨h1, h2⟩ := List.pairwise_cons.1 hs
    unfold find
    rw [List.find?_cons]
    rcases List.mem_cons.1 hf with rfl | hr
    · simp
    · have hne := nm_lt_ne (h1 f hr)
      rw [show (g.nm == f.nm) = false by simpa using hne]
      exact ih h2 hr
theorem find_ins {fs : List Fl} {f : Fl} (hn : find fs f.nm = none) (l : Nm) : find (ins f fs) l = if f.nm = l then some f else find fs l := by
  induction fs with
  | nil => by_cases h : f.nm = l <;> simp [find, ins, h]
  | cons g r ih =>
    have hg : g.nm ≠ f.nm := find_none hn g (by simp)
    have hr : find r f.nm = none := by
      unfold find at hn ⊢
      rw [List.find?_cons] at hn
      rwa [show (g.nm == f.nm) = false by simpa using hg] at hn
    unfold ins
    split
    · by_cases h : f.nm = l <;> simp [find, List.find?_cons, h]
    · by_cases h : f.nm = l
      · have h' : g.nm ≠ l := by rw [← h]; exact hg
        have := ih hr
        rw [if_pos h] at this ⊢
        unfold find at this ⊢
        rw [List.find?_cons, show (g.nm == l) = false by simpa using h']
        exact this
      · have := ih hr
        rw [if_neg h] at this ⊢
        unfold find at this ⊢
        rw [List.find?_cons, List.find?_cons, this]
theorem find_del (fs : List Fl) (m l : Nm) : find (del m fs) l = if m = l then none else find fs l := by
  induction fs with
  | nil => simp [find, del]
  | cons g r ih =>
    unfold find del at ih ⊢
    by_cases h : m = l
    · rw [if_pos h] at ih ⊢
      subst h
      by_cases hg : g.nm = m <;> simp [hg] at ih ⊢ <;> assumption
    · rw [if_neg h] at ih ⊢
      by_cases hg : g.nm = m
      · have : g.nm ≠ l := by rw [hg]; exact h
        simp [hg, h] at ih ⊢
        exact ih
      · by_cases hl : g.nm = l
        · simp [hl, Ne.symm h]
        · simp [hg, hl] at ih ⊢
          exact ih
theorem find_upd (fs : List Fl) (m l : Nm) (g : Fl → Fl) (hg : ∀ f, (g f).nm = f.nm) : find (upd m g fs) l = (find fs l).map (fun f => if l = m then g f else f) := by
  induction fs with
  | nil => simp [find, upd]
  | cons a r ih =>
    unfold find upd at ih ⊢
    rw [List.map_cons, List.find?_cons, List.find?_cons]
    have ha : (if a.nm = m then g a else a).nm = a.nm := by split <;> simp [hg]
    rw [ha]
    by_cases h : a.nm = l
    · simp [h]
    · rw [show (a.nm == l) = false by simpa using h]
      exact ih
theorem used_cons (f : Fl) (fs : List Fl) : used (f :: fs) = f.bs.length + used fs := by simp [used]
theorem used_ins (f : Fl) (fs : List Fl) : used (ins f fs) = f.bs.length + used fs := by
  induction fs with
  | nil => simp [ins, used]
  | cons g r ih =>
    unfold ins
    split
    · simp [used]
    · rw [used_cons, used_cons, ih]
      omega
theorem used_del {fs : List Fl} (hs : Srt fs) {l : Nm} {f : Fl} (h : find fs l = some f) : used (del l fs) + f.bs.length = used fs := by
  induction fs with
  | nil => simp [find] at h
  | cons g r ih =>
    obtain ⟨h1, h2⟩ := List.pairwise_cons.1 hs
    unfold find at h
    rw [List.find?_cons] at h
    by_cases hg : g.nm = l
    · rw [show (g.nm == l) = true by simpa using hg] at h
      obtain rfl := Option.some.inj h
      have : del l (g :: r) = r := by
        unfold del
        rw [List.filter_cons_of_neg (by simpa using hg)]
        refine List.filter_eq_self.2 fun a ha => ?_
        have := nm_lt_ne (h1 a ha)
        rw [hg] at this
        simpa using this.symm
      rw [this, used_cons]
      omega
    · rw [show (g.nm == l) = false by simpa using hg] at h
      have := ih h2 h
      have e : del l (g :: r) = g :: del l r := by
        unfold del
        rw [List.filter_cons_of_pos (by simpa using hg)]
      rw [e, used_cons, used_cons]
      omega
theorem del_none {fs : List Fl} {l : Nm} (h : find fs l = none) : del l fs = fs := by
  refine List.filter_eq_self.2 fun a ha => ?_
  simpa using find_none h a ha
theorem mem_ins {f a : Fl} {fs : List Fl} : a ∈ ins f fs ↔ a = f ∨ a ∈ fs := by
  induction fs with
  | nil => simp [ins]
  | cons g r ih =>
    unfold ins
    split
    · simp
    · rw [List.mem_cons, ih, List.mem_cons]
      constructor <;> (rintro (h | h | h) <;> simp [h])
theorem srt_ins {f : Fl} {fs : List Fl} (hs : Srt fs) (hn : find fs f.nm = none) : Srt (ins f fs) := by
  induction fs with
  | nil => exact List.pairwise_singleton _ _
  | cons g r ih =>
    obtain ⟨h1, h2⟩ := List.pairwise_cons.1 hs
    have hg : g.nm ≠ f.nm := find_none hn g (by simp)
    have hr : find r f.nm = none := by
      unfold find at hn ⊢
      rw [List.find?_cons] at hn
      rwa [show (g.nm == f.nm) = false by simpa using hg] at hn
    unfold ins
    split
    · rename_i hlt
      refine List.pairwise_cons.2 ⟨fun a ha => ?_, hs⟩
      rcases List.mem_cons.1 ha with rfl | ha
      · exact hlt
      · exact List.lt_trans hlt (h1 a ha)
    · rename_i hlt
      refine List.pairwise_cons.2 ⟨fun a ha => ?_, ih h2 hr⟩
      rcases mem_ins.1 ha with rfl | ha
      · refine Decidable.byContradiction fun h => hg ?_
        exact List.le_antisymm (List.not_lt.1 hlt) (List.not_lt.1 h)
      · exact h1 a ha
theorem srt_del {fs : List Fl} (hs : Srt fs) (l : Nm) : Srt (del l fs) := List.Pairwise.filter _ hs
theorem upd_nm (fs : List Fl) (m : Nm) (g : Fl → Fl) (hg : ∀ f, (g f).nm = f.nm) : (upd m g fs).map (·.nm) = fs.map (·.nm) := by
  unfold upd
  rw [List.map_map]
  refine List.map_congr_left fun a _ => ?_
  show (if a.nm = m then g a else a).nm = a.nm
  split <;> simp [hg]
theorem srt_iff (fs : List Fl) : Srt fs ↔ (fs.map (·.nm)).Pairwise (fun a b => a < b) := by
  unfold Srt
  rw [List.pairwise_map]
theorem srt_upd {fs : List Fl} (hs : Srt fs) (m : Nm) (g : Fl → Fl) (hg : ∀ f, (g f).nm = f.nm) : Srt (upd m g fs) := by
  rw [srt_iff, upd_nm fs m g hg, ← srt_iff]
  exact hs
theorem upd_none {fs : List Fl} {l : Nm} (h : find fs l = none) (g : Fl → Fl) : upd l g fs = fs := by
  unfold upd
  conv => rhs; rw [← List.map_id fs]
  refine List.map_congr_left fun a ha => ?_
  rw [if_neg (find_none h a ha)]
  rfl
theorem used_put1 {fs : List Fl} (hs : Srt fs) {l : Nm} {f : Fl} (h : find fs l = some f) (p : List Int) : used (put1 l p fs) = used fs + p.length := by
  induction fs with
  | nil => simp [find] at h
  | cons g r ih =>
    obtain ⟨h1, h2⟩ := List.pairwise_cons.1 hs
    unfold find at h
    rw [List.find?_cons] at h
    by_cases hg : g.nm = l
    · have hr : find r l = none := by
        refine List.find?_eq_none.2 fun a ha => ?_
        have := nm_lt_ne (h1 a ha)
        rw [hg] at this
        simpa using this.symm
      have e : put1 l p (g :: r) = { g with bs := g.bs ++ p } :: r := by
        have := upd_none hr (fun f => { f with bs := f.bs ++ p })
        unfold put1 upd at this ⊢
        rw [List.map_cons, if_pos hg, this]
      rw [e, used_cons, used_cons]
      simp
      omega
    · rw [show (g.nm == l) = false by simpa using hg] at h
      have := ih h2 h
      have e : put1 l p (g :: r) = g :: put1 l p r := by
        unfold put1 upd
        rw [List.map_cons, if_neg hg]
      rw [e, used_cons, used_cons, this]
      omega
theorem used_upd (fs : List Fl) (m : Nm) (g : Fl → Fl) (hg : ∀ f ∈ fs, (g f).bs.length = f.bs.length) : used (upd m g fs) = used fs := by
  unfold used upd
  rw [List.map_map]
  congr 1
  refine List.map_congr_left fun a ha => ?_
  show (if a.nm = m then g a else a).bs.length = a.bs.length
  split <;> simp [hg a ha]

theorem crsN_zero (fs : List Fl) (ks : List Int) : crsN 0 fs ks = fs := by
  apply List.ext_getElem
  · simp [crsN]
  · intro i h1 h2
    simp [crsN]
theorem crsN_all (fs : List Fl) (ks : List Int) : crsN fs.length fs ks = crs fs ks := by
  apply List.ext_getElem
  · simp [crsN, crs]
  · intro i h1 h2
    simp only [crsN, crs, List.getElem_mapIdx]
    rw [if_pos (by simpa [crsN] using h1)]
theorem crsN_length (n : Nat) (fs : List Fl) (ks : List Int) : (crsN n fs ks).length = fs.length := by simp [crsN]
theorem crsN_nm (n : Nat) (fs : List Fl) (ks : List Int) : (crsN n fs ks).map (·.nm) = fs.map (·.nm) := by
  apply List.ext_getElem
  · simp [crsN]
  · intro i h1 h2
    simp only [crsN, List.getElem_map, List.getElem_mapIdx]
    split <;> rfl
theorem crsN_srt {n : Nat} {fs : List Fl} {ks : List Int} (h : Srt fs) : Srt (crsN n fs ks) := by
  rw [srt_iff, crsN_nm, ← srt_iff]
  exact h
theorem srt_get {fs : List Fl} (h : Srt fs) {i j : Nat} (hi : i < fs.length) (hj : j < fs.length) (e : fs[i].nm = fs[j].nm) : i = j := by
  have h' := (srt_iff fs).1 h
  rcases Nat.lt_trichotomy i j with hl | hl | hl
  · have := List.pairwise_iff_getElem.1 h' i j (by simpa using hi) (by simpa using hj) hl
    simp only [List.getElem_map] at this
    exact absurd e (nm_lt_ne this)
  · exact hl
  · have := List.pairwise_iff_getElem.1 h' j i (by simpa using hj) (by simpa using hi) hl
    simp only [List.getElem_map] at this
    exact absurd e.symm (nm_lt_ne this)
theorem crsN_step {n : Nat} {fs : List Fl} (ks : List Int) (h : Srt fs) (hn : n < fs.length) : upd fs[n].nm (fun f => cutTo f (ks.getD n 0)) (crsN n fs ks) = crsN (n + 1) fs ks := by
  apply List.ext_getElem
  · simp [crsN, upd]
  · intro i h1 h2
    have hi : i < fs.length := by simpa [crsN] using h2
    simp only [upd, crsN, List.getElem_map, List.getElem_mapIdx]
    by_cases e : i = n
    · subst e
      rw [if_neg (Nat.lt_irrefl i), if_pos rfl, if_pos (by omega)]
    · have hne : (if i < n then cutTo fs[i] (ks.getD i 0) else fs[i]).nm ≠ fs[n].nm := by
        have : (if i < n then cutTo fs[i] (ks.getD i 0) else fs[i]).nm = fs[i].nm := by split <;> rfl
        rw [this]
        exact fun e' => e (srt_get h hi hn e')
      rw [if_neg hne]
      by_cases hlt : i < n
      · rw [if_pos hlt, if_pos (by omega)]
      · rw [if_neg hlt, if_neg (by omega)]
theorem crsN_find {n : Nat} {fs : List Fl} (ks : List Int) (h : Srt fs) (hn : n < fs.length) : find (crsN n fs ks) fs[n].nm = some fs[n] := by
  refine find_mem (crsN_srt h) ?_
  refine List.mem_iff_getElem.2 ⟨n, by rw [crsN_length]; exact hn, ?_⟩
  simp [crsN]
theorem crsN_used (n : Nat) (fs : List Fl) (ks : List Int) : used (crsN n fs ks) ≤ used fs := by
  induction fs generalizing n ks with
  | nil => simp [crsN, used]
  | cons f r ih =>
    have e : crsN n (f :: r) ks = (if 0 < n then cutTo f (ks.getD 0 0) else f) :: crsN (n - 1) r ks.tail := by
      unfold crsN
      rw [List.mapIdx_cons]
      congr 1
      refine List.mapIdx_eq_mapIdx_iff.2 fun i hi => ?_
      have e2 : ks.getD (i + 1) 0 = ks.tail.getD i 0 := by cases ks <;> simp
      rw [e2]
      by_cases hlt : i + 1 < n
      · rw [if_pos hlt, if_pos (by omega)]
      · rw [if_neg hlt, if_neg (by omega)]
    rw [e, used_cons, used_cons]
    have := ih (n - 1) ks.tail
    have h2 : (if 0 < n then cutTo f (ks.getD 0 0) else f).bs.length ≤ f.bs.length := by
      split
      · simp only [cutTo, List.length_take]
        omega
      · exact Nat.le_refl _
    omega
theorem crsN_sy {n : Nat} {fs : List Fl} {ks : List Int} (h : ∀ f ∈ fs, f.sy ≤ f.bs.length) : ∀ f ∈ crsN n fs ks, f.sy ≤ f.bs.length := by
  intro f hf
  obtain ⟨i, hi, rfl⟩ := List.mem_iff_getElem.1 hf
  have hi' : i < fs.length := by simpa [crsN] using hi
  have := h _ (List.getElem_mem hi')
  simp only [crsN, List.getElem_mapIdx]
  split
  · simp only [cutTo, List.length_take]
    have h2 : keptOf fs[i] (ks.getD i 0) ≤ fs[i].bs.length := by
      unfold keptOf
      omega
    omega
  · exact this
theorem crsN_okn {n : Nat} {fs : List Fl} {ks : List Int} (h : ∀ f ∈ fs, okN f.nm = true) : ∀ f ∈ crsN n fs ks, okN f.nm = true := by
  intro f hf
  obtain ⟨i, hi, rfl⟩ := List.mem_iff_getElem.1 hf
  have hi' : i < fs.length := by simpa [crsN] using hi
  have := h _ (List.getElem_mem hi')
  simp only [crsN, List.getElem_mapIdx]
  split
  · exact this
  · exact this
theorem okd_crsN {D : Dsk} (h : Okd D) (n : Nat) (ks : List Int) : Okd { D with files := crsN n D.files ks } :=
  ⟨crsN_srt h.srt, crsN_okn h.nms, crsN_sy h.sy, Nat.le_trans (crsN_used _ _ _) h.fits, h.room, h.fuse0, h.fuse1⟩
end Go.Proofs.Ytnpomiidkdnebaa
