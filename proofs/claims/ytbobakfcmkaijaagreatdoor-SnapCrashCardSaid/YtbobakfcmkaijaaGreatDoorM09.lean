/- Several texts, each a section: JLie, JLie2, JLie3, Held, AppW. -/
import Derived.Test.YtbobakfcmkaijaaGreatDoorM07
import Derived.Test.YtbobakfcmkaijaaGreatDoorM06
import Derived.Test.YtbobakfcmkaijaaGreatDoorM08
import Derived.OrdersHeld
import Derived.StillTail
import Derived.Deep.RegionHeld
import Derived.Test.YtbobakfcmkaijaaGreatDoorM01
section
/- What lies on a disk of a journal's, as plain mathematics: behind each call, behind a crash, and what Open finds there. No program is named here. -/
namespace Go.Proofs.YtbobakfcmkaijaaGreatDoor
set_option linter.unusedVariables false

def flat (ss : List Sg) : List (List Int) := ss.flatMap (·.recs)
theorem flat_append (p q : List Sg) : flat (p ++ q) = flat p ++ flat q := by simp [flat]
theorem flat_length (ss : List Sg) : (flat ss).length = cnt ss := cnt_all ss

/-- segments of a journal's on a disk: those ahead whole and synced, the first k bytes of the last; m records are sure -/
structure Lies (l : Nm) (D : Dsk) (a : Nat) (ps : List Sg) (s : Sg) (k m : Nat) : Prop where
  nums : jnums l D = (ps ++ [s]).map (·.num)
  nocut : find D.files (cutN l) = none
  chain : Chn a (ps ++ [s])
  good : ∀ x ∈ ps ++ [s], ∀ r ∈ x.recs, Goodr r
  full : ∀ x ∈ ps, ∃ f, find D.files (segN l x.num) = some f ∧ f.bs = sby x.recs ∧ f.sy = f.bs.length
  last : ∃ f, find D.files (segN l s.num) = some f ∧ f.bs = (sby s.recs).take k ∧ m ≤ cnt ps + whr s.recs f.sy
  kle : k ≤ rsz s.recs
/-- none of a journal's -/
structure Bare (l : Nm) (D : Dsk) : Prop where
  nums : jnums l D = []
  nocut : find D.files (cutN l) = none

section
variable {l : Nm} {D D' : Dsk} {a k m : Nat} {ps : List Sg} {s : Sg}
theorem Lies.rise (h : Lies l D a ps s k m) (hs : Srt D.files) : ((ps ++ [s]).map (·.num)).Pairwise (· < ·) := by
  rw [← h.nums]
  exact nos_rise ((srt_iff _).1 hs)
theorem Lies.le (h : Lies l D a ps s k m) : ∀ x ∈ ps ++ [s], x.num ≤ maxNo := fun x hx => by
  have : x.num ∈ jnums l D := by rw [h.nums]; exact List.mem_map_of_mem hx
  exact (nos_mem.1 this).1
theorem Lies.below (h : Lies l D a ps s k m) (hs : Srt D.files) : ∀ x ∈ ps, x.num < s.num := fun x hx => by
  have := h.rise hs
  rw [List.map_append, List.pairwise_append] at this
  exact this.2.2 _ (List.mem_map_of_mem hx) _ (by simp)
theorem Lies.num (h : Lies l D a ps s k m) : s.num = a + cnt ps := ((chn_append a ps [s]).1 h.chain).2.1
theorem jnums_upd (m : Nm) (g : Fl → Fl) (hg : ∀ f, (g f).nm = f.nm) {D D' : Dsk} (h : D'.files = upd m g D.files) : jnums l D' = jnums l D := by
  unfold jnums names
  rw [h, upd_nm _ _ _ hg]

/-- a file of the last segment's turns: more bytes, or more of them sure -/
theorem Lies.turn (h : Lies l D a ps s k m) (hs : Srt D.files) (g : Fl → Fl) (hg : ∀ f, (g f).nm = f.nm) (hf : D'.files = upd (segN l s.num) g D.files) {s' : Sg} (hn : s'.num = s.num) (hgood : ∀ r ∈ s'.recs, Goodr r) {k' m' : Nat} (hk : k' ≤ rsz s'.recs)
    (hl : ∀ f, find D.files (segN l s.num) = some f → (g f).bs = (sby s'.recs).take k' ∧ m' ≤ cnt ps + whr s'.recs (g f).sy) : Lies l D' a ps s' k' m' := by
  obtain ⟨f, h1, h2, h3⟩ := h.last
  refine ⟨?_, ?_, ?_, ?_, ?_, ?_, hk⟩
  · rw [jnums_upd _ g hg hf, h.nums]
    simp [hn]
  · rw [hf, find_upd _ _ _ _ hg, h.nocut]
    rfl
  · rw [chn_append]
    have := (chn_append a ps [s]).1 h.chain
    exact ⟨this.1, by rw [hn]; exact this.2.1, trivial⟩
  · intro x hx
    rcases List.mem_append.1 hx with hx | hx
    · exact h.good x (by simp [hx])
    · obtain rfl := List.mem_singleton.1 hx
      exact hgood
  · intro x hx
    obtain ⟨f1, e1, e2, e3⟩ := h.full x hx
    refine ⟨f1, ?_, e2, e3⟩
    rw [hf, find_upd _ _ _ _ hg, e1]
    have hne : ¬ segN l x.num = segN l s.num := fun e => by
      have h4 := segN_inj (h.le x (by simp [hx])) (h.le s (by simp)) e
      have h5 := h.below hs x hx
      omega
    simp [hne]
  · obtain ⟨e1, e2⟩ := hl f h1
    refine ⟨g f, ?_, e1, e2⟩
    rw [hn, hf, find_upd _ _ _ _ hg, h1]
    simp
theorem Lies.same (h : Lies l D a ps s k m) (hf : D'.files = D.files) : Lies l D' a ps s k m :=
  ⟨by unfold jnums names; rw [hf]; exact h.nums, by rw [hf]; exact h.nocut, h.chain, h.good, by rw [hf]; exact h.full, by rw [hf]; exact h.last, h.kle⟩
theorem Lies.less (h : Lies l D a ps s k m) {m' : Nat} (hm : m' ≤ m) : Lies l D a ps s k m' := by
  obtain ⟨f, e1, e2, e3⟩ := h.last
  exact ⟨h.nums, h.nocut, h.chain, h.good, h.full, ⟨f, e1, e2, by omega⟩, h.kle⟩

/-! ## steps -/
theorem ask_seg (ho : D.off = false) (hl : okJ l = true) (n : Nat) : ask D [segN l n] = 0 := by simp [ask, ho, okN_seg hl]
theorem ask_cut (ho : D.off = false) (hl : okJ l = true) : ask D [cutN l] = 0 := by simp [ask, ho, okN_cut hl]
/-- the disk is what it was but for its files, its fuse and its steps; or it went off -/
theorem dStep_two (D : Dsk) (t : List Fl → List Fl) : (dStep D t = (10, fall D)) ∨ ((dStep D t).1 = 0 ∧ (dStep D t).2.files = t D.files ∧ (dStep D t).2.off = D.off ∧ (dStep D t).2.room = D.room ∧ (D.fuse = -1 → (dStep D t).2.fuse = -1)) := by
  unfold dStep
  split
  · exact .inl rfl
  · exact .inr ⟨rfl, rfl, rfl, rfl, fun h => by simp [tick, h]⟩
theorem dStep_free {D : Dsk} {t : List Fl → List Fl} (h : D.fuse = -1) : (dStep D t).1 = 0 ∧ (dStep D t).2.files = t D.files ∧ (dStep D t).2.off = D.off ∧ (dStep D t).2.room = D.room ∧ (dStep D t).2.fuse = -1 := by
  unfold dStep
  rw [if_neg (by rw [h]; decide)]
  exact ⟨rfl, rfl, rfl, rfl, by simp [tick, h]⟩
theorem upd_upd (l : Nm) (p q : List Int) (fs : List Fl) : put1 l q (put1 l p fs) = put1 l (p ++ q) fs := by
  unfold put1 upd
  rw [List.map_map]
  refine List.map_congr_left fun f _ => ?_
  simp only [Function.comp]
  by_cases h : f.nm = l
  · rw [if_pos h, if_pos h, if_pos h, List.append_assoc]
  · rw [if_neg h, if_neg h, if_neg h]
theorem put1_nil (l : Nm) (fs : List Fl) : put1 l [] fs = fs := by
  unfold put1 upd
  conv => rhs; rw [← List.map_id fs]
  refine List.map_congr_left fun f _ => ?_
  split
  · show ({ f with bs := f.bs ++ [] } : Fl) = f
    rw [List.append_nil]
  · rfl
/-- bytes are put down from the first on, as far as the fuse goes -/
theorem puts_two (l : Nm) : ∀ (qs : List (List Int)) (D : Dsk), ∃ t u, qs.flatten = t ++ u ∧ (puts l D qs).2.files = put1 l t D.files ∧ (puts l D qs).2.room = D.room ∧
    (((puts l D qs).1 = 0 ∧ u = [] ∧ (puts l D qs).2.off = D.off ∧ (D.fuse = -1 → (puts l D qs).2.fuse = -1)) ∨ ((puts l D qs).1 = 10 ∧ (puts l D qs).2.off = true ∧ D.fuse ≠ -1))
  | [], D => ⟨[], [], rfl, (put1_nil l _).symm, rfl, .inl ⟨rfl, rfl, rfl, fun h => h⟩⟩
  | p :: qs, D => by
    by_cases h : D.fuse = 0
    · have e : puts l D (p :: qs) = (10, fall D) := by simp [puts, h]
      rw [e]
      exact ⟨[], (p :: qs).flatten, rfl, (put1_nil l _).symm, rfl, .inr ⟨rfl, rfl, by omega⟩⟩
    · have e : puts l D (p :: qs) = puts l { tick D with files := put1 l p D.files } qs := by simp [puts, h]
      rw [e]
      obtain ⟨t, u, h1, h2, h3, h4⟩ := puts_two l qs { tick D with files := put1 l p D.files }
      refine ⟨p ++ t, u, by simp [h1], by rw [h2]; exact upd_upd l p t _, h3, ?_⟩
      rcases h4 with ⟨a1, a2, a3, a4⟩ | ⟨a1, a2, a3⟩
      · exact .inl ⟨a1, a2, a3, fun h => a4 (by simp [tick, h])⟩
      · exact .inr ⟨a1, a2, fun hh => a3 (by simp [tick, hh])⟩
/-- bytes behind a file's end -/
theorem append_two {n : Nm} {b : List Int} {f : Fl} (ha : ask D [n] = 0) (hf : find D.files n = some f) (hr : used D.files + b.length ≤ D.room) : ∃ t u, b = t ++ u ∧ (dAppend D n b).2.files = put1 n t D.files ∧ (dAppend D n b).2.room = D.room ∧
    (((dAppend D n b).1 = 0 ∧ u = [] ∧ (dAppend D n b).2.off = D.off ∧ (D.fuse = -1 → (dAppend D n b).2.fuse = -1)) ∨ ((dAppend D n b).1 = 10 ∧ (dAppend D n b).2.off = true ∧ D.fuse ≠ -1)) := by
  have e : dAppend D n b = puts n D (parts b) := by
    unfold dAppend
    rw [if_neg (by simp [ha]), if_neg (by simp [hf]), if_neg (by unfold left; omega)]
  rw [e]
  obtain ⟨t, u, h1, h2⟩ := puts_two n (parts b) D
  rw [parts_flat] at h1
  exact ⟨t, u, h1, h2⟩
theorem sync_two {n : Nm} {f : Fl} (ha : ask D [n] = 0) (hf : find D.files n = some f) : dSync D n = dStep D (upd n (fun f => { f with sy := f.bs.length })) := by
  unfold dSync
  rw [if_neg (by simp [ha]), if_neg (by simp [hf])]
theorem make_two {n : Nm} (ha : ask D [n] = 0) (hf : find D.files n = none) : dMake D n = dStep D (ins ⟨n, [], 0⟩) := by
  unfold dMake
  rw [if_neg (by simp [ha]), if_neg (by simp [hf])]

/-- the last one is synced -/
theorem Lies.sync (h : Lies l D a ps s (rsz s.recs) m) (hs : Srt D.files) (ho : D.off = false) (hl : okJ l = true) :
    (dSync D (segN l s.num) = (10, fall D)) ∨ ((dSync D (segN l s.num)).1 = 0 ∧ (dSync D (segN l s.num)).2.off = false ∧ (dSync D (segN l s.num)).2.room = D.room ∧ used (dSync D (segN l s.num)).2.files = used D.files ∧ Lies l (dSync D (segN l s.num)).2 a ps s (rsz s.recs) (cnt (ps ++ [s])) ∧
      ∃ f, find (dSync D (segN l s.num)).2.files (segN l s.num) = some f ∧ f.bs = sby s.recs ∧ f.sy = f.bs.length) := by
  obtain ⟨f, h1, h2, h3⟩ := h.last
  rw [sync_two (ask_seg ho hl _) h1]
  rcases dStep_two D (upd (segN l s.num) (fun f => { f with sy := f.bs.length })) with e | ⟨e1, e2, e3, e4, _⟩
  · exact .inl e
  · have hb : f.bs = sby s.recs := by rw [h2, List.take_of_length_le (by rw [sby_length]; exact Nat.le_refl _)]
    refine .inr ⟨e1, by rw [e3, ho], e4, by rw [e2]; exact used_upd _ _ _ (fun _ _ => rfl), h.turn hs (fun f => { f with sy := f.bs.length }) (fun _ => rfl) e2 rfl (h.good s (by simp)) (Nat.le_refl _) (fun f' hf' => ?_), ⟨{ f with sy := f.bs.length }, ?_, hb, rfl⟩⟩
    · obtain rfl := Option.some.inj (h1.symm.trans hf')
      refine ⟨h2, ?_⟩
      show cnt (ps ++ [s]) ≤ cnt ps + whr s.recs f.bs.length
      rw [hb, sby_length, whr_all, cnt_append]
      simp [cnt]
    · rw [e2, find_upd _ _ _ (fun f => ({ f with sy := f.bs.length } : Fl)) (fun _ => rfl), h1]
      simp
/-- a record more in the last one -/
theorem Lies.put (h : Lies l D a ps s (rsz s.recs) m) (hs : Srt D.files) (ho : D.off = false) (hl : okJ l = true) {b : List Int} (hb : Goodr b) (hr : used D.files + (b.length + 12) ≤ D.room) :
    ∃ k', used (dAppend D (segN l s.num) (fby (rcF b))).2.files ≤ used D.files + (b.length + 12) ∧ (dAppend D (segN l s.num) (fby (rcF b))).2.room = D.room ∧ Lies l (dAppend D (segN l s.num) (fby (rcF b))).2 a ps ⟨s.num, s.recs ++ [b]⟩ k' m ∧
      (((dAppend D (segN l s.num) (fby (rcF b))).1 = 0 ∧ k' = rsz (s.recs ++ [b]) ∧ (dAppend D (segN l s.num) (fby (rcF b))).2.off = false) ∨ (dAppend D (segN l s.num) (fby (rcF b))).1 = 10) := by
  obtain ⟨f, h1, h2, h3⟩ := h.last
  have hlen : (fby (rcF b)).length = b.length + 12 := fby_length (rcF b)
  obtain ⟨t, u, e1, e2, e3, e4⟩ := append_two (ask_seg ho hl _) h1 (by rw [hlen]; exact hr)
  have hbs : f.bs = sby s.recs := by rw [h2, List.take_of_length_le (by rw [sby_length]; exact Nat.le_refl _)]
  have htl : t.length ≤ b.length + 12 := by
    rw [← hlen, e1, List.length_append]
    omega
  refine ⟨rsz s.recs + t.length, ?_, e3, h.turn (s' := ⟨s.num, s.recs ++ [b]⟩) hs (fun f => { f with bs := f.bs ++ t }) (fun _ => rfl) e2 rfl ?_ (by rw [rsz_append, rsz_one]; omega) (fun f' hf' => ?_), ?_⟩
  · rw [e2, used_put1 hs h1]
    omega
  · intro r hr
    rcases List.mem_append.1 hr with hr | hr
    · exact h.good s (by simp) r hr
    · obtain rfl := List.mem_singleton.1 hr
      exact hb
  · obtain rfl := Option.some.inj (h1.symm.trans hf')
    refine ⟨?_, Nat.le_trans h3 (Nat.add_le_add_left (whr_append s.recs [b] _) _)⟩
    show f.bs ++ t = (sby (s.recs ++ [b])).take _
    rw [hbs, sby_append, sby_one, e1, ← List.append_assoc, List.take_append_of_le_length (by rw [List.length_append, sby_length]; exact Nat.le_refl _), List.take_of_length_le (by rw [List.length_append, sby_length]; exact Nat.le_refl _)]
  · rcases e4 with ⟨a1, a2, a3, _⟩ | ⟨a1, _⟩
    · refine .inl ⟨a1, ?_, by rw [a3, ho]⟩
      rw [a2, List.append_nil] at e1
      rw [rsz_append, rsz_one, ← e1, hlen]
    · exact .inr a1
/-- another segment -/
theorem Lies.new (h : Lies l D a ps s (rsz s.recs) (cnt (ps ++ [s]))) (hs : Srt D.files) (ho : D.off = false) (hl : okJ l = true) (hne : s.recs ≠ []) (hmx : a + cnt (ps ++ [s]) ≤ maxNo)
    (hsy : ∃ f, find D.files (segN l s.num) = some f ∧ f.bs = sby s.recs ∧ f.sy = f.bs.length) :
    (dMake D (segN l (a + cnt (ps ++ [s]))) = (10, fall D)) ∨ ((dMake D (segN l (a + cnt (ps ++ [s])))).1 = 0 ∧ (dMake D (segN l (a + cnt (ps ++ [s])))).2.off = false ∧ (dMake D (segN l (a + cnt (ps ++ [s])))).2.room = D.room ∧ used (dMake D (segN l (a + cnt (ps ++ [s])))).2.files = used D.files ∧
      Lies l (dMake D (segN l (a + cnt (ps ++ [s])))).2 a (ps ++ [s]) ⟨a + cnt (ps ++ [s]), []⟩ 0 (cnt (ps ++ [s]))) := by
  have hnum := h.num
  have hpos : 0 < s.recs.length := List.length_pos_iff.2 hne
  have hcnt : cnt (ps ++ [s]) = cnt ps + s.recs.length := by rw [cnt_append]; simp [cnt]
  have hlt : ∀ x ∈ ps ++ [s], x.num < a + cnt (ps ++ [s]) := fun x hx => by
    rcases List.mem_append.1 hx with hx | hx
    · have := h.below hs x hx
      omega
    · obtain rfl := List.mem_singleton.1 hx
      omega
  have hnone : find D.files (segN l (a + cnt (ps ++ [s]))) = none := by
    cases hf : find D.files (segN l (a + cnt (ps ++ [s]))) with
    | none => rfl
    | some f =>
      have h1 : a + cnt (ps ++ [s]) ∈ jnums l D := nos_mem.2 ⟨hmx, find_isSome.1 (by rw [hf]; rfl)⟩
      rw [h.nums] at h1
      obtain ⟨x, hx, e⟩ := List.mem_map.1 h1
      have := hlt x hx
      omega
  rw [make_two (ask_seg ho hl _) hnone]
  rcases dStep_two D (ins ⟨segN l (a + cnt (ps ++ [s])), [], 0⟩) with e | ⟨e1, e2, e3, e4, _⟩
  · exact .inl e
  refine .inr ⟨e1, by rw [e3, ho], e4, by rw [e2, used_ins]; simp, ?_⟩
  have hfd : ∀ n, find (dStep D (ins ⟨segN l (a + cnt (ps ++ [s])), [], 0⟩)).2.files n = if segN l (a + cnt (ps ++ [s])) = n then some ⟨segN l (a + cnt (ps ++ [s])), [], 0⟩ else find D.files n := fun n => by
    rw [e2]
    exact find_ins (f := ⟨segN l (a + cnt (ps ++ [s])), [], 0⟩) hnone n
  have hne2 : ∀ x ∈ ps ++ [s], ¬ segN l (a + cnt (ps ++ [s])) = segN l x.num := fun x hx e => by
    have h1 := segN_inj hmx (h.le x hx) e
    have := hlt x hx
    omega
  refine ⟨?_, ?_, ?_, ?_, ?_, ⟨⟨segN l (a + cnt (ps ++ [s])), [], 0⟩, by rw [hfd, if_pos rfl], rfl, Nat.le_add_right _ _⟩, Nat.le_refl _⟩
  · have hs2 : Srt (dStep D (ins ⟨segN l (a + cnt (ps ++ [s])), [], 0⟩)).2.files := by
      rw [e2]
      exact srt_ins hs hnone
    refine rise_ext (nos_rise ((srt_iff _).1 hs2)) ?_ fun n => ?_
    · rw [List.map_append, List.pairwise_append]
      refine ⟨h.rise hs, List.pairwise_singleton _ _, fun x hx y hy => ?_⟩
      obtain ⟨z, hz, rfl⟩ := List.mem_map.1 hx
      obtain rfl := List.mem_singleton.1 hy
      exact hlt z hz
    · rw [show n ∈ jnums l (dStep D (ins ⟨segN l (a + cnt (ps ++ [s])), [], 0⟩)).2 ↔ _ from nos_mem, List.map_append, List.mem_append, ← h.nums]
      have hmem : ∀ n, segN l n ∈ names (dStep D (ins ⟨segN l (a + cnt (ps ++ [s])), [], 0⟩)).2 ↔ segN l n = segN l (a + cnt (ps ++ [s])) ∨ segN l n ∈ names D := fun n => by
        unfold names
        rw [e2, ← find_isSome, ← find_isSome, find_ins (f := ⟨segN l (a + cnt (ps ++ [s])), [], 0⟩) hnone]
        split
        · rename_i hc
          simp only [Option.isSome_some, true_iff]
          exact .inl hc.symm
        · rename_i hc
          constructor
          · exact fun h => .inr h
          · rintro (h | h)
            · exact absurd h.symm hc
            · exact h
      rw [hmem]
      constructor
      · rintro ⟨h1, h2 | h2⟩
        · right
          rw [segN_inj h1 hmx h2]
          simp
        · exact .inl (nos_mem.2 ⟨h1, h2⟩)
      · rintro (h1 | h1)
        · obtain ⟨h2, h3⟩ := nos_mem.1 h1
          exact ⟨h2, .inr h3⟩
        · have : n = a + cnt (ps ++ [s]) := by simpa using h1
          rw [this]
          exact ⟨hmx, .inl rfl⟩
  · rw [hfd, if_neg (segN_ne_cut _ _)]
    exact h.nocut
  · rw [chn_append]
    exact ⟨h.chain, rfl, trivial⟩
  · intro x hx
    rcases List.mem_append.1 hx with hx | hx
    · exact h.good x hx
    · obtain rfl := List.mem_singleton.1 hx
      intro r hr
      cases hr
  · intro x hx
    rw [hfd, if_neg (hne2 x hx)]
    rcases List.mem_append.1 hx with hx | hx
    · exact h.full x hx
    · obtain rfl := List.mem_singleton.1 hx
      exact hsy
end
end Go.Proofs.YtbobakfcmkaijaaGreatDoor
end

section
/- What Append, a crash and Open make of a journal's disk, as plain mathematics. No program is named here. -/
namespace Go.Proofs.YtbobakfcmkaijaaGreatDoor
set_option linter.unusedVariables false

def jnA (a : Nat) (ss : List Sg) : Jn := ⟨false, a + cnt ss, ss⟩
/-- all records are there, whole; m of them are sure -/
def Whole5 (l : Nm) (D : Dsk) (J : Jn) (a : Nat) (L : List (List Int)) (m : Nat) : Prop := ∃ ps s, Lies l D a ps s (rsz s.recs) m ∧ J = jnA a (ps ++ [s]) ∧ flat (ps ++ [s]) = L
/-- where a step had an error: perhaps a part of one record more -/
def Part5 (l : Nm) (D : Dsk) (a : Nat) (L : List (List Int)) (b : List Int) (m : Nat) : Prop := (∃ ps s k, Lies l D a ps s k m ∧ (flat (ps ++ [s]) = L ∨ flat (ps ++ [s]) = L ++ [b])) ∨ (Bare l D ∧ L = [] ∧ m = 0)

section
variable {l : Nm} {D D' : Dsk} {a k m : Nat} {ps : List Sg} {s : Sg} {L : List (List Int)} {J : Jn} {b : List Int}
theorem jnA_last (a : Nat) (ps : List Sg) (s : Sg) : (jnA a (ps ++ [s])).last = s := lastOf_snoc ps s
theorem cnt_snoc (ps : List Sg) (s : Sg) : cnt (ps ++ [s]) = cnt ps + s.recs.length := by rw [cnt_append]; simp [cnt]
theorem flat_snoc (ps : List Sg) (s : Sg) : flat (ps ++ [s]) = flat ps ++ s.recs := by rw [flat_append]; simp [flat]
theorem whole_cnt (h : flat (ps ++ [s]) = L) : cnt (ps ++ [s]) = L.length := by rw [← flat_length, h]
theorem srt_app (h : Okd D) (n : Nm) (x : List Int) : Srt (dAppend D n x).2.files := (okd_append h n x).srt

theorem addRec_at (p : List Sg) (x : Sg) (r : List Int) : addRec (p ++ [x]) r = p ++ [⟨x.num, x.recs ++ [r]⟩] := by
  unfold addRec
  rw [List.dropLast_concat, getLastD_snoc]
/-- what an Append comes to -/
def Told (l : Nm) (r : Nat × Int × Dsk × Jn) (a n : Nat) (L : List (List Int)) (b : List Int) (m room u : Nat) : Prop :=
  r.2.2.1.room = room ∧ used r.2.2.1.files ≤ u ∧ ((r.2.1 = 0 ∧ r.1 = n ∧ Whole5 l r.2.2.1 r.2.2.2 a (L ++ [b]) m ∧ r.2.2.1.off = false) ∨ (r.2.1 = 10 ∧ Part5 l r.2.2.1 a L b m))
/-- the frame's bytes are put behind the last segment's -/
theorem put_told (h : Lies l D a ps s (rsz s.recs) m) (hok : Okd D) (ho : D.off = false) (hl : okJ l = true) (hb : Goodr b) (hr : used D.files + (b.length + 12) ≤ D.room) :
    Told l (jPut l D (jnA a (ps ++ [s])) b) a (a + cnt (ps ++ [s])) (flat (ps ++ [s])) b m D.room (used D.files + (b.length + 12)) := by
  obtain ⟨k', h1, h2, h3, h4⟩ := h.put hok.srt ho hl hb hr
  have hfl : flat (ps ++ [⟨s.num, s.recs ++ [b]⟩]) = flat (ps ++ [s]) ++ [b] := by rw [flat_snoc, flat_snoc, List.append_assoc]
  rcases h4 with ⟨e1, e2, e3⟩ | e1
  · have e : jPut l D (jnA a (ps ++ [s])) b = (a + cnt (ps ++ [s]), 0, (dAppend D (segN l s.num) (fby (rcF b))).2, jNote (jnA a (ps ++ [s])) b) := by
      unfold jPut
      rw [jnA_last, if_pos e1]
      rfl
    rw [e]
    refine ⟨h2, h1, .inl ⟨rfl, rfl, ⟨ps, ⟨s.num, s.recs ++ [b]⟩, by rw [e2] at h3; exact h3, ?_, hfl⟩, e3⟩⟩
    show jNote (jnA a (ps ++ [s])) b = jnA a (ps ++ [⟨s.num, s.recs ++ [b]⟩])
    unfold jNote jnA
    simp only []
    rw [addRec_at, cnt_snoc, cnt_snoc, List.length_append]
    rfl
  · have e : jPut l D (jnA a (ps ++ [s])) b = (0, jStep (jnA a (ps ++ [s])) (dAppend D (segN l s.num) (fby (rcF b)))) := by
      unfold jPut
      rw [jnA_last, if_neg (by rw [e1]; decide)]
    rw [e]
    exact ⟨h2, h1, .inr ⟨e1, .inl ⟨ps, ⟨s.num, s.recs ++ [b]⟩, k', h3, .inr hfl⟩⟩⟩
theorem jnA_next (a : Nat) (ss : List Sg) : (jnA a ss).next = a + cnt ss := rfl
theorem jBegin_at (a : Nat) (ss : List Sg) : jBegin (jnA a ss) (a + cnt ss) = jnA a (ss ++ [⟨a + cnt ss, []⟩]) := by
  unfold jBegin jnA
  simp only []
  rw [cnt_snoc]
  rfl
theorem jAppend_go {J : Jn} (h : J.off = false) (hb : Goodr b) : jAppend l D J b = if (jExtend l D J).1 = 0 then jPut l (jExtend l D J).2.1 (jExtend l D J).2.2 b else (0, jExtend l D J) := by
  unfold jAppend
  rw [if_neg (by simp [h]), if_neg (by have := hb.2; omega)]
theorem ten_ne : ¬ (10 : Int) = 0 := by decide
/-- Append, told -/
theorem append_told (h : Lies l D a ps s (rsz s.recs) m) (hok : Okd D) (ho : D.off = false) (hl : okJ l = true) (hb : Goodr b) (hr : used D.files + (b.length + 12) ≤ D.room) (hmx : a + cnt (ps ++ [s]) ≤ maxNo) :
    Told l (jAppend l D (jnA a (ps ++ [s])) b) a (a + cnt (ps ++ [s])) (flat (ps ++ [s])) b m D.room (used D.files + (b.length + 12)) := by
  rw [jAppend_go rfl hb]
  have hne : (jnA a (ps ++ [s])).segs ≠ [] := by simp [jnA]
  by_cases hsm : s.size < 4096
  · have e1 : jExtend l D (jnA a (ps ++ [s])) = (0, D, jnA a (ps ++ [s])) := by
      unfold jExtend
      rw [jnA_last, if_pos ⟨hne, hsm⟩]
    rw [e1, if_pos rfl]
    exact put_told h hok ho hl hb hr
  · have hsl : jSyncLast l D (jnA a (ps ++ [s])) = jStep (jnA a (ps ++ [s])) (dSync D (segN l s.num)) := by
      unfold jSyncLast
      rw [if_neg hne, jnA_last]
    have e1 : jExtend l D (jnA a (ps ++ [s])) = if (jSyncLast l D (jnA a (ps ++ [s]))).1 = 0 then jNew l (jSyncLast l D (jnA a (ps ++ [s]))).2.1 (jSyncLast l D (jnA a (ps ++ [s]))).2.2 else jSyncLast l D (jnA a (ps ++ [s])) := by
      unfold jExtend
      rw [jnA_last, if_neg (fun hc => hsm hc.2), if_neg (by rw [jnA_next]; omega)]
    rcases h.sync hok.srt ho hl with e2 | ⟨e2, e3, e4, e5, h2, hsy⟩
    · have e6 : jExtend l D (jnA a (ps ++ [s])) = (10, fall D, jEnd (jnA a (ps ++ [s])) 10) := by
        rw [e1, hsl, e2]
        rfl
      rw [e6, if_neg ten_ne]
      exact ⟨rfl, Nat.le_add_right _ _, .inr ⟨rfl, .inl ⟨ps, s, rsz s.recs, h.same rfl, .inl rfl⟩⟩⟩
    · have hok2 : Okd (dSync D (segN l s.num)).2 := okd_sync hok _
      have hrn : s.recs ≠ [] := fun e => by
        have : s.size = 0 := by unfold Sg.size; rw [e]; rfl
        omega
      have e6 : jSyncLast l D (jnA a (ps ++ [s])) = (0, (dSync D (segN l s.num)).2, jnA a (ps ++ [s])) := by
        rw [hsl]
        unfold jStep
        rw [e2]
        rfl
      have hm : m ≤ cnt (ps ++ [s]) := by
        obtain ⟨f, _, _, e⟩ := h.last
        have := whr_le s.recs f.sy
        rw [cnt_snoc]
        omega
      rcases h2.new hok2.srt e3 hl hrn hmx hsy with e7 | ⟨e7, e8, e9, e10, h3⟩
      · have e11 : jExtend l D (jnA a (ps ++ [s])) = (10, fall (dSync D (segN l s.num)).2, jEnd (jnA a (ps ++ [s])) 10) := by
          rw [e1, e6, if_pos rfl]
          show jNew l (dSync D (segN l s.num)).2 (jnA a (ps ++ [s])) = _
          unfold jNew
          rw [jnA_next, e7, if_neg ten_ne]
          rfl
        rw [e11, if_neg ten_ne]
        exact ⟨e4, by show used (dSync D (segN l s.num)).2.files ≤ _; rw [e5]; exact Nat.le_add_right _ _, .inr ⟨rfl, .inl ⟨ps, s, rsz s.recs, (h2.less hm).same rfl, .inl rfl⟩⟩⟩
      · have e11 : jExtend l D (jnA a (ps ++ [s])) = (0, (dMake (dSync D (segN l s.num)).2 (segN l (a + cnt (ps ++ [s])))).2, jnA a ((ps ++ [s]) ++ [⟨a + cnt (ps ++ [s]), []⟩])) := by
          rw [e1, e6, if_pos rfl]
          show jNew l (dSync D (segN l s.num)).2 (jnA a (ps ++ [s])) = _
          unfold jNew
          rw [jnA_next, if_pos e7, jBegin_at]
        rw [e11, if_pos rfl]
        have ht := put_told (b := b) (h3.less hm) (okd_make hok2 _) e8 hl hb (by rw [e10, e5, e9, e4]; exact hr)
        have ec : cnt ((ps ++ [s]) ++ [⟨a + cnt (ps ++ [s]), []⟩]) = cnt (ps ++ [s]) := by rw [cnt_snoc]; rfl
        have ef : flat ((ps ++ [s]) ++ [⟨a + cnt (ps ++ [s]), []⟩]) = flat (ps ++ [s]) := by rw [flat_snoc (ps ++ [s])]; exact List.append_nil _
        rw [ec, ef, e9, e4, e10, e5] at ht
        exact ht

/-! ## the first one -/
theorem Bare.none_ (h : Bare l D) {n : Nat} (hn : n ≤ maxNo) : find D.files (segN l n) = none := by
  cases hf : find D.files (segN l n) with
  | none => rfl
  | some f =>
    have h1 : n ∈ jnums l D := nos_mem.2 ⟨hn, find_isSome.1 (by rw [hf]; rfl)⟩
    rw [h.nums] at h1
    cases h1
theorem Bare.same (h : Bare l D) (hf : D'.files = D.files) : Bare l D' := ⟨by unfold jnums names; rw [hf]; exact h.nums, by rw [hf]; exact h.nocut⟩
theorem Bare.new (h : Bare l D) (hs : Srt D.files) (ho : D.off = false) (hl : okJ l = true) (ha : a ≤ maxNo) :
    (dMake D (segN l a) = (10, fall D)) ∨ ((dMake D (segN l a)).1 = 0 ∧ (dMake D (segN l a)).2.off = false ∧ (dMake D (segN l a)).2.room = D.room ∧ used (dMake D (segN l a)).2.files = used D.files ∧ Lies l (dMake D (segN l a)).2 a [] ⟨a, []⟩ 0 0) := by
  have hnone := h.none_ ha
  rw [make_two (ask_seg ho hl _) hnone]
  rcases dStep_two D (ins ⟨segN l a, [], 0⟩) with e | ⟨e1, e2, e3, e4, _⟩
  · exact .inl e
  refine .inr ⟨e1, by rw [e3, ho], e4, by rw [e2, used_ins]; simp, ?_⟩
  have hfd : ∀ n, find (dStep D (ins ⟨segN l a, [], 0⟩)).2.files n = if segN l a = n then some ⟨segN l a, [], 0⟩ else find D.files n := fun n => by
    rw [e2]
    exact find_ins (f := ⟨segN l a, [], 0⟩) hnone n
  refine ⟨?_, ?_, ⟨rfl, trivial⟩, ?_, (fun x hx => by cases hx), ⟨⟨segN l a, [], 0⟩, by rw [hfd, if_pos rfl], rfl, Nat.zero_le _⟩, Nat.le_refl _⟩
  · have hs2 : Srt (dStep D (ins ⟨segN l a, [], 0⟩)).2.files := by
      rw [e2]
      exact srt_ins hs hnone
    refine rise_ext (nos_rise ((srt_iff _).1 hs2)) (List.pairwise_singleton _ _) fun n => ?_
    rw [show n ∈ jnums l (dStep D (ins ⟨segN l a, [], 0⟩)).2 ↔ _ from nos_mem]
    have hmem : segN l n ∈ names (dStep D (ins ⟨segN l a, [], 0⟩)).2 ↔ segN l n = segN l a ∨ segN l n ∈ names D := by
      unfold names
      rw [e2, ← find_isSome, ← find_isSome, find_ins (f := ⟨segN l a, [], 0⟩) hnone]
      split
      · rename_i hc
        simp only [Option.isSome_some, true_iff]
        exact .inl hc.symm
      · rename_i hc
        constructor
        · exact fun h => .inr h
        · rintro (h | h)
          · exact absurd h.symm hc
          · exact h
    rw [hmem]
    constructor
    · rintro ⟨h1, h2 | h2⟩
      · rw [segN_inj h1 ha h2]
        simp
      · have : n ∈ jnums l D := nos_mem.2 ⟨h1, h2⟩
        rw [h.nums] at this
        cases this
    · intro h1
      have : n = a := by simpa using h1
      rw [this]
      exact ⟨ha, .inl rfl⟩
  · rw [hfd, if_neg (segN_ne_cut _ _)]
    exact h.nocut
  · intro x hx
    obtain rfl := List.mem_singleton.1 (by simpa using hx : x ∈ [(⟨a, []⟩ : Sg)])
    intro r hr
    cases hr
/-- the first Append of a journal without segments -/
theorem append_first (h : Bare l D) (hok : Okd D) (ho : D.off = false) (hl : okJ l = true) (hb : Goodr b) (hr : used D.files + (b.length + 12) ≤ D.room) :
    Told l (jAppend l D (jnOf []) b) 1 1 [] b 0 D.room (used D.files + (b.length + 12)) := by
  rw [jAppend_go rfl hb]
  have e1 : jExtend l D (jnOf []) = jNew l D (jnOf []) := by
    unfold jExtend jSyncLast
    have hn : (jnOf []).segs = [] := rfl
    rw [if_neg (fun hc => hc.1 rfl), if_neg (by decide), if_pos hn, if_pos rfl]
  rw [e1]
  rcases h.new (a := 1) hok.srt ho hl (by decide) with e7 | ⟨e7, e8, e9, e10, h3⟩
  · have e11 : jNew l D (jnOf []) = (10, fall D, jEnd (jnOf []) 10) := by
      unfold jNew
      rw [show (jnOf []).next = 1 from rfl, e7, if_neg ten_ne]
      rfl
    rw [e11, if_neg ten_ne]
    exact ⟨rfl, Nat.le_add_right _ _, .inr ⟨rfl, .inr ⟨h.same rfl, rfl, rfl⟩⟩⟩
  · have e11 : jNew l D (jnOf []) = (0, (dMake D (segN l 1)).2, jnA 1 ([] ++ [⟨1, []⟩])) := by
      unfold jNew
      rw [show (jnOf []).next = 1 from rfl, if_pos e7]
      rfl
    rw [e11, if_pos rfl]
    have ht := put_told (b := b) (ps := []) h3 (okd_make hok _) e8 hl hb (by rw [e10, e9]; exact hr)
    rw [e9, e10] at ht
    exact ht
end
end Go.Proofs.YtbobakfcmkaijaaGreatDoor
end

section
/- A journal's disk behind a crash; what Open finds. No program is named here. -/
namespace Go.Proofs.YtbobakfcmkaijaaGreatDoor
set_option linter.unusedVariables false

section
variable {l : Nm} {D D' : Dsk} {a k m : Nat} {ps : List Sg} {s : Sg} {L : List (List Int)} {J : Jn} {b : List Int}

/-! ## a crash -/
def fallen (D : Dsk) (ks : List Int) : Dsk := { D with files := crs D.files ks, off := false, fuse := -1 }
theorem dCrash_ok {ks : List Int} (h : ks.any (fun k => decide (k < 0)) = false) : dCrash D ks = (0, fallen D ks) := by
  unfold dCrash
  rw [if_neg (by rw [h]; decide)]
  rfl
theorem fallen_okd (h : Okd D) {ks : List Int} (hn : ks.any (fun k => decide (k < 0)) = false) : Okd (fallen D ks) := by
  have := okd_crash h ks
  rw [dCrash_ok hn] at this
  exact this
theorem fallen_names (D : Dsk) (ks : List Int) : names (fallen D ks) = names D := by
  unfold names fallen
  show (crs D.files ks).map (·.nm) = _
  rw [← crsN_all, crsN_nm]
theorem fallen_find (h : Okd D) (ks : List Int) {n : Nm} {f : Fl} (hf : find D.files n = some f) : ∃ k, find (fallen D ks).files n = some (cutTo f k) := by
  obtain ⟨h1, h2⟩ := find_some hf
  obtain ⟨i, hi, rfl⟩ := List.mem_iff_getElem.1 h1
  refine ⟨ks.getD i 0, ?_⟩
  have hs : Srt (crs D.files ks) := by
    rw [← crsN_all]
    exact crsN_srt h.srt
  have hm : cutTo D.files[i] (ks.getD i 0) ∈ crs D.files ks := by
    refine List.mem_iff_getElem.2 ⟨i, by simpa [crs] using hi, ?_⟩
    simp [crs]
  have := find_mem hs hm
  rw [show (cutTo D.files[i] (ks.getD i 0)).nm = n from h2] at this
  exact this
theorem fallen_none (ks : List Int) {n : Nm} (hf : find D.files n = none) : find (fallen D ks).files n = none := by
  cases hq : find (fallen D ks).files n with
  | none => rfl
  | some f =>
    have h1 : n ∈ names (fallen D ks) := find_isSome.1 (by rw [hq]; rfl)
    rw [fallen_names] at h1
    have h2 : (find D.files n).isSome := find_isSome.2 h1
    rw [hf] at h2
    cases h2
theorem fallen_used (D : Dsk) (ks : List Int) : used (fallen D ks).files ≤ used D.files := by
  unfold fallen
  show used (crs D.files ks) ≤ _
  rw [← crsN_all]
  exact crsN_used _ _ _
theorem Lies.fall (h : Lies l D a ps s k m) (hok : Okd D) (ks : List Int) : ∃ k', Lies l (fallen D ks) a ps s k' m := by
  obtain ⟨f, h1, h2, h3⟩ := h.last
  have hsy := hok.sy f (find_some h1).1
  obtain ⟨q, hq⟩ := fallen_find hok ks h1
  refine ⟨min (keptOf f q) k, ?_, fallen_none ks h.nocut, h.chain, h.good, ?_, ⟨_, hq, ?_, ?_⟩, by have := h.kle; omega⟩
  · unfold jnums
    rw [fallen_names]
    exact h.nums
  · intro x hx
    obtain ⟨g, e1, e2, e3⟩ := h.full x hx
    obtain ⟨q2, hq2⟩ := fallen_find hok ks e1
    have hk : keptOf g q2 = g.bs.length := by
      unfold keptOf
      rw [e3]
      omega
    refine ⟨_, hq2, ?_, ?_⟩
    · show g.bs.take (keptOf g q2) = _
      rw [hk, List.take_length, e2]
    · show keptOf g q2 = (g.bs.take (keptOf g q2)).length
      rw [hk, List.take_length]
  · show f.bs.take (keptOf f q) = _
    rw [h2, List.take_take]
  · refine Nat.le_trans h3 (Nat.add_le_add_left (whr_mono _ ?_) _)
    show f.sy ≤ keptOf f q
    unfold keptOf
    omega
theorem Bare.fall (h : Bare l D) (ks : List Int) : Bare l (fallen D ks) := ⟨by unfold jnums; rw [fallen_names]; exact h.nums, fallen_none ks h.nocut⟩

/-! ## Open -/
theorem cut_good (ho : D.off = false) (hf : D.fuse = -1) (hl : okJ l = true) (hn : find D.files (cutN l) = none) (hr : used D.files + b.length ≤ D.room) (hok : Okd D) (n : Nat) : (seqD D (cutSteps l b n)).1 = 0 := by
  have h1 := make_two (ask_cut (l := l) ho hl) hn
  obtain ⟨a1, a2, a3, a4, a5⟩ := dStep_free (t := ins ⟨cutN l, [], 0⟩) hf
  have okA : Okd (dMake D (cutN l)).2 := okd_make hok _
  rw [← h1] at a1 a2 a3 a4 a5
  have f1 : find (dMake D (cutN l)).2.files (cutN l) = some ⟨cutN l, [], 0⟩ := by
    rw [a2, find_ins (f := ⟨cutN l, [], 0⟩) hn, if_pos rfl]
  obtain ⟨t, u, b1, b2, b3, b4⟩ := append_two (b := b) (ask_cut (l := l) (by rw [a3, ho]) hl) f1 (by rw [a2, a4, used_ins]; simpa using hr)
  have b5 : (dAppend (dMake D (cutN l)).2 (cutN l) b).1 = 0 ∧ (dAppend (dMake D (cutN l)).2 (cutN l) b).2.off = false ∧ (dAppend (dMake D (cutN l)).2 (cutN l) b).2.fuse = -1 := by
    rcases b4 with ⟨c1, _, c3, c4⟩ | ⟨_, _, c3⟩
    · exact ⟨c1, by rw [c3, a3, ho], c4 a5⟩
    · exact absurd a5 c3
  have f2 : find (dAppend (dMake D (cutN l)).2 (cutN l) b).2.files (cutN l) = some ⟨cutN l, [] ++ t, 0⟩ := by
    rw [b2]
    unfold put1
    rw [find_upd _ _ _ (fun f => ({ f with bs := f.bs ++ t } : Fl)) (fun _ => rfl), f1]
    simp
  have h3 := sync_two (ask_cut (l := l) b5.2.1 hl) f2
  obtain ⟨d1, d2, d3, d4, d5⟩ := dStep_free (t := upd (cutN l) (fun f => { f with sy := f.bs.length })) b5.2.2
  rw [← h3] at d1 d2 d3 d4 d5
  have f3 : ∃ f, find (dSync (dAppend (dMake D (cutN l)).2 (cutN l) b).2 (cutN l)).2.files (cutN l) = some f := by
    rw [d2, find_upd _ _ _ (fun f => ({ f with sy := f.bs.length } : Fl)) (fun _ => rfl), f2]
    exact ⟨_, rfl⟩
  obtain ⟨f, f3⟩ := f3
  have h4 : (dRename (dSync (dAppend (dMake D (cutN l)).2 (cutN l) b).2 (cutN l)).2 (cutN l) (segN l n)).1 = 0 := by
    unfold dRename
    have ha : ask (dSync (dAppend (dMake D (cutN l)).2 (cutN l) b).2 (cutN l)).2 [cutN l, segN l n] = 0 := by
      simp [ask, d3, b5.2.1, okN_cut hl, okN_seg hl]
    rw [if_neg (by simp [ha]), f3]
    simp only []
    rw [if_neg (Ne.symm (segN_ne_cut l n))]
    exact (dStep_free d5).1
  show (seqD D [fun D => dMake D (cutN l), fun D => dAppend D (cutN l) b, fun D => dSync D (cutN l), fun D => dRename D (cutN l) (segN l n)]).1 = 0
  simp only [seqD]
  rw [if_pos a1, if_pos b5.1, if_pos d1, if_pos h4]
theorem half_no (h : find D.files (cutN l) = none) : rid l D = (0, D) := by
  have hh : half l D = false := by
    unfold half
    cases hc : (names D).contains (cutN l) with
    | false => rfl
    | true =>
      have h1 : cutN l ∈ names D := by simpa using hc
      have h2 : (find D.files (cutN l)).isSome := find_isSome.2 h1
      rw [h] at h2
      cases h2
  unfold rid
  rw [hh]
  rfl
theorem Lies.byts (h : Lies l D a ps s k m) : (∀ x ∈ ps, byts D (segN l x.num) = sby x.recs) ∧ byts D (segN l s.num) = (sby s.recs).take k := by
  constructor
  · intro x hx
    obtain ⟨f, e1, e2, _⟩ := h.full x hx
    unfold Go.Proofs.YtbobakfcmkaijaaGreatDoor.byts
    rw [e1]
    exact e2
  · obtain ⟨f, e1, e2, _⟩ := h.last
    unfold Go.Proofs.YtbobakfcmkaijaaGreatDoor.byts
    rw [e1]
    exact e2
/-- what is gone into -/
theorem Lies.found (h : Lies l D a ps s k m) : found l D (jnums l D) = ps ++ [⟨s.num, s.recs.take (whr s.recs k)⟩] := by
  have hb := h.byts
  have := goOver_lies (fun n => Go.Proofs.YtbobakfcmkaijaaGreatDoor.byts D (segN l n)) a s k h.kle ps [] none a (.inl rfl) h.chain h.good hb.1 hb.2 (fun _ => rfl)
  unfold Go.Proofs.YtbobakfcmkaijaaGreatDoor.found
  rw [h.nums, List.map_append]
  rcases this with e | ⟨e, _⟩
  · exact e
  · exact absurd rfl e
theorem Lies.opened (h : Lies l D a ps s k m) : opened l D = jnOf (ps ++ [⟨s.num, s.recs.take (whr s.recs k)⟩]) := by
  unfold Go.Proofs.YtbobakfcmkaijaaGreatDoor.opened
  rw [half_no h.nocut, h.found]
theorem Lies.open_ (h : Lies l D a ps s k m) (hok : Okd D) (ho : D.off = false) (hf : D.fuse = -1) (hl : okJ l = true) (hr : used D.files + k ≤ D.room) : (jOpen l D).1 = 0 ∧ (rsz (s.recs.take (whr s.recs k)) = k → jOpen l D = (0, D)) := by
  have e1 : jOpen l D = restD l D (jnums l D) (ps ++ [⟨s.num, s.recs.take (whr s.recs k)⟩]) := by
    unfold jOpen
    rw [half_no h.nocut, if_pos rfl, h.found]
  have hdrop : (jnums l D).drop (ps ++ [(⟨s.num, s.recs.take (whr s.recs k)⟩ : Sg)]).length = [] := by
    refine List.drop_eq_nil_of_le ?_
    rw [h.nums]
    simp
  have hlen : (Go.Proofs.YtbobakfcmkaijaaGreatDoor.byts D (segN l s.num)).length = k := by
    rw [h.byts.2, List.length_take, sby_length]
    have := h.kle
    omega
  have e2 : restD l D (jnums l D) (ps ++ [⟨s.num, s.recs.take (whr s.recs k)⟩]) = cutD l D (ps ++ [⟨s.num, s.recs.take (whr s.recs k)⟩]) := by
    unfold restD
    rw [hdrop]
    split
    · rename_i hc
      exact Prod.ext hc.symm rfl
    · rfl
  rw [e1, e2]
  unfold cutD isCut
  rw [lastOf_snoc]
  by_cases he : rsz (s.recs.take (whr s.recs k)) = k
  · rw [if_neg (by
      simp only [decide_eq_true_eq]
      rintro ⟨_, hc⟩
      exact hc (by rw [hlen]; exact he))]
    exact ⟨rfl, fun _ => rfl⟩
  · rw [if_pos (by
      simp only [decide_eq_true_eq]
      exact ⟨by simp, by rw [hlen]; exact he⟩)]
    refine ⟨cut_good ho hf hl h.nocut ?_ hok _, fun hc => absurd hc he⟩
    rw [List.length_take, hlen]
    omega
theorem Bare.open_ (h : Bare l D) : jOpen l D = (0, D) ∧ opened l D = jnOf [] := by
  have e : Go.Proofs.YtbobakfcmkaijaaGreatDoor.found l D (jnums l D) = [] := by rw [h.nums]; rfl
  constructor
  · unfold jOpen
    rw [half_no h.nocut, if_pos rfl, e, h.nums]
    rfl
  · unfold Go.Proofs.YtbobakfcmkaijaaGreatDoor.opened
    rw [half_no h.nocut, e]

/-! ## behind a crash: what Open answers -/
theorem jAll_flat (ss : List Sg) : jAll (jnOf ss) = flat ss := rfl
/-- the records that are found: all that are sure, perhaps some behind, none else -/
structure Found5 (J : Jn) (L : List (List Int)) (m n : Nat) : Prop where
  len1 : m ≤ (jAll J).length
  len2 : (jAll J).length ≤ n
  same : jAll J = L.take (jAll J).length
  first : jFirst J = 1
  next : J.next = (jAll J).length + 1
theorem Lies.found5 (h : Lies l D 1 ps s k m) (hok : Okd D) {M : List (List Int)} (hL : flat (ps ++ [s]) = M.take (flat (ps ++ [s])).length) : Found5 (Go.Proofs.YtbobakfcmkaijaaGreatDoor.opened l D) M m (flat (ps ++ [s])).length := by
  rw [h.opened]
  obtain ⟨f, h1, h2, h3⟩ := h.last
  have hj := whr_le s.recs k
  have hfl : jAll (jnOf (ps ++ [⟨s.num, s.recs.take (whr s.recs k)⟩])) = (flat (ps ++ [s])).take (cnt ps + whr s.recs k) := by
    rw [jAll_flat, flat_snoc, flat_snoc]
    show flat ps ++ s.recs.take _ = _
    rw [List.take_append, flat_length, List.take_of_length_le (l := flat ps) (by rw [flat_length]; omega), show cnt ps + whr s.recs k - cnt ps = whr s.recs k by omega]
  have hlen : (jAll (jnOf (ps ++ [⟨s.num, s.recs.take (whr s.recs k)⟩]))).length = cnt ps + whr s.recs k := by
    rw [hfl, List.length_take, flat_length, cnt_snoc]
    omega
  have hlf : (flat (ps ++ [s])).length = cnt ps + s.recs.length := by rw [flat_length, cnt_snoc]
  have hnum := h.num
  have hle := h.le
  refine ⟨?_, ?_, ?_, ?_, ?_⟩
  · rw [hlen]
    refine Nat.le_trans h3 (Nat.add_le_add_left (whr_mono _ ?_) _)
    have := hok.sy f (find_some h1).1
    rw [h2, List.length_take] at this
    omega
  · rw [hlen, hlf]
    omega
  · rw [hlen, hfl, hL, List.take_take]
    congr 1
    rw [hlf]
    omega
  · cases ps with
    | nil => 
      have : s.num = 1 := by simpa [cnt] using hnum
      exact this
    | cons x r => exact h.chain.1
  · rw [hlen]
    show nextOf (ps ++ [⟨s.num, s.recs.take (whr s.recs k)⟩]) = _
    rw [nextOf_snoc]
    show s.num + (s.recs.take _).length = _
    rw [List.length_take, hnum]
    omega
end
end Go.Proofs.YtbobakfcmkaijaaGreatDoor
end

section
/- A region that draws its order, whose last operations wait for all the others: what the loads read must stand behind the others alone. No program is named here. -/
namespace Go.Proofs.YtbobakfcmkaijaaGreatDoor
open Go

section
variable {P : Program} {l : List Oper} {ops : Array Oper} {Q : Exit → Act → World → Prop} {md : Region.Mode} {S : World → Prop} {n : Nat}

/-- whatever order is picked, and S holds behind each operation below n -/
def wpAnyG (P : Program) (md : Region.Mode) (ops : Array Oper) (Q : Exit → Act → World → Prop) (S : World → Prop) (n : Nat) : Nat → Array Bool → Act → World → Prop
  | 0, listed, a, w => Region.ready md ops listed = [] ∧ Q .normal a w
  | fuel + 1, listed, a, w =>
    (Region.ready md ops listed = [] → Q .normal a w) ∧
    ∀ i ∈ Region.ready md ops listed, wpOp P ops Q i (fun a' w' => (i < n → S w') ∧ wpAnyG P md ops Q S n fuel (listed.setIfInBounds i true) a' w') a w
theorem wpAny_of_G : ∀ (fuel : Nat) (listed : Array Bool) (a : Act) (w : World), wpAnyG P md ops Q S n fuel listed a w → wpAny P md ops Q fuel listed a w
  | 0, _, _, _, h => h
  | fuel + 1, _, _, _, h => ⟨h.1, fun i hi => wpOp_mono (fun a' w' h' => wpAny_of_G fuel _ a' w' h'.2) (h.2 i hi)⟩

def tailB (md : Region.Mode) (ops : Array Oper) (n : Nat) : Bool := Region.noSelect ops && (decide (n < ops.size) && (Region.sinkB md ops n && Region.chainB md ops n))
/-- where a walk stands: what is listed is closed, none of the last is listed -/
structure Stands (md : Region.Mode) (ops : Array Oper) (n : Nat) (listed : Array Bool) : Prop where
  tail : tailB md ops n = true
  inv : HeadInv md ops n listed
theorem Stands.no {listed : Array Bool} (h : Stands md ops n listed) : Region.noSelect ops = true ∧ n < ops.size ∧ Region.sinkB md ops n = true ∧ Region.chainB md ops n = true := by
  have := h.tail
  simp only [tailB, Bool.and_eq_true, decide_eq_true_eq] at this
  exact ⟨this.1, this.2.1, this.2.2.1, this.2.2.2⟩

theorem wpAnyG_first {i : Nat} {oi : Oper} {v : Value} (hi : ops[i]? = some oi) (hin : i < n)
    (hQ : ∀ c a w, Q (.panic c) (a.put oi.dst v) w → Q (.panic c) a w) :
    ∀ (fuel : Nat) (listed : Array Bool) (a : Act) (w : World), Stands md ops n listed →
      (∀ j oj, ops[j]? = some oj → j ≠ i → listed.getD j true = false → (∀ e ∈ oj.after, Region.binds md e = true → e.on ≠ i) → oi.apart ops oj = true) →
      i ∈ Region.ready md ops listed → YieldsIf P ops S oi v a → S w →
      wpAnyG P md ops Q S n fuel (listed.setIfInBounds i true) (a.put oi.dst v) w → wpAnyG P md ops Q S n (fuel + 1) listed a w := by
  intro fuel
  induction fuel with
  | zero =>
    intro listed a w _ _ hr hy hS H
    refine ⟨fun h => (by rw [h] at hr; cases hr), fun j hj => ?_⟩
    by_cases hji : j = i
    · subst hji; exact hy.wpOp hi hS ⟨fun _ => hS, H⟩
    · have := ready_mono hj hji
      rw [H.1] at this
      cases this
  | succ fuel ih =>
    intro listed a w st hfree hr hy hS H
    obtain ⟨hns, hn, hsk, hch⟩ := st.no
    have hsel := Region.noSelect_spec hns
    refine ⟨fun h => (by rw [h] at hr; cases hr), fun j hj => ?_⟩
    by_cases hji : j = i
    · subst hji; exact hy.wpOp hi hS ⟨fun _ => hS, H⟩
    · have h1 := H.2 j (ready_mono hj hji)
      have hun := (mem_ready.1 hr).1
      have hjn : j < n := by
        rcases Nat.lt_or_ge j n with h | h
        · exact h
        · exact absurd hj (tail_waits hsk hch hn st.inv _ i rfl hin hun j h)
      obtain ⟨hjun, oj, hoj, hall⟩ := mem_ready.1 hj
      have hnot : ∀ e ∈ oj.after, Region.binds md e = true → e.on ≠ i := fun e he hb heq => by
        have h1 := hall e he hb
        rw [heq, getD_both hun] at h1
        cases h1
      have h2 := wpOp_putIf hoj (hfree j oj hoj hji hjun hnot) (fun cs b => hsel i oi cs b hi) (fun cs b => hsel j oj cs b hoj) hQ hy h1
      have hfree' : ∀ k ok, ops[k]? = some ok → k ≠ i → (listed.setIfInBounds j true).getD k true = false →
          (∀ e ∈ ok.after, Region.binds md e = true → e.on ≠ i) → oi.apart ops ok = true := fun k ok hk hki hun hno => by
        refine hfree k ok hk hki ?_ hno
        by_cases hjk : j = k
        · subst hjk; exact hjun
        · rw [getD_set_ne true hjk] at hun; exact hun
      refine wpOp_mono (fun a' w' h3 => ⟨h3.2.1, ih (listed.setIfInBounds j true) a' w' ⟨st.tail, st.inv.set hj hjn⟩ hfree' (ready_mono hr (Ne.symm hji)) h3.1 (h3.2.1 hjn) ?_⟩) h2
      rw [Array.setIfInBounds_comm _ _ hji]
      exact h3.2.2

/-- number i is taken first -/
theorem wpAnyG_take {i : Nat} {oi : Oper} {v : Value} {fuel : Nat} {listed : Array Bool} {a : Act} {w : World} (hi : l[i]? = some oi) (hin : decide (i < n) = true) (st : Stands md l.toArray n listed)
    (hf : Region.free md l.toArray listed i = true) (hr : (Region.ready md l.toArray listed).contains i = true)
    (hQ : ∀ c a w, Q (.panic c) (a.put oi.dst v) w → Q (.panic c) a w) (hS : S w) (hy : YieldsIf P l.toArray S oi v a)
    (h : Stands md l.toArray n (listed.setIfInBounds i true) → wpAnyG P md l.toArray Q S n fuel (listed.setIfInBounds i true) (a.put oi.dst v) w) : wpAnyG P md l.toArray Q S n (fuel + 1) listed a w := by
  have hin' : i < n := by simpa using hin
  have hi' : l.toArray[i]? = some oi := by simpa using hi
  have hr' : i ∈ Region.ready md l.toArray listed := by simpa using hr
  exact wpAnyG_first hi' hin' hQ fuel listed a w st (Region.free_spec hi' hf) hr' hy hS (h ⟨st.tail, st.inv.set hr' hin'⟩)

/-- number i comes up -/
theorem stepG {i : Nat} {o : Oper} {fuel : Nat} {listed : Array Bool} {a : Act} {w : World} (ho : l[i]? = some o) (hin : decide (i < n) = true) (st : Stands md l.toArray n listed) (hr : i ∈ Region.ready md l.toArray listed)
    (h : ∀ K' : Act → World → Prop, Shut (∀ a w, S w → (S w → Stands md l.toArray n (listed.setIfInBounds i true) → wpAnyG P md l.toArray Q S n fuel (listed.setIfInBounds i true) a w) → K' a w) →
      if Region.wanted o (yielded l.toArray a.tmps) = true then Oper.wp P o a w K' Q else K' (a.put o.dst undef) w) :
    wpOp P l.toArray Q i (fun a' w' => (i < n → S w') ∧ wpAnyG P md l.toArray Q S n fuel (listed.setIfInBounds i true) a' w') a w := by
  have hin' : i < n := by simpa using hin
  exact wpOp_step (by simpa using ho) fun K' hK => h K' fun a w hS hW => hK a w ⟨fun _ => hS, hW hS ⟨st.tail, st.inv.set hr hin'⟩⟩
theorem wpAnyG_one {i : Nat} {o : Oper} {fuel : Nat} {listed : Array Bool} {a : Act} {w : World} (hr : Region.ready md l.toArray listed = [i]) (ho : l[i]? = some o) (hin : decide (i < n) = true) (st : Stands md l.toArray n listed)
    (h : ∀ K' : Act → World → Prop, Shut (∀ a w, S w → (S w → Stands md l.toArray n (listed.setIfInBounds i true) → wpAnyG P md l.toArray Q S n fuel (listed.setIfInBounds i true) a w) → K' a w) →
      if Region.wanted o (yielded l.toArray a.tmps) = true then Oper.wp P o a w K' Q else K' (a.put o.dst undef) w) :
    wpAnyG P md l.toArray Q S n (fuel + 1) listed a w := by
  refine ⟨fun h0 => (by rw [hr] at h0; cases h0), fun j hj => ?_⟩
  obtain rfl : j = i := by rw [hr] at hj; simpa using hj
  exact stepG ho hin st hj h
theorem wpAnyG_two {i j : Nat} {o o' : Oper} {fuel : Nat} {listed : Array Bool} {a : Act} {w : World} (hr : Region.ready md l.toArray listed = [i, j]) (ho : l[i]? = some o) (ho' : l[j]? = some o') (hin : decide (i < n) = true) (hin' : decide (j < n) = true) (st : Stands md l.toArray n listed)
    (h : ∀ K' : Act → World → Prop, Shut (∀ a w, S w → (S w → Stands md l.toArray n (listed.setIfInBounds i true) → wpAnyG P md l.toArray Q S n fuel (listed.setIfInBounds i true) a w) → K' a w) →
      if Region.wanted o (yielded l.toArray a.tmps) = true then Oper.wp P o a w K' Q else K' (a.put o.dst undef) w)
    (h' : ∀ K' : Act → World → Prop, Shut (∀ a w, S w → (S w → Stands md l.toArray n (listed.setIfInBounds j true) → wpAnyG P md l.toArray Q S n fuel (listed.setIfInBounds j true) a w) → K' a w) →
      if Region.wanted o' (yielded l.toArray a.tmps) = true then Oper.wp P o' a w K' Q else K' (a.put o'.dst undef) w) :
    wpAnyG P md l.toArray Q S n (fuel + 1) listed a w := by
  refine ⟨fun h0 => (by rw [hr] at h0; cases h0), fun k hk => ?_⟩
  have hk' := hk
  rw [hr] at hk'
  rcases List.mem_cons.1 hk' with rfl | hk'
  · exact stepG ho hin st hk h
  · obtain rfl : k = j := by simpa using hk'
    exact stepG ho' hin' st hk h'
/-- the last comes up -/
theorem wpAnyG_last {i : Nat} {o : Oper} {fuel : Nat} {listed : Array Bool} {a : Act} {w : World} (hr : Region.ready md l.toArray listed = [i]) (ho : l[i]? = some o) (hin : decide (n ≤ i) = true) (hr' : Region.ready md l.toArray (listed.setIfInBounds i true) = [])
    (h : ∀ K' : Act → World → Prop, Shut (∀ a w, Q .normal a w → K' a w) → if Region.wanted o (yielded l.toArray a.tmps) = true then Oper.wp P o a w K' Q else K' (a.put o.dst undef) w) :
    wpAnyG P md l.toArray Q S n (fuel + 1) listed a w := by
  have hin' : n ≤ i := by simpa using hin
  refine ⟨fun h0 => (by rw [hr] at h0; cases h0), fun j hj => ?_⟩
  obtain rfl : j = i := by rw [hr] at hj; simpa using hj
  refine wpOp_step (by simpa using ho) fun K' hK => h K' fun a w hq => hK a w ⟨fun h0 => by omega, ?_⟩
  cases fuel with
  | zero => exact ⟨hr', hq⟩
  | succ fuel => exact ⟨fun _ => hq, by rw [hr']; simp⟩
/-- one of the last comes up, others behind it -/
theorem wpAnyG_pass {i : Nat} {o : Oper} {fuel : Nat} {listed : Array Bool} {a : Act} {w : World} (hr : Region.ready md l.toArray listed = [i]) (ho : l[i]? = some o) (hin : decide (n ≤ i) = true)
    (h : ∀ K' : Act → World → Prop, Shut (∀ a w, wpAnyG P md l.toArray Q S n fuel (listed.setIfInBounds i true) a w → K' a w) → if Region.wanted o (yielded l.toArray a.tmps) = true then Oper.wp P o a w K' Q else K' (a.put o.dst undef) w) :
    wpAnyG P md l.toArray Q S n (fuel + 1) listed a w := by
  have hin' : n ≤ i := by simpa using hin
  refine ⟨fun h0 => (by rw [hr] at h0; cases h0), fun j hj => ?_⟩
  obtain rfl : j = i := by rw [hr] at hj; simpa using hj
  exact wpOp_step (by simpa using ho) fun K' hK => h K' fun a w hW => hK a w ⟨fun h0 => by omega, hW⟩
/-- the beginning -/
theorem wp_region_G {id : Nat} {a : Act} {w : World} (n : Nat) (S : World → Prop) (hm : P.follows .mixedOrders = true) (ht : tailB .any l.toArray n = true) (hS : S w.drew)
    (h : S w.drew → Stands .any l.toArray n (Array.replicate l.toArray.size false) → wpAnyG P .any l.toArray Q S n l.toArray.size (Array.replicate l.toArray.size false) a w.drew) : (Code.region id l.toArray true).wp P Q a w :=
  wp_region_any hm (wpAny_of_G _ _ _ _ (h hS ⟨ht, by simp, fun j oj _ hl => (by rw [getD_replicate_false] at hl; cases hl), fun t _ ht => getD_in (by simpa using ht) (getD_replicate_false _ _)⟩))
end
end Go.Proofs.YtbobakfcmkaijaaGreatDoor
end

section
/- Appends of whole elements, of any size, to a row of the call's own; the source may be nil. No program is named here. -/
namespace Go.Proofs.YtbobakfcmkaijaaGreatDoor
open Go.RowKit
set_option linter.unusedVariables false

section
variable {P : Program} {w : World} (t ty e : TypeId) (i : TypeInfo) (z : Value) (size bytes : Nat) (ht : P.underlying t = some (.slice e)) (hi : P.info? e = some i) (hz : i.zero = some z) (hsize : i.size = size) (hby : i.bytes = bytes) (hzs : z.cells.size = size) (hsz : 0 < size)
include ht hi hz hsize hby hzs hsz
theorem run_app_wide {B : Nat} {v : Value} {n : Nat} {xs : List Value} (hown : w.ownsRow B e size v n xs) {A : Option Addr} {m c lim : Nat} {news : List Value} (hl : news.length = m * size) (hr : Rds w lim A news) (hA : A = none → m = 0 ∧ c = 0) (h1 : ∀ u ∈ news, u.oneCell' = true)
    (h63 : n + m ≤ maxLen) (hbytes : (n + m) * bytes ≤ 140737488355328) (hB : B ≤ w.heap.size) :
    ∃ v' w', (Builtin.append_ #[t, t] ty #[v, .slice A m c]).run P w = .ok v' w' ∧ w'.ownsRow B e size v' (n + m) (xs ++ news) ∧ w.grownBy w' v.ownBlock ∧ (v'.ownBlock = v.ownBlock ∨ v'.ownBlock = some w.heap.size) := by
  cases A with
  | none =>
    obtain ⟨rfl, rfl⟩ := hA rfl
    have hn : news = [] := List.eq_nil_of_length_eq_zero (by simpa using hl)
    subst hn
    exact ⟨v, w, run_append_owned_none (P := P) w B t ty e i size ht hi _ n xs hown, by simpa using hown, World.grownBy.refl w _, .inl rfl⟩
  | some ad =>
    have hcells : ∀ j u, news[j]? = some u → w.cell? (ad.add j) = some u := fun j u hu => by
      obtain ⟨ad', e, _, hc⟩ := hr.at_ hu
      obtain rfl := Option.some.inj e
      exact hc
    obtain ⟨v', w', hrun, h2, h3, _, h5⟩ := run_append_own_at (P := P) w B t ty e i z size bytes ht hi hz hsize hby hzs hsz v n xs hown ad m c news hl hcells h1 h63 hbytes hB
    exact ⟨v', w', hrun, h2, h3, h5⟩
end

/-- the same at a step of a region that draws its order -/
theorem step_app_wide {P : Program} {w : World} {ops : Array Oper} {o : Oper} {a : Act} {K : Act → World → Prop} {Q : Exit → Act → World → Prop} {E : Prop} (hgd : o.guard = none) (s x : Operand) (t : TypeId)
    (ho : o.op = .call { callee := .builtin .append, args := #[s, x], argTypes := #[t, t] })
    (e : TypeId) (i : TypeInfo) (z : Value) (size bytes : Nat) (ht : P.underlying t = some (.slice e)) (hi : P.info? e = some i) (hz : i.zero = some z) (hsize : i.size = size) (hby : i.bytes = bytes) (hzs : z.cells.size = size) (hsz : 0 < size)
    (B : Nat) (v : Value) (n : Nat) (xs : List Value) (hs : a.eval s = v) (hown : w.ownsRow B e size v n xs)
    (A : Option Addr) (m c lim : Nat) (news : List Value) (hx : a.eval x = .slice A m c) (hl : news.length = m * size) (hr : Rds w lim A news) (hA : A = none → m = 0 ∧ c = 0) (h1 : ∀ u ∈ news, u.oneCell' = true) (h63 : n + m ≤ maxLen) (hbytes : (n + m) * bytes ≤ 140737488355328) (hB : B ≤ w.heap.size)
    (h : ∀ v' w', w'.ownsRow B e size v' (n + m) (xs ++ news) → w.grownBy w' v.ownBlock → Below B w w' → (v'.ownBlock = v.ownBlock ∨ v'.ownBlock = some w.heap.size) → K (a.put o.dst v') w') : if Region.wanted o (yielded ops a.tmps) = true then Oper.wp P o a w K Q else E := by
  have hw : Region.wanted o (yielded ops a.tmps) = true := by simp [Region.wanted, hgd]
  rw [if_pos hw]
  obtain ⟨v', w', hrun, h2, h3, h4⟩ := run_app_wide (P := P) (w := w) t o.type e i z size bytes ht hi hz hsize hby hzs hsz hown hl hr hA h1 h63 hbytes hB
  unfold Oper.wp
  simp [execOp, ho, resolve, invoke, builtin, hs, hx, hrun, Result.andThen]
  exact h v' w' h2 h3 ((Below.refl B w).grown h3 hB (fun k hk => (hown.lt k hk).1)) h4
end Go.Proofs.YtbobakfcmkaijaaGreatDoor
end
