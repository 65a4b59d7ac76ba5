/- Several texts, each a section: JSt, SMath, SNum, SObj, SLie, SLie2. -/
import Derived.Test.YtbobakfcmkaijaaGreatDoorM16
import Derived.Test.YtbobakfcmkaijaaGreatDoorM06
import Derived.Test.YtbobakfcmkaijaaGreatDoorM01
import Derived.Deep.RegionHeld3
import Derived.Test.YtbobakfcmkaijaaGreatDoorM09
import Derived.Test.YtbobakfcmkaijaaGreatDoorM13
section
/- The state of a journal and its disk between calls, as plain mathematics. -/
namespace Go.Proofs.YtbobakfcmkaijaaGreatDoor
set_option linter.unusedVariables false

/-- no fuse -/
structure Free (D : Dsk) : Prop where
  on : D.off = false
  fuse : D.fuse = -1
section
variable {l : Nm} {D D' : Dsk} {a k m : Nat} {ps : List Sg} {s : Sg} {L : List (List Int)} {J : Jn} {b : List Int}
theorem Free.ask (h : Free D) (ns : List Nm) : ask D ns ≠ 10 := by
  unfold Go.Proofs.YtbobakfcmkaijaaGreatDoor.ask
  rw [if_neg (by rw [h.on]; decide)]
  split <;> decide
theorem Free.step (h : Free D) (t : List Fl → List Fl) : (dStep D t).1 ≠ 10 ∧ Free (dStep D t).2 := by
  obtain ⟨h1, h2, h3, h4, h5⟩ := dStep_free (t := t) h.fuse
  exact ⟨by rw [h1]; decide, by rw [h3]; exact h.on, h5⟩
theorem Free.make (h : Free D) (n : Nm) : (dMake D n).1 ≠ 10 ∧ Free (dMake D n).2 := by
  unfold dMake
  split
  · exact ⟨h.ask _, h⟩
  · split
    · exact ⟨(show (7 : Int) ≠ 10 by decide), h⟩
    · exact h.step _
theorem Free.sync (h : Free D) (n : Nm) : (dSync D n).1 ≠ 10 ∧ Free (dSync D n).2 := by
  unfold dSync
  split
  · exact ⟨h.ask _, h⟩
  · split
    · exact ⟨(show (6 : Int) ≠ 10 by decide), h⟩
    · exact h.step _
theorem Free.app (h : Free D) (n : Nm) (b : List Int) : (dAppend D n b).1 ≠ 10 ∧ Free (dAppend D n b).2 := by
  unfold dAppend
  split
  · exact ⟨h.ask _, h⟩
  · split
    · exact ⟨(show (6 : Int) ≠ 10 by decide), h⟩
    · split
      · exact ⟨(show (8 : Int) ≠ 10 by decide), h⟩
      · obtain ⟨t, u, _, _, _, h4⟩ := puts_two n (parts b) D
        rcases h4 with ⟨e1, _, e3, e4⟩ | ⟨_, _, e3⟩
        · exact ⟨by rw [e1]; decide, by rw [e3]; exact h.on, e4 h.fuse⟩
        · exact absurd h.fuse e3
theorem Free.syncLast (h : Free D) : (jSyncLast l D J).1 ≠ 10 ∧ Free (jSyncLast l D J).2.1 := by
  unfold jSyncLast
  split
  · exact ⟨(show (0 : Int) ≠ 10 by decide), h⟩
  · exact h.sync _
theorem Free.extend (h : Free D) : (jExtend l D J).1 ≠ 10 ∧ Free (jExtend l D J).2.1 := by
  unfold jExtend
  split
  · exact ⟨(show (0 : Int) ≠ 10 by decide), h⟩
  · split
    · exact ⟨(show (2 : Int) ≠ 10 by decide), h⟩
    · split
      · unfold jNew
        split
        · exact ⟨(show (0 : Int) ≠ 10 by decide), (h.syncLast.2.make _).2⟩
        · exact h.syncLast.2.make _
      · exact h.syncLast
theorem Free.append (h : Free D) (hj : J.off = false) : (jAppend l D J b).2.1 ≠ 10 ∧ Free (jAppend l D J b).2.2.1 := by
  unfold jAppend
  rw [if_neg (by rw [hj]; decide)]
  split
  · exact ⟨(show (3 : Int) ≠ 10 by decide), h⟩
  · split
    · unfold jPut
      split
      · exact ⟨(show (0 : Int) ≠ 10 by decide), (h.extend.2.app _ _).2⟩
      · exact h.extend.2.app _ _
    · exact h.extend

/-- between calls, all well: the records L, m of them sure -/
structure St5 (l : Nm) (D : Dsk) (J : Jn) (L : List (List Int)) (m : Nat) : Prop where
  inv : Inv D
  on : D.off = false
  st : (Bare l D ∧ J = jnOf [] ∧ L = [] ∧ m = 0) ∨ Whole5 l D J 1 L m
theorem St5.jon (h : St5 l D J L m) : J.off = false := by
  rcases h.st with ⟨_, rfl, _⟩ | ⟨ps, s, _, rfl, _⟩ <;> rfl
theorem St5.fits (h : St5 l D J L m) (hL : L.length ≤ 1073741800) : Fits J ∧ J.segs.length < 1073741824 := by
  rcases h.st with ⟨_, rfl, _⟩ | ⟨ps, s, hl, rfl, hf⟩
  · exact ⟨bare_fits, by decide⟩
  · have hc := whole_cnt hf
    have hft := hl.fits h.inv.ok.srt (by omega)
    refine ⟨hft, ?_⟩
    have hr := hl.rise h.inv.ok.srt
    have hmem : ∀ x ∈ (ps ++ [s]).map (·.num), x ≤ 1 + cnt ps := fun y hy => by
      obtain ⟨x, hx, rfl⟩ := List.mem_map.1 hy
      rcases List.mem_append.1 hx with hx | hx
      · have := hl.below h.inv.ok.srt x hx
        have := hl.num
        omega
      · obtain rfl := List.mem_singleton.1 hx
        exact Nat.le_of_eq hl.num
    have := rise_len _ 0 (1 + cnt ps) hr (fun y hy => ⟨Nat.zero_le _, hmem y hy⟩)
    rw [List.length_map] at this
    rw [cnt_snoc] at hc
    show (ps ++ [s]).length < _
    omega
theorem St5.sure (h : St5 l D J L m) : m ≤ L.length := by
  rcases h.st with ⟨_, _, _, rfl⟩ | ⟨ps, s, hl, rfl, hf⟩
  · exact Nat.zero_le _
  · obtain ⟨f, _, _, e⟩ := hl.last
    have := whr_le s.recs f.sy
    have h2 := whole_cnt hf
    rw [cnt_snoc] at h2
    omega
theorem St5.told (h : St5 l D J L m) (hl : okJ l = true) (hb : Goodr b) (hr : used D.files + (b.length + 12) ≤ D.room) (hL : L.length + 1 ≤ maxNo) : Told l (jAppend l D J b) 1 (1 + L.length) L b m D.room (used D.files + (b.length + 12)) := by
  rcases h.st with ⟨h1, rfl, rfl, rfl⟩ | ⟨ps, s, h1, rfl, h3⟩
  · exact append_first h1 h.inv.ok h.on hl hb hr
  · have hc := whole_cnt h3
    have := append_told h1 h.inv.ok h.on hl hb hr (by omega)
    rw [hc, h3] at this
    exact this
theorem St5.next (h : St5 l D J L m) : J.next = 1 + L.length := by
  rcases h.st with ⟨_, rfl, rfl, _⟩ | ⟨ps, s, hl, rfl, hf⟩
  · rfl
  · show 1 + cnt (ps ++ [s]) = _
    rw [whole_cnt hf]
/-- Append went well -/
theorem St5.good (h : St5 l D J L m) (hb : Goodr b) {n room u : Nat} (ht : Told l (jAppend l D J b) 1 n L b m room u) (he : (jAppend l D J b).2.1 = 0) : (jAppend l D J b).1 = n ∧ St5 l (jAppend l D J b).2.2.1 (jAppend l D J b).2.2.2 (L ++ [b]) m := by
  rcases ht.2.2 with ⟨_, h2, h3, h4⟩ | ⟨h2, _⟩
  · exact ⟨h2, jAppend_inv h.inv hb, h4, .inr h3⟩
  · rw [he] at h2
    cases h2
theorem St5.bad (h : St5 l D J L m) {n room u : Nat} (ht : Told l (jAppend l D J b) 1 n L b m room u) (he : (jAppend l D J b).2.1 ≠ 0) : (jAppend l D J b).2.1 = 10 ∧ Part5 l (jAppend l D J b).2.2.1 1 L b m := by
  rcases ht.2.2 with ⟨h2, _⟩ | h2
  · exact absurd h2 he
  · exact h2
/-- what may be found behind a crash: a first part of M, of n at most, m of them sure -/
def Lost (l : Nm) (D : Dsk) (M : List (List Int)) (m n : Nat) : Prop := (∃ ps s k, Lies l D 1 ps s k m ∧ flat (ps ++ [s]) = M.take (flat (ps ++ [s])).length ∧ (flat (ps ++ [s])).length ≤ n) ∨ (Bare l D ∧ m = 0)
theorem Part5.lost (h : Part5 l D 1 L b m) {M : List (List Int)} {i : Nat} (hL : L = M.take i) (hi : i < M.length) (hb : b = M[i]) : Lost l D M m (i + 1) := by
  have hLl : L.length = i := by rw [hL, List.length_take]; omega
  rcases h with ⟨ps, s, k, h1, h2 | h2⟩ | ⟨h1, h2, h3⟩
  · refine .inl ⟨ps, s, k, h1, ?_, ?_⟩
    · rw [h2, hLl]
      exact hL
    · rw [h2, hLl]
      omega
  · have h4 : L ++ [b] = M.take (i + 1) := by
      rw [List.take_add_one, List.getElem?_eq_getElem hi, hL, hb]
      rfl
    refine .inl ⟨ps, s, k, h1, ?_, ?_⟩
    · rw [h2, List.length_append, List.length_singleton, hLl]
      exact h4
    · rw [h2, List.length_append, List.length_singleton, hLl]
      exact Nat.le_refl _
  · exact .inr ⟨h1, h3⟩
/-- Sync -/
theorem St5.sync (h : St5 l D J L m) (hl : okJ l = true) : used (jSync l D J).2.1.files = used D.files ∧ (jSync l D J).2.1.room = D.room ∧
    (((jSync l D J).1 = 0 ∧ St5 l (jSync l D J).2.1 (jSync l D J).2.2 L L.length) ∨ ((jSync l D J).1 = 10 ∧ ∀ M, L = M.take L.length → Lost l (jSync l D J).2.1 M m L.length)) := by
  have hin := jSync_inv (l := l) (J := J) h.inv
  have e0 : jSync l D J = jSyncLast l D J := by
    unfold jSync
    rw [if_neg (by simp [jRefused, h.jon, h.on])]
  rw [e0] at hin ⊢
  rcases h.st with ⟨h1, rfl, rfl, rfl⟩ | ⟨ps, s, h1, rfl, h3⟩
  · exact ⟨rfl, rfl, .inl ⟨rfl, hin, h.on, .inl ⟨h1, rfl, rfl, rfl⟩⟩⟩
  · have e1 : jSyncLast l D (jnA 1 (ps ++ [s])) = jStep (jnA 1 (ps ++ [s])) (dSync D (segN l s.num)) := by
      unfold jSyncLast
      rw [if_neg (by simp [jnA]), jnA_last]
    rw [e1] at hin ⊢
    rcases h1.sync h.inv.ok.srt h.on hl with e2 | ⟨e2, e3, e4, e5, h2, _⟩
    · rw [e2]
      refine ⟨rfl, rfl, .inr ⟨rfl, fun M hM => .inl ⟨ps, s, rsz s.recs, h1.same rfl, ?_, ?_⟩⟩⟩
      · rw [h3]
        exact hM
      · rw [h3]
        exact Nat.le_refl _
    · refine ⟨e5, e4, .inl ⟨e2, hin, e3, .inr ⟨ps, s, ?_, ?_, h3⟩⟩⟩
      · rw [← whole_cnt h3]
        exact h2
      · show jEnd (jnA 1 (ps ++ [s])) (dSync D (segN l s.num)).1 = _
        rw [e2]
        rfl
theorem St5.lost (h : St5 l D J L m) {M : List (List Int)} (hM : L = M.take L.length) : Lost l D M m L.length := by
  rcases h.st with ⟨h1, _, h3, h4⟩ | ⟨ps, s, h1, _, h3⟩
  · exact .inr ⟨h1, h4⟩
  · refine .inl ⟨ps, s, _, h1, ?_, ?_⟩
    · rw [h3]
      exact hM
    · rw [h3]
      exact Nat.le_refl _
theorem file_used {fs : List Fl} {n : Nm} {f : Fl} (h : find fs n = some f) : f.bs.length ≤ used fs := by
  unfold used
  exact le_sum5 (List.mem_map_of_mem (f := fun f => f.bs.length) (find_some h).1)
/-- behind a crash Open finds what was sure -/
theorem Lost.found {M : List (List Int)} {n : Nat} (h : Lost l D M m n) (hi : Inv D) {ks : List Int} (hn : ks.any (fun k => decide (k < 0)) = false) (hl : okJ l = true) (hr : 2 * used D.files ≤ D.room) :
    (jOpen l (fallen D ks)).1 = 0 ∧ Found5 (opened l (fallen D ks)) M m n := by
  have hfi := fallen_inv hi hn
  rcases h with ⟨ps, s, k, hl1, hf, hn2⟩ | ⟨hb, rfl⟩
  · obtain ⟨k', hk'⟩ := hl1.fall hi.ok ks
    have hus := fallen_used D ks
    have hkk : k' ≤ used (fallen D ks).files := by
      obtain ⟨f, h1, h2, _⟩ := hk'.last
      have := file_used h1
      rw [h2, List.length_take, sby_length] at this
      have := hk'.kle
      omega
    obtain ⟨ho, _⟩ := hk'.open_ hfi.ok rfl rfl hl (by show _ ≤ D.room; omega)
    have hfd := hk'.found5 hfi.ok hf
    exact ⟨ho, hfd.len1, Nat.le_trans hfd.len2 hn2, hfd.same, hfd.first, hfd.next⟩
  · obtain ⟨h1, h2⟩ := (hb.fall ks).open_
    rw [h1, h2]
    exact ⟨rfl, Nat.le_refl _, Nat.zero_le _, rfl, rfl, rfl⟩
end
end Go.Proofs.YtbobakfcmkaijaaGreatDoor
end

section
/- A checkpoint as plain mathematics: what its calls answer, and make of it and of its disk. No program is named here. -/
namespace Go.Proofs.YtbobakfcmkaijaaGreatDoor
set_option linter.unusedVariables false

/-- a snapshot: whether there is one, its number, its bytes -/
structure Sn where
  there : Bool
  upto : Nat
  bs : List Int
/-- a checkpoint in memory -/
structure Ck where
  off : Bool
  J : Jn
  sn : Sn
def sn0 : Sn := ⟨false, 1, []⟩
def snBody (x : Sn) : List Int := enc x.upto ++ x.bs
def snF (x : Sn) : Fr := ⟨2, snBody x⟩
/-- the bytes of a snapshot's file -/
def snB (x : Sn) : List Int := fby (snF x)
/-- what may be a snapshot -/
structure Sok (x : Sn) : Prop where
  byt : Byt x.bs
  len : x.bs.length ≤ 1048560
  no : x.upto ≤ maxNo
theorem snBody_len (x : Sn) : (snBody x).length ≤ x.bs.length + 10 := by
  have := enc_length x.upto
  simp only [snBody, List.length_append]
  omega
theorem Sok.body {x : Sn} (h : Sok x) : Byt (snBody x) := by
  have h1 : Byt (enc x.upto) := enc_range (by omega) (by have := h.no; unfold maxNo at this; omega)
  exact h1.append h.byt
theorem Sok.fok {x : Sn} (h : Sok x) : Fok (snF x) := ⟨by show (0 : Int) ≤ 2 ∧ (2 : Int) ≤ 255; decide, h.body, by
  have := snBody_len x
  have := h.len
  show (snBody x).length ≤ 1048576
  omega⟩
theorem snB_len (x : Sn) : (snB x).length = (snBody x).length + 12 := fby_length (snF x)
theorem Sok.byt2 {x : Sn} (h : Sok x) : Byt (snB x) := fby_byt h.fok

/-! ## the calls -/
/-- bytes put down under the name -snapnew, and given their own -/
def putSteps (nm : Nm) (b : List Int) : List (Dsk → Int × Dsk) := [fun D => dMake D (halfN lM), fun D => dAppend D (halfN lM) b, fun D => dSync D (halfN lM), fun D => dRename D (halfN lM) nm]
def sPut (D : Dsk) (nm : Nm) (b : List Int) : Int × Dsk :=
  if (dRemove D (halfN lM)).1 = 0 ∨ (dRemove D (halfN lM)).1 = 6 then seqD (dRemove D (halfN lM)).2 (putSteps nm b) else dRemove D (halfN lM)
def sChange (D : Dsk) (old nx : Sn) : Int × Dsk × Sn :=
  if (sPut D (snapN lM nx.upto) (snB nx)).1 = 0 then
    (if old.there = false ∨ old.upto = nx.upto then (0, (sPut D (snapN lM nx.upto) (snB nx)).2, nx)
     else ((dRemove (sPut D (snapN lM nx.upto) (snB nx)).2 (snapN lM old.upto)).1, (dRemove (sPut D (snapN lM nx.upto) (snB nx)).2 (snapN lM old.upto)).2, nx))
  else ((sPut D (snapN lM nx.upto) (snB nx)).1, (sPut D (snapN lM nx.upto) (snB nx)).2, old)
/-- the segments ahead go, as long as the next one begins no higher -/
def dropGo (l : Nm) (n : Nat) : List Sg → Dsk → Int × Dsk × List Sg
  | a :: b :: r, D =>
    if b.num ≤ n then
      (if (dRemove D (segN l a.num)).1 = 0 then dropGo l n (b :: r) (dRemove D (segN l a.num)).2 else ((dRemove D (segN l a.num)).1, (dRemove D (segN l a.num)).2, a :: b :: r))
    else (0, D, a :: b :: r)
  | ss, D => (0, D, ss)
def jDropped (J : Jn) (r : Int × Dsk × List Sg) : Int × Dsk × Jn := (r.1, r.2.1, jEnd { J with segs := r.2.2 } r.1)
/-- Drop, of a journal that is well, on a disk that is on -/
def jDrop (l : Nm) (D : Dsk) (J : Jn) (n : Nat) : Int × Dsk × Jn := if J.next < n then (2, D, J) else jDropped J (dropGo l n J.segs D)
def ckEnd (X : Ck) (e : Int) : Ck := if e = 10 then { X with off := true } else X
/-- Log, of a checkpoint that is well -/
def sLog (D : Dsk) (X : Ck) (b : List Int) : Nat × Int × Dsk × Ck :=
  ((jAppend lM D X.J b).1, (jAppend lM D X.J b).2.1, (jAppend lM D X.J b).2.2.1, ckEnd { X with J := (jAppend lM D X.J b).2.2.2 } (jAppend lM D X.J b).2.1)
def sSync (D : Dsk) (X : Ck) : Int × Dsk × Ck := ((jSync lM D X.J).1, (jSync lM D X.J).2.1, ckEnd { X with J := (jSync lM D X.J).2.2 } (jSync lM D X.J).1)
/-- behind the sync of the journal's -/
def sSave1 (D : Dsk) (X : Ck) (b : List Int) : Int × Dsk × Sn := sChange D X.sn ⟨true, X.J.next, b⟩
/-- Save, of a checkpoint that is well, on a disk that is on, of no more bytes than may be, and a number that may be -/
def sSave0 (D : Dsk) (X : Ck) (b : List Int) : Int × Dsk × Ck :=
  if (jSync lM D X.J).1 = 0 then
    (if (sSave1 (jSync lM D X.J).2.1 X b).1 = 0 then
      ((jDrop lM (sSave1 (jSync lM D X.J).2.1 X b).2.1 (jSync lM D X.J).2.2 X.J.next).1, (jDrop lM (sSave1 (jSync lM D X.J).2.1 X b).2.1 (jSync lM D X.J).2.2 X.J.next).2.1,
        ⟨X.off, (jDrop lM (sSave1 (jSync lM D X.J).2.1 X b).2.1 (jSync lM D X.J).2.2 X.J.next).2.2, (sSave1 (jSync lM D X.J).2.1 X b).2.2⟩)
     else ((sSave1 (jSync lM D X.J).2.1 X b).1, (sSave1 (jSync lM D X.J).2.1 X b).2.1, ⟨X.off, (jSync lM D X.J).2.2, (sSave1 (jSync lM D X.J).2.1 X b).2.2⟩))
  else ((jSync lM D X.J).1, (jSync lM D X.J).2.1, ⟨X.off, (jSync lM D X.J).2.2, X.sn⟩)
def sSave (D : Dsk) (X : Ck) (b : List Int) : Int × Dsk × Ck := ((sSave0 D X b).1, (sSave0 D X b).2.1, ckEnd (sSave0 D X b).2.2 (sSave0 D X b).1)
def sSince (X : Ck) : List (List Int) := (jAll X.J).drop (X.sn.upto - jFirst X.J)
end Go.Proofs.YtbobakfcmkaijaaGreatDoor
end

section
/- The names that the program gives a checkpoint's files, and what it reads of them. -/
namespace Go.Proofs.YtbobakfcmkaijaaGreatDoor
open Go.RowKit Go.Sort
set_option linter.unusedVariables false

/-- the variable that the library's Index reads stands -/
def MaxL (w : World) : Prop := ∃ m : Int, w.cell? ⟨1, 0, none⟩ = some (.int .i64 m)
theorem MaxL.lt {w : World} (h : MaxL w) : 1 < w.heap.size := by
  obtain ⟨m, hm⟩ := h
  exact World.block_lt_of_cell? w _ hm
theorem MaxL.go {w w' : World} (h : MaxL w) (hb : Below w.heap.size w w') : MaxL w' := by
  have hl := h.lt
  obtain ⟨m, hm⟩ := h
  exact ⟨m, by rw [hb.cell hl]; exact hm⟩
theorem MaxL.outs {S : Nat → Prop} {w w' : World} (h : MaxL w) (ho : Outs S w w') (hn : ¬ S 1) : MaxL w' := by
  have hl := h.lt
  obtain ⟨m, hm⟩ := h
  exact ⟨m, by rw [ho.cell hl hn]; exact hm⟩

theorem strOf_sz (l : Nm) : (strOf l).size = l.length := by simp [strOf, ByteArray.size]
/-- twelve digits are read -/
theorem parseUint_any (n : Nat) (hn : n ≤ maxNo) (w : World) : Calls Tryz.prog 101 #[.string (strOf (dig 12 n)), .int .i64 10, .int .i64 64] w fun e w' => e = .returned (.tuple #[.int .u64 n, .nilIface]) ∧ Below w.heap.size w w' := by
  refine (Tryz.strconv_ParseUint_10_at64_ok (strOf (dig 12 n)) (by rw [strOf_sz, dig_length]; decide) n (parse_twelve hn) w).mono ?_
  rintro e w' ⟨rfl, rfl | rfl⟩
  · exact ⟨rfl, Below.refl _ _⟩
  · exact ⟨rfl, Lib.bytesWorld_below _ _ _⟩
abbrev nM : ByteArray := ByteArray.mk #[109]
theorem lst_m : nM.data.toList = lM := rfl

theorem cell_drew {a : Addr} {v : Value} {B : Nat} {w w' : World} (h : w'.cell? a = some v ∧ Below B w w') : w'.drew.cell? a = some v ∧ Below B w w'.drew := ⟨h.1, h.2.drew⟩
theorem cell_below {a : Addr} {v : Value} {B : Nat} {w w' w2 : World} (h : w'.cell? a = some v ∧ Below B w w') (hB : B ≤ w.heap.size) (hb : Below w'.heap.size w' w2) : w2.cell? a = some v ∧ Below B w w2 :=
  ⟨by rw [hb.cell (World.block_lt_of_cell? _ _ h.1)]; exact h.1, h.2.trans (hb.mono (Nat.le_trans hB h.2.size))⟩
section
variable {st : Nat} {w : World}
set_option maxHeartbeats 1600000 in
set_option maxRecDepth 20000 in
theorem sfile_any (n : Nat) (hn : n ≤ maxNo) (w : World) (hp : Pow w) (c2 : w.cell? ⟨st, 2, none⟩ = some (.string nM)) :
    Calls Tryz.prog 62 #[.pointer (some ⟨st, 0, none⟩), .int .u64 n] w fun e w' => e = .returned (.string (strOf (snapN lM n))) ∧ Below w.heap.size w w' := by
  have hn64 : n < 18446744073709551616 := by unfold maxNo at hn; omega
  have hf := fmt_any n hn64 w hp
  have hlen := dec_len hn
  have hsz : (ByteArray.mk (Lib.decDigits n).toArray).size = (Lib.decDigits n).length := by simp [ByteArray.size]
  have hE := dig_dec 11 n (by unfold maxNo at hn; omega)
  generalize hd : Lib.decDigits n = ds at *
  have hsub : (12 : Int) - (ds.length : Int) = ((12 - ds.length : Nat) : Int) := by omega
  have HE := Lib.hid hE
  have HS := Lib.hid hsz
  have HB := Lib.hid hsub
  have hpt : Below w.heap.size w w := Below.refl _ _
  have hc2 : ∀ w1, Below w.heap.size w w1 → w1.cell? ⟨st, 2, none⟩ = some (.string nM) := fun w1 hb => by
    rw [hb.cell (World.block_lt_of_cell? w _ c2)]
    exact c2
  clear hE hd hsub hpt
  go_enter Tryz.func62, Tryz.ntmps62
  go_wp2_with fail
  refine hf.mono ?_
  rintro e w1 ⟨rfl, hb1⟩
  have c21 := hc2 w1 hb1
  have hrep := fun W => Tryz.strings_Repeat (ByteArray.mk #[48]) (12 - ds.length) W (by omega) (by show 1 * (12 - ds.length) ≤ _; omega)
  rw [← HB.out] at hrep
  have hout : nM ++ ByteArray.mk #[45, 115, 110, 97, 112, 45] ++ ByteArray.mk (Lib.repeatL (ByteArray.mk #[48]).data.toList (12 - ds.length)).toArray ++ ByteArray.mk ds.toArray = strOf (snapN lM n) := by
    apply ByteArray.ext
    apply Array.ext'
    simp only [ByteArray.data_append, Array.toList_append, strOf]
    show lM ++ markS ++ (Lib.repeatL [48] _).toArray.toList ++ _ = snapN lM n
    rw [rep_zero, snapN, ← HE.out]
    simp
  have hns : nM.size = 1 := rfl
  generalize nM = s at *
  have HO := Lib.hid hout
  have hrl : (Lib.repeatL [48] (12 - ds.length)).length = 12 - ds.length := by rw [rep_zero, List.length_replicate]
  have hq0 : ¬ 9223372036854775807 < s.size + 6 := by omega
  have hq1 : ¬ 9223372036854775807 < s.size + 6 + (Lib.repeatL [48] (12 - ds.length)).length := by omega
  have hq2 : ¬ 9223372036854775807 < s.size + 6 + (Lib.repeatL [48] (12 - ds.length)).length + ds.length := by omega
  have hS1 : w1.cell? ⟨st, 2, none⟩ = some (.string s) ∧ Below w.heap.size w w1 := ⟨c21, hb1⟩
  have hB0 := Nat.le_refl w.heap.size

  clear hout hf hsz hrl c21 hb1 hc2 c2 hns hp
  have HREP := Lib.hid hrep
  clear hrep
  go_wp2_with fail
  refine wp_region_G 12 (fun w' => w'.cell? ⟨st, 2, none⟩ = some (.string s) ∧ Below w.heap.size w w') (by kernel_rfl) (by kernel_rfl) (cell_drew hS1) (fun hSS hst => ?_)
  refine wpAnyG_take (i := 0) (v := ?_) rfl (by kernel_rfl) hst (by kernel_rfl) (by kernel_rfl) (fun _ _ _ h => h) hSS (Or.inl ⟨by rfl, ?_⟩) (fun hst2 => ?_)
  rotate_left
  · (intro w hSw; (try dsimp only at hSw); go_simp; try (with_reducible rfl))
  clear hst; have hst := hst2; clear hst2
  try simp only [Act.put, List.setIfInBounds_toArray, List.set_cons_zero, List.set_cons_succ]
  refine wpAnyG_take (i := 1) (v := ?_) rfl (by kernel_rfl) hst (by kernel_rfl) (by kernel_rfl) (fun _ _ _ h => h) hSS (Or.inl ⟨by rfl, ?_⟩) (fun hst2 => ?_)
  rotate_left
  · (intro w hSw; (try dsimp only at hSw); go_simp; try (with_reducible rfl))
  clear hst; have hst := hst2; clear hst2
  try simp only [Act.put, List.setIfInBounds_toArray, List.set_cons_zero, List.set_cons_succ]
  refine wpAnyG_take (i := 2) (v := ?_) rfl (by kernel_rfl) hst (by kernel_rfl) (by kernel_rfl) (fun _ _ _ h => h) hSS (Or.inl ⟨by rfl, ?_⟩) (fun hst2 => ?_)
  rotate_left
  · (intro w hSw; (try dsimp only at hSw); go_simp; try (with_reducible rfl))
  clear hst; have hst := hst2; clear hst2
  try simp only [Act.put, List.setIfInBounds_toArray, List.set_cons_zero, List.set_cons_succ]
  refine wpAnyG_take (i := 3) (v := ?_) rfl (by kernel_rfl) hst (by kernel_rfl) (by kernel_rfl) (fun _ _ _ h => h) hSS (Or.inl ⟨by rfl, ?_⟩) (fun hst2 => ?_)
  rotate_left
  · (intro w hSw; (try dsimp only at hSw); go_simp; try (with_reducible rfl))
  clear hst; have hst := hst2; clear hst2
  try simp only [Act.put, List.setIfInBounds_toArray, List.set_cons_zero, List.set_cons_succ]
  refine wpAnyG_take (i := 4) (v := ?_) rfl (by kernel_rfl) hst (by kernel_rfl) (by kernel_rfl) (fun _ _ _ h => h) hSS (Or.inl ⟨by rfl, ?_⟩) (fun hst2 => ?_)
  rotate_left
  · (intro w hSw; (try dsimp only at hSw); go_simp; try (with_reducible rfl))
  clear hst; have hst := hst2; clear hst2
  try simp only [Act.put, List.setIfInBounds_toArray, List.set_cons_zero, List.set_cons_succ]
  refine wpAnyG_take (i := 5) (v := ?_) rfl (by kernel_rfl) hst (by kernel_rfl) (by kernel_rfl) (fun _ _ _ h => h) hSS (Or.inl ⟨by rfl, ?_⟩) (fun hst2 => ?_)
  rotate_left
  · (intro w hSw; (try dsimp only at hSw); go_simp; try (with_reducible rfl))
  clear hst; have hst := hst2; clear hst2
  try simp only [Act.put, List.setIfInBounds_toArray, List.set_cons_zero, List.set_cons_succ]
  refine wpAnyG_take (i := 6) (v := ?_) rfl (by kernel_rfl) hst (by kernel_rfl) (by kernel_rfl) (fun _ _ _ h => h) hSS (Or.inl ⟨by rfl, ?_⟩) (fun hst2 => ?_)
  rotate_left
  · (intro w hSw; (try dsimp only at hSw); go_simp; try (with_reducible rfl))
  clear hst; have hst := hst2; clear hst2
  try simp only [Act.put, List.setIfInBounds_toArray, List.set_cons_zero, List.set_cons_succ]
  refine wpAnyG_take (i := 7) (v := ?_) rfl (by kernel_rfl) hst (by kernel_rfl) (by kernel_rfl) (fun _ _ _ h => h) hSS (Or.inl ⟨by rfl, ?_⟩) (fun hst2 => ?_)
  rotate_left
  · (intro w hSw; (try dsimp only at hSw); go_simp; try (with_reducible rfl))
  clear hst; have hst := hst2; clear hst2
  try simp only [Act.put, List.setIfInBounds_toArray, List.set_cons_zero, List.set_cons_succ]
  refine wpAnyG_take (i := 10) (v := ?_) rfl (by kernel_rfl) hst (by kernel_rfl) (by kernel_rfl) (fun _ _ _ h => h) hSS (Or.inl ⟨by rfl, ?_⟩) (fun hst2 => ?_)
  rotate_left
  · (intro w hSw; (try dsimp only at hSw); go_simp; try (with_reducible rfl))
  clear hst; have hst := hst2; clear hst2
  try simp only [Act.put, List.setIfInBounds_toArray, List.set_cons_zero, List.set_cons_succ]
  refine wpAnyG_one (i := 8) (by kernel_rfl) rfl (by kernel_rfl) hst (fun K hK => ?_)
  go_simp
  rw [show IntKind.i64.wrap (12 - (ds.length : Int)) = 12 - (ds.length : Int) from IntWalk.i64_in _ (by omega)]
  refine (HREP.out _).mono ?_
  rintro e w9 ⟨rfl, hb9⟩
  refine hK.out _ _ (cell_below (cell_drew hS1) hB0 hb9) (fun hSS2 hst2 => ?_)
  clear hst hK K hSS
  have hst := hst2
  have hSS := hSS2
  clear hst2 hSS2
  try simp only [Act.put, List.setIfInBounds_toArray, List.set_cons_zero, List.set_cons_succ]
  have hS9 := cell_below (cell_drew hS1) hB0 hb9
  clear hb9
  refine wpAnyG_take (i := 9) (v := ?_) rfl (by kernel_rfl) hst (by kernel_rfl) (by kernel_rfl) (fun _ _ _ h => h) hSS (Or.inl ⟨by rfl, ?_⟩) (fun hst2 => ?_)
  rotate_left
  · (intro w hSw; (try dsimp only at hSw); go_simp; try (with_reducible rfl))
  clear hst; have hst := hst2; clear hst2
  try simp only [Act.put, List.setIfInBounds_toArray, List.set_cons_zero, List.set_cons_succ]
  refine wpAnyG_take (i := 11) (v := ?_) rfl (by kernel_rfl) hst (by kernel_rfl) (by kernel_rfl) (fun _ _ _ h => h) hSS (Or.inl ⟨by rfl, ?_⟩) (fun hst2 => ?_)
  rotate_left
  · (intro w hSw; (try dsimp only at hSw); go_simp; try (with_reducible rfl))
  clear hst; have hst := hst2; clear hst2
  try simp only [Act.put, List.setIfInBounds_toArray, List.set_cons_zero, List.set_cons_succ]
  refine wpAnyG_last (i := 12) (by kernel_rfl) rfl (by kernel_rfl) (by kernel_rfl) (fun K hK => ?_)
  go_simp
  refine hK.out _ _ ?_
  have HB9 := Lib.hid hS9.2
  trace_state
  go_wp2
  go_returns
  exact ⟨by simp; exact HO.out, HB9.out⟩
theorem shalf_any (w : World) (c2 : w.cell? ⟨st, 2, none⟩ = some (.string nM)) :
    Calls Tryz.prog 74 #[.pointer (some ⟨st, 0, none⟩)] w fun e w' => e = .returned (.string (strOf (halfN lM))) ∧ w' = w := by
  go_enter Tryz.func74, Tryz.ntmps74
  go_wp2
  go_returns
  exact ⟨rfl, rfl⟩
/-- the number that a file's name tells: none -/
theorem snumber_no (f : ByteArray) (hf : f.size ≤ 1000) (hm : MaxL w) (hn : noMark f.data.toList) :
    Calls Tryz.prog 71 #[.pointer (some ⟨st, 0, none⟩), .string f] w fun e w' => e = .returned (.tuple #[.int .u64 0, .bool false]) ∧ Below w.heap.size w w' := by
  obtain ⟨m, hm⟩ := hm
  have hcut := Tryz.strings_Cut f (ByteArray.mk #[45, 115, 110, 97, 112, 45]) m w (by omega) hm
  rw [show Lib.cut f.data.toList (ByteArray.mk #[45, 115, 110, 97, 112, 45]).data.toList = (f.data.toList, [], false) from hn] at hcut
  clear hn hm
  go_enter Tryz.func71, Tryz.ntmps71
  go_wp2_with fail
  refine hcut.mono ?_
  rintro e w1 ⟨rfl, q, rfl⟩
  have HB := Lib.hid (bDrewN (Below.refl w.heap.size w) q)
  clear hcut
  go_wp2
  go_returns
  exact ⟨rfl, HB.out⟩
/-- .. that of a snapshot -/
theorem snumber_snap (n : Nat) (hn : n ≤ maxNo) (hm : MaxL w) (c2 : w.cell? ⟨st, 2, none⟩ = some (.string nM)) :
    Calls Tryz.prog 71 #[.pointer (some ⟨st, 0, none⟩), .string (strOf (snapN lM n))] w fun e w' => e = .returned (.tuple #[.int .u64 n, .bool true]) ∧ Below w.heap.size w w' := by
  obtain ⟨m, hm⟩ := hm
  have hcut := Tryz.strings_Cut (strOf (snapN lM n)) (ByteArray.mk #[45, 115, 110, 97, 112, 45]) m w (by rw [strOf_sz, snapN_length]; decide) hm
  rw [show Lib.cut (strOf (snapN lM n)).data.toList (ByteArray.mk #[45, 115, 110, 97, 112, 45]).data.toList = (lM, dig 12 n, true) from cut_snap n] at hcut
  have hpu : ∀ W, Calls Tryz.prog 101 #[.string (strOf (dig 12 n)), .int .i64 10, .int .i64 64] W fun e w' => e = .returned (.tuple #[.int .u64 n, .nilIface]) ∧ Below W.heap.size W w' := fun W => parseUint_any n hn W
  have hsz : (strOf (dig 12 n)).size = 12 := by rw [strOf_sz, dig_length]
  have c2q : ∀ q, (w.drewN q).cell? ⟨st, 2, none⟩ = some (.string nM) := fun q => c2
  show Calls _ _ _ _ _
  have hcut' : Calls Tryz.prog 100 #[.string (strOf (snapN lM n)), .string (ByteArray.mk #[45, 115, 110, 97, 112, 45])] w fun e w' => e = .returned (.tuple #[.string nM, .string (strOf (dig 12 n)), .bool true]) ∧ ∃ q, w' = w.drewN q := hcut
  generalize strOf (dig 12 n) = dg at *
  clear hcut hm
  go_enter Tryz.func71, Tryz.ntmps71
  go_wp2_with fail
  refine hcut'.mono ?_
  rintro e w1 ⟨rfl, q, rfl⟩
  have c2 := c2q q
  have HB := Lib.hid (bDrewN (Below.refl w.heap.size w) q)
  clear hcut' c2q
  generalize w.drewN q = w1 at *
  go_wp2_with fail
  refine (hpu w1).mono ?_
  rintro e w2 ⟨rfl, hb2⟩
  have HB2 := Lib.hid (HB.out.trans (hb2.mono HB.out.size))
  clear hb2 hpu
  go_wp2
  go_returns
  exact ⟨by simp, HB2.out⟩
/-- the program's test of a checkpoint's name, at 'm' -/
theorem smayNot_m (w : World) : Calls Tryz.prog 45 #[.string nM] w fun e w' => e = .returned (.bool false) ∧ ∃ n, w' = w.drewN n := by
  go_enter Tryz.func45, Tryz.ntmps45
  go_wp2
  refine wp_loop_rounds 2 ?_
  rw [rounds_succ]
  go_wp2
  rw [rounds_succ]
  go_wp2
  go_returns
  exact ⟨by simp, 0, rfl⟩
end
end Go.Proofs.YtbobakfcmkaijaaGreatDoor
end

section
/- A checkpoint of the program in memory, beside its journal and its disk. -/
namespace Go.Proofs.YtbobakfcmkaijaaGreatDoor
open Go.RowKit
set_option linter.unusedVariables false

def topS (st d : Nat) (off : Bool) (jp : Option Addr) (x : Sn) (A : Option Addr) (c : Nat) : Array Value :=
  #[.pointer (some ⟨st, 0, none⟩), .pointer (some ⟨d, 0, none⟩), .string nM, .bool off, .pointer jp, .bool x.there, .int .u64 x.upto, .slice A x.bs.length c]
/-- the checkpoint's own memory -/
structure StAt (w : World) (U : Nat → Prop) (st d : Nat) (off : Bool) (jp : Option Addr) (x : Sn) (A : Option Addr) (c : Nat) : Prop where
  top : Whole w st 50 (topS st d off jp x A c)
  rds : Rds w w.heap.size A (c8 x.bs)
  ub : ∀ ad, A = some ad → c8 x.bs ≠ [] → U ad.block ∧ ad.block ≠ st
  us : U st
  lt : ∀ k, U k → k < w.heap.size
def StP (w : World) (U : Nat → Prop) (st d : Nat) (off : Bool) (jp : Option Addr) (x : Sn) : Prop := ∃ A c, StAt w U st d off jp x A c

/-- a checkpoint, its journal, its disk -/
structure SD (w : World) (S T U : Nat → Prop) (st j d : Nat) (D : Dsk) (X : Ck) : Prop where
  jd : JD w S T j d nM D X.J
  st : StP w U st d X.off (some ⟨j, 0, none⟩) X.sn
  dis : ∀ k, U k → ¬ S k ∧ ¬ T k
  mx : MaxL w
  e0 : ∀ k, S k ∨ T k ∨ U k → k ≠ 1 ∧ k ≠ 0
/-- what a call of a checkpoint's leaves -/
structure TurnS (S T U S' T' U' : Nat → Prop) (w w' : World) : Prop where
  outs : Outs (fun k => S k ∨ T k ∨ U k) w w'
  new : ∀ k, S' k ∨ T' k ∨ U' k → (S k ∨ T k ∨ U k) ∨ w.heap.size ≤ k

section
variable {w w' w2 : World} {S T U S' T' U' S2 T2 U2 V : Nat → Prop} {st j d : Nat} {D D' : Dsk} {X X' : Ck} {off : Bool} {jp : Option Addr} {x : Sn} {A : Option Addr} {c : Nat}
theorem TurnS.refl (S T U : Nat → Prop) (w : World) : TurnS S T U S T U w w := ⟨Outs.refl _ w, fun _ h => .inl h⟩
theorem TurnS.below (h : Below w.heap.size w w') : TurnS S T U S T U w w' := ⟨Outs.of h, fun _ h => .inl h⟩
theorem TurnS.trans (h : TurnS S T U S' T' U' w w') (k : TurnS S' T' U' S2 T2 U2 w' w2) : TurnS S T U S2 T2 U2 w w2 :=
  ⟨h.outs.trans k.outs (fun i hi => h.new i hi), fun i hi => by
    rcases k.new i hi with e | e
    · exact h.new i e
    · exact .inr (Nat.le_trans h.outs.size e)⟩
theorem TurnS.jour (h : TurnJ S T S' T' w w') : TurnS S T U S' T' U w w' :=
  ⟨h.outs.mono fun k hk => by rcases hk with hk | hk; exact .inl hk; exact .inr (.inl hk), fun k hk => by
    rcases hk with hk | hk | hk
    · rcases h.ns k hk with e | e
      · exact .inl (.inl e)
      · exact .inr e
    · rcases h.nt k hk with e | e
      · exact .inl (.inr (.inl e))
      · exact .inr e
    · exact .inl (.inr (.inr hk))⟩
theorem StAt.c0 (h : StAt w U st d off jp x A c) : w.cell? ⟨st, 0, none⟩ = some (.pointer (some ⟨st, 0, none⟩)) := h.top.cell 0
theorem StAt.c1 (h : StAt w U st d off jp x A c) : w.cell? ⟨st, 1, none⟩ = some (.pointer (some ⟨d, 0, none⟩)) := h.top.cell 1
theorem StAt.c2 (h : StAt w U st d off jp x A c) : w.cell? ⟨st, 2, none⟩ = some (.string nM) := h.top.cell 2
theorem StAt.c3 (h : StAt w U st d off jp x A c) : w.cell? ⟨st, 3, none⟩ = some (.bool off) := h.top.cell 3
theorem StAt.c4 (h : StAt w U st d off jp x A c) : w.cell? ⟨st, 4, none⟩ = some (.pointer jp) := h.top.cell 4
theorem StAt.c5 (h : StAt w U st d off jp x A c) : w.cell? ⟨st, 5, none⟩ = some (.bool x.there) := h.top.cell 5
theorem StAt.c6 (h : StAt w U st d off jp x A c) : w.cell? ⟨st, 6, none⟩ = some (.int .u64 x.upto) := h.top.cell 6
theorem StAt.c7 (h : StAt w U st d off jp x A c) : w.cell? ⟨st, 7, none⟩ = some (.slice A x.bs.length c) := h.top.cell 7
theorem StAt.fz (h : StAt w U st d off jp x A c) (i : Nat) : w.frozen? ⟨st, i, none⟩ = false := h.top.frozen i
theorem StAt.outs (h : StAt w U st d off jp x A c) (ho : Outs V w w') (hn : ∀ k, U k → ¬ V k) : StAt w' U st d off jp x A c :=
  ⟨h.top.outs ho (hn _ h.us), h.rds.outsW ho (Nat.le_refl _) (fun ad e hne => hn _ (h.ub ad e hne).1), h.ub, h.us, fun k hk => Nat.lt_of_lt_of_le (h.lt k hk) ho.size⟩
theorem StAt.go (h : StAt w U st d off jp x A c) (hb : Below w.heap.size w w') : StAt w' U st d off jp x A c := h.outs (V := fun _ => False) (Outs.of hb) (fun _ _ h => h)
theorem StP.outs (h : StP w U st d off jp x) (ho : Outs V w w') (hn : ∀ k, U k → ¬ V k) : StP w' U st d off jp x := by
  obtain ⟨A, c, h⟩ := h
  exact ⟨A, c, h.outs ho hn⟩
theorem StP.go (h : StP w U st d off jp x) (hb : Below w.heap.size w w') : StP w' U st d off jp x := by
  obtain ⟨A, c, h⟩ := h
  exact ⟨A, c, h.go hb⟩
theorem StP.lt (h : StP w U st d off jp x) : ∀ k, U k → k < w.heap.size := by
  obtain ⟨A, c, h⟩ := h
  exact h.lt
theorem StP.us (h : StP w U st d off jp x) : U st := by
  obtain ⟨A, c, h⟩ := h
  exact h.us
theorem StP.c0 (h : StP w U st d off jp x) : w.cell? ⟨st, 0, none⟩ = some (.pointer (some ⟨st, 0, none⟩)) := by
  obtain ⟨A, c, h⟩ := h
  exact h.c0
theorem StP.c1 (h : StP w U st d off jp x) : w.cell? ⟨st, 1, none⟩ = some (.pointer (some ⟨d, 0, none⟩)) := by
  obtain ⟨A, c, h⟩ := h
  exact h.c1
theorem StP.c2 (h : StP w U st d off jp x) : w.cell? ⟨st, 2, none⟩ = some (.string nM) := by
  obtain ⟨A, c, h⟩ := h
  exact h.c2
theorem StP.c3 (h : StP w U st d off jp x) : w.cell? ⟨st, 3, none⟩ = some (.bool off) := by
  obtain ⟨A, c, h⟩ := h
  exact h.c3
theorem StP.c4 (h : StP w U st d off jp x) : w.cell? ⟨st, 4, none⟩ = some (.pointer jp) := by
  obtain ⟨A, c, h⟩ := h
  exact h.c4
theorem StP.c5 (h : StP w U st d off jp x) : w.cell? ⟨st, 5, none⟩ = some (.bool x.there) := by
  obtain ⟨A, c, h⟩ := h
  exact h.c5
theorem StP.c6 (h : StP w U st d off jp x) : w.cell? ⟨st, 6, none⟩ = some (.int .u64 x.upto) := by
  obtain ⟨A, c, h⟩ := h
  exact h.c6
theorem StP.fz (h : StP w U st d off jp x) (i : Nat) : w.frozen? ⟨st, i, none⟩ = false := by
  obtain ⟨A, c, h⟩ := h
  exact h.fz i
/-- a cell of its own is written -/
theorem StAt.put (h : StAt w U st d off jp x A c) (i : Nat) (u : Value) {off' : Bool} {jp' : Option Addr} (hc : (topS st d off jp x A c).setIfInBounds i u = topS st d off' jp' x A c) : StAt (w.setCell ⟨st, i, none⟩ u) U st d off' jp' x A c :=
  { top := by
      have := h.top.put i u
      rwa [hc] at this
    rds := by
      intro hne
      obtain ⟨ad, e, hlt, hcell⟩ := h.rds hne
      refine ⟨ad, e, by simpa [World.setCell] using hlt, fun k v hk => ?_⟩
      have := (h.ub ad e hne).2
      rw [World.cell?_of_block (Below.heap_setCell w ⟨st, i, none⟩ u _ (by rw [blk_add]; exact this))]
      exact hcell k v hk
    ub := h.ub, us := h.us
    lt := fun k hk => by simpa [World.setCell] using h.lt k hk }
theorem SD.go (h : SD w S T U st j d D X) (hb : Below w.heap.size w w') : SD w' S T U st j d D X := ⟨h.jd.go hb, h.st.go hb, h.dis, h.mx.go hb, h.e0⟩
theorem SD.e1 (h : SD w S T U st j d D X) {S' T' U' : Nat → Prop} (hn : ∀ k, S' k ∨ T' k ∨ U' k → (S k ∨ T k ∨ U k) ∨ w.heap.size ≤ k) : ∀ k, S' k ∨ T' k ∨ U' k → k ≠ 1 ∧ k ≠ 0 := fun k hk => by
  rcases hn k hk with e | e
  · exact h.e0 k e
  · have h1 := h.mx.lt
    have h2 := h.jd.pow.lt
    omega
/-- the journal, or the disk, turns -/
theorem SD.jour (h : SD w S T U st j d D X) {J' : Jn} (hj : JD w' S' T' j d nM D' J') (ht : TurnJ S T S' T' w w') : SD w' S' T' U st j d D' { X with J := J' } ∧ TurnS S T U S' T' U w w' := by
  have hlt := h.st.lt
  have hT : TurnS S T U S' T' U w w' := TurnS.jour ht
  refine ⟨⟨hj, h.st.outs ht.outs (fun k hk hh => by rcases hh with hh | hh; exact (h.dis k hk).1 hh; exact (h.dis k hk).2 hh), fun k hk => ⟨fun hh => ?_, fun hh => ?_⟩, h.mx.outs ht.outs (fun hh => ?_), h.e1 hT.new⟩, hT⟩
  · rcases ht.ns k hh with e | e
    · exact (h.dis k hk).1 e
    · have := hlt k hk; omega
  · rcases ht.nt k hh with e | e
    · exact (h.dis k hk).2 e
    · have := hlt k hk; omega
  · rcases hh with hh | hh
    · exact (h.e0 _ (.inl hh)).1 rfl
    · exact (h.e0 _ (.inr (.inl hh))).1 rfl
theorem SD.disk (h : SD w S T U st j d D X) (hk : Dk 0 w' S' d D') (ht : Turn S S' w w') : SD w' S' T U st j d D' X ∧ TurnS S T U S' T U w w' := by
  obtain ⟨h1, h2⟩ := h.jd.disk hk ht
  exact h.jour h1 h2
/-- the checkpoint's own memory turns -/
theorem SD.own (h : SD w S T U st j d D X) {off' : Bool} {x' : Sn} (hs : StP w' U' st d off' (some ⟨j, 0, none⟩) x') (ho : Outs U w w') (hn : ∀ k, U' k → U k ∨ w.heap.size ≤ k) : SD w' S T U' st j d D ⟨off', X.J, x'⟩ ∧ TurnS S T U S T U' w w' := by
  have hS := h.jd.dk.lt
  have hTl := h.jd.jo.lt
  have hT : TurnS S T U S T U' w w' := ⟨ho.mono fun k hk => .inr (.inr hk), fun k hk => by
    rcases hk with hk | hk | hk
    · exact .inl (.inl hk)
    · exact .inl (.inr (.inl hk))
    · rcases hn k hk with e | e
      · exact .inl (.inr (.inr e))
      · exact .inr e⟩
  refine ⟨⟨⟨h.jd.dk.outs ho (fun k hk hh => (h.dis k hh).1 hk), h.jd.jo.outs ho (fun k hk hh => (h.dis k hh).2 hk), h.jd.dis, h.jd.s0, h.jd.t0, h.jd.pow.outs ho (fun hh => (h.e0 _ (.inr (.inr hh))).2 rfl), h.jd.nm⟩, hs, fun k hk => ?_, h.mx.outs ho (fun hh => (h.e0 _ (.inr (.inr hh))).1 rfl), h.e1 hT.new⟩, hT⟩
  rcases hn k hk with e | e
  · exact h.dis k e
  · exact ⟨fun hh => by have := hS k hh; omega, fun hh => by have := hTl k hh; omega⟩

/-! ## the smallest methods -/
theorem seql_nil (d : Nat) (w : World) : (binOp .eql 27 (.pointer (some ⟨d, 0, none⟩)) (.pointer none)).run Tryz.prog w = .ok (.bool false) w := by
  have h : ∀ k : Nat, (Op.equalIn (k + 1) 27 (.pointer (some ⟨d, 0, none⟩)) (.pointer none)).run Tryz.prog w = .ok false w := fun k => by
    simp [Op.equalIn, run_underlying Tryz.underlying27]
  simp only [binOp]
  simp [Op.equal, Op.maxDepth, h 9999]
theorem infoSt : (Tryz.prog.info? 50).isSome = true := by kernel_rfl
theorem sneq_same (d : Nat) (w : World) : (binOp .neq 27 (.pointer (some ⟨d, 0, none⟩)) (.pointer (some ⟨d, 0, none⟩))).run Tryz.prog w = .ok (.bool false) w := by
  obtain ⟨j, hj⟩ := Option.isSome_iff_exists.1 infoSt
  exact Go.Lib.run_neq_ptr_same (P := Tryz.prog) w _ Tryz.underlying27 hj
theorem sneq_nil (d : Nat) (w : World) : (binOp .neq 27 (.pointer none) (.pointer (some ⟨d, 0, none⟩))).run Tryz.prog w = .ok (.bool true) w := by
  have h : ∀ k : Nat, (Op.equalIn (k + 1) 27 (.pointer none) (.pointer (some ⟨d, 0, none⟩))).run Tryz.prog w = .ok false w := fun k => by
    simp [Op.equalIn, run_underlying Tryz.underlying27]
  simp only [binOp]
  simp [Op.equal, Op.maxDepth, h 9999]
set_option maxRecDepth 4000 in
theorem snobodys_no (d : Nat) (w : World) (h0 : w.cell? ⟨d, 0, none⟩ = some (.pointer (some ⟨d, 0, none⟩))) :
    Calls Tryz.prog 24 #[.pointer (some ⟨d, 0, none⟩)] w fun e w' => e = .returned (.bool false) ∧ w' = w := by
  have hq := sneq_same d w
  go_enter Tryz.func24, Tryz.ntmps24
  go_wp2
  go_ret
  exact ⟨by simp, rfl⟩
theorem snobodys_nil (w : World) :
    Calls Tryz.prog 24 #[.pointer none] w fun e w' => e = .returned (.bool true) ∧ w' = w := by
  go_enter Tryz.func24, Tryz.ntmps24
  go_wp2
  go_ret
  exact ⟨by simp, rfl⟩
set_option maxRecDepth 4000 in
theorem snobodys_zero (d : Nat) (w : World) (h0 : w.cell? ⟨d, 0, none⟩ = some (.pointer none)) :
    Calls Tryz.prog 24 #[.pointer (some ⟨d, 0, none⟩)] w fun e w' => e = .returned (.bool true) ∧ w' = w := by
  have hq := sneq_nil d w
  go_enter Tryz.func24, Tryz.ntmps24
  go_wp2
  go_ret
  exact ⟨by simp, rfl⟩
/-- a pointer that is no checkpoint's -/
def NobodyS (w : World) (p : Option Addr) : Prop := p = none ∨ ∃ d, p = some ⟨d, 0, none⟩ ∧ w.cell? ⟨d, 0, none⟩ = some (.pointer none)
theorem snobodys_yes (p : Option Addr) (w : World) (h : NobodyS w p) :
    Calls Tryz.prog 24 #[.pointer p] w fun e w' => e = .returned (.bool true) ∧ w' = w := by
  rcases h with rfl | ⟨d, rfl, h⟩
  · exact snobodys_nil w
  · exact snobodys_zero d w h
theorem srefusal_ok (w : World) (c0 : w.cell? ⟨st, 0, none⟩ = some (.pointer (some ⟨st, 0, none⟩))) (c3 : w.cell? ⟨st, 3, none⟩ = some (.bool false)) :
    Calls Tryz.prog 26 #[.pointer (some ⟨st, 0, none⟩)] w fun e w' => e = .returned (.int .i64 0) ∧ w' = w := by
  have hnb := snobodys_no st w c0
  go_enter Tryz.func26, Tryz.ntmps26
  go_wp2_with fail
  refine hnb.mono ?_
  rintro e w1 ⟨rfl, hw1⟩
  rw [hw1]
  clear hw1 w1
  go_wp2
  go_returns
  exact ⟨by simp, rfl⟩
theorem srefusal_no (p : Option Addr) (w : World) (h : NobodyS w p) :
    Calls Tryz.prog 26 #[.pointer p] w fun e w' => e = .returned (.int .i64 1) ∧ w' = w := by
  have hc := snobodys_yes p w h
  go_enter Tryz.func26, Tryz.ntmps26
  go_wp2_with fail
  refine hc.mono ?_
  rintro e w1 ⟨rfl, hw⟩
  rw [hw]
  clear hw w1
  go_wp2
  go_returns
  exact ⟨by simp, rfl⟩
/-- 's.end(e)' -/
theorem send_any (e : Int) (w : World) (h : SD w S T U st j d D X) :
    Calls Tryz.prog 28 #[.pointer (some ⟨st, 0, none⟩), .int .i64 e] w fun r w' => r = .returned (.int .i64 e) ∧ SD w' S T U st j d D (ckEnd X e) ∧ TurnS S T U S T U w w' := by
  by_cases he : e = 10
  · subst he
    obtain ⟨A, c, hs⟩ := h.st
    have f3 := hs.fz 3
    have c3 := hs.c3
    have e1 : ckEnd X 10 = ⟨true, X.J, X.sn⟩ := by simp [ckEnd]
    have h1 : StAt (w.setCell ⟨st, 3, none⟩ (.bool true)) U st d true (some ⟨j, 0, none⟩) X.sn A c := hs.put 3 _ (by simp [topS])
    have h2 := h.own (U' := U) ⟨A, c, h1⟩ ((Outs.refl _ _).setCell (.inl hs.us) _) (fun k hk => .inl hk)
    rw [e1]
    have H2 := Lib.hid h2
    clear h1 h2 e1 h hs
    go_enter Tryz.func28, Tryz.ntmps28
    go_wp2
    go_returns
    exact ⟨by simp, H2.out.1, H2.out.2⟩
  · have hn : (e == 10) = false := by simpa using he
    have e1 : ckEnd X e = X := by simp [ckEnd, he]
    rw [e1]
    have H1 := Lib.hid h
    clear e1 h
    go_enter Tryz.func28, Tryz.ntmps28
    go_wp2
    go_returns
    exact ⟨by simp, H1.out, TurnS.refl _ _ _ _⟩
end
end Go.Proofs.YtbobakfcmkaijaaGreatDoor
end

section
/- What lies on a checkpoint's disk, as plain mathematics: the journal's files, and the snapshots'. No program is named here. -/
namespace Go.Proofs.YtbobakfcmkaijaaGreatDoor
set_option linter.unusedVariables false

section
variable {l : Nm} {D D' D2 : Dsk} {a k m q : Nat} {ps : List Sg} {s : Sg} {xs : List Sn} {x y : Sn} {b : List Int}

/-! ## files come and go that are not the journal's -/
/-- the journal's files are as they were -/
structure Apart (l : Nm) (D D' : Dsk) : Prop where
  seg : ∀ n, find D'.files (segN l n) = find D.files (segN l n)
  cut : find D'.files (cutN l) = find D.files (cutN l)
theorem Apart.refl (l : Nm) (D : Dsk) : Apart l D D := ⟨fun _ => rfl, rfl⟩
theorem Apart.trans (h : Apart l D D') (k : Apart l D' D2) : Apart l D D2 := ⟨fun n => (k.seg n).trans (h.seg n), k.cut.trans h.cut⟩
theorem Apart.of (h : D'.files = D.files) : Apart l D D' := ⟨fun n => by rw [h], by rw [h]⟩
theorem Apart.nums (h : Apart l D D') (hs : Srt D.files) (hs' : Srt D'.files) : jnums l D' = jnums l D := by
  refine rise_ext (nos_rise ((srt_iff _).1 hs')) (nos_rise ((srt_iff _).1 hs)) fun n => ?_
  rw [show n ∈ jnums l D' ↔ _ from nos_mem, show n ∈ jnums l D ↔ _ from nos_mem]
  unfold names
  rw [← find_isSome, ← find_isSome, h.seg]
theorem Lies.apart (h : Lies l D a ps s k m) (hp : Apart l D D') (hs : Srt D.files) (hs' : Srt D'.files) : Lies l D' a ps s k m :=
  ⟨by rw [hp.nums hs hs']; exact h.nums, by rw [hp.cut]; exact h.nocut, h.chain, h.good, fun x hx => by rw [hp.seg]; exact h.full x hx, by rw [hp.seg]; exact h.last, h.kle⟩
theorem Bare.apart (h : Bare l D) (hp : Apart l D D') (hs : Srt D.files) (hs' : Srt D'.files) : Bare l D' := ⟨by rw [hp.nums hs hs']; exact h.nums, by rw [hp.cut]; exact h.nocut⟩

/-- the snapshots' files: each whole and synced; perhaps one half written -/
structure Snaps (D : Dsk) (xs : List Sn) : Prop where
  cls : ∀ f ∈ names D, (∃ n, f = segN lM n) ∨ (∃ x ∈ xs, f = snapN lM x.upto) ∨ f = halfN lM
  at_ : ∀ x ∈ xs, x.there = true ∧ Sok x ∧ ∃ f, find D.files (snapN lM x.upto) = some f ∧ f.bs = snB x ∧ f.sy = f.bs.length
  rise : xs.Pairwise (fun x y => x.upto < y.upto)
theorem Snaps.same (h : Snaps D xs) (hf : D'.files = D.files) : Snaps D' xs := ⟨by unfold names; rw [hf]; exact h.cls, by rw [hf]; exact h.at_, h.rise⟩
/-- only journal's files turned, or the half one -/
theorem Snaps.turn (h : Snaps D xs) (hc : ∀ f, (find D'.files f).isSome → (find D.files f).isSome ∨ (∃ n, f = segN lM n) ∨ f = halfN lM) (hs : ∀ n, find D'.files (snapN lM n) = find D.files (snapN lM n)) : Snaps D' xs := by
  refine ⟨fun f hf => ?_, fun x hx => by rw [hs]; exact h.at_ x hx, h.rise⟩
  rcases hc f (find_isSome.2 hf) with e | e | e
  · exact h.cls f (find_isSome.1 e)
  · exact .inl e
  · exact .inr (.inr e)
theorem Snaps.fall (h : Snaps D xs) (hok : Okd D) (ks : List Int) : Snaps (fallen D ks) xs := by
  refine ⟨by rw [fallen_names]; exact h.cls, fun x hx => ?_, h.rise⟩
  obtain ⟨h1, h2, f, h3, h4, h5⟩ := h.at_ x hx
  obtain ⟨q, hq⟩ := fallen_find hok ks h3
  have hk : keptOf f q = f.bs.length := by unfold keptOf; rw [h5]; omega
  refine ⟨h1, h2, _, hq, ?_, ?_⟩
  · show f.bs.take (keptOf f q) = _
    rw [hk, List.take_length, h4]
  · show keptOf f q = (f.bs.take (keptOf f q)).length
    rw [hk, List.take_length]

/-! ## the disk's steps at a file that is not the journal's -/
theorem ask_half (ho : D.off = false) : ask D [halfN lM] = 0 := by simp [ask, ho, show okN (halfN lM) = true by decide]
theorem okN_snap (n : Nat) : okN (snapN lM n) = true := by
  refine okN_of (by rw [snapN_length]; decide) (by rw [snapN_length]; decide) fun b hb => ?_
  unfold snapN at hb
  rcases List.mem_append.1 hb with hb | hb
  · obtain rfl := List.mem_singleton.1 hb
    decide
  · rcases List.mem_append.1 hb with hb | hb
    · have : ∀ b ∈ markS, 33 ≤ b.toNat ∧ b.toNat ≤ 126 := by decide
      exact this b hb
    · have := dig_chars 12 n b hb
      omega
theorem ask_snap (ho : D.off = false) (n : Nat) : ask D [snapN lM n] = 0 := by simp [ask, ho, okN_snap]
theorem ask_two (ho : D.off = false) (n : Nat) : ask D [halfN lM, snapN lM n] = 0 := by simp [ask, ho, okN_snap, show okN (halfN lM) = true by decide]
/-- all but that one are as they were -/
def But (f : Nm) (D D' : Dsk) : Prop := ∀ g, g ≠ f → find D'.files g = find D.files g
theorem But.refl (f : Nm) (D : Dsk) : But f D D := fun _ _ => rfl
theorem But.trans {f : Nm} (h : But f D D') (k : But f D' D2) : But f D D2 := fun g hg => (k g hg).trans (h g hg)
theorem But.of {f : Nm} (h : D'.files = D.files) : But f D D' := fun g _ => by rw [h]
theorem But.apart_half (h : But (halfN lM) D D') : Apart lM D D' := ⟨fun n => h _ (seg_ne_half lM n), h _ (Ne.symm (half_ne_cut lM))⟩
theorem But.apart_snap {n : Nat} (h : But (snapN lM n) D D') : Apart lM D D' := ⟨fun k => h _ (Ne.symm (snap_ne_seg lM n k)), h _ (Ne.symm (snap_ne_cut lM n))⟩
theorem Snaps.half (h : Snaps D xs) (hb : But (halfN lM) D D') : Snaps D' xs := h.turn (fun f hf => by
  by_cases e : f = halfN lM
  · exact .inr (.inr e)
  · rw [hb f e] at hf
    exact .inl hf) (fun n => hb _ (snap_ne_half lM n))
end
end Go.Proofs.YtbobakfcmkaijaaGreatDoor
end

section
/- What Save's writing makes of a checkpoint's disk, as plain mathematics. No program is named here. -/
namespace Go.Proofs.YtbobakfcmkaijaaGreatDoor
set_option linter.unusedVariables false

section
variable {l : Nm} {D D' D2 : Dsk} {a k m q : Nat} {ps : List Sg} {s : Sg} {xs : List Sn} {x y : Sn} {b : List Int}

theorem find_mv {fs : List Fl} {f : Fl} {l m : Nm} (g : Nm) : find (mv f l m fs) g = if m = g then some { f with nm := m } else if l = g then none else find fs g := by
  unfold mv
  have hn : find (del m (del l fs)) ({ f with nm := m } : Fl).nm = none := by rw [find_del, if_pos rfl]
  rw [find_ins hn]
  by_cases h : m = g
  · rw [if_pos h, if_pos h]
  · rw [if_neg h, if_neg h, find_del, if_neg h, find_del]
theorem used_mv {fs : List Fl} (hs : Srt fs) {f : Fl} {l m : Nm} (h : find fs l = some f) : used (mv f l m fs) ≤ used fs := by
  unfold mv
  rw [used_ins]
  have h1 := used_del hs h
  have h2 := used_del_le (srt_del hs l) m
  show f.bs.length + _ ≤ _
  omega
theorem remove_none {f : Nm} (ha : ask D [f] = 0) (hn : find D.files f = none) : dRemove D f = (6, D) := by
  unfold dRemove
  rw [if_neg (by simp [ha]), if_pos (by simp [hn])]
theorem remove_two {f : Nm} {g : Fl} (ha : ask D [f] = 0) (hf : find D.files f = some g) : dRemove D f = dStep D (del f) := by
  unfold dRemove
  rw [if_neg (by simp [ha]), if_neg (by simp [hf])]
/-- what putting a snapshot's file down comes to -/
structure Put6 (D : Dsk) (xs : List Sn) (x : Sn) (r : Int × Dsk) : Prop where
  apart : Apart lM D r.2
  room : r.2.room = D.room
  used : used r.2.files ≤ used D.files + (snB x).length
  two : (r.1 = 0 ∧ r.2.off = false ∧ Snaps r.2 (xs ++ [x]) ∧ find r.2.files (halfN lM) = none ∧ (D.fuse = -1 → r.2.fuse = -1)) ∨ (r.1 = 10 ∧ Snaps r.2 xs ∧ D.fuse ≠ -1)
theorem snaps_more (h : Snaps D xs) (hx : x.there = true) (hok : Sok x) (hlt : ∀ y ∈ xs, y.upto < x.upto) {f : Fl} (hf : find D.files (halfN lM) = some f) (hb : f.bs = snB x) (hsy : f.sy = f.bs.length)
    (hfs : D'.files = mv f (halfN lM) (snapN lM x.upto) D.files) : Snaps D' (xs ++ [x]) := by
  have hfd : ∀ g, find D'.files g = if snapN lM x.upto = g then some { f with nm := snapN lM x.upto } else if halfN lM = g then none else find D.files g := fun g => by rw [hfs, find_mv]
  refine ⟨fun g hg => ?_, fun y hy => ?_, ?_⟩
  · have h1 := find_isSome.2 hg
    rw [hfd] at h1
    split at h1
    · rename_i e
      exact .inr (.inl ⟨x, by simp, e.symm⟩)
    · split at h1
      · cases h1
      · rcases h.cls g (find_isSome.1 h1) with e | ⟨y, hy, e⟩ | e
        · exact .inl e
        · exact .inr (.inl ⟨y, by simp [hy], e⟩)
        · exact .inr (.inr e)
  · rcases List.mem_append.1 hy with hy | hy
    · obtain ⟨h1, h2, g, h3, h4, h5⟩ := h.at_ y hy
      have hl := hlt y hy
      refine ⟨h1, h2, g, ?_, h4, h5⟩
      rw [hfd, if_neg (fun e => by have := snapN_inj hok.no h2.no e; omega), if_neg (Ne.symm (snap_ne_half lM y.upto))]
      exact h3
    · have e := List.mem_singleton.1 hy
      rw [e]
      exact ⟨hx, hok, { f with nm := snapN lM x.upto }, by rw [hfd, if_pos rfl], hb, hsy⟩
  · exact List.pairwise_append.2 ⟨h.rise, List.pairwise_singleton _ _, fun y hy z hz => by
      obtain rfl := List.mem_singleton.1 hz
      exact hlt y hy⟩
theorem put6 (h : Snaps D xs) (hx : x.there = true) (hok : Sok x) (hlt : ∀ y ∈ xs, y.upto < x.upto) (hD : Okd D) (ho : D.off = false) (hn : find D.files (halfN lM) = none) (hr : used D.files + (snB x).length ≤ D.room) : Put6 D xs x (sPut D (snapN lM x.upto) (snB x)) := by
  have e0 : sPut D (snapN lM x.upto) (snB x) = seqD D (putSteps (snapN lM x.upto) (snB x)) := by
    unfold sPut
    rw [remove_none (ask_half ho) hn, if_pos (.inr rfl)]
  rw [e0]
  have bad : ∀ D1 : Dsk, But (halfN lM) D D1 → D1.room = D.room → used D1.files ≤ used D.files + (snB x).length → D.fuse ≠ -1 → Put6 D xs x (10, D1) := fun D1 hb h1 h2 h3 => ⟨hb.apart_half, h1, h2, .inr ⟨rfl, h.half hb, h3⟩⟩
  have h1 := make_two (ask_half ho) hn
  have okA : Okd (dMake D (halfN lM)).2 := okd_make hD _
  have fz : ∀ (E : Dsk) (t : List Fl → List Fl), dStep E t = (10, fall E) → E.fuse ≠ -1 := fun E t h hh => by
    have := (dStep_free (t := t) hh).1
    rw [h] at this
    cases this
  show Put6 D xs x (seqD D [fun D => dMake D (halfN lM), fun D => dAppend D (halfN lM) (snB x), fun D => dSync D (halfN lM), fun D => dRename D (halfN lM) (snapN lM x.upto)])
  rcases dStep_two D (ins ⟨halfN lM, [], 0⟩) with e1 | ⟨a1, a2, a3, a4, a5⟩
  · have e2 : dMake D (halfN lM) = (10, fall D) := by rw [h1, e1]
    simp only [seqD, e2]
    rw [if_neg ten_ne]
    exact bad _ (But.of rfl) rfl (Nat.le_add_right _ _) (fz _ _ e1)
  rw [← h1] at a1 a2 a3 a4 a5
  have f1 : find (dMake D (halfN lM)).2.files (halfN lM) = some ⟨halfN lM, [], 0⟩ := by
    rw [a2, find_ins (f := ⟨halfN lM, [], 0⟩) hn, if_pos rfl]
  have b1 : But (halfN lM) D (dMake D (halfN lM)).2 := fun g hg => by rw [a2, find_ins (f := ⟨halfN lM, [], 0⟩) hn, if_neg (Ne.symm hg)]
  have u1 : used (dMake D (halfN lM)).2.files = used D.files := by rw [a2, used_ins]; simp
  obtain ⟨t, u, c1, c2, c3, c4⟩ := append_two (b := snB x) (ask_half (D := (dMake D (halfN lM)).2) (by rw [a3, ho])) f1 (by rw [u1, a4]; exact hr)
  have okB : Okd (dAppend (dMake D (halfN lM)).2 (halfN lM) (snB x)).2 := okd_append okA _ _
  have b2 : But (halfN lM) D (dAppend (dMake D (halfN lM)).2 (halfN lM) (snB x)).2 := b1.trans fun g hg => by
    rw [c2]
    unfold put1
    rw [find_upd _ _ _ (fun f => ({ f with bs := f.bs ++ t } : Fl)) (fun _ => rfl)]
    cases hq : find (dMake D (halfN lM)).2.files g with
    | none => rfl
    | some z => simp [hg]
  have u2 : used (dAppend (dMake D (halfN lM)).2 (halfN lM) (snB x)).2.files ≤ used D.files + (snB x).length := by
    rw [c2, used_put1 okA.srt f1, u1, c1, List.length_append]
    omega
  simp only [seqD]
  rw [if_pos a1]
  rcases c4 with ⟨d1, d2, d3, d4⟩ | ⟨d1, d2, d3⟩
  rotate_left
  · rw [if_neg (by rw [d1]; decide)]
    have e2 : dAppend (dMake D (halfN lM)).2 (halfN lM) (snB x) = (10, (dAppend (dMake D (halfN lM)).2 (halfN lM) (snB x)).2) := Prod.ext d1 rfl
    rw [e2]
    exact bad _ b2 (by rw [c3, a4]) u2 (fun hh => d3 (a5 hh))
  rw [if_pos d1]
  rw [d2, List.append_nil] at c1
  subst c1
  have f2 : find (dAppend (dMake D (halfN lM)).2 (halfN lM) (snB x)).2.files (halfN lM) = some ⟨halfN lM, [] ++ snB x, 0⟩ := by
    rw [c2]
    unfold put1
    rw [find_upd _ _ _ (fun f => ({ f with bs := f.bs ++ snB x } : Fl)) (fun _ => rfl), f1]
    simp
  have o2 : (dAppend (dMake D (halfN lM)).2 (halfN lM) (snB x)).2.off = false := by rw [d3, a3, ho]
  have r2 : (dAppend (dMake D (halfN lM)).2 (halfN lM) (snB x)).2.room = D.room := by rw [c3, a4]
  have z2 : D.fuse = -1 → (dAppend (dMake D (halfN lM)).2 (halfN lM) (snB x)).2.fuse = -1 := fun hh => d4 (a5 hh)
  generalize (dAppend (dMake D (halfN lM)).2 (halfN lM) (snB x)).2 = DB at *
  clear c2 c3 d1 d2 d3 d4 a1 a2 a3 a4 a5 u1 f1 b1 okA h1
  have h3 := sync_two (ask_half o2) f2
  rcases dStep_two DB (upd (halfN lM) (fun f => { f with sy := f.bs.length })) with e1 | ⟨a1, a2, a3, a4, a5⟩
  · have e2 : dSync DB (halfN lM) = (10, fall DB) := by rw [h3, e1]
    rw [if_neg (by rw [e2]; exact ten_ne), e2]
    exact bad _ (b2.trans (But.of rfl)) r2 u2 (fun hh => fz _ _ e1 (z2 hh))
  rw [← h3] at a1 a2 a3 a4 a5
  have okC : Okd (dSync DB (halfN lM)).2 := okd_sync okB _
  have f3 : find (dSync DB (halfN lM)).2.files (halfN lM) = some ⟨halfN lM, snB x, (snB x).length⟩ := by
    rw [a2, find_upd _ _ _ (fun f => ({ f with sy := f.bs.length } : Fl)) (fun _ => rfl), f2]
    simp
  have b3 : But (halfN lM) D (dSync DB (halfN lM)).2 := b2.trans fun g hg => by
    rw [a2, find_upd _ _ _ (fun f => ({ f with sy := f.bs.length } : Fl)) (fun _ => rfl)]
    cases hq : find DB.files g with
    | none => rfl
    | some z => simp [hg]
  have u3 : used (dSync DB (halfN lM)).2.files ≤ used D.files + (snB x).length := by rw [a2, used_upd _ _ (fun f => ({ f with sy := f.bs.length } : Fl)) (fun _ _ => rfl)]; exact u2
  have o3 : (dSync DB (halfN lM)).2.off = false := by rw [a3, o2]
  rw [if_pos a1]
  have r3 : (dSync DB (halfN lM)).2.room = D.room := by rw [a4, r2]
  have z3 : D.fuse = -1 → (dSync DB (halfN lM)).2.fuse = -1 := fun hh => a5 (z2 hh)
  generalize (dSync DB (halfN lM)).2 = DC at *
  clear h3 a1 a2 a3 a4 a5 f2 b2 u2 okB o2 r2 z2
  have hren : dRename DC (halfN lM) (snapN lM x.upto) = dStep DC (mv ⟨halfN lM, snB x, (snB x).length⟩ (halfN lM) (snapN lM x.upto)) := by
    unfold dRename
    rw [if_neg (by simp [ask_two o3]), f3]
    simp only []
    rw [if_neg (Ne.symm (snap_ne_half lM x.upto))]
  rcases dStep_two DC (mv ⟨halfN lM, snB x, (snB x).length⟩ (halfN lM) (snapN lM x.upto)) with e1 | ⟨a1, a2, a3, a4, a5⟩
  · rw [if_neg (by rw [hren, e1]; exact ten_ne), hren, e1]
    exact bad _ (b3.trans (But.of rfl)) r3 u3 (fun hh => fz _ _ e1 (z3 hh))
  · rw [if_pos (by rw [hren]; exact a1), hren]
    have hsn := h.half b3
    refine ⟨?_, by rw [a4, r3], ?_, .inl ⟨rfl, by rw [a3, o3], snaps_more hsn hx hok hlt f3 rfl rfl a2, ?_, fun hh => a5 (z3 hh)⟩⟩
    · refine b3.apart_half.trans ⟨fun n => ?_, ?_⟩
      · show find (dStep DC _).2.files _ = _
        rw [a2, find_mv, if_neg (snap_ne_seg lM x.upto n), if_neg (Ne.symm (seg_ne_half lM n))]
      · show find (dStep DC _).2.files _ = _
        rw [a2, find_mv, if_neg (snap_ne_cut lM x.upto), if_neg (half_ne_cut lM)]
    · show used (dStep DC _).2.files ≤ _
      rw [a2]
      exact Nat.le_trans (used_mv okC.srt f3) u3
    · show find (dStep DC _).2.files _ = _
      rw [a2, find_mv, if_neg (snap_ne_half lM x.upto), if_pos rfl]
/-- a snapshot's file goes -/
theorem snaps_less (h : Snaps D (y :: xs)) (hf : D'.files = del (snapN lM y.upto) D.files) : Snaps D' xs := by
  have hr := List.pairwise_cons.1 h.rise
  refine ⟨fun g hg => ?_, fun z hz => ?_, hr.2⟩
  · have h1 := find_isSome.2 hg
    rw [hf, find_del] at h1
    split at h1
    · cases h1
    · rename_i hne
      rcases h.cls g (find_isSome.1 h1) with e | ⟨z, hz, e⟩ | e
      · exact .inl e
      · rcases List.mem_cons.1 hz with rfl | hz
        · exact absurd e.symm hne
        · exact .inr (.inl ⟨z, hz, e⟩)
      · exact .inr (.inr e)
  · obtain ⟨h1, h2, g, h3, h4⟩ := h.at_ z (by simp [hz])
    refine ⟨h1, h2, g, ?_, h4⟩
    rw [hf, find_del, if_neg]
    · exact h3
    · intro e
      have := snapN_inj (h.at_ y (by simp)).2.1.no h2.no e
      have := hr.1 z hz
      omega
end
end Go.Proofs.YtbobakfcmkaijaaGreatDoor
end
