/- Several texts, each a section: SInv3, SInv4, SInv5, SFnd, SCrM. -/
import Derived.Test.YtbobakfcmkaijaaGreatDoorM23
import Derived.Test.YtbobakfcmkaijaaGreatDoorM20
import Derived.Test.YtbobakfcmkaijaaGreatDoorM12
section
/- Log, Sync and Save between calls. Plain mathematics: no program is named here. -/
namespace Go.Proofs.YtbobakfcmkaijaaGreatDoor
set_option linter.unusedVariables false

section
variable {l : Nm} {D D' D2 : Dsk} {a k m q n : Nat} {ps : List Sg} {s p : Sg} {xs : List Sn} {x y : Sn} {b : List Int} {J : Jn} {X : Ck} {L : List (List Int)}
theorem take_more {M : List (List Int)} (h : L = M.take n) (hb : M[n]? = some b) : L ++ [b] = M.take (n + 1) := by
  rw [List.take_add_one, hb, h]
  rfl
theorem drop_snoc (h : a - 1 ≤ L.length) : L.drop (a - 1) ++ [b] = (L ++ [b]).drop (a - 1) := by
  rw [List.drop_append_of_le_length h]
theorem append_note (h : (jAppend l D J b).2.1 = 0) : ∃ J0, (jAppend l D J b).2.2.2 = jNote J0 b := by
  unfold jAppend at h ⊢
  split at h
  · cases h
  · rename_i h1
    rw [if_neg h1]
    split at h
    · cases h
    · rename_i h2
      rw [if_neg h2]
      split at h
      · rename_i h3
        rw [if_pos h3]
        unfold jPut at h ⊢
        split at h
        · rename_i h4
          rw [if_pos h4]
          exact ⟨_, rfl⟩
        · rename_i h4
          exact absurd h h4
      · rename_i h3
        exact absurd h h3
theorem note_ne {J0 : Jn} (h : jnA a (ps ++ [s]) = jNote J0 b) : s.recs ≠ [] := by
  have h1 := congrArg (fun J : Jn => J.segs.getLastD ⟨0, []⟩) h
  have h2 : (ps ++ [s]).getLastD ⟨0, []⟩ = (addRec J0.segs b).getLastD ⟨0, []⟩ := h1
  unfold addRec at h2
  rw [getLastD_snoc, getLastD_snoc] at h2
  rw [h2]
  simp
theorem St6.log (h : St6 D X L m) (hb : Goodr b) (hr : used D.files + (b.length + 12) ≤ D.room) (hL : L.length + 1 ≤ maxNo) :
    (sLog D X b).2.2.1.room = D.room ∧ used (sLog D X b).2.2.1.files ≤ used D.files + (b.length + 12) ∧ Inv (sLog D X b).2.2.1 ∧
    (((sLog D X b).2.1 = 0 ∧ (sLog D X b).1 = 1 + L.length ∧ St6 (sLog D X b).2.2.1 (sLog D X b).2.2.2 (L ++ [b]) m) ∨ ((sLog D X b).2.1 = 10 ∧ ∀ M n, L = M.take n → L.length = n → M[n]? = some b → Lost6 (sLog D X b).2.2.1 M m (n + 1))) := by
  have hin : Inv (sLog D X b).2.2.1 := jAppend_inv h.inv hb
  have hno : NoSeg D (sLog D X b).2.2.1 := jappend_noseg D X.J b
  have hX : (sLog D X b).2.1 = 0 → (sLog D X b).2.2.2 = { X with J := (jAppend lM D X.J b).2.2.2 } := fun e => by
    show ckEnd _ (sLog D X b).2.1 = _
    rw [e]
    rfl
  have hhalf : find (sLog D X b).2.2.1.files (halfN lM) = none := by rw [hno.half]; exact h.half
  rcases h.st with ⟨h1, h2, h3, h4, h5, h6⟩ | ⟨a, ps, s, q, xs, hm, hJ, hq, hx⟩
  · have ht : Told lM (jAppend lM D X.J b) 1 1 [] b 0 D.room (used D.files + (b.length + 12)) := by rw [h2]; exact append_first h1 h.inv.ok h.on okM hb hr
    refine ⟨ht.1, ht.2.1, hin, ?_⟩
    rcases ht.2.2 with ⟨e1, e2, ⟨ps', s', w1, w2, w3⟩, e4⟩ | ⟨e1, e2⟩
    · refine .inl ⟨e1, by rw [h3]; exact e2, hin, e4, ?_, hhalf, .inr ⟨1, ps', s', 0, [], ?_, ?_, by omega, .inl ⟨rfl, ?_⟩⟩⟩
      · rw [hX e1]; exact h.xon
      · refine ⟨Nat.le_refl _, w1, fun hne => ?_, by rw [w3, h3]; rfl, ?_, h6.jour hno, (fun y hy => by cases hy), Nat.le_refl _, Nat.le_refl _⟩
        · obtain ⟨J0, hJ0⟩ := append_note e1
          exact note_ne (w2.symm.trans hJ0) hne
        · rw [← flat_length, w3, h3]
          rfl
      · rw [hX e1]; exact w2
      · rw [hX e1]; exact h5
    · refine .inr ⟨e1, fun M n hM hn hMb => ⟨[], h6.jour hno, (fun y hy => by cases hy), ?_⟩⟩
      have hn0 : n = 0 := by rw [← hn, h3]; rfl
      subst hn0
      rcases e2 with ⟨ps', s', k', w1, w2⟩ | ⟨w1, _, _⟩
      · refine .inl ⟨1, ps', s', k', 0, Nat.le_refl _, w1, ?_, ?_, by omega, Nat.le_refl _, Nat.le_refl _⟩
        · rcases w2 with e | e
          · rw [e]; rfl
          · have := take_more (L := []) (n := 0) rfl hMb
            rw [e]
            exact this
        · rcases w2 with e | e <;> rw [e] <;> simp
      · exact .inr ⟨w1, h4, rfl⟩
  · have hs := hm.sum
    have ho := hm.one
    have ht : Told lM (jAppend lM D X.J b) a (a + cnt (ps ++ [s])) (flat (ps ++ [s])) b q D.room (used D.files + (b.length + 12)) := by rw [hJ]; exact append_told hm.lie h.inv.ok h.on okM hb hr (by omega)
    refine ⟨ht.1, ht.2.1, hin, ?_⟩
    rcases ht.2.2 with ⟨e1, e2, ⟨ps', s', w1, w2, w3⟩, e4⟩ | ⟨e1, e2⟩
    · refine .inl ⟨e1, ?_, hin, e4, ?_, hhalf, .inr ⟨a, ps', s', q, xs, ?_, ?_, hq, ?_⟩⟩
      · show (jAppend lM D X.J b).1 = _
        rw [e2]
        omega
      · rw [hX e1]; exact h.xon
      · refine ⟨ho, w1, fun hne => ?_, ?_, ?_, hm.sn.jour hno, hm.bs, hm.lo, hm.hi⟩
        · obtain ⟨J0, hJ0⟩ := append_note e1
          exact note_ne (w2.symm.trans hJ0) hne
        · rw [w3, hm.flt]
          exact drop_snoc (by omega)
        · have h1 := flat_length (ps' ++ [s'])
          rw [w3, List.length_append, flat_length] at h1
          rw [List.length_append, ← h1]
          simp only [List.length_singleton]
          omega
      · rw [hX e1]; exact w2
      · rw [hX e1]; exact hx
    · refine .inr ⟨e1, fun M n hM hn hMb => ⟨xs, hm.sn.jour hno, hm.bs, ?_⟩⟩
      have hfl : (flat (ps ++ [s])).length = cnt (ps ++ [s]) := flat_length _
      rcases e2 with ⟨ps', s', k', w1, w2⟩ | ⟨_, w2, _⟩
      · refine .inl ⟨a, ps', s', k', q, ho, w1, ?_, ?_, hq, hm.lo, hm.hi⟩
        · rcases w2 with e | e
          · rw [e, hm.flt]
            exact drop_same hM hn (by omega)
          · rw [e, hm.flt, drop_snoc (by omega)]
            exact drop_same (take_more hM hMb) (by rw [List.length_append, hn]; rfl) (by omega)
        · rcases w2 with e | e
          · rw [e]; omega
          · rw [e, List.length_append]
            simp only [List.length_singleton]
            omega
      · exfalso
        apply hm.ne
        rw [flat_snoc] at w2
        exact (List.append_eq_nil_iff.1 w2).2
end
end Go.Proofs.YtbobakfcmkaijaaGreatDoor
end

section
/- Sync and Save between calls. Plain mathematics: no program is named here. -/
namespace Go.Proofs.YtbobakfcmkaijaaGreatDoor
set_option linter.unusedVariables false

section
variable {l : Nm} {D D' D2 : Dsk} {a k m q n : Nat} {ps : List Sg} {s p : Sg} {xs : List Sn} {x y : Sn} {b : List Int} {J : Jn} {X : Ck} {L : List (List Int)}
theorem Mid.le (h : Mid D a ps s q xs L) : q ≤ cnt (ps ++ [s]) := by
  obtain ⟨f, _, _, h5⟩ := h.lie.last
  have := whr_le s.recs f.sy
  rw [cnt_snoc]
  omega
/-- the journal's Sync -/
structure Syn6 (D : Dsk) (X : Ck) (a : Nat) (ps : List Sg) (s : Sg) (q : Nat) (xs : List Sn) (L : List (List Int)) (r : Int × Dsk × Jn) : Prop where
  room : r.2.1.room = D.room
  used : used r.2.1.files = used D.files
  inv : Inv r.2.1
  half : find r.2.1.files (halfN lM) = find D.files (halfN lM)
  two : (r.1 = 10 ∧ Mid r.2.1 a ps s q xs L) ∨ (r.1 = 0 ∧ r.2.1.off = false ∧ Mid r.2.1 a ps s (cnt (ps ++ [s])) xs L ∧ r.2.2 = X.J)
theorem Mid.sync (hm : Mid D a ps s q xs L) (hi : Inv D) (hon : D.off = false) (hJ : X.J = jnA a (ps ++ [s])) : Syn6 D X a ps s q xs L (jSync lM D X.J) := by
  have hin := jSync_inv (l := lM) (J := X.J) hi
  have hno := jsync_no' D X.J
  have e1 : jSync lM D X.J = jStep X.J (dSync D (segN lM s.num)) := by
    unfold jSync
    rw [if_neg (by simp [jRefused, hJ, hon, jnA])]
    unfold jSyncLast
    rw [hJ, if_neg (by simp [jnA]), jnA_last]
  have hle := hm.le
  rw [e1] at hin hno ⊢
  rcases hm.lie.sync hi.ok.srt hon okM with e2 | ⟨e2, e3, e4, e5, h2, _⟩
  · rw [e2] at hin hno ⊢
    exact ⟨rfl, rfl, hin, rfl, .inl ⟨rfl, hm.same rfl⟩⟩
  · refine ⟨e4, e5, hin, hno.half, .inr ⟨e2, e3, ⟨hm.one, h2, hm.ne, hm.flt, hm.sum, hm.sn.jour hno, hm.bs, hm.lo, Nat.le_trans hm.hi (by omega)⟩, ?_⟩⟩
    show jEnd X.J (dSync D (segN lM s.num)).1 = _
    rw [e2]
    rfl
theorem St6.sync (h : St6 D X L m) :
    (sSync D X).2.1.room = D.room ∧ used (sSync D X).2.1.files = used D.files ∧ Inv (sSync D X).2.1 ∧
    (((sSync D X).1 = 0 ∧ St6 (sSync D X).2.1 (sSync D X).2.2 L L.length) ∨ ((sSync D X).1 = 10 ∧ ∀ M n, L = M.take n → L.length = n → Lost6 (sSync D X).2.1 M m n)) := by
  have hX : (sSync D X).1 = 0 → (sSync D X).2.2 = { X with J := (jSync lM D X.J).2.2 } := fun e => by
    show ckEnd _ (sSync D X).1 = _
    rw [e]
    rfl
  have hin : Inv (sSync D X).2.1 := jSync_inv h.inv
  rcases h.st with ⟨h1, h2, h3, h4, h5, h6⟩ | ⟨a, ps, s, q, xs, hm, hJ, hq, hx⟩
  · have e0 : jSync lM D X.J = (0, D, jnOf []) := by
      unfold jSync
      rw [if_neg (by simp [jRefused, h2, h.on, jnOf])]
      unfold jSyncLast
      rw [h2, if_pos (by rfl)]
    have f1 : (sSync D X).1 = 0 := by
      show (jSync lM D X.J).1 = 0
      rw [e0]
    have f2 : (sSync D X).2.1 = D := by
      show (jSync lM D X.J).2.1 = D
      rw [e0]
    rw [f2]
    refine ⟨rfl, rfl, h.inv, .inl ⟨f1, h.inv, h.on, by rw [hX f1]; exact h.xon, h.half, .inl ⟨h1, by rw [hX f1, e0], h3, by rw [h3]; rfl, by rw [hX f1]; exact h5, h6⟩⟩⟩
  · have hs := hm.sync h.inv h.on hJ
    have hsum := hm.sum
    refine ⟨hs.room, hs.used, hin, ?_⟩
    rcases hs.two with ⟨e1, e2⟩ | ⟨e1, e2, e3, e4⟩
    · exact .inr ⟨e1, fun M n hM hn => e2.lost hq hM hn⟩
    · have f1 : (sSync D X).1 = 0 := e1
      refine .inl ⟨e1, hin, e2, by rw [hX f1]; exact h.xon, hs.half.trans h.half, .inr ⟨a, ps, s, _, xs, e3, by rw [hX f1]; exact e4.trans hJ, by omega, by rw [hX f1]; exact hx⟩⟩

/-- the change of snapshots -/
structure Chg6 (D : Dsk) (a : Nat) (ps : List Sg) (s : Sg) (q : Nat) (L : List (List Int)) (x : Sn) (r : Int × Dsk × Sn) : Prop where
  room : r.2.1.room = D.room
  used : used r.2.1.files ≤ used D.files + (snB x).length
  inv : Inv r.2.1
  two : (r.1 = 0 ∧ r.2.1.off = false ∧ find r.2.1.files (halfN lM) = none ∧ Mid r.2.1 a ps s q [x] L ∧ r.2.2 = x) ∨ (r.1 = 10 ∧ ∃ xs, Mid r.2.1 a ps s q xs L)
theorem snap_okN {D : Dsk} (ho : D.off = false) (n : Nat) : ask D [snapN lM n] = 0 := by simp [ask, ho, okN_snap]
theorem last_snoc (xs : List Sn) (x : Sn) : (xs ++ [x]).getLastD sn0 = x := by simp
theorem Mid.change {old : Sn} (hm : Mid D a ps s q xs L) (hq : q = cnt (ps ++ [s])) (hi : Inv D) (hon : D.off = false) (hhf : find D.files (halfN lM) = none) (hxs : (xs = [] ∧ old = sn0) ∨ xs = [old]) (hup : old.upto ≤ L.length) (h1 : 1 ≤ L.length) (hth : x.there = true) (hup2 : x.upto = L.length + 1) (hbs : x.bs = [(L.length : Int)]) (hok : Sok x) (hr : used D.files + (snB x).length ≤ D.room) :
    (sPut D (snapN lM x.upto) (snB x)).1 ≠ 8 ∧ Chg6 D a ps s q L x (sChange D old x) := by
  have hsum := hm.sum
  have hone := hm.one
  have hlt : ∀ y ∈ xs, y.upto < x.upto := fun y hy => by
    rcases hxs with ⟨e, _⟩ | e
    · rw [e] at hy; cases hy
    · rw [e] at hy
      rw [List.mem_singleton.1 hy]
      omega
  have hp := put6 hm.sn hth hok hlt hi.ok hon hhf hr
  have hpi := put_inv hi (snapN lM x.upto) hok.byt2
  have hxb : 2 ≤ x.upto ∧ x.bs = [((x.upto - 1 : Nat) : Int)] := ⟨by omega, by rw [hbs, hup2]; rfl⟩
  unfold sChange
  have hapart : ∀ xs', Snaps (sPut D (snapN lM x.upto) (snB x)).2 xs' → (∀ y ∈ xs', 2 ≤ y.upto ∧ y.bs = [((y.upto - 1 : Nat) : Int)]) → a ≤ (xs'.getLastD sn0).upto → (xs'.getLastD sn0).upto ≤ a + q → Mid (sPut D (snapN lM x.upto) (snB x)).2 a ps s q xs' L := fun xs' e1 e2 e3 e4 =>
    ⟨hone, hm.lie.apart hp.apart hi.ok.srt hpi.ok.srt, hm.ne, hm.flt, hm.sum, e1, e2, e3, e4⟩
  rcases hp.two with ⟨e1, e2, e3, e4, _⟩ | ⟨e1, e2, _⟩
  · refine ⟨by rw [e1]; decide, ?_⟩
    rw [if_pos e1]
    rcases hxs with ⟨f1, f2⟩ | f1
    · rw [if_pos (.inl (by rw [f2]; rfl))]
      rw [f1] at e3
      exact ⟨hp.room, hp.used, hpi, .inl ⟨rfl, e2, e4, hapart [x] e3 (fun y hy => by rw [List.mem_singleton.1 hy]; exact hxb) (by show a ≤ x.upto; omega) (by show x.upto ≤ _; omega), rfl⟩⟩
    · have hold : old ∈ xs := by rw [f1]; simp
      have hoth := (hm.sn.at_ old hold).1
      rw [if_neg (by rintro (h | h); · rw [hoth] at h; cases h
                     · omega)]
      have hmid : Mid (sPut D (snapN lM x.upto) (snB x)).2 a ps s q (xs ++ [x]) L := hapart _ e3 (fun y hy => by
        rcases List.mem_append.1 hy with hy | hy
        · exact hm.bs y hy
        · rw [List.mem_singleton.1 hy]; exact hxb) (by rw [last_snoc]; omega) (by rw [last_snoc]; omega)
      generalize (sPut D (snapN lM x.upto) (snB x)) = r at *
      obtain ⟨f, hf, hf2⟩ := hmid.sn.at_ old (by simp [hold]) |>.2.2
      have hrem := remove_two (snap_okN e2 old.upto) hf
      have hri := remove_inv hpi (snapN lM old.upto)
      have hrb := remove_but r.2 (snapN lM old.upto)
      rcases dStep_two r.2 (del (snapN lM old.upto)) with g1 | ⟨g1, g2, g3, g4, _⟩
      · rw [hrem, g1] at hri ⊢
        exact ⟨hp.room, hp.used, hri, .inr ⟨rfl, _, hmid.same rfl⟩⟩
      · rw [← hrem] at g1 g2 g3 g4
        refine ⟨g4.trans hp.room, ?_, hri, .inl ⟨g1, by rw [g3]; exact e2, ?_, ?_, rfl⟩⟩
        · show used (dRemove r.2 (snapN lM old.upto)).2.files ≤ _
          rw [g2]
          exact Nat.le_trans (used_del_le hpi.ok.srt _) hp.used
        · show find (dRemove r.2 (snapN lM old.upto)).2.files _ = none
          rw [hrb _ (Ne.symm (snap_ne_half lM old.upto))]
          exact e4
        · have hs3 : Snaps (dRemove r.2 (snapN lM old.upto)).2 [x] := by
            rw [f1] at e3
            exact snaps_less e3 g2
          exact ⟨hone, hmid.lie.apart (But.apart_snap hrb) hpi.ok.srt hri.ok.srt, hm.ne, hm.flt, hm.sum, hs3, (fun y hy => by rw [List.mem_singleton.1 hy]; exact hxb), by show a ≤ x.upto; omega, by show x.upto ≤ _; omega⟩
  · refine ⟨by rw [e1]; decide, ?_⟩
    rw [if_neg (by rw [e1]; decide)]
    exact ⟨hp.room, hp.used, hpi, .inr ⟨e1, xs, hapart xs e2 hm.bs hm.lo hm.hi⟩⟩
end
end Go.Proofs.YtbobakfcmkaijaaGreatDoor
end

section
/- Save between calls. Plain mathematics: no program is named here. -/
namespace Go.Proofs.YtbobakfcmkaijaaGreatDoor
set_option linter.unusedVariables false

section
variable {l : Nm} {D D' D2 : Dsk} {a k m q n : Nat} {ps : List Sg} {s p : Sg} {xs : List Sn} {x y : Sn} {b : List Int} {J : Jn} {X : Ck} {L : List (List Int)}
/-- what Save comes to -/
structure Sav6 (D : Dsk) (X : Ck) (b : List Int) (L : List (List Int)) (m : Nat) : Prop where
  c1 : (jSync lM D X.J).1 = 0 → (jSync lM D X.J).2.1.off = false ∧ find (jSync lM D X.J).2.1.files (halfN lM) = none ∧ (sPut (jSync lM D X.J).2.1 (snapN lM X.J.next) (snB ⟨true, X.J.next, b⟩)).1 ≠ 8
  c2 : (jSync lM D X.J).1 = 0 → (sSave1 (jSync lM D X.J).2.1 X b).1 = 0 → (sSave1 (jSync lM D X.J).2.1 X b).2.1.off = false
  room : (sSave D X b).2.1.room = D.room
  used : used (sSave D X b).2.1.files ≤ used D.files + 40
  inv : Inv (sSave D X b).2.1
  two : ((sSave D X b).1 = 0 ∧ St6 (sSave D X b).2.1 (sSave D X b).2.2 L L.length) ∨ ((sSave D X b).1 = 10 ∧ ∀ M n, L = M.take n → L.length = n → Lost6 (sSave D X b).2.1 M m n)
theorem St6.sok (h : St6 D X L m) (hb : b = [(L.length : Int)]) (hN : L.length ≤ 255) : Sok ⟨true, X.J.next, b⟩ ∧ (snB ⟨true, X.J.next, b⟩).length ≤ 40 := by
  have hnx := h.next
  refine ⟨⟨fun y hy => ?_, ?_, ?_⟩, ?_⟩
  · have hy' : y ∈ b := hy
    rw [hb] at hy'
    rw [List.mem_singleton.1 hy']
    omega
  · show b.length ≤ _
    rw [hb]; simp
  · show X.J.next ≤ maxNo
    unfold maxNo
    omega
  · rw [snB_len]
    have := snBody_len ⟨true, X.J.next, b⟩
    have h2 : (⟨true, X.J.next, b⟩ : Sn).bs.length = 1 := by show b.length = 1; rw [hb]; rfl
    omega
theorem St6.save (h : St6 D X L m) (hL : 1 ≤ L.length) (hup : X.sn.upto ≤ L.length) (hb : b = [(L.length : Int)]) (hN : L.length ≤ 255) (hr : used D.files + 40 ≤ D.room) : Sav6 D X b L m := by
  have hnx := h.next
  obtain ⟨hsok, hsl⟩ := h.sok hb hN
  rcases h.st with ⟨_, _, h3, _⟩ | ⟨a, ps, s, q, xs, hm, hJ, hq, hx⟩
  · rw [h3] at hL
    simp at hL
  have hs := hm.sync h.inv h.on hJ
  have hsum := hm.sum
  have hone := hm.one
  have hle := hm.le
  have hE : sSave D X b = ((sSave0 D X b).1, (sSave0 D X b).2.1, ckEnd (sSave0 D X b).2.2 (sSave0 D X b).1) := rfl
  rcases hs.two with ⟨e1, e2⟩ | ⟨e1, e2, e3, e4⟩
  · have e0 : sSave0 D X b = (10, (jSync lM D X.J).2.1, ⟨X.off, (jSync lM D X.J).2.2, X.sn⟩) := by
      unfold sSave0
      rw [if_neg (by rw [e1]; decide), e1]
    refine ⟨(fun hh => by rw [e1] at hh; cases hh), (fun hh => by rw [e1] at hh; cases hh), ?_, ?_, ?_, ?_⟩
    all_goals rw [hE, e0]
    · exact hs.room
    · show Go.Proofs.YtbobakfcmkaijaaGreatDoor.used (jSync lM D X.J).2.1.files ≤ _
      rw [hs.used]; omega
    · exact hs.inv
    · exact .inr ⟨rfl, fun M n hM hn => e2.lost hq hM hn⟩
  · have hc := e3.change (old := X.sn) (x := ⟨true, X.J.next, b⟩) rfl hs.inv e2 (hs.half.trans h.half) hx hup hL rfl (by show X.J.next = _; omega) hb hsok (by rw [hs.used, hs.room]; omega)
    obtain ⟨hn8, hc⟩ := hc
    have e5 : sSave1 (jSync lM D X.J).2.1 X b = sChange (jSync lM D X.J).2.1 X.sn ⟨true, X.J.next, b⟩ := rfl
    rw [← e5] at hc
    have hcu := hc.used
    rw [hs.used] at hcu
    rcases hc.two with ⟨f1, f2, f3, f4, f5⟩ | ⟨f1, xs', f2⟩
    · have hd := drop6 X.J.next ps _ a _ f4.lie hc.inv.ok f2 (by omega)
      have e6 : jDrop lM (sSave1 (jSync lM D X.J).2.1 X b).2.1 (jSync lM D X.J).2.2 X.J.next = jDropped X.J (dropGo lM X.J.next (ps ++ [s]) (sSave1 (jSync lM D X.J).2.1 X b).2.1) := by
        unfold jDrop
        rw [e4, if_neg (by omega)]
        congr 2
        rw [hJ]
        rfl
      have hdi : Inv (dropGo lM X.J.next (ps ++ [s]) (sSave1 (jSync lM D X.J).2.1 X b).2.1).2.1 := dropGo_inv _ _ hc.inv
      have e0 : sSave0 D X b = ((dropGo lM X.J.next (ps ++ [s]) (sSave1 (jSync lM D X.J).2.1 X b).2.1).1, (dropGo lM X.J.next (ps ++ [s]) (sSave1 (jSync lM D X.J).2.1 X b).2.1).2.1,
          ⟨X.off, jEnd { X.J with segs := (dropGo lM X.J.next (ps ++ [s]) (sSave1 (jSync lM D X.J).2.1 X b).2.1).2.2 } (dropGo lM X.J.next (ps ++ [s]) (sSave1 (jSync lM D X.J).2.1 X b).2.1).1, ⟨true, X.J.next, b⟩⟩) := by
        unfold sSave0
        rw [if_pos e1, if_pos f1, e6, f5]
        rfl
      have hcr := hc.room
      rw [hs.room] at hcr
      generalize dropGo lM X.J.next (ps ++ [s]) (sSave1 (jSync lM D X.J).2.1 X b).2.1 = r at *
      obtain ⟨a', ps', i1, i2, i3, i4, i5, i6⟩ := hd.lie
      have hmid : Mid r.2.1 a' ps' s (cnt (ps' ++ [s])) [⟨true, X.J.next, b⟩] L := by
        refine ⟨by omega, ?_, hm.ne, ?_, by omega, f4.sn.jour hd.no, f4.bs, i2, ?_⟩
        · rw [show cnt (ps' ++ [s]) = cnt (ps ++ [s]) - (a' - a) by omega]
          exact i4
        · rw [i6, f4.flt, List.drop_drop]
          congr 1
          omega
        · show X.J.next ≤ _
          omega
      refine ⟨fun _ => ⟨e2, hs.half.trans h.half, hn8⟩, fun _ _ => f2, ?_, ?_, ?_, ?_⟩
      all_goals rw [hE, e0]
      · exact hd.room.trans hcr
      · have := hd.used
        show Go.Proofs.YtbobakfcmkaijaaGreatDoor.used r.2.1.files ≤ _
        omega
      · exact hdi
      · rcases hd.ok with g | g
        · refine .inl ⟨g, hdi, hd.off g, ?_, hd.no.half.trans f3, .inr ⟨a', ps', s, _, _, hmid, ?_, by omega, .inr ?_⟩⟩
          · show (ckEnd _ r.1).off = false
            rw [g]
            exact h.xon
          · show (ckEnd _ r.1).J = _
            rw [g]
            show jEnd { X.J with segs := r.2.2 } 0 = _
            rw [hJ, i3]
            show (⟨false, a + cnt (ps ++ [s]), ps' ++ [s]⟩ : Jn) = ⟨false, a' + cnt (ps' ++ [s]), ps' ++ [s]⟩
            rw [i5]
          · show _ = [(ckEnd _ r.1).sn]
            rw [g]
            rfl
        · exact .inr ⟨g, fun M n hM hn => hmid.lost (by omega) hM hn⟩
    · have e0 : sSave0 D X b = (10, (sSave1 (jSync lM D X.J).2.1 X b).2.1, ⟨X.off, (jSync lM D X.J).2.2, (sSave1 (jSync lM D X.J).2.1 X b).2.2⟩) := by
        unfold sSave0
        rw [if_pos e1, if_neg (by rw [f1]; decide), f1]
      refine ⟨(fun _ => ⟨e2, hs.half.trans h.half, hn8⟩), (fun _ hh => by rw [f1] at hh; cases hh), ?_, ?_, ?_, ?_⟩
      all_goals rw [hE, e0]
      · exact hc.room.trans hs.room
      · show Go.Proofs.YtbobakfcmkaijaaGreatDoor.used (sSave1 (jSync lM D X.J).2.1 X b).2.1.files ≤ _
        omega
      · exact hc.inv
      · exact .inr ⟨rfl, fun M n hM hn => f2.lost (by omega) hM hn⟩
end
end Go.Proofs.YtbobakfcmkaijaaGreatDoor
end

section
/- What Open finds behind a crash. Plain mathematics: no program is named here. -/
namespace Go.Proofs.YtbobakfcmkaijaaGreatDoor
set_option linter.unusedVariables false

section
variable {l : Nm} {D D' D2 : Dsk} {a k m q n : Nat} {ps : List Sg} {s p : Sg} {xs : List Sn} {x y : Sn} {b : List Int} {J : Jn} {X : Ck} {L M : List (List Int)}
theorem Calm.rem (h : Calm D) (f : Nm) : Calm (dRemove D f).2 := by
  unfold dRemove
  split
  · exact h
  · split
    · exact h
    · obtain ⟨_, _, h3, _, h5⟩ := dStep_free (t := del f) h.fuse
      exact ⟨h3.trans h.off, h5⟩
theorem rem_used (h : Okd D) (f : Nm) : used (dRemove D f).2.files ≤ used D.files := by
  unfold dRemove
  split
  · exact Nat.le_refl _
  · split
    · exact Nat.le_refl _
    · rcases dStep_two D (del f) with e | ⟨_, e, _⟩
      · rw [e]; exact Nat.le_refl _
      · rw [e]; exact used_del_le h.srt f
theorem drops_seg (x : Sn) (n : Nat) : drops x (segN lM n) = false := by
  unfold drops
  rw [snapNo_seg]
  simpa using seg_ne_half lM n
theorem drops_cut (x : Sn) : drops x (cutN lM) = false := by
  unfold drops
  rw [show snapNo lM (cutN lM) = none by decide]
  simpa using Ne.symm (half_ne_cut lM)
/-- what cleaning leaves -/
structure Cln6 (D D' : Dsk) : Prop where
  inv : Inv D'
  calm : Calm D'
  apart : Apart lM D D'
  used : used D'.files ≤ used D.files
  room : D'.room = D.room
theorem cleaned6 (x : Sn) : ∀ (fs : List Nm) (D : Dsk), Inv D → Calm D → Cln6 D (cleaned x fs D)
  | [], D, h, hc => ⟨h, hc, Apart.refl _ _, Nat.le_refl _, rfl⟩
  | f :: fs, D, h, hc => by
    show Cln6 D (cleaned x fs (if drops x f then (dRemove D f).2 else D))
    by_cases hd : drops x f = true
    · rw [if_pos hd]
      have ih := cleaned6 x fs (dRemove D f).2 (remove_inv h f) (hc.rem f)
      have hb := remove_but D f
      have hap : Apart lM D (dRemove D f).2 := ⟨fun n => hb _ (fun e => by rw [← e, drops_seg] at hd; cases hd), hb _ (fun e => by rw [← e, drops_cut] at hd; cases hd)⟩
      exact ⟨ih.inv, ih.calm, hap.trans ih.apart, Nat.le_trans ih.used (rem_used h.ok f), ih.room.trans (steps_remove D f).2.2⟩
    · rw [if_neg hd]
      exact cleaned6 x fs D h hc
theorem Lies.found6 (h : Lies l D a ps s k m) (hok : Okd D) : m ≤ (jAll (Go.Proofs.YtbobakfcmkaijaaGreatDoor.opened l D)).length ∧ (jAll (Go.Proofs.YtbobakfcmkaijaaGreatDoor.opened l D)).length ≤ (flat (ps ++ [s])).length ∧ jAll (Go.Proofs.YtbobakfcmkaijaaGreatDoor.opened l D) = (flat (ps ++ [s])).take (jAll (Go.Proofs.YtbobakfcmkaijaaGreatDoor.opened l D)).length ∧ jFirst (Go.Proofs.YtbobakfcmkaijaaGreatDoor.opened l D) = a ∧ (Go.Proofs.YtbobakfcmkaijaaGreatDoor.opened l D).next = a + (jAll (Go.Proofs.YtbobakfcmkaijaaGreatDoor.opened l D)).length := by
  rw [h.opened]
  obtain ⟨f, h1, h2, h3⟩ := h.last
  have hj := whr_le s.recs k
  have hfl : jAll (jnOf (ps ++ [⟨s.num, s.recs.take (whr s.recs k)⟩])) = (flat (ps ++ [s])).take (cnt ps + whr s.recs k) := by
    rw [jAll_flat, flat_snoc, flat_snoc]
    show flat ps ++ s.recs.take _ = _
    rw [List.take_append, flat_length, List.take_of_length_le (l := flat ps) (by rw [flat_length]; omega), show cnt ps + whr s.recs k - cnt ps = whr s.recs k by omega]
  have hlen : (jAll (jnOf (ps ++ [⟨s.num, s.recs.take (whr s.recs k)⟩]))).length = cnt ps + whr s.recs k := by
    rw [hfl, List.length_take, flat_length, cnt_snoc]
    omega
  have hlf : (flat (ps ++ [s])).length = cnt ps + s.recs.length := by rw [flat_length, cnt_snoc]
  have hnum := h.num
  refine ⟨?_, ?_, ?_, ?_, ?_⟩
  · rw [hlen]
    refine Nat.le_trans h3 (Nat.add_le_add_left (whr_mono _ ?_) _)
    have := hok.sy f (find_some h1).1
    rw [h2, List.length_take] at this
    omega
  · rw [hlen, hlf]
    omega
  · rw [hlen, hfl]
  · cases ps with
    | nil =>
      have : s.num = a := by simpa [cnt] using hnum
      exact this
    | cons x r => exact h.chain.1
  · rw [hlen]
    show nextOf (ps ++ [⟨s.num, s.recs.take (whr s.recs k)⟩]) = _
    rw [nextOf_snoc]
    show s.num + (s.recs.take _).length = _
    rw [List.length_take, hnum]
    omega
/-- what is found -/
structure Found6 (X : Ck) (M : List (List Int)) (m n : Nat) : Prop where
  sn : X.sn = sn0 ∨ (X.sn.there = true ∧ 2 ≤ X.sn.upto ∧ X.sn.bs = [((X.sn.upto - 1 : Nat) : Int)] ∧ X.sn.upto ≤ maxNo)
  lo : jFirst X.J ≤ X.sn.upto
  ge : X.sn.upto - jFirst X.J ≤ (jAll X.J).length
  since : sSince X = (M.drop (X.sn.upto - 1)).take (sSince X).length
  len1 : m ≤ X.sn.upto - 1 + (sSince X).length
  len2 : X.sn.upto - 1 + (sSince X).length ≤ n
  next : X.J.next = X.sn.upto + (sSince X).length
  fits : Fits X.J
  recs : ∀ x ∈ X.J.segs, ∀ r ∈ x.recs, r.length ≤ 1073741824
theorem Lost6.found (h : Lost6 D M m n) (hi : Inv D) {ks : List Int} (hn : ks.any (fun k => decide (k < 0)) = false) (hr : 2 * used D.files ≤ D.room) (hst : D.steps ≤ 400000) :
    ∃ xs, Good6 (fallen D ks) xs ∧ Found6 (sOpened xs (fallen D ks)) M m n := by
  have hfi := fallen_inv hi hn
  have hus := fallen_used D ks
  have hfs : (fallen D ks).steps = D.steps := rfl
  have hfe := hfi.few
  obtain ⟨xs, hsn, hbs, hlie⟩ := h
  have hsn2 := hsn.fall hi.ok ks
  have hcl : Cln6 (fallen D ks) (sFiles xs (fallen D ks)) := cleaned6 _ _ _ hfi ⟨rfl, rfl⟩
  have hcst := (cleaned_ok (xs.getLastD sn0) (names (fallen D ks)) (fallen D ks) hfi.ok).2
  have hnl : (names (fallen D ks)).length = (fallen D ks).files.length := by simp [names]
  have hst2 : (sFiles xs (fallen D ks)).steps ≤ 1000000 := by
    show (cleaned _ _ _).steps ≤ _
    omega
  have hcf := hcl.inv.few
  obtain ⟨hft, hrc⟩ := opened_fits (l := lM) hcl.inv (by omega)
  have hlast : (xs.getLastD sn0) = sn0 ∨ ((xs.getLastD sn0).there = true ∧ 2 ≤ (xs.getLastD sn0).upto ∧ (xs.getLastD sn0).bs = [(((xs.getLastD sn0).upto - 1 : Nat) : Int)] ∧ (xs.getLastD sn0).upto ≤ maxNo) := by
    by_cases hx : xs = []
    · rw [hx]; exact .inl rfl
    · have hm : xs.getLastD sn0 ∈ xs := by
        rw [List.getLastD_eq_getLast?, List.getLast?_eq_some_getLast hx]
        exact List.getLast_mem hx
      obtain ⟨h1, h2, _⟩ := hsn.at_ _ hm
      obtain ⟨h3, h4⟩ := hbs _ hm
      exact .inr ⟨h1, h3, h4, h2.no⟩
  have hgood : (jOpen lM (sFiles xs (fallen D ks))).1 = 0 → jFirst (opened lM (sFiles xs (fallen D ks))) ≤ (xs.getLastD sn0).upto → (xs.getLastD sn0).upto ≤ (opened lM (sFiles xs (fallen D ks))).next → Good6 (fallen D ks) xs := fun g1 g2 g3 =>
    ⟨hfi.ok, ⟨rfl, rfl⟩, by omega, by omega, hsn2, hcl.calm.off, by omega, hcl.inv.byt, g1, g2, g3⟩
  refine ⟨xs, ?_⟩
  rcases hlie with ⟨a, ps, s, k, q, l1, l2, l3, l4, l5, l6, l7⟩ | ⟨l1, l2, l3⟩
  · obtain ⟨k', hk'⟩ := l2.fall hi.ok ks
    have hk2 := hk'.apart hcl.apart hfi.ok.srt hcl.inv.ok.srt
    have hkk : k' ≤ used (fallen D ks).files := by
      obtain ⟨f, h1, h2, _⟩ := hk'.last
      have := file_used h1
      rw [h2, List.length_take, sby_length] at this
      have := hk'.kle
      omega
    have hcu := hcl.used
    have hcr : (sFiles xs (fallen D ks)).room = D.room := hcl.room
    obtain ⟨ho, _⟩ := hk2.open_ hcl.inv.ok hcl.calm.off hcl.calm.fuse okM (by rw [hcr]; omega)
    obtain ⟨f1, f2, f3, f4, f5⟩ := hk2.found6 hcl.inv.ok
    refine ⟨hgood ho (by rw [f4]; exact l6) (by rw [f5]; omega), ?_⟩
    have hsl : (sSince (sOpened xs (fallen D ks))).length = (jAll (opened lM (sFiles xs (fallen D ks)))).length - ((xs.getLastD sn0).upto - a) := by
      show ((jAll (opened lM (sFiles xs (fallen D ks)))).drop ((xs.getLastD sn0).upto - jFirst (opened lM (sFiles xs (fallen D ks))))).length = _
      rw [f4, List.length_drop]
    refine ⟨hlast, by show jFirst (opened lM _) ≤ _; rw [f4]; exact l6, ?_, ?_, ?_, ?_, ?_, hft, hrc⟩
    · show (xs.getLastD sn0).upto - jFirst (opened lM (sFiles xs (fallen D ks))) ≤ (jAll (opened lM (sFiles xs (fallen D ks)))).length
      rw [f4]; omega
    · rw [hsl]
      show (jAll (opened lM (sFiles xs (fallen D ks)))).drop ((xs.getLastD sn0).upto - jFirst (opened lM (sFiles xs (fallen D ks)))) = (M.drop ((xs.getLastD sn0).upto - 1)).take _
      rw [f4]
      have e : jAll (opened lM (sFiles xs (fallen D ks))) = (M.drop (a - 1)).take (jAll (opened lM (sFiles xs (fallen D ks)))).length := by
        rw [l3, List.take_take, Nat.min_eq_left f2] at f3
        exact f3
      generalize (jAll (opened lM (sFiles xs (fallen D ks)))).length = N at *
      rw [e, List.drop_take, List.drop_drop, show a - 1 + ((xs.getLastD sn0).upto - a) = (xs.getLastD sn0).upto - 1 by omega]
    · rw [hsl]
      show m ≤ (xs.getLastD sn0).upto - 1 + _
      omega
    · rw [hsl]
      show (xs.getLastD sn0).upto - 1 + _ ≤ n
      omega
    · rw [hsl]
      show (opened lM (sFiles xs (fallen D ks))).next = (xs.getLastD sn0).upto + _
      rw [f5]
      omega
  · have hb := (l1.fall ks).apart hcl.apart hfi.ok.srt hcl.inv.ok.srt
    obtain ⟨b1, b2⟩ := hb.open_
    have hx0 : xs.getLastD sn0 = sn0 := by rw [l3]; rfl
    refine ⟨hgood (by rw [b1]) (by rw [b2, hx0]; decide) (by rw [b2, hx0]; decide), ?_⟩
    have hsl : sSince (sOpened xs (fallen D ks)) = [] := by
      show (jAll (opened lM (sFiles xs (fallen D ks)))).drop _ = []
      rw [b2]
      exact List.drop_nil
    refine ⟨hlast, ?_, ?_, ?_, ?_, ?_, ?_, hft, hrc⟩
    · show jFirst (opened lM _) ≤ (xs.getLastD sn0).upto
      rw [b2, hx0]; decide
    · show (xs.getLastD sn0).upto - jFirst (opened lM (sFiles xs (fallen D ks))) ≤ _
      rw [b2, hx0]; exact Nat.zero_le _
    · rw [hsl]; rfl
    · rw [l2]; exact Nat.zero_le _
    · rw [hsl]
      show (xs.getLastD sn0).upto - 1 + 0 ≤ n
      rw [hx0]; exact Nat.zero_le _
    · rw [hsl]
      show (opened lM (sFiles xs (fallen D ks))).next = (xs.getLastD sn0).upto + 0
      rw [b2, hx0]
      rfl
end
end Go.Proofs.YtbobakfcmkaijaaGreatDoor
end

section
/- For the stage's theorem: bounds, the calls within a walk. -/
namespace Go.Proofs.YtbobakfcmkaijaaGreatDoor
open Go.RowKit
set_option linter.unusedVariables false

theorem cellsN : Tryz.prog.cellsOf 3 = 1 := by kernel_rfl
theorem bytesN : Tryz.prog.bytesOf 3 = 8 := by kernel_rfl
theorem fine_no (A : Option Addr) (zs : List Int) (n c lim : Nat) (w : World) (hn : zs.length = n) (hl : n ≤ 9223372036854775807) (hr : Rds w lim A (cN zs)) (hneg : zs.any (fun k => decide (k < 0)) = true) :
    Calls Tryz.prog 19 #[.slice A n c] w fun e w' => e = .returned (.bool false) ∧ ∃ k, w' = w.drewN k := by
  have HNEG := Lib.hid hneg
  clear hneg
  go_enter Tryz.func19, Tryz.ntmps19
  go_wp2
  go_loopw [3] (fun i wr => ∃ k : Nat, k ≤ n ∧ i = .int .i64 k ∧ (∀ j, j < k → ∀ z, zs[j]? = some z → 0 ≤ z) ∧ ∃ q, wr = w.drewN q) (fun i _ => n - (intOf i).toNat)
  case atStart => exact ⟨0, Nat.zero_le _, rfl, fun j hj => absurd hj (by omega), 0, rfl⟩
  case round =>
    obtain ⟨k, hk, rfl, hall, q, rfl⟩ := hrel
    have HA := Lib.hid hall
    clear hall
    by_cases hlt : k < n
    · have h1 : k < zs.length := by omega
      obtain ⟨ad, rfl, _, hc0⟩ := hr.at_ (show (cN zs)[k]? = some (.int .i64 zs[k]) by simp [cN, h1])
      have HE := Lib.hid (List.getElem?_eq_getElem h1)
      generalize zs[k] = z at *
      go_wp2
      · go_ret
        exact ⟨rfl, q, rfl⟩
      · go_roundw
        case rel =>
          refine ⟨k + 1, by omega, by go_num, fun j hj z' hz' => ?_, _, rfl⟩
          rcases Nat.lt_or_ge j k with h | h
          · exact HA.out j h z' hz'
          · obtain rfl : j = k := by omega
            rw [HE.out] at hz'
            obtain rfl := Option.some.inj hz'
            omega
        case measure => simp [intOf]; omega
    · exfalso
      have hk2 : k = n := by omega
      obtain ⟨z, hz, hz0⟩ := List.any_eq_true.1 HNEG.out
      obtain ⟨j, hj, rfl⟩ := List.getElem_of_mem hz
      have := HA.out j (by omega) _ (List.getElem?_eq_getElem hj)
      have h0 := of_decide_eq_true hz0
      omega

section
variable {D D' : Dsk} {X : Ck} {L M : List (List Int)} {m n : Nat} {b : List Int}
theorem St6.fits (h : St6 D X L m) (hL : L.length ≤ 1000) : Fits X.J ∧ X.J.segs.length ≤ L.length + 2 := by
  rcases h.st with ⟨_, e, _⟩ | ⟨a, ps, s, q, xs, hm, e, _⟩
  · rw [e]
    exact ⟨bare_fits, Nat.zero_le _⟩
  · have h1 := hm.sum
    have h2 := hm.one
    have hft := hm.lie.fits h.inv.ok.srt (by omega)
    rw [e]
    refine ⟨hft, ?_⟩
    have hr := hm.lie.rise h.inv.ok.srt
    have hmem : ∀ x ∈ (ps ++ [s]).map (·.num), x ≤ a + cnt ps := fun y hy => by
      obtain ⟨x, hx, rfl⟩ := List.mem_map.1 hy
      rcases List.mem_append.1 hx with hx | hx
      · have := hm.lie.below h.inv.ok.srt x hx
        have := hm.lie.num
        omega
      · obtain rfl := List.mem_singleton.1 hx
        exact Nat.le_of_eq hm.lie.num
    have := rise_len _ 0 (a + cnt ps) hr (fun y hy => ⟨Nat.zero_le _, hmem y hy⟩)
    rw [List.length_map] at this
    rw [cnt_snoc] at h1
    show (ps ++ [s]).length ≤ _
    omega
theorem slog_sn (D : Dsk) (X : Ck) (b : List Int) : (sLog D X b).2.2.2.sn = X.sn := by
  show (ckEnd _ _).sn = _
  unfold ckEnd
  split <;> rfl
theorem ssync_sn (D : Dsk) (X : Ck) : (sSync D X).2.2.sn = X.sn := by
  show (ckEnd _ _).sn = _
  unfold ckEnd
  split <;> rfl
theorem jsync_segs {l : Nm} {J : Jn} : (jSync l D J).2.2.segs = J.segs := by
  unfold jSync
  split
  · rfl
  · unfold jSyncLast
    split
    · rfl
    · unfold jStep jEnd
      dsimp only
      split <;> rfl
theorem change_steps (D : Dsk) (old nx : Sn) : (sChange D old nx).2.1.steps ≤ D.steps + 5 + ((snB nx).length + 63) / 64 := by
  have h1 := put_steps D (snapN lM nx.upto) (snB nx)
  have h2 := (steps_remove (sPut D (snapN lM nx.upto) (snB nx)).2 (snapN lM old.upto)).1
  unfold sChange
  split
  · split
    · show (sPut _ _ _).2.steps ≤ _; omega
    · show (dRemove _ _).2.steps ≤ _; omega
  · show (sPut _ _ _).2.steps ≤ _; omega
theorem save_steps (h : Okd D) (hb : (snB ⟨true, X.J.next, b⟩).length ≤ 40) : (sSave D X b).2.1.steps ≤ D.steps + 8 + X.J.segs.length := by
  show (sSave0 D X b).2.1.steps ≤ _
  have h1 := jsync_okd (l := lM) (J := X.J) h
  have h2 := change_steps (jSync lM D X.J).2.1 X.sn ⟨true, X.J.next, b⟩
  have h2' := change_okd (old := X.sn) (nx := ⟨true, X.J.next, b⟩) h1.1 (by omega)
  have h3 := (jdrop_okd (l := lM) (J := (jSync lM D X.J).2.2) (n := X.J.next) h2'.1).2
  rw [jsync_segs] at h3
  have e : sSave1 (jSync lM D X.J).2.1 X b = sChange (jSync lM D X.J).2.1 X.sn ⟨true, X.J.next, b⟩ := rfl
  unfold sSave0
  rw [e]
  have h1s := h1.2
  split
  · split
    · exact Nat.le_trans h3 (by omega)
    · exact Nat.le_trans h2 (by omega)
  · exact Nat.le_trans h1s (by omega)
end
section
variable {w0 w w' : World} {S T U S' T' U' : Nat → Prop} {st j d m : Nat} {D D' : Dsk} {X X' : Ck} {L : List (List Int)}
theorem at6_fuse (h : At6 w0 w S T U st j d D X) (n : Int) : Calls Tryz.prog 17 #[.pointer (some ⟨d, 0, none⟩), .int .i64 n] w fun e w' => e = .returned (.int .i64 (dFuse D n).1) ∧ At6 w0 w' S T U st j d (dFuse D n).2 X :=
  (fuse_any n w h.sd.jd.dk).mono fun e w' ⟨h1, h2, h3⟩ => by
    obtain ⟨k1, k2⟩ := h.sd.disk h2 h3
    exact ⟨h1, h.turn k1 k2⟩
/-- a record of the call's own arguments -/
theorem At6.arg (h : At6 w0 w S T U st j d D X) {y : RcM} (hy : Rds w0 w0.heap.size y.A (c8 y.r)) : Rds w w.heap.size y.A (c8 y.r) ∧ ∀ ad, y.A = some ad → c8 y.r ≠ [] → ¬ S ad.block ∧ ¬ T ad.block := by
  refine ⟨(hy.below h.below).more h.below.size, fun ad e hne => ?_⟩
  obtain ⟨ad', e', hb, _⟩ := hy hne
  obtain rfl := Option.some.inj (e.symm.trans e')
  exact ⟨fun hs => by have := h.ge _ (.inl hs); omega, fun hs => by have := h.ge _ (.inr (.inl hs)); omega⟩
/-- Save of how many records there are -/
theorem at6_save (h : At6 w0 w S T U st j d D X) (hs : St6 D X L m) (hL : 1 ≤ L.length) (hL2 : L.length ≤ 200) (hup : X.sn.upto ≤ L.length) (hr : used D.files + 40 ≤ D.room) (hst : D.steps ≤ 1000000) :
    Calls Tryz.prog 11 #[.pointer (some ⟨st, 0, none⟩), .slice (some ⟨w.heap.size, 0, none⟩) 1 1] (w.alloc (.cells #[.int .u8 (L.length : Int)] 5)) fun e w' => e = .returned (.int .i64 (sSave D X [(L.length : Int)]).1) ∧ ∃ S' U', At6 w0 w' S' T U' st j d (sSave D X [(L.length : Int)]).2.1 (sSave D X [(L.length : Int)]).2.2 := by
  have hba : Below w.heap.size w (w.alloc (.cells #[.int .u8 (L.length : Int)] 5)) := (Below.refl _ _).alloc (Nat.le_refl _) _
  have h5 := h.go hba
  have hl := h.sd.lt
  have hft := hs.fits (by omega)
  obtain ⟨hsok, _⟩ := hs.sok rfl (by omega)
  have hsv := hs.save hL hup rfl (by omega) hr
  have hnx := hs.next
  refine (ssave_any (some ⟨w.heap.size, 0, none⟩) [(L.length : Int)] 1 1 _ h5.sd hs.xon hs.jon hs.on hs.inv.ok (by omega) hft.1 (by omega) rfl hsok.byt (by decide)
    ((Rds.madeF5 w 5 [(L.length : Int)] #[.int .u8 (L.length : Int)] (0, 0) rfl).more (by simp)) (fun ad e _ hh => by
      obtain rfl := Option.some.inj e
      exact Nat.lt_irrefl _ (hl _ hh))
    hsok.no (by unfold maxNo; omega) hsok hsv.c1 hsv.c2).mono ?_
  rintro e w5 ⟨rfl, S5, U5, hs5, ht5⟩
  exact ⟨rfl, S5, U5, h5.turn hs5 ht5⟩
end
theorem Rds.part {w : World} {lim : Nat} {ad : Addr} {xs : List Value} (h : Rds w lim (some ad) xs) (i m : Nat) : Rds w lim (some (ad.add i)) ((xs.drop i).take m) := by
  intro hne
  have hb : xs ≠ [] := by
    intro e
    subst e
    simp at hne
  obtain ⟨ad', e, hl, hc⟩ := h hb
  obtain rfl := Option.some.inj e
  refine ⟨_, rfl, by rw [blk_add]; exact hl, fun j u hu => ?_⟩
  rw [add_twice]
  refine hc _ u ?_
  simp only [List.getElem?_take, List.getElem?_drop] at hu
  split at hu
  · exact hu
  · cases hu

abbrev dBig : Dsk := dNew 1048576
def dBigF (r : Nat) : Dsk := (dFuse dBig r).2
theorem dBigF_ok (r : Nat) : dFuse dBig r = (0, dBigF r) := by
  unfold dBigF dFuse
  rw [if_neg (show ¬ dBig.off = true by decide), if_neg (show ¬ (r : Int) < 0 by omega)]
theorem dBigF_eq (r : Nat) : dBigF r = { dBig with fuse := r } := by
  unfold dBigF dFuse
  rw [if_neg (show ¬ dBig.off = true by decide), if_neg (show ¬ (r : Int) < 0 by omega)]
theorem dBigF_st (r : Nat) (hr : r < 500) : St6 (dBigF r) Y0 [] 0 := by
  refine ⟨fuse_inv (new_inv 1048576 (by decide)) (by omega), ?_, rfl, ?_, .inl ⟨⟨?_, ?_⟩, rfl, rfl, rfl, rfl, ?_⟩⟩
  · rw [dBigF_eq]; rfl
  · rw [dBigF_eq]; rfl
  · rw [dBigF_eq]; rfl
  · rw [dBigF_eq]; rfl
  · rw [dBigF_eq]; exact (snaps_new 1048576).same rfl
/-- within the loop: i records logged, m of them sure -/
structure Lp6 (D : Dsk) (X : Ck) (M : List (List Int)) (i m u c : Nat) : Prop where
  st : St6 D X (M.take i) m
  le : m ≤ i
  used : used D.files ≤ u
  room : D.room = 1048576
  steps : D.steps ≤ c
/-- behind the loop -/
structure Out6 (D : Dsk) (M : List (List Int)) (m a : Nat) : Prop where
  lost : Lost6 D M m a
  inv : Inv D
  room : 2 * used D.files ≤ D.room
  steps : D.steps ≤ 400000
  le : a ≤ 100
end Go.Proofs.YtbobakfcmkaijaaGreatDoor
end
