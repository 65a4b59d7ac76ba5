/- Several texts, each a section: JSt, DSameT, DLives, JLives, End, JLaid, Same, JArgs. -/
import Derived.Test.YtfiebjfdlplpjaaGreatDoorM16
import Derived.Test.YtfiebjfdlplpjaaGreatDoorM08
import Derived.Laws.MakeOwn
import Derived.Lib.SlBytesConst
import Derived.Test.YtfiebjfdlplpjaaGreatDoorRows
import Derived.Test.YtfiebjfdlplpjaaGreatDoorM02
import Derived.Test.YtfiebjfdlplpjaaGreatDoorM01
import Derived.ProofKit
import Derived.OpenShut
import Derived.SizedLaws
import Derived.Carry
import Derived.Test.YtfiebjfdlplpjaaGreatDoorCards
import Derived.Test.YtfiebjfdlplpjaaGreatDoorTie
import Derived.Test.YtfiebjfdlplpjaaGreatDoorM10
import Derived.Lay
import Derived.Deep.DeepHandedRow
import Derived.Lib.LaidU8
section
/- The state of a journal and its disk between calls, as plain mathematics. -/
namespace Go.Proofs.YtfiebjfdlplpjaaGreatDoor
set_option linter.unusedVariables false

/-- no fuse -/
structure Free (D : Dsk) : Prop where
  on : D.off = false
  fuse : D.fuse = -1
section
variable {l : Nm} {D D' : Dsk} {a k m : Nat} {ps : List Sg} {s : Sg} {L : List (List Int)} {J : Jn} {b : List Int}
theorem Free.ask (h : Free D) (ns : List Nm) : ask D ns ≠ 10 := by
  unfold Go.Proofs.YtfiebjfdlplpjaaGreatDoor.ask
  rw [if_neg (by rw [h.on]; decide)]
  split <;> decide
theorem Free.step (h : Free D) (t : List Fl → List Fl) : (dStep D t).1 ≠ 10 ∧ Free (dStep D t).2 := by
  obtain ⟨h1, h2, h3, h4, h5⟩ := dStep_free (t := t) h.fuse
  exact ⟨by rw [h1]; decide, by rw [h3]; exact h.on, h5⟩
theorem Free.make (h : Free D) (n : Nm) : (dMake D n).1 ≠ 10 ∧ Free (dMake D n).2 := by
  unfold dMake
  split
  · exact ⟨h.ask _, h⟩
  · split
    · exact ⟨(show (7 : Int) ≠ 10 by decide), h⟩
    · exact h.step _
theorem Free.sync (h : Free D) (n : Nm) : (dSync D n).1 ≠ 10 ∧ Free (dSync D n).2 := by
  unfold dSync
  split
  · exact ⟨h.ask _, h⟩
  · split
    · exact ⟨(show (6 : Int) ≠ 10 by decide), h⟩
    · exact h.step _
theorem Free.app (h : Free D) (n : Nm) (b : List Int) : (dAppend D n b).1 ≠ 10 ∧ Free (dAppend D n b).2 := by
  unfold dAppend
  split
  · exact ⟨h.ask _, h⟩
  · split
    · exact ⟨(show (6 : Int) ≠ 10 by decide), h⟩
    · split
      · exact ⟨(show (8 : Int) ≠ 10 by decide), h⟩
      · obtain ⟨t, u, _, _, _, h4⟩ := puts_two n (parts b) D
        rcases h4 with ⟨e1, _, e3, e4⟩ | ⟨_, _, e3⟩
        · exact ⟨by rw [e1]; decide, by rw [e3]; exact h.on, e4 h.fuse⟩
        · exact absurd h.fuse e3
theorem Free.syncLast (h : Free D) : (jSyncLast l D J).1 ≠ 10 ∧ Free (jSyncLast l D J).2.1 := by
  unfold jSyncLast
  split
  · exact ⟨(show (0 : Int) ≠ 10 by decide), h⟩
  · exact h.sync _
theorem Free.extend (h : Free D) : (jExtend l D J).1 ≠ 10 ∧ Free (jExtend l D J).2.1 := by
  unfold jExtend
  split
  · exact ⟨(show (0 : Int) ≠ 10 by decide), h⟩
  · split
    · exact ⟨(show (2 : Int) ≠ 10 by decide), h⟩
    · split
      · unfold jNew
        split
        · exact ⟨(show (0 : Int) ≠ 10 by decide), (h.syncLast.2.make _).2⟩
        · exact h.syncLast.2.make _
      · exact h.syncLast
theorem Free.append (h : Free D) (hj : J.off = false) : (jAppend l D J b).2.1 ≠ 10 ∧ Free (jAppend l D J b).2.2.1 := by
  unfold jAppend
  rw [if_neg (by rw [hj]; decide)]
  split
  · exact ⟨(show (3 : Int) ≠ 10 by decide), h⟩
  · split
    · unfold jPut
      split
      · exact ⟨(show (0 : Int) ≠ 10 by decide), (h.extend.2.app _ _).2⟩
      · exact h.extend.2.app _ _
    · exact h.extend

/-- between calls, all well: the records L, m of them sure -/
structure St5 (l : Nm) (D : Dsk) (J : Jn) (L : List (List Int)) (m : Nat) : Prop where
  inv : Inv D
  on : D.off = false
  st : (Bare l D ∧ J = jnOf [] ∧ L = [] ∧ m = 0) ∨ Whole5 l D J 1 L m
theorem St5.jon (h : St5 l D J L m) : J.off = false := by
  rcases h.st with ⟨_, rfl, _⟩ | ⟨ps, s, _, rfl, _⟩ <;> rfl
theorem St5.fits (h : St5 l D J L m) (hL : L.length ≤ 1073741800) : Fits J ∧ J.segs.length < 1073741824 := by
  rcases h.st with ⟨_, rfl, _⟩ | ⟨ps, s, hl, rfl, hf⟩
  · exact ⟨bare_fits, by decide⟩
  · have hc := whole_cnt hf
    have hft := hl.fits h.inv.ok.srt (by omega)
    refine ⟨hft, ?_⟩
    have hr := hl.rise h.inv.ok.srt
    have hmem : ∀ x ∈ (ps ++ [s]).map (·.num), x ≤ 1 + cnt ps := fun y hy => by
      obtain ⟨x, hx, rfl⟩ := List.mem_map.1 hy
      rcases List.mem_append.1 hx with hx | hx
      · have := hl.below h.inv.ok.srt x hx
        have := hl.num
        omega
      · obtain rfl := List.mem_singleton.1 hx
        exact Nat.le_of_eq hl.num
    have := rise_len _ 0 (1 + cnt ps) hr (fun y hy => ⟨Nat.zero_le _, hmem y hy⟩)
    rw [List.length_map] at this
    rw [cnt_snoc] at hc
    show (ps ++ [s]).length < _
    omega
theorem St5.sure (h : St5 l D J L m) : m ≤ L.length := by
  rcases h.st with ⟨_, _, _, rfl⟩ | ⟨ps, s, hl, rfl, hf⟩
  · exact Nat.zero_le _
  · obtain ⟨f, _, _, e⟩ := hl.last
    have := whr_le s.recs f.sy
    have h2 := whole_cnt hf
    rw [cnt_snoc] at h2
    omega
theorem St5.told (h : St5 l D J L m) (hl : okJ l = true) (hb : Goodr b) (hr : used D.files + (b.length + 12) ≤ D.room) (hL : L.length + 1 ≤ maxNo) : Told l (jAppend l D J b) 1 (1 + L.length) L b m D.room (used D.files + (b.length + 12)) := by
  rcases h.st with ⟨h1, rfl, rfl, rfl⟩ | ⟨ps, s, h1, rfl, h3⟩
  · exact append_first h1 h.inv.ok h.on hl hb hr
  · have hc := whole_cnt h3
    have := append_told h1 h.inv.ok h.on hl hb hr (by omega)
    rw [hc, h3] at this
    exact this
theorem St5.next (h : St5 l D J L m) : J.next = 1 + L.length := by
  rcases h.st with ⟨_, rfl, rfl, _⟩ | ⟨ps, s, hl, rfl, hf⟩
  · rfl
  · show 1 + cnt (ps ++ [s]) = _
    rw [whole_cnt hf]
/-- Append went well -/
theorem St5.good (h : St5 l D J L m) (hb : Goodr b) {n room u : Nat} (ht : Told l (jAppend l D J b) 1 n L b m room u) (he : (jAppend l D J b).2.1 = 0) : (jAppend l D J b).1 = n ∧ St5 l (jAppend l D J b).2.2.1 (jAppend l D J b).2.2.2 (L ++ [b]) m := by
  rcases ht.2.2 with ⟨_, h2, h3, h4⟩ | ⟨h2, _⟩
  · exact ⟨h2, jAppend_inv h.inv hb, h4, .inr h3⟩
  · rw [he] at h2
    cases h2
theorem St5.bad (h : St5 l D J L m) {n room u : Nat} (ht : Told l (jAppend l D J b) 1 n L b m room u) (he : (jAppend l D J b).2.1 ≠ 0) : (jAppend l D J b).2.1 = 10 ∧ Part5 l (jAppend l D J b).2.2.1 1 L b m := by
  rcases ht.2.2 with ⟨h2, _⟩ | h2
  · exact absurd h2 he
  · exact h2
/-- what may be found behind a crash: a first part of M, of n at most, m of them sure -/
def Lost (l : Nm) (D : Dsk) (M : List (List Int)) (m n : Nat) : Prop := (∃ ps s k, Lies l D 1 ps s k m ∧ flat (ps ++ [s]) = M.take (flat (ps ++ [s])).length ∧ (flat (ps ++ [s])).length ≤ n) ∨ (Bare l D ∧ m = 0)
theorem Part5.lost (h : Part5 l D 1 L b m) {M : List (List Int)} {i : Nat} (hL : L = M.take i) (hi : i < M.length) (hb : b = M[i]) : Lost l D M m (i + 1) := by
  have hLl : L.length = i := by rw [hL, List.length_take]; omega
  rcases h with ⟨ps, s, k, h1, h2 | h2⟩ | ⟨h1, h2, h3⟩
  · refine .inl ⟨ps, s, k, h1, ?_, ?_⟩
    · rw [h2, hLl]
      exact hL
    · rw [h2, hLl]
      omega
  · have h4 : L ++ [b] = M.take (i + 1) := by
      rw [List.take_add_one, List.getElem?_eq_getElem hi, hL, hb]
      rfl
    refine .inl ⟨ps, s, k, h1, ?_, ?_⟩
    · rw [h2, List.length_append, List.length_singleton, hLl]
      exact h4
    · rw [h2, List.length_append, List.length_singleton, hLl]
      exact Nat.le_refl _
  · exact .inr ⟨h1, h3⟩
/-- Sync -/
theorem St5.sync (h : St5 l D J L m) (hl : okJ l = true) : used (jSync l D J).2.1.files = used D.files ∧ (jSync l D J).2.1.room = D.room ∧
    (((jSync l D J).1 = 0 ∧ St5 l (jSync l D J).2.1 (jSync l D J).2.2 L L.length) ∨ ((jSync l D J).1 = 10 ∧ ∀ M, L = M.take L.length → Lost l (jSync l D J).2.1 M m L.length)) := by
  have hin := jSync_inv (l := l) (J := J) h.inv
  have e0 : jSync l D J = jSyncLast l D J := by
    unfold jSync
    rw [if_neg (by simp [jRefused, h.jon, h.on])]
  rw [e0] at hin ⊢
  rcases h.st with ⟨h1, rfl, rfl, rfl⟩ | ⟨ps, s, h1, rfl, h3⟩
  · exact ⟨rfl, rfl, .inl ⟨rfl, hin, h.on, .inl ⟨h1, rfl, rfl, rfl⟩⟩⟩
  · have e1 : jSyncLast l D (jnA 1 (ps ++ [s])) = jStep (jnA 1 (ps ++ [s])) (dSync D (segN l s.num)) := by
      unfold jSyncLast
      rw [if_neg (by simp [jnA]), jnA_last]
    rw [e1] at hin ⊢
    rcases h1.sync h.inv.ok.srt h.on hl with e2 | ⟨e2, e3, e4, e5, h2, _⟩
    · rw [e2]
      refine ⟨rfl, rfl, .inr ⟨rfl, fun M hM => .inl ⟨ps, s, rsz s.recs, h1.same rfl, ?_, ?_⟩⟩⟩
      · rw [h3]
        exact hM
      · rw [h3]
        exact Nat.le_refl _
    · refine ⟨e5, e4, .inl ⟨e2, hin, e3, .inr ⟨ps, s, ?_, ?_, h3⟩⟩⟩
      · rw [← whole_cnt h3]
        exact h2
      · show jEnd (jnA 1 (ps ++ [s])) (dSync D (segN l s.num)).1 = _
        rw [e2]
        rfl
theorem St5.lost (h : St5 l D J L m) {M : List (List Int)} (hM : L = M.take L.length) : Lost l D M m L.length := by
  rcases h.st with ⟨h1, _, h3, h4⟩ | ⟨ps, s, h1, _, h3⟩
  · exact .inr ⟨h1, h4⟩
  · refine .inl ⟨ps, s, _, h1, ?_, ?_⟩
    · rw [h3]
      exact hM
    · rw [h3]
      exact Nat.le_refl _
theorem file_used {fs : List Fl} {n : Nm} {f : Fl} (h : find fs n = some f) : f.bs.length ≤ used fs := by
  unfold used
  exact le_sum5 (List.mem_map_of_mem (f := fun f => f.bs.length) (find_some h).1)
/-- behind a crash Open finds what was sure -/
theorem Lost.found {M : List (List Int)} {n : Nat} (h : Lost l D M m n) (hi : Inv D) {ks : List Int} (hn : ks.any (fun k => decide (k < 0)) = false) (hl : okJ l = true) (hr : 2 * used D.files ≤ D.room) :
    (jOpen l (fallen D ks)).1 = 0 ∧ Found5 (opened l (fallen D ks)) M m n := by
  have hfi := fallen_inv hi hn
  rcases h with ⟨ps, s, k, hl1, hf, hn2⟩ | ⟨hb, rfl⟩
  · obtain ⟨k', hk'⟩ := hl1.fall hi.ok ks
    have hus := fallen_used D ks
    have hkk : k' ≤ used (fallen D ks).files := by
      obtain ⟨f, h1, h2, _⟩ := hk'.last
      have := file_used h1
      rw [h2, List.length_take, sby_length] at this
      have := hk'.kle
      omega
    obtain ⟨ho, _⟩ := hk'.open_ hfi.ok rfl rfl hl (by show _ ≤ D.room; omega)
    have hfd := hk'.found5 hfi.ok hf
    exact ⟨ho, hfd.len1, Nat.le_trans hfd.len2 hn2, hfd.same, hfd.first, hfd.next⟩
  · obtain ⟨h1, h2⟩ := (hb.fall ks).open_
    rw [h1, h2]
    exact ⟨rfl, Nat.le_refl _, Nat.zero_le _, rfl, rfl, rfl⟩
end
end Go.Proofs.YtfiebjfdlplpjaaGreatDoor
end

section
/- The walk over the kit's SameTexts. -/
namespace Go.Proofs.YtfiebjfdlplpjaaGreatDoor
open Go.RowKit
set_option linter.unusedVariables false

def sameT (a b : List Nm) : Bool := decide (a = b)
theorem encStr_toList (l : Nm) : (ByteArray.mk l.toArray).toList = l := by rw [Lib.toList_data]

set_option maxHeartbeats 1000000 in
set_option maxRecDepth 5000 in
theorem sameTexts_any (A A' : Option Addr) (xs ys : List Nm) (n m c c' lim : Nat) (w : World) (hn : xs.length = n) (hm : ys.length = m) (hl : n ≤ 9223372036854775807) (hl' : m ≤ 9223372036854775807) (hr : Rds w lim A (cS xs)) (hr' : Rds w lim A' (cS ys)) :
    Calls Tryz.prog 15 #[.slice A n c, .slice A' m c'] w fun e w' => e = .returned (.bool (sameT xs ys)) ∧ ∃ q, w' = w.drewN q := by
  by_cases hlen : n = m
  · have hlb : ((n : Int) != (m : Int)) = false := by simp [hlen]
    have HL := Lib.hid hlen
    have HN := Lib.hid hn
    have HM := Lib.hid hm
    clear hlen hn hm
    have hn63 : (n : Int) ≤ 9223372036854775807 := by omega
    go_enter Tryz.func15, Tryz.ntmps15
    go_wp2
    go_loopw [5] (fun i wr => ∃ k : Nat, k ≤ n ∧ i = .int .i64 k ∧ (∀ j, j < k → xs[j]? = ys[j]?) ∧ ∃ q, wr = w.drewN q) (fun i _ => n - (intOf i).toNat)
    case atStart => exact ⟨0, Nat.zero_le _, rfl, fun j hj => absurd hj (by omega), 0, rfl⟩
    case round =>
      obtain ⟨k, hk, rfl, hsame, q, rfl⟩ := hrel
      have HS := Lib.hid hsame
      clear hsame
      by_cases hlt : k < n
      · have hkx : k < xs.length := by rw [HN.out]; exact hlt
        have hky : k < ys.length := by rw [HM.out, ← HL.out]; exact hlt
        have hltm : (k : Int) < (m : Int) := by have := HL.out; omega
        obtain ⟨ad, rfl, _, hcell⟩ := hr.at_ (cS_get hkx)
        obtain ⟨ad', rfl, _, hcell'⟩ := hr'.at_ (cS_get hky)
        have e1 : encStr xs[k] = .string ⟨xs[k].toArray⟩ := rfl
        have e2 : encStr ys[k] = .string ⟨ys[k].toArray⟩ := rfl
        rw [e1] at hcell
        rw [e2] at hcell'
        clear e1 e2
        have hX : (⟨xs[k].toArray⟩ : ByteArray).toList = xs[k] := encStr_toList _
        have hY : (⟨ys[k].toArray⟩ : ByteArray).toList = ys[k] := encStr_toList _
        by_cases heq : xs[k] = ys[k]
        · have hq : ((⟨xs[k].toArray⟩ : ByteArray).toList == (⟨ys[k].toArray⟩ : ByteArray).toList) = true := by rw [hX, hY, heq]; simp
          have hq2 : (⟨xs[k].toArray⟩ : ByteArray).toList = (⟨ys[k].toArray⟩ : ByteArray).toList := by rw [hX, hY, heq]
          have HE := Lib.hid heq
          clear hX hY heq
          generalize (⟨xs[k].toArray⟩ : ByteArray) = X at *
          generalize (⟨ys[k].toArray⟩ : ByteArray) = Y at *
          have hq3 : (X.toList != Y.toList) = false := by simp [hq2]
          go_wp2
          go_quiet (fail)
          go_wp2
          go_roundw
          case rel =>
            refine ⟨k + 1, by omega, by go_num, fun j hj => ?_, _, rfl⟩
            rcases Nat.lt_or_ge j k with h | h
            · exact HS.out j h
            · obtain rfl : j = k := by omega
              rw [List.getElem?_eq_getElem hkx, List.getElem?_eq_getElem hky, HE.out]
          case measure => simp [intOf]; omega
        · have hq2 : ¬ (⟨xs[k].toArray⟩ : ByteArray).toList = (⟨ys[k].toArray⟩ : ByteArray).toList := by rw [hX, hY]; exact heq
          have hf : sameT xs ys = false := by
            refine decide_eq_false fun e => heq ?_
            subst e
            rfl
          have HF := Lib.hid hf
          clear hX hY heq hf
          generalize (⟨xs[k].toArray⟩ : ByteArray) = X at *
          generalize (⟨ys[k].toArray⟩ : ByteArray) = Y at *
          have hq3 : (X.toList != Y.toList) = true := by simpa using hq2
          have hq4 : (X.toList == Y.toList) = false := by simpa using hq2
          go_wp2
          go_quiet (fail)
          go_wp2
          go_returns
          exact ⟨by rw [HF.out]; simp, _, World.drewN_drewN ..⟩
      · have ht : sameT xs ys = true := by
          refine decide_eq_true (List.ext_getElem? fun j => ?_)
          rcases Nat.lt_or_ge j k with h | h
          · exact HS.out j h
          · have h1 := HN.out
            have h2 := HM.out
            have h3 := HL.out
            rw [List.getElem?_eq_none (by omega), List.getElem?_eq_none (by omega)]
        have HT := Lib.hid ht
        clear ht
        go_wp2
        go_returns
        exact ⟨by rw [HT.out]; simp, q, rfl⟩
  · have hlb : ((n : Int) != (m : Int)) = true := by simp; omega
    have hf : sameT xs ys = false := decide_eq_false fun e => hlen (by rw [← hn, ← hm, e])
    rw [hf]
    clear hf hlen hn hm
    go_enter Tryz.func15, Tryz.ntmps15
    go_wp2
    go_returns
    exact ⟨by simp, 0, rfl⟩
end Go.Proofs.YtfiebjfdlplpjaaGreatDoor
end

section
/- The walk over the example that every statement of the layer asks first. -/
namespace Go.Proofs.YtfiebjfdlplpjaaGreatDoor
open Go.RowKit
set_option linter.unusedVariables false

theorem made8 (n : Nat) : (madeCells (Value.int .u8 0).cells (n * 1)).toList = c8 (List.replicate n 0) := by
  rw [show (Value.int .u8 0).cells = #[.int .u8 0] from rfl, Nat.mul_one]
  unfold madeCells
  apply List.ext_getElem
  · simp [c8]
  · intro i h1 h2
    simp [c8, Nat.mod_one]

/-- a new slice of n bytes 0 -/
theorem made_run (w : World) (n : Nat) (N : Int) (hN : N = n) (hn : n ≤ 1048576) : ∃ w', (Instr.makeSlice 33 (.int .i64 N) (.int .i64 N)).run Tryz.prog w = .ok (.slice (some ⟨w.heap.size, 0, none⟩) n n) w' ∧ Rds w' w'.heap.size (some ⟨w.heap.size, 0, none⟩) (c8 (List.replicate n 0)) ∧ Below w.heap.size w w' := by
  subst hN
  obtain ⟨i0, hi, hz0, hz1, hz2⟩ := info_parts info8
  obtain ⟨w9, hrun, hown, hgr⟩ := run_make_full (P := Tryz.prog) w w.heap.size 33 5 i0 (.int .u8 0) 1 Tryz.underlying33 hi hz0 hz1 .i64 .i64 n (by rw [hz2]; omega) (by unfold maxLen; omega) (Nat.le_refl _)
  rw [made8] at hown
  exact ⟨w9, hrun, Rds.ofOwn hown, (Below.refl _ _).grown hgr (Nat.le_refl _) (by simp)⟩

def nA : ByteArray := ByteArray.mk #[97]
def z70 : List Int := List.replicate 70 0
def dA1 : Dsk := ⟨100, [⟨[97], [], 0⟩], false, -1, 1⟩
def dA2 : Dsk := ⟨100, [⟨[97], z70, 0⟩], false, -1, 3⟩
def dA3 : Dsk := ⟨100, [⟨[97], z70, 70⟩], false, -1, 4⟩
theorem eA1 : dMake (dNew 100) (lst nA) = (0, dA1) := by rfl
theorem eA2 : dAppend dA1 (lst nA) z70 = (0, dA2) := by kernel_rfl
theorem eA3 : dSync dA2 (lst nA) = (0, dA3) := by kernel_rfl
theorem okA1 : Okd dA1 := by have := okd_make (okd_new 100 (by decide)) (lst nA); rw [eA1] at this; exact this
theorem okA2 : Okd dA2 := by have := okd_append okA1 (lst nA) z70; rw [eA2] at this; exact this
theorem okA3 : Okd dA3 := by have := okd_sync okA2 (lst nA); rw [eA3] at this; exact this

theorem Turn.go {S S' : Nat → Prop} {B : Nat} {w w1 w2 : World} (h : Below B w w1) (hB : B ≤ w.heap.size) (ht : Turn S S' w1 w2) (hS : ∀ k, S k → B ≤ k) : Below B w w2 ∧ ∀ k, S' k → B ≤ k := by
  refine ⟨h.trans (ht.outs.below hS (Nat.le_trans hB h.size)), fun k hk => ?_⟩
  rcases ht.new k hk with e | e
  · exact hS k e
  · exact Nat.le_trans (Nat.le_trans hB h.size) e

end Go.Proofs.YtfiebjfdlplpjaaGreatDoor
end

section
/- The walk over the chapter's first example, that every statement of the layer asks first. -/
namespace Go.Proofs.YtfiebjfdlplpjaaGreatDoor
open Go.RowKit
set_option linter.unusedVariables false

theorem conv_same5 (w : World) (C : Array Value) (n c : Nat) : (convert 33 33 (.slice (some ⟨w.heap.size, 0, none⟩) n c)).run Tryz.prog (w.alloc (.cells C 5)) = .ok (.slice (some ⟨w.heap.size, 0, none⟩) n c) (w.alloc (.cells C 5 (C.size, C.size + 1))) :=
  Lib.run_convert_bytes_const w 33 5 C n c Tryz.underlying33 Tryz.underlying5
theorem Rds.madeF5 (w : World) (t : TypeId) (zs : List Int) (cs : Array Value) (fr : Nat × Nat) (h : cs.toList = c8 zs) : Rds (w.alloc (.cells cs t fr)) (w.heap.size + 1) (some ⟨w.heap.size, 0, none⟩) (c8 zs) := by
  intro _
  refine ⟨_, rfl, by simp, fun j u hu => ?_⟩
  have hadd : (⟨w.heap.size, 0, none⟩ : Addr).add j = ⟨w.heap.size, j, none⟩ := by unfold Addr.add; split <;> simp_all
  rw [hadd, cell_of_row _ _ j cs t fr (heap_alloc_new w _), ← hu, ← h]
  simp

def nLog : ByteArray := ByteArray.mk #[108, 111, 103]
abbrev lLog : Nm := [108, 111, 103]
theorem okLog : okJ lLog = true := by decide
theorem lst_log : nLog.data.toList = lLog := rfl

/-- a journal and its disk within a walk -/
structure At5 (w0 w : World) (S T : Nat → Prop) (j d : Nat) (D : Dsk) (J : Jn) : Prop where
  jd : JD w S T j d nLog D J
  below : Below w0.heap.size w0 w
  ns : ∀ k, S k → w0.heap.size ≤ k
  nt : ∀ k, T k → w0.heap.size ≤ k
section
variable {w0 w w' : World} {S T S' T' : Nat → Prop} {j d : Nat} {D D' : Dsk} {J J' : Jn}
theorem At5.go (h : At5 w0 w S T j d D J) (hb : Below w.heap.size w w') : At5 w0 w' S T j d D J := ⟨h.jd.go hb, h.below.trans (hb.mono h.below.size), h.ns, h.nt⟩
theorem At5.turn (h : At5 w0 w S T j d D J) (hj : JD w' S' T' j d nLog D' J') (ht : TurnJ S T S' T' w w') : At5 w0 w' S' T' j d D' J' := by
  have hs := h.below.size
  refine ⟨hj, h.below.trans (ht.outs.below (fun k hk => ?_) hs), fun k hk => ?_, fun k hk => ?_⟩
  · rcases hk with hk | hk
    · exact h.ns k hk
    · exact h.nt k hk
  · rcases ht.ns k hk with e | e
    · exact h.ns k e
    · omega
  · rcases ht.nt k hk with e | e
    · exact h.nt k e
    · omega
theorem at_append (A : Option Addr) (b : List Int) (n c : Nat) (h : At5 w0 w S T j d D J) (hok : Okd D) (hr : D.steps + 300 ≤ 1099511627776) (hf : Fits J) (hfl : J.segs.length < 1073741824)
    (hn : b.length = n) (hb : Byt b) (hnl : n ≤ 9223372036854775807) (hrd : Rds w w.heap.size A (c8 b)) (hA : ∀ ad, A = some ad → c8 b ≠ [] → ¬ S ad.block ∧ ¬ T ad.block) :
    Calls Tryz.prog 10 #[.pointer (some ⟨j, 0, none⟩), .slice A n c] w fun e w' => e = .returned (.tuple #[.int .u64 (jAppend lLog D J b).1, .int .i64 (jAppend lLog D J b).2.1]) ∧ ∃ S' T', At5 w0 w' S' T' j d (jAppend lLog D J b).2.2.1 (jAppend lLog D J b).2.2.2 := by
  refine (jappend_any A b n c w h.jd hr hok hf hfl hn hb hnl hrd hA).mono ?_
  rintro e w2 ⟨rfl, S', T', h2, ht⟩
  exact ⟨rfl, S', T', h.turn h2 ht⟩
/-- a new disk, and a journal on it -/
theorem at_open (w1 : World) (hb : Below w0.heap.size w0 w1) (hk : Dk 0 w1 S d D) (hS : ∀ k, S k → w0.heap.size ≤ k) (hp : Pow w0) (hi : Inv D) (hoff : D.off = false) (hst : D.steps ≤ 1048576) (hgood : (jOpen lLog D).1 = 0) :
    Calls Tryz.prog 9 #[.pointer (some ⟨d, 0, none⟩), .string nLog] w1 fun e w' => ∃ j S' T', e = .returned (.tuple #[.pointer (some ⟨j, 0, none⟩), .int .i64 0]) ∧ At5 w0 w' S' T' j d (jOpen lLog D).2 (opened lLog D) := by
  have hp1 := hp.of (hb.block _ hp.lt)
  have hl := hp.lt
  refine (jopen_any (s := nLog) w1 hk hp1 (fun h0 => by have := hS _ h0; omega) okLog hi.ok hoff (by omega) (by have := hi.few; omega) hi.byt hgood).mono ?_
  rintro e w2 ⟨j, S', T', rfl, h2, ht⟩
  have hs := hb.size
  refine ⟨j, S', T', rfl, h2, hb.trans (ht.outs.below (fun k hk => hS k hk) hs), fun k hk => ?_, fun k hk => ?_⟩
  · rcases ht.ns k hk with e | e
    · exact hS k e
    · omega
  · have := ht.nt k hk
    omega
end

def D0 : Dsk := dNew 10000
def D1 : Dsk := (jAppend lLog D0 (jnOf []) [97]).2.2.1
def J1 : Jn := (jAppend lLog D0 (jnOf []) [97]).2.2.2
def D2 : Dsk := (jAppend lLog D1 J1 [98]).2.2.1
def J2 : Jn := (jAppend lLog D1 J1 [98]).2.2.2
theorem bare_new (r : Nat) : Bare lLog (dNew r) := ⟨rfl, rfl⟩
theorem st_new (r : Nat) (hr : r ≤ 1073741824) : St5 lLog (dNew r) (jnOf []) [] 0 := ⟨new_inv r hr, rfl, .inl ⟨bare_new r, rfl, rfl, rfl⟩⟩
theorem free_new (r : Nat) : Free (dNew r) := ⟨rfl, rfl⟩
/-- an Append on a disk without a fuse, with room -/
theorem app_free {D : Dsk} {J : Jn} {L : List (List Int)} {m : Nat} {b : List Int} (h : St5 lLog D J L m) (hf : Free D) (hb : Goodr b) (hr : used D.files + (b.length + 12) ≤ D.room) (hL : L.length + 1 ≤ 1073741800) :
    (jAppend lLog D J b).2.1 = 0 ∧ (jAppend lLog D J b).1 = 1 + L.length ∧ St5 lLog (jAppend lLog D J b).2.2.1 (jAppend lLog D J b).2.2.2 (L ++ [b]) m ∧ Free (jAppend lLog D J b).2.2.1 ∧ (jAppend lLog D J b).2.2.1.room = D.room ∧ used (jAppend lLog D J b).2.2.1.files ≤ used D.files + (b.length + 12) ∧ (jAppend lLog D J b).2.2.1.steps ≤ D.steps + 3 + (b.length + 12) := by
  have ht := h.told okLog hb hr (by unfold maxNo; omega)
  obtain ⟨h1, h2⟩ := hf.append (l := lLog) (b := b) h.jon
  have he : (jAppend lLog D J b).2.1 = 0 := by
    rcases ht.2.2 with ⟨e, _⟩ | ⟨e, _⟩
    · exact e
    · exact absurd e h1
  obtain ⟨h3, h4⟩ := h.good hb ht he
  exact ⟨he, h3, h4, h2, ht.1, ht.2.1, jAppend_steps h.inv.ok J b⟩
theorem good1 (z : Int) (h : 0 ≤ z ∧ z ≤ 255) : Goodr [z] := ⟨fun y hy => by obtain rfl := List.mem_singleton.1 hy; exact h, by show 1 ≤ 65536; decide⟩
theorem a1_facts : (jAppend lLog D0 (jnOf []) [97]).2.1 = 0 ∧ (jAppend lLog D0 (jnOf []) [97]).1 = 1 ∧ St5 lLog D1 J1 [[97]] 0 ∧ Free D1 ∧ D1.room = 10000 ∧ used D1.files ≤ 13 ∧ D1.steps ≤ 16 :=
  app_free (st_new 10000 (by decide)) (free_new 10000) (good1 97 (by decide)) (by decide) (by decide)
theorem a2_facts : (jAppend lLog D1 J1 [98]).2.1 = 0 ∧ (jAppend lLog D1 J1 [98]).1 = 2 ∧ St5 lLog D2 J2 [[97], [98]] 0 ∧ Free D2 ∧ D2.room = 10000 ∧ used D2.files ≤ 26 ∧ D2.steps ≤ 32 := by
  obtain ⟨_, _, h3, h4, h5, h6, h7⟩ := a1_facts
  obtain ⟨e1, e2, e3, e4, e5, e6, e7⟩ := app_free h3 h4 (good1 98 (by decide)) (by rw [h5]; show _ + (1 + 12) ≤ _; omega) (by decide)
  refine ⟨e1, e2, e3, e4, by rw [← h5]; exact e5, ?_, ?_⟩
  · have : used D2.files ≤ used D1.files + (1 + 12) := e6
    omega
  · have : D2.steps ≤ D1.steps + 3 + (1 + 12) := e7
    omega
theorem segN_bytes : strOf (segN lLog 1) = ⟨#[108, 111, 103, 45, 48, 48, 48, 48, 48, 48, 48, 48, 48, 48, 48, 49]⟩ := by kernel_rfl
theorem n2 : dNames D2 = [segN lLog 1] := by kernel_rfl

set_option maxHeartbeats 3200000 in
set_option maxRecDepth 10000 in
theorem lives5_any (w : World) (hp : Pow w) : Calls Tryz.prog 7 #[] w fun e w' => e = .returned (.bool true) ∧ Below w.heap.size w w' := by
  have hconv := conv_same5
  go_enter Tryz.func7, Tryz.ntmps7
  go_wp2_with fail
  refine (new_any 10000 (by decide) w).mono ?_
  rintro e w1 ⟨S1, d, rfl, hk1, hb1, hS1⟩
  have hop := at_open w1 hb1 hk1 hS1 hp (new_inv 10000 (by decide)) rfl (by decide) (by rw [(bare_new 10000).open_.1])
  rw [(bare_new 10000).open_.1, (bare_new 10000).open_.2] at hop
  clear hk1 hb1 hS1
  go_wp2_with fail
  refine hop.mono ?_
  rintro e w2 ⟨j, S2, T2, rfl, h2⟩
  clear hop
  go_wp2_with fail
  obtain ⟨f1, f2, st1, fr1, rm1, us1, sp1⟩ := a1_facts
  obtain ⟨g1, g2, st2, fr2, rm2, us2, sp2⟩ := a2_facts
  have hba : Below w2.heap.size w2 (w2.alloc (.cells #[.int .u8 97] 5 (1, 2))) := (Below.refl _ _).alloc (Nat.le_refl _) _
  have h3 := h2.go hba
  have hlS := h2.jd.dk.lt
  have hlT := h2.jd.jo.lt
  have ha := at_append (some ⟨w2.heap.size, 0, none⟩) [97] 1 1 h3 (okd_new 10000 (by decide)) (by decide) bare_fits (by decide) rfl (good1 97 (by decide)).1 (by decide)
    ((Rds.madeF5 w2 5 [97] #[.int .u8 97] (1, 2) rfl).more (by simp)) (fun ad e _ => by
      obtain rfl := Option.some.inj e
      exact ⟨fun hh => Nat.lt_irrefl _ (hlS _ hh), fun hh => Nat.lt_irrefl _ (hlT _ hh)⟩)
  rw [show jAppend lLog (dNew 10000) (jnOf []) [97] = (1, 0, D1, J1) from Prod.ext f2 (Prod.ext f1 rfl)] at ha
  clear h2 h3 hba hlS hlT
  refine ha.mono ?_
  rintro e w3 ⟨rfl, S3, T3, h3⟩
  clear ha
  go_wp2_with fail
  have hba : Below w3.heap.size w3 (w3.alloc (.cells #[.int .u8 98] 5 (1, 2))) := (Below.refl _ _).alloc (Nat.le_refl _) _
  have h4 := h3.go hba
  have hlS := h3.jd.dk.lt
  have hlT := h3.jd.jo.lt
  have hft := st1.fits (by decide)
  have ha := at_append (some ⟨w3.heap.size, 0, none⟩) [98] 1 1 h4 st1.inv.ok (by omega) hft.1 hft.2 rfl (good1 98 (by decide)).1 (by decide)
    ((Rds.madeF5 w3 5 [98] #[.int .u8 98] (1, 2) rfl).more (by simp)) (fun ad e _ => by
      obtain rfl := Option.some.inj e
      exact ⟨fun hh => Nat.lt_irrefl _ (hlS _ hh), fun hh => Nat.lt_irrefl _ (hlT _ hh)⟩)
  rw [show jAppend lLog D1 J1 [98] = (2, 0, D2, J2) from Prod.ext g2 (Prod.ext g1 rfl)] at ha
  clear h3 h4 hba hlS hlT
  refine ha.mono ?_
  rintro e w4 ⟨rfl, S4, T4, h4⟩
  clear ha
  have hnx := jnext_any w4 h4.jd
  rw [show J2.next = 3 from st2.next] at hnx
  have hnm := names_on w4 h4.jd.dk (show D2.steps ≤ 1099511627776 by omega) st2.inv.ok.srt
  rw [n2] at hnm
  have HB4 := Lib.hid h4.below
  clear h4 st1 st2 hft
  go_wp2_with fail
  refine hnx.mono ?_
  rintro e w5 ⟨rfl, hw5⟩
  rw [hw5]
  clear hw5 w5 hnx
  go_wp2_with fail
  refine hnm.mono ?_
  rintro e w5 ⟨v, rfl, hown, hb5⟩
  obtain ⟨A5, c5, rfl⟩ := row_any hown
  have HO := Lib.hid hown
  have HB5 := Lib.hid (HB4.out.trans (hb5.mono HB4.out.size))
  clear hnm hown hb5
  go_wp2_with fail
  have HQ := segN_bytes
  have hbn : Below w5.heap.size w5 (w5.alloc (.cells #[.string (strOf (segN lLog 1))] 9)) := (Below.refl _ _).alloc (Nat.le_refl _) _
  have hrn : Rds (w5.alloc (.cells #[.string (strOf (segN lLog 1))] 9)) (w5.alloc (.cells #[.string (strOf (segN lLog 1))] 9)).heap.size (some ⟨w5.heap.size, 0, none⟩) (cS [segN lLog 1]) := by
    intro _
    refine ⟨_, rfl, by simp, fun j u hu => ?_⟩
    exact one_new w5 9 (.string (strOf (segN lLog 1))) j u hu
  have hst := sameTexts_any A5 (some ⟨w5.heap.size, 0, none⟩) [segN lLog 1] [segN lLog 1] 1 1 c5 1 (w5.alloc (.cells #[.string (strOf (segN lLog 1))] 9)).heap.size (w5.alloc (.cells #[.string (strOf (segN lLog 1))] 9)) rfl rfl (by decide) (by decide) (((Rds.ofOwn HO.out).below hbn).more hbn.size) hrn
  rw [show sameT [segN lLog 1] [segN lLog 1] = true by simp [sameT], HQ] at hst
  rw [HQ] at hbn
  have HF := Lib.hid (HB5.out.trans (hbn.mono HB5.out.size))
  clear hbn hrn
  refine hst.mono ?_
  rintro e w6 ⟨rfl, q, rfl⟩
  clear hst
  go_wp2
  go_returns
  exact ⟨by simp, bDrewN HF.out q⟩
end Go.Proofs.YtfiebjfdlplpjaaGreatDoor
end

section
/- From a call that returns true and leaves all that was there as it was to what a statement asks of it. -/
namespace Go.Proofs.YtfiebjfdlplpjaaGreatDoor
open Go.RowKit Go.ChangeShapes Go.WideShapes Go.ChangeAt
set_option linter.unusedVariables false

theorem own : ownKnob Tryz.prog.godebug = none := by kernel_rfl
theorem laid : laidOutB Tryz.prog = true := by kernel_rfl
theorem cells8 : Tryz.prog.cellsOf 5 = 1 := by kernel_rfl
theorem bytes8 : Tryz.prog.bytesOf 5 = 1 := by kernel_rfl
theorem below_drewN {B : Nat} {a w : World} (h : Below B a w) (n : Nat) : Below B a (w.drewN n) := ⟨h.os, h.tape, h.output, h.size, h.block⟩

section
variable {H : Type} {enc : TypeId × Value → H} {P : Program}

/-- the arguments read as they did -/
theorem args_stay (hl : laidOutB P = true) {W W' : World} (hb : Below W.heap.size W W') : ∀ {ts : List TypeId} {vs : List Value} {ds : List (DataW H)} {ps : List MemPlace},
    ts.all (fun t => P.readableRec t && decide (t < P.types.size)) = true → DataW.TrodAll enc P W 0 (fun _ => true) true ts vs ds ps → (∀ x ∈ ps, x.block < W.heap.size) →
    DataW.TrodAll enc P W' 0 (fun b => decide (b < W.heap.size)) true ts vs ds ps
  | [], [], [], _, _, h, _ => h
  | t :: ts, _ :: _, _ :: _, _, ht, ⟨p, q, h1, h2, e⟩, hlt => by
    subst e
    simp only [List.all_cons, Bool.and_eq_true] at ht
    exact ⟨p, q, Below.trod hl ht.1.1 (of_decide_eq_true ht.1.2) h1 hb (fun x hx => hlt x (List.mem_append_left _ hx)),
      args_stay hl hb ht.2 h2 (fun x hx => hlt x (List.mem_append_right _ hx)), rfl⟩

theorem law_close (hl : laidOutB P = true) {n : Nat} {f : Func} {s : ChangeSpec} {W : World} {args : Array Value} {ds gs : List (DataW H)} {before : List MemPlace} {tb : TypeId}
    (hsv : s.vars = []) (hW : DataW.Whole enc P f.params.toList s.vars false W args.toList ds gs before)
    (hts : f.params.toList.all (fun t => P.readableRec t && decide (t < P.types.size)) = true) (hrt : f.resultTypes = #[tb]) (htb : P.underlying tb = some .bool)
    (hfn : s.fn H (ds ++ []) = { results := [.lit (.bool true)], args := ds })
    (hc : Calls P n args W fun e w' => e = .returned (.bool true) ∧ Below W.heap.size W w') :
    Calls P n args W fun e W' => ∃ v, e = .returned v ∧ s.post enc P f false true false false W args v W' := by
  refine hc.mono fun e W' ⟨he, hb⟩ => ⟨_, he, ?_⟩
  have hlt : ∀ p ∈ before, p.block < W.heap.size := fun p hp => hW.lt p hp
  have hgs : gs = [] := by
    obtain ⟨p, q, _, hV, _⟩ := hW
    rw [hsv] at hV
    exact (trodVars_none hV).1
  subst hgs
  have hA : DataW.TrodAll enc P W 0 (fun _ => true) true f.params.toList args.toList ds before := by
    obtain ⟨p, q, hA, hV, e, _⟩ := hW
    rw [hsv] at hV
    obtain ⟨_, rfl⟩ := trodVars_none hV
    rw [List.append_nil] at e
    subst e
    exact hA
  refine ⟨ds, [], before, [], before, [], hW, ?_, ?_, ?_, World.keptBut_mono (fun p hp => ⟨hp, .inr (.inl hp)⟩) (hb.frame (· ∈ before)), fun h => by cases h⟩
  · rw [hfn, hrt]
    exact trodAll_cons_mk (shut_bool htb _) trodAll_mk0
  · rw [hfn]
    exact args_stay hl hb hts hA hlt
  · rw [hfn, hsv]
    exact rfl

/-- an argument that is a slice of bytes: what is known of it -/
structure BytesArg (W : World) (v : Value) (d : DataW H) (A : Option Addr) (zs : List Int) (c : Nat) : Prop where
  val : v = .slice A zs.length c
  cap : zs.length ≤ c
  capMax : c ≤ maxLen
  byt : Byt zs
  nil_ : A = none → zs.length = 0 ∧ c = 0
  rds : Rds W W.heap.size A (c8 zs)
  data : zs = [] ∨ ∃ spare : List (DataW H), d = .slice (lits .u8 zs) spare

theorem open_bytes {t e : TypeId} {W : World} {v : Value} {d : DataW H} {ps : List MemPlace} {base : Nat} (ht : P.underlying t = some (.slice e)) (he : P.underlying e = some (.int .u8)) (hc : P.cellsOf e = 1)
    (hval : Value.okWide P W .any base t v) (h : DataW.Trod enc P W 0 (fun _ => true) true t v d ps) : ∃ A zs c, BytesArg W v d A zs c := by
  obtain ⟨a0, len, cap, rfl⟩ := okWide_slice ht hval
  obtain ⟨fuel, hf⟩ := h
  rcases open_ints ht he hc hf with ⟨h1, h2⟩ | ⟨a, len', cap', zs, h1, _, hle, hmax, hlen, h2, hcell, hwf⟩
  · simp only [Value.cells] at h1
    have h1' : Value.slice a0 len cap = .slice none 0 0 := by simpa using h1
    injection h1' with e1 e2 e3
    subst e1 e2 e3
    refine ⟨none, [], 0, rfl, Nat.le_refl _, by unfold maxLen; omega, (fun z hz => by cases hz), (fun _ => ⟨rfl, rfl⟩), Rds.none_, .inl rfl⟩
  · have h1' : Value.slice a0 len cap = .slice (some a) len' cap' := by simpa [Value.cells] using h1
    injection h1' with e1 e2 e3
    subst e1 e2 e3
    simp only [if_true] at hlen
    have hl : (zs.take len).length = len := by rw [List.length_take]; omega
    refine ⟨some a, zs.take len, cap, by rw [hl], by rw [hl]; exact hle, hmax, (fun z hz => bounds_u8 (hwf z (List.mem_of_mem_take hz))), (fun h => by cases h), ?_, .inr ⟨_, congrArg Prod.fst h2⟩⟩
    intro hne
    have hcells : ∀ j u, (c8 (zs.take len))[j]? = some u → W.cell? (a.add j) = some u := by
      intro j u hu
      have hj : j < (zs.take len).length := by
        have := (List.getElem?_eq_some_iff.1 hu).1
        simpa [c8] using this
      rw [c8_get hj] at hu
      have hu' := Option.some.inj hu
      subst hu'
      rw [hcell j (by omega)]
      simp [List.getD, show j < zs.length by omega]
    refine ⟨a, rfl, ?_, hcells⟩
    have hpos : 0 < (zs.take len).length := by
      rcases Nat.eq_zero_or_pos (zs.take len).length with h0 | h0
      · exact absurd (by rw [List.eq_nil_of_length_eq_zero h0]; rfl) hne
      · exact h0
    have := World.block_lt_of_cell? W _ (hcells 0 _ (c8_get hpos))
    rwa [blk_add] at this

/-- the reach of such an argument -/
theorem BytesArg.reach {W : World} {v : Value} {d : DataW H} {A : Option Addr} {zs : List Int} {c : Nat} (h : BytesArg W v d A zs c) {ts : List TypeId} {ds : List (DataW H)}
    (hsz : (DataW.weightsEach P ts ds).all (· ≤ reachBytes) = true) {j : Nat} {t e : TypeId} (ht : ts[j]? = some t) (hd : ds[j]? = some d) (hu : P.underlying t = some (.slice e)) (hb : P.bytesOf e = 1) : zs.length ≤ 140737488351232 := by
  rcases h.data with hn | ⟨spare, hs⟩
  · subst hn
    simp
  · subst hs
    have := sized_slice hsz ht hd hu
    rw [hb, Nat.mul_one] at this
    simp only [lits, List.length_map, reachBytes] at this
    omega

theorem text_reach {ts : List TypeId} {ds : List (DataW H)} (hsz : (DataW.weightsEach P ts ds).all (· ≤ reachBytes) = true) {j : Nat} {t : TypeId} {s : ByteArray} (ht : ts[j]? = some t) (hd : ds[j]? = some (.lit (.string s.data.toList))) : s.size ≤ 140737488351232 := by
  have h := sized_string hsz ht hd
  have e : s.size = s.data.toList.length := by simp
  rw [e]
  exact Nat.le_trans h (by unfold reachBytes; decide)

/-- the second form's bound, and what it says of a part -/
theorem upto_bound {l : List (DataW H)} (h : Rows.uptoSmall H l = true) : Rows.uptoBulkAll l ≤ 1048576 := of_decide_eq_true h
theorem bulk_mem {d : DataW H} : ∀ {l : List (DataW H)}, d ∈ l → Rows.uptoBulk d ≤ Rows.uptoBulkAll l
  | x :: r, h => by
    rw [Rows.uptoBulkAll]
    rcases List.mem_cons.1 h with rfl | h
    · omega
    · have := bulk_mem h; omega
theorem bulk_length : ∀ (l : List (DataW H)), l.length ≤ Rows.uptoBulkAll l
  | [] => by rw [Rows.uptoBulkAll]; exact Nat.le_refl _
  | x :: r => by
    have h1 : 1 ≤ Rows.uptoBulk x := by
      cases x with
      | lit l => cases l <;> simp [Rows.uptoBulk]
      | _ => simp [Rows.uptoBulk]
    have := bulk_length r
    rw [Rows.uptoBulkAll, List.length_cons]
    omega
theorem upto_part {d : DataW H} {l : List (DataW H)} (h : Rows.uptoBulkAll l ≤ 1048576) (hd : d ∈ l) : Rows.uptoBulk d ≤ 1048576 := Nat.le_trans (bulk_mem hd) h
theorem upto_text {s : ByteArray} (h : Rows.uptoBulk (H := H) (.lit (.string s.data.toList)) ≤ 1048576) : s.size ≤ 1048576 := by
  rw [Rows.uptoBulk] at h
  have : s.size = s.data.toList.length := by simp
  omega
theorem BytesArg.bulk {W : World} {v : Value} {d : DataW H} {A : Option Addr} {zs : List Int} {c : Nat} (h : BytesArg W v d A zs c) (hd : Rows.uptoBulk d ≤ 1048576) : zs.length ≤ 1048576 := by
  rcases h.data with hn | ⟨spare, hs⟩
  · subst hn; simp
  · subst hs
    rw [Rows.uptoBulk] at hd
    have h1 := bulk_length (H := H) (lits .u8 zs)
    rw [show (lits (H := H) .u8 zs).length = zs.length by simp [lits]] at h1
    omega

/-- the cells that whole numbers take -/
def cI (zs : List Int) : List Value := zs.map (Value.int .i64)
theorem cI_length (zs : List Int) : (cI zs).length = zs.length := by simp [cI]
theorem cI_get {zs : List Int} {j : Nat} (h : j < zs.length) : (cI zs)[j]? = some (.int .i64 zs[j]) := by simp [cI, h]
def I64 (zs : List Int) : Prop := ∀ z ∈ zs, -9223372036854775808 ≤ z ∧ z ≤ 9223372036854775807

/-- an argument that is a slice of whole numbers: what is known of it -/
structure NumsArg (W : World) (v : Value) (d : DataW H) (A : Option Addr) (zs : List Int) (c : Nat) : Prop where
  val : v = .slice A zs.length c
  cap : zs.length ≤ c
  capMax : c ≤ maxLen
  i64 : I64 zs
  nil_ : A = none → zs.length = 0 ∧ c = 0
  rds : Rds W W.heap.size A (cI zs)
  data : zs = [] ∨ ∃ spare : List (DataW H), d = .slice (lits .i64 zs) spare

theorem open_nums {t e : TypeId} {W : World} {v : Value} {d : DataW H} {ps : List MemPlace} {base : Nat} (ht : P.underlying t = some (.slice e)) (he : P.underlying e = some (.int .i64)) (hc : P.cellsOf e = 1)
    (hval : Value.okWide P W .any base t v) (h : DataW.Trod enc P W 0 (fun _ => true) true t v d ps) : ∃ A zs c, NumsArg W v d A zs c := by
  obtain ⟨a0, len, cap, rfl⟩ := okWide_slice ht hval
  obtain ⟨fuel, hf⟩ := h
  rcases open_ints ht he hc hf with ⟨h1, h2⟩ | ⟨a, len', cap', zs, h1, _, hle, hmax, hlen, h2, hcell, hwf⟩
  · simp only [Value.cells] at h1
    have h1' : Value.slice a0 len cap = .slice none 0 0 := by simpa using h1
    injection h1' with e1 e2 e3
    subst e1 e2 e3
    refine ⟨none, [], 0, rfl, Nat.le_refl _, by unfold maxLen; omega, (fun z hz => by cases hz), (fun _ => ⟨rfl, rfl⟩), Rds.none_, .inl rfl⟩
  · have h1' : Value.slice a0 len cap = .slice (some a) len' cap' := by simpa [Value.cells] using h1
    injection h1' with e1 e2 e3
    subst e1 e2 e3
    simp only [if_true] at hlen
    have hl : (zs.take len).length = len := by rw [List.length_take]; omega
    refine ⟨some a, zs.take len, cap, by rw [hl], by rw [hl]; exact hle, hmax, (fun z hz => bounds_i64 (hwf z (List.mem_of_mem_take hz))), (fun h => by cases h), ?_, .inr ⟨_, congrArg Prod.fst h2⟩⟩
    intro hne
    have hcells : ∀ j u, (cI (zs.take len))[j]? = some u → W.cell? (a.add j) = some u := by
      intro j u hu
      have hj : j < (zs.take len).length := by
        have := (List.getElem?_eq_some_iff.1 hu).1
        simpa [cI] using this
      rw [cI_get hj] at hu
      have hu' := Option.some.inj hu
      subst hu'
      rw [hcell j (by omega)]
      simp [List.getD, show j < zs.length by omega]
    refine ⟨a, rfl, ?_, hcells⟩
    have hpos : 0 < (zs.take len).length := by
      rcases Nat.eq_zero_or_pos (zs.take len).length with h0 | h0
      · exact absurd (by rw [List.eq_nil_of_length_eq_zero h0]; rfl) hne
      · exact h0
    have := World.block_lt_of_cell? W _ (hcells 0 _ (cI_get hpos))
    rwa [blk_add] at this
theorem NumsArg.reach {W : World} {v : Value} {d : DataW H} {A : Option Addr} {zs : List Int} {c : Nat} (h : NumsArg W v d A zs c) {ts : List TypeId} {ds : List (DataW H)}
    (hsz : (DataW.weightsEach P ts ds).all (· ≤ reachBytes) = true) {j : Nat} {t e : TypeId} (ht : ts[j]? = some t) (hd : ds[j]? = some d) (hu : P.underlying t = some (.slice e)) (hb : P.bytesOf e = 8) : zs.length ≤ 17592186043904 := by
  rcases h.data with hn | ⟨spare, hs⟩
  · subst hn
    simp
  · subst hs
    have := sized_slice hsz ht hd hu
    rw [hb] at this
    simp only [lits, List.length_map, reachBytes] at this
    omega
end
end Go.Proofs.YtfiebjfdlplpjaaGreatDoor
end

section
/- What the rows' listed variables give to the walks, and a world that holds them. -/
namespace Go.Proofs.YtfiebjfdlplpjaaGreatDoor
open Go.RowKit
set_option linter.unusedVariables false

def laidList : List (String × DataW Unit) := [("math/bits.deBruijn32tab", Rows.laid_math_bits_deBruijn32tab), ("math/bits.deBruijn64tab", Rows.laid_math_bits_deBruijn64tab), ("internal/strconv.uint64pow10", Rows.laid_internal_strconv_uint64pow10)]
theorem tyPow : (Tryz.prog.globals[0]?).map (·.type) = some 176 := by kernel_rfl
theorem cellsP : Tryz.prog.cellsOf 176 = 20 := by kernel_rfl
theorem cellsU : Tryz.prog.cellsOf 30 = 1 := by kernel_rfl
theorem pow_of {W : World} (hL : laidMetH Tryz.prog laidList W) : Pow W := by
  obtain ⟨g, t, cs, fuel, p, hg, ht, hvar, hd⟩ := Lib.laidMet.reads hL (n := "internal/strconv.uint64pow10") (d := Rows.laid_internal_strconv_uint64pow10) (.tail _ (.tail _ (.head _)))
  obtain rfl := Option.some.inj (tyPow.symm.trans (by rw [← ht, Option.some.inj (gPow.symm.trans hg)]))
  unfold Pow Lib.TabIs
  rw [hvar, ← Lib.cells_of_tab Tryz.underlying176 Tryz.underlying30 cellsU cellsP (zs := Lib.pow10Tab) hd]

noncomputable def laidWorld (os : Os) : World := World.laidAll Tryz.prog os laidList
theorem laidWorld_os (os : Os) : (laidWorld os).os = os := World.laidAll_os _ _ _
theorem laidWorld_met (os : Os) (args : Array Value) : laidMet Tryz.prog laidList ((laidWorld os).forCall (fun _ _ => 0) ⟨#[], args, []⟩).memory :=
  laidMet_laidAll args (by kernel_rfl) (by kernel_rfl)
end Go.Proofs.YtfiebjfdlplpjaaGreatDoor
end

section
/- The walk over the kit's SameBytes. -/
namespace Go.Proofs.YtfiebjfdlplpjaaGreatDoor
open Go.RowKit
set_option linter.unusedVariables false

/-- two lists of bytes, told apart -/
def same8 (a b : List Int) : Bool := decide (a = b)

set_option maxHeartbeats 800000 in
theorem sameBytes_any (A A' : Option Addr) (xs ys : List Int) (c c' lim : Nat) (w : World) (hl : xs.length ≤ 9223372036854775807) (hl' : ys.length ≤ 9223372036854775807) (hr : Rds w lim A (c8 xs)) (hr' : Rds w lim A' (c8 ys)) :
    Calls Tryz.prog 46 #[.slice A xs.length c, .slice A' ys.length c'] w fun e w' => e = .returned (.bool (same8 xs ys)) ∧ ∃ n, w' = w.drewN n := by
  by_cases hlen : xs.length = ys.length
  · have hlb : ((xs.length : Int) != (ys.length : Int)) = false := by simp [hlen]
    have HL := Lib.hid hlen
    clear hlen
    go_enter Tryz.func46, Tryz.ntmps46
    go_wp2
    go_loopw [5] (fun i wr => ∃ k : Nat, k ≤ xs.length ∧ i = .int .i64 k ∧ (∀ j, j < k → xs[j]? = ys[j]?) ∧ ∃ n, wr = w.drewN n) (fun i _ => xs.length - (intOf i).toNat)
    case atStart => exact ⟨0, Nat.zero_le _, rfl, fun j hj => absurd hj (by omega), 0, rfl⟩
    case round =>
      obtain ⟨k, hk, rfl, hsame, n, rfl⟩ := hrel
      have HS := Lib.hid hsame
      clear hsame
      by_cases hlt : k < xs.length
      · have hlt' : k < ys.length := by have := HL.out; omega
        obtain ⟨ad, rfl, _, hcell⟩ := hr.at_ (c8_get hlt)
        obtain ⟨ad', rfl, _, hcell'⟩ := hr'.at_ (c8_get hlt')
        generalize hx : xs[k] = x at *
        generalize hy : ys[k] = y at *
        have HX := Lib.hid hx
        have HY := Lib.hid hy
        clear hx hy
        go_wp2
        go_quiet (fail)
        go_wp2
        · have hne : (x != y) = true := by assumption
          have hf : same8 xs ys = false := by
            refine decide_eq_false fun e => ?_
            have h1 : xs[k]? = ys[k]? := by rw [e]
            rw [List.getElem?_eq_getElem hlt, List.getElem?_eq_getElem hlt', HX.out, HY.out] at h1
            simp at hne
            exact hne (Option.some.inj h1)
          go_ret
          exact ⟨by rw [hf]; rfl, _, World.drewN_drewN ..⟩
        · have heq : (x != y) = false := by assumption
          go_roundw
          case rel =>
            refine ⟨k + 1, by omega, by go_num, fun j hj => ?_, _, rfl⟩
            rcases Nat.lt_or_ge j k with h | h
            · exact HS.out j h
            · obtain rfl : j = k := by omega
              simp at heq
              rw [List.getElem?_eq_getElem hlt, List.getElem?_eq_getElem hlt', HX.out, HY.out, heq]
          case measure => simp [intOf]; omega
      · have ht : same8 xs ys = true := by
          refine decide_eq_true (List.ext_getElem? fun j => ?_)
          rcases Nat.lt_or_ge j k with h | h
          · exact HS.out j h
          · have := HL.out
            rw [List.getElem?_eq_none (by omega), List.getElem?_eq_none (by omega)]
        have HT := Lib.hid ht
        clear ht
        go_wp2
        go_ret
        exact ⟨by rw [HT.out]; rfl, n, rfl⟩
  · have hlb : ((xs.length : Int) != (ys.length : Int)) = true := by simp; omega
    have hf : same8 xs ys = false := decide_eq_false fun e => hlen (by rw [e])
    have HF := Lib.hid hf
    clear hf
    go_enter Tryz.func46, Tryz.ntmps46
    go_wp2
    go_ret
    exact ⟨by rw [HF.out]; rfl, 0, rfl⟩

/-- the same, where the lists are one; the lengths as they stand at the call -/
theorem sameBytes_yes (A A' : Option Addr) (xs ys : List Int) (n m c c' lim : Nat) (w : World) (hn : xs.length = n) (hm : ys.length = m) (hl : n ≤ 9223372036854775807) (e : xs = ys) (hr : Rds w lim A (c8 xs)) (hr' : Rds w lim A' (c8 ys)) :
    Calls Tryz.prog 46 #[.slice A n c, .slice A' m c'] w fun e w' => e = .returned (.bool true) ∧ ∃ n, w' = w.drewN n := by
  subst hn hm e
  have h := sameBytes_any A A' xs xs c c' lim w hl hl hr hr'
  rwa [show same8 xs xs = true from decide_eq_true rfl] at h

end Go.Proofs.YtfiebjfdlplpjaaGreatDoor
end

section
/- Arguments that are a list of lists of bytes, or of yes and no: what is known of them. -/
namespace Go.Proofs.YtfiebjfdlplpjaaGreatDoor
open Go.RowKit Go.ChangeShapes Go.WideShapes Go.ChangeAt
set_option linter.unusedVariables false

theorem cellsB5 : Tryz.prog.cellsOf 33 = 1 := by kernel_rfl
theorem cellsO5 : Tryz.prog.cellsOf 4 = 1 := by kernel_rfl

section
variable {H : Type} {enc : TypeId × Value → H}
theorem bytes_read5 {W : World} {fuel : Nat} {u : Value} {y : DataW H × List MemPlace} (h : DataW.trod enc Tryz.prog W 0 (fun _ => true) true fuel 33 [u] = some y) :
    ∃ x : RcM, u = x.v ∧ Byt x.r ∧ x.r.length ≤ 9223372036854775807 ∧ Rds W W.heap.size x.A (c8 x.r) := by
  rcases open_ints Tryz.underlying33 Tryz.underlying5 cells8 h with ⟨h1, h2⟩ | ⟨a, len', cap', zs, h1, _, hle, hmax, hlen, h2, hcell, hwf⟩
  · obtain rfl : u = .slice none 0 0 := by simpa using h1
    exact ⟨⟨[], none, 0⟩, rfl, (fun z hz => by cases hz), by simp, Rds.none_⟩
  · obtain rfl : u = .slice (some a) len' cap' := by simpa using h1
    simp only [if_true] at hlen
    have hl : (zs.take len').length = len' := by rw [List.length_take]; omega
    refine ⟨⟨zs.take len', some a, cap'⟩, by show Value.slice (some a) len' cap' = .slice (some a) (zs.take len').length cap'; rw [hl], (fun z hz => bounds_u8 (hwf z (List.mem_of_mem_take hz))), by show (zs.take len').length ≤ _; rw [hl]; unfold maxLen at hmax; omega, ?_⟩
    intro hne
    have hcells : ∀ j u, (c8 (zs.take len'))[j]? = some u → W.cell? (a.add j) = some u := by
      intro j u hu
      have hj : j < (zs.take len').length := by
        have := (List.getElem?_eq_some_iff.1 hu).1
        simpa [c8] using this
      rw [c8_get hj] at hu
      have hu' := Option.some.inj hu
      subst hu'
      rw [hcell j (by omega)]
      simp [List.getD, show j < zs.length by omega]
    refine ⟨a, rfl, ?_, hcells⟩
    have hpos : 0 < (zs.take len').length := by
      rcases Nat.eq_zero_or_pos (zs.take len').length with h0 | h0
      · exact absurd (by show c8 (zs.take len') = []; rw [List.eq_nil_of_length_eq_zero h0]; rfl) hne
      · exact h0
    have := World.block_lt_of_cell? W _ (hcells 0 _ (c8_get hpos))
    rwa [blk_add] at this

/-- an argument that is a list of lists of bytes -/
structure ListsArg (W : World) (v : Value) (A : Option Addr) (ys : List RcM) (c : Nat) : Prop where
  val : v = .slice A ys.length c
  len : ys.length ≤ 9223372036854775807
  cap : ys.length ≤ c
  byt : ∀ y ∈ ys, Byt y.r
  lens : ∀ y ∈ ys, y.r.length ≤ 9223372036854775807
  rds : Rds W W.heap.size A (cR ys)
  bods : ∀ y ∈ ys, Rds W W.heap.size y.A (c8 y.r)
theorem cR_get {ys : List RcM} {k : Nat} (h : k < ys.length) : (cR ys)[k]? = some (ys[k]).v := by simp [cR, h]
set_option maxRecDepth 20000 in
theorem open_lists {W : World} {v : Value} {d : DataW H} {ps : List MemPlace} {base : Nat} (hval : Value.okWide Tryz.prog W .any base 37 v) (h : DataW.Trod enc Tryz.prog W 0 (fun _ => true) true 37 v d ps) : ∃ A ys c, ListsArg W v A ys c := by
  obtain ⟨a0, len, cap, rfl⟩ := okWide_slice Tryz.underlying37 hval
  obtain ⟨fuel, hf⟩ := h
  rcases DataW.trod_slice Tryz.underlying37 hf with ⟨h1, _⟩ | ⟨a, len', cap', elems, rest, n, _, h1, _, _, hle, hmax, hlen, hel, _⟩
  · have h1' : Value.slice a0 len cap = .slice none 0 0 := by simpa [Value.cells] using h1
    injection h1' with e1 e2 e3
    subst e1 e2 e3
    exact ⟨none, [], 0, rfl, by simp, Nat.le_refl _, (fun r hr => by cases hr), (fun r hr => by cases hr), Rds.nil_, (fun r hr => by cases hr)⟩
  · have h1' : Value.slice a0 len cap = .slice (some a) len' cap' := by simpa [Value.cells] using h1
    injection h1' with e1 e2 e3
    subst e1 e2 e3
    rw [cellsB5] at hel
    have each : ∀ i, ∃ r : RcM, i < len → W.cell? (a.add i) = some r.v ∧ Byt r.r ∧ r.r.length ≤ 9223372036854775807 ∧ Rds W W.heap.size r.A (c8 r.r) := by
      intro i
      by_cases hi : i < len
      · have he := hel i hi
        rw [List.getElem?_eq_getElem (by omega), Nat.mul_one] at he
        obtain ⟨cs, hcs, hy⟩ := Option.bind_eq_some_iff.1 he
        obtain ⟨_, hcl, hc⟩ := World.cells?_some hcs
        match cs, hcl with
        | [u], _ =>
          obtain ⟨x, hx, h2, h3, h4⟩ := bytes_read5 hy
          refine ⟨x, fun _ => ⟨?_, h2, h3, h4⟩⟩
          rw [← hx]
          exact hc 0 (by omega)
      · exact ⟨⟨[], none, 0⟩, fun h => absurd h hi⟩
    obtain ⟨fr, hfr⟩ := Classical.axiomOfChoice each
    have hrl : ((List.range len).map fr).length = len := by simp
    refine ⟨some a, (List.range len).map fr, cap, by rw [hrl], by rw [hrl]; unfold maxLen at hmax; omega, by rw [hrl]; exact hle, ?_, ?_, ?_, ?_⟩
    · intro r hr
      obtain ⟨i, hi, rfl⟩ := List.mem_map.1 hr
      exact (hfr i (List.mem_range.1 hi)).2.1
    · intro r hr
      obtain ⟨i, hi, rfl⟩ := List.mem_map.1 hr
      exact (hfr i (List.mem_range.1 hi)).2.2.1
    · intro hne
      have hcells : ∀ j u, (cR ((List.range len).map fr))[j]? = some u → W.cell? (a.add j) = some u := by
        intro j u hu
        have hj : j < ((List.range len).map fr).length := by
          have := (List.getElem?_eq_some_iff.1 hu).1
          simpa [cR] using this
        rw [cR_get hj] at hu
        have hu' := Option.some.inj hu
        subst hu'
        rw [(hfr j (by rw [hrl] at hj; exact hj)).1]
        simp
      have hpos : 0 < ((List.range len).map fr).length := by
        rcases Nat.eq_zero_or_pos ((List.range len).map fr).length with h0 | h0
        · exact absurd (by rw [List.eq_nil_of_length_eq_zero h0]; rfl) hne
        · exact h0
      refine ⟨a, rfl, ?_, hcells⟩
      have := World.block_lt_of_cell? W _ (hcells 0 _ (cR_get hpos))
      rwa [blk_add] at this
    · intro r hr
      obtain ⟨i, hi, rfl⟩ := List.mem_map.1 hr
      exact (hfr i (List.mem_range.1 hi)).2.2.2

/-- an argument that is a list of yes and no -/
def cO (bs : List Bool) : List Value := bs.map .bool
theorem cO_get {bs : List Bool} {k : Nat} (h : k < bs.length) : (cO bs)[k]? = some (.bool bs[k]) := by simp [cO, h]
structure BoolsArg (W : World) (v : Value) (A : Option Addr) (bs : List Bool) (c : Nat) : Prop where
  val : v = .slice A bs.length c
  rds : Rds W W.heap.size A (cO bs)
set_option maxRecDepth 20000 in
theorem open_bools {W : World} {v : Value} {d : DataW H} {ps : List MemPlace} {base : Nat} (hval : Value.okWide Tryz.prog W .any base 54 v) (h : DataW.Trod enc Tryz.prog W 0 (fun _ => true) true 54 v d ps) : ∃ A bs c, BoolsArg W v A bs c := by
  obtain ⟨a0, len, cap, rfl⟩ := okWide_slice Tryz.underlying54 hval
  obtain ⟨fuel, hf⟩ := h
  rcases DataW.trod_slice Tryz.underlying54 hf with ⟨h1, _⟩ | ⟨a, len', cap', elems, rest, n, _, h1, _, _, hle, hmax, hlen, hel, _⟩
  · have h1' : Value.slice a0 len cap = .slice none 0 0 := by simpa [Value.cells] using h1
    injection h1' with e1 e2 e3
    subst e1 e2 e3
    exact ⟨none, [], 0, rfl, Rds.nil_⟩
  · have h1' : Value.slice a0 len cap = .slice (some a) len' cap' := by simpa [Value.cells] using h1
    injection h1' with e1 e2 e3
    subst e1 e2 e3
    rw [cellsO5] at hel
    have each : ∀ i, ∃ b : Bool, i < len → W.cell? (a.add i) = some (.bool b) := by
      intro i
      by_cases hi : i < len
      · have he := hel i hi
        rw [List.getElem?_eq_getElem (by omega), Nat.mul_one] at he
        obtain ⟨cs, hcs, hy⟩ := Option.bind_eq_some_iff.1 he
        obtain ⟨b, hb, _⟩ := DataW.trod_bool Tryz.underlying4 hy
        subst hb
        obtain ⟨_, hcl, hc⟩ := World.cells?_some hcs
        exact ⟨b, fun _ => hc 0 (by simp)⟩
      · exact ⟨false, fun h => absurd h hi⟩
    obtain ⟨fr, hfr⟩ := Classical.axiomOfChoice each
    have hrl : ((List.range len).map fr).length = len := by simp
    refine ⟨some a, (List.range len).map fr, cap, by rw [hrl], ?_⟩
    intro hne
    have hcells : ∀ j u, (cO ((List.range len).map fr))[j]? = some u → W.cell? (a.add j) = some u := by
      intro j u hu
      have hj : j < ((List.range len).map fr).length := by
        have := (List.getElem?_eq_some_iff.1 hu).1
        simpa [cO] using this
      rw [cO_get hj] at hu
      have hu' := Option.some.inj hu
      subst hu'
      rw [hfr j (by rw [hrl] at hj; exact hj)]
      simp
    have hpos : 0 < ((List.range len).map fr).length := by
      rcases Nat.eq_zero_or_pos ((List.range len).map fr).length with h0 | h0
      · exact absurd (by rw [List.eq_nil_of_length_eq_zero h0]; rfl) hne
      · exact h0
    refine ⟨a, rfl, ?_, hcells⟩
    have := World.block_lt_of_cell? W _ (hcells 0 _ (cO_get hpos))
    rwa [blk_add] at this
end
end Go.Proofs.YtfiebjfdlplpjaaGreatDoor
end
