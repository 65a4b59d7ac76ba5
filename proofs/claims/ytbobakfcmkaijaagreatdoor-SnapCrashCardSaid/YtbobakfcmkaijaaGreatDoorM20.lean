/- Several texts, each a section: SCln, SOpn, SReb, SOpen. -/
import Derived.Test.YtbobakfcmkaijaaGreatDoorM19
import Derived.Test.YtbobakfcmkaijaaGreatDoorM16
import Derived.StillTailTactics
section
/- clean: the files of other snapshots go, on a disk that has no fuse. -/
namespace Go.Proofs.YtbobakfcmkaijaaGreatDoor
open Go.RowKit
set_option linter.unusedVariables false

/-- does a file go? -/
def drops (x : Sn) (f : Nm) : Bool := f == halfN lM || (match snapNo lM f with | some n => !(x.there && n == x.upto) | none => false)
def cleaned (x : Sn) (fs : List Nm) (D : Dsk) : Dsk := fs.foldl (fun D f => if drops x f then (dRemove D f).2 else D) D
/-- a disk that is on, and stays so -/
structure Calm (D : Dsk) : Prop where
  off : D.off = false
  fuse : D.fuse = -1
theorem Calm.remove {D : Dsk} (h : Calm D) {f : Nm} (hk : okN f = true) (hf : (find D.files f).isSome) : (dRemove D f).1 = 0 ∧ Calm (dRemove D f).2 ∧ (dRemove D f).2.files = del f D.files ∧ (dRemove D f).2.room = D.room := by
  obtain ⟨g, hg⟩ := Option.isSome_iff_exists.1 hf
  have e := remove_two (D := D) (f := f) (by simp [ask, h.off, hk]) hg
  obtain ⟨h1, h2, h3, h4, h5⟩ := dStep_free (t := del f) h.fuse
  rw [e]
  exact ⟨h1, ⟨h3.trans h.off, h5⟩, h2, h4⟩
theorem cleaned_snoc (x : Sn) (fs : List Nm) (D : Dsk) (k : Nat) (hk : k < fs.length) : cleaned x (fs.take (k + 1)) D = if drops x fs[k] then (dRemove (cleaned x (fs.take k) D) fs[k]).2 else cleaned x (fs.take k) D := by
  unfold cleaned
  rw [List.take_add_one, List.getElem?_eq_getElem hk, Option.toList_some, List.foldl_append]
  rfl
section
variable {w w' w2 wr w0 : World} {S U S' Sk : Nat → Prop} {st d k n g : Nat} {D D' : Dsk} {x : Sn} {fs : List Nm}
/-- what stands between two names -/
structure ClnAt (w wr : World) (S Sk U : Nat → Prop) (st d g : Nat) (x : Sn) (fs : List Nm) (D Dk : Dsk) (k : Nat) : Prop where
  dk : Go.Proofs.YtbobakfcmkaijaaGreatDoor.Dk 0 wr Sk d Dk
  turn : Turn S Sk w wr
  did : Dk = cleaned x (fs.take k) D
  calm : Calm Dk
  ok : Okd Dk
  steps : Dk.steps ≤ D.steps + k
  rest : ∀ j (h : j < fs.length), k ≤ j → (find Dk.files fs[j]).isSome
  st : StP wr U st d false none x
  mx : MaxL wr
  cells : ∀ j (h : j < fs.length), wr.cell? ⟨g, j, none⟩ = some (.string (strOf fs[j]))
  lt : g < wr.heap.size
theorem ClnAt.go {Dk : Dsk} (h : ClnAt w wr S Sk U st d g x fs D Dk k) (hb : Below wr.heap.size wr w') : ClnAt w w' S Sk U st d g x fs D Dk k :=
  ⟨h.dk.go hb, h.turn.trans ⟨Outs.of hb, fun _ h => .inl h⟩, h.did, h.calm, h.ok, h.steps, h.rest, h.st.go hb, h.mx.go hb, fun j hj => by rw [hb.cell (p := ⟨g, j, none⟩) h.lt]; exact h.cells j hj, Nat.lt_of_lt_of_le h.lt hb.size⟩
/-- a name that stays -/
theorem ClnAt.skip {Dk : Dsk} (h : ClnAt w wr S Sk U st d g x fs D Dk k) (hk : k < fs.length) (hd : drops x fs[k] = false) : ClnAt w wr S Sk U st d g x fs D Dk (k + 1) :=
  ⟨h.dk, h.turn, by rw [cleaned_snoc x fs D k hk, hd]; exact h.did, h.calm, h.ok, by have := h.steps; omega, fun j hj hkj => h.rest j hj (by omega), h.st, h.mx, h.cells, h.lt⟩
/-- .. that goes -/
theorem ClnAt.rem {Dk : Dsk} (h : ClnAt w wr S Sk U st d g x fs D Dk k) (hk : k < fs.length) (hd : drops x fs[k] = true) (hokn : okN fs[k] = true) (hnd : fs.Nodup) (hgS : ∀ b, S b → b ≠ g ∧ ¬ U b ∧ b ≠ 1) (hlow : g < w.heap.size ∧ 1 < w.heap.size ∧ ∀ b, U b → b < w.heap.size)
    {S2 : Nat → Prop} (hdk : Go.Proofs.YtbobakfcmkaijaaGreatDoor.Dk 0 w' S2 d (dRemove Dk fs[k]).2) (ht : Turn Sk S2 wr w') : (dRemove Dk fs[k]).1 = 0 ∧ ClnAt w w' S S2 U st d g x fs D (dRemove Dk fs[k]).2 (k + 1) := by
  obtain ⟨h1, h2, h3, h4⟩ := h.calm.remove hokn (h.rest k hk (Nat.le_refl _))
  have far : ∀ b, Sk b → S b ∨ w.heap.size ≤ b := h.turn.new
  have hgk : ¬ Sk g := fun hh => by
    rcases far g hh with e | e
    · exact (hgS g e).1 rfl
    · omega
  refine ⟨h1, hdk, h.turn.trans ht, by rw [cleaned_snoc x fs D k hk, hd, ← h.did]; rfl, h2, okd_remove h.ok _, by have := h.steps; have := (steps_remove Dk fs[k]).1; omega, fun j hj hkj => ?_, h.st.outs ht.outs (fun b hb hh => ?_), h.mx.outs ht.outs (fun hh => ?_), fun j hj => ?_, Nat.lt_of_lt_of_le h.lt ht.outs.size⟩
  · rw [h3, find_del, if_neg]
    · exact h.rest j hj (by omega)
    · intro e
      have hp := List.pairwise_iff_getElem.1 hnd k j hk hj (by omega)
      exact hp e
  · rcases far b hh with e | e
    · exact (hgS b e).2.1 hb
    · have := hlow.2.2 b hb
      omega
  · rcases far _ hh with e | e
    · exact (hgS _ e).2.2 rfl
    · omega
  · rw [ht.outs.cell (p := ⟨g, j, none⟩) h.lt hgk]
    exact h.cells j hj

set_option maxHeartbeats 3200000 in
set_option maxRecDepth 20000 in
theorem clean_any (A : Option Addr) (c : Nat) (w : World) (h : StP w U st d false none x) (hk : Dk 0 w S d D) (hm : MaxL w) (hcalm : Calm D) (hok : Okd D) (hst : D.steps + n ≤ 549755813888) (hn : fs.length = n) (hA : 0 < n → A = some ⟨g, 0, none⟩) (hnc : n ≤ c) (hg : g < w.heap.size)
    (hcell : ∀ j (h : j < fs.length), w.cell? ⟨g, j, none⟩ = some (.string (strOf fs[j]))) (hnd : fs.Nodup) (hgS : ∀ b, S b → b ≠ g ∧ ¬ U b ∧ b ≠ 1)
    (hcls : ∀ j (h : j < fs.length), (find D.files fs[j]).isSome ∧ okN fs[j] = true ∧ ((noMark fs[j] ∧ fs[j].length ≤ 900 ∧ snapNo lM fs[j] = none) ∨ ∃ m, m ≤ maxNo ∧ fs[j] = snapN lM m)) :
    Calls Tryz.prog 47 #[.pointer (some ⟨st, 0, none⟩), .slice A n c] w fun e w' => e = .returned (.int .i64 0) ∧ ∃ S', Dk 0 w' S' d (cleaned x fs D) ∧ Turn S S' w w' := by
  have hlow : g < w.heap.size ∧ 1 < w.heap.size ∧ ∀ b, U b → b < w.heap.size := ⟨hg, hm.lt, h.lt⟩
  have hat0 : ClnAt w w S S U st d g x fs D D 0 := ⟨hk, ⟨Outs.refl _ w, fun _ h => .inl h⟩, rfl, hcalm, hok, by omega, fun j hj _ => (hcls j hj).1, h, hm, hcell, hg⟩
  have H0 := Lib.hid hat0
  have HN := Lib.hid hn
  have HC := Lib.hid hcls
  clear hat0 hn h hk hm hcell hcls
  go_enter Tryz.func47, Tryz.ntmps47
  go_wp2
  go_loopw [13] (fun i wr => ∃ (k : Nat) (Dk : Dsk) (Sk : Nat → Prop), k ≤ n ∧ i = .int .i64 k ∧ ClnAt w wr S Sk U st d g x fs D Dk k) (fun i _ => n - (intOf i).toNat)
  case atStart => exact ⟨0, D, S, Nat.zero_le _, rfl, H0.out⟩
  case round =>
    obtain ⟨k, Dk, Sk, hkn, rfl, hat⟩ := hrel
    have HAT := Lib.hid hat
    by_cases hkN : k < n
    · have hkl : k < fs.length := by rw [HN.out]; exact hkN
      obtain rfl : A = some ⟨g, 0, none⟩ := hA (by omega)
      obtain ⟨nm, hnm⟩ : ∃ nm, nm = fs[k] := ⟨_, rfl⟩
      have hce := hat.cells k hkl
      obtain ⟨hfi, hon, hor⟩ := HC.out k hkl
      have hsk := hat.skip hkl
      have hrm := fun S2 (W : World) => hat.rem hkl (S2 := S2) (w' := W)
      rw [← hnm] at hce hfi hon hor hsk hrm
      have c5 := hat.st.c5
      have c6 := hat.st.c6
      have hki : (k : Int) < n := by omega
      have hki2 : (k : Int) ≤ 549755813888 := by omega
      have hmx := hat.mx
      have hts : ∀ l : Nm, (strOf l).toList = l := fun l => by rw [Lib.toList_data]; exact lst_strOf l
      have hrem0 : (dRemove Dk nm).1 = 0 := (hat.calm.remove hon (by rw [hnm]; exact hat.rest k hkl (Nat.le_refl _))).1
      have HRM0 := Lib.hid (fun (hd : drops x nm = true) S2 W => hrm S2 W hd hon hnd hgS hlow)
      clear hnm hkl hA hrm
      rcases hor with ⟨hno, hle, hsno⟩ | ⟨m, hmx2, hme⟩
      · have hnum := snumber_no (st := st) (w := wr) (strOf nm) (by rw [strOf_sz]; omega) hmx (by rw [show (strOf nm).data.toList = nm from lst_strOf _]; exact hno)
        by_cases hh : nm = halfN lM
        · have hne : ((strOf nm).toList == (strOf (halfN lM)).toList) = true := by
            rw [hh]
            exact beq_self_eq_true _
          have HRM := Lib.hid (HRM0.out (by unfold drops; rw [hh]; simp))
          have he0 := hrem0
          have hsz : (strOf nm).size ≤ 9223372036854775807 := by rw [strOf_sz]; omega
          clear hat hno hle hsno hh hfi hon hsk hmx hts hrem0
          cases hth : x.there
          · rw [hth] at c5
            go_wp2_with fail
            refine hnum.mono ?_
            rintro e w1 ⟨rfl, hb1⟩
            have h1 := HAT.out.go hb1
            have c51 := h1.st.c5
            have c61 := h1.st.c6
            rw [hth] at c51
            have hh1 := shalf_any (st := st) w1 h1.st.c2
            have H1 := Lib.hid (HAT.out.go hb1)
            have HB1 := Lib.hid hb1
            clear h1 hb1 hnum
            go_wp2_with fail
            refine hh1.mono ?_
            rintro e w2 ⟨rfl, rfl⟩
            clear hh1
            have h2 := H1.out
            have c12 := h2.st.c1
            have hrem := removed_half w2 nm hsz h2.dk (okd_room h2.ok (by have := h2.steps; omega)) h2.ok
            rw [he0] at hrem
            clear h2
            go_wp2_with fail
            refine hrem.mono ?_
            rintro e w3 ⟨rfl, S2, hk3, ht3⟩
            have H3 := Lib.hid (HRM.out S2 w3 hk3 ((⟨Outs.of HB1.out, fun _ h => .inl h⟩ : Turn Sk Sk wr w2).trans ht3)).2
            clear hrem hk3 ht3
            go_wp2
            go_roundw
            case rel => exact ⟨k + 1, _, S2, by omega, by simp, H3.out⟩
            case measure => simp [intOf]; omega
          · rw [hth] at c5
            go_wp2_with fail
            refine hnum.mono ?_
            rintro e w1 ⟨rfl, hb1⟩
            have h1 := HAT.out.go hb1
            have c51 := h1.st.c5
            have c61 := h1.st.c6
            rw [hth] at c51
            have hh1 := shalf_any (st := st) w1 h1.st.c2
            have H1 := Lib.hid (HAT.out.go hb1)
            have HB1 := Lib.hid hb1
            clear h1 hb1 hnum
            go_wp2_with fail
            refine hh1.mono ?_
            rintro e w2 ⟨rfl, rfl⟩
            clear hh1
            have h2 := H1.out
            have c12 := h2.st.c1
            have hrem := removed_half w2 nm hsz h2.dk (okd_room h2.ok (by have := h2.steps; omega)) h2.ok
            rw [he0] at hrem
            clear h2
            go_wp2_with fail
            refine hrem.mono ?_
            rintro e w3 ⟨rfl, S2, hk3, ht3⟩
            have H3 := Lib.hid (HRM.out S2 w3 hk3 ((⟨Outs.of HB1.out, fun _ h => .inl h⟩ : Turn Sk Sk wr w2).trans ht3)).2
            clear hrem hk3 ht3
            go_wp2
            go_roundw
            case rel => exact ⟨k + 1, _, S2, by omega, by simp, H3.out⟩
            case measure => simp [intOf]; omega
        · have hne : ((strOf nm).toList == (strOf (halfN lM)).toList) = false := by
            rw [hts, hts]
            simpa using hh
          have hd : drops x nm = false := by
            unfold drops
            rw [hsno]
            simpa using hh
          have HSK := Lib.hid (hsk hd)
          generalize strOf nm = tx at *
          clear hat hno hle hsno hh hd hfi hon hsk hmx hts hrem0
          cases hth : x.there
          · rw [hth] at c5
            go_wp2_with fail
            refine hnum.mono ?_
            rintro e w1 ⟨rfl, hb1⟩
            have h1 := HAT.out.go hb1
            have c51 := h1.st.c5
            have c61 := h1.st.c6
            rw [hth] at c51
            have hh1 := shalf_any (st := st) w1 h1.st.c2
            have H1 := Lib.hid (HAT.out.go hb1)
            have HB1 := Lib.hid hb1
            clear h1 hb1 hnum
            go_wp2_with fail
            refine hh1.mono ?_
            rintro e w2 ⟨rfl, rfl⟩
            clear hh1
            go_wp2
            go_roundw
            case rel => exact ⟨k + 1, Dk, Sk, by omega, by simp, HSK.out.go HB1.out⟩
            case measure => simp [intOf]; omega
          · rw [hth] at c5
            go_wp2_with fail
            refine hnum.mono ?_
            rintro e w1 ⟨rfl, hb1⟩
            have h1 := HAT.out.go hb1
            have c51 := h1.st.c5
            have c61 := h1.st.c6
            rw [hth] at c51
            have hh1 := shalf_any (st := st) w1 h1.st.c2
            have H1 := Lib.hid (HAT.out.go hb1)
            have HB1 := Lib.hid hb1
            clear h1 hb1 hnum
            go_wp2_with fail
            refine hh1.mono ?_
            rintro e w2 ⟨rfl, rfl⟩
            clear hh1
            go_wp2
            go_roundw
            case rel => exact ⟨k + 1, Dk, Sk, by omega, by simp, HSK.out.go HB1.out⟩
            case measure => simp [intOf]; omega
      · have hnum := snumber_snap (st := st) (w := wr) m hmx2 hmx hat.st.c2
        rw [← hme] at hnum
        have hne : ((strOf nm).toList == (strOf (halfN lM)).toList) = false := by
          rw [hts, hts, hme]
          simpa using snap_ne_half lM m
        have hdr : drops x nm = !(x.there && m == x.upto) := by
          unfold drops
          rw [hme, snapNo_snapN lM hmx2]
          have : (snapN lM m == halfN lM) = false := by simpa using snap_ne_half lM m
          rw [this, Bool.false_or]
        have he0 := hrem0
        have hsz : (strOf nm).size ≤ 9223372036854775807 := by rw [hme]; exact snap_size m
        have HSZ := Lib.hid hsz
        have HHME := Lib.hid hme
        by_cases hq : m = x.upto
        · have hq1 : ((m : Int) == (x.upto : Int)) = true := by rw [hq]; exact beq_self_eq_true _
          have hq2 : (m : Int) = (x.upto : Int) := by omega
          have hq3 : (m == x.upto) = true := by simpa using hq
          rw [hq3] at hdr
          cases hth : x.there
          · rw [hth] at c5 hdr
            have HRM := Lib.hid (HRM0.out hdr)
            clear hat hme hfi hon hsk hmx hts hrem0 hdr hq hq3
            go_wp2_with fail
            refine hnum.mono ?_
            rintro e w1 ⟨rfl, hb1⟩
            have h1 := HAT.out.go hb1
            have c51 := h1.st.c5
            have c61 := h1.st.c6
            rw [hth] at c51
            have hh1 := shalf_any (st := st) w1 h1.st.c2
            have H1 := Lib.hid (HAT.out.go hb1)
            have HB1 := Lib.hid hb1
            clear h1 hb1 hnum
            go_wp2_with fail
            refine hh1.mono ?_
            rintro e w2 ⟨rfl, rfl⟩
            clear hh1
            have h2 := H1.out
            have c12 := h2.st.c1
            have hrem := removed_half w2 nm hsz h2.dk (okd_room h2.ok (by have := h2.steps; omega)) h2.ok
            rw [he0] at hrem
            clear h2
            go_wp2_with fail
            refine hrem.mono ?_
            rintro e w3 ⟨rfl, S2, hk3, ht3⟩
            have H3 := Lib.hid (HRM.out S2 w3 hk3 ((⟨Outs.of HB1.out, fun _ h => .inl h⟩ : Turn Sk Sk wr w2).trans ht3)).2
            clear hrem hk3 ht3
            go_wp2
            go_roundw
            case rel => exact ⟨k + 1, _, S2, by omega, by simp, H3.out⟩
            case measure => simp [intOf]; omega
          · rw [hth] at c5 hdr
            have HSK := Lib.hid (hsk hdr)
            clear hat hme hfi hon hsk hmx hts hrem0 hdr hq hq3
            go_wp2_with fail
            refine hnum.mono ?_
            rintro e w1 ⟨rfl, hb1⟩
            have h1 := HAT.out.go hb1
            have c51 := h1.st.c5
            have c61 := h1.st.c6
            rw [hth] at c51
            have hh1 := shalf_any (st := st) w1 h1.st.c2
            have H1 := Lib.hid (HAT.out.go hb1)
            have HB1 := Lib.hid hb1
            clear h1 hb1 hnum
            go_wp2_with fail
            refine hh1.mono ?_
            rintro e w2 ⟨rfl, rfl⟩
            clear hh1
            go_wp2
            go_roundw
            case rel => exact ⟨k + 1, Dk, Sk, by omega, by simp, HSK.out.go HB1.out⟩
            case measure => simp [intOf]; omega
        · have hq1 : ((m : Int) == (x.upto : Int)) = false := by
            rw [beq_eq_false_iff_ne]
            omega
          have hq2 : ¬ (m : Int) = (x.upto : Int) := by omega
          have hq3 : (m == x.upto) = false := by simpa using hq
          rw [hq3, Bool.and_false] at hdr
          have HRM := Lib.hid (HRM0.out hdr)
          cases hth : x.there
          · rw [hth] at c5
            clear hat hme hfi hon hsk hmx hts hrem0 hdr hq hq3
            go_wp2_with fail
            refine hnum.mono ?_
            rintro e w1 ⟨rfl, hb1⟩
            have h1 := HAT.out.go hb1
            have c51 := h1.st.c5
            have c61 := h1.st.c6
            rw [hth] at c51
            have hh1 := shalf_any (st := st) w1 h1.st.c2
            have H1 := Lib.hid (HAT.out.go hb1)
            have HB1 := Lib.hid hb1
            clear h1 hb1 hnum
            go_wp2_with fail
            refine hh1.mono ?_
            rintro e w2 ⟨rfl, rfl⟩
            clear hh1
            have h2 := H1.out
            have c12 := h2.st.c1
            have hrem := removed_half w2 nm hsz h2.dk (okd_room h2.ok (by have := h2.steps; omega)) h2.ok
            rw [he0] at hrem
            clear h2
            go_wp2_with fail
            refine hrem.mono ?_
            rintro e w3 ⟨rfl, S2, hk3, ht3⟩
            have H3 := Lib.hid (HRM.out S2 w3 hk3 ((⟨Outs.of HB1.out, fun _ h => .inl h⟩ : Turn Sk Sk wr w2).trans ht3)).2
            clear hrem hk3 ht3
            go_wp2
            go_roundw
            case rel => exact ⟨k + 1, _, S2, by omega, by simp, H3.out⟩
            case measure => simp [intOf]; omega
          · rw [hth] at c5
            clear hat hme hfi hon hsk hmx hts hrem0 hdr hq hq3
            go_wp2_with fail
            refine hnum.mono ?_
            rintro e w1 ⟨rfl, hb1⟩
            have h1 := HAT.out.go hb1
            have c51 := h1.st.c5
            have c61 := h1.st.c6
            rw [hth] at c51
            have hh1 := shalf_any (st := st) w1 h1.st.c2
            have H1 := Lib.hid (HAT.out.go hb1)
            have HB1 := Lib.hid hb1
            clear h1 hb1 hnum
            go_wp2_with fail
            refine hh1.mono ?_
            rintro e w2 ⟨rfl, rfl⟩
            clear hh1
            have h2 := H1.out
            have c12 := h2.st.c1
            have hrem := removed_half w2 nm hsz h2.dk (okd_room h2.ok (by have := h2.steps; omega)) h2.ok
            rw [he0] at hrem
            clear h2
            go_wp2_with fail
            refine hrem.mono ?_
            rintro e w3 ⟨rfl, S2, hk3, ht3⟩
            have H3 := Lib.hid (HRM.out S2 w3 hk3 ((⟨Outs.of HB1.out, fun _ h => .inl h⟩ : Turn Sk Sk wr w2).trans ht3)).2
            clear hrem hk3 ht3
            go_wp2
            go_roundw
            case rel => exact ⟨k + 1, _, S2, by omega, by simp, H3.out⟩
            case measure => simp [intOf]; omega
    · obtain rfl : k = n := by omega
      have hki : ¬ (k : Int) < k := by omega
      clear hat
      go_wp2
      go_returns
      have h := HAT.out
      refine ⟨by simp, Sk, ?_, h.turn⟩
      have e := h.did
      rw [List.take_of_length_le (by rw [HN.out]; omega)] at e
      rw [← e]
      exact h.dk
end
end Go.Proofs.YtbobakfcmkaijaaGreatDoor
end

section
/- goOn, rebuild, Open: a checkpoint recovered from its files, where the journal goes on. -/
namespace Go.Proofs.YtbobakfcmkaijaaGreatDoor
open Go.RowKit
set_option linter.unusedVariables false

section
variable {w w' w2 wr w0 : World} {S T U S' T' U' : Nat → Prop} {st j d : Nat} {D D' : Dsk} {x : Sn} {off : Bool} {jp : Option Addr}
theorem StP.put4 (h : StP w U st d off jp x) (p : Option Addr) : StP (w.setCell ⟨st, 4, none⟩ (.pointer p)) U st d off p x := by
  obtain ⟨A, c, h⟩ := h
  exact ⟨A, c, h.put 4 (.pointer p) (by simp [topS])⟩
/-- what an opening leaves -/
structure OpnS (w w' : World) (S U S' T' U' : Nat → Prop) : Prop where
  outs : Outs (fun k => S k ∨ U k) w w'
  ns : ∀ k, S' k → S k ∨ w.heap.size ≤ k
  nt : ∀ k, T' k → w.heap.size ≤ k
  nu : ∀ k, U' k → U k ∨ w.heap.size ≤ k
set_option maxHeartbeats 1600000 in
set_option maxRecDepth 20000 in
theorem goOn_any (w : World) (h : StP w U st d false none x) (hk : Dk 0 w S d D) (hp : Pow w) (hm : MaxL w) (hdis : ∀ k, U k → ¬ S k) (he : ∀ k, S k ∨ U k → k ≠ 1 ∧ k ≠ 0) (hok : Okd D) (hoff : D.off = false) (hst : D.steps ≤ 274877906944) (hfl : D.files.length ≤ 1048576) (hbyt : FBs D) (hgood : (jOpen lM D).1 = 0)
    (h1 : jFirst (opened lM D) ≤ x.upto) (h2 : x.upto ≤ (opened lM D).next) :
    Calls Tryz.prog 48 #[.pointer (some ⟨st, 0, none⟩)] w fun e w' => e = .returned (.int .i64 0) ∧ ∃ j S' T', SD w' S' T' U st j d (jOpen lM D).2 ⟨false, opened lM D, x⟩ ∧ OpnS w w' S U S' T' U := by
  have c1 := h.c1
  have c2 := h.c2
  have hop := jopen_any (s := nM) w.drew (hk.go (Below.refl _ w).drew) (hp.go (Below.refl _ w).drew) (fun hh => (he _ (.inl hh)).2 rfl) okM hok hoff hst hfl hbyt hgood
  rw [show nM.data.toList = lM from rfl] at hop
  have HS := Lib.hid h
  have HM := Lib.hid hm
  clear hgood h hk hp hm
  go_enter Tryz.func48, Tryz.ntmps48
  go_upto_region 1 with fail
  refine wp_region_G 13 (fun w' => w'.cell? ⟨st, 1, none⟩ = some (.pointer (some ⟨d, 0, none⟩)) ∧ w'.cell? ⟨st, 2, none⟩ = some (.string nM)) rfl (by kernel_rfl) ⟨c1, c2⟩ (fun hSS hst => ?_)
  refine wpAnyG_take (i := 0) (v := ?_) rfl (by kernel_rfl) hst (by kernel_rfl) (by kernel_rfl) (fun _ _ _ h => h) hSS (Or.inl ⟨by rfl, ?_⟩) (fun hst2 => ?_)
  rotate_left
  · (intro w hSw; (try dsimp only at hSw); go_simp; try (with_reducible rfl))
  clear hst; have hst := hst2; clear hst2
  try simp only [Act.put, List.setIfInBounds_toArray, List.set_cons_zero, List.set_cons_succ]
  refine wpAnyG_take (i := 1) (v := ?_) rfl (by kernel_rfl) hst (by kernel_rfl) (by kernel_rfl) (fun _ _ _ h => h) hSS (Or.inl ⟨by rfl, ?_⟩) (fun hst2 => ?_)
  rotate_left
  · (intro w hSw; (try dsimp only at hSw); go_simp; try (with_reducible rfl))
  clear hst; have hst := hst2; clear hst2
  try simp only [Act.put, List.setIfInBounds_toArray, List.set_cons_zero, List.set_cons_succ]
  refine wpAnyG_take (i := 2) (v := ?_) rfl (by kernel_rfl) hst (by kernel_rfl) (by kernel_rfl) (fun _ _ _ h => h) hSS (Or.inl ⟨by rfl, ?_⟩) (fun hst2 => ?_)
  rotate_left
  · (intro w hSw; (try dsimp only at hSw); go_simp; try (with_reducible rfl))
  clear hst; have hst := hst2; clear hst2
  try simp only [Act.put, List.setIfInBounds_toArray, List.set_cons_zero, List.set_cons_succ]
  refine wpAnyG_take (i := 3) (v := ?_) rfl (by kernel_rfl) hst (by kernel_rfl) (by kernel_rfl) (fun _ _ _ h => h) hSS (Or.inl ⟨by rfl, ?_⟩) (fun hst2 => ?_)
  rotate_left
  · (intro w hSw; (try dsimp only at hSw); go_simp; try (with_reducible rfl))
  clear hst; have hst := hst2; clear hst2
  try simp only [Act.put, List.setIfInBounds_toArray, List.set_cons_zero, List.set_cons_succ]
  refine wpAnyG_take (i := 4) (v := ?_) rfl (by kernel_rfl) hst (by kernel_rfl) (by kernel_rfl) (fun _ _ _ h => h) hSS (Or.inl ⟨by rfl, ?_⟩) (fun hst2 => ?_)
  rotate_left
  · (intro w hSw; (try dsimp only at hSw); go_simp; try (with_reducible rfl))
  clear hst; have hst := hst2; clear hst2
  try simp only [Act.put, List.setIfInBounds_toArray, List.set_cons_zero, List.set_cons_succ]
  refine wpAnyG_take (i := 5) (v := ?_) rfl (by kernel_rfl) hst (by kernel_rfl) (by kernel_rfl) (fun _ _ _ h => h) hSS (Or.inl ⟨by rfl, ?_⟩) (fun hst2 => ?_)
  rotate_left
  · (intro w hSw; (try dsimp only at hSw); go_simp; try (with_reducible rfl))
  clear hst; have hst := hst2; clear hst2
  try simp only [Act.put, List.setIfInBounds_toArray, List.set_cons_zero, List.set_cons_succ]
  refine wpAnyG_take (i := 6) (v := ?_) rfl (by kernel_rfl) hst (by kernel_rfl) (by kernel_rfl) (fun _ _ _ h => h) hSS (Or.inl ⟨by rfl, ?_⟩) (fun hst2 => ?_)
  rotate_left
  · (intro w hSw; (try dsimp only at hSw); go_simp; try (with_reducible rfl))
  clear hst; have hst := hst2; clear hst2
  try simp only [Act.put, List.setIfInBounds_toArray, List.set_cons_zero, List.set_cons_succ]
  refine wpAnyG_take (i := 7) (v := ?_) rfl (by kernel_rfl) hst (by kernel_rfl) (by kernel_rfl) (fun _ _ _ h => h) hSS (Or.inl ⟨by rfl, ?_⟩) (fun hst2 => ?_)
  rotate_left
  · (intro w hSw; (try dsimp only at hSw); go_simp; try (with_reducible rfl))
  clear hst; have hst := hst2; clear hst2
  try simp only [Act.put, List.setIfInBounds_toArray, List.set_cons_zero, List.set_cons_succ]
  refine wpAnyG_one (i := 8) (by kernel_rfl) rfl (by kernel_rfl) hst (fun K hK => ?_)
  go_simp
  refine hop.mono ?_
  rintro e w1 ⟨j, S', T', rfl, hj1, ht⟩
  have c0 : Outs S w w1 := (Outs.of (Below.refl _ w).drew : Outs S w w.drew).trans ht.outs (fun k hk => .inl hk)
  refine hK.out _ _ ⟨(HS.out.outs c0 hdis).c1, (HS.out.outs c0 hdis).c2⟩ (fun hSS2 hst2 => ?_)
  clear hst hK K hSS
  have hst := hst2
  have hSS := hSS2
  clear hst2 hSS2
  try simp only [Act.put, List.setIfInBounds_toArray, List.set_cons_zero, List.set_cons_succ]
  refine wpAnyG_take (i := 9) (v := ?_) rfl (by kernel_rfl) hst (by kernel_rfl) (by kernel_rfl) (fun _ _ _ h => h) hSS (Or.inl ⟨by rfl, ?_⟩) (fun hst2 => ?_)
  rotate_left
  · (intro w hSw; (try dsimp only at hSw); go_simp; try (with_reducible rfl))
  clear hst; have hst := hst2; clear hst2
  try simp only [Act.put, List.setIfInBounds_toArray, List.set_cons_zero, List.set_cons_succ]
  refine wpAnyG_take (i := 10) (v := ?_) rfl (by kernel_rfl) hst (by kernel_rfl) (by kernel_rfl) (fun _ _ _ h => h) hSS (Or.inl ⟨by rfl, ?_⟩) (fun hst2 => ?_)
  rotate_left
  · (intro w hSw; (try dsimp only at hSw); go_simp; try (with_reducible rfl))
  clear hst; have hst := hst2; clear hst2
  try simp only [Act.put, List.setIfInBounds_toArray, List.set_cons_zero, List.set_cons_succ]
  refine wpAnyG_take (i := 11) (v := ?_) rfl (by kernel_rfl) hst (by kernel_rfl) (by kernel_rfl) (fun _ _ _ h => h) hSS (Or.inl ⟨by rfl, ?_⟩) (fun hst2 => ?_)
  rotate_left
  · (intro w hSw; (try dsimp only at hSw); go_simp; try (with_reducible rfl))
  clear hst; have hst := hst2; clear hst2
  try simp only [Act.put, List.setIfInBounds_toArray, List.set_cons_zero, List.set_cons_succ]
  refine wpAnyG_take (i := 12) (v := ?_) rfl (by kernel_rfl) hst (by kernel_rfl) (by kernel_rfl) (fun _ _ _ h => h) hSS (Or.inl ⟨by rfl, ?_⟩) (fun hst2 => ?_)
  rotate_left
  · (intro w hSw; (try dsimp only at hSw); go_simp; try (with_reducible rfl))
  clear hst; have hst := hst2; clear hst2
  try simp only [Act.put, List.setIfInBounds_toArray, List.set_cons_zero, List.set_cons_succ]
  refine wpAnyG_last (i := 13) (by kernel_rfl) rfl (by kernel_rfl) (by kernel_rfl) (fun K hK => ?_)
  go_simp
  refine hK.out _ _ ?_
  have ho : Outs S w w1 := (Outs.of (Below.refl _ w).drew : Outs S w w.drew).trans ht.outs (fun k hk => .inl hk)
  have hUl := HS.out.lt
  have hns : ∀ k, S' k → S k ∨ w.heap.size ≤ k := ht.ns
  have hnt : ∀ k, T' k → w.heap.size ≤ k := ht.nt
  have hs1 : StP w1 U st d false none x := HS.out.outs ho hdis
  have hm1 : MaxL w1 := HM.out.outs ho (fun hh => (he _ (.inl hh)).1 rfl)
  have hUS : ∀ k, U k → ¬ S' k ∧ ¬ T' k := fun k hk => ⟨fun hh => by
    rcases hns k hh with e | e
    · exact hdis k hk e
    · have := hUl k hk; omega, fun hh => by
    have := hnt k hh
    have := hUl k hk
    omega⟩
  have hus := hs1.us
  obtain ⟨W2, hW2⟩ : ∃ W2, W2 = w1.setCell ⟨st, 4, none⟩ (.pointer (some ⟨j, 0, none⟩)) := ⟨_, rfl⟩
  have ho2 : Outs (fun k => k = st) w1 W2 := by rw [hW2]; exact (Outs.refl (fun k => k = st) _).setCell (p := ⟨st, 4, none⟩) (.inl rfl) _
  have hs2 : StP W2 U st d false (some ⟨j, 0, none⟩) x := by rw [hW2]; exact hs1.put4 _
  have hX := he st (.inr hus)
  have hj2 : JD W2 S' T' j d nM (jOpen lM D).2 (opened lM D) := ⟨hj1.dk.outs ho2 (fun k hk e => (hUS st hus).1 (e ▸ hk)), hj1.jo.outs ho2 (fun k hk e => (hUS st hus).2 (e ▸ hk)), hj1.dis, hj1.s0, hj1.t0, hj1.pow.outs ho2 (fun e => hX.2 e.symm), hj1.nm⟩
  have hm2 : MaxL W2 := hm1.outs ho2 (fun e => hX.1 e.symm)
  have hlow := HM.out.lt
  have hsd : SD W2 S' T' U st j d (jOpen lM D).2 ⟨false, opened lM D, x⟩ := ⟨hj2, hs2, hUS, hm2, fun k hk => by
    have hp1 := hj1.pow.lt
    rcases hk with hk | hk | hk
    · rcases hns k hk with e | e
      · exact he k (.inl e)
      · exact ⟨by omega, fun e2 => hj1.s0 (e2 ▸ hk)⟩
    · exact ⟨by have := hnt k hk; omega, fun e2 => hj1.t0 (e2 ▸ hk)⟩
    · exact he k (.inr hk)⟩
  have hopn : OpnS w W2 S U S' T' U := ⟨((ho.mono fun _ h => .inl h : Outs (fun k => S k ∨ U k) w w1)).trans (ho2.mono (fun k e => (.inr (e ▸ hus) : S k ∨ U k))) (fun k hk => .inl hk), hns, hnt, fun k hk => .inl hk⟩
  have hf := jfirst_any W2 hj2
  have hn := jnext_any W2 hj2
  have c6 := hs2.c6
  have q1 : ¬ (x.upto : Int) < (jFirst (opened lM D) : Int) := by omega
  have q2 : ¬ ((opened lM D).next : Int) < (x.upto : Int) := by omega
  have f4 := hs1.fz 4
  have c4 := hs1.c4
  have HO := Lib.hid (And.intro hsd hopn)
  clear hop ht hj1 hj2 ho ho2 hs1 hs2 hUS hns hnt hm1 hm2 hsd hopn
  subst hW2
  generalize jFirst (opened lM D) = a at *
  generalize hnx : (opened lM D).next = b at *
  clear h1 h2
  go_wp2_with fail
  refine hf.mono ?_
  rintro e w4 ⟨rfl, rfl⟩
  clear hf
  go_wp2_with fail
  refine hn.mono ?_
  rintro e w5 ⟨rfl, rfl⟩
  clear hn
  go_wp2
  go_returns
  exact ⟨by simp, j, S', T', HO.out.1, HO.out.2⟩
end
end Go.Proofs.YtbobakfcmkaijaaGreatDoor
end

section
/- rebuild and Open. -/
namespace Go.Proofs.YtbobakfcmkaijaaGreatDoor
open Go.RowKit
set_option linter.unusedVariables false

section
variable {w w' w2 wr w0 : World} {S T U S' T' U' : Nat → Prop} {st j d : Nat} {D D' : Dsk} {x : Sn} {off : Bool} {jp : Option Addr} {xs : List Sn}
theorem mark_snap (n : Nat) : ¬ noMark (snapN lM n) := fun h => by
  unfold noMark at h
  rw [cut_snap] at h
  have := congrArg (fun t => t.2.2) h
  cases this
theorem Snaps.name (h : Snaps D xs) {f : Nm} (hf : f ∈ names D) : (noMark f ∧ f.length ≤ 900 ∧ snapNo lM f = none) ∨ ∃ y ∈ xs, f = snapN lM y.upto := by
  rcases h.cls f hf with ⟨n, rfl⟩ | ⟨y, hy, e⟩ | rfl
  · exact .inl ⟨noMark_seg n, by rw [segN_length]; decide, snapNo_seg lM n⟩
  · exact .inr ⟨y, hy, e⟩
  · exact .inl ⟨noMark_half, by rw [halfN_length]; decide, snapNo_half lM⟩
theorem Snaps.there (h : Snaps D xs) {y : Sn} (hy : y ∈ xs) : snapN lM y.upto ∈ names D := by
  obtain ⟨_, _, f, hf, _⟩ := h.at_ y hy
  exact find_isSome.1 (by rw [hf]; rfl)
theorem getD_get {l : List Nm} {k : Nat} (h : k < l.length) : l.getD k [] = l[k] := by simp [List.getD_eq_getElem?_getD, h]
theorem last_of {y : Sn} (h : xs.Pairwise (fun x y => x.upto < y.upto)) (hy : y ∈ xs) : xs.getLastD sn0 = y ∨ (xs.getLastD sn0 ∈ xs ∧ y.upto < (xs.getLastD sn0).upto) := by
  have hne : xs ≠ [] := List.ne_nil_of_mem hy
  have e : xs = xs.dropLast ++ [xs.getLast hne] := (List.dropLast_concat_getLast hne).symm
  have e2 : xs.getLastD sn0 = xs.getLast hne := by rw [List.getLastD_eq_getLast?, List.getLast?_eq_some_getLast hne]; rfl
  rw [e2]
  rw [e] at h hy
  rcases List.mem_append.1 hy with hy | hy
  · exact .inr ⟨List.getLast_mem hne, (List.pairwise_append.1 h).2.2 y hy _ (by simp)⟩
  · exact .inl (List.mem_singleton.1 hy).symm
theorem Snaps.last (h : Snaps D xs) (hs : Srt D.files) (i : Nat) (y : Sn) (hy : y ∈ xs) (hi : i < (names D).length) (he : (names D).getD i [] = snapN lM y.upto) (hno : ∀ k, i < k → k < (names D).length → noMark ((names D).getD k [])) : xs.getLastD sn0 = y := by
  rcases last_of h.rise hy with e | ⟨hz, hlt⟩
  · exact e
  · exfalso
    generalize xs.getLastD sn0 = z at *
    obtain ⟨k, hk, hke⟩ := List.mem_iff_getElem.1 (h.there hz)
    have hp : (names D).Pairwise (· < ·) := (srt_iff _).1 hs
    rw [getD_get hi] at he
    have hl := snapN_lt lM hlt (h.at_ z hz).2.1.no
    rcases Nat.lt_trichotomy i k with hik | hik | hik
    · have := hno k hik hk
      rw [getD_get hk, hke] at this
      exact mark_snap _ this
    · subst hik
      rw [he] at hke
      rw [hke] at hl
      exact List.lt_irrefl _ hl
    · have := List.pairwise_iff_getElem.1 hp k i hk hi hik
      rw [hke, he] at this
      exact List.lt_irrefl _ (List.lt_trans this hl)
theorem Snaps.none_ (h : Snaps D xs) (hno : ∀ k, k < (names D).length → noMark ((names D).getD k [])) : xs.getLastD sn0 = sn0 := by
  cases xs with
  | nil => rfl
  | cons y ys =>
    exfalso
    obtain ⟨k, hk, hke⟩ := List.mem_iff_getElem.1 (h.there (y := y) (by simp))
    have := hno k hk
    rw [getD_get hk, hke] at this
    exact mark_snap _ this
theorem names_nodup (hs : Srt D.files) : (names D).Nodup := ((srt_iff _).1 hs).imp fun h e => by rw [e] at h; exact List.lt_irrefl _ h
theorem Snaps.cls2 (h : Snaps D xs) (hok : Okd D) (j : Nat) (hj : j < (names D).length) : (find D.files (names D)[j]).isSome ∧ okN (names D)[j] = true ∧ ((noMark (names D)[j] ∧ (names D)[j].length ≤ 900 ∧ snapNo lM (names D)[j] = none) ∨ ∃ m, m ≤ maxNo ∧ (names D)[j] = snapN lM m) := by
  have hm : (names D)[j] ∈ names D := List.getElem_mem hj
  refine ⟨find_isSome.2 hm, ?_, ?_⟩
  · obtain ⟨f, hf, e⟩ := List.mem_map.1 hm
    rw [← e]
    exact hok.nms f hf
  · rcases h.name hm with e | ⟨y, hy, e⟩
    · exact .inl e
    · exact .inr ⟨y.upto, (h.at_ y hy).2.1.no, e⟩
/-- what Open makes of a disk -/
def sFiles (xs : List Sn) (D : Dsk) : Dsk := cleaned (xs.getLastD sn0) (names D) D
theorem cleaned_ok (x : Sn) : ∀ (fs : List Nm) (D : Dsk), Okd D → Okd (cleaned x fs D) ∧ (cleaned x fs D).steps ≤ D.steps + fs.length
  | [], D, h => ⟨h, by simp [cleaned]⟩
  | f :: fs, D, h => by
    have h1 : Okd (if drops x f then (dRemove D f).2 else D) ∧ (if drops x f then (dRemove D f).2 else D).steps ≤ D.steps + 1 := by
      split
      · exact ⟨okd_remove h _, (steps_remove D f).1⟩
      · exact ⟨h, by omega⟩
    have h2 := cleaned_ok x fs _ h1.1
    exact ⟨h2.1, by have h3 := h2.2; have h4 := h1.2; simp only [List.length_cons]; exact Nat.le_trans h3 (by omega)⟩

set_option maxHeartbeats 1600000 in
set_option maxRecDepth 20000 in
theorem srebuild_any (w : World) (h : StP w U st d false none sn0) (hk : Dk 0 w S d D) (hp : Pow w) (hm : MaxL w) (hdis : ∀ k, U k → ¬ S k) (he : ∀ k, S k ∨ U k → k ≠ 1 ∧ k ≠ 0) (hok : Okd D) (hcalm : Calm D) (hst : D.steps ≤ 100000000) (hfl : D.files.length ≤ 1000000) (hsn : Snaps D xs)
    (hcalm1 : (sFiles xs D).off = false) (hfl1 : (sFiles xs D).files.length ≤ 1048576) (hbyt : FBs (sFiles xs D)) (hgood : (jOpen lM (sFiles xs D)).1 = 0) (h1 : jFirst (opened lM (sFiles xs D)) ≤ (xs.getLastD sn0).upto) (h2 : (xs.getLastD sn0).upto ≤ (opened lM (sFiles xs D)).next) :
    Calls Tryz.prog 23 #[.pointer (some ⟨st, 0, none⟩)] w fun e w' => e = .returned (.int .i64 0) ∧ ∃ j S' T' U', SD w' S' T' U' st j d (jOpen lM (sFiles xs D)).2 ⟨false, opened lM (sFiles xs D), xs.getLastD sn0⟩ ∧ OpnS w w' S U S' T' U' := by
  have hnm := names_on w hk (by omega) hok.srt
  rw [show dNames D = names D by simp [dNames, hcalm.off]] at hnm
  have hnl : (names D).length ≤ 1000000 := by simpa [names] using hfl
  have c1 := h.c1
  have HS := Lib.hid h
  have HK := Lib.hid hk
  have HP := Lib.hid hp
  have HM := Lib.hid hm
  have HG := Lib.hid (And.intro hcalm1 (And.intro hfl1 (And.intro hbyt (And.intro hgood (And.intro h1 h2)))))
  clear h hk hp hm hcalm1 hfl1 hbyt hgood h1 h2
  go_enter Tryz.func23, Tryz.ntmps23
  go_wp2_with fail
  refine hnm.mono ?_
  rintro e w1 ⟨v, rfl, hown, hb1⟩
  obtain ⟨A, c, rfl⟩ := row_any hown
  obtain ⟨n, hn⟩ : ∃ n, (names D).length = n := ⟨_, rfl⟩
  have hSl := HK.out.lt
  have hUl := HS.out.lt
  have hm1 := HM.out.go hb1
  have hml := HM.out.lt
  have hsz1 := hb1.size
  obtain ⟨g, hA, hnc, hg, hgS, hgU, hcell⟩ : ∃ g, (0 < n → A = some ⟨g, 0, none⟩) ∧ n ≤ c ∧ g < w1.heap.size ∧ ¬ S g ∧ ¬ U g ∧ ∀ i (h : i < (names D).length), w1.cell? ⟨g, i, none⟩ = some (.string (strOf (names D)[i])) := by
    by_cases h0 : 0 < n
    · obtain ⟨g, c2, e2, hg, h3, _⟩ := row_block hown (by omega)
      have hgb := ownRow_block hown hg
      injection e2 with e3 _ e4
      refine ⟨g, fun _ => e3, by omega, hgb.2.1, fun hh => ?_, fun hh => ?_, fun i hi => (row_cell (i := i) hown hg (cS_get hi)).1⟩
      · have := hSl g hh; omega
      · have := hUl g hh; omega
    · refine ⟨1, fun h => absurd h h0, by omega, by omega, fun hh => (he _ (.inl hh)).1 rfl, fun hh => (he _ (.inr hh)).1 rfl, fun i hi => by omega⟩
  have hcho := callsIn_wide.1 (choose_in (xs := xs) (names D) A n c g w1 (HS.out.go hb1) (HK.out.go hb1) hm1 hok hcalm.off hdis hn hA hnc (by omega) hg hgU (fun i hi => by rw [getD_get (by omega)]; exact hcell i (by omega))
    (fun k hk => by
      rw [getD_get (by omega)]
      rcases hsn.name (List.getElem_mem (by omega : k < (names D).length)) with ⟨e1, e2, _⟩ | e
      · exact .inl ⟨e1, e2⟩
      · exact .inr e)
    (fun y hy => by
      obtain ⟨e1, e2, f, e3, e4, _⟩ := hsn.at_ y hy
      exact ⟨e1, e2, f, e3, e4⟩)
    (fun i y hy hi => hsn.last hok.srt i y hy (by omega) |> fun f he hno => f he (fun k h1 h2 => hno k h1 (by omega)))
    (fun hno => hsn.none_ (fun k hk => hno k (by omega))))
  have HN := Lib.hid hn
  have HB1 := Lib.hid hb1
  have HC := Lib.hid (And.intro hA (And.intro hnc (And.intro hg (And.intro hgS (And.intro hgU hcell)))))
  rw [hn]
  clear hnm hown hb1 hn hA hnc hg hgS hgU hcell hm1
  go_wp2_with fail
  refine hcho.mono ?_
  rintro e w2 ⟨rfl, U2, hs2, ho2, hn2⟩
  obtain ⟨hA, hnc, hg, hgS, hgU, hcell⟩ := HC.out
  have hk2 : Dk 0 w2 S d D := (HK.out.go HB1.out).outs ho2 (fun k hk hh => hdis k hh hk)
  have hm2 : MaxL w2 := (HM.out.go HB1.out).outs ho2 (fun hh => (he _ (.inr hh)).1 rfl)
  have hp2 : Pow w2 := (HP.out.go HB1.out).outs ho2 (fun hh => (he _ (.inr hh)).2 rfl)
  have hpl := HP.out.lt
  have hdis2 : ∀ k, U2 k → ¬ S k := fun k hk hh => by
    rcases hn2 k hk with e | e
    · exact hdis k e hh
    · have := hSl k hh; omega
  have hcln := clean_any (n := n) (fs := names D) (g := g) A c w2 hs2 hk2 hm2 hcalm hok (by have := HN.out; omega) HN.out hA hnc (Nat.lt_of_lt_of_le hg ho2.size) (fun i hi => by rw [ho2.cell (p := ⟨g, i, none⟩) hg hgU]; exact hcell i hi) (names_nodup hok.srt)
    (fun b hb => ⟨fun e => hgS (e ▸ hb), fun hh => hdis2 b hh hb, (he b (.inl hb)).1⟩) (fun i hi => hsn.cls2 hok i hi)
  have HS2 := Lib.hid (And.intro hs2 (And.intro ho2 (And.intro hn2 (And.intro hm2 (And.intro hp2 hdis2)))))
  clear hcho hs2 ho2 hn2 hk2 hm2 hp2 hA hnc hg hgS hgU hcell
  go_wp2_with fail
  refine hcln.mono ?_
  rintro e w3 ⟨rfl, S3, hk3, ht3⟩
  obtain ⟨hs2, ho2, hn2, hm2, hp2, hdis2⟩ := HS2.out
  have hsz2 := ho2.size
  have hS3 : ∀ k, S3 k → S k ∨ w2.heap.size ≤ k := ht3.new
  have hU2l := hs2.lt
  have hs3 : StP w3 U2 st d false none (xs.getLastD sn0) := hs2.outs ht3.outs hdis2
  have hm3 : MaxL w3 := hm2.outs ht3.outs (fun hh => (he _ (.inl hh)).1 rfl)
  have hp3 : Pow w3 := hp2.outs ht3.outs (fun hh => (he _ (.inl hh)).2 rfl)
  have hdis3 : ∀ k, U2 k → ¬ S3 k := fun k hk hh => by
    rcases hS3 k hh with e | e
    · exact hdis2 k hk e
    · have := hU2l k hk; omega
  have he3 : ∀ k, S3 k ∨ U2 k → k ≠ 1 ∧ k ≠ 0 := fun k hk => by
    rcases hk with hk | hk
    · rcases hS3 k hk with e | e
      · exact he k (.inl e)
      · exact ⟨by omega, by omega⟩
    · rcases hn2 k hk with e | e
      · exact he k (.inr e)
      · exact ⟨by omega, by omega⟩
  obtain ⟨g1, g2, g3, g4, g5, g6⟩ := HG.out
  have hco := cleaned_ok (xs.getLastD sn0) (names D) D hok
  have hgo := goOn_any w3 hs3 hk3 hp3 hm3 hdis3 he3 hco.1 g1 (by have := hco.2; omega) g2 g3 g4 g5 g6
  have HT := Lib.hid (And.intro ht3 hS3)
  clear hcln hs2 ho2 hn2 hm2 hp2 hs3 hk3 hp3 hm3 g1 g2 g3 g4 g5 g6 ht3 hS3
  go_wp2_with fail
  refine hgo.mono ?_
  rintro e w4 ⟨rfl, j, S4, T4, hsd, hopn⟩
  obtain ⟨_, ho2, hn2, _, _, _⟩ := HS2.out
  obtain ⟨ht3, hS3⟩ := HT.out
  have hsz3 := ht3.outs.size
  have hO : OpnS w w4 S U S4 T4 U2 := by
    refine ⟨?_, fun k hk => ?_, fun k hk => ?_, fun k hk => ?_⟩
    · have a1 : Outs (fun k => S k ∨ U k) w w1 := Outs.of HB1.out
      have a2 : Outs (fun k => S k ∨ U k) w w2 := a1.trans ho2 (fun k hk => .inl (.inr hk))
      have a3 : Outs (fun k => S k ∨ U k) w w3 := a2.trans ht3.outs (fun k hk => .inl (.inl hk))
      refine a3.trans hopn.outs (fun k hk => ?_)
      rcases hk with hk | hk
      · rcases hS3 k hk with e | e
        · exact .inl (.inl e)
        · exact .inr (by omega)
      · rcases hn2 k hk with e | e
        · exact .inl (.inr e)
        · exact .inr (by omega)
    · rcases hopn.ns k hk with e | e
      · rcases hS3 k e with e | e
        · exact .inl e
        · exact .inr (by omega)
      · exact .inr (by omega)
    · have := hopn.nt k hk; omega
    · rcases hn2 k hk with e | e
      · exact .inl e
      · exact .inr (by omega)
  have HO := Lib.hid (And.intro hsd hO)
  clear hgo hsd hopn ho2 hn2 ht3 hS3 hO
  go_wp2
  go_returns
  exact ⟨by simp, j, S4, T4, U2, HO.out.1, HO.out.2⟩
end
end Go.Proofs.YtbobakfcmkaijaaGreatDoor
end

section
/- Open; what is refused. -/
namespace Go.Proofs.YtbobakfcmkaijaaGreatDoor
open Go.RowKit
set_option linter.unusedVariables false

section
variable {w w' w2 wr w0 : World} {S T U S' T' U' : Nat → Prop} {st j d : Nat} {D D' : Dsk} {x : Sn} {off : Bool} {jp : Option Addr} {xs : List Sn}
theorem sunfit_m (w : World) (h : Dk 0 w S d D) (hoff : D.off = false) :
    Calls Tryz.prog 22 #[.pointer (some ⟨d, 0, none⟩), .string nM] w fun e w' => e = .returned (.int .i64 0) ∧ Below w.heap.size w w' := by
  have hsy := synced_any nM (by decide) w h
  have hn1 : ((dSynced D (lst nM)).2 == 1) = false := by simpa using ask_ne1 D (lst nM)
  generalize dSynced D (lst nM) = r at *
  have H := Lib.hid h
  clear h
  have hon : ∀ W, Below w.heap.size w W → Calls Tryz.prog 30 #[.pointer (some ⟨d, 0, none⟩)] W fun e w' => e = .returned (.bool true) ∧ w' = W := fun W hb => by
    have := on_any W (H.out.go hb)
    rwa [hoff] at this
  clear hoff
  go_enter Tryz.func22, Tryz.ntmps22
  go_wp2_with fail
  refine hsy.mono ?_
  rintro e w1 ⟨rfl, hb1⟩
  go_wp2_with fail
  refine (smayNot_m w1).mono ?_
  rintro e w2 ⟨rfl, q, rfl⟩
  have hb2 := bDrewN hb1 q
  generalize w1.drewN q = w3 at *
  go_wp2_with fail
  refine (hon w3 hb2).mono ?_
  rintro e w4 ⟨rfl, rfl⟩
  have HB := Lib.hid hb2
  clear hsy hb1 hb2 hon
  go_wp2
  go_returns
  exact ⟨by simp, HB.out⟩
theorem sunfit_no (p : Option Addr) (s : ByteArray) (w : World) (h : Nobody w p) (hl : ∀ d, p = some d → d.block < w.heap.size) :
    Calls Tryz.prog 22 #[.pointer p, .string s] w fun e w' => e = .returned (.int .i64 1) ∧ Below w.heap.size w w' := by
  have hsy := synced_no h hl s
  go_enter Tryz.func22, Tryz.ntmps22
  go_wp2_with fail
  refine hsy.mono ?_
  rintro e w1 ⟨rfl, hb1⟩
  have HB := Lib.hid hb1
  clear hsy hb1
  go_wp2
  go_returns
  exact ⟨by simp, HB.out⟩
theorem sopen_no (p : Option Addr) (s : ByteArray) (w : World) (h : Nobody w p) (hl : ∀ d, p = some d → d.block < w.heap.size) :
    Calls Tryz.prog 8 #[.pointer p, .string s] w fun e w' => e = .returned (.tuple #[.pointer none, .int .i64 1]) ∧ Below w.heap.size w w' := by
  have hu := sunfit_no p s w h hl
  go_enter Tryz.func8, Tryz.ntmps8
  go_wp2_with fail
  refine hu.mono ?_
  rintro e w1 ⟨rfl, hb1⟩
  have HB := Lib.hid hb1
  clear hu hb1
  go_wp2
  go_returns
  exact ⟨by simp, HB.out⟩

/-- what an opening leaves, for who calls it -/
structure OpnC (w w' : World) (S S' T' U' : Nat → Prop) : Prop where
  outs : Outs S w w'
  ns : ∀ k, S' k → S k ∨ w.heap.size ≤ k
  nt : ∀ k, T' k → w.heap.size ≤ k
  nu : ∀ k, U' k → w.heap.size ≤ k
/-- what a disk must be for Open to go well -/
structure Good6 (D : Dsk) (xs : List Sn) : Prop where
  ok : Okd D
  calm : Calm D
  steps : D.steps ≤ 100000000
  few : D.files.length ≤ 1000000
  sn : Snaps D xs
  off1 : (sFiles xs D).off = false
  few1 : (sFiles xs D).files.length ≤ 1048576
  byt : FBs (sFiles xs D)
  good : (jOpen lM (sFiles xs D)).1 = 0
  le : jFirst (opened lM (sFiles xs D)) ≤ (xs.getLastD sn0).upto
  ge : (xs.getLastD sn0).upto ≤ (opened lM (sFiles xs D)).next
def sOpened (xs : List Sn) (D : Dsk) : Ck := ⟨false, opened lM (sFiles xs D), xs.getLastD sn0⟩
def sDisk (xs : List Sn) (D : Dsk) : Dsk := (jOpen lM (sFiles xs D)).2
set_option maxHeartbeats 1600000 in
set_option maxRecDepth 20000 in
theorem sopen_any (w : World) (hk : Dk 0 w S d D) (hp : Pow w) (hm : MaxL w) (he : ∀ k, S k → k ≠ 1 ∧ k ≠ 0) (hg : Good6 D xs) :
    Calls Tryz.prog 8 #[.pointer (some ⟨d, 0, none⟩), .string nM] w fun e w' => ∃ st j S' T' U', e = .returned (.tuple #[.pointer (some ⟨st, 0, none⟩), .int .i64 0]) ∧ SD w' S' T' U' st j d (sDisk xs D) (sOpened xs D) ∧ OpnC w w' S S' T' U' := by
  have hu := sunfit_m w hk hg.calm.off
  have HK := Lib.hid hk
  have HP := Lib.hid hp
  have HM := Lib.hid hm
  clear hk hp hm
  go_enter Tryz.func8, Tryz.ntmps8
  go_wp2_with fail
  refine hu.mono ?_
  rintro e w1 ⟨rfl, hb1⟩
  obtain ⟨w3, hw3⟩ : ∃ w3, w3 = w1.alloc (.cells #[.pointer (some ⟨w1.heap.size, 0, none⟩), .pointer (some ⟨d, 0, none⟩), .string nM, .bool false, .pointer none, .bool false, .int .u64 1, .slice none 0 0] 50) := ⟨_, rfl⟩
  have hb3 : Below w.heap.size w w3 := by rw [hw3]; exact hb1.alloc hb1.size _
  have hsz := hb1.size
  have hSl := HK.out.lt
  have hml := HM.out.lt
  have hpl := HP.out.lt
  have hs3 : StP w3 (fun k => k = w1.heap.size) w1.heap.size d false none sn0 := by
    refine ⟨none, 0, ?_, ?_, (fun ad e => by cases e), rfl, ?_⟩
    · rw [hw3]
      exact Whole.new w1 _ _
    · intro hne
      exact absurd rfl hne
    · rintro k rfl
      rw [hw3]
      simp
  have hreb := srebuild_any (xs := xs) w3 hs3 (HK.out.go hb3) (HP.out.go hb3) (HM.out.go hb3) (fun k e hh => by have := hSl k hh; omega) (fun k hk => by
    rcases hk with hk | hk
    · exact he k hk
    · exact ⟨by omega, by omega⟩) hg.ok hg.calm hg.steps hg.few hg.sn hg.off1 hg.few1 hg.byt hg.good hg.le hg.ge
  have HB3 := Lib.hid hb3
  have hsz3 := hb3.size
  subst hw3
  clear hu hb1 hb3 hs3
  go_wp2_with fail
  refine hreb.mono ?_
  rintro e w4 ⟨rfl, j, S4, T4, U4, hsd, hopn⟩
  have hO : OpnC w w4 S S4 T4 U4 := by
    refine ⟨(Outs.of HB3.out : Outs S w _).trans hopn.outs (fun k hk => ?_), fun k hk => ?_, fun k hk => ?_, fun k hk => ?_⟩
    · rcases hk with hk | hk
      · exact .inl hk
      · exact .inr (by omega)
    · rcases hopn.ns k hk with e | e
      · exact .inl e
      · exact .inr (by omega)
    · have := hopn.nt k hk; omega
    · rcases hopn.nu k hk with e | e
      · omega
      · omega
  have HO := Lib.hid (And.intro hsd hO)
  clear hreb hsd hopn hO
  go_wp2
  go_returns
  exact ⟨w1.heap.size, j, S4, T4, U4, by simp, HO.out.1, HO.out.2⟩
end
end Go.Proofs.YtbobakfcmkaijaaGreatDoor
end
