/- Several texts, each a section: JDk, Kit, CMore, FPut, FMea, FRead. -/
import Derived.Test.YtfiebjfdlplpjaaGreatDoorM10
import Derived.Test.YtfiebjfdlplpjaaGreatDoorM02
import Derived.Laws.CopyOwn
import Derived.Laws.MakeOwn
import Derived.Laws.BitsAllLaws
import Derived.Deep.RegionHeld3
import Derived.Lib.SliceRun
section
/- A journal and its disk side by side; a step of the journal's. -/
namespace Go.Proofs.YtfiebjfdlplpjaaGreatDoor
open Go.RowKit
set_option linter.unusedVariables false

structure JD (w : World) (S T : Nat → Prop) (j d : Nat) (s : ByteArray) (D : Dsk) (J : Jn) : Prop where
  dk : Dk 0 w S d D
  jo : Jo w T j d s J
  dis : ∀ k, T k → ¬ S k
  s0 : ¬ S 0
  t0 : ¬ T 0
  pow : Pow w
  nm : okJ s.data.toList = true

/-- what a call of a journal's leaves -/
structure TurnJ (S T S' T' : Nat → Prop) (w w' : World) : Prop where
  outs : Outs (fun k => S k ∨ T k) w w'
  ns : ∀ k, S' k → S k ∨ w.heap.size ≤ k
  nt : ∀ k, T' k → T k ∨ w.heap.size ≤ k

section
variable {w w' w2 : World} {S T S' T' S2 T2 : Nat → Prop} {j d : Nat} {s : ByteArray} {D D' : Dsk} {J J' : Jn}
theorem TurnJ.refl (S T : Nat → Prop) (w : World) : TurnJ S T S T w w := ⟨Outs.refl _ w, fun _ h => .inl h, fun _ h => .inl h⟩
theorem TurnJ.below (h : Below w.heap.size w w') : TurnJ S T S T w w' := ⟨Outs.of h, fun _ h => .inl h, fun _ h => .inl h⟩
theorem TurnJ.trans (h : TurnJ S T S' T' w w') (k : TurnJ S' T' S2 T2 w' w2) : TurnJ S T S2 T2 w w2 :=
  ⟨h.outs.trans k.outs (fun i hi => by
      rcases hi with hi | hi
      · rcases h.ns i hi with e | e
        · exact .inl (.inl e)
        · exact .inr e
      · rcases h.nt i hi with e | e
        · exact .inl (.inr e)
        · exact .inr e),
    fun i hi => by
      rcases k.ns i hi with e | e
      · exact h.ns i e
      · exact .inr (Nat.le_trans h.outs.size e),
    fun i hi => by
      rcases k.nt i hi with e | e
      · exact h.nt i e
      · exact .inr (Nat.le_trans h.outs.size e)⟩
theorem JD.go (h : JD w S T j d s D J) (hb : Below w.heap.size w w') : JD w' S T j d s D J :=
  ⟨h.dk.go hb, h.jo.go hb, h.dis, h.s0, h.t0, h.pow.go hb, h.nm⟩
/-- the disk turns -/
theorem JD.disk (h : JD w S T j d s D J) (hk : Dk 0 w' S' d D') (ht : Turn S S' w w') : JD w' S' T j d s D' J ∧ TurnJ S T S' T w w' := by
  have hlt := h.jo.lt
  have hp := h.pow.lt
  refine ⟨⟨hk, h.jo.outs ht.outs h.dis, fun k hk hs => ?_, fun h0 => ?_, h.t0, h.pow.outs ht.outs h.s0, h.nm⟩, ⟨ht.outs.mono fun k hk => .inl hk, ht.new, fun k hk => .inl hk⟩⟩
  · rcases ht.new k hs with e | e
    · exact h.dis k hk e
    · have := hlt k hk; omega
  · rcases ht.new _ h0 with e | e
    · exact h.s0 e
    · omega
/-- the journal turns -/
theorem JD.jour (h : JD w S T j d s D J) (hk : Jo w' T' j d s J') (ho : Outs T w w') (hn : ∀ k, T' k → T k ∨ (w.heap.size ≤ k)) : JD w' S T' j d s D J' ∧ TurnJ S T S T' w w' := by
  have hlt := h.dk.lt
  have hp := h.pow.lt
  refine ⟨⟨h.dk.outs ho (fun k hs ht => h.dis k ht hs), hk, fun k ht hs => ?_, h.s0, fun h0 => ?_, h.pow.outs ho h.t0, h.nm⟩, ⟨ho.mono fun k hk => .inr hk, fun k hk => .inl hk, hn⟩⟩
  · rcases hn k ht with e | e
    · exact h.dis k e hs
    · have := hlt k hs; omega
  · rcases hn _ h0 with e | e
    · exact h.t0 e
    · omega

theorem lst_strOf (l : Nm) : lst (strOf l) = l := by simp [lst, strOf]
theorem strOf_size (l : Nm) : (strOf l).size = l.length := by simp [strOf, ByteArray.size]
theorem nm_size (h : okJ s.data.toList = true) : s.size ≤ 8 := by
  have h1 := (okJ_len h).2
  have h2 : s.size = s.data.toList.length := by simp
  omega
theorem seg_size (h : okJ s.data.toList = true) (n : Nat) : (strOf (segN s.data.toList n)).size ≤ 21 := by
  have := nm_size h
  rw [strOf_size]
  simp [segN, dig_length]
  omega

/-- 'j.file(n)' -/
theorem jfile_any (n : Nat) (hn : n ≤ maxNo) (w : World) (h : JD w S T j d s D J) :
    Calls Tryz.prog 35 #[.pointer (some ⟨j, 0, none⟩), .int .u64 n] w fun r w' => r = .returned (.string (strOf (segN s.data.toList n))) ∧ Below w.heap.size w w' := by
  have c2 : w.cell? ⟨j, 2, none⟩ = some (.string s) := by
    obtain ⟨vs, ms, hj, _⟩ := h.jo
    exact hj.c2
  have hcon := segName_any s n (by have := nm_size h.nm; omega) hn w h.pow
  clear h
  go_enter Tryz.func35, Tryz.ntmps35
  go_wp2_with fail
  refine hcon.mono ?_
  rintro r w1 ⟨rfl, hb⟩
  go_wp2
  go_returns
  exact ⟨by simp, hb⟩

/-- one of the disk's steps, as the journal does it -/
def Does (fv : Nat) (lb : Array Value) (f : ByteArray) (w : World) (S : Nat → Prop) (d : Nat) (r : Int × Dsk) : Prop :=
  Calls Tryz.prog fv (#[.pointer (some ⟨d, 0, none⟩), .string f] ++ lb) w fun e w' => e = .returned (.int .i64 r.1) ∧ ∃ S', Dk 0 w' S' d r.2 ∧ Turn S S' w w'

set_option maxRecDepth 4000 in
theorem jstep_any (fv : Nat) (lb : Array Value) (f : ByteArray) (r : Int × Dsk) (w : World) (h : JD w S T j d s D J) (eg : ∀ args w, (callFunc fv args).run Tryz.prog w = .ok (.enter fv args) w) (hdo : Does fv lb f w S d r) :
    Calls Tryz.prog 34 #[.pointer (some ⟨j, 0, none⟩), .func (.func fv) #[] lb, .string f] w fun e w' => e = .returned (.int .i64 r.1) ∧ ∃ S', JD w' S' T j d s r.2 (jEnd J r.1) ∧ TurnJ S T S' T w w' := by
  have c1 : w.cell? ⟨j, 1, none⟩ = some (.pointer (some ⟨d, 0, none⟩)) := by
    obtain ⟨vs, ms, hj, _⟩ := h.jo
    exact hj.c1
  have H := Lib.hid h
  clear h
  have hcon := hdo
  unfold Does at hcon
  go_enter Tryz.func34, Tryz.ntmps34
  go_wp2_with fail
  refine hcon.mono ?_
  rintro e w1 ⟨rfl, S', hk, ht⟩
  obtain ⟨hJ, hT⟩ := H.out.disk hk ht
  have hend := jend_any r.1 w1 hJ.jo
  have HJ := Lib.hid hJ
  have HT := Lib.hid hT
  clear hcon hdo hk ht hJ hT H
  go_wp2_with fail
  refine hend.mono ?_
  rintro e w2 ⟨rfl, hj, ht⟩
  obtain ⟨hJ2, hT2⟩ := HJ.out.jour hj ht.outs ht.new
  have H2 := Lib.hid hJ2
  have H3 := Lib.hid (HT.out.trans hT2)
  clear hend hj ht hJ2 hT2
  go_wp2
  go_returns
  exact ⟨by simp, S', H2.out, H3.out⟩

/-! ## the disk's calls as values -/
theorem make_enters : ∀ args w, (callFunc 64 args).run Tryz.prog w = .ok (.enter 64 args) w := enters_of Tryz.func64 (by kernel_rfl) rfl
theorem sync_enters : ∀ args w, (callFunc 71 args).run Tryz.prog w = .ok (.enter 71 args) w := enters_of Tryz.func71 (by kernel_rfl) rfl
theorem remove_enters : ∀ args w, (callFunc 48 args).run Tryz.prog w = .ok (.enter 48 args) w := enters_of Tryz.func48 (by kernel_rfl) rfl
theorem does_make (l : Nm) (hl : (strOf l).size ≤ 9223372036854775807) (h : Dk 0 w S d D) (hr : Room D) : Does 64 #[] (strOf l) w S d (dMake D l) := by
  have := make_any (strOf l) hl w h hr
  rw [lst_strOf] at this
  exact this
theorem does_sync (l : Nm) (hl : (strOf l).size ≤ 9223372036854775807) (h : Dk 0 w S d D) (hr : Room D) : Does 71 #[] (strOf l) w S d (dSync D l) := by
  have := sync_any (strOf l) hl w h hr
  rw [lst_strOf] at this
  exact this
theorem does_remove (l : Nm) (hl : (strOf l).size ≤ 9223372036854775807) (h : Dk 0 w S d D) (hr : Room D) (hok : Okd D) : Does 48 #[] (strOf l) w S d (dRemove D l) := by
  have := remove_any (strOf l) hl w h hr hok
  rw [lst_strOf] at this
  exact this

/-! ## what a journal must be for its calls to be told -/
structure Fits (J : Jn) : Prop where
  next : J.next ≤ 4611686018427387904
  segs : J.segs.length ≤ 1073741824
  nums : ∀ x ∈ J.segs, x.num ≤ maxNo
  recs : ∀ x ∈ J.segs, x.recs.length ≤ 1073741824
  size : ∀ x ∈ J.segs, x.size ≤ 1125899906842624

/-- where the last segment stands in memory -/
theorem Jo.last (h : Jo w T j d s J) (hne : J.segs ≠ []) : ∃ vs p m g c, JnAt w T j d s J.off J.next vs (p ++ [m]) ∧ J.segs = p.map SgM.sg ++ [m.sg] ∧ vs = .slice (some ⟨g, 0, none⟩) (p.length + 1) c ∧ vs.ownBlock = some g ∧ J.last = m.sg ∧ p.length + 1 = J.segs.length ∧ p.length + 1 ≤ c ∧ c ≤ maxLen := by
  obtain ⟨vs, ms, h, hs⟩ := h
  have hms : ms ≠ [] := by
    rintro rfl
    exact hne hs
  obtain ⟨p, m, rfl⟩ := segs_last h hms
  have hrow := h.row
  rw [List.length_append, List.length_singleton] at hrow
  obtain ⟨g, c, hvs, hgv, h1, h2⟩ := row_block hrow (Nat.succ_pos _)
  refine ⟨vs, p, m, g, c, h, by rw [hs]; simp, hvs, hgv, ?_, by rw [hs]; simp, h1, h2⟩
  unfold Jn.last
  rw [hs]
  exact last_sg p m

set_option maxHeartbeats 800000 in
set_option maxRecDepth 4000 in
theorem syncLast_any (w : World) (h : JD w S T j d s D J) (hr : Room D) (hf : Fits J) :
    Calls Tryz.prog 40 #[.pointer (some ⟨j, 0, none⟩)] w fun e w' => e = .returned (.int .i64 (jSyncLast s.data.toList D J).1) ∧ ∃ S', JD w' S' T j d s (jSyncLast s.data.toList D J).2.1 (jSyncLast s.data.toList D J).2.2 ∧ TurnJ S T S' T w w' := by
  by_cases hne : J.segs = []
  · have e1 : jSyncLast s.data.toList D J = (0, D, J) := by simp [jSyncLast, hne]
    rw [e1]
    have c5 : ∃ A c, w.cell? ⟨j, 5, none⟩ = some (.slice A 0 c) := by
      obtain ⟨vs, ms, hj, hs⟩ := h.jo
      have hms : ms = [] := by
        rw [hne] at hs
        exact (List.map_eq_nil_iff.1 hs.symm)
      subst hms
      obtain ⟨A, c, e⟩ := row_any hj.row
      exact ⟨A, c, by rw [hj.c5, e]; rfl⟩
    obtain ⟨A, c, c5⟩ := c5
    have H := Lib.hid h
    clear h e1
    go_enter Tryz.func40, Tryz.ntmps40
    go_wp2
    go_returns
    exact ⟨by simp, S, H.out, TurnJ.refl _ _ _⟩
  · have e1 : jSyncLast s.data.toList D J = jStep J (dSync D (segN s.data.toList J.last.num)) := by simp [jSyncLast, hne]
    rw [e1]
    clear e1
    obtain ⟨vs, p, m, g, c, hj, hsg, hvs, hgv, hlast, hpl, _, _⟩ := h.jo.last hne
    have c5 : w.cell? ⟨j, 5, none⟩ = some (.slice (some ⟨g, 0, none⟩) (p.length + 1) c) := by rw [hj.c5, hvs]
    have hpn : ¬ ((p.length : Int) + 1 = 0) := by omega
    have hlastc := jlast_at w c5 (by have := hf.segs; omega)
    have hm : m.num ≤ maxNo := by
      have := hf.nums m.sg (by rw [hsg]; simp)
      exact this
    have hrow := hj.row
    rw [hlast]
    have H := Lib.hid h
    have hc0 := (row_cell (i := p.length * 3 + 0) hrow hgv (cG_at p m [] 0 (by decide))).1
    have hc0' : ∀ q, (w.drewN q).cell? ⟨g, p.length * 3, none⟩ = some (.int .u64 m.num) := fun q => hc0
    clear h hj hrow hc0 hvs hgv hlast hsg
    go_enter Tryz.func40, Tryz.ntmps40
    go_wp2_with fail
    refine hlastc.mono ?_
    rintro e w1 ⟨rfl, q, rfl⟩
    have hc := hc0' q
    have hb1 : Below w.heap.size w (w.drewN q) := bDrewN (Below.refl _ w) q
    have h1 := H.out.go hb1
    clear hlastc hc0'
    generalize w.drewN q = w1 at *
    have hfile := jfile_any m.num hm w1 h1
    have H1 := Lib.hid h1
    clear h1 H
    go_wp2_with fail
    refine hfile.mono ?_
    rintro e w2 ⟨rfl, hb2⟩
    have h2 := H1.out.go hb2
    have hb12 : Below w.heap.size w w2 := hb1.trans (hb2.mono hb1.size)
    have hsz := seg_size h2.nm m.num
    have hst := jstep_any 71 #[] (strOf (segN s.data.toList m.num)) _ w2 h2 sync_enters (does_sync _ (by omega) h2.dk hr)
    clear hfile h2 H1
    go_wp2_with fail
    refine hst.mono ?_
    rintro e w3 ⟨rfl, S', h3, ht3⟩
    have H3 := Lib.hid h3
    have HT := Lib.hid ((TurnJ.below hb12 : TurnJ S T S T w w2).trans ht3)
    clear hst h3 ht3
    go_wp2
    go_returns
    exact ⟨by simp [jStep, SgM.sg], S', H3.out, HT.out⟩
end
end Go.Proofs.YtfiebjfdlplpjaaGreatDoor
end

section
/- The walks over the kit's Own and Kept. -/
namespace Go.Proofs.YtfiebjfdlplpjaaGreatDoor
open Go.RowKit
set_option linter.unusedVariables false

theorem own_whole {w : World} {B g n : Nat} {e : TypeId} {xs : List Value} (h : w.ownsRow B e 1 (.slice (some ⟨g, 0, none⟩) n n) n xs) : Whole w g e xs.toArray := by
  rcases h.2 with ⟨h1, _⟩ | ⟨g', cap, cur, h1, _, h2, _, _, h3, h4⟩
  · cases h1
  · injection h1 with ha _ hc
    injection ha with ha
    injection ha with ha
    subst ha
    subst hc
    have : cur = xs.toArray := by
      rw [← h4, Nat.mul_one, List.take_of_length_le (by simp; omega)]
    rw [← this]
    exact h2

theorem made1 (z : Value) (n : Nat) : (madeCells #[z] (n * 1)).toList = List.replicate n z := by
  rw [Nat.mul_one]
  unfold madeCells
  apply List.ext_getElem
  · simp
  · intro i h1 h2
    simp [Nat.mod_one]

theorem c8_set (L : List Int) (k : Nat) (z : Int) : (c8 L).toArray.setIfInBounds k (.int .u8 z) = (c8 (L.set k z)).toArray := by
  simp [c8, List.map_set]

/-- copy(dst, src) into the head of a block known whole, src nil or not, no longer than dst -/
theorem copy_head {P : Program} (w : World) (T e ty : TypeId) (hu : P.underlying T = some (.slice e)) (hs : (P.info? e).map (·.size) = some 1) {g m cap c lim : Nat} {old : List Value} {A : Option Addr} {xs : List Value} {te : TypeId}
    (hw : Whole w g te old.toArray) (hr : Rds w lim A xs) (hle : xs.length ≤ m) (hm : xs.length ≤ old.length) (h1 : ∀ u ∈ xs, u.oneCell' = true) {n : Nat} (hn : n = xs.length) :
    ∃ w', (Builtin.copy_ #[T, T] ty #[.slice (some ⟨g, 0, none⟩) m cap, .slice A n c]).run P w = .ok (.int .i64 n) w' ∧ Whole w' g te (xs ++ old.drop xs.length).toArray ∧ ∀ B w0, Below B w0 w → B ≤ g → Below B w0 w' := by
  subst hn
  have hmin : Nat.min xs.length m = xs.length := Nat.min_eq_left hle
  by_cases h0 : xs = []
  · subst h0
    exact ⟨w, run_copy_none (P := P) w T T ty e _ A m cap 0 c hu hs (Nat.min_eq_left (Nat.zero_le _)), by simpa using hw, fun B w0 hb _ => hb⟩
  · obtain ⟨ad, rfl, _, hsrc⟩ := hr h0
    refine ⟨_, run_copy_row (P := P) w T T ty e g 0 m cap ad xs.length c old.toArray te xs hu hs hw hmin.symm hsrc (by simpa using hm) h1, ?_, fun B w0 hb hB => below_setRow hb hB _⟩
    have := setRow_heap w g _ ((old.toArray.toList.take 0 ++ xs ++ old.toArray.toList.drop (0 + xs.length)).toArray) te (0, 0) hw
    unfold Whole
    rw [this]
    simp

theorem own_reads {w : World} {g : Nat} {zs : List Int} (h : Whole w g 5 (c8 (zs ++ List.replicate 5 222)).toArray) : Rds w w.heap.size (some ⟨g, 0, none⟩) (c8 zs) := by
  intro _
  refine ⟨_, rfl, h.lt, fun j u hu => ?_⟩
  have hadd : (⟨g, 0, none⟩ : Addr).add j = ⟨g, j, none⟩ := by unfold Addr.add; split <;> simp_all
  rw [hadd, h.cell j]
  have hj : j < (c8 zs).length := (List.getElem?_eq_some_iff.1 hu).1
  rw [c8_append]
  simp only [List.getElem?_toArray]
  rw [List.getElem?_append_left hj, hu]
theorem Rds.go {w1 w2 : World} {A : Option Addr} {xs : List Value} (hr : Rds w1 w1.heap.size A xs) (hb : Below w1.heap.size w1 w2) : Rds w2 w2.heap.size A xs := (hr.below hb).more hb.size
theorem Whole.go {w1 w2 : World} {g : Nat} {t : TypeId} {cs : Array Value} (h : Whole w1 g t cs) (hb : Below w1.heap.size w1 w2) : Whole w2 g t cs := h.below hb h.lt
theorem belowGo {B : Nat} {w w1 w2 : World} (h : Below B w w1) (hB : B ≤ w.heap.size) (hb : Below w1.heap.size w1 w2) : Below B w w2 := h.trans (hb.mono (Nat.le_trans hB h.size))
theorem Rds.now {w : World} {A : Option Addr} {xs : List Value} (hr : Rds w w.heap.size A xs) (n : Nat) : Rds (w.drewN n) (w.drewN n).heap.size A xs := hr
end Go.Proofs.YtfiebjfdlplpjaaGreatDoor
end

section
/- The walks over the sums of bytes: the program's More and Sum, and the document's: all are the plain sum. No condition but that the bytes can be read. -/
namespace Go.Proofs.YtfiebjfdlplpjaaGreatDoor
open Go.RowKit
set_option linter.unusedVariables false

theorem not_key (s : Nat) (h : s < 4294967296) : bits .xor .u32 IntKind.u32.max (s : Int) = ((com s : Nat) : Int) := by
  rw [show IntKind.u32.max = ((4294967295 : Nat) : Int) by rfl, u32_xor_nat _ _ (by decide) h, com_xor h]

set_option maxHeartbeats 800000 in
theorem more_any (s : Nat) (A : Option Addr) (zs : List Int) (c lim : Nat) (w : World) (hs : s < 4294967296) (hl : zs.length ≤ 9223372036854775807) (hz : Byt zs) (hr : Rds w lim A (c8 zs)) :
    Calls Tryz.prog 63 #[.int .u32 s, .slice A zs.length c] w fun e w' => e = .returned (.int .u32 (mor s zs)) ∧ w' = w := by
  have HZ := Lib.hid hz
  have hsg : IntKind.u32.signed = false := rfl
  have hn := not_key s hs
  have hc := com_lt s
  clear hz
  go_enter Tryz.func63, Tryz.ntmps63
  go_wp2_with (simp only [hn])
  go_loop [0, 11] (fun x i => ∃ (k X : Nat), k ≤ zs.length ∧ i = .int .i64 k ∧ x = .int .u32 X ∧ X = fld (com s) (zs.take k)) (fun _ i => zs.length - (intOf i).toNat)
  case atStart => exact ⟨0, com s, by omega, rfl, rfl, rfl⟩
  case round =>
    obtain ⟨k, X, hk, rfl, rfl, hX⟩ := hrel
    have hXl : X < 4294967296 := by rw [hX]; exact fld_lt (HZ.out.take k) hc
    have HX := Lib.hid hX
    clear hX hn
    by_cases hlt : k < zs.length
    · obtain ⟨ad, rfl, _, hcell⟩ := hr.at_ (c8_get hlt)
      have hb := HZ.out zs[k] (List.getElem_mem hlt)
      have HK := Lib.hid (show fld (com s) (zs.take (k + 1)) = its 8 (X ^^^ (zs[k]).toNat) by rw [List.take_add_one, List.getElem?_eq_getElem hlt]; simp only [Option.toList]; rw [fld_snoc, ← HX.out])
      generalize zs[k] = d at *
      obtain ⟨b, rfl⟩ : ∃ b : Nat, d = b := ⟨d.toNat, by omega⟩
      have hx := u32_xor_nat X b hXl (by omega)
      have hY : X ^^^ b < 4294967296 := xlt hXl (by omega)
      go_wp2_with (simp only [hx])
      go_loop [0, 19] (fun x i => ∃ (j Y : Nat), j ≤ 8 ∧ i = .int .i64 j ∧ x = .int .u32 Y ∧ Y = its j (X ^^^ b)) (fun _ i => 8 - (intOf i).toNat)
      case atStart => exact ⟨0, _, by omega, rfl, rfl, rfl⟩
      case round =>
        obtain ⟨j, Y, hj, rfl, rfl, hY2⟩ := hrel
        have hYl : Y < 4294967296 := by rw [hY2]; exact its_lt _ hY
        have HY := Lib.hid hY2
        clear hY2 hx
        by_cases hj8 : j < 8
        · go_wp2_with fail
          refine (halved_any Y w hYl).mono ?_
          rintro e w1 ⟨rfl, rfl⟩
          go_wp2
          go_round
          case rel => exact ⟨j + 1, _, by omega, by go_num, rfl, by rw [its_next, ← HY.out]⟩
          case measure => simp [intOf]; omega
        · obtain rfl : j = 8 := by omega
          go_wp2
          go_round
          case rel => exact ⟨k + 1, _, by omega, by go_num, rfl, by rw [HK.out, HY.out]; rfl⟩
          case measure => simp [intOf]; omega
    · obtain rfl : k = zs.length := by omega
      have hn := not_key X hXl
      have hM : com X = mor s zs := by rw [HX.out, List.take_length]; rfl
      go_wp2_with (simp only [hn])
      go_ret
      exact ⟨rfl, rfl⟩

theorem sum_any (A : Option Addr) (zs : List Int) (c lim : Nat) (w : World) (hl : zs.length ≤ 9223372036854775807) (hz : Byt zs) (hr : Rds w lim A (c8 zs)) :
    Calls Tryz.prog 62 #[.slice A zs.length c] w fun e w' => e = .returned (.int .u32 (mor 0 zs)) ∧ w' = w := by
  go_enter Tryz.func62, Tryz.ntmps62
  go_wp2_with fail
  refine (more_any 0 A zs c lim w (by decide) hl hz hr).mono ?_
  rintro e w1 ⟨rfl, rfl⟩
  go_wp2
  go_ret
  exact ⟨rfl, rfl⟩

end Go.Proofs.YtfiebjfdlplpjaaGreatDoor
end

section
/- The walks over the frame's put and number: bytes laid down and read, the lowest first. -/
namespace Go.Proofs.YtfiebjfdlplpjaaGreatDoor
open Go.RowKit
set_option linter.unusedVariables false

theorem le_snoc : ∀ (j x : Nat), le (j + 1) x = le j x ++ [((x / 2 ^ (8 * j) % 256 : Nat) : Int)]
  | 0, x => by simp [le]
  | j + 1, x => by
    have h := le_snoc j (x / 256)
    rw [le, h, le, List.cons_append, Nat.div_div_eq_div_mul, show 256 * 2 ^ (8 * j) = 2 ^ (8 * (j + 1)) by rw [show 8 * (j + 1) = 8 + 8 * j by omega, Nat.pow_add]]

theorem lay_byte {L : List Int} {off j : Nat} (h : off + j < L.length) (M : List Int) (hM : M.length = j) (v : Int) :
    (L.take off ++ (M ++ L.drop (off + j))).set (off + j) v = L.take off ++ ((M ++ [v]) ++ L.drop (off + (j + 1))) := by
  have h1 : (L.take off).length = off := by rw [List.length_take]; omega
  rw [List.set_append_right _ _ (by omega), h1, List.set_append_right _ _ (by omega), hM, show off + j - off - j = 0 by omega, List.drop_eq_getElem_cons h, List.append_assoc]
  rfl

set_option maxHeartbeats 800000 in
theorem fput_any (g off n c x : Nat) (L : List Int) (w : World) (hx : x < 4294967296) (hn : n ≤ 4) (hoff : off + n ≤ L.length) (hl : L.length ≤ 281474976710656) (hw : Whole w g 5 (c8 L).toArray) :
    Calls Tryz.prog 61 #[.slice (some ⟨g, off, none⟩) n c, .int .u32 x] w fun e w' => e = .returned (.tuple #[]) ∧ Whole w' g 5 (c8 (L.take off ++ (le n x ++ L.drop (off + n)))).toArray ∧ w.grownBy w' (some g) := by
  go_enter Tryz.func61, Tryz.ntmps61
  go_wp2
  go_loopw [7] (fun i wr => ∃ j : Nat, j ≤ n ∧ i = .int .i64 j ∧ Whole wr g 5 (c8 (L.take off ++ (le j x ++ L.drop (off + j)))).toArray ∧ w.grownBy wr (some g)) (fun i _ => n - (intOf i).toNat)
  case atStart => exact ⟨0, by omega, rfl, by simpa [le] using hw, Only.refl _ _⟩
  case round =>
    obtain ⟨j, hj, rfl, hw1, hg1⟩ := hrel
    by_cases hlt : j < n
    · have hcell : ∃ v, wr.cell? ⟨g, off + j, none⟩ = some v := by
        refine ⟨_, hw1.cell _ |>.trans (List.getElem?_toArray ▸ List.getElem?_eq_getElem (by simp [c8, le_length]; omega))⟩
      obtain ⟨v, hcell⟩ := hcell
      have hf := hw1.frozen (off + j)
      have HW := Lib.hid hw1
      clear hw1
      go_wp2
      go_roundw
      case rel =>
        have hval : ((x : Int) / 2 ^ (8 * j) % 256) = ((x / 2 ^ (8 * j) % 256 : Nat) : Int) := by simp
        refine ⟨j + 1, by omega, by go_num, ?_, ?_⟩
        · have h := HW.out.put (off + j) (.int .u8 ((x / 2 ^ (8 * j) % 256 : Nat) : Int))
          rw [c8_set, lay_byte (by omega) (le j x) (le_length j x), ← le_snoc] at h
          rw [hval]
          exact h
        · exact Only.put hg1 _ _
      case measure => simp [intOf]; omega
    · obtain rfl : j = n := by omega
      go_wp2
      go_end0
      exact ⟨rfl, hw1, hg1⟩


theorem un_append : ∀ (a b : List Int), un (a ++ b) = un a + 256 ^ a.length * un b
  | [], b => by simp [un]
  | z :: r, b => by
    rw [List.cons_append, un, un_append r b, un, List.length_cons, Nat.pow_succ, Nat.mul_add, Nat.mul_comm (256 ^ r.length) 256, Nat.mul_assoc, Nat.add_assoc]

/-- one more byte read -/
theorem num_next {zs : List Int} (hz : Byt zs) {j : Nat} (hj : j < zs.length) (h4 : j < 4) : bits .or .u32 (un (zs.take j) : Nat) (zs[j] * 2 ^ (8 * j) % 4294967296) = (un (zs.take (j + 1)) : Nat) := by
  have hb := hz zs[j] (List.getElem_mem hj)
  have hlen : (zs.take j).length = j := by rw [List.length_take]; omega
  have h1 := un_lt (hz.take j)
  rw [hlen] at h1
  have e : un (zs.take (j + 1)) = un (zs.take j) + 256 ^ j * zs[j].toNat := by
    rw [List.take_add_one, List.getElem?_eq_getElem hj, un_append, hlen]
    rfl
  generalize zs[j] = d at *
  obtain ⟨b, rfl⟩ : ∃ b : Nat, d = b := ⟨d.toNat, by omega⟩
  rw [Int.toNat_natCast] at e
  have hp : (256 : Nat) ^ j = 2 ^ (8 * j) := by rw [Nat.pow_mul]
  have hle : 2 ^ (8 * j) ≤ 2 ^ 24 := Nat.pow_le_pow_right (by decide) (by omega)
  rw [hp] at h1 e
  have hbp : b * 2 ^ (8 * j) ≤ 255 * 2 ^ 24 := Nat.mul_le_mul (by omega) hle
  have hv : ((b : Int) * 2 ^ (8 * j) % 4294967296) = ((2 ^ (8 * j) * b : Nat) : Int) := by
    have e2 : ((b : Int) * 2 ^ (8 * j)) = ((b * 2 ^ (8 * j) : Nat) : Int) := by simp
    rw [e2, Nat.mul_comm (2 ^ (8 * j)) b]
    generalize b * 2 ^ (8 * j) = q at *
    omega
  have hq : 2 ^ (8 * j) * b < 4294967296 := by rw [Nat.mul_comm]; omega
  rw [hv, u32_or_nat _ _ (by omega) hq, e, Nat.or_comm, ← Nat.two_pow_add_eq_or_of_lt h1 b, Nat.add_comm]

set_option maxHeartbeats 800000 in
theorem fnum_any (A : Option Addr) (zs : List Int) (c lim : Nat) (w : World) (hl : zs.length ≤ 4) (hz : Byt zs) (hr : Rds w lim A (c8 zs)) :
    Calls Tryz.prog 131 #[.slice A zs.length c] w fun e w' => e = .returned (.int .u32 (un zs : Nat)) ∧ w' = w := by
  go_enter Tryz.func131, Tryz.ntmps131
  go_wp2
  go_loop [3, 8] (fun x i => ∃ (j : Nat), j ≤ zs.length ∧ i = .int .i64 j ∧ x = .int .u32 (un (zs.take j) : Nat)) (fun _ i => zs.length - (intOf i).toNat)
  case atStart => exact ⟨0, by omega, rfl, by simp [un]⟩
  case round =>
    obtain ⟨j, hj, rfl, rfl⟩ := hrel
    by_cases hlt : j < zs.length
    · obtain ⟨ad, rfl, _, hcell⟩ := hr.at_ (c8_get hlt)
      have hb := hz zs[j] (List.getElem_mem hlt)
      go_wp2
      go_round
      case rel =>
        exact ⟨j + 1, by omega, by go_num, by rw [num_next hz hlt (by omega)]⟩
      case measure => simp [intOf]; omega
    · obtain rfl : j = zs.length := by omega
      go_wp2
      go_ret
      exact ⟨rfl, rfl⟩
theorem fnum_len (A : Option Addr) (zs : List Int) (n c lim : Nat) (w : World) (hn : zs.length = n) (hl : n ≤ 4) (hz : Byt zs) (hr : Rds w lim A (c8 zs)) :
    Calls Tryz.prog 131 #[.slice A n c] w fun e w' => e = .returned (.int .u32 (un zs : Nat)) ∧ w' = w := by
  subst hn
  exact fnum_any A zs c lim w hl hz hr
end Go.Proofs.YtfiebjfdlplpjaaGreatDoor
end

section
/- The walk over the frame's measured: how many bytes the first frame has, or why there is none. -/
namespace Go.Proofs.YtfiebjfdlplpjaaGreatDoor
open Go.RowKit
set_option linter.unusedVariables false

theorem add_ne {ad : Addr} {k : Nat} (h : k ≠ 0) : ad.add k = ⟨ad.block, ad.off + k, none⟩ := by unfold Addr.add; rw [if_neg h]
theorem c8_take (zs : List Int) (k : Nat) : c8 (zs.take k) = (c8 zs).take k := by simp [c8]
theorem c8_drop (zs : List Int) (k : Nat) : c8 (zs.drop k) = (c8 zs).drop k := by simp [c8]
theorem Rds.cut {w : World} {lim : Nat} {ad : Addr} {zs : List Int} (h : Rds w lim (some ad) (c8 zs)) (k m : Nat) : Rds w lim (some (ad.add k)) (c8 ((zs.drop k).take m)) := by
  have h1 := h.drop k ((c8 zs).length + k + 1) (by omega)
  rw [if_neg (by omega), ← c8_drop] at h1
  have h2 := h1.take m
  rw [← c8_take] at h2
  exact h2
theorem Rds.cut0 {w : World} {lim : Nat} {ad : Addr} {zs : List Int} (h : Rds w lim (some ad) (c8 zs)) {k : Nat} (m : Nat) (hk : k ≠ 0) :
    Rds w lim (if m = 0 then some ad else some ⟨ad.block, ad.off + k, none⟩) (c8 ((zs.drop k).take m)) := by
  by_cases hm : m = 0
  · subst hm
    rw [List.take_zero]
    exact Rds.nil_
  · rw [if_neg hm, ← add_ne hk]
    exact h.cut k m

set_option maxHeartbeats 1600000 in
theorem measured_any (A : Option Addr) (zs : List Int) (c lim : Nat) (w : World) (hl : zs.length ≤ 140737492549632) (hc : zs.length ≤ c) (hz : Byt zs) (hr : Rds w lim A (c8 zs)) :
    Calls Tryz.prog 109 #[.slice A zs.length c] w fun e w' => e = .returned (.tuple #[.int .i64 ((mea zs).1 : Nat), .int .i64 ((mea zs).2 : Nat)]) ∧ ∃ n, w' = w.drewN n := by
  by_cases h8 : zs.length < 8
  · rw [show mea zs = (0, 4) by unfold mea; rw [if_pos h8]]
    have h8' : (zs.length : Int) < 8 := by omega
    go_enter Tryz.func109, Tryz.ntmps109
    go_wp2
    go_ret2
    exact ⟨rfl, 0, rfl⟩
  · have h8' : ¬ (zs.length : Int) < 8 := by omega
    obtain ⟨ad, rfl, _, _⟩ := hr.at_ (c8_get (show 0 < zs.length by omega))
    have hm : mea zs = if un ((zs.drop 4).take 4) ≠ hs zs ∨ 1048576 < sz zs then (0, 5) else
        if zs.length < sz zs + 12 then (0, 4) else
        if un ((zs.drop (8 + sz zs)).take 4) ≠ mor (hs zs) ((zs.drop 8).take (sz zs)) then (0, 5) else (sz zs + 12, 0) := by
      conv => lhs; unfold mea
      rw [if_neg h8]
    have hr0 : Rds w lim (some ad) (c8 (zs.take 4)) := by rw [c8_take]; exact hr.take 4
    have hr1 := hr.cut 1 3
    have hr4 := hr.cut 4 4
    have hS := sum_any (some ad) (zs.take 4) 4 lim w (by rw [List.length_take]; omega) (hz.take 4) hr0
    rw [show (zs.take 4).length = 4 by rw [List.length_take]; omega] at hS
    have hN := fnum_len (some (ad.add 1)) ((zs.drop 1).take 3) 3 3 lim w (by rw [List.length_take, List.length_drop]; omega) (by omega) ((hz.drop 1).take 3) hr1
    have hM := fnum_len (some (ad.add 4)) ((zs.drop 4).take 4) 4 4 lim w (by rw [List.length_take, List.length_drop]; omega) (by omega) ((hz.drop 4).take 4) hr4
    rw [add_ne (by decide)] at hN hM
    have hsl : sz zs < 16777216 := by
      have := un_lt ((hz.drop 1).take 3)
      rw [show ((zs.drop 1).take 3).length = 3 by rw [List.length_take, List.length_drop]; omega] at this
      exact this
    have hhl : hs zs < 4294967296 := mor_lt _ _
    have hel : un ((zs.drop 4).take 4) < 4294967296 := by
      have := un_lt ((hz.drop 4).take 4)
      rw [show ((zs.drop 4).take 4).length = 4 by rw [List.length_take, List.length_drop]; omega] at this
      exact this
    change Calls _ _ _ _ fun e w' => e = .returned (.int .u32 (hs zs : Nat)) ∧ w' = w at hS
    change Calls _ _ _ _ fun e w' => e = .returned (.int .u32 (sz zs : Nat)) ∧ w' = w at hN
    rw [hm]
    clear hm
    generalize hSv : hs zs = S at *
    generalize hNv : sz zs = N at *
    generalize hMv : un ((zs.drop 4).take 4) = M at *
    by_cases h5 : M ≠ S ∨ 1048576 < N
    · rw [if_pos h5]
      rcases (show M ≠ S ∨ (M = S ∧ 1048576 < N) by omega) with h1 | ⟨rfl, h2⟩
      · have hb : ((M : Int) != (S : Int)) = true := by simp; omega
        clear h5
        go_enter Tryz.func109, Tryz.ntmps109
        go_wp2_with fail
        refine hS.mono ?_
        rintro e w1 ⟨rfl, rfl⟩
        go_wp2_with fail
        refine hN.mono ?_
        rintro e w2 ⟨rfl, rfl⟩
        go_wp2_with fail
        refine hM.mono ?_
        rintro e w3 ⟨rfl, rfl⟩
        go_wp2
        go_ret2
        exact ⟨rfl, 0, rfl⟩
      · have hb : ((M : Int) != (M : Int)) = false := by simp
        have h2' : (1048576 : Int) < (N : Int) := by omega
        clear h5
        go_enter Tryz.func109, Tryz.ntmps109
        go_wp2_with fail
        refine hS.mono ?_
        rintro e w1 ⟨rfl, rfl⟩
        go_wp2_with fail
        refine hN.mono ?_
        rintro e w2 ⟨rfl, rfl⟩
        go_wp2_with fail
        refine hM.mono ?_
        rintro e w3 ⟨rfl, rfl⟩
        go_wp2
        go_ret2
        exact ⟨rfl, 0, rfl⟩
    · rw [if_neg h5]
      obtain rfl : M = S := by omega
      have h2 : N ≤ 1048576 := by omega
      have h2' : ¬ (1048576 : Int) < (N : Int) := by omega
      have hb : ((M : Int) != (M : Int)) = false := by simp
      have HS := Lib.hid hSv
      have HN := Lib.hid hNv
      have HZ := Lib.hid hz
      clear h5 hSv hNv hMv hz
      by_cases h6 : zs.length < N + 12
      · rw [if_pos h6]
        have h6' : (zs.length : Int) < 8 + (N : Int) + 4 := by omega
        go_enter Tryz.func109, Tryz.ntmps109
        go_wp2_with fail
        refine hS.mono ?_
        rintro e w1 ⟨rfl, rfl⟩
        go_wp2_with fail
        refine hN.mono ?_
        rintro e w2 ⟨rfl, rfl⟩
        go_wp2_with fail
        refine hM.mono ?_
        rintro e w3 ⟨rfl, rfl⟩
        go_wp2
        go_ret2
        exact ⟨rfl, 0, rfl⟩
      · rw [if_neg h6]
        have h6' : ¬ (zs.length : Int) < 8 + (N : Int) + 4 := by omega
        have hrA := hr.cut (8 + N) 4
        have hrB := hr.cut0 N (show 8 ≠ 0 by decide)
        have hE := fun k => fnum_len _ ((zs.drop (8 + N)).take 4) 4 4 lim (w.drewN k) (by rw [List.length_take, List.length_drop]; omega) (by omega) ((HZ.out.drop _).take 4) (hrA.drewN k)
        have hlB : ((zs.drop 8).take N).length = N := by rw [List.length_take, List.length_drop]; omega
        have hF := fun k => more_any M _ ((zs.drop 8).take N) N lim (w.drewN k) hhl (by omega) ((HZ.out.drop _).take N) (hrB.drewN k)
        rw [hlB] at hF
        have hgl := mor_lt M ((zs.drop 8).take N)
        have hq1 : 0 ≤ 8 + (N : Int) + 4 ∧ 8 + (N : Int) + 4 ≤ (c : Int) := by omega
        have hq2 : max (8 + (N : Int) + 4) 0 = 8 + (N : Int) + 4 := by omega
        have hq3 : (8 + (N : Int) + 4).toNat = 8 + N + 4 := by omega
        have hq4 : (8 + (N : Int)).toNat = 8 + N := by omega
        have hq5 : 0 ≤ 8 + (N : Int) ∧ 8 + (N : Int) ≤ 8 + (N : Int) + 4 := by omega
        have hq6 : (8 : Int) ≤ 8 + (N : Int) := by omega
        have hq7 : 0 ≤ 8 + (N : Int) ∧ 8 + (N : Int) ≤ (c : Int) := by omega
        have hq8 : max (8 + (N : Int)) 0 = 8 + (N : Int) := by omega
        generalize mor M ((zs.drop 8).take N) = G at *
        generalize un ((zs.drop (8 + N)).take 4) = E at *
        by_cases h7 : E = G
        · subst h7
          have hb2 : ((E : Int) != (E : Int)) = false := by simp
          rw [if_neg (by simp)]
          go_enter Tryz.func109, Tryz.ntmps109
          go_wp2_with fail
          refine hS.mono ?_
          rintro e w1 ⟨rfl, rfl⟩
          go_wp2_with fail
          refine hN.mono ?_
          rintro e w2 ⟨rfl, rfl⟩
          go_wp2_with fail
          refine hM.mono ?_
          rintro e w3 ⟨rfl, rfl⟩
          go_wp2
          go_quiet (first | with_reducible exact Calls.quiet_of_same (hE _) | with_reducible exact Calls.quiet_of_same (hF _))
          go_wp2
          all_goals go_ret2
          all_goals exact ⟨by simp <;> omega, _, rfl⟩
        · have hb2 : ((E : Int) != (G : Int)) = true := by simp; omega
          rw [if_pos h7]
          go_enter Tryz.func109, Tryz.ntmps109
          go_wp2_with fail
          refine hS.mono ?_
          rintro e w1 ⟨rfl, rfl⟩
          go_wp2_with fail
          refine hN.mono ?_
          rintro e w2 ⟨rfl, rfl⟩
          go_wp2_with fail
          refine hM.mono ?_
          rintro e w3 ⟨rfl, rfl⟩
          go_wp2
          go_quiet (first | with_reducible exact Calls.quiet_of_same (hE _) | with_reducible exact Calls.quiet_of_same (hF _))
          go_wp2
          all_goals go_ret2
          all_goals exact ⟨rfl, _, rfl⟩

end Go.Proofs.YtfiebjfdlplpjaaGreatDoor
end

section
/- The walks over bytes.Clone and the frame's Read. -/
namespace Go.Proofs.YtfiebjfdlplpjaaGreatDoor
open Go.RowKit
set_option linter.unusedVariables false

set_option maxHeartbeats 800000 in
theorem clone_any (A : Option Addr) (zs : List Int) (n c : Nat) (w : World) (hn : zs.length = n) (hA : A ≠ none) (hl : n ≤ 140737488351232) (hr : Rds w w.heap.size A (c8 zs)) :
    Calls Tryz.prog 38 #[.slice A n c] w fun e w' => ∃ A' c', e = .returned (.slice A' n c') ∧ w'.ownsRow w.heap.size 5 1 (.slice A' n c') n (c8 zs) ∧ Below w.heap.size w w' := by
  subst hn
  obtain ⟨ad, rfl⟩ := Option.ne_none_iff_exists'.1 hA
  obtain ⟨i0, hi, hz0, hz1, hz2⟩ := info_parts info8
  have hown1 := World.ownsRow_made (base := w.heap.size) (e := 5) (size := 1) w #[] 0 (Nat.le_refl _) (by unfold maxLen; omega) rfl
  have hr1 := hr.alloc (Nat.le_refl _) (.cells #[] 5)
  have heq := fun w => Lib.run_eql_slice_nil (P := Tryz.prog) w 33 5 (some ad) zs.length c 0 0 Tryz.underlying33
  clear hA
  go_enter Tryz.func38, Tryz.ntmps38
  go_wp2_with (at_builtin; go_loud (refine app_many (w.alloc (.cells #[] 5)) rfl (.tmp 5) (.tmp 6) 33 rfl w.heap.size 5 i0 (.int .u8 0) 1 Tryz.underlying33 hi hz0 hz1 hz2 rfl _ 0 [] rfl hown1 (some ad) zs.length c w.heap.size (c8 zs) rfl (c8_length zs).symm hr1 (fun h => by cases h) (c8_one zs) (by unfold maxLen; omega) (by omega) (by simp) ?_))
  intro v' w' hown' hb'
  obtain ⟨A', c', rfl, _⟩ := own_open hown'
  go_wp2
  go_ret
  exact ⟨A', c', rfl, hown', ((Below.refl w.heap.size w).alloc (Nat.le_refl _) (.cells #[] 5)).trans hb'⟩

theorem own_other {w w' : World} {B B' : Nat} {e : TypeId} {k n : Nat} {v : Value} {xs : List Value} (h : w.ownsRow B e k v n xs) (hB : B' ≤ B) (hk : ∀ g, B ≤ g → w'.heap[g]? = w.heap[g]?) : w'.ownsRow B' e k v n xs := by
  refine ⟨h.1, ?_⟩
  rcases h.2 with h2 | ⟨g, cap, cur, h1, h2, h3, h4⟩
  · exact .inl h2
  · exact .inr ⟨g, cap, cur, h1, Nat.le_trans hB h2, (hk g h2).trans h3, h4⟩

theorem far_two (w : World) {g g' : Nat} (h : g' ≠ g) (u u' : Value) : ((w.setCell ⟨g, 0, none⟩ u).setCell ⟨g, 1, none⟩ u').heap[g']? = w.heap[g']? :=
  (Below.heap_setCell _ _ _ _ h).trans (Below.heap_setCell _ _ _ _ h)

theorem put_two {w : World} {g : Nat} {t : TypeId} {u u' : Value} (h : ∃ x y, Whole w g t #[x, y]) :
    ((w.setCell ⟨g, 0, none⟩ u).setCell ⟨g, 1, none⟩ u').cell? ⟨g, 0, none⟩ = some u ∧ ((w.setCell ⟨g, 0, none⟩ u).setCell ⟨g, 1, none⟩ u').cell? ⟨g, 1, none⟩ = some u' := by
  obtain ⟨x, y, hw⟩ := h
  have h2 : Whole ((w.setCell ⟨g, 0, none⟩ u).setCell ⟨g, 1, none⟩ u') g t #[u, u'] := by simpa using (hw.put 0 u).put 1 u'
  exact ⟨h2.cell 0, h2.cell 1⟩

/-- what the region of Read keeps to: the first byte, the result's variable, and all that was there -/
theorem held_drew {a : Addr} {v : Value} {B g : Nat} {t : TypeId} {w w' : World} (h : w'.cell? a = some v ∧ (∃ x y, Whole w' g t #[x, y]) ∧ Below B w w') : w'.drew.cell? a = some v ∧ (∃ x y, Whole w'.drew g t #[x, y]) ∧ Below B w w'.drew := ⟨h.1, h.2.1, h.2.2.drew⟩
theorem held_below {a : Addr} {v : Value} {B g : Nat} {t : TypeId} {w w' w2 : World} (h : w'.cell? a = some v ∧ (∃ x y, Whole w' g t #[x, y]) ∧ Below B w w') (hB : B ≤ w.heap.size) (hb : Below w'.heap.size w' w2) : w2.cell? a = some v ∧ (∃ x y, Whole w2 g t #[x, y]) ∧ Below B w w2 :=
  ⟨by rw [hb.cell (World.block_lt_of_cell? _ _ h.1)]; exact h.1, by obtain ⟨x, y, hw⟩ := h.2.1; exact ⟨x, y, hw.go hb⟩, h.2.2.trans (hb.mono (Nat.le_trans hB h.2.2.size))⟩
theorem held_put {a : Addr} {v u u' : Value} {B g : Nat} {t : TypeId} {w w' : World} (h : w'.cell? a = some v ∧ (∃ x y, Whole w' g t #[x, y]) ∧ Below B w w') (ha : a.block < g) (hg : B ≤ g) :
    ((w'.setCell ⟨g, 0, none⟩ u).setCell ⟨g, 1, none⟩ u').cell? a = some v ∧ (∃ x y, Whole ((w'.setCell ⟨g, 0, none⟩ u).setCell ⟨g, 1, none⟩ u') g t #[x, y]) ∧ Below B w ((w'.setCell ⟨g, 0, none⟩ u).setCell ⟨g, 1, none⟩ u') := by
  obtain ⟨h1, ⟨x, y, hw⟩, h2⟩ := h
  have hb : Below g w' ((w'.setCell ⟨g, 0, none⟩ u).setCell ⟨g, 1, none⟩ u') := ((Below.refl g w').setCell (p := ⟨g, 0, none⟩) (Nat.le_refl g) u).setCell (p := ⟨g, 1, none⟩) (Nat.le_refl g) u'
  exact ⟨by rw [hb.cell ha]; exact h1, ⟨u, u', by simpa using (hw.put 0 u).put 1 u'⟩, (h2.setCell (p := ⟨g, 0, none⟩) hg u).setCell (p := ⟨g, 1, none⟩) hg u'⟩
theorem held_facts {a : Addr} {v : Value} {B g : Nat} {t : TypeId} {w w' w2 : World} (h : w'.cell? a = some v ∧ (∃ x y, Whole w' g t #[x, y]) ∧ Below B w w') (hB : B ≤ w.heap.size) (hb : Below w'.heap.size w' w2) :
    w2.frozen? ⟨g, 0, none⟩ = false ∧ w2.frozen? ⟨g, 1, none⟩ = false ∧ ∃ x y, w2.cell? ⟨g, 0, none⟩ = some x ∧ w2.cell? ⟨g, 1, none⟩ = some y := by
  obtain ⟨x, y, h2⟩ := (held_below h hB hb).2.1
  exact ⟨h2.frozen 0, h2.frozen 1, x, y, h2.cell 0, h2.cell 1⟩
theorem rds_held {a : Addr} {v : Value} {g : Nat} {t : TypeId} {w w' : World} {A : Option Addr} {xs : List Value} (hr : Rds w w.heap.size A xs) (h : w'.cell? a = some v ∧ (∃ x y, Whole w' g t #[x, y]) ∧ Below w.heap.size w w') : Rds w' w'.heap.size A xs := (hr.below h.2.2).more h.2.2.size

/-- what Read tells of bytes -/
def frd (b : List Int) : Fr := if (mea b).2 = 0 then fra b else ⟨0, []⟩

set_option maxHeartbeats 1600000 in
theorem fread_any (A : Option Addr) (zs : List Int) (c : Nat) (w : World) (hl : zs.length ≤ 140737492549632) (hc : zs.length ≤ c) (hz : Byt zs) (hr : Rds w w.heap.size A (c8 zs)) :
    Calls Tryz.prog 94 #[.slice A zs.length c] w fun e w' => ∃ A' c', e = .returned (.tuple #[.agg #[.int .u8 (frd zs).k, .slice A' (frd zs).body.length c'], .int .i64 ((mea zs).1 : Nat), .int .i64 ((mea zs).2 : Nat)]) ∧
      w'.ownsRow w.heap.size 5 1 (.slice A' (frd zs).body.length c') (frd zs).body.length (c8 (frd zs).body) ∧ Below w.heap.size w w' := by
  have hM := measured_any A zs c w.heap.size (w.alloc (.cells #[.int .u8 0, .slice none 0 0] 68)) hl hc hz (hr.alloc (Nat.le_refl _) _)
  by_cases h0 : (mea zs).2 = 0
  · obtain ⟨hn12, hnl⟩ := mea_le h0
    have hnm : (mea zs).1 ≤ 1048588 := by have := mea_ok h0; omega
    rw [show frd zs = fra zs from if_pos h0]
    unfold fra
    rw [h0] at hM ⊢
    have hp : 0 < zs.length := by omega
    obtain ⟨ad, rfl, hadl, hc0⟩ := hr.at_ (c8_get hp)
    have e0 : ad.add 0 = ad := rfl
    rw [e0] at hc0
    rw [show zs.headD 0 = zs[0] by cases zs with | nil => simp at hp | cons z r => rfl]
    generalize zs[0] = k at *
    generalize (mea zs).1 = n at *
    have hr8 := hr.cut0 (n - 12) (show 8 ≠ 0 by decide)
    have hlen : ((zs.drop 8).take (n - 12)).length = n - 12 := by rw [List.length_take, List.length_drop]; omega
    simp only [hlen]
    generalize (zs.drop 8).take (n - 12) = body at *
    have hq1 : 0 ≤ (n : Int) - 4 ∧ (n : Int) - 4 ≤ (c : Int) := by omega
    have hq2 : max ((n : Int) - 4) 0 = (n : Int) - 4 := by omega
    have hq3 : ((n : Int) - 4).toNat = n - 4 := by omega
    have hq4 : (8 : Int) ≤ (n : Int) - 4 := by omega
    have hq5 : n - 4 - 8 = n - 12 := by omega
    clear e0 h0
    by_cases hm : n ≤ 12
    · rw [if_pos (by omega)] at hr8
      obtain rfl : n = 12 := by omega
      clear hq1 hq2 hq3 hq4 hq5
      have hc8 : (8 : Int) ≤ (c : Int) := by omega
      have hcl := fun w1 (h : Rds w1 w1.heap.size (some ad) (c8 body)) => clone_any _ body 0 0 w1 hlen (by simp) (by omega) h
      have HM := Lib.hid hM
      have HZ := Lib.hid hz
      clear hM hz hlen hl
      go_enter Tryz.func94, Tryz.ntmps94
      go_wp2_with fail
      refine HM.out.mono ?_
      rintro e w1 ⟨rfl, n1, rfl⟩
      have hb1 : Below w.heap.size w (w.alloc (.cells #[.int .u8 0, .slice none 0 0] 68)) := (Below.refl _ _).alloc (Nat.le_refl _) _
      have hw1 := Whole.new w 68 #[.int .u8 0, .slice none 0 0]
      have hB := Nat.le_refl w.heap.size
      have hS0 : ((w.alloc (.cells #[.int .u8 0, .slice none 0 0] 68)).drewN n1).cell? ad = some (.int .u8 k) ∧ (∃ x y, Whole ((w.alloc (.cells #[.int .u8 0, .slice none 0 0] 68)).drewN n1) w.heap.size 68 #[x, y]) ∧ Below w.heap.size w ((w.alloc (.cells #[.int .u8 0, .slice none 0 0] 68)).drewN n1) :=
        ⟨(hb1.cell hadl).trans hc0, ⟨_, _, hw1⟩, ⟨hb1.os, hb1.tape, hb1.output, hb1.size, hb1.block⟩⟩
      go_wp2_with fail
      generalize (w.alloc (.cells #[.int .u8 0, .slice none 0 0] 68)).drewN n1 = w1 at *
      clear hb1 hw1 HM
      go_region_held3 (fun w' => w'.cell? ad = some (.int .u8 k) ∧ (∃ x y, Whole w' w.heap.size 68 #[x, y]) ∧ Below w.heap.size w w')
        (first | assumption | exact held_drew (by assumption) | exact held_below (by assumption) (by assumption) (by assumption) | exact held_put (by assumption) hadl hB)
        (first | (go_at_call 38; refine (hcl _ (rds_held hr8 (by assumption))).mono ?_; rintro e w5 ⟨A5, c5, rfl, hown, hb5⟩; obtain ⟨hf0, hf1, x0, x1, hg0, hg1⟩ := held_facts (by assumption) hB hb5))
      have hsz : w.heap.size < w1.heap.size := by
        obtain ⟨x, y, hx⟩ := hS0.2.1
        exact hx.lt
      have hfin := own_other hown (w' := (w5.setCell ⟨w.heap.size, 0, none⟩ (.int .u8 k)).setCell ⟨w.heap.size, 1, none⟩ (.slice A5 0 c5)) (Nat.le_of_lt hsz) (fun g hg => far_two w5 (show g ≠ w.heap.size from fun e => Nat.lt_irrefl g (Nat.lt_of_lt_of_le (by rw [e]; exact hsz) hg)) _ _)
      have hbb := (by assumption : _ ∧ _ ∧ Below _ _ _).2.2
      have hwh := (held_below (held_drew hS0) hB hb5).2.1
      have HF := Lib.hid hfin
      have HBB := Lib.hid hbb
      clear hfin hbb hS0 hb5 hown hf0 hf1 hg0 hg1
      obtain ⟨hx0, hx1⟩ := put_two (u := .int .u8 k) (u' := .slice A5 0 c5) hwh
      generalize (w5.setCell ⟨w.heap.size, 0, none⟩ (.int .u8 k)).setCell ⟨w.heap.size, 1, none⟩ (.slice A5 0 c5) = w6 at *
      go_wp2
      (try simp only [Exit.inBlock, Exit.then])
      refine bodyPost_ret (by simp [results, Tryz.results94, go_sem, hx0, hx1]; try rfl) rfl ?_
      exact ⟨A5, c5, rfl, HF.out, HBB.out⟩
    · rw [if_neg (by omega)] at hr8
      have hq6 : ¬ n - 4 = 8 := by omega
      have hq7 : ¬ n = 12 := by omega
      have hq8 : ¬ (n : Int) - 4 = 8 := by omega
      have hcl := fun w1 (h : Rds w1 w1.heap.size (some ⟨ad.block, ad.off + 8, none⟩) (c8 body)) => clone_any _ body (n - 12) (n - 12) w1 hlen (by simp) (by omega) h
      have HM := Lib.hid hM
      have HZ := Lib.hid hz
      clear hM hz hlen hl
      go_enter Tryz.func94, Tryz.ntmps94
      go_wp2_with fail
      refine HM.out.mono ?_
      rintro e w1 ⟨rfl, n1, rfl⟩
      have hb1 : Below w.heap.size w (w.alloc (.cells #[.int .u8 0, .slice none 0 0] 68)) := (Below.refl _ _).alloc (Nat.le_refl _) _
      have hw1 := Whole.new w 68 #[.int .u8 0, .slice none 0 0]
      have hB := Nat.le_refl w.heap.size
      have hS0 : ((w.alloc (.cells #[.int .u8 0, .slice none 0 0] 68)).drewN n1).cell? ad = some (.int .u8 k) ∧ (∃ x y, Whole ((w.alloc (.cells #[.int .u8 0, .slice none 0 0] 68)).drewN n1) w.heap.size 68 #[x, y]) ∧ Below w.heap.size w ((w.alloc (.cells #[.int .u8 0, .slice none 0 0] 68)).drewN n1) :=
        ⟨(hb1.cell hadl).trans hc0, ⟨_, _, hw1⟩, ⟨hb1.os, hb1.tape, hb1.output, hb1.size, hb1.block⟩⟩
      go_wp2_with fail
      generalize (w.alloc (.cells #[.int .u8 0, .slice none 0 0] 68)).drewN n1 = w1 at *
      clear hb1 hw1 HM
      go_region_held3 (fun w' => w'.cell? ad = some (.int .u8 k) ∧ (∃ x y, Whole w' w.heap.size 68 #[x, y]) ∧ Below w.heap.size w w')
        (first | assumption | exact held_drew (by assumption) | exact held_below (by assumption) (by assumption) (by assumption) | exact held_put (by assumption) hadl hB)
        (first | (go_at_call 38; refine (hcl _ (rds_held hr8 (by assumption))).mono ?_; rintro e w5 ⟨A5, c5, rfl, hown, hb5⟩; obtain ⟨hf0, hf1, x0, x1, hg0, hg1⟩ := held_facts (by assumption) hB hb5))
      have hsz : w.heap.size < w1.heap.size := by
        obtain ⟨x, y, hx⟩ := hS0.2.1
        exact hx.lt
      have hfin := own_other hown (w' := (w5.setCell ⟨w.heap.size, 0, none⟩ (.int .u8 k)).setCell ⟨w.heap.size, 1, none⟩ (.slice A5 (n - 12) c5)) (Nat.le_of_lt hsz) (fun g hg => far_two w5 (show g ≠ w.heap.size from fun e => Nat.lt_irrefl g (Nat.lt_of_lt_of_le (by rw [e]; exact hsz) hg)) _ _)
      have hbb := (by assumption : _ ∧ _ ∧ Below _ _ _).2.2
      have hwh := (held_below (held_drew hS0) hB hb5).2.1
      have HF := Lib.hid hfin
      have HBB := Lib.hid hbb
      clear hfin hbb hS0 hb5 hown hf0 hf1 hg0 hg1
      obtain ⟨hx0, hx1⟩ := put_two (u := .int .u8 k) (u' := .slice A5 (n - 12) c5) hwh
      generalize (w5.setCell ⟨w.heap.size, 0, none⟩ (.int .u8 k)).setCell ⟨w.heap.size, 1, none⟩ (.slice A5 (n - 12) c5) = w6 at *
      go_wp2
      (try simp only [Exit.inBlock, Exit.then])
      refine bodyPost_ret (by simp [results, Tryz.results94, go_sem, hx0, hx1]; try rfl) rfl ?_
      exact ⟨A5, c5, rfl, HF.out, HBB.out⟩
  · have hn := mea_err h0
    rw [show frd zs = ⟨0, []⟩ from if_neg h0]
    generalize mea zs = M at *
    obtain ⟨n, e⟩ := M
    simp only [] at *
    subst hn
    have h0' : ((e : Int) != 0) = true := by simp; omega
    have hb1 : Below w.heap.size w ((w.alloc (.cells #[.int .u8 0, .slice none 0 0] 68))) := (Below.refl _ _).alloc (Nat.le_refl _) _
    go_enter Tryz.func94, Tryz.ntmps94
    go_wp2_with fail
    refine hM.mono ?_
    rintro e w1 ⟨rfl, n1, rfl⟩
    go_wp2
    go_returns
    refine ⟨none, 0, rfl, ⟨rfl, .inl ⟨rfl, rfl⟩⟩, ?_⟩
    have hb2 : Below w.heap.size w ((w.alloc (.cells #[.int .u8 0, .slice none 0 0] 68)).drewN n1) := ⟨hb1.os, hb1.tape, hb1.output, hb1.size, hb1.block⟩
    exact (hb2.setCell (p := ⟨w.heap.size, 0, none⟩) (Nat.le_refl w.heap.size) _).setCell (p := ⟨w.heap.size, 1, none⟩) (Nat.le_refl w.heap.size) _

end Go.Proofs.YtfiebjfdlplpjaaGreatDoor
end
