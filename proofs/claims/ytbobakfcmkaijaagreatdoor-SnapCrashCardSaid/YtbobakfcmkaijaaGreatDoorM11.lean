/- Several texts, each a section: JDk, Put, Read, Kit, CMore, FPut, FMea. -/
import Derived.Test.YtbobakfcmkaijaaGreatDoorM10
import Derived.Test.YtbobakfcmkaijaaGreatDoorM06
import Derived.Test.YtbobakfcmkaijaaGreatDoorRows
import Derived.Test.YtbobakfcmkaijaaGreatDoorM01
import Derived.Outline
import Derived.BigQuiet
import Derived.Deep.QuietTactic
import Derived.Laws.CopyOwn
import Derived.Laws.MakeOwn
import Derived.Test.YtbobakfcmkaijaaGreatDoorM07
import Derived.Laws.BitsAllLaws
section
/- A journal and its disk side by side; a step of the journal's. -/
namespace Go.Proofs.YtbobakfcmkaijaaGreatDoor
open Go.RowKit
set_option linter.unusedVariables false

structure JD (w : World) (S T : Nat → Prop) (j d : Nat) (s : ByteArray) (D : Dsk) (J : Jn) : Prop where
  dk : Dk 0 w S d D
  jo : Jo w T j d s J
  dis : ∀ k, T k → ¬ S k
  s0 : ¬ S 0
  t0 : ¬ T 0
  pow : Pow w
  nm : okJ s.data.toList = true

/-- what a call of a journal's leaves -/
structure TurnJ (S T S' T' : Nat → Prop) (w w' : World) : Prop where
  outs : Outs (fun k => S k ∨ T k) w w'
  ns : ∀ k, S' k → S k ∨ w.heap.size ≤ k
  nt : ∀ k, T' k → T k ∨ w.heap.size ≤ k

section
variable {w w' w2 : World} {S T S' T' S2 T2 : Nat → Prop} {j d : Nat} {s : ByteArray} {D D' : Dsk} {J J' : Jn}
theorem TurnJ.refl (S T : Nat → Prop) (w : World) : TurnJ S T S T w w := ⟨Outs.refl _ w, fun _ h => .inl h, fun _ h => .inl h⟩
theorem TurnJ.below (h : Below w.heap.size w w') : TurnJ S T S T w w' := ⟨Outs.of h, fun _ h => .inl h, fun _ h => .inl h⟩
theorem TurnJ.trans (h : TurnJ S T S' T' w w') (k : TurnJ S' T' S2 T2 w' w2) : TurnJ S T S2 T2 w w2 :=
  ⟨h.outs.trans k.outs (fun i hi => by
      rcases hi with hi | hi
      · rcases h.ns i hi with e | e
        · exact .inl (.inl e)
        · exact .inr e
      · rcases h.nt i hi with e | e
        · exact .inl (.inr e)
        · exact .inr e),
    fun i hi => by
      rcases k.ns i hi with e | e
      · exact h.ns i e
      · exact .inr (Nat.le_trans h.outs.size e),
    fun i hi => by
      rcases k.nt i hi with e | e
      · exact h.nt i e
      · exact .inr (Nat.le_trans h.outs.size e)⟩
theorem JD.go (h : JD w S T j d s D J) (hb : Below w.heap.size w w') : JD w' S T j d s D J :=
  ⟨h.dk.go hb, h.jo.go hb, h.dis, h.s0, h.t0, h.pow.go hb, h.nm⟩
/-- the disk turns -/
theorem JD.disk (h : JD w S T j d s D J) (hk : Dk 0 w' S' d D') (ht : Turn S S' w w') : JD w' S' T j d s D' J ∧ TurnJ S T S' T w w' := by
  have hlt := h.jo.lt
  have hp := h.pow.lt
  refine ⟨⟨hk, h.jo.outs ht.outs h.dis, fun k hk hs => ?_, fun h0 => ?_, h.t0, h.pow.outs ht.outs h.s0, h.nm⟩, ⟨ht.outs.mono fun k hk => .inl hk, ht.new, fun k hk => .inl hk⟩⟩
  · rcases ht.new k hs with e | e
    · exact h.dis k hk e
    · have := hlt k hk; omega
  · rcases ht.new _ h0 with e | e
    · exact h.s0 e
    · omega
/-- the journal turns -/
theorem JD.jour (h : JD w S T j d s D J) (hk : Jo w' T' j d s J') (ho : Outs T w w') (hn : ∀ k, T' k → T k ∨ (w.heap.size ≤ k)) : JD w' S T' j d s D J' ∧ TurnJ S T S T' w w' := by
  have hlt := h.dk.lt
  have hp := h.pow.lt
  refine ⟨⟨h.dk.outs ho (fun k hs ht => h.dis k ht hs), hk, fun k ht hs => ?_, h.s0, fun h0 => ?_, h.pow.outs ho h.t0, h.nm⟩, ⟨ho.mono fun k hk => .inr hk, fun k hk => .inl hk, hn⟩⟩
  · rcases hn k ht with e | e
    · exact h.dis k e hs
    · have := hlt k hs; omega
  · rcases hn _ h0 with e | e
    · exact h.t0 e
    · omega

theorem lst_strOf (l : Nm) : lst (strOf l) = l := by simp [lst, strOf]
theorem strOf_size (l : Nm) : (strOf l).size = l.length := by simp [strOf, ByteArray.size]
theorem nm_size (h : okJ s.data.toList = true) : s.size ≤ 8 := by
  have h1 := (okJ_len h).2
  have h2 : s.size = s.data.toList.length := by simp
  omega
theorem seg_size (h : okJ s.data.toList = true) (n : Nat) : (strOf (segN s.data.toList n)).size ≤ 21 := by
  have := nm_size h
  rw [strOf_size]
  simp [segN, dig_length]
  omega

/-- 'j.file(n)' -/
theorem jfile_any (n : Nat) (hn : n ≤ maxNo) (w : World) (h : JD w S T j d s D J) :
    Calls Tryz.prog 55 #[.pointer (some ⟨j, 0, none⟩), .int .u64 n] w fun r w' => r = .returned (.string (strOf (segN s.data.toList n))) ∧ Below w.heap.size w w' := by
  have c2 : w.cell? ⟨j, 2, none⟩ = some (.string s) := by
    obtain ⟨vs, ms, hj, _⟩ := h.jo
    exact hj.c2
  have hcon := segName_any s n (by have := nm_size h.nm; omega) hn w h.pow
  clear h
  go_enter Tryz.func55, Tryz.ntmps55
  go_wp2_with fail
  refine hcon.mono ?_
  rintro r w1 ⟨rfl, hb⟩
  go_wp2
  go_returns
  exact ⟨by simp, hb⟩

/-- one of the disk's steps, as the journal does it -/
def Does (fv : Nat) (lb : Array Value) (f : ByteArray) (w : World) (S : Nat → Prop) (d : Nat) (r : Int × Dsk) : Prop :=
  Calls Tryz.prog fv (#[.pointer (some ⟨d, 0, none⟩), .string f] ++ lb) w fun e w' => e = .returned (.int .i64 r.1) ∧ ∃ S', Dk 0 w' S' d r.2 ∧ Turn S S' w w'

set_option maxRecDepth 4000 in
theorem jstep_any (fv : Nat) (lb : Array Value) (f : ByteArray) (r : Int × Dsk) (w : World) (h : JD w S T j d s D J) (eg : ∀ args w, (callFunc fv args).run Tryz.prog w = .ok (.enter fv args) w) (hdo : Does fv lb f w S d r) :
    Calls Tryz.prog 54 #[.pointer (some ⟨j, 0, none⟩), .func (.func fv) #[] lb, .string f] w fun e w' => e = .returned (.int .i64 r.1) ∧ ∃ S', JD w' S' T j d s r.2 (jEnd J r.1) ∧ TurnJ S T S' T w w' := by
  have c1 : w.cell? ⟨j, 1, none⟩ = some (.pointer (some ⟨d, 0, none⟩)) := by
    obtain ⟨vs, ms, hj, _⟩ := h.jo
    exact hj.c1
  have H := Lib.hid h
  clear h
  have hcon := hdo
  unfold Does at hcon
  go_enter Tryz.func54, Tryz.ntmps54
  go_wp2_with fail
  refine hcon.mono ?_
  rintro e w1 ⟨rfl, S', hk, ht⟩
  obtain ⟨hJ, hT⟩ := H.out.disk hk ht
  have hend := jend_any r.1 w1 hJ.jo
  have HJ := Lib.hid hJ
  have HT := Lib.hid hT
  clear hcon hdo hk ht hJ hT H
  go_wp2_with fail
  refine hend.mono ?_
  rintro e w2 ⟨rfl, hj, ht⟩
  obtain ⟨hJ2, hT2⟩ := HJ.out.jour hj ht.outs ht.new
  have H2 := Lib.hid hJ2
  have H3 := Lib.hid (HT.out.trans hT2)
  clear hend hj ht hJ2 hT2
  go_wp2
  go_returns
  exact ⟨by simp, S', H2.out, H3.out⟩

/-! ## the disk's calls as values -/
theorem make_enters : ∀ args w, (callFunc 80 args).run Tryz.prog w = .ok (.enter 80 args) w := enters_of Tryz.func80 (by kernel_rfl) rfl
theorem sync_enters : ∀ args w, (callFunc 87 args).run Tryz.prog w = .ok (.enter 87 args) w := enters_of Tryz.func87 (by kernel_rfl) rfl
theorem remove_enters : ∀ args w, (callFunc 63 args).run Tryz.prog w = .ok (.enter 63 args) w := enters_of Tryz.func63 (by kernel_rfl) rfl
theorem does_make (l : Nm) (hl : (strOf l).size ≤ 9223372036854775807) (h : Dk 0 w S d D) (hr : Room D) : Does 80 #[] (strOf l) w S d (dMake D l) := by
  have := make_any (strOf l) hl w h hr
  rw [lst_strOf] at this
  exact this
theorem does_sync (l : Nm) (hl : (strOf l).size ≤ 9223372036854775807) (h : Dk 0 w S d D) (hr : Room D) : Does 87 #[] (strOf l) w S d (dSync D l) := by
  have := sync_any (strOf l) hl w h hr
  rw [lst_strOf] at this
  exact this
theorem does_remove (l : Nm) (hl : (strOf l).size ≤ 9223372036854775807) (h : Dk 0 w S d D) (hr : Room D) (hok : Okd D) : Does 63 #[] (strOf l) w S d (dRemove D l) := by
  have := remove_any (strOf l) hl w h hr hok
  rw [lst_strOf] at this
  exact this

/-! ## what a journal must be for its calls to be told -/
structure Fits (J : Jn) : Prop where
  next : J.next ≤ 4611686018427387904
  segs : J.segs.length ≤ 1073741824
  nums : ∀ x ∈ J.segs, x.num ≤ maxNo
  recs : ∀ x ∈ J.segs, x.recs.length ≤ 1073741824
  size : ∀ x ∈ J.segs, x.size ≤ 1125899906842624

/-- where the last segment stands in memory -/
theorem Jo.last (h : Jo w T j d s J) (hne : J.segs ≠ []) : ∃ vs p m g o c, JnAt w T j d s J.off J.next vs (p ++ [m]) ∧ J.segs = p.map SgM.sg ++ [m.sg] ∧ vs = .slice (some ⟨g, o, none⟩) (p.length + 1) c ∧ (vs.ownBlock = some g ∧ vOff vs = o) ∧ J.last = m.sg ∧ p.length + 1 = J.segs.length ∧ p.length + 1 ≤ c ∧ c ≤ maxLen := by
  obtain ⟨vs, ms, h, hs⟩ := h
  have hms : ms ≠ [] := by
    rintro rfl
    exact hne hs
  obtain ⟨p, m, rfl⟩ := segs_last h hms
  have hrow := h.row
  rw [List.length_append, List.length_singleton] at hrow
  obtain ⟨g, o, c, hvs, hgv, hvo, h1, h2⟩ := o_block hrow (Nat.succ_pos _)
  refine ⟨vs, p, m, g, o, c, h, by rw [hs]; simp, hvs, ⟨hgv, hvo⟩, ?_, by rw [hs]; simp, h1, h2⟩
  unfold Jn.last
  rw [hs]
  exact last_sg p m

set_option maxHeartbeats 800000 in
set_option maxRecDepth 4000 in
theorem syncLast_any (w : World) (h : JD w S T j d s D J) (hr : Room D) (hf : Fits J) :
    Calls Tryz.prog 59 #[.pointer (some ⟨j, 0, none⟩)] w fun e w' => e = .returned (.int .i64 (jSyncLast s.data.toList D J).1) ∧ ∃ S', JD w' S' T j d s (jSyncLast s.data.toList D J).2.1 (jSyncLast s.data.toList D J).2.2 ∧ TurnJ S T S' T w w' := by
  by_cases hne : J.segs = []
  · have e1 : jSyncLast s.data.toList D J = (0, D, J) := by simp [jSyncLast, hne]
    rw [e1]
    have c5 : ∃ A c, w.cell? ⟨j, 5, none⟩ = some (.slice A 0 c) := by
      obtain ⟨vs, ms, hj, hs⟩ := h.jo
      have hms : ms = [] := by
        rw [hne] at hs
        exact (List.map_eq_nil_iff.1 hs.symm)
      subst hms
      obtain ⟨A, c, e⟩ := o_any hj.row
      exact ⟨A, c, by rw [hj.c5, e]; rfl⟩
    obtain ⟨A, c, c5⟩ := c5
    have H := Lib.hid h
    clear h e1
    go_enter Tryz.func59, Tryz.ntmps59
    go_wp2
    go_returns
    exact ⟨by simp, S, H.out, TurnJ.refl _ _ _⟩
  · have e1 : jSyncLast s.data.toList D J = jStep J (dSync D (segN s.data.toList J.last.num)) := by simp [jSyncLast, hne]
    rw [e1]
    clear e1
    obtain ⟨vs, p, m, g, o, c, hj, hsg, hvs, ⟨hgv, hvo⟩, hlast, hpl, _, _⟩ := h.jo.last hne
    have c5 : w.cell? ⟨j, 5, none⟩ = some (.slice (some ⟨g, o, none⟩) (p.length + 1) c) := by rw [hj.c5, hvs]
    have hpn : ¬ ((p.length : Int) + 1 = 0) := by omega
    have hlastc := jlast_at w c5 (by have := hf.segs; omega)
    have hm : m.num ≤ maxNo := by
      have := hf.nums m.sg (by rw [hsg]; simp)
      exact this
    have hrow := hj.row
    rw [hlast]
    have H := Lib.hid h
    have hc0 := (o_cell (i := p.length * 3 + 0) (a := o + p.length * 3) hrow hgv (cG_at p m [] 0 (by decide)) (by omega)).1
    have hc0' : ∀ q, (w.drewN q).cell? ⟨g, o + p.length * 3, none⟩ = some (.int .u64 m.num) := fun q => hc0
    clear h hj hrow hc0 hvs hgv hvo hlast hsg
    go_enter Tryz.func59, Tryz.ntmps59
    go_wp2_with fail
    refine hlastc.mono ?_
    rintro e w1 ⟨rfl, q, rfl⟩
    have hc := hc0' q
    have hb1 : Below w.heap.size w (w.drewN q) := bDrewN (Below.refl _ w) q
    have h1 := H.out.go hb1
    clear hlastc hc0'
    generalize w.drewN q = w1 at *
    have hfile := jfile_any m.num hm w1 h1
    have H1 := Lib.hid h1
    clear h1 H
    go_wp2_with fail
    refine hfile.mono ?_
    rintro e w2 ⟨rfl, hb2⟩
    have h2 := H1.out.go hb2
    have hb12 : Below w.heap.size w w2 := hb1.trans (hb2.mono hb1.size)
    have hsz := seg_size h2.nm m.num
    have hst := jstep_any 87 #[] (strOf (segN s.data.toList m.num)) _ w2 h2 sync_enters (does_sync _ (by omega) h2.dk hr)
    clear hfile h2 H1
    go_wp2_with fail
    refine hst.mono ?_
    rintro e w3 ⟨rfl, S', h3, ht3⟩
    have H3 := Lib.hid h3
    have HT := Lib.hid ((TurnJ.below hb12 : TurnJ S T S T w w2).trans ht3)
    clear hst h3 ht3
    go_wp2
    go_returns
    exact ⟨by simp [jStep, SgM.sg], S', H3.out, HT.out⟩
end
end Go.Proofs.YtbobakfcmkaijaaGreatDoor
end

section
/- The walks over wire.putDigits, wire.copied, wire.AppendUint. -/
namespace Go.Proofs.YtbobakfcmkaijaaGreatDoor
open Go.RowKit
set_option linter.unusedVariables false

set_option maxHeartbeats 400000 in
theorem put_any (B : Nat) (x : Int) (v : Value) (n : Nat) (xs : List Value) (w : World) (h0 : 0 ≤ x) (h1 : x ≤ 18446744073709551615) (hB : B ≤ w.heap.size)
    (hown : w.ownsRow B 5 1 v n xs) (hn : n + 10 ≤ 140737488355328) :
    Calls Tryz.prog 111 #[v, .int .u64 x] w fun e w' =>
      ∃ v', e = .returned v' ∧ w'.ownsRow B 5 1 v' (n + (enc x).length) (xs ++ c8 (enc x)) ∧ Below B w w' := by
  go_enter Tryz.func111, Tryz.ntmps111
  go_wp2
  go_loopw [0, 1] (fun v x' wr => ∃ (y : Int) (ds : List Int), x' = .int .u64 y ∧ 0 ≤ y ∧ y ≤ 18446744073709551615 ∧ ds ++ enc y = enc x ∧ wr.ownsRow B 5 1 v (n + ds.length) (xs ++ c8 ds) ∧ Below B w wr) (fun _ x' _ => (intOf x').toNat)
  case atStart => exact ⟨x, [], rfl, h0, h1, rfl, by simpa [c8] using hown, Below.refl _ _⟩
  case round =>
    obtain ⟨y, ds, rfl, hy0, hy1, hd, hown, hbel⟩ := hrel
    have hl1 := enc_pos y
    have hl2 : ds.length + (enc y).length ≤ 10 := by rw [← List.length_append, hd]; exact enc_length x
    have Hd := Lib.hid hd
    clear hd
    obtain ⟨i0, hi, hz0, hz1, hz2⟩ := info_parts info8
    by_cases hlt : 128 ≤ y
    · go_wp2_with (at_builtin; go_loud (refine app_one wr rfl (.tmp 7) (.tmp 11) 30 rfl B 5 i0 _ 1 Tryz.underlying30 hi hz0 hz1 hz2 rfl u0 _ _ rfl hown (.int .u8 (bits .or .u8 (y % 256) 128)) rfl rfl (by unfold maxLen; omega) (by omega) (Nat.le_trans hB hbel.size) ?_); intro v1 w1 hown1 hb1)
      go_roundw
      case rel =>
        refine ⟨y / 128, ds ++ [y % 128 + 128], rfl, by omega, by omega, ?_, ?_, hbel.trans (hb1.mono (Nat.le_refl _))⟩
        · rw [← Hd.out, enc_step hlt hy1]; simp
        · rw [List.length_append, c8_append, ← List.append_assoc, ← Nat.add_assoc]
          rw [or_digit] at hown1
          exact hown1
      case measure => simp [intOf]; omega
    · go_wp2_with (at_builtin; go_loud (refine app_one wr rfl (.tmp 15) (.tmp 18) 30 rfl B 5 i0 _ 1 Tryz.underlying30 hi hz0 hz1 hz2 rfl u0 _ _ rfl hown (.int .u8 y) rfl rfl (by unfold maxLen; omega) (by omega) (Nat.le_trans hB hbel.size) ?_); intro v1 w1 hown1 hb1)
      go_ret
      refine ⟨v1, rfl, ?_, hbel.trans hb1⟩
      have he : enc x = ds ++ [y] := by rw [← Hd.out, enc_small (by omega)]
      rw [he, List.length_append, c8_append, ← List.append_assoc, ← Nat.add_assoc]
      exact hown1

set_option maxHeartbeats 400000 in
/-- wire.copied: the bytes in new memory -/
theorem copied_any (A : Option Addr) (zs : List Int) (c : Nat) (more : Int) (w : World) (h0 : 0 ≤ more) (h1 : more ≤ 65546) (hl : zs.length ≤ 140737488486400) (hc : zs.length ≤ c) (hA : A = none → zs.length = 0 ∧ c = 0)
    (hr : Rds w w.heap.size A (c8 zs)) :
    Calls Tryz.prog 112 #[.slice A zs.length c, .int .i64 more] w fun e w' =>
      ∃ g cap, e = .returned (.slice (some ⟨g, 0, none⟩) zs.length cap) ∧ w'.ownsRow w.heap.size 5 1 (.slice (some ⟨g, 0, none⟩) zs.length cap) zs.length (c8 zs) ∧ Below w.heap.size w w' := by
  obtain ⟨m, rfl⟩ := Int.eq_ofNat_of_zero_le h0
  obtain ⟨i0, hi, hz0, hz1, hz2⟩ := info_parts info8
  go_enter Tryz.func112, Tryz.ntmps112
  go_wp2_with (first
    | (at_make; go_loud (refine wpList_make_own _ rfl _ _ 30 rfl w.heap.size 5 i0 (.int .u8 0) 1 Tryz.underlying30 hi hz0 hz1 .i64 .i64 _ (zs.length + m) rfl rfl (by omega) (by rw [hz2]; omega) (by unfold maxLen; omega) (Nat.le_refl _) ?_); intro w1 hown1 hg1)
    | (at_builtin; go_loud (refine wpList_append_fits_any w1 rfl (.tmp 9) (.tmp 10) 30 rfl w.heap.size 5 i0 1 Tryz.underlying30 hi hz1 w.heap.size 0 (zs.length + m) [] rfl hown1 A zs.length c (c8 zs) rfl (by simp [c8]) hA (fun ad had => ?_) (c8_one zs) (by omega) ?_)))
  · intro j u hu
    have hb1 : Below w.heap.size w w1 := (Below.refl _ _).grown hg1 (Nat.le_refl _) (by simp)
    obtain ⟨ad', e, _, hcell⟩ := (hr.below hb1).at_ hu
    rw [had] at e
    obtain rfl := Option.some.inj e
    exact hcell
  · intro w2 hown2 hg2
    go_wp2
    go_ret
    refine ⟨w.heap.size, zs.length + m, by simp, by simpa using hown2, ?_⟩
    exact ((Below.refl _ _).grown hg1 (Nat.le_refl _) (by simp)).grown hg2 (hg1.size) (by simp)

set_option maxHeartbeats 400000 in
/-- wire.AppendUint -/
theorem appUint_any (A : Option Addr) (zs : List Int) (c : Nat) (x : Int) (w : World) (h0 : 0 ≤ x) (h1 : x ≤ 18446744073709551615) (hl : zs.length ≤ 140737488351232) (hc : zs.length ≤ c) (hA : A = none → zs.length = 0 ∧ c = 0)
    (hr : Rds w w.heap.size A (c8 zs)) :
    Calls Tryz.prog 88 #[.slice A zs.length c, .int .u64 x] w fun e w' =>
      ∃ v, e = .returned v ∧ w'.ownsRow w.heap.size 5 1 v (zs ++ enc x).length (c8 (zs ++ enc x)) ∧ Below w.heap.size w w' := by
  go_enter Tryz.func88, Tryz.ntmps88
  go_wp2_with fail
  refine (copied_any A zs c 10 w (by omega) (by omega) (by omega) hc hA hr).mono ?_
  rintro e w1 ⟨g, cap, rfl, hown, hb⟩
  go_wp2_with fail
  refine (put_any w.heap.size x _ zs.length (c8 zs) w1 h0 h1 hb.size hown (by omega)).mono ?_
  rintro e w2 ⟨v, rfl, hown2, hb2⟩
  go_wp2
  go_ret
  exact ⟨v, rfl, by rw [List.length_append, c8_append]; exact hown2, hb.trans hb2⟩
end Go.Proofs.YtbobakfcmkaijaaGreatDoor
end

section
/- The walks over wire.ReadUint and the kit's SameBytes. -/
namespace Go.Proofs.YtbobakfcmkaijaaGreatDoor
open Go.RowKit
set_option linter.unusedVariables false

theorem mask7 {d : Int} (h0 : 0 ≤ d) (h1 : d ≤ 255) : bits .and .u8 d 127 = d % 128 := bits_mask .u8 8 (by decide) wraps_u8 7 (by decide) d h0 (by omega)


set_option maxHeartbeats 800000 in
theorem readUint_any (A : Option Addr) (zs : List Int) (c lim : Nat) (w : World) (hl : zs.length ≤ 140737488486400) (hz : Byt zs) (hr : Rds w lim A (c8 zs)) :
    Calls Tryz.prog 103 #[.slice A zs.length c] w fun e w' =>
      e = .returned (.tuple #[.int .u64 (dec 0 0 zs).1, .int .i64 (dec 0 0 zs).2.1, .int .i64 (dec 0 0 zs).2.2]) ∧ w' = w := by
  rw [← decR_dec zs 0 0 (by omega) (by omega) (by decide) hz]
  go_enter Tryz.func103, Tryz.ntmps103
  go_wp2
  go_loop [2, 9] (fun x i => ∃ (k : Nat) (X : Int), k ≤ zs.length ∧ k ≤ 9 ∧ i = .int .i64 k ∧ x = .int .u64 X ∧ decR 0 0 zs = decR X k (zs.drop k)) (fun _ i => zs.length - (intOf i).toNat)
  case atStart => exact ⟨0, 0, by omega, by omega, rfl, rfl, rfl⟩
  case round =>
    obtain ⟨k, X, hk, hk9, rfl, rfl, hd⟩ := hrel
    have HD := Lib.hid hd
    clear hd
    by_cases hlt : k < zs.length
    · obtain ⟨ad, rfl, _, hcell⟩ := hr.at_ (c8_get hlt)
      have hb := hz zs[k] (List.getElem_mem hlt)
      have hmask := mask7 hb.1 hb.2
      have HS : Hid (decR X k (zs.drop k) = decR X k (zs[k] :: zs.drop (k + 1))) := by rw [List.drop_eq_getElem_cons hlt]; rfl
      generalize hzk : zs[k] = d at *
      have HZ := Lib.hid hzk
      clear hzk
      go_wp2
      · have h9 : (k : Int) = 9 := by assumption
        have hd1 : (d != 1) = true := by assumption
        have hk9' : k = 9 := by omega
        have hv : decR 0 0 zs = (0, 0, 5) := by rw [HD.out, HS.out]; simp only [decR]; rw [if_pos ⟨hk9', by simpa using hd1⟩]
        go_ret3
        exact ⟨by rw [hv]; rfl, rfl⟩
      · have hd1 : (d != 1) = false := by assumption
        have h128 : 128 ≤ d := by assumption
        have : d = 1 := by simpa using hd1
        omega
      · have hd1 : (d != 1) = false := by assumption
        have h0 : d = 0 := by assumption
        have : d = 1 := by simpa using hd1
        omega
      · have h9 : (k : Int) = 9 := by assumption
        have hd1 : (d != 1) = false := by assumption
        have h1 : d = 1 := by simpa using hd1
        obtain rfl : k = 9 := by omega
        have hv : decR 0 0 zs = (bits .or .u64 X (IntKind.u64.wrap (d % 128 * 9223372036854775808)), 10, 0) := by
          rw [HD.out, HS.out]; simp only [decR]; rw [if_neg (by omega), if_neg (by omega), if_neg (by omega)]; rfl
        go_ret3
        exact ⟨by rw [hv]; rfl, rfl⟩
      · have h9 : ¬ (k : Int) = 9 := by assumption
        have h128 : 128 ≤ d := by assumption
        have hk9' : ¬ (k = 9 ∧ d ≠ 1) := by omega
        go_round
        case rel => exact ⟨k + 1, _, by omega, by omega, by go_num, rfl, by rw [HD.out, HS.out]; simp only [decR]; rw [if_neg hk9', if_pos h128]⟩
        case measure => simp [intOf]; omega
      · have h9 : ¬ (k : Int) = 9 := by assumption
        have h0 : d = 0 := by assumption
        have hk0 : 0 < k := by assumption
        have hv : decR 0 0 zs = (0, 0, 5) := by
          rw [HD.out, HS.out]; simp only [decR]; rw [if_neg (by omega), if_neg (by omega), if_pos ⟨h0, hk0⟩]
        go_ret3
        exact ⟨by rw [hv]; rfl, rfl⟩
      · have h9 : ¬ (k : Int) = 9 := by assumption
        have h0 : d = 0 := by assumption
        have hk0 : ¬ 0 < k := by assumption
        have hv : decR 0 0 zs = (bits .or .u64 X (IntKind.u64.wrap 0), (k : Int) + 1, 0) := by
          rw [HD.out, HS.out]; simp only [decR]; rw [if_neg (by omega), if_neg (by omega), if_neg (by omega), show d % 128 * 2 ^ (7 * k) = 0 by rw [h0]; simp]
        go_ret3
        exact ⟨by rw [hv]; rfl, rfl⟩
      · have h9 : ¬ (k : Int) = 9 := by assumption
        have h0 : ¬ d = 0 := by assumption
        have h128 : d < 128 := by assumption
        have hv : decR 0 0 zs = (bits .or .u64 X (IntKind.u64.wrap (d % 128 * 2 ^ (7 * k))), (k : Int) + 1, 0) := by
          rw [HD.out, HS.out]; simp only [decR]; rw [if_neg (by omega), if_neg (by omega), if_neg (by omega)]
        go_ret3
        exact ⟨by rw [hv]; rfl, rfl⟩
    · have hv : decR 0 0 zs = (0, 0, 4) := by rw [HD.out, List.drop_eq_nil_of_le (by omega)]; rfl
      have HV := Lib.hid hv
      clear hv
      go_wp2
      go_ret3
      exact ⟨by rw [HV.out]; rfl, rfl⟩

/-- two lists of bytes, told apart -/
def same8 (a b : List Int) : Bool := decide (a = b)

set_option maxHeartbeats 800000 in
theorem sameBytes_any (A A' : Option Addr) (xs ys : List Int) (c c' lim : Nat) (w : World) (hl : xs.length ≤ 9223372036854775807) (hl' : ys.length ≤ 9223372036854775807) (hr : Rds w lim A (c8 xs)) (hr' : Rds w lim A' (c8 ys)) :
    Calls Tryz.prog 40 #[.slice A xs.length c, .slice A' ys.length c'] w fun e w' => e = .returned (.bool (same8 xs ys)) ∧ ∃ n, w' = w.drewN n := by
  by_cases hlen : xs.length = ys.length
  · have hlb : ((xs.length : Int) != (ys.length : Int)) = false := by simp [hlen]
    have HL := Lib.hid hlen
    clear hlen
    go_enter Tryz.func40, Tryz.ntmps40
    go_wp2
    go_loopw [5] (fun i wr => ∃ k : Nat, k ≤ xs.length ∧ i = .int .i64 k ∧ (∀ j, j < k → xs[j]? = ys[j]?) ∧ ∃ n, wr = w.drewN n) (fun i _ => xs.length - (intOf i).toNat)
    case atStart => exact ⟨0, Nat.zero_le _, rfl, fun j hj => absurd hj (by omega), 0, rfl⟩
    case round =>
      obtain ⟨k, hk, rfl, hsame, n, rfl⟩ := hrel
      have HS := Lib.hid hsame
      clear hsame
      by_cases hlt : k < xs.length
      · have hlt' : k < ys.length := by have := HL.out; omega
        obtain ⟨ad, rfl, _, hcell⟩ := hr.at_ (c8_get hlt)
        obtain ⟨ad', rfl, _, hcell'⟩ := hr'.at_ (c8_get hlt')
        generalize hx : xs[k] = x at *
        generalize hy : ys[k] = y at *
        have HX := Lib.hid hx
        have HY := Lib.hid hy
        clear hx hy
        go_wp2
        go_quiet (fail)
        go_wp2
        · have hne : (x != y) = true := by assumption
          have hf : same8 xs ys = false := by
            refine decide_eq_false fun e => ?_
            have h1 : xs[k]? = ys[k]? := by rw [e]
            rw [List.getElem?_eq_getElem hlt, List.getElem?_eq_getElem hlt', HX.out, HY.out] at h1
            simp at hne
            exact hne (Option.some.inj h1)
          go_ret
          exact ⟨by rw [hf]; rfl, _, World.drewN_drewN ..⟩
        · have heq : (x != y) = false := by assumption
          go_roundw
          case rel =>
            refine ⟨k + 1, by omega, by go_num, fun j hj => ?_, _, rfl⟩
            rcases Nat.lt_or_ge j k with h | h
            · exact HS.out j h
            · obtain rfl : j = k := by omega
              simp at heq
              rw [List.getElem?_eq_getElem hlt, List.getElem?_eq_getElem hlt', HX.out, HY.out, heq]
          case measure => simp [intOf]; omega
      · have ht : same8 xs ys = true := by
          refine decide_eq_true (List.ext_getElem? fun j => ?_)
          rcases Nat.lt_or_ge j k with h | h
          · exact HS.out j h
          · have := HL.out
            rw [List.getElem?_eq_none (by omega), List.getElem?_eq_none (by omega)]
        have HT := Lib.hid ht
        clear ht
        go_wp2
        go_ret
        exact ⟨by rw [HT.out]; rfl, n, rfl⟩
  · have hlb : ((xs.length : Int) != (ys.length : Int)) = true := by simp; omega
    have hf : same8 xs ys = false := decide_eq_false fun e => hlen (by rw [e])
    have HF := Lib.hid hf
    clear hf
    go_enter Tryz.func40, Tryz.ntmps40
    go_wp2
    go_ret
    exact ⟨by rw [HF.out]; rfl, 0, rfl⟩

/-- the same, where the lists are one; the lengths as they stand at the call -/
theorem sameBytes_yes (A A' : Option Addr) (xs ys : List Int) (n m c c' lim : Nat) (w : World) (hn : xs.length = n) (hm : ys.length = m) (hl : n ≤ 9223372036854775807) (e : xs = ys) (hr : Rds w lim A (c8 xs)) (hr' : Rds w lim A' (c8 ys)) :
    Calls Tryz.prog 40 #[.slice A n c, .slice A' m c'] w fun e w' => e = .returned (.bool true) ∧ ∃ n, w' = w.drewN n := by
  subst hn hm e
  have h := sameBytes_any A A' xs xs c c' lim w hl hl hr hr'
  rwa [show same8 xs xs = true from decide_eq_true rfl] at h

theorem readUint_len (A : Option Addr) (zs : List Int) (n c lim : Nat) (w : World) (hn : zs.length = n) (hl : n ≤ 140737488486400) (hz : Byt zs) (hr : Rds w lim A (c8 zs)) {X N E : Int} (hd : dec 0 0 zs = (X, N, E)) :
    Calls Tryz.prog 103 #[.slice A n c] w fun e w' => e = .returned (.tuple #[.int .u64 X, .int .i64 N, .int .i64 E]) ∧ w' = w := by
  subst hn
  have h := readUint_any A zs c lim w hl hz hr
  rwa [hd] at h
end Go.Proofs.YtbobakfcmkaijaaGreatDoor
end

section
/- The walks over the kit's Own and Kept. -/
namespace Go.Proofs.YtbobakfcmkaijaaGreatDoor
open Go.RowKit
set_option linter.unusedVariables false

theorem own_whole {w : World} {B g n : Nat} {e : TypeId} {xs : List Value} (h : w.ownsRow B e 1 (.slice (some ⟨g, 0, none⟩) n n) n xs) : Whole w g e xs.toArray := by
  rcases h.2 with ⟨h1, _⟩ | ⟨g', cap, cur, h1, _, h2, _, _, h3, h4⟩
  · cases h1
  · injection h1 with ha _ hc
    injection ha with ha
    injection ha with ha
    subst ha
    subst hc
    have : cur = xs.toArray := by
      rw [← h4, Nat.mul_one, List.take_of_length_le (by simp; omega)]
    rw [← this]
    exact h2

theorem made1 (z : Value) (n : Nat) : (madeCells #[z] (n * 1)).toList = List.replicate n z := by
  rw [Nat.mul_one]
  unfold madeCells
  apply List.ext_getElem
  · simp
  · intro i h1 h2
    simp [Nat.mod_one]

theorem c8_set (L : List Int) (k : Nat) (z : Int) : (c8 L).toArray.setIfInBounds k (.int .u8 z) = (c8 (L.set k z)).toArray := by
  simp [c8, List.map_set]

/-- copy(dst, src) into the head of a block known whole, src nil or not, no longer than dst -/
theorem copy_head {P : Program} (w : World) (T e ty : TypeId) (hu : P.underlying T = some (.slice e)) (hs : (P.info? e).map (·.size) = some 1) {g m cap c lim : Nat} {old : List Value} {A : Option Addr} {xs : List Value} {te : TypeId}
    (hw : Whole w g te old.toArray) (hr : Rds w lim A xs) (hle : xs.length ≤ m) (hm : xs.length ≤ old.length) (h1 : ∀ u ∈ xs, u.oneCell' = true) {n : Nat} (hn : n = xs.length) :
    ∃ w', (Builtin.copy_ #[T, T] ty #[.slice (some ⟨g, 0, none⟩) m cap, .slice A n c]).run P w = .ok (.int .i64 n) w' ∧ Whole w' g te (xs ++ old.drop xs.length).toArray ∧ ∀ B w0, Below B w0 w → B ≤ g → Below B w0 w' := by
  subst hn
  have hmin : Nat.min xs.length m = xs.length := Nat.min_eq_left hle
  by_cases h0 : xs = []
  · subst h0
    exact ⟨w, run_copy_none (P := P) w T T ty e _ A m cap 0 c hu hs (Nat.min_eq_left (Nat.zero_le _)), by simpa using hw, fun B w0 hb _ => hb⟩
  · obtain ⟨ad, rfl, _, hsrc⟩ := hr h0
    refine ⟨_, run_copy_row (P := P) w T T ty e g 0 m cap ad xs.length c old.toArray te xs hu hs hw hmin.symm hsrc (by simpa using hm) h1, ?_, fun B w0 hb hB => below_setRow hb hB _⟩
    have := setRow_heap w g _ ((old.toArray.toList.take 0 ++ xs ++ old.toArray.toList.drop (0 + xs.length)).toArray) te (0, 0) hw
    unfold Whole
    rw [this]
    simp

theorem own_reads {w : World} {g : Nat} {zs : List Int} (h : Whole w g 5 (c8 (zs ++ List.replicate 5 222)).toArray) : Rds w w.heap.size (some ⟨g, 0, none⟩) (c8 zs) := by
  intro _
  refine ⟨_, rfl, h.lt, fun j u hu => ?_⟩
  have hadd : (⟨g, 0, none⟩ : Addr).add j = ⟨g, j, none⟩ := by unfold Addr.add; split <;> simp_all
  rw [hadd, h.cell j]
  have hj : j < (c8 zs).length := (List.getElem?_eq_some_iff.1 hu).1
  rw [c8_append]
  simp only [List.getElem?_toArray]
  rw [List.getElem?_append_left hj, hu]
theorem Rds.go {w1 w2 : World} {A : Option Addr} {xs : List Value} (hr : Rds w1 w1.heap.size A xs) (hb : Below w1.heap.size w1 w2) : Rds w2 w2.heap.size A xs := (hr.below hb).more hb.size
theorem Whole.go {w1 w2 : World} {g : Nat} {t : TypeId} {cs : Array Value} (h : Whole w1 g t cs) (hb : Below w1.heap.size w1 w2) : Whole w2 g t cs := h.below hb h.lt
theorem belowGo {B : Nat} {w w1 w2 : World} (h : Below B w w1) (hB : B ≤ w.heap.size) (hb : Below w1.heap.size w1 w2) : Below B w w2 := h.trans (hb.mono (Nat.le_trans hB h.size))
theorem Rds.now {w : World} {A : Option Addr} {xs : List Value} (hr : Rds w w.heap.size A xs) (n : Nat) : Rds (w.drewN n) (w.drewN n).heap.size A xs := hr
end Go.Proofs.YtbobakfcmkaijaaGreatDoor
end

section
/- The walks over the sums of bytes: the program's More and Sum, and the document's: all are the plain sum. No condition but that the bytes can be read. -/
namespace Go.Proofs.YtbobakfcmkaijaaGreatDoor
open Go.RowKit
set_option linter.unusedVariables false

theorem not_key (s : Nat) (h : s < 4294967296) : bits .xor .u32 IntKind.u32.max (s : Int) = ((com s : Nat) : Int) := by
  rw [show IntKind.u32.max = ((4294967295 : Nat) : Int) by rfl, u32_xor_nat _ _ (by decide) h, com_xor h]

set_option maxHeartbeats 800000 in
theorem more_any (s : Nat) (A : Option Addr) (zs : List Int) (c lim : Nat) (w : World) (hs : s < 4294967296) (hl : zs.length ≤ 9223372036854775807) (hz : Byt zs) (hr : Rds w lim A (c8 zs)) :
    Calls Tryz.prog 79 #[.int .u32 s, .slice A zs.length c] w fun e w' => e = .returned (.int .u32 (mor s zs)) ∧ w' = w := by
  have HZ := Lib.hid hz
  have hsg : IntKind.u32.signed = false := rfl
  have hn := not_key s hs
  have hc := com_lt s
  clear hz
  go_enter Tryz.func79, Tryz.ntmps79
  go_wp2_with (simp only [hn])
  go_loop [0, 11] (fun x i => ∃ (k X : Nat), k ≤ zs.length ∧ i = .int .i64 k ∧ x = .int .u32 X ∧ X = fld (com s) (zs.take k)) (fun _ i => zs.length - (intOf i).toNat)
  case atStart => exact ⟨0, com s, by omega, rfl, rfl, rfl⟩
  case round =>
    obtain ⟨k, X, hk, rfl, rfl, hX⟩ := hrel
    have hXl : X < 4294967296 := by rw [hX]; exact fld_lt (HZ.out.take k) hc
    have HX := Lib.hid hX
    clear hX hn
    by_cases hlt : k < zs.length
    · obtain ⟨ad, rfl, _, hcell⟩ := hr.at_ (c8_get hlt)
      have hb := HZ.out zs[k] (List.getElem_mem hlt)
      have HK := Lib.hid (show fld (com s) (zs.take (k + 1)) = its 8 (X ^^^ (zs[k]).toNat) by rw [List.take_add_one, List.getElem?_eq_getElem hlt]; simp only [Option.toList]; rw [fld_snoc, ← HX.out])
      generalize zs[k] = d at *
      obtain ⟨b, rfl⟩ : ∃ b : Nat, d = b := ⟨d.toNat, by omega⟩
      have hx := u32_xor_nat X b hXl (by omega)
      have hY : X ^^^ b < 4294967296 := xlt hXl (by omega)
      go_wp2_with (simp only [hx])
      go_loop [0, 19] (fun x i => ∃ (j Y : Nat), j ≤ 8 ∧ i = .int .i64 j ∧ x = .int .u32 Y ∧ Y = its j (X ^^^ b)) (fun _ i => 8 - (intOf i).toNat)
      case atStart => exact ⟨0, _, by omega, rfl, rfl, rfl⟩
      case round =>
        obtain ⟨j, Y, hj, rfl, rfl, hY2⟩ := hrel
        have hYl : Y < 4294967296 := by rw [hY2]; exact its_lt _ hY
        have HY := Lib.hid hY2
        clear hY2 hx
        by_cases hj8 : j < 8
        · go_wp2_with fail
          refine (halved_any Y w hYl).mono ?_
          rintro e w1 ⟨rfl, rfl⟩
          go_wp2
          go_round
          case rel => exact ⟨j + 1, _, by omega, by go_num, rfl, by rw [its_next, ← HY.out]⟩
          case measure => simp [intOf]; omega
        · obtain rfl : j = 8 := by omega
          go_wp2
          go_round
          case rel => exact ⟨k + 1, _, by omega, by go_num, rfl, by rw [HK.out, HY.out]; rfl⟩
          case measure => simp [intOf]; omega
    · obtain rfl : k = zs.length := by omega
      have hn := not_key X hXl
      have hM : com X = mor s zs := by rw [HX.out, List.take_length]; rfl
      go_wp2_with (simp only [hn])
      go_ret
      exact ⟨rfl, rfl⟩

theorem sum_any (A : Option Addr) (zs : List Int) (c lim : Nat) (w : World) (hl : zs.length ≤ 9223372036854775807) (hz : Byt zs) (hr : Rds w lim A (c8 zs)) :
    Calls Tryz.prog 78 #[.slice A zs.length c] w fun e w' => e = .returned (.int .u32 (mor 0 zs)) ∧ w' = w := by
  go_enter Tryz.func78, Tryz.ntmps78
  go_wp2_with fail
  refine (more_any 0 A zs c lim w (by decide) hl hz hr).mono ?_
  rintro e w1 ⟨rfl, rfl⟩
  go_wp2
  go_ret
  exact ⟨rfl, rfl⟩

end Go.Proofs.YtbobakfcmkaijaaGreatDoor
end

section
/- The walks over the frame's put and number: bytes laid down and read, the lowest first. -/
namespace Go.Proofs.YtbobakfcmkaijaaGreatDoor
open Go.RowKit
set_option linter.unusedVariables false

theorem le_snoc : ∀ (j x : Nat), le (j + 1) x = le j x ++ [((x / 2 ^ (8 * j) % 256 : Nat) : Int)]
  | 0, x => by simp [le]
  | j + 1, x => by
    have h := le_snoc j (x / 256)
    rw [le, h, le, List.cons_append, Nat.div_div_eq_div_mul, show 256 * 2 ^ (8 * j) = 2 ^ (8 * (j + 1)) by rw [show 8 * (j + 1) = 8 + 8 * j by omega, Nat.pow_add]]

theorem lay_byte {L : List Int} {off j : Nat} (h : off + j < L.length) (M : List Int) (hM : M.length = j) (v : Int) :
    (L.take off ++ (M ++ L.drop (off + j))).set (off + j) v = L.take off ++ ((M ++ [v]) ++ L.drop (off + (j + 1))) := by
  have h1 : (L.take off).length = off := by rw [List.length_take]; omega
  rw [List.set_append_right _ _ (by omega), h1, List.set_append_right _ _ (by omega), hM, show off + j - off - j = 0 by omega, List.drop_eq_getElem_cons h, List.append_assoc]
  rfl

set_option maxHeartbeats 800000 in
theorem fput_any (g off n c x : Nat) (L : List Int) (w : World) (hx : x < 4294967296) (hn : n ≤ 4) (hoff : off + n ≤ L.length) (hl : L.length ≤ 281474976710656) (hw : Whole w g 5 (c8 L).toArray) :
    Calls Tryz.prog 77 #[.slice (some ⟨g, off, none⟩) n c, .int .u32 x] w fun e w' => e = .returned (.tuple #[]) ∧ Whole w' g 5 (c8 (L.take off ++ (le n x ++ L.drop (off + n)))).toArray ∧ w.grownBy w' (some g) := by
  go_enter Tryz.func77, Tryz.ntmps77
  go_wp2
  go_loopw [7] (fun i wr => ∃ j : Nat, j ≤ n ∧ i = .int .i64 j ∧ Whole wr g 5 (c8 (L.take off ++ (le j x ++ L.drop (off + j)))).toArray ∧ w.grownBy wr (some g)) (fun i _ => n - (intOf i).toNat)
  case atStart => exact ⟨0, by omega, rfl, by simpa [le] using hw, Only.refl _ _⟩
  case round =>
    obtain ⟨j, hj, rfl, hw1, hg1⟩ := hrel
    by_cases hlt : j < n
    · have hcell : ∃ v, wr.cell? ⟨g, off + j, none⟩ = some v := by
        refine ⟨_, hw1.cell _ |>.trans (List.getElem?_toArray ▸ List.getElem?_eq_getElem (by simp [c8, le_length]; omega))⟩
      obtain ⟨v, hcell⟩ := hcell
      have hf := hw1.frozen (off + j)
      have HW := Lib.hid hw1
      clear hw1
      go_wp2
      go_roundw
      case rel =>
        have hval : ((x : Int) / 2 ^ (8 * j) % 256) = ((x / 2 ^ (8 * j) % 256 : Nat) : Int) := by simp
        refine ⟨j + 1, by omega, by go_num, ?_, ?_⟩
        · have h := HW.out.put (off + j) (.int .u8 ((x / 2 ^ (8 * j) % 256 : Nat) : Int))
          rw [c8_set, lay_byte (by omega) (le j x) (le_length j x), ← le_snoc] at h
          rw [hval]
          exact h
        · exact Only.put hg1 _ _
      case measure => simp [intOf]; omega
    · obtain rfl : j = n := by omega
      go_wp2
      go_end0
      exact ⟨rfl, hw1, hg1⟩


theorem un_append : ∀ (a b : List Int), un (a ++ b) = un a + 256 ^ a.length * un b
  | [], b => by simp [un]
  | z :: r, b => by
    rw [List.cons_append, un, un_append r b, un, List.length_cons, Nat.pow_succ, Nat.mul_add, Nat.mul_comm (256 ^ r.length) 256, Nat.mul_assoc, Nat.add_assoc]

/-- one more byte read -/
theorem num_next {zs : List Int} (hz : Byt zs) {j : Nat} (hj : j < zs.length) (h4 : j < 4) : bits .or .u32 (un (zs.take j) : Nat) (zs[j] * 2 ^ (8 * j) % 4294967296) = (un (zs.take (j + 1)) : Nat) := by
  have hb := hz zs[j] (List.getElem_mem hj)
  have hlen : (zs.take j).length = j := by rw [List.length_take]; omega
  have h1 := un_lt (hz.take j)
  rw [hlen] at h1
  have e : un (zs.take (j + 1)) = un (zs.take j) + 256 ^ j * zs[j].toNat := by
    rw [List.take_add_one, List.getElem?_eq_getElem hj, un_append, hlen]
    rfl
  generalize zs[j] = d at *
  obtain ⟨b, rfl⟩ : ∃ b : Nat, d = b := ⟨d.toNat, by omega⟩
  rw [Int.toNat_natCast] at e
  have hp : (256 : Nat) ^ j = 2 ^ (8 * j) := by rw [Nat.pow_mul]
  have hle : 2 ^ (8 * j) ≤ 2 ^ 24 := Nat.pow_le_pow_right (by decide) (by omega)
  rw [hp] at h1 e
  have hbp : b * 2 ^ (8 * j) ≤ 255 * 2 ^ 24 := Nat.mul_le_mul (by omega) hle
  have hv : ((b : Int) * 2 ^ (8 * j) % 4294967296) = ((2 ^ (8 * j) * b : Nat) : Int) := by
    have e2 : ((b : Int) * 2 ^ (8 * j)) = ((b * 2 ^ (8 * j) : Nat) : Int) := by simp
    rw [e2, Nat.mul_comm (2 ^ (8 * j)) b]
    generalize b * 2 ^ (8 * j) = q at *
    omega
  have hq : 2 ^ (8 * j) * b < 4294967296 := by rw [Nat.mul_comm]; omega
  rw [hv, u32_or_nat _ _ (by omega) hq, e, Nat.or_comm, ← Nat.two_pow_add_eq_or_of_lt h1 b, Nat.add_comm]

set_option maxHeartbeats 800000 in
theorem fnum_any (A : Option Addr) (zs : List Int) (c lim : Nat) (w : World) (hl : zs.length ≤ 4) (hz : Byt zs) (hr : Rds w lim A (c8 zs)) :
    Calls Tryz.prog 159 #[.slice A zs.length c] w fun e w' => e = .returned (.int .u32 (un zs : Nat)) ∧ w' = w := by
  go_enter Tryz.func159, Tryz.ntmps159
  go_wp2
  go_loop [3, 8] (fun x i => ∃ (j : Nat), j ≤ zs.length ∧ i = .int .i64 j ∧ x = .int .u32 (un (zs.take j) : Nat)) (fun _ i => zs.length - (intOf i).toNat)
  case atStart => exact ⟨0, by omega, rfl, by simp [un]⟩
  case round =>
    obtain ⟨j, hj, rfl, rfl⟩ := hrel
    by_cases hlt : j < zs.length
    · obtain ⟨ad, rfl, _, hcell⟩ := hr.at_ (c8_get hlt)
      have hb := hz zs[j] (List.getElem_mem hlt)
      go_wp2
      go_round
      case rel =>
        exact ⟨j + 1, by omega, by go_num, by rw [num_next hz hlt (by omega)]⟩
      case measure => simp [intOf]; omega
    · obtain rfl : j = zs.length := by omega
      go_wp2
      go_ret
      exact ⟨rfl, rfl⟩
theorem fnum_len (A : Option Addr) (zs : List Int) (n c lim : Nat) (w : World) (hn : zs.length = n) (hl : n ≤ 4) (hz : Byt zs) (hr : Rds w lim A (c8 zs)) :
    Calls Tryz.prog 159 #[.slice A n c] w fun e w' => e = .returned (.int .u32 (un zs : Nat)) ∧ w' = w := by
  subst hn
  exact fnum_any A zs c lim w hl hz hr
end Go.Proofs.YtbobakfcmkaijaaGreatDoor
end

section
/- The walk over the frame's measured: how many bytes the first frame has, or why there is none. -/
namespace Go.Proofs.YtbobakfcmkaijaaGreatDoor
open Go.RowKit
set_option linter.unusedVariables false

theorem add_ne {ad : Addr} {k : Nat} (h : k ≠ 0) : ad.add k = ⟨ad.block, ad.off + k, none⟩ := by unfold Addr.add; rw [if_neg h]
theorem c8_take (zs : List Int) (k : Nat) : c8 (zs.take k) = (c8 zs).take k := by simp [c8]
theorem c8_drop (zs : List Int) (k : Nat) : c8 (zs.drop k) = (c8 zs).drop k := by simp [c8]
theorem Rds.cut {w : World} {lim : Nat} {ad : Addr} {zs : List Int} (h : Rds w lim (some ad) (c8 zs)) (k m : Nat) : Rds w lim (some (ad.add k)) (c8 ((zs.drop k).take m)) := by
  have h1 := h.drop k ((c8 zs).length + k + 1) (by omega)
  rw [if_neg (by omega), ← c8_drop] at h1
  have h2 := h1.take m
  rw [← c8_take] at h2
  exact h2
theorem Rds.cut0 {w : World} {lim : Nat} {ad : Addr} {zs : List Int} (h : Rds w lim (some ad) (c8 zs)) {k : Nat} (m : Nat) (hk : k ≠ 0) :
    Rds w lim (if m = 0 then some ad else some ⟨ad.block, ad.off + k, none⟩) (c8 ((zs.drop k).take m)) := by
  by_cases hm : m = 0
  · subst hm
    rw [List.take_zero]
    exact Rds.nil_
  · rw [if_neg hm, ← add_ne hk]
    exact h.cut k m

set_option maxHeartbeats 1600000 in
theorem measured_any (A : Option Addr) (zs : List Int) (c lim : Nat) (w : World) (hl : zs.length ≤ 140737492549632) (hc : zs.length ≤ c) (hz : Byt zs) (hr : Rds w lim A (c8 zs)) :
    Calls Tryz.prog 127 #[.slice A zs.length c] w fun e w' => e = .returned (.tuple #[.int .i64 ((mea zs).1 : Nat), .int .i64 ((mea zs).2 : Nat)]) ∧ ∃ n, w' = w.drewN n := by
  by_cases h8 : zs.length < 8
  · rw [show mea zs = (0, 4) by unfold mea; rw [if_pos h8]]
    have h8' : (zs.length : Int) < 8 := by omega
    go_enter Tryz.func127, Tryz.ntmps127
    go_wp2
    go_ret2
    exact ⟨rfl, 0, rfl⟩
  · have h8' : ¬ (zs.length : Int) < 8 := by omega
    obtain ⟨ad, rfl, _, _⟩ := hr.at_ (c8_get (show 0 < zs.length by omega))
    have hm : mea zs = if un ((zs.drop 4).take 4) ≠ hs zs ∨ 1048576 < sz zs then (0, 5) else
        if zs.length < sz zs + 12 then (0, 4) else
        if un ((zs.drop (8 + sz zs)).take 4) ≠ mor (hs zs) ((zs.drop 8).take (sz zs)) then (0, 5) else (sz zs + 12, 0) := by
      conv => lhs; unfold mea
      rw [if_neg h8]
    have hr0 : Rds w lim (some ad) (c8 (zs.take 4)) := by rw [c8_take]; exact hr.take 4
    have hr1 := hr.cut 1 3
    have hr4 := hr.cut 4 4
    have hS := sum_any (some ad) (zs.take 4) 4 lim w (by rw [List.length_take]; omega) (hz.take 4) hr0
    rw [show (zs.take 4).length = 4 by rw [List.length_take]; omega] at hS
    have hN := fnum_len (some (ad.add 1)) ((zs.drop 1).take 3) 3 3 lim w (by rw [List.length_take, List.length_drop]; omega) (by omega) ((hz.drop 1).take 3) hr1
    have hM := fnum_len (some (ad.add 4)) ((zs.drop 4).take 4) 4 4 lim w (by rw [List.length_take, List.length_drop]; omega) (by omega) ((hz.drop 4).take 4) hr4
    rw [add_ne (by decide)] at hN hM
    have hsl : sz zs < 16777216 := by
      have := un_lt ((hz.drop 1).take 3)
      rw [show ((zs.drop 1).take 3).length = 3 by rw [List.length_take, List.length_drop]; omega] at this
      exact this
    have hhl : hs zs < 4294967296 := mor_lt _ _
    have hel : un ((zs.drop 4).take 4) < 4294967296 := by
      have := un_lt ((hz.drop 4).take 4)
      rw [show ((zs.drop 4).take 4).length = 4 by rw [List.length_take, List.length_drop]; omega] at this
      exact this
    change Calls _ _ _ _ fun e w' => e = .returned (.int .u32 (hs zs : Nat)) ∧ w' = w at hS
    change Calls _ _ _ _ fun e w' => e = .returned (.int .u32 (sz zs : Nat)) ∧ w' = w at hN
    rw [hm]
    clear hm
    generalize hSv : hs zs = S at *
    generalize hNv : sz zs = N at *
    generalize hMv : un ((zs.drop 4).take 4) = M at *
    by_cases h5 : M ≠ S ∨ 1048576 < N
    · rw [if_pos h5]
      rcases (show M ≠ S ∨ (M = S ∧ 1048576 < N) by omega) with h1 | ⟨rfl, h2⟩
      · have hb : ((M : Int) != (S : Int)) = true := by simp; omega
        clear h5
        go_enter Tryz.func127, Tryz.ntmps127
        go_wp2_with fail
        refine hS.mono ?_
        rintro e w1 ⟨rfl, rfl⟩
        go_wp2_with fail
        refine hN.mono ?_
        rintro e w2 ⟨rfl, rfl⟩
        go_wp2_with fail
        refine hM.mono ?_
        rintro e w3 ⟨rfl, rfl⟩
        go_wp2
        go_ret2
        exact ⟨rfl, 0, rfl⟩
      · have hb : ((M : Int) != (M : Int)) = false := by simp
        have h2' : (1048576 : Int) < (N : Int) := by omega
        clear h5
        go_enter Tryz.func127, Tryz.ntmps127
        go_wp2_with fail
        refine hS.mono ?_
        rintro e w1 ⟨rfl, rfl⟩
        go_wp2_with fail
        refine hN.mono ?_
        rintro e w2 ⟨rfl, rfl⟩
        go_wp2_with fail
        refine hM.mono ?_
        rintro e w3 ⟨rfl, rfl⟩
        go_wp2
        go_ret2
        exact ⟨rfl, 0, rfl⟩
    · rw [if_neg h5]
      obtain rfl : M = S := by omega
      have h2 : N ≤ 1048576 := by omega
      have h2' : ¬ (1048576 : Int) < (N : Int) := by omega
      have hb : ((M : Int) != (M : Int)) = false := by simp
      have HS := Lib.hid hSv
      have HN := Lib.hid hNv
      have HZ := Lib.hid hz
      clear h5 hSv hNv hMv hz
      by_cases h6 : zs.length < N + 12
      · rw [if_pos h6]
        have h6' : (zs.length : Int) < 8 + (N : Int) + 4 := by omega
        go_enter Tryz.func127, Tryz.ntmps127
        go_wp2_with fail
        refine hS.mono ?_
        rintro e w1 ⟨rfl, rfl⟩
        go_wp2_with fail
        refine hN.mono ?_
        rintro e w2 ⟨rfl, rfl⟩
        go_wp2_with fail
        refine hM.mono ?_
        rintro e w3 ⟨rfl, rfl⟩
        go_wp2
        go_ret2
        exact ⟨rfl, 0, rfl⟩
      · rw [if_neg h6]
        have h6' : ¬ (zs.length : Int) < 8 + (N : Int) + 4 := by omega
        have hrA := hr.cut (8 + N) 4
        have hrB := hr.cut0 N (show 8 ≠ 0 by decide)
        have hE := fun k => fnum_len _ ((zs.drop (8 + N)).take 4) 4 4 lim (w.drewN k) (by rw [List.length_take, List.length_drop]; omega) (by omega) ((HZ.out.drop _).take 4) (hrA.drewN k)
        have hlB : ((zs.drop 8).take N).length = N := by rw [List.length_take, List.length_drop]; omega
        have hF := fun k => more_any M _ ((zs.drop 8).take N) N lim (w.drewN k) hhl (by omega) ((HZ.out.drop _).take N) (hrB.drewN k)
        rw [hlB] at hF
        have hgl := mor_lt M ((zs.drop 8).take N)
        have hq1 : 0 ≤ 8 + (N : Int) + 4 ∧ 8 + (N : Int) + 4 ≤ (c : Int) := by omega
        have hq2 : max (8 + (N : Int) + 4) 0 = 8 + (N : Int) + 4 := by omega
        have hq3 : (8 + (N : Int) + 4).toNat = 8 + N + 4 := by omega
        have hq4 : (8 + (N : Int)).toNat = 8 + N := by omega
        have hq5 : 0 ≤ 8 + (N : Int) ∧ 8 + (N : Int) ≤ 8 + (N : Int) + 4 := by omega
        have hq6 : (8 : Int) ≤ 8 + (N : Int) := by omega
        have hq7 : 0 ≤ 8 + (N : Int) ∧ 8 + (N : Int) ≤ (c : Int) := by omega
        have hq8 : max (8 + (N : Int)) 0 = 8 + (N : Int) := by omega
        generalize mor M ((zs.drop 8).take N) = G at *
        generalize un ((zs.drop (8 + N)).take 4) = E at *
        by_cases h7 : E = G
        · subst h7
          have hb2 : ((E : Int) != (E : Int)) = false := by simp
          rw [if_neg (by simp)]
          go_enter Tryz.func127, Tryz.ntmps127
          go_wp2_with fail
          refine hS.mono ?_
          rintro e w1 ⟨rfl, rfl⟩
          go_wp2_with fail
          refine hN.mono ?_
          rintro e w2 ⟨rfl, rfl⟩
          go_wp2_with fail
          refine hM.mono ?_
          rintro e w3 ⟨rfl, rfl⟩
          go_wp2
          go_quiet (first | with_reducible exact Calls.quiet_of_same (hE _) | with_reducible exact Calls.quiet_of_same (hF _))
          go_wp2
          all_goals go_ret2
          all_goals exact ⟨by simp <;> omega, _, rfl⟩
        · have hb2 : ((E : Int) != (G : Int)) = true := by simp; omega
          rw [if_pos h7]
          go_enter Tryz.func127, Tryz.ntmps127
          go_wp2_with fail
          refine hS.mono ?_
          rintro e w1 ⟨rfl, rfl⟩
          go_wp2_with fail
          refine hN.mono ?_
          rintro e w2 ⟨rfl, rfl⟩
          go_wp2_with fail
          refine hM.mono ?_
          rintro e w3 ⟨rfl, rfl⟩
          go_wp2
          go_quiet (first | with_reducible exact Calls.quiet_of_same (hE _) | with_reducible exact Calls.quiet_of_same (hF _))
          go_wp2
          all_goals go_ret2
          all_goals exact ⟨rfl, _, rfl⟩

end Go.Proofs.YtbobakfcmkaijaaGreatDoor
end
