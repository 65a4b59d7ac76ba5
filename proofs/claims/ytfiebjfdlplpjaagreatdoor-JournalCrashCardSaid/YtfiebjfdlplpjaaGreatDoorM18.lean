/- Several texts, each a section: JSame, JAt, JNm1, JNm2, JNm3, JNm4, JDrop. -/
import Derived.Test.YtfiebjfdlplpjaaGreatDoorM17
import Derived.Test.YtfiebjfdlplpjaaGreatDoorM07
import Derived.Test.YtfiebjfdlplpjaaGreatDoorM13
import Derived.LoopN
section
/- The kit's SameLists of alike lists, and whether a list of numbers is fine. -/
namespace Go.Proofs.YtfiebjfdlplpjaaGreatDoor
open Go.RowKit
set_option linter.unusedVariables false

set_option maxHeartbeats 1600000 in
set_option maxRecDepth 5000 in
theorem sameLists_yes (A A' : Option Addr) (xs ys : List RcM) (n m c c' lim : Nat) (w : World) (hn : xs.length = n) (hm : ys.length = m) (hl : n ≤ 9223372036854775807) (he : xs.map RcM.r = ys.map RcM.r) (hlen : ∀ x ∈ xs, x.r.length ≤ 9223372036854775807)
    (hr : Rds w lim A (cR xs)) (hr' : Rds w lim A' (cR ys)) (hx : ∀ x ∈ xs, Rds w lim x.A (c8 x.r)) (hy : ∀ y ∈ ys, Rds w lim y.A (c8 y.r)) :
    Calls Tryz.prog 13 #[.slice A n c, .slice A' m c'] w fun e w' => e = .returned (.bool true) ∧ ∃ k, w' = w.drewN k := by
  have hnm : m = n := by have := congrArg List.length he; simp only [List.length_map] at this; omega
  subst hnm
  have hlb : ((m : Int) != (m : Int)) = false := by simp
  go_enter Tryz.func13, Tryz.ntmps13
  go_wp2
  go_loopw [5] (fun i wr => ∃ k : Nat, k ≤ m ∧ i = .int .i64 k ∧ ∃ n, wr = w.drewN n) (fun i _ => m - (intOf i).toNat)
  case atStart => exact ⟨0, Nat.zero_le _, rfl, 0, rfl⟩
  case round =>
    obtain ⟨k, hk, rfl, n, rfl⟩ := hrel
    by_cases hlt : k < m
    · have h1 : k < xs.length := by omega
      have h2 : k < ys.length := by omega
      obtain ⟨ad, rfl, _, hc0⟩ := hr.at_ (cR_get h1)
      obtain ⟨ad', rfl, _, hc0'⟩ := hr'.at_ (cR_get h2)
      have hf : xs[k].r = ys[k].r := by
        have h := congrArg (fun l => l[k]?) he
        simpa [h1, h2] using h
      have hb := hx _ (List.getElem_mem h1)
      have hb' := hy _ (List.getElem_mem h2)
      have hbl := hlen _ (List.getElem_mem h1)
      unfold RcM.v at hc0 hc0'
      rw [← hf] at hc0' hb'
      generalize xs[k].r = f at *
      generalize xs[k].A = D at *
      generalize ys[k].A = D' at *
      generalize xs[k].c = x at *
      generalize ys[k].c = x' at *
      have hS : ∀ j, Calls Tryz.prog 46 #[.slice D f.length x, .slice D' f.length x'] (w.drewN (n + j)) fun e w' => e = .returned (.bool true) ∧ ∃ q, w' = w.drewN (n + q) := fun j =>
        (sameBytes_yes D D' f f f.length f.length x x' lim (w.drewN (n + j)) rfl rfl hbl rfl (hb.drewN _) (hb'.drewN _)).mono fun e w' ⟨h1, q, h2⟩ => ⟨h1, j + q, by rw [h2, World.drewN_drewN, Nat.add_assoc]⟩
      clear hf
      go_wp2
      go_quiet (first | with_reducible exact hS _)
      go_wp2
      go_roundw
      case rel => exact ⟨k + 1, by omega, by go_num, _, rfl⟩
      case measure => simp [intOf]; omega
    · go_wp2
      go_ret
      exact ⟨rfl, n, rfl⟩

theorem fine_no (A : Option Addr) (zs : List Int) (n c lim : Nat) (w : World) (hn : zs.length = n) (hl : n ≤ 9223372036854775807) (hr : Rds w lim A (cN zs)) (hneg : zs.any (fun k => decide (k < 0)) = true) :
    Calls Tryz.prog 24 #[.slice A n c] w fun e w' => e = .returned (.bool false) ∧ ∃ k, w' = w.drewN k := by
  have HNEG := Lib.hid hneg
  clear hneg
  go_enter Tryz.func24, Tryz.ntmps24
  go_wp2
  go_loopw [3] (fun i wr => ∃ k : Nat, k ≤ n ∧ i = .int .i64 k ∧ (∀ j, j < k → ∀ z, zs[j]? = some z → 0 ≤ z) ∧ ∃ q, wr = w.drewN q) (fun i _ => n - (intOf i).toNat)
  case atStart => exact ⟨0, Nat.zero_le _, rfl, fun j hj => absurd hj (by omega), 0, rfl⟩
  case round =>
    obtain ⟨k, hk, rfl, hall, q, rfl⟩ := hrel
    have HA := Lib.hid hall
    clear hall
    by_cases hlt : k < n
    · have h1 : k < zs.length := by omega
      obtain ⟨ad, rfl, _, hc0⟩ := hr.at_ (show (cN zs)[k]? = some (.int .i64 zs[k]) by simp [cN, h1])
      have HE := Lib.hid (List.getElem?_eq_getElem h1)
      generalize zs[k] = z at *
      go_wp2
      · go_ret
        exact ⟨rfl, q, rfl⟩
      · go_roundw
        case rel =>
          refine ⟨k + 1, by omega, by go_num, fun j hj z' hz' => ?_, _, rfl⟩
          rcases Nat.lt_or_ge j k with h | h
          · exact HA.out j h z' hz'
          · obtain rfl : j = k := by omega
            rw [HE.out] at hz'
            obtain rfl := Option.some.inj hz'
            omega
        case measure => simp [intOf]; omega
    · exfalso
      have hk2 : k = n := by omega
      obtain ⟨z, hz, hz0⟩ := List.any_eq_true.1 HNEG.out
      obtain ⟨j, hj, rfl⟩ := List.getElem_of_mem hz
      have := HA.out j (by omega) _ (List.getElem?_eq_getElem hj)
      have h0 := of_decide_eq_true hz0
      omega
end Go.Proofs.YtfiebjfdlplpjaaGreatDoor
end

section
/- A journal within a walk: Fuse, Sync, a crash, what came in. -/
namespace Go.Proofs.YtfiebjfdlplpjaaGreatDoor
open Go.RowKit
set_option linter.unusedVariables false

section
variable {w0 w w' : World} {S T S' T' : Nat → Prop} {j d : Nat} {D D' : Dsk} {J J' : Jn}
theorem At5.disk (h : At5 w0 w S T j d D J) (hk : Dk 0 w' S' d D') (ht : Turn S S' w w') : At5 w0 w' S' T j d D' J := by
  obtain ⟨h1, h2⟩ := h.jd.disk hk ht
  exact h.turn h1 h2
theorem at_fuse (h : At5 w0 w S T j d D J) (n : Int) : Calls Tryz.prog 22 #[.pointer (some ⟨d, 0, none⟩), .int .i64 n] w fun e w' => e = .returned (.int .i64 (dFuse D n).1) ∧ At5 w0 w' S T j d (dFuse D n).2 J :=
  (fuse_any n w h.jd.dk).mono fun e w' ⟨h1, h2, h3⟩ => ⟨h1, h.disk h2 h3⟩
theorem at_sync (h : At5 w0 w S T j d D J) (hr : Room D) (hf : Fits J) : Calls Tryz.prog 11 #[.pointer (some ⟨j, 0, none⟩)] w fun e w' => e = .returned (.int .i64 (jSync lLog D J).1) ∧ ∃ S', At5 w0 w' S' T j d (jSync lLog D J).2.1 (jSync lLog D J).2.2 :=
  (jsync_any w h.jd hr hf).mono fun e w' ⟨h1, S', h2, h3⟩ => ⟨h1, S', h.turn h2 h3⟩
/-- a crash: the journal that stood on it is let go -/
theorem at_crash (h : At5 w0 w S T j d D J) (Ak : Option Addr) (ks : List Int) (n c : Nat) (hr : Room D) (hok : Okd D) (hn : ks.length = n) (hnl : n ≤ 9223372036854775807) (hk64 : ∀ z ∈ ks, z ≤ 9223372036854775807) (hkr : Rds w0 w0.heap.size Ak (cN ks)) :
    Calls Tryz.prog 12 #[.pointer (some ⟨d, 0, none⟩), .slice Ak n c] w fun e w' => e = .returned (.int .i64 (dCrash D ks).1) ∧ ∃ S', Dk 0 w' S' d (dCrash D ks).2 ∧ Below w0.heap.size w0 w' ∧ ∀ k, S' k → w0.heap.size ≤ k := by
  refine (crash_any Ak ks n c w h.jd.dk hr hok hn hnl hk64 ((hkr.below h.below).more h.below.size) (fun ad e hne hs => ?_)).mono ?_
  · obtain ⟨ad', e', hb, _⟩ := hkr hne
    obtain rfl := Option.some.inj (e.symm.trans e')
    have := h.ns _ hs
    omega
  · rintro e w2 ⟨rfl, S', h2, ht⟩
    obtain ⟨h3, h4⟩ := Turn.go h.below (Nat.le_refl _) ht h.ns
    exact ⟨rfl, S', h2, h3, h4⟩
/-- a record of the call's own arguments -/
theorem At5.arg (h : At5 w0 w S T j d D J) {y : RcM} (hy : Rds w0 w0.heap.size y.A (c8 y.r)) : Rds w w.heap.size y.A (c8 y.r) ∧ ∀ ad, y.A = some ad → c8 y.r ≠ [] → ¬ S ad.block ∧ ¬ T ad.block := by
  refine ⟨(hy.below h.below).more h.below.size, fun ad e hne => ?_⟩
  obtain ⟨ad', e', hb, _⟩ := hy hne
  obtain rfl := Option.some.inj (e.symm.trans e')
  exact ⟨fun hs => by have := h.ns _ hs; omega, fun hs => by have := h.nt _ hs; omega⟩
end

end Go.Proofs.YtfiebjfdlplpjaaGreatDoor
end

section
/- The chapter's second example, told by the plain mathematics: up to the greater record. -/
namespace Go.Proofs.YtfiebjfdlplpjaaGreatDoor
set_option linter.unusedVariables false

noncomputable def D3 : Dsk := (jSync lLog D2 J2).2.1
noncomputable def J3 : Jn := (jSync lLog D2 J2).2.2
noncomputable def D4 : Dsk := (jAppend lLog D3 J3 [99]).2.2.1
noncomputable def J4 : Jn := (jAppend lLog D3 J3 [99]).2.2.2
noncomputable def D5 : Dsk := fallen D4 []
noncomputable def J5 : Jn := jnOf [⟨1, [[97], [98]]⟩]
noncomputable def big : List Int := List.replicate 5000 0
noncomputable def D6 : Dsk := (jAppend lLog D5 J5 big).2.2.1
noncomputable def J6 : Jn := (jAppend lLog D5 J5 big).2.2.2
noncomputable def D7 : Dsk := (jAppend lLog D6 J6 [100]).2.2.1
noncomputable def J7 : Jn := (jAppend lLog D6 J6 [100]).2.2.2
noncomputable def D8 : Dsk := (dRemove D7 (segN lLog 1)).2
def Jn.shape (J : Jn) : Bool × Nat × List (Nat × Nat × Nat) := (J.off, J.next, J.segs.map (fun x => (x.num, x.recs.length, x.size)))
set_option maxRecDepth 100000
theorem k3 : (jSync lLog D2 J2).1 = 0 := by kernel_rfl
theorem k4 : (jAppend lLog D3 J3 [99]).1 = 3 := by kernel_rfl
theorem k4' : (jAppend lLog D3 J3 [99]).2.1 = 0 := by kernel_rfl
theorem k5 : opened lLog D5 = J5 := by kernel_rfl
theorem k5' : jOpen lLog D5 = (0, D5) := by kernel_rfl
theorem st3 : St5 lLog D3 J3 [[97], [98]] 2 := by
  obtain ⟨_, _, h3, _⟩ := a2_facts
  obtain ⟨_, _, h | h⟩ := h3.sync okLog
  · exact h.2
  · have := k3
    rw [h.1] at this
    cases this
theorem inv4 : Inv D4 := jAppend_inv st3.inv (good1 99 (by decide))
theorem inv5 : Inv D5 := fallen_inv inv4 rfl
theorem goodbig : Goodr big := ⟨fun y hy => by obtain ⟨_, rfl⟩ := List.mem_replicate.1 hy; decide, by unfold big; rw [List.length_replicate]; decide⟩
theorem d6e : D6 = (jAppend lLog D5 J5 big).2.2.1 := by unfold D6; rfl
theorem j6e : J6 = (jAppend lLog D5 J5 big).2.2.2 := by unfold J6; rfl
theorem d7e : D7 = (jAppend lLog D6 J6 [100]).2.2.1 := by unfold D7; rfl
theorem j7e : J7 = (jAppend lLog D6 J6 [100]).2.2.2 := by unfold J7; rfl
theorem inv6 : Inv D6 := by
  rw [d6e]
  exact jAppend_inv inv5 goodbig
theorem inv7 : Inv D7 := by
  rw [d7e]
  exact jAppend_inv inv6 (good1 100 (by decide))
theorem fits_shape {J : Jn} {nx : Nat} {o : Bool} {l : List (Nat × Nat × Nat)} (h : J.shape = (o, nx, l)) (h1 : nx ≤ 1000) (h2 : l.length ≤ 1000) (h3 : ∀ x ∈ l, x.1 ≤ 1000 ∧ x.2.1 ≤ 1000 ∧ x.2.2 ≤ 1000000) : Fits J ∧ J.segs.length < 1073741824 := by
  unfold Jn.shape at h
  injection h with e1 e2
  injection e2 with e2 e3
  have hl : J.segs.length = l.length := by rw [← e3, List.length_map]
  have hm : ∀ x ∈ J.segs, x.num ≤ 1000 ∧ x.recs.length ≤ 1000 ∧ x.size ≤ 1000000 := fun x hx => h3 (x.num, x.recs.length, x.size) (by rw [← e3]; exact List.mem_map_of_mem (f := fun x : Sg => (x.num, x.recs.length, x.size)) hx)
  refine ⟨⟨by omega, by omega, fun x hx => ?_, fun x hx => ?_, fun x hx => ?_⟩, by omega⟩
  · have := (hm x hx).1
    unfold maxNo
    omega
  · have := (hm x hx).2.1
    omega
  · have := (hm x hx).2.2
    omega
theorem sh5 : J5.shape = (false, 3, [(1, 2, 26)]) := by kernel_rfl
theorem fit5 : Fits J5 ∧ J5.segs.length < 1073741824 := fits_shape sh5 (by decide) (by decide) (by decide)
theorem stp5 : D5.steps ≤ 100 := by decide +kernel
end Go.Proofs.YtfiebjfdlplpjaaGreatDoor
end

section
/- The chapter's second example: the greater record. -/
namespace Go.Proofs.YtfiebjfdlplpjaaGreatDoor
set_option maxRecDepth 100000
theorem k6 : ((jAppend lLog D5 J5 big).1, (jAppend lLog D5 J5 big).2.1, J6.shape) = (3, 0, false, 4, [(1, 3, 5038)]) := by kernel_rfl
end Go.Proofs.YtfiebjfdlplpjaaGreatDoor
end

section
/- The chapter's second example: the record in another segment. -/
namespace Go.Proofs.YtfiebjfdlplpjaaGreatDoor
set_option maxRecDepth 100000
theorem k7 : ((jAppend lLog D6 J6 [100]).1, (jAppend lLog D6 J6 [100]).2.1, J7.shape) = (4, 0, false, 5, [(1, 3, 5038), (4, 1, 13)]) := by kernel_rfl
end Go.Proofs.YtfiebjfdlplpjaaGreatDoor
end

section
/- The chapter's second example: the names, and the removal of the first segment. -/
namespace Go.Proofs.YtfiebjfdlplpjaaGreatDoor
set_option maxRecDepth 100000
theorem n7 : (dNames D7, D7.off) = ([segN lLog 1, segN lLog 4], false) := by kernel_rfl
theorem k8 : ((dRemove D7 (segN lLog 1)).1, D8.off) = (0, false) := by kernel_rfl
end Go.Proofs.YtfiebjfdlplpjaaGreatDoor
end

section
/- Drop of one segment of two, and what is told behind it. -/
namespace Go.Proofs.YtfiebjfdlplpjaaGreatDoor
open Go.RowKit
set_option linter.unusedVariables false

section
variable {w w' : World} {S T S' T' : Nat → Prop} {j d : Nat} {s : ByteArray} {D D' : Dsk} {J J' : Jn}
/-- behind Drop: what First and Read look at -/
structure Dropped (w : World) (S : Nat → Prop) (j d : Nat) (D : Dsk) (nx num : Nat) : Prop where
  dk : Dk 0 w S d D
  c0 : w.cell? ⟨j, 0, none⟩ = some (.pointer (some ⟨j, 0, none⟩))
  c1 : w.cell? ⟨j, 1, none⟩ = some (.pointer (some ⟨d, 0, none⟩))
  c3 : w.cell? ⟨j, 3, none⟩ = some (.bool false)
  c4 : w.cell? ⟨j, 4, none⟩ = some (.int .u64 nx)
  c5 : ∃ g c, w.cell? ⟨j, 5, none⟩ = some (.slice (some ⟨g, 3, none⟩) 1 c) ∧ w.cell? ⟨g, 3, none⟩ = some (.int .u64 num)

set_option maxHeartbeats 4000000 in
set_option maxRecDepth 10000 in
theorem jdrop_one (n : Nat) (w : World) (h : JD w S T j d s D J) (hf : Fits J) (hj : J.off = false) (hD : D.off = false) (a b : Sg) (hs : J.segs = [a, b]) (hn : b.num ≤ n) (hn2 : n ≤ J.next) (hst : D.steps ≤ 1048576) (hok : Okd D) (hrem : (dRemove D (segN s.data.toList a.num)).1 = 0) :
    Calls Tryz.prog 17 #[.pointer (some ⟨j, 0, none⟩), .int .u64 n] w fun e w' => e = .returned (.int .i64 0) ∧ ∃ S', Dropped w' S' j d (dRemove D (segN s.data.toList a.num)).2 J.next b.num ∧ TurnJ S T S' T w w' := by
  have href := jrefusal_any w h
  have hR : jRefused D J = false := by simp [jRefused, hj, hD]
  rw [hR] at href
  simp only [Bool.false_eq_true, if_false] at href
  clear h
  go_enter Tryz.func17, Tryz.ntmps17
  go_wp2_with fail
  refine href.mono ?_
  rintro e w1 ⟨rfl, h1, ht1⟩
  clear href hR
  obtain ⟨vs, ms, hjn, hms⟩ := h1.jo
  rw [hs] at hms
  obtain ⟨ma, mb, rfl⟩ : ∃ ma mb, ms = [ma, mb] := by
    match ms, congrArg List.length hms with
    | [x, y], _ => exact ⟨x, y, rfl⟩
  obtain ⟨rfl, rfl⟩ : a = ma.sg ∧ b = mb.sg := by simpa using hms
  have hrow := hjn.row
  obtain ⟨g, c, hvs, hgv, hc1, hc2⟩ := row_block hrow (by simp)
  have c4 := hjn.c4
  have c5 : w1.cell? ⟨j, 5, none⟩ = some (.slice (some ⟨g, 0, none⟩) 2 c) := by rw [hjn.c5, hvs]; rfl
  have k3 : w1.cell? ⟨g, 3, none⟩ = some (.int .u64 mb.num) := by
    have := (row_cell (i := ([ma] : List SgM).length * 3 + 0) hrow hgv (cG_at [ma] mb [] 0 (by decide))).1
    simpa using this
  have hna : mb.sg.num = mb.num := rfl
  rw [hna] at hn
  have hnI : (mb.num : Int) ≤ (n : Int) := by omega
  have hn2I : ¬ (J.next : Int) < (n : Int) := by omega
  have HJN := Lib.hid hjn
  have H1 := Lib.hid h1
  clear hjn h1 hrow hms hn hn2
  go_wp2_with fail
  refine wp_loop_rounds 2 ?_
  rw [rounds_succ]
  go_wp2_with fail
  have hfs := jfirst_any w1 H1.out
  have hjf : jFirst J = ma.num := by simp [jFirst, hs, SgM.sg]
  rw [hjf] at hfs
  clear hjf
  refine hfs.mono ?_
  rintro e w2 ⟨rfl, hw2⟩
  rw [hw2]
  clear hw2 w2 hfs
  go_wp2_with fail
  have hmn : ma.num ≤ maxNo := hf.nums ma.sg (by rw [hs]; simp)
  refine (jfile_any ma.num hmn w1 H1.out).mono ?_
  rintro e w2 ⟨rfl, hb2⟩
  have H2 := Lib.hid (H1.out.go hb2)
  have hsz := seg_size H1.out.nm ma.num
  have hstp := jstep_any 48 #[] (strOf (segN s.data.toList ma.num)) _ w2 H2.out remove_enters (does_remove _ (by omega) H2.out.dk (okd_room hok (by omega)) hok)
  have HT2 := Lib.hid (ht1.trans (TurnJ.below hb2 : TurnJ S T S T w1 w2))
  clear H1 HJN ht1 hb2 c4 c5 k3 hgv hvs hc1 hc2
  rw [show (dRemove D (segN s.data.toList ma.num)).1 = 0 from hrem, show jEnd J 0 = J by simp [jEnd]] at hstp
  go_wp2_with fail
  refine hstp.mono ?_
  rintro e w3 ⟨rfl, S3, h3, ht3⟩
  have HT3 := Lib.hid (HT2.out.trans ht3)
  clear hstp ht3 HT2 H2
  obtain ⟨vs3, ms3, hjn3, hms3⟩ := h3.jo
  rw [hs] at hms3
  obtain ⟨xa, xb, rfl⟩ : ∃ xa xb, ms3 = [xa, xb] := by
    match ms3, congrArg List.length hms3 with
    | [x, y], _ => exact ⟨x, y, rfl⟩
  obtain ⟨ea, eb⟩ : ma.sg = xa.sg ∧ mb.sg = xb.sg := by simpa using hms3
  have hrow := hjn3.row
  obtain ⟨g, c, hvs, hgv, hc1, hc2⟩ := row_block hrow (by simp)
  have c4 := hjn3.c4
  have c5 : w3.cell? ⟨j, 5, none⟩ = some (.slice (some ⟨g, 0, none⟩) 2 c) := by rw [hjn3.c5, hvs]; rfl
  have k3 : w3.cell? ⟨g, 3, none⟩ = some (.int .u64 xb.num) := by
    have := (row_cell (i := ([xa] : List SgM).length * 3 + 0) hrow hgv (cG_at [xa] xb [] 0 (by decide))).1
    simpa using this
  have exb : xb.num = mb.num := (congrArg Sg.num eb).symm
  rw [exb] at k3
  have q0 := row_cell (i := ([] : List SgM).length * 3 + 0) hrow hgv (cG_at [] xa [xb] 0 (by decide))
  have q1 := row_cell (i := ([] : List SgM).length * 3 + 1) hrow hgv (cG_at [] xa [xb] 1 (by decide))
  have q2 := row_cell (i := ([] : List SgM).length * 3 + 2) hrow hgv (cG_at [] xa [xb] 2 (by decide))
  simp only [List.length_nil, Nat.zero_mul, Nat.zero_add] at q0 q1 q2
  have hc2' : 2 ≤ c := by simpa using hc1
  have hcn : ¬ c = 1 := by omega
  have hTg := hjn3.tv g hgv
  have hTj := hjn3.tj
  obtain ⟨_, _, cs0, hcs0⟩ := ownRow_block hrow hgv
  have hr1 := row_set (i := 0) (u := .int .u64 0) hrow hgv
  obtain ⟨_, _, cs1, hcs1⟩ := ownRow_block hr1 hgv
  have hr2 := row_set (i := 1) (u := .int .i64 0) hr1 hgv
  obtain ⟨_, _, cs2, hcs2⟩ := ownRow_block hr2 hgv
  have hr3 := row_set (i := 2) (u := .slice none 0 0) hr2 hgv
  have ht4 := ((((StayB.refl 51 w3).put (i := 0) (show Whole w3 g _ cs0 from hcs0) (by decide) (.int .u64 0)).put (i := 1) (show Whole _ g _ cs1 from hcs1) (by decide) (.int .i64 0)).put (i := 2) (show Whole _ g _ cs2 from hcs2) (by decide) (.slice none 0 0)).whole hjn3.top
  have f5 := ht4.frozen 5
  have ht5 := ht4.put 5 (.slice (some ⟨g, 3, none⟩) 1 (c - 1))
  have hr4 := ((StayB.refl 73 _).put (i := 5) ht4 (by decide) (.slice (some ⟨g, 3, none⟩) 1 (c - 1))).own hr3
  have hO : Outs T w3 ((((w3.setCell ⟨g, 0, none⟩ (.int .u64 0)).setCell ⟨g, 1, none⟩ (.int .i64 0)).setCell ⟨g, 2, none⟩ (.slice none 0 0)).setCell ⟨j, 5, none⟩ (.slice (some ⟨g, 3, none⟩) 1 (c - 1))) :=
    ((((Outs.refl T w3).setCell (.inl hTg) _).setCell (.inl hTg) _).setCell (.inl hTg) _).setCell (.inl hTj) _
  have hd4 := h3.dk.outs hO (fun k hk ht => h3.dis k ht hk)
  have k4 := (row_cell (i := ([xa] : List SgM).length * 3 + 0) hr4 hgv (by
    show ((((cG [xa, xb]).set 0 _).set 1 _).set 2 _)[3]? = _
    rw [List.getElem?_set_ne (by decide), List.getElem?_set_ne (by decide), List.getElem?_set_ne (by decide)]
    exact cG_at [xa] xb [] 0 (by decide))).1
  rw [exb] at k4
  have hoff3 : J.off = false := hj
  have HDR := Lib.hid (show Dropped _ _ j d _ J.next mb.num from ⟨hd4, ht5.cell 0, ht5.cell 1, by have := ht5.cell 3; rw [hj] at this; exact this, ht5.cell 4, g, c - 1, ht5.cell 5, by simpa using k4⟩)
  have HT4 := Lib.hid (HT3.out.trans (show TurnJ S3 T S3 T w3 _ from ⟨hO.mono fun k hk => .inr hk, fun k hk => .inl hk, fun k hk => .inl hk⟩))
  clear hO hd4 k4 ht5 hr1 hr2 hr3 hr4 hcs0 hcs1 hcs2 ht4 hrow hjn3 hms3 h3 ea eb
  go_wp2_with fail
  rw [rounds_succ]
  have k5 := HDR.out.c5
  obtain ⟨g5, cc5, k5, k6⟩ := k5
  go_wp2
  go_returns
  exact ⟨by simp, S3, HDR.out, HT4.out⟩
theorem dropped_first {nx num : Nat} (h : Dropped w S j d D nx num) :
    Calls Tryz.prog 18 #[.pointer (some ⟨j, 0, none⟩)] w fun e w' => e = .returned (.int .u64 num) ∧ w' = w := by
  have hnb := jnobodys_no j w h.c0
  obtain ⟨g, c, c5, k0⟩ := h.c5
  clear h
  go_enter Tryz.func18, Tryz.ntmps18
  go_wp2_with fail
  refine hnb.mono ?_
  rintro e w1 ⟨rfl, hw1⟩
  rw [hw1]
  clear hw1 w1
  go_wp2
  go_returns
  exact ⟨by simp, rfl⟩
theorem dropped_refusal {nx num : Nat} (h : Dropped w S j d D nx num) (hD : D.off = false) :
    Calls Tryz.prog 39 #[.pointer (some ⟨j, 0, none⟩)] w fun e w' => e = .returned (.int .i64 0) ∧ w' = w := by
  have hnb := jnobodys_no j w h.c0
  have hon := on_any w h.dk
  rw [hD] at hon
  have c1 := h.c1
  have c3 := h.c3
  clear h
  go_enter Tryz.func39, Tryz.ntmps39
  go_wp2_with fail
  refine hnb.mono ?_
  rintro e w1 ⟨rfl, hw1⟩
  rw [hw1]
  clear hw1 w1
  go_wp2_with fail
  refine hon.mono ?_
  rintro e w1 ⟨rfl, hw1⟩
  rw [hw1]
  clear hw1 w1
  go_wp2
  go_returns
  exact ⟨by simp, rfl⟩
theorem dropped_read {nx num : Nat} (h : Dropped w S j d D nx num) (hD : D.off = false) (n : Nat) (hn : n < num) :
    Calls Tryz.prog 19 #[.pointer (some ⟨j, 0, none⟩), .int .u64 n] w fun e w' => e = .returned (.tuple #[.slice none 0 0, .int .i64 6]) ∧ Below w.heap.size w w' := by
  have href := dropped_refusal h hD
  have hfs := dropped_first h
  have c4 := h.c4
  have hlt : (n : Int) < (num : Int) := by omega
  clear h
  go_enter Tryz.func19, Tryz.ntmps19
  go_wp2_with fail
  refine href.mono ?_
  rintro e w1 ⟨rfl, hw1⟩
  rw [hw1]
  clear hw1 w1
  go_wp2_with fail
  refine hfs.mono ?_
  rintro e w1 ⟨rfl, hw1⟩
  rw [hw1]
  clear hw1 w1
  go_wp2
  go_returns
  exact ⟨by simp, Below.refl _ _⟩
end
end Go.Proofs.YtfiebjfdlplpjaaGreatDoor
end
