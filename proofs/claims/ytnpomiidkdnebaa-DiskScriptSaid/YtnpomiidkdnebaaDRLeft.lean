/- Walks over what the document's disk tells. -/
import Derived.Test.YtnpomiidkdnebaaDRWalk
namespace Go.Proofs.Ytnpomiidkdnebaa
open Go.RowKit
set_option linter.unusedVariables false

theorem used_app (a b : List Fl) : used (a ++ b) = used a + used b := by
  induction a with
  | nil => simp [used]
  | cons f a ih => rw [List.cons_append, used_cons, used_cons, ih]; omega
theorem used_take_succ {fs : List Fl} {k : Nat} (h : k < fs.length) : used (fs.take (k + 1)) = used (fs.take k) + fs[k].bs.length := by
  rw [List.take_add_one, List.getElem?_eq_getElem h, used_app]
  simp [used]
theorem used_take_le (fs : List Fl) (k : Nat) : used (fs.take k) ≤ used fs := by
  have : used fs = used (fs.take k) + used (fs.drop k) := by rw [← used_app, List.take_append_drop]
  omega

/-- what a row of files is as a slice -/
theorem rowed {w : World} {v : Value} {rs : List RFl} (h : w.ownsRow 0 95 3 v rs.length (cR rs)) :
    ∃ A c, v = .slice A rs.length c ∧ (rs.length : Int) ≤ 9223372036854775807 ∧ rs.length ≤ c ∧ c ≤ maxLen ∧ ∀ k (hk : k < rs.length), ∃ g, A = some ⟨g, 0, none⟩ ∧ v.ownBlock = some g ∧ w.cell? ⟨g, k * 3, none⟩ = some (.string ⟨rs[k].f.nm.toArray⟩) ∧ w.cell? ⟨g, k * 3 + 1, none⟩ = some rs[k].v ∧ w.cell? ⟨g, k * 3 + 2, none⟩ = some (.int .i64 rs[k].f.sy) ∧ ∀ i, w.frozen? ⟨g, i, none⟩ = false := by
  rcases h.2 with ⟨rfl, h0⟩ | ⟨g, cap, cur, rfl, _, hh, h1, h2, h3, h4⟩
  · exact ⟨none, 0, by rw [h0], by rw [h0]; decide, by omega, by unfold maxLen; omega, fun k hk => by omega⟩
  · have hwh : Whole w g 95 cur := hh
    refine ⟨_, cap, rfl, by unfold maxLen at h2; omega, h1, h2, fun k hk => ⟨g, rfl, rfl, ?_, ?_, ?_, fun i => hwh.frozen i⟩⟩
    all_goals (
      rw [hwh.cell, ← Array.getElem?_toList]
      have e : ∀ i, i < rs.length * 3 → cur.toList[i]? = (cR rs)[i]? := fun i hi => by
        rw [← h4, List.getElem?_take, if_pos hi]
      rw [e _ (by omega)])
    · exact cR_get0 hk
    · exact cR_get1 hk
    · exact cR_get2 hk

section
variable {S : Nat → Prop} {x : Nat} {v : Value} {rs : List RFl} {fz : Int} {D : Dsk}

set_option maxHeartbeats 1000000 in
set_option maxRecDepth 5000 in
theorem rleft_any (w : World) (h : RfAt w S x v rs fz D) (hok : Okd D) :
    Calls Try.prog 72 #[.pointer (some ⟨x, 0, none⟩)] w fun e w' => e = .returned (.int .i64 (left D)) ∧ w' = w := by
  have c0 := h.c0
  have c1 := h.c1
  obtain ⟨A, c, rfl, hc63, hnc, hcm, hA⟩ := rowed h.own
  have hlen := h.len
  have hnm : ∀ k (hk : k < rs.length), D.files[k]? = some rs[k].f := fun k hk => h.nm hk
  have hby : ∀ k (hk : k < rs.length), ∃ B b, rs[k].v = .slice B rs[k].f.bs.length b := fun k hk => by
    obtain ⟨B, b, e, _⟩ := own_open (h.byt _ (List.getElem_mem hk))
    exact ⟨B, b, e⟩
  have hle : ∀ k, used (D.files.take k) ≤ D.room := fun k => Nat.le_trans (used_take_le _ _) hok.fits
  have hroom := hok.room
  obtain ⟨n, hn⟩ : ∃ n, n = rs.length := ⟨_, rfl⟩
  rw [← hn] at c1 hnc hc63
  have HA := Lib.hid hA
  have HN := Lib.hid hn
  have HL := Lib.hid hlen
  have HF := Lib.hid hnm
  have HB := Lib.hid hby
  have HLE := Lib.hid hle
  obtain ⟨R, hR⟩ : ∃ R, R = D.room := ⟨_, rfl⟩
  rw [← hR] at c0 hroom
  have HR := Lib.hid hR
  clear hn hlen hA h hnm hby hle hR hcm
  have HI := Lib.hid (show ∃ q : Nat, used (D.files.take 0) = q from ⟨_, rfl⟩)
  go_enter Try.func72, Try.ntmps72
  go_wp2
  go_loop [3, 4] (fun m i => ∃ k u : Nat, k ≤ n ∧ i = .int .i64 k ∧ u = used (D.files.take k) ∧ u ≤ R ∧ m = .int .i64 ((R : Int) - (u : Int))) (fun _ i => n - (intOf i).toNat)
  case atStart => exact ⟨0, 0, Nat.zero_le _, rfl, by simp [used], Nat.zero_le _, by simp⟩
  case round =>
    obtain ⟨k, u, hk, rfl, hu, huR, rfl⟩ := hrel
    have HU := Lib.hid hu
    clear hu
    by_cases hlt : k < n
    · have hkr : k < rs.length := by rw [← HN.out]; exact hlt
      have hkf : k < D.files.length := by rw [← HL.out]; exact hkr
      obtain ⟨g, rfl, _, _, hcell, _⟩ := HA.out k hkr
      obtain ⟨B, b, hv⟩ := HB.out k hkr
      rw [hv] at hcell
      have hfk : D.files[k] = rs[k].f := by
        have := HF.out k hkr
        rw [List.getElem?_eq_getElem hkf] at this
        exact Option.some.inj this
      have hs := used_take_succ hkf
      have hle2 := HLE.out (k + 1)
      rw [hfk, ← HU.out] at hs
      rw [hs, ← HR.out] at hle2
      have HS := Lib.hid hs
      clear hv hfk hs
      generalize rs[k].f.bs.length = q at *
      go_wp2
      go_round
      case rel => exact ⟨k + 1, u + q, by omega, by go_num, HS.out.symm, hle2, by congr 1; omega⟩
      case measure => simp [intOf]; omega
    · have hkn : k = n := by omega
      have hfin : u = used D.files := by
        rw [HU.out, List.take_of_length_le (by rw [← HL.out, ← HN.out]; omega)]
      have HFin := Lib.hid hfin
      clear hfin
      go_wp2
      go_returns
      exact ⟨by simp only [left]; rw [← HFin.out, ← HR.out]; simp, rfl⟩
theorem rLeft_any (w : World) (h : RfAt w S x v rs fz D) (hok : Okd D) :
    Calls Try.prog 61 #[.pointer (some ⟨x, 0, none⟩)] w fun e w' => e = .returned (.int .i64 (dLeft D)) ∧ w' = w := by
  have c4 := h.c4
  have hcon := rleft_any w h hok
  cases ho : D.off
  · have e : dLeft D = left D := by simp [dLeft, ho]
    rw [e]
    rw [ho] at c4
    generalize left D = L at *
    clear h
    go_enter Try.func61, Try.ntmps61
    go_wp2_with fail
    refine hcon.mono ?_
    rintro e w1 ⟨rfl, rfl⟩
    go_wp2
    go_returns
    exact ⟨by simp, rfl⟩
  · have e : dLeft D = 0 := by simp [dLeft, ho]
    rw [e]
    rw [ho] at c4
    clear h hcon
    go_enter Try.func61, Try.ntmps61
    go_wp2
    go_returns
    exact ⟨by simp, rfl⟩

/-- the first half of a call of one name: asked, and placed -/
theorem rhalf (s : ByteArray) (hs : s.size ≤ 9223372036854775807) (w : World) (h : RfAt w S x v rs fz D) (hok : Okd D) :
    (Calls Try.prog 68 #[.pointer (some ⟨x, 0, none⟩), .slice (some ⟨w.heap.size, 0, none⟩) 1 1] (w.alloc (.cells #[.string s] 9)) fun e w' => e = .returned (.int .i64 (ask D [lst s])) ∧ ∃ q, w' = (w.alloc (.cells #[.string s] 9)).drewN q) ∧
    ∀ q, Calls Try.prog 69 #[.pointer (some ⟨x, 0, none⟩), .string s] ((w.alloc (.cells #[.string s] 9)).drewN q) fun e w' => e = .returned (.tuple #[.int .i64 (pos D.files (lst s)), .bool (hit D.files (lst s))]) ∧ w' = (w.alloc (.cells #[.string s] 9)).drewN q := by
  have hb : Below w.heap.size w (w.alloc (.cells #[.string s] 9)) := (Below.refl _ w).alloc (Nat.le_refl _) _
  exact ⟨rasked_any [⟨s, hs⟩] w.heap.size 1 1 _ (h.go hb) rfl (by decide) (one_text s hs w _), fun q => rplace_any s _ (h.go (bDrewN hb q)) hok.srt⟩

/-- the file that is found -/
theorem RfAt.at_ {w : World} (h : RfAt w S x v rs fz D) (hok : Okd D) {l : Nm} {f : Fl} (hf : find D.files l = some f) :
    ∃ g n c r B b, v = .slice (some ⟨g, 0, none⟩) n c ∧ S g ∧ n = rs.length ∧ (n : Int) ≤ 9223372036854775807 ∧ n ≤ c ∧ pos D.files l < n ∧ rs[pos D.files l]? = some r ∧ r.f = f ∧ r.v = .slice B f.bs.length b ∧
      w.cell? ⟨g, pos D.files l * 3, none⟩ = some (.string ⟨f.nm.toArray⟩) ∧ w.cell? ⟨g, pos D.files l * 3 + 1, none⟩ = some (.slice B f.bs.length b) ∧ w.cell? ⟨g, pos D.files l * 3 + 2, none⟩ = some (.int .i64 f.sy) ∧ ∀ i, w.frozen? ⟨g, i, none⟩ = false := by
  obtain ⟨A, c, rfl, h63, hnc, hcm, hA⟩ := rowed h.own
  have hl := pos_lt_len hok.srt hf
  have hkr : pos D.files l < rs.length := by rw [h.len]; exact hl
  have hfk : rs[pos D.files l].f = f := by
    have h1 := h.nm hkr
    rw [find_at hok.srt hf] at h1
    exact (Option.some.inj h1).symm
  obtain ⟨g, rfl, hgo, k0, k1, k2, hfr⟩ := hA _ hkr
  obtain ⟨B, b, hv, _⟩ := own_open (h.byt _ (List.getElem_mem hkr))
  rw [hfk] at hv k0 k2
  rw [hv] at k1
  exact ⟨g, _, c, rs[pos D.files l], B, b, rfl, h.sv g hgo, rfl, h63, hnc, hkr, List.getElem?_eq_getElem hkr, hfk, hv, k0, k1, k2, hfr⟩

set_option maxHeartbeats 1000000 in
set_option maxRecDepth 5000 in
theorem rsynced_any (s : ByteArray) (hs : s.size ≤ 9223372036854775807) (w : World) (h : RfAt w S x v rs fz D) (hok : Okd D) :
    Calls Try.prog 58 #[.pointer (some ⟨x, 0, none⟩), .string s] w fun e w' => e = .returned (.tuple #[.int .i64 (dSynced D (lst s)).1, .int .i64 (dSynced D (lst s)).2]) ∧ Below w.heap.size w w' := by
  obtain ⟨hk, hp⟩ := rhalf s hs w h hok
  have hb : ∀ q, Below w.heap.size w ((w.alloc (.cells #[.string s] 9)).drewN q) := fun q => bDrewN ((Below.refl _ w).alloc (Nat.le_refl _) _) q
  by_cases ha : ask D [lst s] = 0
  · rw [ha] at hk
    cases hf : find D.files (lst s) with
    | none =>
      have e1 : dSynced D (lst s) = (0, 6) := by unfold dSynced; rw [if_neg (by rw [ha]; simp), hf]
      have e2 : hit D.files (lst s) = false := by unfold hit; rw [hf]; rfl
      rw [e1]
      rw [e2] at hp
      generalize pos D.files (lst s) = k at *
      clear e1 e2 h hf
      go_enter Try.func58, Try.ntmps58
      go_wp2_with fail
      refine hk.mono ?_
      rintro e w1 ⟨rfl, q, rfl⟩
      go_wp2_with fail
      refine (hp q).mono ?_
      rintro e w2 ⟨rfl, rfl⟩
      go_wp2
      go_returns
      exact ⟨by simp, hb q⟩
    | some f =>
      have e1 : dSynced D (lst s) = (f.sy, 0) := by unfold dSynced; rw [if_neg (by rw [ha]; simp), hf]
      have e2 : hit D.files (lst s) = true := by unfold hit; rw [hf]; rfl
      rw [e1]
      rw [e2] at hp
      have hq : ∀ q, RfAt ((w.alloc (.cells #[.string s] 9)).drewN q) S x v rs fz D := fun q => h.go (hb q)
      obtain ⟨g, n, c, r, B, b, rfl, _, _, hn63, hnc, hkn, hr, hrf, hv, k0, k1, k2, _⟩ := (hq 0).at_ hok hf
      have c1 : ∀ q, ((w.alloc (.cells #[.string s] 9)).drewN q).cell? ⟨x, 1, none⟩ = some (.slice (some ⟨g, 0, none⟩) n c) := fun q => (hq q).c1
      have k2' : ∀ q, ((w.alloc (.cells #[.string s] 9)).drewN q).cell? ⟨g, pos D.files (lst s) * 3 + 2, none⟩ = some (.int .i64 f.sy) := fun q => k2
      generalize pos D.files (lst s) = k at *
      generalize f.sy = y at *
      clear e1 e2 h hf hq hr hv k1 k2 k0
      go_enter Try.func58, Try.ntmps58
      go_wp2_with fail
      refine hk.mono ?_
      rintro e w1 ⟨rfl, q, rfl⟩
      go_wp2_with fail
      refine (hp q).mono ?_
      rintro e w2 ⟨rfl, rfl⟩
      have c1q := c1 q
      have k2q := k2' q
      have hbq := hb q
      clear c1 k2' hb hk hp
      generalize (w.alloc (.cells #[.string s] 9)).drewN q = W at *
      go_wp2
      go_returns
      exact ⟨by simp, hbq⟩
  · have e1 : dSynced D (lst s) = (0, ask D [lst s]) := by unfold dSynced; rw [if_pos ha]
    rw [e1]
    have hn : (ask D [lst s] != 0) = true := by simpa using ha
    generalize ask D [lst s] = fc at *
    clear e1 h ha
    go_enter Try.func58, Try.ntmps58
    go_wp2_with fail
    refine hk.mono ?_
    rintro e w1 ⟨rfl, q, rfl⟩
    go_wp2
    go_returns
    exact ⟨by simp, hb q⟩
end
end Go.Proofs.Ytnpomiidkdnebaa
