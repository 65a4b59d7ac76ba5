/- The law's act (a call of a disk, beside a fresh one of the document's) and its fine; fuses as plain mathematics. -/
import Derived.Test.YtnpomiidkdnebaaDAfter
import Derived.Test.YtnpomiidkdnebaaDLives
namespace Go.Proofs.Ytnpomiidkdnebaa
open Go.RowKit
set_option linter.unusedVariables false

def acted (a : Ac) (D : Dsk) : Dsk := if pk a.kd 11 = 8 then D else after a D
theorem Beh.acted {i : Nat} {D : Dsk} (h : Beh i D) (a : Ac) (hn : a.n ≤ 9223372036854775807) (hl : a.b.length ≤ 2000) : Beh (i + 1) (acted a D) := by
  unfold Go.Proofs.Ytnpomiidkdnebaa.acted
  split
  · exact h.more (Nat.le_succ _)
  · exact h.after a hn hl
theorem AcOk.wide {S S2 : Nat → Prop} {w W : World} {a : Ac} (h : AcOk S w a) (hb : Below w.heap.size w W) (h2 : ∀ k, S2 k → w.heap.size ≤ k) : AcOk (fun k => S k ∨ S2 k) W a :=
  { h.go hb with
    bS := fun ad e hne hk => by
      rcases hk with hk | hk
      · exact h.bS ad e hne hk
      · obtain ⟨ad', e', hb', _⟩ := h.rd hne
        rw [e] at e'
        obtain rfl := Option.some.inj e'
        have := h2 _ hk
        omega
    kS := fun ad e hne hk => by
      rcases hk with hk | hk
      · exact h.kS ad e hne hk
      · obtain ⟨ad', e', hb', _⟩ := h.kr hne
        rw [e] at e'
        obtain rfl := Option.some.inj e'
        have := h2 _ hk
        omega }

set_option maxHeartbeats 4000000 in
set_option maxRecDepth 8000 in
theorem act_any (a : Ac) (d : Nat) (D : Dsk) (S : Nat → Prop) (w : World) (h : Dk 0 w S d D) (g : Gd D) (ha : AcOk S w a) :
    Calls Try.prog 29 #[.pointer (some ⟨d, 0, none⟩), .agg (acCells a)] w fun e w' => e = .returned (.tuple #[]) ∧ ∃ S', Dk 0 w' S' d (acted a D) ∧ Turn S S' w w' := by
  have hpk := fun W => pk_any a.kd 11 W (by decide) (by decide) ha.kd
  obtain ⟨hp0, hp1⟩ := pk_range a.kd (n := 11) (by decide)
  have hbx : Below w.heap.size w (w.alloc (.cells (acCells a) 48)) := (Below.refl _ w).alloc (Nat.le_refl _) _
  have hwx : Whole (w.alloc (.cells (acCells a) 48)) w.heap.size 48 (acCells a) := Whole.new _ _ _
  have hsz : (w.alloc (.cells (acCells a) 48)).heap.size = w.heap.size + 1 := by simp
  have k0 := hwx.cell 0
  have k1 := hwx.cell 1
  have k2 := hwx.cell 2
  have k3 := hwx.cell 3
  have k4 := hwx.cell 4
  have k5 := hwx.cell 5
  unfold acCells at k0 k1 k2 k3 k4 k5
  simp only [List.getElem?_toArray, List.getElem?_cons_zero, List.getElem?_cons_succ] at k0 k1 k2 k3 k4 k5
  by_cases h8 : pk a.kd 11 = 8
  · have e1 : acted a D = D := if_pos h8
    rw [e1]
    rw [h8] at hpk
    have hD := h.go hbx
    clear h ha g e1 h8 hwx hp0 hp1
    unfold acCells at *
    obtain ⟨kd, nm, to, A, L, c, b, n, Ak, m, ck, ks⟩ := a
    dsimp only at *
    have HD := Lib.hid hD
    have HB := Lib.hid hbx
    clear hD hbx
    go_enter Try.func29, Try.ntmps29
    go_wp2_with fail
    refine (hpk _).mono ?_
    rintro e w8 ⟨rfl, hw8⟩
    rw [hw8]
    clear hw8 w8
    go_wp2
    go_returns
    exact ⟨by simp, S, HD.out, Turn.below HB.out⟩
  · have e1 : acted a D = after a D := if_neg h8
    rw [e1]
    have hne : (pk a.kd 11 != 8) = true := by simpa using h8
    have hnew := rnew_any 0 (by decide) (w.alloc (.cells (acCells a) 48))
    have hst := fun (W : World) (hb : Below (w.alloc (.cells (acCells a) 48)).heap.size (w.alloc (.cells (acCells a) 48)) W) (S2 : Nat → Prop) (x : Nat) (hx : Rf W S2 x (dNew 0)) (h2 : ∀ k, S2 k → (w.alloc (.cells (acCells a) 48)).heap.size ≤ k) =>
      stepk_any a d x D (dNew 0) (fun k => S k ∨ S2 k) W ⟨S, S2, h.go (hbx.trans (hb.mono hbx.size)), hx, fun k hk hk' => by have h1 := h.lt k hk; have h3 := h2 k hk'; have h4 := hbx.size; omega, fun k => Iff.rfl⟩ g ((Beh.new 0 (by decide)).gd (by decide)) (ha.wide (hbx.trans (hb.mono hbx.size)) (fun k hk => Nat.le_trans hbx.size (h2 k hk)))
    have hk' : ∀ W, Below (w.alloc (.cells (acCells a) 48)).heap.size (w.alloc (.cells (acCells a) 48)) W → ∀ i, W.cell? ⟨w.heap.size, i, none⟩ = (acCells a)[i]? := fun W hb i => by
      rw [hb.cell (p := ⟨w.heap.size, i, none⟩) (by rw [hsz]; exact Nat.lt_succ_self _)]
      exact hwx.cell i
    have HK := Lib.hid hk'
    have HB := Lib.hid hbx
    have HST := Lib.hid hst
    clear h ha g e1 h8 hwx hp0 hp1 hbx hst hk'
    unfold acCells at *
    obtain ⟨kd, nm, to, A, L, c, b, n, Ak, m, ck, ks⟩ := a
    dsimp only at *
    go_enter Try.func29, Try.ntmps29
    go_wp2_with fail
    refine (hpk _).mono ?_
    rintro e w8 ⟨rfl, hw8⟩
    rw [hw8]
    clear hw8 w8
    go_wp2_with fail
    refine hnew.mono ?_
    rintro e w2 ⟨S2, x, rfl, hx, hb2, h2⟩
    have j0 := HK.out w2 hb2 0
    have j1 := HK.out w2 hb2 1
    have j2 := HK.out w2 hb2 2
    have j3 := HK.out w2 hb2 3
    have j4 := HK.out w2 hb2 4
    have j5 := HK.out w2 hb2 5
    simp only [List.getElem?_toArray, List.getElem?_cons_zero, List.getElem?_cons_succ] at j0 j1 j2 j3 j4 j5
    have hstp := HST.out w2 hb2 S2 x hx h2
    have hb02 := HB.out.trans (hb2.mono HB.out.size)
    have h2' : ∀ k, S2 k → w.heap.size ≤ k := fun k hk => Nat.le_trans HB.out.size (h2 k hk)
    have HB2 := Lib.hid hb02
    have HH2 := Lib.hid h2'
    clear hnew k0 k1 k2 k3 k4 k5 hpk hx h2 h2' hb02 hb2 hsz
    go_wp2_with fail
    refine hstp.mono ?_
    rintro e w3 ⟨bb, rfl, _, S', ⟨Sd, Sx, hd3, _, _, hS'⟩, hT⟩
    have hfin : ∃ S', Dk 0 w3 S' d (after ⟨kd, nm, to, A, L, c, b, n, Ak, m, ck, ks⟩ D) ∧ Turn S S' w w3 := by
      refine ⟨Sd, hd3, ?_, fun k hk => ?_⟩
      · have hb := HB2.out
        have ho := hT.outs
        exact ⟨ho.os.trans hb.os, ho.tape.trans hb.tape, ho.output.trans hb.output, Nat.le_trans hb.size ho.size, fun k hk hn => (ho.block k (Nat.lt_of_lt_of_le hk hb.size) (fun e => by
          rcases e with e | e
          · exact hn e
          · have := HH2.out k e; omega)).trans (hb.block k hk)⟩
      · rcases hT.new k ((hS' k).2 (.inl hk)) with (h | h) | h
        · exact .inl h
        · exact .inr (HH2.out k h)
        · exact .inr (Nat.le_trans HB2.out.size h)
    have HF := Lib.hid hfin
    clear hfin hT hd3 hS' hstp
    go_wp2
    go_returns
    exact ⟨by simp, HF.out⟩

set_option maxHeartbeats 1000000 in
theorem fine_any (A : Option Addr) (ks : List Int) (n c lim : Nat) (w : World) (hn : ks.length = n) (hl : n ≤ 9223372036854775807) (hr : Rds w lim A (cN ks)) :
    Calls Try.prog 30 #[.slice A n c] w fun e w' => e = .returned (.bool (!ks.any isNeg)) ∧ w' = w := by
  have hn63 : (n : Int) ≤ 9223372036854775807 := by omega
  have HN := Lib.hid hn
  have HR := Lib.hid hr
  generalize hb : ks.any isNeg = bb
  have HB := Lib.hid hb
  clear hn hr hb
  go_enter Try.func30, Try.ntmps30
  go_wp2
  go_loop [3] (fun i => ∃ k : Nat, k ≤ n ∧ i = .int .i64 k ∧ (ks.take k).any isNeg = false) (fun i => n - (intOf i).toNat)
  case atStart => exact ⟨0, Nat.zero_le _, rfl, rfl⟩
  case round =>
    obtain ⟨k, hk, rfl, hall⟩ := hrel
    have HA := Lib.hid hall
    clear hall
    by_cases hlt : k < n
    · have hkl : k < ks.length := by rw [HN.out]; exact hlt
      obtain ⟨ad, rfl, _, hcell⟩ := HR.out.at_ (cN_get hkl)
      by_cases hz : ks[k] < 0
      · have hbt : bb = true := by
          rw [← HB.out]
          exact List.any_eq_true.2 ⟨_, List.getElem_mem hkl, by simpa [isNeg] using hz⟩
        subst hbt
        generalize ks[k] = z at *
        go_wp2
        go_returns
        exact ⟨by simp, rfl⟩
      · have hnx : (ks.take (k + 1)).any isNeg = false := by
          rw [List.take_add_one, List.getElem?_eq_getElem hkl, List.any_append, HA.out]
          simp [isNeg]
          omega
        have HX := Lib.hid hnx
        clear hnx
        generalize ks[k] = z at *
        go_wp2
        go_round
        case rel => exact ⟨k + 1, by omega, by go_num, HX.out⟩
        case measure => simp [intOf]; omega
    · have hbt : bb = false := by
        rw [← HB.out, ← HA.out, List.take_of_length_le (by rw [HN.out]; omega)]
      subst hbt
      go_wp2
      go_returns
      exact ⟨by simp, rfl⟩

/-! ## fuses -/
/-- c is d, with a fuse of n steps in all -/
def Fz (n : Nat) (D C : Dsk) : Prop := D.fuse = -1 ∧ D.off = false ∧ D.steps ≤ n ∧ C = { D with fuse := (n : Int) - D.steps }
/-- behind a call: as before, or the fuse has burned down -/
def Fzd (n : Nat) (D C : Dsk) : Prop := Fz n D C ∨ (n < D.steps ∧ C.off = true ∧ C.steps = n)
theorem fz_step {n : Nat} {D C : Dsk} (h : Fz n D C) (t : List Fl → List Fl) : Fzd n (dStep D t).2 (dStep C t).2 := by
  obtain ⟨h1, h2, h3, rfl⟩ := h
  have e1 : dStep D t = (0, { tick D with files := t D.files }) := if_neg (by omega)
  rw [e1]
  by_cases hz : (n : Int) - D.steps = 0
  · have e2 : dStep { D with fuse := (n : Int) - D.steps } t = (10, fall { D with fuse := (n : Int) - D.steps }) := if_pos hz
    rw [e2]
    exact .inr ⟨by show n < D.steps + 1; omega, rfl, by show D.steps = n; omega⟩
  · have e2 : dStep { D with fuse := (n : Int) - D.steps } t = (0, { tick { D with fuse := (n : Int) - D.steps } with files := t D.files }) := if_neg hz
    rw [e2]
    refine .inl ⟨by simp [tick, h1], h2, by show D.steps + 1 ≤ n; omega, ?_⟩
    have hm : ¬ (n : Int) - D.steps = -1 := by omega
    simp only [tick, h1, if_neg hm]
    simp only [Dsk.mk.injEq, true_and]
    exact ⟨by simp; omega, trivial⟩
theorem fz_ask {n : Nat} {D C : Dsk} (h : Fz n D C) (l : List Nm) : ask C l = ask D l := by
  obtain ⟨_, _, _, rfl⟩ := h
  rfl
theorem fz_files {n : Nat} {D C : Dsk} (h : Fz n D C) : C.files = D.files := by
  obtain ⟨_, _, _, rfl⟩ := h
  rfl
theorem fz_left {n : Nat} {D C : Dsk} (h : Fz n D C) : left C = left D := by
  obtain ⟨_, _, _, rfl⟩ := h
  rfl
theorem steps_puts' (l : Nm) (ps : List (List Int)) (D : Dsk) : D.steps ≤ (puts l D ps).2.steps := (steps_puts l ps D).2.1
theorem fz_puts (l : Nm) {n : Nat} : ∀ (ps : List (List Int)) (D C : Dsk), Fz n D C → Fzd n (puts l D ps).2 (puts l C ps).2
  | [], D, C, h => .inl h
  | p :: ps, D, C, h => by
    obtain ⟨h1, h2, h3, rfl⟩ := h
    have e1 : puts l D (p :: ps) = puts l { tick D with files := put1 l p D.files } ps := by rw [puts]; exact if_neg (by omega)
    rw [e1]
    by_cases hz : (n : Int) - D.steps = 0
    · have e2 : puts l { D with fuse := (n : Int) - D.steps } (p :: ps) = (10, fall { D with fuse := (n : Int) - D.steps }) := by rw [puts]; exact if_pos hz
      rw [e2]
      refine .inr ⟨?_, rfl, by show D.steps = n; omega⟩
      have := steps_puts' l ps { tick D with files := put1 l p D.files }
      have e3 : ({ tick D with files := put1 l p D.files } : Dsk).steps = D.steps + 1 := rfl
      omega
    · have e2 : puts l { D with fuse := (n : Int) - D.steps } (p :: ps) = puts l { tick { D with fuse := (n : Int) - D.steps } with files := put1 l p D.files } ps := by rw [puts]; exact if_neg hz
      rw [e2]
      refine fz_puts l ps _ _ ⟨by simp [tick, h1], h2, by show D.steps + 1 ≤ n; omega, ?_⟩
      have hm : ¬ (n : Int) - D.steps = -1 := by omega
      simp only [tick, h1, if_neg hm]
      simp only [Dsk.mk.injEq, true_and]
      exact ⟨by simp; omega, trivial⟩
theorem fz_acted {n : Nat} {D C : Dsk} (h : Fz n D C) (a : Ac) (hk : pk a.kd 11 ≤ 4) : Fzd n (acted a D) (acted a C) := by
  have hr := pk_range a.kd (n := 11) (by decide)
  unfold acted
  rw [if_neg (by omega), if_neg (by omega)]
  have hf := fz_files h
  have same : Fzd n D C := .inl h
  unfold after turned
  split
  · unfold dMake
    rw [fz_ask h, hf]
    split; exact same
    split; exact same
    exact fz_step h _
  split
  · unfold dAppend
    rw [fz_ask h, hf, fz_left h]
    split; exact same
    split; exact same
    split; exact same
    exact fz_puts _ _ _ _ h
  split
  · unfold dSync
    rw [fz_ask h, hf]
    split; exact same
    split; exact same
    exact fz_step h _
  split
  · unfold dRename
    rw [fz_ask h, hf]
    split; exact same
    split; exact same
    split; exact same
    exact fz_step h _
  split
  · unfold dRemove
    rw [fz_ask h, hf]
    split; exact same
    split; exact same
    exact fz_step h _
  · exfalso; omega

theorem below_of {S : Nat → Prop} {W wr w' : World} (hb : Below W.heap.size W wr) (ho : Outs S wr w') (hS : ∀ k, S k → W.heap.size ≤ k) : Below W.heap.size W w' :=
  ⟨ho.os.trans hb.os, ho.tape.trans hb.tape, ho.output.trans hb.output, Nat.le_trans hb.size ho.size, fun j hj => (ho.block j (Nat.lt_of_lt_of_le hj hb.size) (fun hk => by have := hS j hk; omega)).trans (hb.block j hj)⟩
theorem turn_far {S S' : Nat → Prop} {W wr w' : World} (hb : Below W.heap.size W wr) (hT : Turn S S' wr w') (hS : ∀ k, S k → W.heap.size ≤ k) : ∀ k, S' k → W.heap.size ≤ k := fun k hk => by
  rcases hT.new k hk with h | h
  · exact hS k h
  · exact Nat.le_trans hb.size h

end Go.Proofs.Ytnpomiidkdnebaa
