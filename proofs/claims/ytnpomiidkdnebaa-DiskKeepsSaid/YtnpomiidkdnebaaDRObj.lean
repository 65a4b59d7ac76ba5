/- The document's disk in memory. -/
import Derived.Test.YtnpomiidkdnebaaDRMath
import Derived.Test.YtnpomiidkdnebaaDOk
namespace Go.Proofs.Ytnpomiidkdnebaa
open Go.RowKit
set_option linter.unusedVariables false

/-- a file in memory -/
structure RFl where
  f : Fl
  v : Value

def cR (rs : List RFl) : List Value := rs.flatMap (fun r => [.string ⟨r.f.nm.toArray⟩, r.v, .int .i64 r.f.sy])
theorem cR_nil : cR [] = [] := rfl
theorem cR_cons (r : RFl) (rs : List RFl) : cR (r :: rs) = .string ⟨r.f.nm.toArray⟩ :: r.v :: .int .i64 r.f.sy :: cR rs := rfl
theorem cR_append (a b : List RFl) : cR (a ++ b) = cR a ++ cR b := by simp [cR]
theorem cR_length (rs : List RFl) : (cR rs).length = rs.length * 3 := by
  induction rs with
  | nil => rfl
  | cons r rs ih => rw [cR_cons]; simp only [List.length_cons, ih]; omega
theorem cR_take (rs : List RFl) (k : Nat) : cR (rs.take k) = (cR rs).take (k * 3) := by
  induction rs generalizing k with
  | nil => simp [cR]
  | cons r rs ih =>
    cases k with
    | zero => simp [cR]
    | succ k => rw [List.take_succ_cons, cR_cons, cR_cons, ih, show (k + 1) * 3 = k * 3 + 1 + 1 + 1 by omega]; rfl
theorem cR_drop (rs : List RFl) (k : Nat) : cR (rs.drop k) = (cR rs).drop (k * 3) := by
  induction rs generalizing k with
  | nil => simp [cR]
  | cons r rs ih =>
    cases k with
    | zero => simp
    | succ k => rw [List.drop_succ_cons, cR_cons, ih, show (k + 1) * 3 = k * 3 + 1 + 1 + 1 by omega]; rfl
theorem cR_get0 {rs : List RFl} {k : Nat} (h : k < rs.length) : (cR rs)[k * 3]? = some (.string ⟨rs[k].f.nm.toArray⟩) := by
  have := cR_drop rs k
  rw [List.drop_eq_getElem_cons h, cR_cons] at this
  have e : ((cR rs).drop (k * 3))[0]? = some (.string ⟨rs[k].f.nm.toArray⟩) := by rw [← this]; rfl
  rwa [List.getElem?_drop, Nat.add_zero] at e
theorem cR_get1 {rs : List RFl} {k : Nat} (h : k < rs.length) : (cR rs)[k * 3 + 1]? = some rs[k].v := by
  have := cR_drop rs k
  rw [List.drop_eq_getElem_cons h, cR_cons] at this
  have e : ((cR rs).drop (k * 3))[1]? = some rs[k].v := by rw [← this]; rfl
  rwa [List.getElem?_drop] at e
theorem cR_get2 {rs : List RFl} {k : Nat} (h : k < rs.length) : (cR rs)[k * 3 + 2]? = some (.int .i64 rs[k].f.sy) := by
  have := cR_drop rs k
  rw [List.drop_eq_getElem_cons h, cR_cons] at this
  have e : ((cR rs).drop (k * 3))[2]? = some (.int .i64 rs[k].f.sy) := by rw [← this]; rfl
  rwa [List.getElem?_drop] at e
theorem cR_set1 {rs : List RFl} {k : Nat} (h : k < rs.length) (v : Value) (r' : RFl) (h1 : r'.f.nm = rs[k].f.nm) (h2 : r'.f.sy = rs[k].f.sy) (hv : r'.v = v) : (cR rs).set (k * 3 + 1) v = cR (rs.set k r') := by
  induction rs generalizing k with
  | nil => simp at h
  | cons r rs ih =>
    cases k with
    | zero =>
      simp only [List.getElem_cons_zero] at h1 h2
      rw [List.set_cons_zero, cR_cons, cR_cons, h1, h2, hv]
      rfl
    | succ k =>
      rw [List.set_cons_succ, cR_cons, cR_cons, ← ih (by simpa using h) (by simpa using h1) (by simpa using h2), show (k + 1) * 3 + 1 = (k * 3 + 1) + 1 + 1 + 1 by omega]
      rfl
theorem cR_set2 {rs : List RFl} {k : Nat} (h : k < rs.length) (n : Nat) (r' : RFl) (h1 : r'.f.nm = rs[k].f.nm) (h2 : r'.f.sy = n) (hv : r'.v = rs[k].v) : (cR rs).set (k * 3 + 2) (.int .i64 n) = cR (rs.set k r') := by
  induction rs generalizing k with
  | nil => simp at h
  | cons r rs ih =>
    cases k with
    | zero =>
      simp only [List.getElem_cons_zero] at h1 hv
      rw [List.set_cons_zero, cR_cons, cR_cons, h1, h2, hv]
      rfl
    | succ k =>
      rw [List.set_cons_succ, cR_cons, cR_cons, ← ih (by simpa using h) (by simpa using h1) (by simpa using hv), show (k + 1) * 3 + 2 = (k * 3 + 2) + 1 + 1 + 1 by omega]
      rfl

def rTop (v : Value) (fz : Int) (D : Dsk) : Array Value := #[.int .i64 D.room, v, .bool (decide (D.fuse ≠ -1)), .int .i64 fz, .bool D.off, .int .i64 D.steps]

structure RfAt (w : World) (S : Nat → Prop) (x : Nat) (v : Value) (rs : List RFl) (fz : Int) (D : Dsk) : Prop where
  top : Whole w x 83 (rTop v fz D)
  own : w.ownsRow 0 95 3 v rs.length (cR rs)
  files : rs.map (·.f) = D.files
  byt : ∀ r ∈ rs, w.ownsRow 0 5 1 r.v r.f.bs.length (c8 r.f.bs)
  fz : D.fuse ≠ -1 → fz = D.fuse
  sx : S x
  sv : ∀ g, v.ownBlock = some g → S g
  sb : ∀ r ∈ rs, ∀ g, r.v.ownBlock = some g → S g
  lt : ∀ k, S k → k < w.heap.size

def Rf (w : World) (S : Nat → Prop) (x : Nat) (D : Dsk) : Prop := ∃ v rs fz, RfAt w S x v rs fz D

section
variable {S S2 : Nat → Prop} {w w' : World} {x : Nat} {v : Value} {rs : List RFl} {fz : Int} {D : Dsk}
theorem RfAt.outs (h : RfAt w S x v rs fz D) (ho : Outs S2 w w') (hn : ∀ k, S k → ¬ S2 k) : RfAt w' S x v rs fz D :=
  { top := h.top.outs ho (hn _ h.sx)
    own := ownRow_block_kept h.own fun g hg => ho.block _ (ownRow_block h.own hg).2.1 (hn _ (h.sv g hg))
    files := h.files
    byt := fun r hr => ownRow_block_kept (h.byt r hr) fun g hg => ho.block _ (ownRow_block (h.byt r hr) hg).2.1 (hn _ (h.sb r hr g hg))
    fz := h.fz
    sx := h.sx
    sv := h.sv
    sb := h.sb
    lt := fun k hk => Nat.lt_of_lt_of_le (h.lt k hk) ho.size }
theorem RfAt.go (h : RfAt w S x v rs fz D) (hb : Below w.heap.size w w') : RfAt w' S x v rs fz D := h.outs (S2 := fun _ => False) (Outs.of hb) (fun _ _ h => h)
theorem Rf.outs (h : Rf w S x D) (ho : Outs S2 w w') (hn : ∀ k, S k → ¬ S2 k) : Rf w' S x D := by
  obtain ⟨v, rs, fz, h⟩ := h
  exact ⟨v, rs, fz, h.outs ho hn⟩
theorem Rf.go (h : Rf w S x D) (hb : Below w.heap.size w w') : Rf w' S x D := h.outs (S2 := fun _ => False) (Outs.of hb) (fun _ _ h => h)
theorem Rf.lt (h : Rf w S x D) : ∀ k, S k → k < w.heap.size := by
  obtain ⟨v, rs, fz, h⟩ := h
  exact h.lt
theorem RfAt.len (h : RfAt w S x v rs fz D) : rs.length = D.files.length := by rw [← h.files]; simp
theorem RfAt.nm (h : RfAt w S x v rs fz D) {k : Nat} (hk : k < rs.length) : D.files[k]? = some rs[k].f := by rw [← h.files]; simp [hk]
/-- a store to the head -/
theorem RfAt.head (h : RfAt w S x v rs fz D) (i : Nat) (u : Value) (fz' : Int) (D' : Dsk) (hf : D'.files = D.files) (hz : D'.fuse ≠ -1 → fz' = D'.fuse) (hc : (rTop v fz D).setIfInBounds i u = rTop v fz' D') : RfAt (w.setCell ⟨x, i, none⟩ u) S x v rs fz' D' :=
  { top := by
      have := h.top.put i u
      rwa [hc] at this
    own := ownRow_block_kept h.own fun g hg => Below.heap_setCell _ _ _ _ (ownRow_ne h.own hg h.top (by decide))
    files := by rw [hf]; exact h.files
    byt := fun r hr => ownRow_block_kept (h.byt r hr) fun g hg => Below.heap_setCell _ _ _ _ (ownRow_ne (h.byt r hr) hg h.top (by decide))
    fz := hz
    sx := h.sx
    sv := h.sv
    sb := h.sb
    lt := fun k hk => by simpa [World.setCell] using h.lt k hk }
theorem RfAt.c0 (h : RfAt w S x v rs fz D) : w.cell? ⟨x, 0, none⟩ = some (.int .i64 D.room) := h.top.cell 0
theorem RfAt.c1 (h : RfAt w S x v rs fz D) : w.cell? ⟨x, 1, none⟩ = some v := h.top.cell 1
theorem RfAt.c2 (h : RfAt w S x v rs fz D) : w.cell? ⟨x, 2, none⟩ = some (.bool (decide (D.fuse ≠ -1))) := h.top.cell 2
theorem RfAt.c3 (h : RfAt w S x v rs fz D) : w.cell? ⟨x, 3, none⟩ = some (.int .i64 fz) := h.top.cell 3
theorem RfAt.c4 (h : RfAt w S x v rs fz D) : w.cell? ⟨x, 4, none⟩ = some (.bool D.off) := h.top.cell 4
theorem RfAt.c5 (h : RfAt w S x v rs fz D) : w.cell? ⟨x, 5, none⟩ = some (.int .i64 D.steps) := h.top.cell 5
theorem RfAt.fr (h : RfAt w S x v rs fz D) (i : Nat) : w.frozen? ⟨x, i, none⟩ = false := h.top.frozen i
end

/-- what a row of wide elements is as a slice -/
theorem own_open3 {w : World} {B : Nat} {e : TypeId} {k n : Nat} {v : Value} {xs : List Value} (h : w.ownsRow B e k v n xs) :
    ∃ A c, v = .slice A n c ∧ Rds w w.heap.size A xs ∧ n ≤ c ∧ c ≤ maxLen ∧ (A = none → n = 0 ∧ c = 0) ∧ (∀ ad, A = some ad → ∃ g, ad = ⟨g, 0, none⟩ ∧ v.ownBlock = some g) := by
  rcases h.2 with ⟨rfl, rfl⟩ | ⟨g, cap, cur, rfl, _, hh, h1, h2, _⟩
  · have hx : xs = [] := List.eq_nil_of_length_eq_zero (by simpa using h.1)
    subst hx
    exact ⟨none, 0, rfl, Rds.none_, Nat.le_refl _, by unfold maxLen; omega, fun _ => ⟨rfl, rfl⟩, fun ad e => by cases e⟩
  · refine ⟨_, cap, rfl, ?_, h1, h2, (fun h => by cases h), fun ad e => ?_⟩
    · intro _
      exact ⟨_, rfl, (Array.getElem?_eq_some_iff.1 hh).1, h.cells (g := g) rfl⟩
    · obtain rfl := Option.some.inj e
      exact ⟨g, rfl, rfl⟩

/-! ## New, SetFuse, Free, step -/
theorem rnew_any (r : Nat) (hr : r ≤ 1073741824) (w : World) :
    Calls Try.prog 23 #[.int .i64 r] w fun e w' => ∃ S x, e = .returned (.tuple #[.pointer (some ⟨x, 0, none⟩), .int .i64 0]) ∧ Rf w' S x (dNew r) ∧ Below w.heap.size w w' ∧ ∀ k, S k → w.heap.size ≤ k := by
  have h1 : ¬ (r : Int) < 0 := by omega
  have h2 : ¬ (1073741824 : Int) < r := by omega
  go_enter Try.func23, Try.ntmps23
  go_wp2
  go_returns
  refine ⟨fun k => k = w.heap.size, w.heap.size, by simp, ⟨.slice none 0 0, [], 0, ?_⟩, (Below.refl _ w).alloc (Nat.le_refl _) _, fun k hk => by omega⟩
  exact
    { top := Whole.new w _ _
      own := World.ownsRow_nil _ _ _ _
      files := rfl
      byt := fun r hr => by cases hr
      fz := fun h => absurd rfl h
      sx := rfl
      sv := fun g hg => by cases hg
      sb := fun r hr => by cases hr
      lt := fun k hk => by simp; omega }
theorem rnew_bad (r : Int) (hr : r < 0 ∨ 1073741824 < r) (w : World) :
    Calls Try.prog 23 #[.int .i64 r] w fun e w' => e = .returned (.tuple #[.pointer none, .int .i64 2]) ∧ w' = w := by
  by_cases h1 : r < 0
  · go_enter Try.func23, Try.ntmps23
    go_wp2
    go_returns
    exact ⟨by simp, rfl⟩
  · have h2 : 1073741824 < r := by omega
    go_enter Try.func23, Try.ntmps23
    go_wp2
    go_returns
    exact ⟨by simp, rfl⟩

section
variable {S : Nat → Prop} {x : Nat} {v : Value} {rs : List RFl} {fz : Int} {D : Dsk}
theorem rfree_any (w : World) (h : Rf w S x D) :
    Calls Try.prog 55 #[.pointer (some ⟨x, 0, none⟩)] w fun e w' => e = .returned (.int .i64 0) ∧ Rf w' S x (dFree D) ∧ Turn S S w w' := by
  obtain ⟨v, rs, fz, h⟩ := h
  have c2 := h.c2
  have c3 := h.c3
  have f2 := h.fr 2
  have f3 := h.fr 3
  have hh := (h.head 2 (.bool false) fz { D with fuse := -1 } rfl (fun e => absurd rfl e) (by simp [rTop])).head 3 (.int .i64 0) 0 (dFree D) rfl (fun e => absurd rfl e) (by simp [rTop, dFree])
  have ht : Turn S S w ((w.setCell ⟨x, 2, none⟩ (.bool false)).setCell ⟨x, 3, none⟩ (.int .i64 0)) := ⟨((Outs.refl _ _).setCell (p := ⟨x, 2, none⟩) (.inl h.sx) _).setCell (p := ⟨x, 3, none⟩) (.inl h.sx) _, fun _ h => .inl h⟩
  have HH := Lib.hid hh
  have HT := Lib.hid ht
  clear hh ht h
  go_enter Try.func55, Try.ntmps55
  go_wp2
  go_returns
  exact ⟨by simp, ⟨v, rs, 0, HH.out⟩, HT.out⟩
theorem rfuse_any (n : Int) (w : World) (h : Rf w S x D) :
    Calls Try.prog 54 #[.pointer (some ⟨x, 0, none⟩), .int .i64 n] w fun e w' => e = .returned (.int .i64 (dFuse D n).1) ∧ Rf w' S x (dFuse D n).2 ∧ Turn S S w w' := by
  have hR := h
  obtain ⟨v, rs, fz, h⟩ := h
  have c2 := h.c2
  have c3 := h.c3
  have c4 := h.c4
  have f2 := h.fr 2
  have f3 := h.fr 3
  cases ho : D.off
  · rw [ho] at c4
    by_cases hn : n < 0
    · have e : dFuse D n = (2, D) := by simp [dFuse, ho, hn]
      rw [e]
      go_enter Try.func54, Try.ntmps54
      go_wp2
      go_returns
      exact ⟨by simp, hR, Turn.refl _ _⟩
    · have e : dFuse D n = (0, { D with fuse := n }) := by simp [dFuse, ho, hn]
      rw [e]
      have hh : RfAt ((w.setCell ⟨x, 2, none⟩ (.bool true)).setCell ⟨x, 3, none⟩ (.int .i64 n)) S x v rs n { D with fuse := n } := by
        refine
          { top := ?_, own := ?_, files := h.files, byt := ?_, fz := fun _ => rfl, sx := h.sx, sv := h.sv, sb := h.sb, lt := fun k hk => by simpa [World.setCell] using h.lt k hk }
        · have := (h.top.put 2 (.bool true)).put 3 (.int .i64 n)
          have e : ((rTop v fz D).setIfInBounds 2 (.bool true)).setIfInBounds 3 (.int .i64 n) = rTop v n { D with fuse := n } := by
            have : decide (n ≠ -1) = true := decide_eq_true (by omega)
            simp [rTop]
            omega
          rwa [e] at this
        · exact ownRow_block_kept h.own fun g hg => by rw [Below.heap_setCell _ _ _ _ (ownRow_ne h.own hg h.top (by decide)), Below.heap_setCell _ _ _ _ (ownRow_ne h.own hg h.top (by decide))]
        · exact fun r hr => ownRow_block_kept (h.byt r hr) fun g hg => by rw [Below.heap_setCell _ _ _ _ (ownRow_ne (h.byt r hr) hg h.top (by decide)), Below.heap_setCell _ _ _ _ (ownRow_ne (h.byt r hr) hg h.top (by decide))]
      have ht : Turn S S w ((w.setCell ⟨x, 2, none⟩ (.bool true)).setCell ⟨x, 3, none⟩ (.int .i64 n)) := ⟨((Outs.refl _ _).setCell (p := ⟨x, 2, none⟩) (.inl h.sx) _).setCell (p := ⟨x, 3, none⟩) (.inl h.sx) _, fun _ h => .inl h⟩
      have HH := Lib.hid hh
      have HT := Lib.hid ht
      clear hh ht h e ho
      go_enter Try.func54, Try.ntmps54
      go_wp2
      go_returns
      exact ⟨by simp, ⟨v, rs, n, HH.out⟩, HT.out⟩
  · rw [ho] at c4
    have e : dFuse D n = (10, D) := by simp [dFuse, ho]
    rw [e]
    go_enter Try.func54, Try.ntmps54
    go_wp2
    go_returns
    exact ⟨by simp, hR, Turn.refl _ _⟩

set_option maxHeartbeats 1000000 in
theorem rstep_any (w : World) (h : RfAt w S x v rs fz D) (hst : D.steps + 1 ≤ 9223372036854775807) (hf0 : -1 ≤ D.fuse) (hf1 : D.fuse ≤ 9223372036854775807) :
    Calls Try.prog 70 #[.pointer (some ⟨x, 0, none⟩)] w fun e w' => e = .returned (.bool (!decide (D.fuse = 0))) ∧ (∃ fz', RfAt w' S x v rs fz' (if D.fuse = 0 then fall D else tick D)) ∧ Turn S S w w' := by
  have c2 := h.c2
  have c3 := h.c3
  have c4 := h.c4
  have c5 := h.c5
  have f3 := h.fr 3
  have f4 := h.fr 4
  have f5 := h.fr 5
  have hst' : (D.steps : Int) + 1 ≤ 9223372036854775807 := by omega
  by_cases hz : D.fuse = 0
  · have hfz := h.fz (by omega)
    rw [hfz, hz] at c3
    rw [show decide (D.fuse ≠ -1) = true from decide_eq_true (by omega)] at c2
    rw [if_pos hz, show decide (D.fuse = 0) = true from decide_eq_true hz]
    have hh : RfAt (w.setCell ⟨x, 4, none⟩ (.bool true)) S x v rs fz (fall D) := h.head 4 (.bool true) fz (fall D) rfl h.fz rfl
    have ht : Turn S S w (w.setCell ⟨x, 4, none⟩ (.bool true)) := ⟨(Outs.refl _ _).setCell (p := ⟨x, 4, none⟩) (.inl h.sx) _, fun _ h => .inl h⟩
    have HH := Lib.hid hh
    have HT := Lib.hid ht
    clear hh ht h hz hfz
    go_enter Try.func70, Try.ntmps70
    go_wp2
    go_returns
    exact ⟨by simp, ⟨fz, HH.out⟩, HT.out⟩
  · rw [if_neg hz, show decide (D.fuse = 0) = false from decide_eq_false hz]
    by_cases hm : D.fuse = -1
    · rw [show decide (D.fuse ≠ -1) = false from decide_eq_false (by omega)] at c2
      have htt : (rTop v fz D).setIfInBounds 5 (.int .i64 (D.steps + 1)) = rTop v fz (tick D) := by
        have e : (tick D).fuse = D.fuse := by simp [tick, hm]
        simp only [rTop, e]
        rfl
      have hh : RfAt (w.setCell ⟨x, 5, none⟩ (.int .i64 (D.steps + 1))) S x v rs fz (tick D) := h.head 5 _ fz (tick D) rfl (fun e => absurd (by simp [tick, hm]) e) htt
      have ht : Turn S S w (w.setCell ⟨x, 5, none⟩ (.int .i64 (D.steps + 1))) := ⟨(Outs.refl _ _).setCell (p := ⟨x, 5, none⟩) (.inl h.sx) _, fun _ h => .inl h⟩
      have HH := Lib.hid hh
      have HT := Lib.hid ht
      clear hh ht h hz hm
      go_enter Try.func70, Try.ntmps70
      go_wp2
      go_returns
      exact ⟨by simp, ⟨fz, HH.out⟩, HT.out⟩
    · have hfz := h.fz hm
      rw [hfz] at c3
      rw [show decide (D.fuse ≠ -1) = true from decide_eq_true hm] at c2
      have hn0 : (D.fuse == 0) = false := by simpa using hz
      have hh : RfAt ((w.setCell ⟨x, 3, none⟩ (.int .i64 (D.fuse - 1))).setCell ⟨x, 5, none⟩ (.int .i64 (D.steps + 1))) S x v rs (D.fuse - 1) (tick D) := by
        have e1 : tick D = { D with fuse := D.fuse - 1, steps := D.steps + 1 } := by simp [tick, hm]
        rw [e1]
        have a := h.head 3 (.int .i64 (D.fuse - 1)) (D.fuse - 1) { D with fuse := D.fuse - 1 } rfl (fun _ => rfl) (by
          have : decide (D.fuse - 1 ≠ -1) = decide (D.fuse ≠ -1) := by rw [decide_eq_true hm, decide_eq_true (by omega)]
          simp only [rTop, this]
          simp)
        exact a.head 5 _ (D.fuse - 1) { D with fuse := D.fuse - 1, steps := D.steps + 1 } rfl (fun _ => rfl) (by simp [rTop])
      have ht : Turn S S w ((w.setCell ⟨x, 3, none⟩ (.int .i64 (D.fuse - 1))).setCell ⟨x, 5, none⟩ (.int .i64 (D.steps + 1))) := ⟨((Outs.refl _ _).setCell (p := ⟨x, 3, none⟩) (.inl h.sx) _).setCell (p := ⟨x, 5, none⟩) (.inl h.sx) _, fun _ h => .inl h⟩
      have HH := Lib.hid hh
      have HT := Lib.hid ht
      have hg0 : 0 ≤ D.fuse - 1 := by omega
      clear hh ht h hz hm hfz
      go_enter Try.func70, Try.ntmps70
      go_wp2
      go_returns
      exact ⟨by simp, ⟨_, HH.out⟩, HT.out⟩
end
end Go.Proofs.Ytnpomiidkdnebaa
