/- Several texts, each a section: JObj, JFn, JNum, DNo. -/
import Derived.Test.YtfiebjfdlplpjaaGreatDoorM02
import Derived.Test.YtfiebjfdlplpjaaGreatDoorM05
import Derived.Test.YtfiebjfdlplpjaaGreatDoorM09
import Derived.Test.YtfiebjfdlplpjaaGreatDoorM03
import Derived.BigQuiet
import Derived.Lib.Builder
import Derived.StillTailTactics
import Derived.Test.YtfiebjfdlplpjaaGreatDoorM04
import Derived.Lib.AppendIntMem
import Derived.Lib.ItoaLen
import Derived.Lib.Strings
import Derived.Test.YtfiebjfdlplpjaaGreatDoorM08
section
/- A journal of the program in memory. -/
namespace Go.Proofs.YtfiebjfdlplpjaaGreatDoor
open Go.RowKit
set_option linter.unusedVariables false

/-! ## blocks of one type stay -/
def StayB (e : TypeId) (w w' : World) : Prop := ∀ (g : Nat) (cs : Array Value), w.heap[g]? = some (Obj.cells cs e (0, 0)) → w'.heap[g]? = some (Obj.cells cs e (0, 0))
section
variable {e t : TypeId} {w w' w2 : World}
theorem StayB.refl (e : TypeId) (w : World) : StayB e w w := fun _ _ h => h
theorem StayB.trans (h : StayB e w w') (k : StayB e w' w2) : StayB e w w2 := fun g cs hg => k g cs (h g cs hg)
theorem StayB.own {B k n : Nat} {v : Value} {xs : List Value} (hk : StayB e w w') (h : w.ownsRow B e k v n xs) : w'.ownsRow B e k v n xs := by
  rcases h.2 with ⟨rfl, hn⟩ | ⟨g, cap, cur, rfl, hb, hh, r⟩
  · exact ⟨h.1, .inl ⟨rfl, hn⟩⟩
  · exact ⟨h.1, .inr ⟨g, cap, cur, rfl, hb, hk g cur hh, r⟩⟩
theorem StayB.whole {g : Nat} {cs : Array Value} (hk : StayB e w w') (h : Whole w g e cs) : Whole w' g e cs := hk g cs h
theorem StayB.below {B : Nat} (hb : Below B w w') (hB : w.heap.size ≤ B) : StayB e w w' := fun g cs h => (hb.block g (Nat.lt_of_lt_of_le (Array.getElem?_eq_some_iff.1 h).1 hB)).trans h
theorem StayB.alloc (h : StayB e w w') (o : Obj) : StayB e w (w'.alloc o) := fun g cs hg => (Below.heap_alloc w' o g (Array.getElem?_eq_some_iff.1 (h g cs hg)).1).trans (h g cs hg)
theorem StayB.put (h : StayB e w w') {g i : Nat} {cs : Array Value} (hw : Whole w' g t cs) (hne : e ≠ t) (u : Value) : StayB e w (w'.setCell ⟨g, i, none⟩ u) := fun k ds hk =>
  (Below.heap_setCell w' ⟨g, i, none⟩ u k (fun ek => by
    have h1 := h k ds hk
    have ek' : k = g := ek
    subst ek'
    unfold Whole at hw
    rw [h1] at hw
    injection hw with hw
    injection hw with _ hw
    exact hne hw)).trans (h k ds hk)
theorem StayB.grown (h : StayB e w w') {B k n : Nat} {v : Value} {xs : List Value} (hv : w'.ownsRow B t k v n xs) (hne : e ≠ t) (hg : w'.grownBy w2 v.ownBlock) : StayB e w w2 := fun b ds hb => by
  have h1 := h b ds hb
  refine (hg.block b (Array.getElem?_eq_some_iff.1 h1).1 (fun eb => ?_)).trans h1
  obtain ⟨_, _, cs, hc⟩ := ownRow_block hv eb.symm
  rw [h1] at hc
  injection hc with hc
  injection hc with _ hc
  exact hne hc
theorem StayB.drewN (h : StayB e w w') (n : Nat) : StayB e w (w'.drewN n) := h
end
/-- a cell of a row is written -/
theorem row_set {w : World} {B e k n g i : Nat} {v u : Value} {xs : List Value} (h : w.ownsRow B e k v n xs) (hg : v.ownBlock = some g) : (w.setCell ⟨g, i, none⟩ u).ownsRow B e k v n (xs.set i u) := by
  rcases h.2 with ⟨rfl, _⟩ | ⟨g1, cap, cur, rfl, h2, h3, h4, h5, h6, h7⟩
  · cases hg
  · obtain rfl : g1 = g := by simpa [Value.ownBlock] using hg
    refine ⟨by simpa using h.1, .inr ⟨g1, cap, cur.setIfInBounds i u, rfl, h2, ?_, h4, h5, by simp [h6], ?_⟩⟩
    · exact (show Whole w g1 e cur from h3).put i u
    · rw [Array.toList_setIfInBounds, List.take_set, h7]
theorem row_block {w : World} {B k n : Nat} {e : TypeId} {v : Value} {xs : List Value} (h : w.ownsRow B e k v n xs) (hn : 0 < n) : ∃ g c, v = .slice (some ⟨g, 0, none⟩) n c ∧ v.ownBlock = some g ∧ n ≤ c ∧ c ≤ maxLen := by
  rcases h.2 with ⟨rfl, h0⟩ | ⟨g, cap, cur, rfl, _, _, h1, h2, _⟩
  · omega
  · exact ⟨g, cap, rfl, rfl, h1, h2⟩
theorem row_any {w : World} {B k n : Nat} {e : TypeId} {v : Value} {xs : List Value} (h : w.ownsRow B e k v n xs) : ∃ A c, v = .slice A n c := by
  rcases h.2 with ⟨rfl, rfl⟩ | ⟨g, cap, cur, rfl, _⟩
  · exact ⟨none, 0, rfl⟩
  · exact ⟨_, cap, rfl⟩
theorem row_cell {w : World} {B k n g i : Nat} {e : TypeId} {v u : Value} {xs : List Value} (h : w.ownsRow B e k v n xs) (hg : v.ownBlock = some g) (hu : xs[i]? = some u) : w.cell? ⟨g, i, none⟩ = some u ∧ w.frozen? ⟨g, i, none⟩ = false := by
  rcases h.2 with ⟨rfl, _⟩ | ⟨g1, cap, cur, rfl, h2, h3, h4, h5, h6, h7⟩
  · cases hg
  · obtain rfl : g1 = g := by simpa [Value.ownBlock] using hg
    have hw : Whole w g1 e cur := h3
    refine ⟨?_, hw.frozen i⟩
    rw [hw.cell i]
    rw [← h7, List.getElem?_take] at hu
    split at hu
    · simpa using hu
    · cases hu
/-- 'append(l, x)' of one element, of whatever size, to a row of the call's own -/
theorem app_elem {P : Program} (w : World) {ops : Array Oper} {rest : List Oper} {o : Oper} {a : Act} {Q : Exit → Act → World → Prop} (hgd : o.guard = none) (s x : Operand) (t : TypeId)
    (ho : o.op = .call { callee := .builtin .append, args := #[s, x], argTypes := #[t, t] })
    (B : Nat) (e : TypeId) (i : TypeInfo) (z : Value) (k bytes : Nat) (ht : P.underlying t = some (.slice e)) (hi : P.info? e = some i) (hz : i.zero = some z)
    (hsize : i.size = k) (hby : i.bytes = bytes) (hzs : z.cells.size = k) (hk : 0 < k)
    (v : Value) (n : Nat) (xs : List Value) (hs : a.eval s = v) (hown : w.ownsRow B e k v n xs) (us : List Value) (hus : us.length = k) (g0 : Nat) (W : World) (hW : W = w.alloc (.cells us.toArray e)) (hg0 : g0 = w.heap.size) (hx : a.eval x = .slice (some ⟨g0, 0, none⟩) 1 1) (h1 : ∀ u ∈ us, u.oneCell' = true)
    (hn : n ≤ 1099511627776) (hby2 : bytes ≤ 100) (hB : B ≤ w.heap.size)
    (h : ∀ v' w', w'.ownsRow B e k v' (n + 1) (xs ++ us) → W.grownBy w' v.ownBlock → (v'.ownBlock = v.ownBlock ∨ v'.ownBlock = some (w.heap.size + 1)) → wpList P ops Q rest (a.put o.dst v') w') : wpList P ops Q (o :: rest) a W := by
  subst hW hg0
  have hb : (n + 1) * bytes ≤ 140737488355328 := Nat.le_trans (Nat.mul_le_mul (show n + 1 ≤ 1099511627777 by omega) hby2) (by decide)
  refine wpList_append_own_at _ hgd s x t ho B e i z k bytes ht hi hz hsize hby hzs hk v n xs hs (hown.alloc _) ⟨w.heap.size, 0, none⟩ 1 1 us hx (by simpa using hus) (fun j u hu => ?_) h1 (by unfold maxLen; omega) hb (by simp; omega) ?_
  · have hadd : (⟨w.heap.size, 0, none⟩ : Addr).add j = ⟨w.heap.size, j, none⟩ := by unfold Addr.add; split <;> simp_all
    rw [hadd, (Whole.new w e us.toArray).cell j]
    simpa using hu
  · intro v' w' hown' hg _ h5
    exact h v' w' hown' hg (by simpa using h5)

/-! ## a journal in memory -/
/-- a record as it lies in memory -/
structure RcM where
  r : List Int
  A : Option Addr
  c : Nat
def RcM.v (x : RcM) : Value := .slice x.A x.r.length x.c
structure SgM where
  num : Nat
  v : Value
  rs : List RcM
def SgM.sg (m : SgM) : Sg := ⟨m.num, m.rs.map RcM.r⟩
def SgM.cells (m : SgM) : List Value := [.int .u64 m.num, .int .i64 (m.sg.size : Nat), m.v]
def cR (rs : List RcM) : List Value := rs.map RcM.v
def cG (ms : List SgM) : List Value := ms.flatMap SgM.cells
theorem cR_one (rs : List RcM) : ∀ u ∈ cR rs, u.oneCell' = true := by
  intro u hu
  obtain ⟨x, _, rfl⟩ := List.mem_map.1 hu
  rfl
theorem cG_length (ms : List SgM) : (cG ms).length = ms.length * 3 := by
  induction ms with
  | nil => rfl
  | cons m r ih => simp only [cG, List.flatMap_cons, List.length_append, SgM.cells, List.length_cons, List.length_nil] at ih ⊢; omega
theorem cG_append (a b : List SgM) : cG (a ++ b) = cG a ++ cG b := by simp [cG, List.flatMap_append]
theorem cG_snoc (p : List SgM) (m : SgM) : cG (p ++ [m]) = cG p ++ m.cells := by simp [cG]
theorem cG_at (p : List SgM) (m : SgM) (r : List SgM) (k : Nat) (hk : k < 3) : (cG (p ++ m :: r))[p.length * 3 + k]? = m.cells[k]? := by
  rw [cG_append, List.getElem?_append_right (by rw [cG_length]; omega), cG_length, show p.length * 3 + k - p.length * 3 = k by omega]
  show (m.cells ++ cG r)[k]? = _
  rw [List.getElem?_append_left (by simp [SgM.cells]; omega)]
theorem set_three (l m : List Value) (a b c : Value) : ((l ++ [a, b, c]).set (l.length + 2) m[0]!).length = l.length + 3 := by simp

def topJ (j d : Nat) (s : ByteArray) (off : Bool) (next : Nat) (vs : Value) : Array Value := #[.pointer (some ⟨j, 0, none⟩), .pointer (some ⟨d, 0, none⟩), .string s, .bool off, .int .u64 next, vs]

structure JnAt (w : World) (T : Nat → Prop) (j d : Nat) (s : ByteArray) (off : Bool) (next : Nat) (vs : Value) (ms : List SgM) : Prop where
  top : Whole w j 51 (topJ j d s off next vs)
  row : w.ownsRow 0 73 3 vs ms.length (cG ms)
  rows : ∀ m ∈ ms, w.ownsRow 0 33 1 m.v m.rs.length (cR m.rs)
  bods : ∀ m ∈ ms, ∀ x ∈ m.rs, w.ownsRow 0 5 1 x.v x.r.length (c8 x.r)
  inj : ms.Pairwise fun m m' => ∀ g, m.v.ownBlock = some g → m'.v.ownBlock ≠ some g
  tj : T j
  tv : ∀ g, vs.ownBlock = some g → T g
  tr : ∀ m ∈ ms, ∀ g, m.v.ownBlock = some g → T g
  tb : ∀ m ∈ ms, ∀ x ∈ m.rs, ∀ g, x.v.ownBlock = some g → T g
  lt : ∀ k, T k → k < w.heap.size

def Jo (w : World) (T : Nat → Prop) (j d : Nat) (s : ByteArray) (J : Jn) : Prop := ∃ vs ms, JnAt w T j d s J.off J.next vs ms ∧ J.segs = ms.map SgM.sg

section
variable {w w' : World} {S T : Nat → Prop} {j d : Nat} {s : ByteArray} {off : Bool} {next : Nat} {vs : Value} {ms : List SgM} {J : Jn}
theorem JnAt.c0 (h : JnAt w T j d s off next vs ms) : w.cell? ⟨j, 0, none⟩ = some (.pointer (some ⟨j, 0, none⟩)) := h.top.cell 0
theorem JnAt.c1 (h : JnAt w T j d s off next vs ms) : w.cell? ⟨j, 1, none⟩ = some (.pointer (some ⟨d, 0, none⟩)) := h.top.cell 1
theorem JnAt.c2 (h : JnAt w T j d s off next vs ms) : w.cell? ⟨j, 2, none⟩ = some (.string s) := h.top.cell 2
theorem JnAt.c3 (h : JnAt w T j d s off next vs ms) : w.cell? ⟨j, 3, none⟩ = some (.bool off) := h.top.cell 3
theorem JnAt.c4 (h : JnAt w T j d s off next vs ms) : w.cell? ⟨j, 4, none⟩ = some (.int .u64 next) := h.top.cell 4
theorem JnAt.c5 (h : JnAt w T j d s off next vs ms) : w.cell? ⟨j, 5, none⟩ = some vs := h.top.cell 5
theorem JnAt.fz (h : JnAt w T j d s off next vs ms) (i : Nat) : w.frozen? ⟨j, i, none⟩ = false := h.top.frozen i
theorem JnAt.outs (h : JnAt w T j d s off next vs ms) (ho : Outs S w w') (hn : ∀ k, T k → ¬ S k) : JnAt w' T j d s off next vs ms :=
  have own : ∀ {B k n : Nat} {e : TypeId} {v : Value} {xs : List Value}, w.ownsRow B e k v n xs → (∀ g, v.ownBlock = some g → T g) → w'.ownsRow B e k v n xs := fun h hg => ownRow_block_kept h fun g hgb => ho.block g (ownRow_block h hgb).2.1 (hn g (hg g hgb))
  { top := h.top.outs ho (hn _ h.tj)
    row := own h.row h.tv
    rows := fun m hm => own (h.rows m hm) (h.tr m hm)
    bods := fun m hm x hx => own (h.bods m hm x hx) (h.tb m hm x hx)
    inj := h.inj, tj := h.tj, tv := h.tv, tr := h.tr, tb := h.tb
    lt := fun k hk => Nat.lt_of_lt_of_le (h.lt k hk) ho.size }
theorem JnAt.go (h : JnAt w T j d s off next vs ms) (hb : Below w.heap.size w w') : JnAt w' T j d s off next vs ms := h.outs (S := fun _ => False) (Outs.of hb) (fun _ _ h => h)
/-- a cell of its own is written: not the segments -/
theorem JnAt.head (h : JnAt w T j d s off next vs ms) (i : Nat) (u : Value) (off' : Bool) (next' : Nat) (hc : (topJ j d s off next vs).setIfInBounds i u = topJ j d s off' next' vs) : JnAt (w.setCell ⟨j, i, none⟩ u) T j d s off' next' vs ms :=
  have hk : ∀ e, e ≠ 51 → StayB e w (w.setCell ⟨j, i, none⟩ u) := fun e he => (StayB.refl e w).put h.top he u
  { top := by
      have := h.top.put i u
      rwa [hc] at this
    row := (hk _ (by decide)).own h.row
    rows := fun m hm => (hk _ (by decide)).own (h.rows m hm)
    bods := fun m hm x hx => (hk _ (by decide)).own (h.bods m hm x hx)
    inj := h.inj, tj := h.tj, tv := h.tv, tr := h.tr, tb := h.tb
    lt := fun k hk => by simpa [World.setCell] using h.lt k hk }
/-- another segment -/
theorem JnAt.begin (h : JnAt w T j d s off next vs ms) {n : Nat} {v' : Value} {w2 : World}
    (hown : w2.ownsRow 0 73 3 v' (ms.length + 1) (cG ms ++ [.int .u64 n, .int .i64 0, .slice none 0 0]))
    (hg : (w.alloc (.cells #[.int .u64 n, .int .i64 0, .slice none 0 0] 73)).grownBy w2 vs.ownBlock) (hv : v'.ownBlock = vs.ownBlock ∨ v'.ownBlock = some (w.heap.size + 1)) :
    JnAt ((w2.setCell ⟨j, 5, none⟩ v').setCell ⟨j, 4, none⟩ (.int .u64 n)) (fun k => T k ∨ v'.ownBlock = some k) j d s off n v' (ms ++ [⟨n, .slice none 0 0, []⟩]) := by
  have hrA := h.row.alloc (.cells #[.int .u64 n, .int .i64 0, .slice none 0 0] 73)
  have hk1 : ∀ e, e ≠ 73 → StayB e w w2 := fun e he => ((StayB.refl e w).alloc _).grown hrA he hg
  have ht2 : Whole w2 j _ _ := (hk1 _ (by decide)).whole h.top
  have ht3 := ht2.put 5 v'
  have ht4 := ht3.put 4 (.int .u64 n)
  have hk2 : ∀ e, e ≠ 51 → StayB e w2 ((w2.setCell ⟨j, 5, none⟩ v').setCell ⟨j, 4, none⟩ (.int .u64 n)) := fun e he => ((StayB.refl e w2).put ht2 he v').put ht3 he _
  have hsz : ((w2.setCell ⟨j, 5, none⟩ v').setCell ⟨j, 4, none⟩ (.int .u64 n)).heap.size = w2.heap.size := by simp [World.setCell]
  have hsw : w.heap.size ≤ w2.heap.size := by have := hg.size; simp at this; omega
  refine { top := ?_, row := ?_, rows := ?_, bods := ?_, inj := ?_, tj := .inl h.tj, tv := fun g hg => .inr hg, tr := ?_, tb := ?_, lt := ?_ }
  · exact ht4
  · rw [List.length_append, cG_snoc]
    exact (hk2 _ (by decide)).own hown
  · intro m hm
    rcases List.mem_append.1 hm with hm | hm
    · exact (hk2 _ (by decide)).own ((hk1 _ (by decide)).own (h.rows m hm))
    · obtain rfl := List.mem_singleton.1 hm
      exact World.ownsRow_nil _ 0 _ 1
  · intro m hm x hx
    rcases List.mem_append.1 hm with hm | hm
    · exact (hk2 _ (by decide)).own ((hk1 _ (by decide)).own (h.bods m hm x hx))
    · obtain rfl := List.mem_singleton.1 hm
      cases hx
  · refine List.pairwise_append.2 ⟨h.inj, List.pairwise_singleton _ _, fun m hm m' hm' g hg => ?_⟩
    obtain rfl := List.mem_singleton.1 hm'
    simp [Value.ownBlock]
  · intro m hm g hg
    rcases List.mem_append.1 hm with hm | hm
    · exact .inl (h.tr m hm g hg)
    · obtain rfl := List.mem_singleton.1 hm
      cases hg
  · intro m hm x hx g hg
    rcases List.mem_append.1 hm with hm | hm
    · exact .inl (h.tb m hm x hx g hg)
    · obtain rfl := List.mem_singleton.1 hm
      cases hx
  · intro k hk
    rw [hsz]
    rcases hk with hk | hk
    · exact Nat.lt_of_lt_of_le (h.lt k hk) hsw
    · exact (ownRow_block hown hk).2.1
/-- a record behind the last segment's -/
theorem JnAt.note {p : List SgM} {m : SgM} (h : JnAt w T j d s off next vs (p ++ [m])) {x : RcM} {g : Nat} {v' : Value} {w2 : World} (hgv : vs.ownBlock = some g) (hx : w.ownsRow 0 5 1 x.v x.r.length (c8 x.r))
    (hown : w2.ownsRow 0 33 1 v' (m.rs.length + 1) (cR m.rs ++ [x.v]))
    (hg : (w.alloc (.cells #[x.v] 33)).grownBy w2 m.v.ownBlock) (hv : v'.ownBlock = m.v.ownBlock ∨ v'.ownBlock = some (w.heap.size + 1)) (sz : Int) (hsz : sz = (m.sg.size + (x.r.length + 12) : Nat)) :
    JnAt (((w2.setCell ⟨g, p.length * 3 + 2, none⟩ v').setCell ⟨g, p.length * 3 + 1, none⟩ (.int .i64 sz)).setCell ⟨j, 4, none⟩ (.int .u64 (next + 1 : Nat))) (fun k => T k ∨ v'.ownBlock = some k ∨ x.v.ownBlock = some k) j d s off (next + 1) vs (p ++ [⟨m.num, v', m.rs ++ [x]⟩]) := by
  subst hsz
  have hm := h.rows m (by simp)
  have hrA := hm.alloc (.cells #[x.v] 33)
  have hk1 : ∀ e, e ≠ 33 → StayB e w w2 := fun e he => ((StayB.refl e w).alloc _).grown hrA he hg
  have ht2 : Whole w2 j _ _ := (hk1 _ (by decide)).whole h.top
  have hr2 := (hk1 73 (by decide)).own h.row
  have hr3 := row_set (i := p.length * 3 + 2) (u := v') hr2 hgv
  have hr4 := row_set (i := p.length * 3 + 1) (u := .int .i64 (m.sg.size + (x.r.length + 12) : Nat)) hr3 hgv
  obtain ⟨_, _, cs2, hc2⟩ := ownRow_block hr2 hgv
  obtain ⟨_, _, cs3, hc3⟩ := ownRow_block hr3 hgv
  have hk2 : ∀ e, e ≠ 73 → StayB e w2 ((w2.setCell ⟨g, p.length * 3 + 2, none⟩ v').setCell ⟨g, p.length * 3 + 1, none⟩ (.int .i64 (m.sg.size + (x.r.length + 12) : Nat))) := fun e he =>
    ((StayB.refl e w2).put (show Whole w2 g _ cs2 from hc2) he v').put (show Whole _ g _ cs3 from hc3) he _
  have ht4 := (hk2 _ (by decide)).whole ht2
  have hk3 : ∀ e, e ≠ 51 → StayB e ((w2.setCell ⟨g, p.length * 3 + 2, none⟩ v').setCell ⟨g, p.length * 3 + 1, none⟩ (.int .i64 (m.sg.size + (x.r.length + 12) : Nat))) (((w2.setCell ⟨g, p.length * 3 + 2, none⟩ v').setCell ⟨g, p.length * 3 + 1, none⟩ (.int .i64 (m.sg.size + (x.r.length + 12) : Nat))).setCell ⟨j, 4, none⟩ (.int .u64 (next + 1 : Nat))) := fun e he => (StayB.refl e _).put ht4 he _
  have hsz : (((w2.setCell ⟨g, p.length * 3 + 2, none⟩ v').setCell ⟨g, p.length * 3 + 1, none⟩ (.int .i64 (m.sg.size + (x.r.length + 12) : Nat))).setCell ⟨j, 4, none⟩ (.int .u64 (next + 1 : Nat))).heap.size = w2.heap.size := by simp [World.setCell]
  have hsw : w.heap.size + 1 ≤ w2.heap.size := by have := hg.size; simpa using this
  have hinj := List.pairwise_append.1 h.inj
  -- rows of the others
  have hoth : ∀ m' ∈ p, w2.ownsRow 0 33 1 m'.v m'.rs.length (cR m'.rs) := fun m' hm' =>
    ownRow_block_kept (h.rows m' (by simp [hm'])) fun b hb => by
      have hlt := (ownRow_block (h.rows m' (by simp [hm'])) hb).2.1
      exact (hg.block b (by simp; omega) (fun eb => hinj.2.2 m' hm' m (by simp) b hb eb.symm)).trans (Below.heap_alloc w _ b hlt)
  refine { top := ?_, row := ?_, rows := ?_, bods := ?_, inj := ?_, tj := .inl h.tj, tv := fun b hb => .inl (h.tv b hb), tr := ?_, tb := ?_, lt := ?_ }
  · exact ht4.put 4 _
  · have e : cG (p ++ [⟨m.num, v', m.rs ++ [x]⟩]) = ((cG (p ++ [m])).set (p.length * 3 + 2) v').set (p.length * 3 + 1) (.int .i64 (m.sg.size + (x.r.length + 12) : Nat)) := by
      have hsz2 : (SgM.sg ⟨m.num, v', m.rs ++ [x]⟩).size = m.sg.size + (x.r.length + 12) := by
        simp only [SgM.sg, Sg.size, List.map_append, List.map_cons, List.map_nil, rsz_append, rsz_one]
      rw [cG_snoc, cG_snoc, List.set_append_right _ _ (by rw [cG_length]; omega), List.set_append_right _ _ (by rw [cG_length]; omega), cG_length, show p.length * 3 + 2 - p.length * 3 = 2 by omega, show p.length * 3 + 1 - p.length * 3 = 1 by omega]
      congr 1
      simp only [SgM.cells, hsz2]
      rfl
    rw [e, show (p ++ [(⟨m.num, v', m.rs ++ [x]⟩ : SgM)]).length = (p ++ [m]).length by simp]
    exact (hk3 _ (by decide)).own hr4
  · intro m' hm'
    rcases List.mem_append.1 hm' with hm' | hm'
    · exact (hk3 _ (by decide)).own ((hk2 _ (by decide)).own (hoth m' hm'))
    · obtain rfl := List.mem_singleton.1 hm'
      have := (hk3 _ (by decide)).own ((hk2 _ (by decide)).own hown)
      simpa [cR] using this
  · intro m' hm' y hy
    rcases List.mem_append.1 hm' with hm' | hm'
    · exact (hk3 _ (by decide)).own ((hk2 _ (by decide)).own ((hk1 _ (by decide)).own (h.bods m' (by simp [hm']) y hy)))
    · obtain rfl := List.mem_singleton.1 hm'
      rcases List.mem_append.1 hy with hy | hy
      · exact (hk3 _ (by decide)).own ((hk2 _ (by decide)).own ((hk1 _ (by decide)).own (h.bods m (by simp) y hy)))
      · obtain rfl := List.mem_singleton.1 hy
        exact (hk3 _ (by decide)).own ((hk2 _ (by decide)).own ((hk1 _ (by decide)).own hx))
  · refine List.pairwise_append.2 ⟨hinj.1, List.pairwise_singleton _ _, fun m' hm' m2 hm2 b hb => ?_⟩
    obtain rfl := List.mem_singleton.1 hm2
    show v'.ownBlock ≠ some b
    have hlt := (ownRow_block (h.rows m' (by simp [hm'])) hb).2.1
    rcases hv with e | e <;> rw [e]
    · exact hinj.2.2 m' hm' m (by simp) b hb
    · intro e2
      injection e2 with e2
      omega
  · intro m' hm' b hb
    rcases List.mem_append.1 hm' with hm' | hm'
    · exact .inl (h.tr m' (by simp [hm']) b hb)
    · obtain rfl := List.mem_singleton.1 hm'
      exact .inr (.inl hb)
  · intro m' hm' y hy b hb
    rcases List.mem_append.1 hm' with hm' | hm'
    · exact .inl (h.tb m' (by simp [hm']) y hy b hb)
    · obtain rfl := List.mem_singleton.1 hm'
      rcases List.mem_append.1 hy with hy | hy
      · exact .inl (h.tb m (by simp) y hy b hb)
      · obtain rfl := List.mem_singleton.1 hy
        exact .inr (.inr hb)
  · intro k hk
    rw [hsz]
    rcases hk with hk | hk | hk
    · have := h.lt k hk; omega
    · exact (ownRow_block hown hk).2.1
    · have := (ownRow_block hx hk).2.1; omega
end
end Go.Proofs.YtfiebjfdlplpjaaGreatDoor
end

section
/- The journal's smallest methods. -/
namespace Go.Proofs.YtfiebjfdlplpjaaGreatDoor
open Go.RowKit
set_option linter.unusedVariables false

/-! ## whose is it? -/
theorem infoJn : (Tryz.prog.info? 51).isSome = true := by kernel_rfl
theorem jneq_same (d : Nat) (w : World) : (binOp .neq 27 (.pointer (some ⟨d, 0, none⟩)) (.pointer (some ⟨d, 0, none⟩))).run Tryz.prog w = .ok (.bool false) w := by
  obtain ⟨j, hj⟩ := Option.isSome_iff_exists.1 infoJn
  exact Go.Lib.run_neq_ptr_same (P := Tryz.prog) w _ Tryz.underlying27 hj
theorem jneq_nil (d : Nat) (w : World) : (binOp .neq 27 (.pointer none) (.pointer (some ⟨d, 0, none⟩))).run Tryz.prog w = .ok (.bool true) w := by
  have h : ∀ k : Nat, (Op.equalIn (k + 1) 27 (.pointer none) (.pointer (some ⟨d, 0, none⟩))).run Tryz.prog w = .ok false w := fun k => by
    simp [Op.equalIn, run_underlying Tryz.underlying27]
  simp only [binOp]
  simp [Op.equal, Op.maxDepth, h 9999]
set_option maxRecDepth 4000 in
theorem jnobodys_no (d : Nat) (w : World) (h0 : w.cell? ⟨d, 0, none⟩ = some (.pointer (some ⟨d, 0, none⟩))) :
    Calls Tryz.prog 29 #[.pointer (some ⟨d, 0, none⟩)] w fun e w' => e = .returned (.bool false) ∧ w' = w := by
  have hq := jneq_same d w
  go_enter Tryz.func29, Tryz.ntmps29
  go_wp2
  go_ret
  exact ⟨by simp, rfl⟩
theorem jnobodys_nil (w : World) :
    Calls Tryz.prog 29 #[.pointer none] w fun e w' => e = .returned (.bool true) ∧ w' = w := by
  go_enter Tryz.func29, Tryz.ntmps29
  go_wp2
  go_ret
  exact ⟨by simp, rfl⟩
set_option maxRecDepth 4000 in
theorem jnobodys_zero (d : Nat) (w : World) (h0 : w.cell? ⟨d, 0, none⟩ = some (.pointer none)) :
    Calls Tryz.prog 29 #[.pointer (some ⟨d, 0, none⟩)] w fun e w' => e = .returned (.bool true) ∧ w' = w := by
  have hq := jneq_nil d w
  go_enter Tryz.func29, Tryz.ntmps29
  go_wp2
  go_ret
  exact ⟨by simp, rfl⟩
/-- a pointer that is no journal's -/
def NobodyJ (w : World) (p : Option Addr) : Prop := p = none ∨ ∃ d, p = some ⟨d, 0, none⟩ ∧ w.cell? ⟨d, 0, none⟩ = some (.pointer none)
theorem jnobodys_yes (p : Option Addr) (w : World) (h : NobodyJ w p) :
    Calls Tryz.prog 29 #[.pointer p] w fun e w' => e = .returned (.bool true) ∧ w' = w := by
  rcases h with rfl | ⟨d, rfl, h⟩
  · exact jnobodys_nil w
  · exact jnobodys_zero d w h

section
variable {w w' : World} {S T : Nat → Prop} {j d : Nat} {s : ByteArray} {off : Bool} {next : Nat} {vs : Value} {ms : List SgM} {J : Jn}
theorem Jo.top0 (h : Jo w T j d s J) : w.cell? ⟨j, 0, none⟩ = some (.pointer (some ⟨j, 0, none⟩)) := by
  obtain ⟨vs, ms, h, _⟩ := h
  exact h.c0
theorem Jo.lt (h : Jo w T j d s J) : ∀ k, T k → k < w.heap.size := by
  obtain ⟨vs, ms, h, _⟩ := h
  exact h.lt
theorem Jo.tj (h : Jo w T j d s J) : T j := by
  obtain ⟨vs, ms, h, _⟩ := h
  exact h.tj
theorem Jo.outs (h : Jo w T j d s J) (ho : Outs S w w') (hn : ∀ k, T k → ¬ S k) : Jo w' T j d s J := by
  obtain ⟨vs, ms, h, e⟩ := h
  exact ⟨vs, ms, h.outs ho hn, e⟩
theorem Jo.go (h : Jo w T j d s J) (hb : Below w.heap.size w w') : Jo w' T j d s J := by
  obtain ⟨vs, ms, h, e⟩ := h
  exact ⟨vs, ms, h.go hb, e⟩
/-- the last one -/
theorem segs_last (h : JnAt w T j d s off next vs ms) (hne : ms ≠ []) : ∃ p m, ms = p ++ [m] := ⟨ms.dropLast, ms.getLast hne, (List.dropLast_concat_getLast hne).symm⟩
theorem last_sg (p : List SgM) (m : SgM) : lastOf ((p ++ [m]).map SgM.sg) = m.sg := by rw [List.map_append]; exact lastOf_snoc _ _

/-! ## end, last, begin, note -/
theorem jend_any (e : Int) (w : World) (h : Jo w T j d s J) :
    Calls Tryz.prog 69 #[.pointer (some ⟨j, 0, none⟩), .int .i64 e] w fun r w' => r = .returned (.int .i64 e) ∧ Jo w' T j d s (jEnd J e) ∧ Turn T T w w' := by
  obtain ⟨vs, ms, h, hs⟩ := h
  by_cases he : e = 10
  · subst he
    have f3 := h.fz 3
    have c3 := h.c3
    have e1 : jEnd J 10 = { J with off := true } := by simp [jEnd]
    have h1 : Jo (w.setCell ⟨j, 3, none⟩ (.bool true)) T j d s (jEnd J 10) := by
      rw [e1]
      exact ⟨vs, ms, h.head 3 _ _ _ (by simp [topJ]), hs⟩
    have h2 : Turn T T w (w.setCell ⟨j, 3, none⟩ (.bool true)) := ⟨(Outs.refl _ _).setCell (.inl h.tj) _, fun _ h => .inl h⟩
    have H1 := Lib.hid h1
    have H2 := Lib.hid h2
    clear h1 h2 e1 h
    go_enter Tryz.func69, Tryz.ntmps69
    go_wp2
    go_returns
    exact ⟨by simp, H1.out, H2.out⟩
  · have hn : (e == 10) = false := by simpa using he
    have e1 : jEnd J e = J := by simp [jEnd, he]
    have h1 : Jo w T j d s (jEnd J e) := by rw [e1]; exact ⟨vs, ms, h, hs⟩
    have H1 := Lib.hid h1
    clear h1 e1 h
    go_enter Tryz.func69, Tryz.ntmps69
    go_wp2
    go_returns
    exact ⟨by simp, H1.out, Turn.refl _ _⟩

theorem addr_to (g off k : Nat) : (⟨g, off, none⟩ : Addr).add k = ⟨g, off + k, none⟩ := by unfold Addr.add; split <;> simp_all
/-- 'j.last()': where the last segment stands -/
theorem jlast_at {g c n : Nat} (w : World) (h5 : w.cell? ⟨j, 5, none⟩ = some (.slice (some ⟨g, 0, none⟩) (n + 1) c)) (hn : n ≤ 1099511627776) :
    Calls Tryz.prog 36 #[.pointer (some ⟨j, 0, none⟩)] w fun r w' => r = .returned (.pointer (some ⟨g, n * 3, none⟩)) ∧ ∃ q, w' = w.drewN q := by
  have h1 : ((n + 1 : Nat) : Int) - 1 = n := by omega
  go_enter Tryz.func36, Tryz.ntmps36
  go_wp2
  go_quiet (fail)
  go_wp2
  go_returns
  exact ⟨by simp, _, rfl⟩

/-- only the journal's own types turn -/
def Still (w w' : World) : Prop := ∀ e, e ≠ 51 → e ≠ 73 → e ≠ 33 → StayB e w w'
theorem Still.trans {a b c : World} (h : Still a b) (k : Still b c) : Still a c := fun e h1 h2 h3 => (h e h1 h2 h3).trans (k e h1 h2 h3)
theorem Still.below {a b : World} (h : Below a.heap.size a b) : Still a b := fun e _ _ _ => StayB.below h (Nat.le_refl _)
theorem infoSg : (Tryz.prog.info? 73).map (fun i => (i.zero, i.size, i.bytes)) = some (some (.agg #[.int .u64 0, .int .i64 0, .slice none 0 0]), 3, 40) := by kernel_rfl
theorem infoBs : (Tryz.prog.info? 33).map (fun i => (i.zero, i.size, i.bytes)) = some (some (.slice none 0 0), 1, 24) := by kernel_rfl
theorem info3 {x : Option TypeInfo} {z : Value} {a b : Nat} (h : x.map (fun i => (i.zero, i.size, i.bytes)) = some (some z, a, b)) : ∃ i, x = some i ∧ i.zero = some z ∧ i.size = a ∧ i.bytes = b := by
  cases x with
  | none => cases h
  | some i =>
    simp only [Option.map_some, Option.some.injEq, Prod.mk.injEq] at h
    exact ⟨i, rfl, h.1, h.2.1, h.2.2⟩

set_option maxRecDepth 10000 in
theorem jbegin_at (n : Nat) (w : World) (h : JnAt w T j d s off next vs ms) (hn : n ≤ 9223372036854775807) (hms : ms.length ≤ 1099511627776) :
    Calls Tryz.prog 65 #[.pointer (some ⟨j, 0, none⟩), .int .u64 n] w fun r w' => r = .returned (.tuple #[]) ∧ ∃ T' v', JnAt w' T' j d s off n v' (ms ++ [⟨n, .slice none 0 0, []⟩]) ∧ Turn T T' w w' ∧ Still w w' := by
  obtain ⟨i0, hi, hz0, hz1, hz2⟩ := info3 infoSg
  have c5 := h.c5
  have H := Lib.hid h
  have hT := h.lt
  go_enter Tryz.func65, Tryz.ntmps65
  have hrow := h.row
  have hsz : ∀ W, Whole W j 51 (topJ j d s off next vs) → W.cell? ⟨j, 4, none⟩ = some (.int .u64 next) := fun W hW => hW.cell 4
  go_wp2_with (at_builtin; go_loud (refine app_elem w rfl (.tmp 8) (.tmp 11) 49 rfl 0 73 i0 (.agg #[.int .u64 0, .int .i64 0, .slice none 0 0]) 3 40 Tryz.underlying49 hi hz0 hz1 hz2 rfl (by decide) vs ms.length (cG ms) rfl hrow [.int .u64 n, .int .i64 0, .slice none 0 0] rfl w.heap.size _ rfl rfl rfl (by simp [Value.oneCell']) hms (by decide) (Nat.zero_le _) ?_))
  intro v' w2 hown hg hv
  have hB := h.begin hown hg hv
  have ht2 : Whole w2 j 51 (topJ j d s off next vs) := (((StayB.refl _ w).alloc _).grown (h.row.alloc _) (by decide) hg).whole h.top
  have k5 : w2.cell? ⟨j, 5, none⟩ = some vs := ht2.cell 5
  have f5 := ht2.frozen 5
  have ht3 := ht2.put 5 v'
  have k4 : (w2.setCell ⟨j, 5, none⟩ v').cell? ⟨j, 4, none⟩ = some (.int .u64 next) := ht3.cell 4
  have f4 := ht3.frozen 4
  have hTn : Turn T (fun k => T k ∨ v'.ownBlock = some k) w ((w2.setCell ⟨j, 5, none⟩ v').setCell ⟨j, 4, none⟩ (.int .u64 n)) := by
    have hsw : w.heap.size ≤ w.heap.size + 1 := Nat.le_succ _
    refine ⟨((((Outs.refl T w).alloc _).grown hg fun k hk => .inl (h.tv k hk)).setCell (.inl h.tj) _).setCell (.inl h.tj) _, fun k hk => ?_⟩
    rcases hk with hk | hk
    · exact .inl hk
    · rcases hv with e | e
      · exact .inl (h.tv k (e ▸ hk))
      · rw [e] at hk
        injection hk with hk
        exact .inr (by omega)
  have hSt : Still w ((w2.setCell ⟨j, 5, none⟩ v').setCell ⟨j, 4, none⟩ (.int .u64 n)) := fun e h1 h2 h3 => (((((StayB.refl e w).alloc _).grown (h.row.alloc _) h2 hg).put ht2 h1 _).put ht3 h1 _)
  have HB := Lib.hid hB
  have HT := Lib.hid hTn
  have HSt := Lib.hid hSt
  obtain ⟨A', c', rfl⟩ := row_any hown
  clear hSt hB hTn hown hg hv h c5 hrow ht2 ht3 H
  go_wp2
  go_returns
  exact ⟨rfl, _, _, HB.out, HT.out, HSt.out⟩

set_option maxRecDepth 10000 in
set_option maxHeartbeats 800000 in
theorem jnote_at {p : List SgM} {m : SgM} (x : RcM) (w : World) (h : JnAt w T j d s off next vs (p ++ [m])) (hx : w.ownsRow 0 5 1 x.v x.r.length (c8 x.r)) (hn : next ≤ 4611686018427387904) (hp : p.length ≤ 1099511627776) (hm : m.rs.length ≤ 1099511627776)
    (hsz : m.sg.size + (x.r.length + 12) ≤ 9223372036854775807) (hxl : x.r.length ≤ 1099511627776) :
    Calls Tryz.prog 37 #[.pointer (some ⟨j, 0, none⟩), .slice x.A x.r.length x.c] w fun r w' => r = .returned (.tuple #[]) ∧ ∃ v', JnAt w' (fun k => T k ∨ v'.ownBlock = some k ∨ x.v.ownBlock = some k) j d s off (next + 1) vs (p ++ [⟨m.num, v', m.rs ++ [x]⟩]) ∧ Outs T w w' ∧ (∀ k, v'.ownBlock = some k → T k ∨ w.heap.size ≤ k) ∧ Still w w' := by
  obtain ⟨i0, hi, hz0, hz1, hz2⟩ := info3 infoBs
  have hrow := h.row
  rw [List.length_append, List.length_singleton] at hrow
  obtain ⟨g, c, hvs, hgv, _, _⟩ := row_block hrow (Nat.succ_pos _)
  have c5 : w.cell? ⟨j, 5, none⟩ = some (.slice (some ⟨g, 0, none⟩) (p.length + 1) c) := by rw [h.c5, hvs]
  have hlast := jlast_at w c5 hp
  have H := Lib.hid h
  have HX := Lib.hid hx
  clear h hx hrow c5
  go_enter Tryz.func37, Tryz.ntmps37
  go_wp2_with fail
  refine hlast.mono ?_
  rintro r w1 ⟨rfl, q, rfl⟩
  have hb1 : Below w.heap.size w (w.drewN q) := bDrewN (Below.refl _ w) q
  have h1 := H.out.go hb1
  have hx1 : (w.drewN q).ownsRow 0 5 1 x.v x.r.length (c8 x.r) := HX.out
  clear hlast H HX
  generalize w.drewN q = w1 at *
  have hrow1 := h1.row
  have hc2 := (row_cell (i := p.length * 3 + 2) hrow1 hgv (cG_at p m [] 2 (by decide))).1
  have hmr := h1.rows m (by simp)
  go_wp2_with (at_builtin; go_loud (refine app_elem w1 rfl (.tmp 11) (.tmp 13) 37 rfl 0 33 i0 (.slice none 0 0) 1 24 Tryz.underlying37 hi hz0 hz1 hz2 rfl (by decide) m.v m.rs.length (cR m.rs) rfl hmr [.slice x.A x.r.length x.c] rfl w1.heap.size _ rfl rfl rfl (by simp [Value.oneCell']) hm (by decide) (Nat.zero_le _) ?_))
  intro v' w2 hown hg hv
  have hsz2 : (m.sg.size : Int) + (12 + (x.r.length : Int)) = ((m.sg.size + (x.r.length + 12) : Nat) : Int) := by omega
  have hN := h1.note hgv hx1 hown hg hv ((m.sg.size : Int) + (12 + (x.r.length : Int))) hsz2
  have hk1 : StayB 73 w1 w2 := ((StayB.refl _ w1).alloc _).grown (hmr.alloc _) (by decide) hg
  have hkj : StayB 51 w1 w2 := ((StayB.refl _ w1).alloc _).grown (hmr.alloc _) (by decide) hg
  have hr2 := hk1.own hrow1
  have e2 := row_cell (i := p.length * 3 + 2) hr2 hgv (cG_at p m [] 2 (by decide))
  have hr3 := row_set (i := p.length * 3 + 2) (u := v') hr2 hgv
  have e3 := row_cell (i := p.length * 3 + 1) (u := .int .i64 (m.sg.size : Nat)) hr3 hgv (by rw [List.getElem?_set_ne (by omega)]; exact cG_at p m [] 1 (by decide))
  have hr4 := row_set (i := p.length * 3 + 1) (u := .int .i64 ((m.sg.size : Int) + (12 + (x.r.length : Int)))) hr3 hgv
  obtain ⟨_, _, cs2, hcs2⟩ := ownRow_block hr2 hgv
  obtain ⟨_, _, cs3, hcs3⟩ := ownRow_block hr3 hgv
  have ht4 := (((StayB.refl 51 w2).put (i := p.length * 3 + 2) (show Whole w2 g _ cs2 from hcs2) (by decide) v').put (i := p.length * 3 + 1) (show Whole _ g _ cs3 from hcs3) (by decide) (.int .i64 ((m.sg.size : Int) + (12 + (x.r.length : Int))))).whole (hkj.whole h1.top)
  have k4 : ((w2.setCell ⟨g, p.length * 3 + 2, none⟩ v').setCell ⟨g, p.length * 3 + 1, none⟩ (.int .i64 ((m.sg.size : Int) + (12 + (x.r.length : Int))))).cell? ⟨j, 4, none⟩ = some (.int .u64 next) := ht4.cell 4
  have f4 := ht4.frozen 4
  have hTg := h1.tv g hgv
  have hO : Outs T w (((w2.setCell ⟨g, p.length * 3 + 2, none⟩ v').setCell ⟨g, p.length * 3 + 1, none⟩ (.int .i64 ((m.sg.size : Int) + (12 + (x.r.length : Int))))).setCell ⟨j, 4, none⟩ (.int .u64 (next + 1 : Nat))) :=
    (((((((Outs.of hb1 : Outs T w w1).alloc _).grown hg fun k hk => .inl (h1.tr m (by simp) k hk)).setCell (.inl hTg) _).setCell (.inl hTg) _).setCell (.inl h1.tj) _))
  have hSt : Still w (((w2.setCell ⟨g, p.length * 3 + 2, none⟩ v').setCell ⟨g, p.length * 3 + 1, none⟩ (.int .i64 ((m.sg.size : Int) + (12 + (x.r.length : Int))))).setCell ⟨j, 4, none⟩ (.int .u64 ((next : Int) + 1))) := fun e h1' h2' h3' =>
    ((((((StayB.below hb1 (Nat.le_refl _)).alloc _).grown (hmr.alloc _) h3' hg).put (i := p.length * 3 + 2) (show Whole w2 g _ cs2 from hcs2) h2' v').put (i := p.length * 3 + 1) (show Whole _ g _ cs3 from hcs3) h2' _).put ht4 h1' _)
  have hvT : ∀ k, v'.ownBlock = some k → T k ∨ w.heap.size ≤ k := fun k hk => by
    rcases hv with e | e
    · exact .inl (h1.tr m (by simp) k (e ▸ hk))
    · rw [e] at hk
      injection hk with hk
      have := hb1.size
      exact .inr (by omega)
  rw [show ((next + 1 : Nat) : Int) = (next : Int) + 1 by omega] at hN hO
  have HN := Lib.hid hN
  have HO := Lib.hid hO
  have HV := Lib.hid hvT
  have HSt := Lib.hid hSt
  obtain ⟨A', c', rfl⟩ := row_any hown
  obtain ⟨e2, f2⟩ := e2
  obtain ⟨e3, f3⟩ := e3
  clear hSt hsz2 hN hO hvT hown hg hv h1 hk1 hkj hr2 hr3 hr4 hcs2 hcs3 ht4 hrow1 hc2 hmr hx1 hb1
  go_wp2
  go_returns
  exact ⟨rfl, _, HN.out, HO.out, HV.out, HSt.out⟩
end
end Go.Proofs.YtfiebjfdlplpjaaGreatDoor
end

section
/- The names that the program gives a journal's segments, and what it reads of them. -/
namespace Go.Proofs.YtfiebjfdlplpjaaGreatDoor
open Go.RowKit Go.Sort
set_option linter.unusedVariables false

/-- the library's table of powers of ten stands -/
def Pow (w : World) : Prop := Lib.TabIs Tryz.prog w "internal/strconv.uint64pow10" .u64 Lib.pow10Tab
theorem gPow : Tryz.prog.globalNamed "internal/strconv.uint64pow10" = some 0 := by kernel_rfl
theorem Pow.of {w w' : World} (h : Pow w) (hb : w'.heap[0]? = w.heap[0]?) : Pow w' := by
  unfold Pow Lib.TabIs World.var? at h ⊢
  rw [gPow] at h ⊢
  simp only [Option.bind_some] at h ⊢
  rw [hb]
  exact h
theorem Pow.lt {w : World} (h : Pow w) : 0 < w.heap.size := by
  unfold Pow Lib.TabIs World.var? at h
  rw [gPow] at h
  simp only [Option.bind_some] at h
  rcases Nat.lt_or_ge 0 w.heap.size with h1 | h1
  · exact h1
  · rw [Array.getElem?_eq_none h1] at h
    cases h
theorem Pow.go {w w' : World} (h : Pow w) (hb : Below w.heap.size w w') : Pow w' := h.of (hb.block _ h.lt)
theorem Pow.outs {S : Nat → Prop} {w w' : World} (h : Pow w) (ho : Outs S w w') (hn : ¬ S 0) : Pow w' := h.of (ho.block _ h.lt hn)
theorem grow_below (w : World) (k : Nat) (os : Array Obj) : Below w.heap.size w (grow (w.drewN k) os) :=
  ⟨rfl, rfl, rfl, by simp [grow], fun g hg => by
    simp only [grow, World.drewN]
    exact Array.getElem?_append_left hg⟩

set_option maxHeartbeats 1600000 in
set_option maxRecDepth 100000 in
theorem ifmt_any (u : Nat) (hu64 : u < 18446744073709551616) (w : World) (hp : Pow w) :
    Calls Tryz.prog 98 #[.int .u64 u, .int .i64 10] w fun e w' => e = .returned (.string ⟨(Lib.decDigits u).toArray⟩) ∧ Below w.heap.size w w' := by
  by_cases hs : u < 100
  · have hs' : (u : Int) < 100 := by omega
    go_enter Tryz.func98, Tryz.ntmps98
    go_wp2_with fail
    refine (Tryz.internal_strconv_small u hs _).mono ?_
    rintro e w' ⟨rfl, rfl⟩
    go_wp2
    go_returns
    exact ⟨by simp, Below.refl _ _⟩
  · have hs' : ¬ (u : Int) < 100 := by omega
    have hu1 : 1 ≤ u := by omega
    have hnd20 : Lib.nDigits u ≤ 20 := Lib.nDigits_le20 u hu64
    have hb3 : Lib.nDigits u ≤ 24 := by omega
    have hal : Tryz.prog.arrayLen 157 = 24 := by kernel_rfl
    have hsl : ∀ W, (Instr.sliceAt 157 (.pointer (some ⟨w.heap.size, 0, none⟩)) none (some (.int .i64 (Lib.nDigits u : Int))) none).run Tryz.prog W = .ok (.slice (some ⟨w.heap.size, 0, none⟩) (Lib.nDigits u) 24) W := fun W => by
      rw [run_sliceAt_array_h W 157 ⟨w.heap.size, 0, none⟩ (by simp [Program.arrayLen, Program.elem, Tryz.underlying157]) .i64 (Lib.nDigits u : Int) (by omega) (by rw [hal]; omega)]
      go_simp
    clear hal
    have hH0 := Lib.holds_zero0 w 157 (Lib.nDigits u) hb3
    have hfmt := Tryz.internal_strconv_formatBase10 w.heap.size 0 24 u (Array.replicate (Lib.nDigits u) 0) (w.alloc (.cells Lib.zeros24 157)) hH0 (by rw [Array.size_replicate]; exact Lib.lt_pow_nDigits u) hu64 (by rw [Array.size_replicate]; omega)
    rw [Array.size_replicate] at hfmt
    have hnm := Tryz.internal_strconv_numDigits u hu1 hu64 (w.alloc (.cells Lib.zeros24 157)) (hp.go ((Below.refl _ _).alloc (Nat.le_refl _) _))
    have HH0 := Lib.hid hH0
    clear hH0
    go_enter Tryz.func98, Tryz.ntmps98
    go_wp2_with fail
    refine hnm.mono ?_
    rintro e w' ⟨rfl, rfl⟩
    go_wp2_with fail
    refine hfmt.mono ?_
    rintro e w' ⟨rfl, k, v', dk, rfl, hF⟩
    have hcv : (convert 33 9 (.slice (some ⟨w.heap.size, 0, none⟩) (Lib.nDigits u) 24)).run Tryz.prog ((putRow (fun (b : UInt8) => Value.int .u8 (b.toNat : Int)) (w.alloc (.cells Lib.zeros24 157)) w.heap.size 0 dk).drewN k) = .ok (.string ⟨(Lib.decDigits u).toArray⟩) ((putRow (fun (b : UInt8) => Value.int .u8 (b.toNat : Int)) (w.alloc (.cells Lib.zeros24 157)) w.heap.size 0 dk).drewN k) := by
      have h := run_convert_bytes_back (P := Tryz.prog) ((putRow (fun (b : UInt8) => Value.int .u8 (b.toNat : Int)) (w.alloc (.cells Lib.zeros24 157)) w.heap.size 0 dk).drewN k) 33 9 5 ⟨w.heap.size, 0, none⟩ 24 (Lib.decDigits u) Tryz.underlying33 Tryz.underlying5 Tryz.underlying9 (fun j hj => by
        rw [Lib.row_is_numeral hF j hj, Lib.add_plain, World.cell?_drewN]
        exact cell?_putRow (fun (b : UInt8) => Value.int .u8 (b.toNat : Int)) _ w.heap.size 0 _ dk HH0.out (by rw [hF.size, Array.size_replicate]) j (by rw [hF.size]; rw [Lib.decDigits_length] at hj; exact hj))
      rw [Lib.decDigits_length] at h
      exact h
    obtain ⟨os, eo⟩ := Lib.fin_at w (.cells Lib.zeros24 157) dk k 0
    have hbel := grow_below w k os
    rw [← eo] at hbel
    have HB := Lib.hid hbel
    clear hbel eo hF hfmt hnm HH0
    generalize (putRow (fun (b : UInt8) => Value.int .u8 (b.toNat : Int)) (w.alloc (.cells Lib.zeros24 157)) w.heap.size 0 dk).drewN k = w2 at *
    go_wp2
    go_returns
    exact ⟨by simp, HB.out⟩

theorem fmt_any (u : Nat) (hu64 : u < 18446744073709551616) (w : World) (hp : Pow w) :
    Calls Tryz.prog 86 #[.int .u64 u, .int .i64 10] w fun e w' => e = .returned (.string ⟨(Lib.decDigits u).toArray⟩) ∧ Below w.heap.size w w' := by
  have h := ifmt_any u hu64 w hp
  go_enter Tryz.func86, Tryz.ntmps86
  go_wp2_with fail
  refine h.mono ?_
  rintro e w' ⟨rfl, hb⟩
  go_wp2
  go_returns
  exact ⟨by simp, hb⟩

theorem rep_zero : ∀ k, Lib.repeatL [48] k = List.replicate k (48 : UInt8)
  | 0 => rfl
  | k + 1 => by
    rw [Lib.repeatL, rep_zero k, List.replicate_succ]
    rfl
/-- the name of a segment -/
def strOf (l : Nm) : ByteArray := ⟨l.toArray⟩
theorem segName_any (s : ByteArray) (n : Nat) (hs : s.size ≤ 1000) (hn : n ≤ maxNo) (w : World) (hp : Pow w) :
    Calls Tryz.prog 70 #[.string s, .int .u64 n] w fun e w' => e = .returned (.string (strOf (segN s.data.toList n))) ∧ Below w.heap.size w w' := by
  have hn64 : n < 18446744073709551616 := by unfold maxNo at hn; omega
  have hf := fmt_any n hn64 w hp
  have hlen := dec_len hn
  have hsz : (ByteArray.mk (Lib.decDigits n).toArray).size = (Lib.decDigits n).length := by simp [ByteArray.size]
  have hE := segN_dec s.data.toList hn
  generalize hd : Lib.decDigits n = ds at *
  have hsub : (12 : Int) - (ds.length : Int) = ((12 - ds.length : Nat) : Int) := by omega
  have HE := Lib.hid hE
  have HS := Lib.hid hsz
  have HB := Lib.hid hsub
  clear hE hd hsub
  go_enter Tryz.func70, Tryz.ntmps70
  go_wp2_with fail
  refine hf.mono ?_
  rintro e w1 ⟨rfl, hb1⟩
  go_wp2_with fail
  rw [HB.out]
  refine (Tryz.strings_Repeat (ByteArray.mk #[48]) (12 - ds.length) w1 (by omega) (by show 1 * (12 - ds.length) ≤ _; omega)).mono ?_
  rintro e w2 ⟨rfl, hb2⟩
  have hb12 : Below w.heap.size w w2 := hb1.trans (hb2.mono hb1.size)
  have hout : s ++ ByteArray.mk #[45] ++ ByteArray.mk (Lib.repeatL (ByteArray.mk #[48]).data.toList (12 - ds.length)).toArray ++ ByteArray.mk ds.toArray = strOf (segN s.data.toList n) := by
    rw [← HE.out]
    apply ByteArray.ext
    apply Array.ext'
    simp only [ByteArray.data_append, Array.toList_append, strOf]
    show _ ++ _ ++ (Lib.repeatL [48] _).toArray.toList ++ _ = _
    rw [rep_zero]
  have HO := Lib.hid hout
  have hrl : (Lib.repeatL [48] (12 - ds.length)).length = 12 - ds.length := by rw [rep_zero, List.length_replicate]
  have hq1 : ¬ 9223372036854775807 < s.size + 1 + (Lib.repeatL [48] (12 - ds.length)).length := by omega
  have hq2 : ¬ 9223372036854775807 < s.size + 1 + (Lib.repeatL [48] (12 - ds.length)).length + ds.length := by omega
  clear hout hf hsz hrl
  go_wp2
  go_returns
  exact ⟨by simp; exact HO.out, hb12⟩

/-- what a file's name tells: the number, and whether it is a segment's name -/
def segV (o : Option Nat) : Value := match o with | some n => .tuple #[.int .u64 n, .bool true] | none => .tuple #[.int .u64 0, .bool false]
theorem rdg_bad {a b : Nm} {c : UInt8} {x y : Nat} (h : rdg x a = some y) (hc : ¬ (48 ≤ c.toNat ∧ c.toNat ≤ 57)) : rdg x (a ++ c :: b) = none := by
  rw [rdg_append, h]
  show rdg y (c :: b) = none
  simp only [rdg, if_neg hc]
theorem rdg_good {a : Nm} {c : UInt8} {x y : Nat} (h : rdg x a = some y) (hc : 48 ≤ c.toNat ∧ c.toNat ≤ 57) : rdg x (a ++ [c]) = some (y * 10 + (c.toNat - 48)) := by
  rw [rdg_append, h]
  show rdg y [c] = _
  simp only [rdg, if_pos hc]
set_option maxHeartbeats 1600000 in
theorem segNo_any (s f : ByteArray) (hs : s.size ≤ 1000) (w : World) :
    Calls Tryz.prog 80 #[.string s, .string f] w fun e w' => e = .returned (segV (segNo s.data.toList f.data.toList)) ∧ ∃ q, w' = w.drewN q := by
  have hsp : (s ++ ByteArray.mk #[45]).data.toList = s.data.toList ++ [45] := by simp
  have hcut := Tryz.strings_CutPrefix f (s ++ ByteArray.mk #[45]) w
  rw [hsp] at hcut
  have hq0 : ¬ 9223372036854775807 < s.size + 1 := by omega
  by_cases hpre : Lib.hasPrefix f.data.toList (s.data.toList ++ [45]) = true
  · have ht : Lib.trimPrefix f.data.toList (s.data.toList ++ [45]) = f.data.toList.drop (s.data.toList.length + 1) := by
      unfold Lib.trimPrefix
      rw [if_pos hpre]
      simp
    rw [ht, hpre] at hcut
    have hno : segNo s.data.toList f.data.toList = if (f.data.toList.drop (s.data.toList.length + 1)).length = 12 then rdg 0 (f.data.toList.drop (s.data.toList.length + 1)) else none := by
      unfold segNo
      have h1 : (s.data.toList ++ [45]).isPrefixOf f.data.toList = true := hpre
      rw [h1]
      simp
    rw [hno]
    generalize f.data.toList.drop (s.data.toList.length + 1) = dl at *
    clear hpre ht hno hsp
    obtain ⟨D, hD⟩ : ∃ D : ByteArray, D = ByteArray.mk dl.toArray := ⟨_, rfl⟩
    rw [← hD] at hcut
    obtain rfl : dl = D.data.toList := by rw [hD]
    clear hD
    have hsz : D.size = D.data.toList.length := by simp
    by_cases h12 : D.data.toList.length = 12
    · rw [if_pos h12]
      generalize hr : rdg 0 D.data.toList = res
      have HR := Lib.hid hr
      have hD12 : D.size = 12 := by omega
      have h12i : ((D.size : Int) != 12) = false := by simp [hD12]
      have H12 := Lib.hid hD12
      have HL := Lib.hid h12
      clear hr hsz h12 hD12
      go_enter Tryz.func80, Tryz.ntmps80
      go_wp2_with fail
      refine hcut.mono ?_
      rintro e w' ⟨rfl, rfl⟩
      go_wp2
      go_loopw [24, 4] (fun i n wr => ∃ k N : Nat, k ≤ D.size ∧ i = .int .i64 k ∧ n = .int .u64 N ∧ rdg 0 (D.data.toList.take k) = some N ∧ N < 10 ^ k ∧ ∃ q, wr = w'.drewN q) (fun i _ _ => D.size - (intOf i).toNat)
      case atStart => exact ⟨0, 0, Nat.zero_le _, rfl, rfl, rfl, by decide, 0, rfl⟩
      case round =>
        obtain ⟨k, N, hk, rfl, rfl, hn, hN, q, rfl⟩ := hrel
        have HN := Lib.hid hn
        have hN12 : N < 10 ^ 12 := Nat.lt_of_lt_of_le hN (Nat.pow_le_pow_right (by decide) (by rw [← H12.out]; exact hk))
        have HNk := Lib.hid hN
        clear hn hN
        by_cases hlt : k < D.size
        · have hkl : k < D.data.toList.length := by rw [HL.out]; rw [H12.out] at hlt; exact hlt
          have ec : D[k]'hlt = D.data.toList[k]'hkl := by
            have hg : D.data[k]'(by exact hlt) = D.data.toList[k]'hkl := by simp
            rw [← hg]; rfl
          have htake : D.data.toList.take (k + 1) = D.data.toList.take k ++ [D[k]'hlt] := by rw [List.take_add_one, List.getElem?_eq_getElem hkl, ec]; rfl
          have hall : D.data.toList = D.data.toList.take k ++ (D[k]'hlt) :: D.data.toList.drop (k + 1) := by
            rw [ec, List.getElem_cons_drop, List.take_append_drop]
          have HT := Lib.hid htake
          have HA := Lib.hid hall
          clear ec htake hall
          generalize hcc : D[k]'hlt = c at *
          by_cases hc : 48 ≤ c.toNat ∧ c.toNat ≤ 57
          · have h1 : ¬ ((c.toNat : Int) < 48) := by omega
            have h2 : ¬ ((57 : Int) < c.toNat) := by omega
            have h3 : 0 ≤ (c.toNat : Int) - 48 := by omega
            have h4 : N * 10 + (c.toNat - 48) < 18446744073709551616 := by omega
            have HC := Lib.hid hc
            have hk12 : k < 12 := by have := H12.out; omega
            clear hc
            go_wp2
            go_roundw
            case rel =>
              refine ⟨k + 1, N * 10 + (c.toNat - 48), by omega, by go_num, ?_, ?_, ?_, q, rfl⟩
              · have := HC.out
                congr 1
                omega
              · rw [HT.out]
                exact rdg_good HN.out HC.out
              · have := HC.out
                have := HNk.out
                rw [Nat.pow_succ]
                omega
            case measure => simp [intOf]; omega
          · have HC := Lib.hid hc
            have hn0 : res = none := by
              rw [← HR.out, HA.out]
              exact rdg_bad HN.out hc
            subst hn0
            have h1 : (c.toNat : Int) < 48 ∨ (57 : Int) < c.toNat := by omega
            rcases h1 with h1 | h1
            · clear hc
              go_wp2
              go_returns
              exact ⟨rfl, _, rfl⟩
            · have h2 : ¬ ((c.toNat : Int) < 48) := by omega
              clear hc
              go_wp2
              go_returns
              exact ⟨rfl, _, rfl⟩
        · have hn0 : res = some N := by
            have := HN.out
            rw [List.take_of_length_le (by rw [HL.out]; rw [H12.out] at hlt; omega), HR.out] at this
            exact this
          subst hn0
          go_wp2
          go_returns
          exact ⟨rfl, _, rfl⟩
    · rw [if_neg h12]
      have h12i : ((D.size : Int) != 12) = true := by simp; omega
      clear hsz h12
      go_enter Tryz.func80, Tryz.ntmps80
      go_wp2_with fail
      refine hcut.mono ?_
      rintro e w' ⟨rfl, rfl⟩
      go_wp2
      go_returns
      exact ⟨rfl, 0, rfl⟩
  · have hp2 : Lib.hasPrefix f.data.toList (s.data.toList ++ [45]) = false := by simpa using hpre
    have hno : segNo s.data.toList f.data.toList = none := by
      unfold segNo
      have h1 : (s.data.toList ++ [45]).isPrefixOf f.data.toList = false := hp2
      rw [h1]
      simp
    rw [hno]
    rw [hp2] at hcut
    clear hno hpre hp2 hsp
    go_enter Tryz.func80, Tryz.ntmps80
    go_wp2_with fail
    refine hcut.mono ?_
    rintro e w' ⟨rfl, rfl⟩
    go_wp2
    go_returns
    exact ⟨rfl, 0, rfl⟩
end Go.Proofs.YtfiebjfdlplpjaaGreatDoor
end

section
/- Calls of a disk that is not there, or that nobody made. -/
namespace Go.Proofs.YtfiebjfdlplpjaaGreatDoor
open Go.RowKit
set_option linter.unusedVariables false

theorem Nobody.below {w w' : World} {p : Option Addr} (h : Nobody w p) (hl : ∀ d, p = some d → d.block < w.heap.size) (hb : Below w.heap.size w w') : Nobody w' p := by
  rcases h with rfl | ⟨d, rfl, h⟩
  · exact .inl rfl
  · exact .inr ⟨d, rfl, (hb.cell (p := ⟨d, 0, none⟩) (hl _ rfl)).trans h⟩

section
variable {w : World} {p : Option Addr}
set_option maxRecDepth 5000 in
theorem make_no (h : Nobody w p) (hl : ∀ d, p = some d → d.block < w.heap.size) (s : ByteArray) : Calls Tryz.prog 64 #[.pointer p, .string s] w fun e w' => e = .returned (.int .i64 1) ∧ Below w.heap.size w w' := by
  have hb : Below w.heap.size w (((w.alloc (.cells #[.pointer p] 23)).alloc (.cells #[.string s] 9)).alloc (.cells #[.string s] 9)) := (((Below.refl _ w).alloc (Nat.le_refl _) _).alloc (by simp) _).alloc (by simp; omega) _
  have hcon := fun v => refusal_no p v _ (h.below hl hb)
  have HB := Lib.hid hb
  clear hb h hl
  go_enter Tryz.func64, Tryz.ntmps64
  go_wp2_with fail
  refine (hcon _).mono ?_
  rintro e w' ⟨rfl, rfl⟩
  go_wp2
  go_returns
  exact ⟨by simp, HB.out⟩
set_option maxRecDepth 5000 in
theorem rename_no (h : Nobody w p) (hl : ∀ d, p = some d → d.block < w.heap.size) (s r : ByteArray) : Calls Tryz.prog 97 #[.pointer p, .string s, .string r] w fun e w' => e = .returned (.int .i64 1) ∧ Below w.heap.size w w' := by
  have hb : Below w.heap.size w ((((w.alloc (.cells #[.pointer p] 23)).alloc (.cells #[.string s] 9)).alloc (.cells #[.string r] 9)).alloc (.cells #[.string s, .string r] 9)) := ((((Below.refl _ w).alloc (Nat.le_refl _) _).alloc (by simp) _).alloc (by simp; omega) _).alloc (by simp; omega) _
  have hcon := fun v => refusal_no p v _ (h.below hl hb)
  have HB := Lib.hid hb
  clear hb h hl
  go_enter Tryz.func97, Tryz.ntmps97
  go_wp2_with fail
  refine (hcon _).mono ?_
  rintro e w' ⟨rfl, rfl⟩
  go_wp2
  go_returns
  exact ⟨by simp, HB.out⟩
theorem fuse_no (h : Nobody w p) (_ : ∀ d, p = some d → d.block < w.heap.size) (n : Int) : Calls Tryz.prog 22 #[.pointer p, .int .i64 n] w fun e w' => e = .returned (.int .i64 1) ∧ w' = w := by
  have hcon := fun v => refusal_no p v w h
  clear h
  go_enter Tryz.func22, Tryz.ntmps22
  go_wp2_with fail
  refine (hcon _).mono ?_
  rintro e w' ⟨rfl, rfl⟩
  go_wp2
  go_returns
  exact ⟨by simp, rfl⟩
set_option maxRecDepth 5000 in
theorem remove_no (h : Nobody w p) (hl : ∀ d, p = some d → d.block < w.heap.size) (s : ByteArray) : Calls Tryz.prog 48 #[.pointer p, .string s] w fun e w' => e = .returned (.int .i64 1) ∧ Below w.heap.size w w' := by
  have hb : Below w.heap.size w ((w.alloc (.cells #[.pointer p] 23)).alloc (.cells #[.string s] 9)) := ((Below.refl _ w).alloc (Nat.le_refl _) _).alloc (by simp) _
  have hcon := find_no p s _ (h.below hl hb)
  generalize hW : (w.alloc (.cells #[.pointer p] 23)).alloc (.cells #[.string s] 9) = W at *
  have HW := Lib.hid hW
  clear hW h hl
  go_enter Tryz.func48, Tryz.ntmps48
  go_wp2_with fail
  rw [HW.out]
  refine hcon.mono ?_
  rintro e w' ⟨rfl, hb1⟩
  go_wp2
  go_returns
  exact ⟨by simp, hb.trans (hb1.mono hb.size)⟩
set_option maxRecDepth 5000 in
theorem sync_no (h : Nobody w p) (_ : ∀ d, p = some d → d.block < w.heap.size) (s : ByteArray) : Calls Tryz.prog 71 #[.pointer p, .string s] w fun e w' => e = .returned (.int .i64 1) ∧ Below w.heap.size w w' := by
  have hcon := find_no p s w h
  clear h
  go_enter Tryz.func71, Tryz.ntmps71
  go_wp2_with fail
  refine hcon.mono ?_
  rintro e w' ⟨rfl, hb1⟩
  go_wp2
  go_returns
  exact ⟨by simp, hb1.alloc hb1.size _⟩
theorem read_no (h : Nobody w p) (_ : ∀ d, p = some d → d.block < w.heap.size) (s : ByteArray) : Calls Tryz.prog 25 #[.pointer p, .string s] w fun e w' => e = .returned (.tuple #[.slice none 0 0, .int .i64 1]) ∧ Below w.heap.size w w' := by
  have hcon := find_no p s w h
  clear h
  go_enter Tryz.func25, Tryz.ntmps25
  go_wp2_with fail
  refine hcon.mono ?_
  rintro e w' ⟨rfl, hb1⟩
  go_wp2
  go_returns
  exact ⟨by simp, hb1⟩
theorem synced_no (h : Nobody w p) (_ : ∀ d, p = some d → d.block < w.heap.size) (s : ByteArray) : Calls Tryz.prog 56 #[.pointer p, .string s] w fun e w' => e = .returned (.tuple #[.int .i64 0, .int .i64 1]) ∧ Below w.heap.size w w' := by
  have hcon := find_no p s w h
  clear h
  go_enter Tryz.func56, Tryz.ntmps56
  go_wp2_with fail
  refine hcon.mono ?_
  rintro e w' ⟨rfl, hb1⟩
  go_wp2
  go_returns
  exact ⟨by simp, hb1⟩
set_option maxRecDepth 5000 in
theorem append_no (h : Nobody w p) (hl : ∀ d, p = some d → d.block < w.heap.size) (s : ByteArray) (v : Value) : Calls Tryz.prog 33 #[.pointer p, .string s, v] w fun e w' => e = .returned (.int .i64 1) ∧ Below w.heap.size w w' := by
  have hb : Below w.heap.size w ((w.alloc (.cells #[.pointer p] 23)).alloc (.cells #[.int .i64 0] 24)) := ((Below.refl _ w).alloc (Nat.le_refl _) _).alloc (by simp) _
  have hcon := find_no p s _ (h.below hl hb)
  have x2 : Whole ((w.alloc (.cells #[.pointer p] 23)).alloc (.cells #[.int .i64 0] 24)) (w.heap.size + 1) 24 #[.int .i64 0] := by
    have := Whole.new (w.alloc (.cells #[.pointer p] 23)) 24 #[.int .i64 0]
    rw [World.size_alloc] at this
    exact this
  generalize hW : (w.alloc (.cells #[.pointer p] 23)).alloc (.cells #[.int .i64 0] 24) = W at *
  have HW := Lib.hid hW
  clear hW h hl
  go_enter Tryz.func33, Tryz.ntmps33
  go_wp2_with fail
  rw [HW.out]
  refine hcon.mono ?_
  rintro e w1 ⟨rfl, hb1⟩
  have hb2 : Below w.heap.size w w1 := hb.trans (hb1.mono hb.size)
  have y2 := x2.below hb1 x2.lt
  have k3 : (w1.alloc (.cells #[.pointer none] 80)).cell? ⟨w.heap.size + 1, 0, none⟩ = some (.int .i64 0) := (y2.alloc _).cell 0
  have k4 : (w1.alloc (.cells #[.pointer none] 80)).frozen? ⟨w.heap.size + 1, 0, none⟩ = false := (y2.alloc _).frozen 0
  have hb3 : Below w.heap.size w ((w1.alloc (.cells #[.pointer none] 80)).setCell ⟨w.heap.size + 1, 0, none⟩ (.int .i64 1)) := (hb2.alloc hb2.size _).setCell (p := ⟨w.heap.size + 1, 0, none⟩) (Nat.le_succ _) _
  have hcell : ((w1.alloc (.cells #[.pointer none] 80)).setCell ⟨w.heap.size + 1, 0, none⟩ (.int .i64 1)).cell? ⟨w.heap.size + 1, 0, none⟩ = some (.int .i64 1) := ((y2.alloc _).put 0 _).cell 0
  have HB := Lib.hid hb3
  clear hb3 x2 y2 hcon hb hb1 hb2 HW
  go_wp2
  (try simp only [Exit.inBlock, Exit.then])
  refine bodyPost_ret (by simp [results, Tryz.results33, go_sem, hcell]; try rfl) rfl ?_
  exact ⟨rfl, HB.out⟩
end
end Go.Proofs.YtfiebjfdlplpjaaGreatDoor
end
