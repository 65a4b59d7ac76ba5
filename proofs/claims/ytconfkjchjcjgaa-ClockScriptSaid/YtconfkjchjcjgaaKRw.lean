/- The document's watch in memory. -/
import Derived.Test.YtconfkjchjcjgaaKRes
import Derived.Test.YtconfkjchjcjgaaAppW
namespace Go.Proofs.Ytconfkjchjcjgaa
open Go.RowKit
set_option linter.unusedVariables false

theorem addr_off {ad : Addr} {k : Nat} (h : k ≠ 0) : ad.add k = ⟨ad.block, ad.off + k, none⟩ := by unfold Addr.add; rw [if_neg h]
/-- the cells that ends take -/
def cE (L : List It) : List Value := L.flatMap fun x => [.string x.nm, .int .i64 x.at_]
theorem cE_append (a b : List It) : cE (a ++ b) = cE a ++ cE b := by simp [cE, List.flatMap_append]
theorem cE_length (L : List It) : (cE L).length = L.length * 2 := by
  induction L with
  | nil => rfl
  | cons x L ih =>
    have e : cE (x :: L) = [.string x.nm, .int .i64 x.at_] ++ cE L := rfl
    rw [e, List.length_append, ih, List.length_cons]
    simp
    omega
theorem cE_get {L : List It} {k : Nat} (h : k < L.length) : (cE L)[k * 2]? = some (.string L[k].nm) ∧ (cE L)[k * 2 + 1]? = some (.int .i64 L[k].at_) := by
  induction L generalizing k with
  | nil => simp at h
  | cons x L ih =>
    have e : cE (x :: L) = [.string x.nm, .int .i64 x.at_] ++ cE L := rfl
    have hl : ([Value.string x.nm, .int .i64 x.at_] : List Value).length = 2 := rfl
    cases k with
    | zero => exact ⟨rfl, rfl⟩
    | succ k =>
      rw [e, List.getElem?_append_right (by rw [hl]; omega), List.getElem?_append_right (by rw [hl]; omega), hl, show (k + 1) * 2 - 2 = k * 2 by omega, show (k + 1) * 2 + 1 - 2 = k * 2 + 1 by omega]
      simpa using ih (by simpa using h)
theorem cE_take (L : List It) (k : Nat) : cE (L.take k) = (cE L).take (k * 2) := by
  induction L generalizing k with
  | nil => simp [cE]
  | cons x L ih =>
    cases k with
    | zero => simp [cE]
    | succ k =>
      have e : cE (x :: L) = [.string x.nm, .int .i64 x.at_] ++ cE L := rfl
      have e2 : cE ((x :: L).take (k + 1)) = [.string x.nm, .int .i64 x.at_] ++ cE (L.take k) := rfl
      rw [e, e2, ih, List.take_append, show (k + 1) * 2 - ([Value.string x.nm, .int .i64 x.at_] : List Value).length = k * 2 by simp; omega, List.take_of_length_le (l := [Value.string x.nm, .int .i64 x.at_]) (by simp; omega)]
theorem cE_drop (L : List It) (k : Nat) : cE (L.drop k) = (cE L).drop (k * 2) := by
  induction L generalizing k with
  | nil => simp [cE]
  | cons x L ih =>
    cases k with
    | zero => simp [cE]
    | succ k =>
      have e : cE (x :: L) = [.string x.nm, .int .i64 x.at_] ++ cE L := rfl
      rw [e, List.drop_succ_cons, ih, List.drop_append, show (k + 1) * 2 - ([Value.string x.nm, .int .i64 x.at_] : List Value).length = k * 2 by simp; omega, List.drop_eq_nil_of_le (show ([Value.string x.nm, .int .i64 x.at_] : List Value).length ≤ (k + 1) * 2 by simp; omega), List.nil_append]
theorem cE_one (L : List It) : ∀ u ∈ cE L, u.oneCell' = true := by
  intro u hu
  obtain ⟨r, hr, hu⟩ := List.mem_flatMap.1 hu
  simp only [List.mem_cons, List.not_mem_nil, or_false] at hu
  rcases hu with rfl | rfl <;> rfl
theorem infoEnd : (Try.prog.info? 80).map (fun i => (i.zero, i.size, i.bytes)) = some (some (.agg #[.string ⟨#[]⟩, .int .i64 0]), 2, 24) := by kernel_rfl

/-- the document's watch at x, its places R -/
structure RwAt (w : World) (R : Nat → Prop) (x : Nat) (A : Option Addr) (n c : Nat) (T : Int) (L : List It) : Prop where
  top : Whole w x 48 #[.int .i64 T, .slice A n c]
  len : L.length = n
  cap : n ≤ c
  cmax : c ≤ maxLen
  few : n ≤ 1000000
  nil_ : A = none → n = 0 ∧ c = 0
  rds : Rds w w.heap.size A (cE L)
  inR : ∀ ad, cE L ≠ [] → A = some ad → R ad.block ∧ ad.block ≠ x
  sx : R x
  lt : ∀ k, R k → k < w.heap.size
def Rw (w : World) (R : Nat → Prop) (x : Nat) (T : Int) (L : List It) : Prop := ∃ A n c, RwAt w R x A n c T L
section
variable {w w' : World} {R S : Nat → Prop} {x n c : Nat} {A : Option Addr} {T : Int} {L : List It}
theorem RwAt.outs (h : RwAt w R x A n c T L) {U : Nat → Prop} (ho : Outs U w w') (hn : ∀ k, R k → ¬ U k) : RwAt w' R x A n c T L :=
  { h with
    top := h.top.outs ho (hn _ h.sx)
    rds := fun hne => by
      obtain ⟨ad, e, hb, hc⟩ := h.rds hne
      refine ⟨ad, e, Nat.lt_of_lt_of_le hb ho.size, fun j u hu => ?_⟩
      rw [ho.cell (p := ad.add j) (by rw [blk_add]; exact hb) (by rw [blk_add]; exact hn _ (h.inR ad hne e).1)]
      exact hc j u hu
    lt := fun k hk => Nat.lt_of_lt_of_le (h.lt k hk) ho.size }
theorem RwAt.go (h : RwAt w R x A n c T L) (hb : Below w.heap.size w w') : RwAt w' R x A n c T L := h.outs (U := fun _ => False) (Outs.of hb) (fun _ _ e => e)
theorem Rw.outs (h : Rw w R x T L) {U : Nat → Prop} (ho : Outs U w w') (hn : ∀ k, R k → ¬ U k) : Rw w' R x T L := by
  obtain ⟨A, n, c, h⟩ := h
  exact ⟨A, n, c, h.outs ho hn⟩
theorem Rw.go (h : Rw w R x T L) (hb : Below w.heap.size w w') : Rw w' R x T L := h.outs (U := fun _ => False) (Outs.of hb) (fun _ _ e => e)
theorem Rw.lt (h : Rw w R x T L) : ∀ k, R k → k < w.heap.size := by
  obtain ⟨A, n, c, h⟩ := h
  exact h.lt
theorem Rw.sx (h : Rw w R x T L) : R x := by
  obtain ⟨A, n, c, h⟩ := h
  exact h.sx
theorem RwAt.c0 (h : RwAt w R x A n c T L) : w.cell? ⟨x, 0, none⟩ = some (.int .i64 T) := by simpa using h.top.cell 0
theorem RwAt.c1 (h : RwAt w R x A n c T L) : w.cell? ⟨x, 1, none⟩ = some (.slice A n c) := by simpa using h.top.cell 1
theorem RwAt.at_ (h : RwAt w R x A n c T L) {k : Nat} (hk : k < n) : ∃ ad, A = some ad ∧ w.cell? (ad.add (k * 2)) = some (.string (L[k]'(by have := h.len; omega)).nm) ∧ w.cell? ⟨(ad.add (k * 2)).block, (ad.add (k * 2)).off + 1, none⟩ = some (.int .i64 (L[k]'(by have := h.len; omega)).at_) := by
  obtain ⟨e1, e2⟩ := cE_get (L := L) (k := k) (by have := h.len; omega)
  obtain ⟨ad, hA, hb, c1⟩ := h.rds.at_ e1
  obtain ⟨ad', hA', hb', c2⟩ := h.rds.at_ e2
  rw [hA] at hA'
  obtain rfl := Option.some.inj hA'
  refine ⟨ad, hA, c1, ?_⟩
  rw [← addr_off (by decide : (1 : Nat) ≠ 0), add_twice]
  exact c2
theorem RwAt.at0 (h : RwAt w R x A n c T L) {y : It} {L' : List It} (hL : L = y :: L') : ∃ ad, A = some ad ∧ w.cell? ad = some (.string y.nm) ∧ w.cell? ⟨ad.block, ad.off + 1, none⟩ = some (.int .i64 y.at_) := by
  subst hL
  obtain ⟨ad, hA, c1, c2⟩ := h.at_ (k := 0) (by have := h.len; simp at this; omega)
  have e : ad.add (0 * 2) = ad := rfl
  rw [e] at c1 c2
  exact ⟨ad, hA, c1, c2⟩
/-- a list laid anew -/
theorem RwAt.laid (h : RwAt w R x A n c T L) {w1 w9 : World} {B0 m : Nat} {u : Value} {L' : List It} (hw1 : Below w.heap.size w w1) (hB : w.heap.size ≤ B0) (hB1 : B0 ≤ w1.heap.size) (h9 : Below B0 w1 w9) (hown : w9.ownsRow B0 80 2 u m (cE L')) (hm : m ≤ 1000000) :
    Rw (w9.setCell ⟨x, 1, none⟩ u) (More R w (w9.setCell ⟨x, 1, none⟩ u)) x T L' ∧ Outs (fun k => k = x) w (w9.setCell ⟨x, 1, none⟩ u) := by
  have hall : Below w.heap.size w w9 := hw1.trans (h9.mono hB)
  have htop : Whole w9 x 48 #[.int .i64 T, .slice A n c] := h.top.below hall (h.lt _ h.sx)
  have hs9 : (w9.setCell ⟨x, 1, none⟩ u).heap.size = w9.heap.size := by simp [World.setCell]
  have hlen : L'.length = m := by
    have := hown.1
    rw [cE_length] at this
    omega
  have hout : Outs (fun k => k = x) w (w9.setCell ⟨x, 1, none⟩ u) := (Outs.of (S := fun k => k = x) hall).setCell (p := ⟨x, 1, none⟩) (.inl rfl) u
  have hown2 : (w9.setCell ⟨x, 1, none⟩ u).ownsRow B0 80 2 u m (cE L') := ownRow_block_kept hown fun g hg => Below.heap_setCell _ _ _ _ (ownRow_ne hown hg htop (by decide))
  have htop2 := htop.put 1 u
  have hxlt : x < w9.heap.size := htop.lt
  refine ⟨?_, hout⟩
  have hlt9 : ∀ (u : Value) k, More R w (w9.setCell ⟨x, 1, none⟩ u) k → k < (w9.setCell ⟨x, 1, none⟩ u).heap.size := fun u k hk => by
    rcases hk with hk | hk
    · have := Nat.lt_of_lt_of_le (h.lt k hk) hall.size
      simpa [World.setCell] using this
    · exact hk.2
  rcases hown2.2 with ⟨rfl, rfl⟩ | ⟨g, cap, cur, rfl, hBg, hh, h1, h2, h3, h4⟩
  · have hL : L' = [] := List.eq_nil_of_length_eq_zero hlen
    subst hL
    exact ⟨none, 0, 0, { top := htop2, len := rfl, cap := Nat.le_refl _, cmax := Nat.zero_le _, few := hm, nil_ := fun _ => ⟨rfl, rfl⟩, rds := Rds.nil_, inR := fun ad _ e => (by cases e), sx := .inl h.sx, lt := hlt9 _ }⟩
  · have hglt : g < w9.heap.size := by rw [← hs9]; exact (Array.getElem?_eq_some_iff.1 hh).1
    have hgx : g ≠ x := fun e => by have := h.lt _ h.sx; omega
    refine ⟨some ⟨g, 0, none⟩, m, cap, { top := htop2, len := hlen, cap := h1, cmax := h2, few := hm, nil_ := fun e => (by cases e), rds := ?_, inR := fun ad _ e => ?_, sx := .inl h.sx, lt := hlt9 _ }⟩
    · intro _
      refine ⟨_, rfl, by rw [hs9]; exact hglt, fun j q hq => ?_⟩
      rw [add_base, cell_of_row _ g j cur _ (0, 0) hh, ← hq, ← h4, List.getElem?_take_of_lt]
      · simp
      · have := (List.getElem?_eq_some_iff.1 hq).1
        rw [cE_length] at this
        omega
    · cases e
      exact ⟨.inr ⟨by show w.heap.size ≤ g; omega, by rw [hs9]; exact hglt⟩, hgx⟩
theorem rowed_drop2 {A : Option Addr} {c n k : Nat} {xs : List Value} {lim : Nat} (h : Rds w lim A xs) (hc : n ≤ c) (hn : xs.length = n * 2) : Rds w lim (if c = k then A else A.map (·.add (k * 2))) (xs.drop (k * 2)) := by
  intro hne
  have hk : k * 2 < xs.length := by
    rcases Nat.lt_or_ge (k * 2) xs.length with h1 | h1
    · exact h1
    · exact absurd (List.drop_eq_nil_of_le h1) hne
  obtain ⟨ad, rfl, hb, hcell⟩ := h (by rintro rfl; simp at hk)
  rw [if_neg (by omega)]
  refine ⟨ad.add (k * 2), rfl, by rw [blk_add]; exact hb, fun j u hu => ?_⟩
  rw [add_twice]
  exact hcell _ u (by rw [← hu, List.getElem?_drop])
theorem keepS {W w' : World} {a : Addr} {u : Value} {B : Nat} (c1 : W.cell? a = some u) (f1 : W.frozen? a = false) (ha : a.block < B) (hb : Below B W w') : w'.cell? a = some u ∧ w'.frozen? a = false ∧ Below B W w' :=
  ⟨(hb.cell ha).trans c1, (hb.frozen ha).trans f1, hb⟩
theorem own_open2 {w : World} {B n : Nat} {e : TypeId} {k : Nat} {v : Value} {xs : List Value} (h : w.ownsRow B e k v n xs) : ∃ A c, v = .slice A n c := by
  rcases h.2 with ⟨rfl, rfl⟩ | ⟨g, cap, cur, rfl, _⟩
  · exact ⟨none, 0, rfl⟩
  · exact ⟨_, _, rfl⟩
end
end Go.Proofs.Ytconfkjchjcjgaa
