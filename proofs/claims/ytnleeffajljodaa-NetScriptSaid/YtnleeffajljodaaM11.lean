/- Several texts, each a section: NPr, NPn. -/
import Derived.Test.YtnleeffajljodaaM09
import Derived.Test.YtnleeffajljodaaM10
section
/- Both nets side by side. -/
namespace Go.Proofs.Ytnleeffajljodaa
open Go.RowKit Go.Maps
set_option linter.unusedVariables false

/-- both nets, apart -/
structure Pr (w0 w : World) (S R : Nat → Prop) (b mb xb : Nat) (v : Value) (es ps : List (Le × Pl)) (sent last : Nat) : Prop where
  nt : Nt w S b mb es sent
  rn : Rn w R xb v ps last
  sg : ∀ i, S i → w0.heap.size ≤ i
  rg : ∀ i, R i → w0.heap.size ≤ i
  sr : ∀ i, S i → ¬ R i
  below : Below w0.heap.size w0 w
section
variable {w0 w w' : World} {S R S' R' T : Nat → Prop} {b mb xb : Nat} {v v' : Value} {es ps es' ps' : List (Le × Pl)} {sent last sent' last' : Nat}
theorem Pr.go (h : Pr w0 w S R b mb xb v es ps sent last) (hb : Below w.heap.size w w') : Pr w0 w' S R b mb xb v es ps sent last :=
  ⟨h.nt.go hb, h.rn.go hb, h.sg, h.rg, h.sr, h.below.trans (hb.mono h.below.size)⟩
theorem Pr.left (h : Pr w0 w S R b mb xb v es ps sent last) (hn : Nt w' S' b mb es' sent') (ht : Turn S S' w w') : Pr w0 w' S' R b mb xb v es' ps sent' last := by
  refine ⟨hn, h.rn.outs ht.outs (fun i hi hs => h.sr i hs hi), fun i hi => ?_, h.rg, fun i hi hr => ?_, h.below.trans (ht.outs.below h.sg h.below.size)⟩
  · rcases ht.new i hi with e | e
    · exact h.sg i e
    · exact Nat.le_trans h.below.size e
  · rcases ht.new i hi with e | e
    · exact h.sr i e hr
    · have := h.rn.lt i hr; omega
theorem Pr.left2 (h : Pr w0 w S R b mb xb v es ps sent last) (hn : Nt w' S b mb es' sent') (ho : Outs (fun i => i = b ∨ i = mb) w w') : Pr w0 w' S R b mb xb v es' ps sent' last ∧ Outs S w w' := by
  have ht : Turn S S w w' := Turn.of2 h.nt ho (fun k hk => .inl hk)
  exact ⟨h.left hn ht, ht.outs⟩
theorem Pr.right (h : Pr w0 w S R b mb xb v es ps sent last) (hn : Rn w' R' xb v' ps' last') (ho : Outs T w w') (hT : ∀ i, T i → R i) (hR : ∀ i, R' i → R i ∨ w.heap.size ≤ i) : Pr w0 w' S R' b mb xb v' es ps' sent last' := by
  refine ⟨h.nt.outs ho (fun i hi ht => h.sr i hi (hT i ht)), hn, h.sg, fun i hi => ?_, fun i hi hr => ?_, h.below.trans (ho.below (fun i hi => h.rg i (hT i hi)) h.below.size)⟩
  · rcases hR i hi with e | e
    · exact h.rg i e
    · exact Nat.le_trans h.below.size e
  · rcases hR i hr with e | e
    · exact h.sr i hi e
    · have := h.nt.lt i hi; omega
theorem Pr.tx (h : Pr w0 w S R b mb xb v es ps sent last) : ∀ i, i = xb → R i := fun i e => e ▸ h.rn.rx
theorem Pr.tv (h : Pr w0 w S R b mb xb v es ps sent last) : ∀ i, (i = xb ∨ v.ownBlock = some i) → R i := fun i e => by
  rcases e with e | e
  · exact e ▸ h.rn.rx
  · exact (h.rn.rv i e).1
end
theorem nums_to {es ps : List (Le × Pl)} (h : es.map (·.1) = ps.map (·.1)) (node : Int) : nums (toN es node) = nums (toN ps node) := by
  have e : ∀ l : List (Le × Pl), nums (toN l node) = ((l.map (·.1)).filter (fun y => decide (y.to_ = node))).map (·.num) := fun l => by
    unfold nums toN
    rw [List.filter_map, List.map_map]
    rfl
  rw [e, e, h]
theorem away_eq {es ps : List (Le × Pl)} (h : es.map (·.1) = ps.map (·.1)) (node : Int) : (awayN es node).map (·.1) = (awayN ps node).map (·.1) := by
  have e : ∀ l : List (Le × Pl), (awayN l node).map (·.1) = (l.map (·.1)).filter (fun y => !decide (y.to_ = node)) := fun l => by
    unfold awayN
    rw [List.filter_map]
    rfl
  rw [e, e, h]
theorem drop_eq {es ps : List (Le × Pl)} (h : es.map (·.1) = ps.map (·.1)) (x : Int) : (drop es x).map (·.1) = (drop ps x).map (·.1) := by rw [drop_map, drop_map, h]
theorem pick_eq {es ps : List (Le × Pl)} (h : es.map (·.1) = ps.map (·.1)) (x : Int) : (pick es x).map (·.1) = (pick ps x).map (·.1) := by
  have e : ∀ l : List (Le × Pl), (pick l x).map (·.1) = (l.map (·.1)).find? (fun y => decide (y.num = x)) := fun l => by
    unfold pick
    rw [List.find?_map]
    rfl
  rw [e, e, h]
end Go.Proofs.Ytnleeffajljodaa
end

section
/- Both nets side by side, and blocks that neither touches. -/
namespace Go.Proofs.Ytnleeffajljodaa
open Go.RowKit Go.Maps
set_option linter.unusedVariables false

/-- both nets, and blocks K that stay as they were at wr -/
structure Pn (w0 wr w : World) (K : Nat → Prop) (b mb xb : Nat) (es ps : List (Le × Pl)) (sent last : Nat) : Prop where
  st : ∃ (S R : Nat → Prop) (v : Value), Pr w0 w S R b mb xb v es ps sent last ∧ ∀ i, K i → ¬ S i ∧ ¬ R i
  kept : ∀ i, K i → i < wr.heap.size ∧ w.heap[i]? = wr.heap[i]?
  size : wr.heap.size ≤ w.heap.size
section
variable {w0 wr w w' : World} {K : Nat → Prop} {S R S' R' Q : Nat → Prop} {b mb xb : Nat} {v v' : Value} {es ps es' ps' : List (Le × Pl)} {sent last sent' last' : Nat}
theorem Pn.cell (h : Pn w0 wr w K b mb xb es ps sent last) {g i : Nat} {o : Option (Nat × Nat)} (hg : K g) : w.heap[g]? = wr.heap[g]? := (h.kept g hg).2
theorem Pn.c (h : Pn w0 wr w K b mb xb es ps sent last) {a : Addr} (hg : K a.block) : w.cell? a = wr.cell? a := World.cell?_of_block (h.kept _ hg).2
theorem Pn.go (h : Pn w0 wr w K b mb xb es ps sent last) (hb : Below w.heap.size w w') : Pn w0 wr w' K b mb xb es ps sent last := by
  obtain ⟨⟨S, R, v, h1, h2⟩, h3, h4⟩ := h
  exact ⟨⟨S, R, v, h1.go hb, h2⟩, fun i hi => ⟨(h3 i hi).1, (hb.block i (Nat.lt_of_lt_of_le (h3 i hi).1 h4)).trans (h3 i hi).2⟩, Nat.le_trans h4 hb.size⟩
theorem Pn.facts (h : Pn w0 wr w K b mb xb es ps sent last) : Okf sent (es.map (·.1)) ∧ Below w0.heap.size w0 w := by
  obtain ⟨⟨S, R, v, h1, h2⟩, h3, h4⟩ := h
  exact ⟨h1.nt.ok, h1.below⟩
theorem Pn.left (h3 : ∀ i, K i → i < wr.heap.size ∧ w.heap[i]? = wr.heap[i]?) (h4 : wr.heap.size ≤ w.heap.size) (h1 : Pr w0 w S R b mb xb v es ps sent last) (h2 : ∀ i, K i → ¬ S i ∧ ¬ R i) (hn : Nt w' S' b mb es' sent') (ht : Turn S S' w w') : Pn w0 wr w' K b mb xb es' ps sent' last :=
  ⟨⟨S', R, v, h1.left hn ht, fun i hi => ⟨fun e => by
      rcases ht.new i e with z | z
      · exact (h2 i hi).1 z
      · have := (h3 i hi).1; omega, (h2 i hi).2⟩⟩,
   fun i hi => ⟨(h3 i hi).1, (ht.outs.block i (Nat.lt_of_lt_of_le (h3 i hi).1 h4) (h2 i hi).1).trans (h3 i hi).2⟩, Nat.le_trans h4 ht.outs.size⟩
theorem Pn.left2 (h3 : ∀ i, K i → i < wr.heap.size ∧ w.heap[i]? = wr.heap[i]?) (h4 : wr.heap.size ≤ w.heap.size) (h1 : Pr w0 w S R b mb xb v es ps sent last) (h2 : ∀ i, K i → ¬ S i ∧ ¬ R i) (hn : Nt w' S b mb es' sent') (ho : Outs (fun i => i = b ∨ i = mb) w w') : Pn w0 wr w' K b mb xb es' ps sent' last :=
  Pn.left h3 h4 h1 h2 hn (Turn.of2 h1.nt ho (fun k hk => .inl hk))
theorem Pn.right (h3 : ∀ i, K i → i < wr.heap.size ∧ w.heap[i]? = wr.heap[i]?) (h4 : wr.heap.size ≤ w.heap.size) (h1 : Pr w0 w S R b mb xb v es ps sent last) (h2 : ∀ i, K i → ¬ S i ∧ ¬ R i) (hn : Rn w' R' xb v' ps' last') (ho : Outs Q w w') (hT : ∀ i, Q i → R i) (hR : ∀ i, R' i → R i ∨ w.heap.size ≤ i) : Pn w0 wr w' K b mb xb es ps' sent last' :=
  ⟨⟨S, R', v', h1.right hn ho hT hR, fun i hi => ⟨(h2 i hi).1, fun e => by
      rcases hR i e with z | z
      · exact (h2 i hi).2 z
      · have := (h3 i hi).1; omega⟩⟩,
   fun i hi => ⟨(h3 i hi).1, (ho.block i (Nat.lt_of_lt_of_le (h3 i hi).1 h4) (fun z => (h2 i hi).2 (hT i z))).trans (h3 i hi).2⟩, Nat.le_trans h4 ho.size⟩
/-- a new reference world -/
theorem Pn.anew (h : Pn w0 wr w K b mb xb es ps sent last) {K' : Nat → Prop} (hb : Below w.heap.size w w') (hk : ∀ i, K' i → K i ∨ (w.heap.size ≤ i ∧ i < w'.heap.size)) : Pn w0 w' w' K' b mb xb es ps sent last := by
  obtain ⟨⟨S, R, v, h1, h2⟩, h3, h4⟩ := h
  refine ⟨⟨S, R, v, h1.go hb, fun i hi => ?_⟩, fun i hi => ⟨?_, rfl⟩, Nat.le_refl _⟩
  · rcases hk i hi with z | z
    · exact h2 i z
    · exact ⟨fun e => by have := h1.nt.lt i e; omega, fun e => by have := h1.rn.lt i e; omega⟩
  · rcases hk i hi with z | z
    · have := (h3 i z).1; have := hb.size; omega
    · exact z.2
/-- back to the old reference world -/
theorem Pn.back {wq : World} {K' : Nat → Prop} (h : Pn w0 wq w K' b mb xb es ps sent last) (hk : ∀ i, K i → K' i ∧ i < wr.heap.size ∧ wq.heap[i]? = wr.heap[i]?) (hs : wr.heap.size ≤ wq.heap.size) : Pn w0 wr w K b mb xb es ps sent last := by
  obtain ⟨⟨S, R, v, h1, h2⟩, h3, h4⟩ := h
  exact ⟨⟨S, R, v, h1, fun i hi => h2 i (hk i hi).1⟩, fun i hi => ⟨(hk i hi).2.1, (h3 i (hk i hi).1).2.trans (hk i hi).2.2⟩, Nat.le_trans hs h4⟩

theorem pn_send (h : Pn w0 wr w K b mb xb es ps sent last) (f t : Int) (A : Option Addr) (bs : List Int) (n c : Nat) (hbn : bs.length = n) (hE : sendE f t n = 0) (hr : Rds w w.heap.size A (c8 bs)) (hs : sent < 4000) (hm : es.length < 4000) :
    Calls Try.prog 9 #[.pointer (some ⟨b, 0, none⟩), .int .i64 f, .int .i64 t, .slice A n c] w fun e w' => e = .returned (.tuple #[.int .u64 (sent + 1 : Nat), .int .i64 0]) ∧ ∃ k, Pn w0 wr w' K b mb xb (es ++ [(⟨(sent + 1 : Nat), (sent + 1 : Nat), f, t, bs⟩, k)]) ps (sent + 1) last := by
  obtain ⟨⟨S, R, v, h1, h2⟩, h3, h4⟩ := h
  refine (send_any h1.nt f t A bs n c hbn hE hr hs hm).mono ?_
  rintro e w' ⟨rfl, S', k, hn, ht⟩
  exact ⟨rfl, k, Pn.left h3 h4 h1 h2 hn ht⟩
theorem pn_rsend (h : Pn w0 wr w K b mb xb es ps sent last) (f t : Int) (A : Option Addr) (bs : List Int) (c : Nat) (hE : sendE f t bs.length = 0) (hr : Rds w w.heap.size A (c8 bs)) (hA : A = none → c = 0) (hs : last < 4000) (hm : ps.length < 4000) :
    Calls Try.prog 17 #[.pointer (some ⟨xb, 0, none⟩), .int .i64 f, .int .i64 t, .slice A bs.length c] w fun e w' => e = .returned (.tuple #[.int .u64 (last + 1 : Nat), .int .i64 0]) ∧ ∃ k, Pn w0 wr w' K b mb xb es (ps ++ [(⟨(last + 1 : Nat), (last + 1 : Nat), f, t, bs⟩, k)]) sent (last + 1) := by
  obtain ⟨⟨S, R, v, h1, h2⟩, h3, h4⟩ := h
  refine (rsend_any h1.rn f t A bs c hE hr hA hs hm).mono ?_
  rintro e w' ⟨rfl, v', R', k, hn, ho, hR⟩
  exact ⟨rfl, k, Pn.right h3 h4 h1 h2 hn ho h1.tv hR⟩
theorem pn_sendBad (h : Pn w0 wr w K b mb xb es ps sent last) (f t : Int) (A : Option Addr) (n c : Nat) (hn : n ≤ 9223372036854775807) (hE : sendE f t n ≠ 0) :
    Calls Try.prog 9 #[.pointer (some ⟨b, 0, none⟩), .int .i64 f, .int .i64 t, .slice A n c] w fun e w' => e = .returned (.tuple #[.int .u64 0, .int .i64 (sendE f t n)]) ∧ w' = w := by
  obtain ⟨⟨S, R, v, h1, h2⟩, h3, h4⟩ := h
  exact sendBad_any h1.nt f t A n c hn hE
theorem pn_deliver (h : Pn w0 wr w K b mb xb es ps sent last) (x : Int) (hx : 0 ≤ x ∧ x ≤ 18446744073709551615) {p : Le × Pl} (hp : pick es x = some p) :
    Calls Try.prog 11 #[.pointer (some ⟨b, 0, none⟩), .int .u64 x] w fun e w' => ∃ k : Pl, e = .returned (.tuple #[val p.1 k, .int .i64 0]) ∧ Pn w0 wr w' K b mb xb (drop es x) ps sent last ∧ Bd w' (fun i => w.heap.size ≤ i) p.1.body k ∧ (∀ {T : Nat → Prop} {w2 : World}, (∀ i, T i → i < w.heap.size) → Outs T w' w2 → Rds w2 w2.heap.size k.1 (c8 p.1.body)) := by
  obtain ⟨⟨S, R, v, h1, h2⟩, h3, h4⟩ := h
  refine (deliver_any h1.nt x hx hp).mono ?_
  rintro e w' ⟨k, rfl, hn, ho, hb⟩
  refine ⟨k, rfl, Pn.left2 h3 h4 h1 h2 hn ho, hb, fun {T w2} hT ho2 => fun hne => ?_⟩
  obtain ⟨ad, e1, e2, e3, e4⟩ := hb (fun e => hne (by rw [e]; rfl))
  refine ⟨ad, e1, Nat.lt_of_lt_of_le e3 ho2.size, fun j u hu => ?_⟩
  rw [ho2.cell (p := ad.add j) (by rw [blk_add]; exact e3) (by rw [blk_add]; exact fun z => by have := hT _ z; omega)]
  exact e4 j u hu
theorem pn_deliverNo (h : Pn w0 wr w K b mb xb es ps sent last) (x : Int) (hx : 0 ≤ x ∧ x ≤ 18446744073709551615) (hp : pick es x = none) :
    Calls Try.prog 11 #[.pointer (some ⟨b, 0, none⟩), .int .u64 x] w fun e w' => e = .returned (.tuple #[zeroL, .int .i64 6]) ∧ Pn w0 wr w' K b mb xb es ps sent last := by
  obtain ⟨⟨S, R, v, h1, h2⟩, h3, h4⟩ := id h
  refine (deliverNo_any h1.nt x hx hp).mono ?_
  rintro e w' ⟨rfl, hb⟩
  exact ⟨rfl, h.go hb⟩
theorem pn_rdeliver (h : Pn w0 wr w K b mb xb es ps sent last) (x : Int) {p : Le × Pl} (hp : pick ps x = some p) (hm : ps.length ≤ 4000) (hris : (ps.map (·.1)).Pairwise (fun x y : Le => x.num < y.num)) :
    Calls Try.prog 19 #[.pointer (some ⟨xb, 0, none⟩), .int .u64 x] w fun e w' => e = .returned (.tuple #[val p.1 p.2, .int .i64 0]) ∧ Pn w0 wr w' K b mb xb es (drop ps x) sent last ∧ Rds w' w'.heap.size p.2.1 (c8 p.1.body) ∧ Outs (fun i => i = xb) w w' := by
  obtain ⟨⟨S, R, v, h1, h2⟩, h3, h4⟩ := h
  refine (rdeliver_any h1.rn x hp hm hris).mono ?_
  rintro e w' ⟨rfl, v', R', hn, ho, hR, hr⟩
  exact ⟨rfl, Pn.right h3 h4 h1 h2 hn ho h1.tx hR, hr, ho⟩
theorem pn_rdeliverNo (h : Pn w0 wr w K b mb xb es ps sent last) (x : Int) (hp : pick ps x = none) (hm : ps.length ≤ 4000) :
    Calls Try.prog 19 #[.pointer (some ⟨xb, 0, none⟩), .int .u64 x] w fun e w' => e = .returned (.tuple #[zeroL, .int .i64 6]) ∧ Pn w0 wr w' K b mb xb es ps sent last := by
  obtain ⟨⟨S, R, v, h1, h2⟩, h3, h4⟩ := id h
  refine (rdeliverNo_any h1.rn x hp hm).mono ?_
  rintro e w' ⟨rfl, hb⟩
  exact ⟨rfl, h.go hb⟩
theorem pn_lose (h : Pn w0 wr w K b mb xb es ps sent last) (x : Int) (hx : 0 ≤ x ∧ x ≤ 18446744073709551615) {p : Le × Pl} (hp : pick es x = some p) :
    Calls Try.prog 14 #[.pointer (some ⟨b, 0, none⟩), .int .u64 x] w fun e w' => e = .returned (.int .i64 0) ∧ Pn w0 wr w' K b mb xb (drop es x) ps sent last := by
  obtain ⟨⟨S, R, v, h1, h2⟩, h3, h4⟩ := h
  refine (lose_any h1.nt x hx hp).mono ?_
  rintro e w' ⟨rfl, hn, ho⟩
  exact ⟨rfl, Pn.left2 h3 h4 h1 h2 hn ho⟩
theorem pn_loseNo (h : Pn w0 wr w K b mb xb es ps sent last) (x : Int) (hx : 0 ≤ x ∧ x ≤ 18446744073709551615) (hp : pick es x = none) :
    Calls Try.prog 14 #[.pointer (some ⟨b, 0, none⟩), .int .u64 x] w fun e w' => e = .returned (.int .i64 6) ∧ Pn w0 wr w' K b mb xb es ps sent last := by
  obtain ⟨⟨S, R, v, h1, h2⟩, h3, h4⟩ := id h
  refine (loseNo_any h1.nt x hx hp).mono ?_
  rintro e w' ⟨rfl, hb⟩
  exact ⟨rfl, h.go hb⟩
theorem pn_rlose (h : Pn w0 wr w K b mb xb es ps sent last) (x : Int) {p : Le × Pl} (hp : pick ps x = some p) (hm : ps.length ≤ 4000) (hris : (ps.map (·.1)).Pairwise (fun x y : Le => x.num < y.num)) :
    Calls Try.prog 21 #[.pointer (some ⟨xb, 0, none⟩), .int .u64 x] w fun e w' => e = .returned (.int .i64 0) ∧ Pn w0 wr w' K b mb xb es (drop ps x) sent last := by
  obtain ⟨⟨S, R, v, h1, h2⟩, h3, h4⟩ := h
  refine (rlose_any h1.rn x hp hm hris).mono ?_
  rintro e w' ⟨rfl, v', R', hn, ho, hR⟩
  exact ⟨rfl, Pn.right h3 h4 h1 h2 hn ho h1.tx hR⟩
theorem pn_rloseNo (h : Pn w0 wr w K b mb xb es ps sent last) (x : Int) (hp : pick ps x = none) (hm : ps.length ≤ 4000) :
    Calls Try.prog 21 #[.pointer (some ⟨xb, 0, none⟩), .int .u64 x] w fun e w' => e = .returned (.int .i64 6) ∧ Pn w0 wr w' K b mb xb es ps sent last := by
  obtain ⟨⟨S, R, v, h1, h2⟩, h3, h4⟩ := id h
  refine (rloseNo_any h1.rn x hp hm).mono ?_
  rintro e w' ⟨rfl, hb⟩
  exact ⟨rfl, h.go hb⟩
theorem pn_double (h : Pn w0 wr w K b mb xb es ps sent last) (x : Int) (hx : 0 ≤ x ∧ x ≤ 18446744073709551615) {p : Le × Pl} (hp : pick es x = some p) (hs : sent < 4000) (hm : es.length < 4000) :
    Calls Try.prog 10 #[.pointer (some ⟨b, 0, none⟩), .int .u64 x] w fun e w' => e = .returned (.tuple #[.int .u64 (sent + 1 : Nat), .int .i64 0]) ∧ Pn w0 wr w' K b mb xb (es ++ [({ p.1 with num := (sent + 1 : Nat) }, p.2)]) ps (sent + 1) last := by
  obtain ⟨⟨S, R, v, h1, h2⟩, h3, h4⟩ := h
  refine (double_any h1.nt x hx hp hs hm).mono ?_
  rintro e w' ⟨rfl, hn, ho⟩
  exact ⟨rfl, Pn.left2 h3 h4 h1 h2 hn ho⟩
theorem pn_doubleNo (h : Pn w0 wr w K b mb xb es ps sent last) (x : Int) (hx : 0 ≤ x ∧ x ≤ 18446744073709551615) (hp : pick es x = none) :
    Calls Try.prog 10 #[.pointer (some ⟨b, 0, none⟩), .int .u64 x] w fun e w' => e = .returned (.tuple #[.int .u64 0, .int .i64 6]) ∧ Pn w0 wr w' K b mb xb es ps sent last := by
  obtain ⟨⟨S, R, v, h1, h2⟩, h3, h4⟩ := id h
  refine (doubleNo_any h1.nt x hx hp).mono ?_
  rintro e w' ⟨rfl, hb⟩
  exact ⟨rfl, h.go hb⟩
theorem pn_rdouble (h : Pn w0 wr w K b mb xb es ps sent last) (x : Int) {p : Le × Pl} (hp : pick ps x = some p) (hf : p.1.first ≠ 0) (hs : last < 4000) (hm : ps.length < 4000) :
    Calls Try.prog 22 #[.pointer (some ⟨xb, 0, none⟩), .int .u64 x] w fun e w' => e = .returned (.tuple #[.int .u64 (last + 1 : Nat), .int .i64 0]) ∧ Pn w0 wr w' K b mb xb es (ps ++ [({ p.1 with num := (last + 1 : Nat) }, p.2)]) sent (last + 1) := by
  obtain ⟨⟨S, R, v, h1, h2⟩, h3, h4⟩ := h
  refine (rdouble_any h1.rn x hp hf hs hm).mono ?_
  rintro e w' ⟨rfl, v', R', hn, ho, hR⟩
  exact ⟨rfl, Pn.right h3 h4 h1 h2 hn ho h1.tv hR⟩
theorem pn_rdoubleNo (h : Pn w0 wr w K b mb xb es ps sent last) (x : Int) (hp : pick ps x = none) (hm : ps.length < 4000) :
    Calls Try.prog 22 #[.pointer (some ⟨xb, 0, none⟩), .int .u64 x] w fun e w' => e = .returned (.tuple #[.int .u64 0, .int .i64 6]) ∧ w' = w := by
  obtain ⟨⟨S, R, v, h1, h2⟩, h3, h4⟩ := h
  exact rdoubleNo_any h1.rn x hp hm
theorem pn_clear (h : Pn w0 wr w K b mb xb es ps sent last) (node : Int) :
    Calls Try.prog 23 #[.pointer (some ⟨b, 0, none⟩), .int .i64 node] w fun e w' => e = .returned (.tuple #[]) ∧ Pn w0 wr w' K b mb xb (awayN es node) ps sent last := by
  obtain ⟨⟨S, R, v, h1, h2⟩, h3, h4⟩ := h
  refine (clear_any h1.nt node).mono ?_
  rintro e w' ⟨rfl, hn, ho⟩
  exact ⟨rfl, Pn.left2 h3 h4 h1 h2 hn ho⟩
theorem pn_rclear (h : Pn w0 wr w K b mb xb es ps sent last) (node : Int) (hm : ps.length ≤ 4000) :
    Calls Try.prog 24 #[.pointer (some ⟨xb, 0, none⟩), .int .i64 node] w fun e w' => e = .returned (.tuple #[]) ∧ Pn w0 wr w' K b mb xb es (awayN ps node) sent last := by
  obtain ⟨⟨S, R, v, h1, h2⟩, h3, h4⟩ := h
  refine (rclear_any h1.rn node hm).mono ?_
  rintro e w' ⟨rfl, v', R', hn, ho, hR⟩
  exact ⟨rfl, Pn.right h3 h4 h1 h2 hn ho h1.tx hR⟩
theorem pn_sent (h : Pn w0 wr w K b mb xb es ps sent last) : Calls Try.prog 25 #[.pointer (some ⟨b, 0, none⟩)] w fun e w' => e = .returned (.int .u64 sent) ∧ w = w' := by
  obtain ⟨⟨S, R, v, h1, h2⟩, h3, h4⟩ := h
  refine (sent_any h1.nt).mono ?_
  rintro e w' ⟨rfl, rfl⟩
  exact ⟨rfl, rfl⟩
theorem pn_to (h : Pn w0 wr w K b mb xb es ps sent last) (node : Int) : Calls Try.prog 13 #[.pointer (some ⟨b, 0, none⟩), .int .i64 node] w fun e w' => ∃ A n c, e = .returned (.slice A n c) ∧ n = (nums (toN es node)).length ∧ Rds w' w'.heap.size A (cU (nums (toN es node))) ∧ Below w.heap.size w w' := by
  obtain ⟨⟨S, R, v, h1, h2⟩, h3, h4⟩ := h
  refine (to_any h1.nt node).mono ?_
  rintro e w' ⟨v, m, rfl, hm, hrow, hb⟩
  obtain ⟨A, c, rfl, hr⟩ := row_slice hrow
  exact ⟨A, m, c, rfl, by rw [hm]; simp [nums], hr, hb⟩
theorem pn_rto (h : Pn w0 wr w K b mb xb es ps sent last) (node : Int) (hm : ps.length ≤ 4000) : Calls Try.prog 26 #[.pointer (some ⟨xb, 0, none⟩), .int .i64 node] w fun e w' => ∃ A n c, e = .returned (.slice A n c) ∧ n = (nums (toN ps node)).length ∧ Rds w' w'.heap.size A (cU (nums (toN ps node))) ∧ Below w.heap.size w w' := by
  obtain ⟨⟨S, R, v, h1, h2⟩, h3, h4⟩ := h
  refine (rto_any h1.rn node hm).mono ?_
  rintro e w' ⟨A, c, n, rfl, hn, hr, hb⟩
  exact ⟨A, n, c, rfl, hn, hr, hb⟩
theorem nums_same (A A' : Option Addr) (xs : List Int) (n m c c' lim : Nat) (w : World) (hn : xs.length = n) (hm : xs.length = m) (hl : n ≤ 9223372036854775807) (hr : Rds w lim A (cU xs)) (hr' : Rds w lim A' (cU xs)) :
    Calls Try.prog 12 #[.slice A n c, .slice A' m c'] w fun e w' => e = .returned (.bool true) ∧ ∃ n, w' = w.drewN n := by
  subst hn
  subst hm
  have := sameNums_any A A' xs xs c c' lim w hl hl hr hr'
  rwa [show sameU xs xs = true from decide_eq_true rfl] at this
/-- the document's net's cells -/
theorem Pn.rcells (h : Pn w0 wr w K b mb xb es ps sent last) (heq : es.map (·.1) = ps.map (·.1)) : ∃ A c, w.cell? ⟨xb, 0, none⟩ = some (.slice A ps.length c) ∧ w.cell? ⟨xb, 1, none⟩ = some (.int .u64 last) ∧ Rdl w w.heap.size A ps ∧ xb < w.heap.size := by
  obtain ⟨⟨S, R, v, h1, h2⟩, h3, h4⟩ := h
  obtain ⟨A, c, e, hr⟩ := h1.rn.open_
  have hb := h1.rn.blk
  subst e
  exact ⟨A, c, by simpa using hb.cell 0, by simpa using hb.cell 1, ⟨hr, fun p hp => ⟨(h1.rn.bd p hp).rds, by have := h1.nt.ok.len p.1 (by rw [heq]; exact List.mem_map_of_mem hp); omega⟩⟩, hb.lt⟩
theorem Rdl.far {w w' : World} {A : Option Addr} {ps : List (Le × Pl)} (h : Rdl w w.heap.size A ps) (hb : Below w.heap.size w w') : Rdl w' w'.heap.size A ps :=
  ⟨(h.cells.below hb).more hb.size, fun p hp => ⟨((h.bods p hp).1.below hb).more hb.size, (h.bods p hp).2⟩⟩
theorem pn_flight (h : Pn w0 wr w K b mb xb es ps sent last) : Calls Try.prog 28 #[.pointer (some ⟨b, 0, none⟩)] w fun e w' => ∃ A n c fs, e = .returned (.slice A n c) ∧ fs.length = n ∧ n ≤ 4000 ∧ fs.map (·.1) = es.map (·.1) ∧ Rdl w' w'.heap.size A fs ∧ Below w.heap.size w w' := by
  obtain ⟨⟨S, R, v, h1, h2⟩, h3, h4⟩ := h
  have hok := h1.nt.ok
  refine (flight_any h1.nt).mono ?_
  rintro e w' ⟨v, fs, rfl, hfs, hrow, hbd, hb⟩
  obtain ⟨A, c, rfl, hr⟩ := row_slice hrow
  have hm := hok.most
  exact ⟨A, _, c, fs, rfl, by have := congrArg List.length hfs; simpa using this, by simpa using hm, hfs, ⟨hr, fun p hp => ⟨(hbd p hp).rds, by have := hok.len p.1 (by rw [← hfs]; exact List.mem_map_of_mem hp); omega⟩⟩, hb⟩
theorem pick_both (h : es.map (·.1) = ps.map (·.1)) (x : Int) : (pick es x = none → pick ps x = none) ∧ ∀ p, pick es x = some p → ∃ k, pick ps x = some (p.1, k) := by
  have e := pick_eq h x
  constructor
  · intro hn
    rw [hn] at e
    cases hp : pick ps x with
    | none => rfl
    | some q => rw [hp] at e; cases e
  · intro p hp
    rw [hp] at e
    cases hq : pick ps x with
    | none => rw [hq] at e; cases e
    | some q =>
      rw [hq] at e
      have e' : p.1 = q.1 := Option.some.inj e
      exact ⟨q.2, by rw [e']⟩
end
end Go.Proofs.Ytnleeffajljodaa
end
