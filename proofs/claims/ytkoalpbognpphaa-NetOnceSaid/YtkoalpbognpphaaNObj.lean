/- A net in memory. -/
import Derived.Test.YtkoalpbognpphaaNMap
import Derived.Test.YtkoalpbognpphaaDFrame
import Derived.Test.YtkoalpbognpphaaNBreak
import Derived.Handy
import Derived.Lib.Builder
namespace Go.Proofs.Ytkoalpbognpphaa
open Go.RowKit Go.Maps
set_option linter.unusedVariables false

/-- a letter -/
structure Le where
  num : Int
  first : Int
  frm : Int
  to_ : Int
  body : List Int
deriving DecidableEq
/-- where a body lies -/
abbrev Pl := Option Addr × Nat
def val (x : Le) (k : Pl) : Value := .agg #[.int .u64 x.num, .int .u64 x.first, .int .i64 x.frm, .int .i64 x.to_, .slice k.1 x.body.length k.2]
def le0 : Le := ⟨0, 0, 0, 0, []⟩
def zeroL : Value := .agg #[.int .u64 0, .int .u64 0, .int .i64 0, .int .i64 0, .slice none 0 0]
theorem zeroL_val : zeroL = val le0 (none, 0) := rfl
def ents (es : List (Le × Pl)) : List (Int × Value) := es.map fun p => (p.1.num, val p.1 p.2)
/-- a body's bytes at a place of S -/
def Bd (w : World) (S : Nat → Prop) (bs : List Int) (k : Pl) : Prop := bs ≠ [] → ∃ ad, k.1 = some ad ∧ S ad.block ∧ ad.block < w.heap.size ∧ ∀ j u, (c8 bs)[j]? = some u → w.cell? (ad.add j) = some u
/-- what holds of letters in flight, so many numbers given -/
structure Okf (sent : Nat) (fl : List Le) : Prop where
  rise : fl.Pairwise (fun x y => x.num < y.num)
  num : ∀ x ∈ fl, 1 ≤ x.num ∧ x.num ≤ sent
  first : ∀ x ∈ fl, 1 ≤ x.first ∧ x.first ≤ x.num
  frm : ∀ x ∈ fl, 0 ≤ x.frm ∧ x.frm ≤ 63
  to_ : ∀ x ∈ fl, 0 ≤ x.to_ ∧ x.to_ ≤ 63
  len : ∀ x ∈ fl, x.body.length ≤ 16384
  most : fl.length ≤ 4000
  few : sent ≤ 4000

/-- the net at block b, its map at mb -/
structure Nt (w : World) (S : Nat → Prop) (b mb : Nat) (es : List (Le × Pl)) (sent : Nat) : Prop where
  blk : Whole w b 57 #[.pointer (some ⟨b, 0, none⟩), .int .u64 sent, .map (some mb)]
  map : w.ownsMap Try.prog 25 selfR mb sent (asMap (ents es))
  sb : S b
  sm : S mb
  bd : ∀ p ∈ es, Bd w (fun i => S i ∧ i ≠ b ∧ i ≠ mb) p.1.body p.2
  ok : Okf sent (es.map (·.1))
  lt : ∀ i, S i → i < w.heap.size

section
variable {w w' : World} {S S' T : Nat → Prop} {b mb : Nat} {es : List (Le × Pl)} {sent : Nat}
theorem Bd.rds {bs : List Int} {k : Pl} (h : Bd w S bs k) : Rds w w.heap.size k.1 (c8 bs) := fun hne => by
  obtain ⟨ad, h1, _, h3, h4⟩ := h (fun e => hne (by rw [e]; rfl))
  exact ⟨ad, h1, h3, h4⟩
theorem Bd.mono {bs : List Int} {k : Pl} (h : Bd w S bs k) (hs : ∀ i, S i → S' i) : Bd w S' bs k := fun hne => by
  obtain ⟨ad, h1, h2, r⟩ := h hne
  exact ⟨ad, h1, hs _ h2, r⟩
theorem Bd.within {bs : List Int} {k : Pl} (h : Bd w S bs k) : Bd w (fun i => S i ∧ i < w.heap.size) bs k := fun hne => by
  obtain ⟨ad, h1, h2, h3, h4⟩ := h hne
  exact ⟨ad, h1, ⟨h2, h3⟩, h3, h4⟩
theorem Bd.outs {bs : List Int} {k : Pl} (h : Bd w S bs k) (ho : Outs T w w') (hn : ∀ i, S i → ¬ T i) : Bd w' S bs k := fun hne => by
  obtain ⟨ad, h1, h2, h3, h4⟩ := h hne
  refine ⟨ad, h1, h2, Nat.lt_of_lt_of_le h3 ho.size, fun j u hj => ?_⟩
  rw [ho.cell (p := ad.add j) (by rw [blk_add]; exact h3) (by rw [blk_add]; exact hn _ h2)]
  exact h4 j u hj
/-- the net stands where nothing of it turns -/
theorem Nt.outs (h : Nt w S b mb es sent) (ho : Outs T w w') (hn : ∀ i, S i → ¬ T i) : Nt w' S b mb es sent :=
  ⟨h.blk.outs ho (hn _ h.sb), ownsMap_block_kept h.map (ho.block mb h.map.lt (hn _ h.sm)), h.sb, h.sm, fun p hp => (h.bd p hp).outs ho (fun i hi => hn i hi.1), h.ok, fun i hi => Nat.lt_of_lt_of_le (h.lt i hi) ho.size⟩
theorem Nt.go (h : Nt w S b mb es sent) (hb : Below w.heap.size w w') : Nt w' S b mb es sent := h.outs (T := fun _ => False) (Outs.of hb) (fun _ _ e => e)
theorem Nt.drewN (h : Nt w S b mb es sent) (n : Nat) : Nt (w.drewN n) S b mb es sent := h.go (bDrewN (Below.refl _ _) n)
theorem Okf.wf {fl : List Le} (h : Okf sent fl) : ∀ x ∈ fl, 0 ≤ x.num ∧ x.num ≤ 18446744073709551615 := fun x hx => by
  have := h.num x hx
  have := h.few
  omega
theorem Nt.ris (h : Nt w S b mb es sent) : Ris (ents es) := by
  refine ⟨?_, fun p hp => ?_⟩
  · have h1 := List.pairwise_map.1 h.ok.rise
    exact List.pairwise_map.2 h1
  · obtain ⟨q, hq, rfl⟩ := List.mem_map.1 hp
    exact h.ok.wf q.1 (List.mem_map_of_mem hq)
theorem ents_find (es : List (Le × Pl)) (k : Int) : (ents es).find? (fun p => decide (p.1 = k)) = (es.find? (fun p => decide (p.1.num = k))).map (fun p => (p.1.num, val p.1 p.2)) := by
  unfold ents
  rw [List.find?_map]
  rfl
theorem ents_any (es : List (Le × Pl)) (k : Int) : (ents es).any (fun p => decide (p.1 = k)) = (es.find? (fun p => decide (p.1.num = k))).isSome := by
  unfold ents
  rw [List.any_map]
  induction es with
  | nil => rfl
  | cons x r ih =>
    simp only [List.any_cons, List.find?_cons, Function.comp]
    cases decide (x.1.num = k) <;> simp [ih]
end

/-- a letter stored in a box -/
def put5 (w : World) (b : Nat) (c0 c1 c2 c3 c4 : Value) : World := ((((w.setCell ⟨b, 0, none⟩ c0).setCell ⟨b, 1, none⟩ c1).setCell ⟨b, 2, none⟩ c2).setCell ⟨b, 3, none⟩ c3).setCell ⟨b, 4, none⟩ c4
theorem put5_whole {w : World} {b : Nat} {t : TypeId} {a0 a1 a2 a3 a4 : Value} (h : Whole w b t #[a0, a1, a2, a3, a4]) (c0 c1 c2 c3 c4 : Value) : Whole (put5 w b c0 c1 c2 c3 c4) b t #[c0, c1, c2, c3, c4] :=
  ((((h.put 0 c0).put 1 c1).put 2 c2).put 3 c3).put 4 c4
theorem put5_below {B : Nat} {a w : World} {b : Nat} (h : Below B a w) (hb : B ≤ b) (c0 c1 c2 c3 c4 : Value) : Below B a (put5 w b c0 c1 c2 c3 c4) :=
  ((((h.setCell (p := ⟨b, 0, none⟩) hb c0).setCell (p := ⟨b, 1, none⟩) hb c1).setCell (p := ⟨b, 2, none⟩) hb c2).setCell (p := ⟨b, 3, none⟩) hb c3).setCell (p := ⟨b, 4, none⟩) hb c4
theorem outs_put (w : World) (b i : Nat) (v : Value) : Outs (fun k => k = b) w (w.setCell ⟨b, i, none⟩ v) := Outs.setCell (S := fun k => k = b) (p := ⟨b, i, none⟩) (Outs.refl _ w) (.inl rfl) v
theorem put5_outs (w : World) (b : Nat) (c0 c1 c2 c3 c4 : Value) : Outs (fun k => k = b) w (put5 w b c0 c1 c2 c3 c4) :=
  ((((outs_put w b 0 c0).same (outs_put _ b 1 c1)).same (outs_put _ b 2 c2)).same (outs_put _ b 3 c3)).same (outs_put _ b 4 c4)
/-- the five cells of a box -/
theorem cells5 {w : World} {b : Nat} {t : TypeId} {c0 c1 c2 c3 c4 : Value} (h : Whole w b t #[c0, c1, c2, c3, c4]) : w.cell? ⟨b, 0, none⟩ = some c0 ∧ w.cell? ⟨b, 1, none⟩ = some c1 ∧ w.cell? ⟨b, 2, none⟩ = some c2 ∧ w.cell? ⟨b, 3, none⟩ = some c3 ∧ w.cell? ⟨b, 4, none⟩ = some c4 :=
  ⟨by simpa using h.cell 0, by simpa using h.cell 1, by simpa using h.cell 2, by simpa using h.cell 3, by simpa using h.cell 4⟩
theorem zero_letter (w : World) : (zeroValue 32).run Try.prog w = .ok zeroL w := Try.zeroValue32 w

theorem infoNet : (Try.prog.info? 57).isSome = true := by kernel_rfl
theorem nneq_same (d : Nat) (w : World) : (binOp .neq 23 (.pointer (some ⟨d, 0, none⟩)) (.pointer (some ⟨d, 0, none⟩))).run Try.prog w = .ok (.bool false) w := by
  obtain ⟨j, hj⟩ := Option.isSome_iff_exists.1 infoNet
  exact Go.Lib.run_neq_ptr_same (P := Try.prog) w _ Try.underlying23 hj
theorem nneq_nil (d : Nat) (w : World) : (binOp .neq 23 (.pointer none) (.pointer (some ⟨d, 0, none⟩))).run Try.prog w = .ok (.bool true) w := by
  have h : ∀ k : Nat, (Op.equalIn (k + 1) 23 (.pointer none) (.pointer (some ⟨d, 0, none⟩))).run Try.prog w = .ok false w := fun k => by
    simp [Op.equalIn, run_underlying Try.underlying23]
  simp only [binOp]
  simp [Op.equal, Op.maxDepth, h 9999]
set_option maxHeartbeats 1000000 in
set_option maxRecDepth 100000 in
theorem nobodys_any {w : World} {S : Nat → Prop} {b mb : Nat} {es : List (Le × Pl)} {sent : Nat} (h : Nt w S b mb es sent) :
    Calls Try.prog 31 #[.pointer (some ⟨b, 0, none⟩)] w fun e w' => e = .returned (.bool false) ∧ w' = w := by
  have hc := h.blk.cell 0
  simp only [List.getElem?_toArray, List.getElem?_cons_zero] at hc
  clear h
  go_enter Try.func31, Try.ntmps31
  have hq := nneq_same b w
  go_wp2
  go_ret
  exact ⟨by simp, rfl⟩
theorem nobodysNil_any (w : World) : Calls Try.prog 31 #[.pointer none] w fun e w' => e = .returned (.bool true) ∧ w' = w := by
  go_enter Try.func31, Try.ntmps31
  go_wp2
  go_ret
  exact ⟨rfl, rfl⟩
set_option maxRecDepth 100000 in
theorem nobodysZero_any {w : World} {b : Nat} {x : Int} {m : Value} (h : Whole w b 57 #[.pointer none, .int .u64 x, m]) : Calls Try.prog 31 #[.pointer (some ⟨b, 0, none⟩)] w fun e w' => e = .returned (.bool true) ∧ w' = w := by
  have hc := h.cell 0
  simp only [List.getElem?_toArray, List.getElem?_cons_zero] at hc
  clear h
  have hq := nneq_nil b w
  go_enter Try.func31, Try.ntmps31
  go_wp2
  go_ret
  exact ⟨by simp, rfl⟩
theorem mayNot_any (x : Int) (w : World) : Calls Try.prog 32 #[.int .i64 x] w fun e w' => e = .returned (.bool (decide (x < 0) || decide (63 < x))) ∧ w' = w := by
  go_enter Try.func32, Try.ntmps32
  by_cases h : x < 0
  · go_wp2
    go_ret
    exact ⟨by simp [h], rfl⟩
  · have h' : decide (x < 0) = false := decide_eq_false h
    go_wp2
    go_ret
    exact ⟨by simp, rfl⟩
end Go.Proofs.Ytkoalpbognpphaa
