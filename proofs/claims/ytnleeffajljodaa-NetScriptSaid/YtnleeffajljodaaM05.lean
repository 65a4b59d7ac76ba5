/- Several texts, each a section: NPut, NPut2, NSend, NLose, NKeys, NApp, NRise, NPred. -/
import Derived.Test.YtnleeffajljodaaM04
import Derived.StillTailTactics
import Derived.RangeFuncStops
import Derived.RangeFuncBox
import Derived.RangeFuncNested
import Derived.RangeFuncCalls
import Derived.Sort.MapsRangeIn
import Derived.Shelf.AbstractIn
import Derived.OwnWalkIn
import Derived.TacticsInMore
import Derived.LoopNIn
import Derived.LoopIn
section
/- Copying a letter, putting one in flight. -/
namespace Go.Proofs.Ytnleeffajljodaa
open Go.RowKit Go.Maps
set_option linter.unusedVariables false

set_option maxHeartbeats 2000000 in
set_option maxRecDepth 100000 in
/-- bytes.Clone of a body -/
theorem clone_any {w : World} {bs : List Int} {A : Option Addr} {c : Nat} (h : Rds w w.heap.size A (c8 bs)) (hl : bs.length ≤ 140737488355328) :
    Calls Try.prog 34 #[.slice A bs.length c] w fun e w' => ∃ (A' : Option Addr) (c' : Nat), e = .returned (.slice A' bs.length c') ∧ Below w.heap.size w w' ∧ Bd w' (fun k => w.heap.size ≤ k) bs (A', c') := by
  cases A with
  | none =>
    have h0 : bs = [] := by
      cases bs with
      | nil => rfl
      | cons x r =>
        obtain ⟨ad, e, _⟩ := h (by simp [c8])
        cases e
    subst h0
    refine (Try.bytes_Clone_nil 0 c w).mono ?_
    rintro e w' ⟨rfl, rfl⟩
    exact ⟨none, 0, rfl, Below.refl _ _, fun hne => absurd rfl hne⟩
  | some a =>
    have hc : ∀ i, i < bs.length → w.cell? (a.add i) = some (.int .u8 (bs.getD i 0)) := fun i hi => by
      obtain ⟨ad, e, _, hr⟩ := h (by intro e; rw [show bs = [] by simpa [c8] using e] at hi; cases hi)
      cases e
      rw [hr i _ (c8_get hi)]
      simp [hi]
    refine (Try.bytes_Clone_at a bs.length c bs w rfl hl hc).mono ?_
    rintro e w' ⟨v', rfl, hown, hne, hb⟩
    rcases hown.2 with ⟨e1, _⟩ | ⟨g, cap, cur, rfl, hB, hg, h1, h2, h3, h4⟩
    · exact absurd e1 hne
    · refine ⟨some ⟨g, 0, none⟩, cap, rfl, hb, fun hbs => ⟨_, rfl, hB, (Array.getElem?_eq_some_iff.1 hg).1, fun j u hj => ?_⟩⟩
      have := Rds.ofOwn hown (fun e => hbs (by simpa using e))
      obtain ⟨ad, e, _, hr⟩ := this
      cases e
      exact hr j u hj

set_option maxHeartbeats 4000000 in
set_option maxRecDepth 100000 in
theorem copied_any {w : World} {x : Le} {k : Pl} (h : Rds w w.heap.size k.1 (c8 x.body)) (hl : x.body.length ≤ 16384) :
    Calls Try.prog 36 #[val x k] w fun e w' => ∃ k' : Pl, e = .returned (val x k') ∧ Below w.heap.size w w' ∧ Bd w' (fun i => w.heap.size ≤ i) x.body k' := by
  simp only [val]
  have hw1 : Whole (newL (w.alloc (.cells #[.int .u64 x.num, .int .u64 x.first, .int .i64 x.frm, .int .i64 x.to_, .slice k.1 x.body.length k.2] 32))) w.heap.size 32 #[.int .u64 x.num, .int .u64 x.first, .int .i64 x.frm, .int .i64 x.to_, .slice k.1 x.body.length k.2] := (Whole.new w _ _).alloc _
  have hw2 := newL_whole (w.alloc (.cells #[.int .u64 x.num, .int .u64 x.first, .int .i64 x.frm, .int .i64 x.to_, .slice k.1 x.body.length k.2] 32))
  have hb1 : Below w.heap.size w (newL (w.alloc (.cells #[.int .u64 x.num, .int .u64 x.first, .int .i64 x.frm, .int .i64 x.to_, .slice k.1 x.body.length k.2] 32))) := ((Below.refl _ _).alloc (Nat.le_refl _) _).alloc (by simp) _
  rw [World.size_alloc] at hw2
  have HR := Lib.hid (h.below hb1)
  have HW1 := Lib.hid hw1
  have HW2 := Lib.hid hw2
  have HB1 := Lib.hid hb1
  clear h hw1 hw2 hb1
  go_enter Try.func36, Try.ntmps36
  go_upto_region 1 with fail
  change Code.wp _ _ _ _ (newL (w.alloc (.cells #[.int .u64 x.num, .int .u64 x.first, .int .i64 x.frm, .int .i64 x.to_, .slice k.1 x.body.length k.2] 32)))
  generalize newL (w.alloc (.cells #[.int .u64 x.num, .int .u64 x.first, .int .i64 x.frm, .int .i64 x.to_, .slice k.1 x.body.length k.2] 32)) = w1 at HW1 HW2 HR HB1 ⊢
  obtain ⟨c0, c1, c2, c3, c4⟩ := cells5 HW1.out
  have hsz := HB1.out.size
  go_wp2_with fail
  go_at_call 34
  refine (clone_any (HR.out.more hsz) (by omega)).mono ?_
  rintro e w2 ⟨A', c', rfl, hb2, hbd⟩
  have hw3 := HW1.out.below hb2 HW1.out.lt
  have hw4 := HW2.out.below hb2 HW2.out.lt
  have HB2 := Lib.hid (HB1.out.trans (hb2.mono hsz))
  have HBD := Lib.hid hbd
  clear c0 c1 c2 c3 c4 hb2 hbd
  have f3 := hw3.frozen
  have f4 := hw4.frozen
  obtain ⟨c0, c1, c2, c3, c4⟩ := cells5 hw3
  have HW3 := Lib.hid hw3
  have HW4 := Lib.hid hw4
  clear hw3 hw4
  go_upto_region 2 with fail
  have hw5 := HW3.out.put 4 (.slice A' x.body.length c')
  have hw6 : Whole (w2.setCell ⟨w.heap.size, 4, none⟩ (.slice A' x.body.length c')) (w.heap.size + 1) 32 _ := HW4.out.far (by show w.heap.size + 1 ≠ w.heap.size; omega) (.slice A' x.body.length c')
  have hb3 : Below w.heap.size w (w2.setCell ⟨w.heap.size, 4, none⟩ (.slice A' x.body.length c')) := HB2.out.setCell (Nat.le_refl _) _
  have hbd3 : Bd (w2.setCell ⟨w.heap.size, 4, none⟩ (.slice A' x.body.length c')) (fun i => w1.heap.size ≤ i) x.body (A', c') := by
    have := HW2.out.lt
    exact HBD.out.outs (T := fun i => i = w.heap.size) (outs_put _ _ _ _) (fun i hi e => by omega)
  generalize w2.setCell ⟨w.heap.size, 4, none⟩ (.slice A' x.body.length c') = w3 at hw5 hw6 hb3 hbd3 ⊢
  have hw5' : Whole w3 w.heap.size 32 #[.int .u64 x.num, .int .u64 x.first, .int .i64 x.frm, .int .i64 x.to_, .slice A' x.body.length c'] := hw5
  clear c0 c1 c2 c3 c4 f3 f4 hw5
  obtain ⟨c0, c1, c2, c3, c4⟩ := cells5 hw5'
  obtain ⟨d0, d1, d2, d3, d4⟩ := cells5 hw6
  have f6 := hw6.frozen
  have HW5 := Lib.hid hw5'
  have HW6 := Lib.hid hw6
  have HB3 := Lib.hid hb3
  have HBD3 := Lib.hid hbd3
  clear hw5' hw6 hb3 hbd3
  go_wp2
  have hx := put5_whole HW6.out (.int .u64 x.num) (.int .u64 x.first) (.int .i64 x.frm) (.int .i64 x.to_) (.slice A' x.body.length c')
  have hbx : Below w.heap.size w (put5 w3 (w.heap.size + 1) (.int .u64 x.num) (.int .u64 x.first) (.int .i64 x.frm) (.int .i64 x.to_) (.slice A' x.body.length c')) := put5_below HB3.out (by omega) _ _ _ _ _
  have hbdx : Bd (put5 w3 (w.heap.size + 1) (.int .u64 x.num) (.int .u64 x.first) (.int .i64 x.frm) (.int .i64 x.to_) (.slice A' x.body.length c')) (fun i => w.heap.size ≤ i) x.body (A', c') := by
    have := HW2.out.lt
    exact (HBD3.out.outs (T := fun i => i = w.heap.size + 1) (put5_outs _ _ _ _ _ _ _) (fun i hi e => by omega)).mono (fun i hi => by omega)
  change bodyPost _ _ _ _ _ (put5 w3 (w.heap.size + 1) (.int .u64 x.num) (.int .u64 x.first) (.int .i64 x.frm) (.int .i64 x.to_) (.slice A' x.body.length c'))
  generalize put5 w3 (w.heap.size + 1) (.int .u64 x.num) (.int .u64 x.first) (.int .i64 x.frm) (.int .i64 x.to_) (.slice A' x.body.length c') = W at hx hbx hbdx ⊢
  clear c0 c1 c2 c3 c4 d0 d1 d2 d3 d4 f6
  obtain ⟨c0, c1, c2, c3, c4⟩ := cells5 hx
  refine bodyPost_ret (by simp [results, Try.results36, go_sem, c0, c1, c2, c3, c4]; try rfl) rfl ?_
  exact ⟨(A', c'), rfl, hbx, hbdx⟩
end Go.Proofs.Ytnleeffajljodaa
end

section
/- Putting a letter in flight. -/
namespace Go.Proofs.Ytnleeffajljodaa
open Go.RowKit Go.Maps
set_option linter.unusedVariables false

theorem ents_snoc (es : List (Le × Pl)) (y : Le) (k : Pl) : ents (es ++ [(y, k)]) = ents es ++ [(y.num, val y k)] := by simp [ents]
theorem Okf.snoc {sent : Nat} {fl : List Le} (h : Okf sent fl) {y : Le} (hn : y.num = (sent + 1 : Nat)) (hf : 1 ≤ y.first ∧ y.first ≤ y.num) (h1 : 0 ≤ y.frm ∧ y.frm ≤ 63) (h2 : 0 ≤ y.to_ ∧ y.to_ ≤ 63) (hl : y.body.length ≤ 16384) (hs : sent < 4000) (hm : fl.length < 4000) :
    Okf (sent + 1) (fl ++ [y]) := by
  have mem : ∀ {P : Le → Prop}, (∀ x ∈ fl, P x) → P y → ∀ x ∈ fl ++ [y], P x := fun h1 h2 x hx => by
    rcases List.mem_append.1 hx with hx | hx
    · exact h1 x hx
    · rw [List.mem_singleton.1 hx]; exact h2
  refine ⟨List.pairwise_append.2 ⟨h.rise, List.pairwise_singleton _ _, fun x hx z hz => ?_⟩, mem (fun x hx => ?_) ?_, mem h.first hf, mem h.frm h1, mem h.to_ h2, mem h.len hl, by simp; omega, by omega⟩
  · rw [List.mem_singleton.1 hz]
    have := h.num x hx
    omega
  · have := h.num x hx; omega
  · omega

set_option maxHeartbeats 4000000 in
set_option maxRecDepth 100000 in
theorem put_any {w : World} {S T : Nat → Prop} {b mb : Nat} {es : List (Le × Pl)} {sent : Nat} (h : Nt w S b mb es sent) (x y : Le) (k : Pl) (hy : y = { x with num := (sent + 1 : Nat) }) (hf : 1 ≤ y.first ∧ y.first ≤ y.num) (h1 : 0 ≤ y.frm ∧ y.frm ≤ 63) (h2 : 0 ≤ y.to_ ∧ y.to_ ≤ 63) (hl : y.body.length ≤ 16384)
    (hs : sent < 4000) (hm : es.length < 4000) (hb : Bd w (fun i => T i ∧ i ≠ b ∧ i ≠ mb) y.body k) (hT : ∀ i, T i → i < w.heap.size) :
    Calls Try.prog 33 #[.pointer (some ⟨b, 0, none⟩), val x k] w fun e w' => e = .returned (.tuple #[.int .u64 (sent + 1 : Nat), .int .i64 0]) ∧ Nt w' (fun i => S i ∨ T i) b mb (es ++ [(y, k)]) (sent + 1) ∧ Outs (fun i => i = b ∨ i = mb) w w' := by
  simp only [val]
  have hne : b ≠ mb := h.blk.ne_map h.map
  have hblt := h.blk.lt
  have hmlt := h.map.lt
  have hok := h.ok.snoc (y := y) (by rw [hy]) hf h1 h2 hl hs (by simpa using hm)
  have hlen : (es.map (·.1)).length = es.length := by simp
  have hmost := h.ok.most
  -- behind the box
  have hw1 := Whole.new w 32 #[.int .u64 x.num, .int .u64 x.first, .int .i64 x.frm, .int .i64 x.to_, .slice k.1 x.body.length k.2]
  have hB1 : Below w.heap.size w (w.alloc (.cells #[.int .u64 x.num, .int .u64 x.first, .int .i64 x.frm, .int .i64 x.to_, .slice k.1 x.body.length k.2] 32)) := (Below.refl _ _).alloc (Nat.le_refl _) _
  have hn1 := h.go hB1
  have ho1 : Outs (fun i => i = b ∨ i = mb) w (w.alloc (.cells #[.int .u64 x.num, .int .u64 x.first, .int .i64 x.frm, .int .i64 x.to_, .slice k.1 x.body.length k.2] 32)) := Outs.of hB1
  have hbd1 := hb.outs (T := fun _ => False) (Outs.of hB1) (fun _ _ e => e)
  have HW1 := Lib.hid hw1
  have HN1 := Lib.hid hn1
  have HO1 := Lib.hid ho1
  have HBD1 := Lib.hid hbd1
  have HBS := Lib.hid h.bd
  have HLT := Lib.hid h.lt
  have HBN := Lib.hid hb
  have HOK := Lib.hid hok
  have HY := Lib.hid hy
  clear h hw1 hn1 ho1 hbd1 hok hb hy hB1 hf h1 h2 hl
  go_enter Try.func33, Try.ntmps33
  go_upto_region 1 with fail
  generalize w.alloc (.cells #[.int .u64 x.num, .int .u64 x.first, .int .i64 x.frm, .int .i64 x.to_, .slice k.1 x.body.length k.2] 32) = w1 at HW1 HN1 HO1 HBD1 ⊢
  have hc2 : w1.cell? ⟨b, 2, none⟩ = some (.map (some mb)) := by simpa using HN1.out.blk.cell 2
  have hc1 : w1.cell? ⟨b, 1, none⟩ = some (.int .u64 sent) := by simpa using HN1.out.blk.cell 1
  have hf1 := HN1.out.blk.frozen 1
  have hmap := HN1.out.map
  have hsz : (Maps.size (asMap (ents es)) : Int) < 4096 := by rw [size_map]; simp [ents]; omega
  have hszd : decide ((4096 : Int) ≤ (Maps.size (asMap (ents es)) : Int)) = false := decide_eq_false (by omega)
  go_upto_region 4 with (at_len; refine wpList_len_own _ rfl _ 55 rfl 25 32 Try.underlying55 selfR mb sent (asMap (ents es)) rfl hmap ?_; go_frame)
  -- the number is given
  have hbox := HW1.out.lt
  have hg0 : w.heap.size ≠ b := by omega
  have hg1 : w.heap.size ≠ mb := by omega
  have hw2 : Whole (w1.setCell ⟨b, 1, none⟩ (.int .u64 ((sent : Int) + 1))) w.heap.size 32 _ := HW1.out.far (by show w.heap.size ≠ b; exact hg0) (.int .u64 ((sent : Int) + 1))
  have hk2 : Whole (w1.setCell ⟨b, 1, none⟩ (.int .u64 ((sent : Int) + 1))) b 57 #[.pointer (some ⟨b, 0, none⟩), .int .u64 ((sent : Int) + 1), .map (some mb)] := HN1.out.blk.put 1 _
  have hm2 : (w1.setCell ⟨b, 1, none⟩ (.int .u64 ((sent : Int) + 1))).ownsMap Try.prog 25 selfR mb sent (asMap (ents es)) := hmap.setCell (fun e => hne e.symm) _
  have ho2 : Outs (fun i => i = b) w1 (w1.setCell ⟨b, 1, none⟩ (.int .u64 ((sent : Int) + 1))) := outs_put _ _ _ _
  generalize w1.setCell ⟨b, 1, none⟩ (.int .u64 ((sent : Int) + 1)) = w2 at hw2 hk2 hm2 ho2 ⊢
  clear hc1 hc2 hf1 hmap
  have hc1 : w2.cell? ⟨b, 1, none⟩ = some (.int .u64 ((sent : Int) + 1)) := by simpa using hk2.cell 1
  have hf0 := hw2.frozen 0
  obtain ⟨c0, c1, c2, c3, c4⟩ := cells5 hw2
  have HW2 := Lib.hid hw2
  have HK2 := Lib.hid hk2
  have HM2 := Lib.hid hm2
  have HO2 := Lib.hid ho2
  clear hw2 hk2 hm2 ho2
  go_upto_region 5 with fail
  have hw3 : Whole (w2.setCell ⟨w.heap.size, 0, none⟩ (.int .u64 ((sent : Int) + 1))) w.heap.size 32 #[.int .u64 ((sent : Int) + 1), .int .u64 x.first, .int .i64 x.frm, .int .i64 x.to_, .slice k.1 x.body.length k.2] := HW2.out.put 0 _
  have hk3 : Whole (w2.setCell ⟨w.heap.size, 0, none⟩ (.int .u64 ((sent : Int) + 1))) b 57 _ := HK2.out.far (by show b ≠ w.heap.size; exact fun e => hg0 e.symm) (.int .u64 ((sent : Int) + 1))
  have hm3 : (w2.setCell ⟨w.heap.size, 0, none⟩ (.int .u64 ((sent : Int) + 1))).ownsMap Try.prog 25 selfR mb sent (asMap (ents es)) := HM2.out.setCell (by show mb ≠ w.heap.size; exact fun e => hg1 e.symm) _
  have ho3 : Outs (fun i => i = w.heap.size) w2 (w2.setCell ⟨w.heap.size, 0, none⟩ (.int .u64 ((sent : Int) + 1))) := outs_put _ _ _ _
  generalize w2.setCell ⟨w.heap.size, 0, none⟩ (.int .u64 ((sent : Int) + 1)) = w3 at hw3 hk3 hm3 ho3 ⊢
  clear hc1 hf0 c0 c1 c2 c3 c4
  have hvy : val y k = .agg #[.int .u64 ((sent : Int) + 1), .int .u64 x.first, .int .i64 x.frm, .int .i64 x.to_, .slice k.1 x.body.length k.2] := by rw [HY.out]; rfl
  obtain ⟨w4, hrun, hm4, hturn⟩ := World.ownsMap.store (w := w3.drew) hm3 keyed64 Try.underlying55 (by unfold maxLen; omega) (key_u64 (a := (sent : Int) + 1) (by omega)) (val := val y k) (d := .held (val y k)) (ps := []) rfl
  rw [hvy] at hrun
  have hput : (asMap (ents es)).put (.int .u64 ((sent : Int) + 1)) (.held (val y k)) = asMap (ents (es ++ [(y, k)])) := by
    rw [put_map, ents_snoc, HY.out]
    · rfl
    · intro p hp
      obtain ⟨q, hq, rfl⟩ := List.mem_map.1 hp
      have := (HN1.out.ok.num q.1 (List.mem_map_of_mem hq)).2
      show q.1.num < _
      omega
  rw [hput] at hm4
  have ho4 : Outs (fun i => i = mb) w3.drew w4 := turned_outs (H := Value) hturn rfl
  have hw4 := (show Whole w3.drew w.heap.size 32 _ from hw3).outs ho4 (by show ¬ w.heap.size = mb; exact hg1)
  have hk4 := (show Whole w3.drew b 57 _ from hk3).outs ho4 (by show ¬ b = mb; exact hne)
  have hc2 : w3.cell? ⟨b, 2, none⟩ = some (.map (some mb)) := by simpa using hk3.cell 2
  obtain ⟨c0, c1, c2, c3, c4⟩ := cells5 hw3
  obtain ⟨d0, d1, d2, d3, d4⟩ := cells5 hw4
  have HO3 := Lib.hid ho3
  have HO4 := Lib.hid ho4
  have HK4 := Lib.hid hk4
  have HM4 := Lib.hid hm4
  clear hw3 hk3 hm3 ho3 ho4 hk4 hm4 hw4 hput hvy hturn
  go_still_tail 7, (by kernel_rfl)
  change wpList _ _ _ _ _ w3.drew
  go_wp2
  go_returns
  have hO : Outs (fun i => i = b ∨ i = mb) w w4 := by
    refine HO1.out.trans ((HO2.out.mono (S' := fun i => i = b ∨ i = mb ∨ i = w.heap.size) (fun i e => .inl e)).same ((HO3.out.mono (fun i e => .inr (.inr e))).same ((Outs.refl _ w3).drew.same (HO4.out.mono (fun i e => .inr (.inl e)))))) (fun i hi => ?_)
    rcases hi with e | e | e
    · exact .inl (.inl e)
    · exact .inl (.inr e)
    · exact .inr (by omega)
  refine ⟨rfl, ⟨by simpa using HK4.out, HM4.out, .inl HN1.out.sb, .inl HN1.out.sm, fun p hp => ?_, by simpa using HOK.out, fun i hi => by rcases hi with hi | hi; exact Nat.lt_of_lt_of_le (HLT.out i hi) hO.size; exact Nat.lt_of_lt_of_le (hT i hi) hO.size⟩, hO⟩
  rcases List.mem_append.1 hp with hp | hp
  · exact ((HBS.out p hp).outs hO (fun i hi e => by rcases e with e | e; exact hi.2.1 e; exact hi.2.2 e)).mono (fun i hi => ⟨.inl hi.1, hi.2⟩)
  · obtain rfl := List.mem_singleton.1 hp
    exact (HBN.out.outs hO (fun i hi e => by rcases e with e | e; exact hi.2.1 e; exact hi.2.2 e)).mono (fun i hi => ⟨.inr hi.1, hi.2⟩)
end Go.Proofs.Ytnleeffajljodaa
end

section
/- Sending a letter, doubling one. -/
namespace Go.Proofs.Ytnleeffajljodaa
open Go.RowKit Go.Maps
set_option linter.unusedVariables false

theorem Turn.of2 {w w' : World} {S S' : Nat → Prop} {b mb : Nat} {es : List (Le × Pl)} {sent : Nat} (h : Nt w S b mb es sent) (ho : Outs (fun i => i = b ∨ i = mb) w w') (hn : ∀ k, S' k → S k ∨ w.heap.size ≤ k) : Turn S S' w w' :=
  ⟨ho.mono (fun k hk => by rcases hk with rfl | rfl; exact h.sb; exact h.sm), hn⟩

/-- what sending answers -/
def sendE (f t : Int) (n : Nat) : Int := if (f < 0 ∨ 63 < f) ∨ (t < 0 ∨ 63 < t) then 2 else if 16384 < n then 3 else 0

set_option maxHeartbeats 4000000 in
set_option maxRecDepth 100000 in
theorem sendBad_any {w : World} {S : Nat → Prop} {b mb : Nat} {es : List (Le × Pl)} {sent : Nat} (h : Nt w S b mb es sent) (f t : Int) (A : Option Addr) (n c : Nat) (hn : n ≤ 9223372036854775807) (hE : sendE f t n ≠ 0) :
    Calls Try.prog 9 #[.pointer (some ⟨b, 0, none⟩), .int .i64 f, .int .i64 t, .slice A n c] w fun e w' => e = .returned (.tuple #[.int .u64 0, .int .i64 (sendE f t n)]) ∧ w' = w := by
  have H := Lib.hid h
  clear h
  by_cases hf : (f < 0 ∨ 63 < f)
  · have e1 : sendE f t n = 2 := by unfold sendE; rw [if_pos (.inl hf)]
    rw [e1]
    have hfb : (decide (f < 0) || decide (63 < f)) = true := by simpa using hf
    clear hE hf e1
    go_enter Try.func9, Try.ntmps9
    go_wp2_with (first
      | (go_at_call 31; refine (nobodys_any H.out).mono ?_; rintro e w' ⟨rfl, rfl⟩)
      | (go_at_call 32; refine (mayNot_any _ _).mono ?_; rintro e w' ⟨rfl, rfl⟩; rw [hfb]))
    go_returns
    exact ⟨rfl, rfl⟩
  · have hfb : (decide (f < 0) || decide (63 < f)) = false := by
      rw [Bool.or_eq_false_iff]
      exact ⟨decide_eq_false (fun e => hf (.inl e)), decide_eq_false (fun e => hf (.inr e))⟩
    have cf : Calls Try.prog 32 #[.int .i64 f] w fun e w' => e = .returned (.bool false) ∧ w' = w := by rw [← hfb]; exact mayNot_any f w
    have CF := Lib.hid cf
    clear cf hfb
    by_cases ht : (t < 0 ∨ 63 < t)
    · have e1 : sendE f t n = 2 := by unfold sendE; rw [if_pos (.inr ht)]
      rw [e1]
      have htb : (decide (t < 0) || decide (63 < t)) = true := by simpa using ht
      have ct : Calls Try.prog 32 #[.int .i64 t] w fun e w' => e = .returned (.bool true) ∧ w' = w := by rw [← htb]; exact mayNot_any t w
      have CT := Lib.hid ct
      clear hE hf e1 ct htb ht
      go_enter Try.func9, Try.ntmps9
      go_wp2_with fail
      go_at_call 31
      refine (nobodys_any H.out).mono ?_
      rintro e w1 ⟨rfl, hw⟩
      rw [hw]
      go_wp2_with fail
      go_at_call 32
      refine CF.out.mono ?_
      rintro e w2 ⟨rfl, hw2⟩
      rw [hw2]
      go_wp2_with fail
      go_at_call 32
      refine CT.out.mono ?_
      rintro e w3 ⟨rfl, hw3⟩
      rw [hw3]
      go_wp2
      go_returns
      exact ⟨rfl, rfl⟩
    · have htb : (decide (t < 0) || decide (63 < t)) = false := by
        rw [Bool.or_eq_false_iff]
        exact ⟨decide_eq_false (fun e => ht (.inl e)), decide_eq_false (fun e => ht (.inr e))⟩
      have ct : Calls Try.prog 32 #[.int .i64 t] w fun e w' => e = .returned (.bool false) ∧ w' = w := by rw [← htb]; exact mayNot_any t w
      have CT := Lib.hid ct
      have hno : ¬ ((f < 0 ∨ 63 < f) ∨ (t < 0 ∨ 63 < t)) := fun e => e.elim hf ht
      have hn3 : 16384 < n := by
        unfold sendE at hE
        rw [if_neg hno] at hE
        by_cases q : 16384 < n
        · exact q
        · rw [if_neg q] at hE; exact absurd rfl hE
      have e1 : sendE f t n = 3 := by unfold sendE; rw [if_neg hno, if_pos hn3]
      rw [e1]
      have hn3z : (16384 : Int) < (n : Int) := by omega
      clear hE hf e1 ct htb ht hno
      go_enter Try.func9, Try.ntmps9
      go_wp2_with fail
      go_at_call 31
      refine (nobodys_any H.out).mono ?_
      rintro e w1 ⟨rfl, hw⟩
      rw [hw]
      go_wp2_with fail
      go_at_call 32
      refine CF.out.mono ?_
      rintro e w2 ⟨rfl, hw2⟩
      rw [hw2]
      go_wp2_with fail
      go_at_call 32
      refine CT.out.mono ?_
      rintro e w3 ⟨rfl, hw3⟩
      rw [hw3]
      go_wp2
      go_returns
      exact ⟨rfl, rfl⟩

set_option maxHeartbeats 4000000 in
set_option maxRecDepth 100000 in
theorem send_any {w : World} {S : Nat → Prop} {b mb : Nat} {es : List (Le × Pl)} {sent : Nat} (h : Nt w S b mb es sent) (f t : Int) (A : Option Addr) (bs : List Int) (n c : Nat) (hbn : bs.length = n) (hE : sendE f t n = 0) (hr : Rds w w.heap.size A (c8 bs)) (hs : sent < 4000) (hm : es.length < 4000) :
    Calls Try.prog 9 #[.pointer (some ⟨b, 0, none⟩), .int .i64 f, .int .i64 t, .slice A n c] w fun e w' => e = .returned (.tuple #[.int .u64 (sent + 1 : Nat), .int .i64 0]) ∧
      ∃ S' k, Nt w' S' b mb (es ++ [(⟨(sent + 1 : Nat), (sent + 1 : Nat), f, t, bs⟩, k)]) (sent + 1) ∧ Turn S S' w w' := by
  have hno : ¬ ((f < 0 ∨ 63 < f) ∨ (t < 0 ∨ 63 < t)) := fun e => by unfold sendE at hE; rw [if_pos e] at hE; cases hE
  have hn : ¬ 16384 < n := fun e => by unfold sendE at hE; rw [if_neg hno, if_pos e] at hE; cases hE
  have hfb : (decide (f < 0) || decide (63 < f)) = false := by simp; omega
  have htb : (decide (t < 0) || decide (63 < t)) = false := by simp; omega
  have cf : Calls Try.prog 32 #[.int .i64 f] w fun e w' => e = .returned (.bool false) ∧ w' = w := by rw [← hfb]; exact mayNot_any f w
  have ct : Calls Try.prog 32 #[.int .i64 t] w fun e w' => e = .returned (.bool false) ∧ w' = w := by rw [← htb]; exact mayNot_any t w
  have CF := Lib.hid cf
  have CT := Lib.hid ct
  have hn3z : decide ((16384 : Int) < (n : Int)) = false := decide_eq_false (by omega)
  have cl := clone_any (c := c) hr (by omega)
  rw [hbn] at cl
  have CL := Lib.hid cl
  have H := Lib.hid h
  have HBN := Lib.hid hbn
  have hc1 : w.cell? ⟨b, 1, none⟩ = some (.int .u64 sent) := by simpa using h.blk.cell 1
  clear h cf ct hfb htb hE cl hr hbn
  go_enter Try.func9, Try.ntmps9
  go_wp2_with fail
  go_at_call 31
  refine (nobodys_any H.out).mono ?_
  rintro e w1 ⟨rfl, hw⟩
  rw [hw]
  go_wp2_with fail
  go_at_call 32
  refine CF.out.mono ?_
  rintro e w2 ⟨rfl, hw2⟩
  rw [hw2]
  go_wp2_with fail
  go_at_call 32
  refine CT.out.mono ?_
  rintro e w3 ⟨rfl, hw3⟩
  rw [hw3]
  go_wp2_with fail
  go_at_call 34
  refine CL.out.mono ?_
  rintro e w4 ⟨A', c', rfl, hb4, hbd4⟩
  have hn4 := H.out.go hb4
  have hsb := H.out.lt b H.out.sb
  have hsm := H.out.lt mb H.out.sm
  have hbd5 : Bd w4 (fun i => (w.heap.size ≤ i ∧ i < w4.heap.size) ∧ i ≠ b ∧ i ≠ mb) bs (A', c') := hbd4.within.mono (fun i hi => ⟨hi, by omega, by omega⟩)
  have ct := put_any hn4 ⟨0, (sent + 1 : Nat), f, t, bs⟩ ⟨(sent + 1 : Nat), (sent + 1 : Nat), f, t, bs⟩ (A', c') rfl ⟨by show (1 : Int) ≤ ((sent + 1 : Nat) : Int); omega, Int.le_refl _⟩ ⟨by show 0 ≤ f; omega, by show f ≤ 63; omega⟩ ⟨by show 0 ≤ t; omega, by show t ≤ 63; omega⟩ (by show bs.length ≤ 16384; have := HBN.out; omega) hs hm hbd5 (fun i hi => hi.2)
  simp only [val, HBN.out] at ct
  rw [show ((sent + 1 : Nat) : Int) = (sent : Int) + 1 by omega] at ct
  have CT2 := Lib.hid ct
  have HB4 := Lib.hid hb4
  have HN4 := Lib.hid hn4
  clear ct hn4 hb4 hbd4 hbd5 hw hw2 hw3
  go_wp2_with fail
  go_at_call 33
  refine CT2.out.mono ?_
  rintro e w5 ⟨rfl, hn5, ho5⟩
  have HN5 := Lib.hid hn5
  have HO5 := Lib.hid ho5
  clear hn5 ho5
  go_wp2
  go_returns
  refine ⟨by simp, _, (A', c'), by simpa using HN5.out, ?_⟩
  refine Turn.of2 H.out ((Outs.of HB4.out).same (HO5.out)) (fun k hk => ?_)
  rcases hk with hk | hk
  · exact .inl hk
  · exact .inr hk.1
end Go.Proofs.Ytnleeffajljodaa
end

section
/- Losing, delivering, doubling a letter. -/
namespace Go.Proofs.Ytnleeffajljodaa
open Go.RowKit Go.Maps
set_option linter.unusedVariables false

/-- all but that number -/
def drop (es : List (Le × Pl)) (x : Int) : List (Le × Pl) := es.filter fun p => !decide (p.1.num = x)
theorem ents_drop (es : List (Le × Pl)) (x : Int) : (ents es).filter (fun p => !decide (p.1 = x)) = ents (drop es x) := by
  unfold ents drop
  rw [List.filter_map]
  rfl
theorem Okf.filter {sent : Nat} {fl : List Le} (h : Okf sent fl) (f : Le → Bool) : Okf sent (fl.filter f) :=
  ⟨h.rise.filter f, fun x hx => h.num x (List.mem_filter.1 hx).1, fun x hx => h.first x (List.mem_filter.1 hx).1, fun x hx => h.frm x (List.mem_filter.1 hx).1, fun x hx => h.to_ x (List.mem_filter.1 hx).1, fun x hx => h.len x (List.mem_filter.1 hx).1, Nat.le_trans (List.length_filter_le ..) h.most, h.few⟩
theorem drop_map (es : List (Le × Pl)) (x : Int) : (drop es x).map (·.1) = (es.map (·.1)).filter (fun y => !decide (y.num = x)) := by
  unfold drop
  rw [List.filter_map]
  rfl
/-- behind 'delete' -/
theorem Nt.dropped {w w' : World} {S : Nat → Prop} {b mb : Nat} {es : List (Le × Pl)} {sent : Nat} (h : Nt w S b mb es sent) {x : Int} (hm : w'.ownsMap Try.prog 25 selfR mb sent ((asMap (ents es)).del (.int .u64 x))) (ht : w.mapTurned w' mb) :
    Nt w' S b mb (drop es x) sent ∧ Outs (fun i => i = mb) w w' := by
  have ho : Outs (fun i => i = mb) w w' := turned_outs (H := Value) ht rfl
  rw [del_map, ents_drop] at hm
  exact ⟨⟨h.blk.outs ho (h.blk.ne_map h.map), hm, h.sb, h.sm, fun p hp => (h.bd p (List.mem_filter.1 hp).1).outs ho (fun i hi => hi.2.2), by rw [drop_map]; exact h.ok.filter _, fun i hi => Nat.lt_of_lt_of_le (h.lt i hi) ho.size⟩, ho⟩
theorem hit_none {es : List (Le × Pl)} {x : Int} (h : pick es x = none) : hitV es x = zeroL ∧ hitE es x = 6 := ⟨by unfold hitV; rw [h], by unfold hitE; rw [h]⟩
theorem hit_some {es : List (Le × Pl)} {x : Int} {p : Le × Pl} (h : pick es x = some p) : hitV es x = val p.1 p.2 ∧ hitE es x = 0 ∧ p ∈ es ∧ p.1.num = x :=
  ⟨by unfold hitV; rw [h], by unfold hitE; rw [h], List.mem_of_find?_eq_some h, of_decide_eq_true (List.find?_some (p := fun q : Le × Pl => decide (q.1.num = x)) h)⟩

set_option maxHeartbeats 4000000 in
set_option maxRecDepth 100000 in
theorem loseNo_any {w : World} {S : Nat → Prop} {b mb : Nat} {es : List (Le × Pl)} {sent : Nat} (h : Nt w S b mb es sent) (x : Int) (hx : 0 ≤ x ∧ x ≤ 18446744073709551615) (hp : pick es x = none) :
    Calls Try.prog 14 #[.pointer (some ⟨b, 0, none⟩), .int .u64 x] w fun e w' => e = .returned (.int .i64 6) ∧ Below w.heap.size w w' := by
  have ct := find_any h x hx
  rw [(hit_none hp).1, (hit_none hp).2] at ct
  simp only [zeroL] at ct
  have CT := Lib.hid ct
  clear ct h
  go_enter Try.func14, Try.ntmps14
  go_wp2_with fail
  go_at_call 35
  refine CT.out.mono ?_
  rintro e w1 ⟨rfl, hb⟩
  have HB := Lib.hid hb
  clear hb
  go_wp2
  go_ret
  exact ⟨rfl, HB.out.alloc HB.out.size _⟩

set_option maxHeartbeats 4000000 in
set_option maxRecDepth 100000 in
theorem lose_any {w : World} {S : Nat → Prop} {b mb : Nat} {es : List (Le × Pl)} {sent : Nat} (h : Nt w S b mb es sent) (x : Int) (hx : 0 ≤ x ∧ x ≤ 18446744073709551615) {p : Le × Pl} (hp : pick es x = some p) :
    Calls Try.prog 14 #[.pointer (some ⟨b, 0, none⟩), .int .u64 x] w fun e w' => e = .returned (.int .i64 0) ∧ Nt w' S b mb (drop es x) sent ∧ Outs (fun i => i = b ∨ i = mb) w w' := by
  have ct := find_any h x hx
  rw [(hit_some hp).1, (hit_some hp).2.1] at ct
  simp only [val] at ct
  have CT := Lib.hid ct
  have H := Lib.hid h
  clear ct h
  go_enter Try.func14, Try.ntmps14
  go_wp2_with fail
  go_at_call 35
  refine CT.out.mono ?_
  rintro e w1 ⟨rfl, hb⟩
  have HB := Lib.hid hb
  clear hb
  go_upto_region 4 with fail
  have hb2 := HB.out.alloc HB.out.size (.cells #[.int .u64 p.1.num, .int .u64 p.1.first, .int .i64 p.1.frm, .int .i64 p.1.to_, .slice p.2.1 p.1.body.length p.2.2] 32)
  generalize w1.alloc (.cells #[.int .u64 p.1.num, .int .u64 p.1.first, .int .i64 p.1.frm, .int .i64 p.1.to_, .slice p.2.1 p.1.body.length p.2.2] 32) = w2 at hb2 ⊢
  have hn2 := H.out.go hb2
  have hm2 := hn2.map
  have hc2 : w2.cell? ⟨b, 2, none⟩ = some (.map (some mb)) := by simpa using hn2.blk.cell 2
  have HB2 := Lib.hid hb2
  have HN2 := Lib.hid hn2
  clear hb2 hn2
  go_wp2_with (at_delete; refine wpList_delete_own _ rfl _ _ 55 25 rfl 32 keyed64 Try.underlying55 selfR mb sent (asMap (ents es)) rfl hm2 _ _ rfl (key_u64 hx) ?_; intro w3 hm3 ht3; go_frame)
  go_ret
  obtain ⟨h1, h2⟩ := HN2.out.dropped hm3 ht3
  exact ⟨rfl, h1, (Outs.of HB2.out).same (h2.mono (fun i e => .inr e))⟩

set_option maxHeartbeats 4000000 in
set_option maxRecDepth 100000 in
theorem doubleNo_any {w : World} {S : Nat → Prop} {b mb : Nat} {es : List (Le × Pl)} {sent : Nat} (h : Nt w S b mb es sent) (x : Int) (hx : 0 ≤ x ∧ x ≤ 18446744073709551615) (hp : pick es x = none) :
    Calls Try.prog 10 #[.pointer (some ⟨b, 0, none⟩), .int .u64 x] w fun e w' => e = .returned (.tuple #[.int .u64 0, .int .i64 6]) ∧ Below w.heap.size w w' := by
  have ct := find_any h x hx
  rw [(hit_none hp).1, (hit_none hp).2] at ct
  simp only [zeroL] at ct
  have CT := Lib.hid ct
  clear ct h
  go_enter Try.func10, Try.ntmps10
  go_wp2_with fail
  go_at_call 35
  refine CT.out.mono ?_
  rintro e w1 ⟨rfl, hb⟩
  have HB := Lib.hid hb
  clear hb
  go_wp2
  go_returns
  exact ⟨rfl, HB.out.alloc HB.out.size _⟩

end Go.Proofs.Ytnleeffajljodaa
end

section
/- maps.Keys over a map by uint64: the numbers, each once, in some order. -/
namespace Go.Proofs.Ytnleeffajljodaa
open Go.RowKit Go.Maps
set_option linter.unusedVariables false

theorem key_inv {key : Value} {kl : Lit} (h : keyOf Try.prog 25 key = some kl) : ∃ x : Int, key = .int .u64 x ∧ kl = .int .u64 x := by
  cases key <;> simp [keyOf, Try.underlying25, mapKey] at h
  obtain ⟨⟨rfl, _⟩, rfl⟩ := h
  exact ⟨_, rfl, rfl⟩

/-- what has come so far -/
structure Got (L : List (Int × Value)) (left : Lit → Bool) (ss : List Int) : Prop where
  once : ss.Nodup
  just : ∀ x, x ∈ ss ↔ (x ∈ L.map (·.1) ∧ left (.int .u64 x) = false)
theorem any_key (L : List (Int × Value)) (x : Int) : L.any (fun p => decide (p.1 = x)) = true ↔ x ∈ L.map (·.1) := by
  rw [List.any_eq_true, List.mem_map]
  exact ⟨fun ⟨p, hp, e⟩ => ⟨p, hp, of_decide_eq_true e⟩, fun ⟨p, hp, e⟩ => ⟨p, hp, decide_eq_true e⟩⟩
theorem Got.start (L : List (Int × Value)) : Got L (Maps.has (asMap L)) [] := by
  refine ⟨List.nodup_nil, fun x => ⟨fun h => absurd h (by simp), fun h => ?_⟩⟩
  obtain ⟨h1, h2⟩ := h
  rw [has_map, ← Bool.not_eq_true, any_key] at h2
  exact absurd h1 h2
theorem Got.step {L : List (Int × Value)} {left : Lit → Bool} {ss : List Int} (h : Got L left ss) {x : Int} {y : DataW Value} (hl : left (.int .u64 x) = true) (hat : ∀ zd, (asMap L).atKey (.int .u64 x) zd = y) :
    Got L (fun z => left z && !z.sameKey (.int .u64 x)) (ss ++ [x]) := by
  have hx : x ∈ L.map (·.1) := by
    rw [← any_key, ← has_map]
    exact Maps.has_true_of_atKey hat
  refine ⟨List.nodup_append.2 ⟨h.once, (by simp), fun a ha b hb e => ?_⟩, fun z => ?_⟩
  · obtain rfl := List.mem_singleton.1 hb
    subst e
    rw [((h.just a).1 ha).2] at hl
    cases hl
  · rw [List.mem_append, List.mem_singleton, h.just z, same_int]
    by_cases e : z = x
    · subst e
      simp [hx]
    · simp [e]
theorem Got.perm {L : List (Int × Value)} {left : Lit → Bool} {ss : List Int} (h : Got L left ss) (hr : Ris L) (h0 : ∀ kl, left kl = false) : ss.Perm (L.map (·.1)) :=
  (List.perm_ext_iff_of_nodup h.once hr.nodup).2 fun x => by rw [h.just x, h0]; simp

set_option maxRecDepth 100000 in
set_option maxHeartbeats 1000000 in
theorem keys1_in (n : Nat) (hn : 1 ≤ n) (l Bm b nn : Nat) (L : List (Int × Value)) (hr : Ris L) (J Jx : List Int → World → Prop)
    (hY : ∀ pre x W, J pre W → pre.length < L.length → YieldAt Fence.wide (n - 1) Try.prog l #[.int .u64 x] W fun e W' =>
      (e = .returned (.bool true) ∧ J (pre ++ [x]) W' ∧ KeepsWalks W W') ∨ (e = .returned (.bool false) ∧ Jx (pre ++ [x]) W'))
    (W : World) (hJ : AbidesFrom W.heap.size J) (hm : W.cell? ⟨Bm, 0, none⟩ = some (.map (some b))) (hown : W.ownsMap Try.prog 25 selfR b nn (asMap L)) (h0 : J [] W) :
    CallsIn Fence.wide n Try.prog 50 #[.func (.yield l) #[] #[], .pointer (some ⟨Bm, 0, none⟩)] W fun e W' => (∃ v, e = .returned v) ∧
      ((∃ ss : List Int, ss.Perm (L.map (·.1)) ∧ J ss W') ∨ (∃ pre : List Int, True ∧ Jx pre W')) := by
  refine callsIn_of_wp Try.func50 rfl trivial ?_ rfl
  simp only [Try.ntmps50, List.size_toArray, List.length_cons, List.length_nil, Nat.reduceAdd, Nat.reduceSub, Array.replicate_succ, Array.replicate_zero, List.push_toArray, List.append_toArray, List.nil_append, List.cons_append]
  gi_wp2_with (first
    | (gi_at_range; refine wpListIn_range_own _ rfl _ 55 rfl 25 32 keyed64 Try.underlying55 selfR b nn _ rfl hown ?_; intro w0 hrg0 hg0 hs0)
    | gi_in)
  go_frame
  gi_loopw [3] (fun _ wr => ∃ (left : Lit → Bool) (cnt : Nat) (ss : List Int), wr.ranges Try.prog 25 selfR b W.heap.size nn (asMap L) left cnt ∧ ss.length + cnt ≤ L.length ∧ Got L left ss ∧ J ss wr)
    (fun _ wr => wr.rangeLeft b W.heap.size)
  case atStart =>
    exact ⟨_, _, [], hrg0, by rw [size_map]; simp, Got.start L, hJ [] W w0 none h0 hg0 (fun r e => by cases e)⟩
  case round =>
    obtain ⟨left, cnt, ss, hrg, hcs, hC, hJs⟩ := hrel
    gi_wp2_with (first
      | (gi_at_next; refine wpListIn_next_ranges _ rfl _ rfl 25 keyed64 selfR (Value.int .u64) id (fun key kl hk => by obtain ⟨x, hx, _⟩ := key_inv hk; exact ⟨x, hx⟩) (fun v _ _ => ⟨v, rfl⟩) b W.heap.size nn _ _ _ rfl hrg ?_ ?_)
      | gi_in)
    · intro hc0 hl0
      gi_wp2
      go_end0
      exact ⟨⟨_, rfl⟩, .inl ⟨ss, hC.perm hr hl0, hJs⟩⟩
    · intro x c kl yd yp w2 cnt2 hkey hlk hv hat hrg2 hlt hg2 hs2 hen
      obtain ⟨x', ex, rfl⟩ := key_inv hkey
      obtain rfl : x = x' := by injection ex
      have hJ2 : J ss w2 := hJ ss wr w2 (some W.heap.size) hJs hg2 (fun r e => by cases e; exact ⟨Nat.le_refl _, hrg.iter_walk⟩)
      obtain ⟨fn, tmps, assign, body, hy, hR⟩ := hY ss x w2 hJ2 (by omega)
      clear hs2
      gi_wp2
      refine hR.mono ?_
      have hC2 := hC.step hlk hat
      rintro e W3 (⟨rfl, hJ3, hk3⟩ | ⟨rfl, hJx3⟩)
      · gi_wp2
        have hrg3 := hrg2.of_walks hk3
        go_roundw
        case rel => exact ⟨_, cnt2, ss ++ [x], hrg3, by simp; omega, hC2, hJ3⟩
        case measure => rw [hrg3.left_eq, hrg.left_eq]; exact hlt
      · gi_wp2
        refine bodyPost_ret (results_none rfl _ _ _) rfl ?_
        exact ⟨⟨_, rfl⟩, .inr ⟨ss ++ [x], trivial, hJx3⟩⟩

theorem keys_stops (n : Nat) (hn : 1 ≤ n) (Bm b nn : Nat) (L : List (Int × Value)) (hr : Ris L) (w : World) (hBm : Bm < w.heap.size)
    (hm : w.cell? ⟨Bm, 0, none⟩ = some (.map (some b))) (hown : w.ownsMap Try.prog 25 selfR b nn (asMap L)) :
    SeqStops Fence.wide n Try.prog 50 #[.pointer (some ⟨Bm, 0, none⟩)] (Value.int .u64) (fun ss => ss.Perm (L.map (·.1))) (fun _ => True) L.length w := fun l J Jx W hW hJ _ hY h0 => by
  have hown' : W.ownsMap Try.prog 25 selfR b nn (asMap L) := by
    have hbl := hown.lt
    obtain ⟨es, clock, hb, r⟩ := hown
    exact ⟨es, clock, (hW.block b hbl).trans hb, r⟩
  exact keys1_in n hn l Bm b nn L hr J Jx hY W hJ ((hW.cell (p := ⟨Bm, 0, none⟩) hBm).trans hm) hown' h0

theorem keys_any (mb : Option Nat) (w : World) :
    Calls Try.prog 46 #[.map mb] w fun e w' => e = .returned (.func (.func 50) #[] #[.pointer (some ⟨w.heap.size, 0, none⟩)]) ∧ w' = w.alloc (.cells #[.map mb] 55) := by
  go_enter Try.func46, Try.ntmps46
  go_wp2
  go_returns
  exact ⟨rfl, rfl⟩
end Go.Proofs.Ytnleeffajljodaa
end

section
/- slices.AppendSeq, Collect, Sorted over the numbers of a map. -/
namespace Go.Proofs.Ytnleeffajljodaa
open Go.RowKit Go.Maps
set_option linter.unusedVariables false

attribute [local go_sem] Oper.semAt_some
theorem info64 : (Try.prog.info? 25).map (fun i => (i.zero, i.size, i.bytes)) = some (some (.int .u64 0), 1, 8) := by kernel_rfl

/-- what AppendSeq keeps: the box and what is collected -/
structure Col (w W : World) (B : Nat) (pre : List Int) : Prop where
  box : ∃ v, Boxed W B 36 v ∧ W.ownsRow w.heap.size 25 1 v pre.length (cU pre)
  below : Below w.heap.size w W
theorem Col.from {w : World} {B : Nat} (hB : B = w.heap.size) : OwnFrom (w.heap.size + 1) (fun pre W => Col w W B pre) := by
  intro pre X Y row h hg hr
  refine ⟨?_, ?_⟩
  · have := holdsRow_own (β := List Int) w.heap.size B 36 25 1 List.length cU (fun _ _ => True) pre X Y row (by obtain ⟨v, h1, h2⟩ := h.box; exact ⟨v, h1, h2, trivial⟩) hg (fun r e => (hr r e).2)
    obtain ⟨v, h1, h2, _⟩ := this
    exact ⟨v, h1, h2⟩
  · exact h.below.grown hg h.below.size (fun k e => by have := (hr k e).1; omega)

set_option maxRecDepth 100000 in
set_option maxHeartbeats 2000000 in
theorem appSeq_in (Bm b nn : Nat) (L : List (Int × Value)) (hr : Ris L) (hL : L.length ≤ 100000) (w : World) (hBm : Bm < w.heap.size)
    (hm : w.cell? ⟨Bm, 0, none⟩ = some (.map (some b))) (hown : w.ownsMap Try.prog 25 selfR b nn (asMap L)) :
    CallsIn Fence.wide 4 Try.prog 51 #[.slice none 0 0, .func (.func 50) #[] #[.pointer (some ⟨Bm, 0, none⟩)]] w fun e w' =>
      ∃ (v : Value) (ss : List Int), e = .returned v ∧ ss.Perm (L.map (·.1)) ∧ w'.ownsRow w.heap.size 25 1 v ss.length (cU ss) ∧ Below w.heap.size w w' := by
  obtain ⟨i0, hi, hz0, hz1, hz2⟩ := info_parts info64
  refine callsIn_of_wp_marks Try.func51 rfl trivial ?_ rfl
  simp only [Try.ntmps51, List.size_toArray, List.length_cons, List.length_nil, Nat.reduceAdd, Nat.reduceSub, Array.replicate_succ, Array.replicate_zero, List.push_toArray, List.append_toArray, List.nil_append, List.cons_append]
  gi_wp2
  have hm1 : (w.alloc (.cells #[.slice none 0 0] 36)).cell? ⟨Bm, 0, none⟩ = some (.map (some b)) := (World.cell?_alloc_lt w _ _ hBm).trans hm
  have hown1 := hown.alloc (.cells #[.slice none 0 0] 36)
  have h0 : Col w (w.alloc (.cells #[.slice none 0 0] 36)) w.heap.size [] := ⟨⟨_, Boxed.new w _ _, World.ownsRow_nil _ _ _ _⟩, (Below.refl _ _).alloc (Nat.le_refl _) _⟩
  have hks := (keys_stops 3 (by decide) Bm b nn L hr (w.alloc (.cells #[.slice none 0 0] 36)) (by simp; omega) hm1 hown1)
  refine wpIn_rangeFunc_ownH (F := Fence.wide) (α := Int) rfl (by decide) (gf := 50) (lb := #[.pointer (some ⟨Bm, 0, none⟩)]) rfl trivial (enters_of Try.func50 (by kernel_rfl) rfl)
    (encs := fun x => #[.int .u64 x]) (Kp := KeepsWalks) hks (fun h k => h.trans k)
    (fun W l o o' _ hl ho hw => KeepsWalks.putObj _ hl hw) (Below.refl _ _) (fun _ => rfl)
    (fun pre W => Col w W w.heap.size pre)
    (fun j pre W => False)
    (by simpa using Col.from (w := w) rfl)
    (fun c pre X Y row hs hg hr => hs)
    h0
    (fun x a' W => a' = { tmps := #[.slice none 0 0, .func (.func 50) #[] #[.pointer (some ⟨Bm, 0, none⟩)], .pointer (some ⟨w.heap.size, 0, none⟩), undef, .slice none 0 0, .int .u64 x, .func (.func 50) #[] #[.pointer (some ⟨Bm, 0, none⟩)], .int .u64 x, undef, undef, undef, undef, undef], defers := [] })
    (fun x a' _ X Y row hs hg hr => hs)
    ?assign ?body ?done ?stop
  case assign =>
    intro l pre x W K hi hK
    gi_wp2
    exact hK _ _ (KeepsFrom.refl _ _) (KeepsWalks.refl _) hi rfl
  case body =>
    rintro l pre x a' W hl ⟨r, hrl⟩ hI rfl hlt
    obtain ⟨v, hbx, hrow⟩ := hI.box
    have hbl := hI.below
    have hc := hbx.cell
    have hsz := hbl.size
    gi_wp2_with (first
      | (gi_at_builtin; refine wpListIn_append_own _ rfl _ _ 36 rfl w.heap.size 25 i0 (.int .u64 0) 1 8 Try.underlying36 hi hz0 hz1 hz2 rfl (by decide) _ _ _ rfl (hrow.alloc _) ⟨W.heap.size, 0, none⟩ 1 1 [.int .u64 x] rfl rfl (one_new _ _ _) (by simp [Value.oneCell']) (by unfold maxLen; omega) (by omega) (by simp; omega) ?_; intro v' w3 hown' hg3 hnil3
         obtain ⟨g', cap', rfl⟩ := ownsRow_succ hown'
         obtain ⟨k1, k2, k3, k4, k5⟩ := Boxed.appended hbx (by decide) hrow hsz (Nat.le_refl _) hown' hg3
         have hc3 := k1.cell
         have hf3 := k1.frozen
         go_frame)
      | gi_in)
    refine ⟨k4.from _, ?_, ⟨⟨_, k2, by simpa [cU] using k3⟩, hbl.trans k5⟩⟩
    exact ⟨k4.size, fun k o hk ho => k4.same k o hk (by cases o <;> simp_all [Obj.isWalk, Obj.isCells])⟩
  case done =>
    rintro D xs W hD hxs hI hK
    obtain ⟨v, hbx, hrow⟩ := hI.box
    have hc := hbx.cell
    gi_wp2
    refine ⟨by simp, .inl ⟨_, _, rfl, run_takeDeferred hK, ?_⟩⟩
    have hI2 := (Col.from (w := w) rfl) xs W _ (some D) hI (grownBy_putObj' W D (.deferred none)) (fun r e => by cases e; exact ⟨by simpa using hD, _, hK, rfl⟩)
    refine ⟨_, results_tmp rfl _ _ _, v, xs, rfl, hxs, ?_, hI2.below⟩
    exact ownsRow_putObj hrow _ hK rfl
  case stop =>
    rintro D c pre W _ _ h _
    exact h.elim

theorem collect_any (Bm b nn : Nat) (L : List (Int × Value)) (hr : Ris L) (hL : L.length ≤ 100000) (w : World) (hBm : Bm < w.heap.size)
    (hm : w.cell? ⟨Bm, 0, none⟩ = some (.map (some b))) (hown : w.ownsMap Try.prog 25 selfR b nn (asMap L)) :
    Calls Try.prog 48 #[.func (.func 50) #[] #[.pointer (some ⟨Bm, 0, none⟩)]] w fun e w' =>
      ∃ (v : Value) (ss : List Int), e = .returned v ∧ ss.Perm (L.map (·.1)) ∧ w'.ownsRow w.heap.size 25 1 v ss.length (cU ss) ∧ Below w.heap.size w w' := by
  have ct := callsIn_wide.1 (appSeq_in Bm b nn L hr hL w hBm hm hown)
  have CT := Lib.hid ct
  clear ct hown hm
  go_enter Try.func48, Try.ntmps48
  go_wp2_with (go_at_call 51; refine CT.out.mono ?_; rintro e w' ⟨v, ss, rfl, h1, h2, h3⟩)
  go_returns
  exact ⟨v, ss, rfl, h1, h2, h3⟩
theorem rise_keys {L : List (Int × Value)} (hr : Ris L) {ss : List Int} (h : ss.Perm (L.map (·.1))) : rise ss = L.map (·.1) := by
  have tr : ∀ a b c : Int, decide (a ≤ b) = true → decide (b ≤ c) = true → decide (a ≤ c) = true := fun a b c h1 h2 => by simp only [decide_eq_true_eq] at *; omega
  have ttl : ∀ a b : Int, (decide (a ≤ b) || decide (b ≤ a)) = true := fun a b => by simp only [Bool.or_eq_true, decide_eq_true_eq]; omega
  refine List.Perm.eq_of_pairwise (le := fun a b => decide (a ≤ b) = true) (fun a b _ _ h1 h2 => ?_) (List.pairwise_mergeSort tr ttl ss) ?_ ((rise_perm ss).trans h)
  · simp only [decide_eq_true_eq] at h1 h2
    omega
  · refine List.pairwise_map.2 (hr.rise.imp ?_)
    intro p q hpq
    simp only [decide_eq_true_eq]
    omega
theorem sorted_any (Bm b nn : Nat) (L : List (Int × Value)) (hr : Ris L) (hL : L.length ≤ 100000) (w : World) (hBm : Bm < w.heap.size)
    (hm : w.cell? ⟨Bm, 0, none⟩ = some (.map (some b))) (hown : w.ownsMap Try.prog 25 selfR b nn (asMap L)) :
    Calls Try.prog 45 #[.func (.func 50) #[] #[.pointer (some ⟨Bm, 0, none⟩)]] w fun e w' =>
      ∃ v, e = .returned v ∧ w'.ownsRow w.heap.size 25 1 v L.length (cU (L.map (·.1))) ∧ Below w.heap.size w w' := by
  have CT := Lib.hid (collect_any Bm b nn L hr hL w hBm hm hown)
  clear hown hm
  go_enter Try.func45, Try.ntmps45
  go_wp2_with fail
  go_at_call 48
  refine CT.out.mono ?_
  rintro e w1 ⟨v, ss, rfl, h1, h2, h3⟩
  have hl : ss.length = L.length := by rw [h1.length_eq, List.length_map]
  rw [hl] at h2
  have H2 := Lib.hid h2
  have H3 := Lib.hid h3
  clear h2 h3
  go_wp2_with fail
  go_at_call 49
  refine (sort_any hl H2.out (by omega)).mono ?_
  rintro e w2 ⟨rfl, h4, h5⟩
  have H4 := Lib.hid h4
  have H5 := Lib.hid h5
  clear h4 h5
  go_wp2
  go_returns
  refine ⟨v, rfl, by rw [← rise_keys hr h1]; exact H4.out, H3.out.grown H5.out H3.out.size (fun k e => (H2.out.lt k e).1)⟩
end Go.Proofs.Ytnleeffajljodaa
end

section
/- The numbers in flight, rising; what was sent; is a letter for a node? -/
namespace Go.Proofs.Ytnleeffajljodaa
open Go.RowKit Go.Maps
set_option linter.unusedVariables false

def nums (es : List (Le × Pl)) : List Int := es.map (·.1.num)
theorem ents_nums (es : List (Le × Pl)) : (ents es).map (·.1) = nums es := by unfold ents nums; rw [List.map_map]; rfl

set_option maxRecDepth 100000 in
theorem rising_any {w : World} {S : Nat → Prop} {b mb : Nat} {es : List (Le × Pl)} {sent : Nat} (h : Nt w S b mb es sent) :
    Calls Try.prog 42 #[.pointer (some ⟨b, 0, none⟩)] w fun e w' => ∃ v, e = .returned v ∧ w'.ownsRow w.heap.size 25 1 v es.length (cU (nums es)) ∧ Below w.heap.size w w' := by
  have hc2 : w.cell? ⟨b, 2, none⟩ = some (.map (some mb)) := by simpa using h.blk.cell 2
  have hB : Below w.heap.size w (w.alloc (.cells #[.map (some mb)] 55)) := (Below.refl _ _).alloc (Nat.le_refl _) _
  have hn1 := h.go hB
  have hlen : (ents es).length = es.length := by simp [ents]
  have ct := sorted_any w.heap.size mb sent (ents es) hn1.ris (by have := h.ok.most; simp at this; simp [ents]; omega) (w.alloc (.cells #[.map (some mb)] 55)) (by simp) ((Whole.new w 55 #[.map (some mb)]).cell 0) hn1.map
  rw [hlen, ents_nums] at ct
  have CT := Lib.hid ct
  have HB := Lib.hid hB
  clear h hn1 ct hB hlen
  go_enter Try.func42, Try.ntmps42
  go_wp2_with fail
  go_at_call 46
  refine (keys_any _ _).mono ?_
  rintro e w1 ⟨rfl, hw⟩
  rw [hw]
  clear hw
  go_wp2_with fail
  go_at_call 45
  refine CT.out.mono ?_
  rintro e w2 ⟨v, rfl, hrow, hb2⟩
  have HROW := Lib.hid hrow
  have HB2 := Lib.hid hb2
  clear hrow hb2
  go_wp2
  go_ret
  have hsz : (w.alloc (.cells #[.map (some mb)] 55)).heap.size = w.heap.size + 1 := by simp
  exact ⟨v, rfl, ownRow_base HROW.out (fun g hg => by have := (HROW.out.lt g hg).1; omega), HB.out.trans (HB2.out.mono (by omega))⟩
theorem sent_any {w : World} {S : Nat → Prop} {b mb : Nat} {es : List (Le × Pl)} {sent : Nat} (h : Nt w S b mb es sent) :
    Calls Try.prog 25 #[.pointer (some ⟨b, 0, none⟩)] w fun e w' => e = .returned (.int .u64 sent) ∧ w' = w := by
  have hc1 : w.cell? ⟨b, 1, none⟩ = some (.int .u64 sent) := by simpa using h.blk.cell 1
  have H := Lib.hid h
  clear h
  go_enter Try.func25, Try.ntmps25
  go_wp2_with fail
  go_at_call 31
  refine (nobodys_any H.out).mono ?_
  rintro e w1 ⟨rfl, hw⟩
  rw [hw]
  clear hw
  go_wp2
  go_ret
  exact ⟨rfl, rfl⟩
set_option maxRecDepth 100000 in
theorem has_any (w : World) (node : Int) (x : Le) (k : Pl) :
    Calls Try.prog 38 #[.int .i64 node, val x k] w fun e w' => e = .returned (.bool (decide (x.to_ = node))) ∧ Below w.heap.size w w' := by
  simp only [val]
  have hb : Below w.heap.size w (w.alloc (.cells #[.int .u64 x.num, .int .u64 x.first, .int .i64 x.frm, .int .i64 x.to_, .slice k.1 x.body.length k.2] 32)) := (Below.refl _ _).alloc (Nat.le_refl _) _
  have HB := Lib.hid hb
  clear hb
  go_enter Try.func38, Try.ntmps38
  go_wp2
  go_ret
  exact ⟨rfl, HB.out⟩
end Go.Proofs.Ytnleeffajljodaa
end

section
/- The predicate that To hands to slices.DeleteFunc. -/
namespace Go.Proofs.Ytnleeffajljodaa
open Go.RowKit Go.Maps
set_option linter.unusedVariables false

/-- the node that a number's letter goes to -/
def toOf (es : List (Le × Pl)) (x : Int) : Int := match pick es x with | some p => p.1.to_ | none => 0
/-- what DeleteFunc is handed, in memory -/
structure Pd (W : World) (S : Nat → Prop) (b mb : Nat) (es : List (Le × Pl)) (sent : Nat) (ba bn : Nat) (node : Int) : Prop where
  net : Nt W S b mb es sent
  ask : Whole W ba 66 #[.func (.func 38) #[.int .i64 node] #[]]
  box : Whole W bn 23 #[.pointer (some ⟨b, 0, none⟩)]
theorem Pd.outs {w w' : World} {S T : Nat → Prop} {b mb : Nat} {es : List (Le × Pl)} {sent : Nat} {ba bn : Nat} {node : Int} (h : Pd w S b mb es sent ba bn node) (ho : Outs T w w') (hn : ∀ i, S i → ¬ T i) (h1 : ¬ T ba) (h2 : ¬ T bn) : Pd w' S b mb es sent ba bn node :=
  ⟨h.net.outs ho hn, h.ask.outs ho h1, h.box.outs ho h2⟩
theorem Pd.go {w w' : World} {S : Nat → Prop} {b mb : Nat} {es : List (Le × Pl)} {sent : Nat} {ba bn : Nat} {node : Int} (h : Pd w S b mb es sent ba bn node) (hb : Below w.heap.size w w') : Pd w' S b mb es sent ba bn node :=
  h.outs (T := fun _ => False) (Outs.of hb) (fun _ _ e => e) (fun e => e) (fun e => e)

theorem look_run {w : World} {S : Nat → Prop} {b mb : Nat} {es : List (Le × Pl)} {sent : Nat} (h : Nt w S b mb es sent) (x : Int) (hx : 0 ≤ x ∧ x ≤ 18446744073709551615) :
    (Instr.lookup 55 (.map (some mb)) (.int .u64 x) false).run Try.prog w = .ok (hitV es x) w := by
  obtain ⟨v, ps, hrun, hv⟩ := h.map.lookup keyed64 Try.underlying55 (zero_letter w) (zd := .held zeroL) (zp := []) rfl (key_u64 hx)
  rw [hrun, look_at hv]

set_option maxHeartbeats 2000000 in
set_option maxRecDepth 100000 in
theorem pred_any {w : World} {S : Nat → Prop} {b mb : Nat} {es : List (Le × Pl)} {sent : Nat} {ba bn : Nat} {node : Int} (h : Pd w S b mb es sent ba bn node) (x : Int) (hx : 0 ≤ x ∧ x ≤ 18446744073709551615) {p : Le × Pl} (hp : pick es x = some p) :
    Calls Try.prog 44 #[.int .u64 x, .pointer (some ⟨ba, 0, none⟩), .pointer (some ⟨bn, 0, none⟩)] w fun e w' => e = .returned (.bool (!decide (toOf es x = node))) ∧ Below w.heap.size w w' := by
  obtain ⟨hV, hE, hmem, -⟩ := hit_some hp
  have hT : toOf es x = p.1.to_ := by unfold toOf; rw [hp]
  have c1 : w.cell? ⟨ba, 0, none⟩ = some (.func (.func 38) #[.int .i64 node] #[]) := by simpa using h.ask.cell 0
  have c2 : w.cell? ⟨bn, 0, none⟩ = some (.pointer (some ⟨b, 0, none⟩)) := by simpa using h.box.cell 0
  have c3 : w.cell? ⟨b, 2, none⟩ = some (.map (some mb)) := by simpa using h.net.blk.cell 2
  have hl := fun n => look_run (h.net.drewN n) x hx
  rw [hV] at hl
  simp only [val] at hl
  have hh := has_any w.drew node p.1 p.2
  simp only [val] at hh
  have HH := Lib.hid hh
  clear h hh
  go_enter Try.func44, Try.ntmps44
  go_wp2
  have hl2 : (Instr.lookup 55 (.map (some mb)) (.int .u64 x) false).run Try.prog w.drew = .ok (.agg #[.int .u64 p.1.num, .int .u64 p.1.first, .int .i64 p.1.frm, .int .i64 p.1.to_, .slice p.2.1 p.1.body.length p.2.2]) w.drew := hl 1
  clear hl
  go_still_tail 7, (by kernel_rfl)
  change wpList _ _ _ _ _ w.drew
  clear hl2
  go_wp2_with fail
  go_at_call 38
  refine HH.out.mono ?_
  rintro e w1 ⟨rfl, hb⟩
  have HB := Lib.hid hb
  clear hb
  go_wp2
  go_ret
  rw [hT]
  exact ⟨rfl, (show Below w.heap.size w w.drew from bDrewN (Below.refl _ _) 1).trans HB.out⟩
end Go.Proofs.Ytnleeffajljodaa
end
