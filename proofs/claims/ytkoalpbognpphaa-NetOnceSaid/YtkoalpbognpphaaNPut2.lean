/- Putting a letter in flight. -/
import Derived.Test.YtkoalpbognpphaaNPut
import Derived.StillTailTactics
namespace Go.Proofs.Ytkoalpbognpphaa
open Go.RowKit Go.Maps
set_option linter.unusedVariables false

theorem ents_snoc (es : List (Le × Pl)) (y : Le) (k : Pl) : ents (es ++ [(y, k)]) = ents es ++ [(y.num, val y k)] := by simp [ents]
theorem Okf.snoc {sent : Nat} {fl : List Le} (h : Okf sent fl) {y : Le} (hn : y.num = (sent + 1 : Nat)) (hf : 1 ≤ y.first ∧ y.first ≤ y.num) (h1 : 0 ≤ y.frm ∧ y.frm ≤ 63) (h2 : 0 ≤ y.to_ ∧ y.to_ ≤ 63) (hl : y.body.length ≤ 16384) (hs : sent < 4000) (hm : fl.length < 4000) :
    Okf (sent + 1) (fl ++ [y]) := by
  have mem : ∀ {P : Le → Prop}, (∀ x ∈ fl, P x) → P y → ∀ x ∈ fl ++ [y], P x := fun h1 h2 x hx => by
    rcases List.mem_append.1 hx with hx | hx
    · exact h1 x hx
    · rw [List.mem_singleton.1 hx]; exact h2
  refine ⟨List.pairwise_append.2 ⟨h.rise, List.pairwise_singleton _ _, fun x hx z hz => ?_⟩, mem (fun x hx => ?_) ?_, mem h.first hf, mem h.frm h1, mem h.to_ h2, mem h.len hl, by simp; omega, by omega⟩
  · rw [List.mem_singleton.1 hz]
    have := h.num x hx
    omega
  · have := h.num x hx; omega
  · omega

set_option maxHeartbeats 4000000 in
set_option maxRecDepth 100000 in
theorem put_any {w : World} {S T : Nat → Prop} {b mb : Nat} {es : List (Le × Pl)} {sent : Nat} (h : Nt w S b mb es sent) (x y : Le) (k : Pl) (hy : y = { x with num := (sent + 1 : Nat) }) (hf : 1 ≤ y.first ∧ y.first ≤ y.num) (h1 : 0 ≤ y.frm ∧ y.frm ≤ 63) (h2 : 0 ≤ y.to_ ∧ y.to_ ≤ 63) (hl : y.body.length ≤ 16384)
    (hs : sent < 4000) (hm : es.length < 4000) (hb : Bd w (fun i => T i ∧ i ≠ b ∧ i ≠ mb) y.body k) (hT : ∀ i, T i → i < w.heap.size) :
    Calls Try.prog 33 #[.pointer (some ⟨b, 0, none⟩), val x k] w fun e w' => e = .returned (.tuple #[.int .u64 (sent + 1 : Nat), .int .i64 0]) ∧ Nt w' (fun i => S i ∨ T i) b mb (es ++ [(y, k)]) (sent + 1) ∧ Outs (fun i => i = b ∨ i = mb) w w' := by
  simp only [val]
  have hne : b ≠ mb := h.blk.ne_map h.map
  have hblt := h.blk.lt
  have hmlt := h.map.lt
  have hok := h.ok.snoc (y := y) (by rw [hy]) hf h1 h2 hl hs (by simpa using hm)
  have hlen : (es.map (·.1)).length = es.length := by simp
  have hmost := h.ok.most
  -- behind the box
  have hw1 := Whole.new w 32 #[.int .u64 x.num, .int .u64 x.first, .int .i64 x.frm, .int .i64 x.to_, .slice k.1 x.body.length k.2]
  have hB1 : Below w.heap.size w (w.alloc (.cells #[.int .u64 x.num, .int .u64 x.first, .int .i64 x.frm, .int .i64 x.to_, .slice k.1 x.body.length k.2] 32)) := (Below.refl _ _).alloc (Nat.le_refl _) _
  have hn1 := h.go hB1
  have ho1 : Outs (fun i => i = b ∨ i = mb) w (w.alloc (.cells #[.int .u64 x.num, .int .u64 x.first, .int .i64 x.frm, .int .i64 x.to_, .slice k.1 x.body.length k.2] 32)) := Outs.of hB1
  have hbd1 := hb.outs (T := fun _ => False) (Outs.of hB1) (fun _ _ e => e)
  have HW1 := Lib.hid hw1
  have HN1 := Lib.hid hn1
  have HO1 := Lib.hid ho1
  have HBD1 := Lib.hid hbd1
  have HBS := Lib.hid h.bd
  have HLT := Lib.hid h.lt
  have HBN := Lib.hid hb
  have HOK := Lib.hid hok
  have HY := Lib.hid hy
  clear h hw1 hn1 ho1 hbd1 hok hb hy hB1 hf h1 h2 hl
  go_enter Try.func33, Try.ntmps33
  go_upto_region 1 with fail
  generalize w.alloc (.cells #[.int .u64 x.num, .int .u64 x.first, .int .i64 x.frm, .int .i64 x.to_, .slice k.1 x.body.length k.2] 32) = w1 at HW1 HN1 HO1 HBD1 ⊢
  have hc2 : w1.cell? ⟨b, 2, none⟩ = some (.map (some mb)) := by simpa using HN1.out.blk.cell 2
  have hc1 : w1.cell? ⟨b, 1, none⟩ = some (.int .u64 sent) := by simpa using HN1.out.blk.cell 1
  have hf1 := HN1.out.blk.frozen 1
  have hmap := HN1.out.map
  have hsz : (Maps.size (asMap (ents es)) : Int) < 4096 := by rw [size_map]; simp [ents]; omega
  have hszd : decide ((4096 : Int) ≤ (Maps.size (asMap (ents es)) : Int)) = false := decide_eq_false (by omega)
  go_upto_region 4 with (at_len; refine wpList_len_own _ rfl _ 55 rfl 25 32 Try.underlying55 selfR mb sent (asMap (ents es)) rfl hmap ?_; go_frame)
  -- the number is given
  have hbox := HW1.out.lt
  have hg0 : w.heap.size ≠ b := by omega
  have hg1 : w.heap.size ≠ mb := by omega
  have hw2 : Whole (w1.setCell ⟨b, 1, none⟩ (.int .u64 ((sent : Int) + 1))) w.heap.size 32 _ := HW1.out.far (by show w.heap.size ≠ b; exact hg0) (.int .u64 ((sent : Int) + 1))
  have hk2 : Whole (w1.setCell ⟨b, 1, none⟩ (.int .u64 ((sent : Int) + 1))) b 57 #[.pointer (some ⟨b, 0, none⟩), .int .u64 ((sent : Int) + 1), .map (some mb)] := HN1.out.blk.put 1 _
  have hm2 : (w1.setCell ⟨b, 1, none⟩ (.int .u64 ((sent : Int) + 1))).ownsMap Try.prog 25 selfR mb sent (asMap (ents es)) := hmap.setCell (fun e => hne e.symm) _
  have ho2 : Outs (fun i => i = b) w1 (w1.setCell ⟨b, 1, none⟩ (.int .u64 ((sent : Int) + 1))) := outs_put _ _ _ _
  generalize w1.setCell ⟨b, 1, none⟩ (.int .u64 ((sent : Int) + 1)) = w2 at hw2 hk2 hm2 ho2 ⊢
  clear hc1 hc2 hf1 hmap
  have hc1 : w2.cell? ⟨b, 1, none⟩ = some (.int .u64 ((sent : Int) + 1)) := by simpa using hk2.cell 1
  have hf0 := hw2.frozen 0
  obtain ⟨c0, c1, c2, c3, c4⟩ := cells5 hw2
  have HW2 := Lib.hid hw2
  have HK2 := Lib.hid hk2
  have HM2 := Lib.hid hm2
  have HO2 := Lib.hid ho2
  clear hw2 hk2 hm2 ho2
  go_upto_region 5 with fail
  have hw3 : Whole (w2.setCell ⟨w.heap.size, 0, none⟩ (.int .u64 ((sent : Int) + 1))) w.heap.size 32 #[.int .u64 ((sent : Int) + 1), .int .u64 x.first, .int .i64 x.frm, .int .i64 x.to_, .slice k.1 x.body.length k.2] := HW2.out.put 0 _
  have hk3 : Whole (w2.setCell ⟨w.heap.size, 0, none⟩ (.int .u64 ((sent : Int) + 1))) b 57 _ := HK2.out.far (by show b ≠ w.heap.size; exact fun e => hg0 e.symm) (.int .u64 ((sent : Int) + 1))
  have hm3 : (w2.setCell ⟨w.heap.size, 0, none⟩ (.int .u64 ((sent : Int) + 1))).ownsMap Try.prog 25 selfR mb sent (asMap (ents es)) := HM2.out.setCell (by show mb ≠ w.heap.size; exact fun e => hg1 e.symm) _
  have ho3 : Outs (fun i => i = w.heap.size) w2 (w2.setCell ⟨w.heap.size, 0, none⟩ (.int .u64 ((sent : Int) + 1))) := outs_put _ _ _ _
  generalize w2.setCell ⟨w.heap.size, 0, none⟩ (.int .u64 ((sent : Int) + 1)) = w3 at hw3 hk3 hm3 ho3 ⊢
  clear hc1 hf0 c0 c1 c2 c3 c4
  have hvy : val y k = .agg #[.int .u64 ((sent : Int) + 1), .int .u64 x.first, .int .i64 x.frm, .int .i64 x.to_, .slice k.1 x.body.length k.2] := by rw [HY.out]; rfl
  obtain ⟨w4, hrun, hm4, hturn⟩ := World.ownsMap.store (w := w3.drew) hm3 keyed64 Try.underlying55 (by unfold maxLen; omega) (key_u64 (a := (sent : Int) + 1) (by omega)) (val := val y k) (d := .held (val y k)) (ps := []) rfl
  rw [hvy] at hrun
  have hput : (asMap (ents es)).put (.int .u64 ((sent : Int) + 1)) (.held (val y k)) = asMap (ents (es ++ [(y, k)])) := by
    rw [put_map, ents_snoc, HY.out]
    · rfl
    · intro p hp
      obtain ⟨q, hq, rfl⟩ := List.mem_map.1 hp
      have := (HN1.out.ok.num q.1 (List.mem_map_of_mem hq)).2
      show q.1.num < _
      omega
  rw [hput] at hm4
  have ho4 : Outs (fun i => i = mb) w3.drew w4 := turned_outs (H := Value) hturn rfl
  have hw4 := (show Whole w3.drew w.heap.size 32 _ from hw3).outs ho4 (by show ¬ w.heap.size = mb; exact hg1)
  have hk4 := (show Whole w3.drew b 57 _ from hk3).outs ho4 (by show ¬ b = mb; exact hne)
  have hc2 : w3.cell? ⟨b, 2, none⟩ = some (.map (some mb)) := by simpa using hk3.cell 2
  obtain ⟨c0, c1, c2, c3, c4⟩ := cells5 hw3
  obtain ⟨d0, d1, d2, d3, d4⟩ := cells5 hw4
  have HO3 := Lib.hid ho3
  have HO4 := Lib.hid ho4
  have HK4 := Lib.hid hk4
  have HM4 := Lib.hid hm4
  clear hw3 hk3 hm3 ho3 ho4 hk4 hm4 hw4 hput hvy hturn
  go_still_tail 7, (by kernel_rfl)
  change wpList _ _ _ _ _ w3.drew
  go_wp2
  go_returns
  have hO : Outs (fun i => i = b ∨ i = mb) w w4 := by
    refine HO1.out.trans ((HO2.out.mono (S' := fun i => i = b ∨ i = mb ∨ i = w.heap.size) (fun i e => .inl e)).same ((HO3.out.mono (fun i e => .inr (.inr e))).same ((Outs.refl _ w3).drew.same (HO4.out.mono (fun i e => .inr (.inl e)))))) (fun i hi => ?_)
    rcases hi with e | e | e
    · exact .inl (.inl e)
    · exact .inl (.inr e)
    · exact .inr (by omega)
  refine ⟨rfl, ⟨by simpa using HK4.out, HM4.out, .inl HN1.out.sb, .inl HN1.out.sm, fun p hp => ?_, by simpa using HOK.out, fun i hi => by rcases hi with hi | hi; exact Nat.lt_of_lt_of_le (HLT.out i hi) hO.size; exact Nat.lt_of_lt_of_le (hT i hi) hO.size⟩, hO⟩
  rcases List.mem_append.1 hp with hp | hp
  · exact ((HBS.out p hp).outs hO (fun i hi e => by rcases e with e | e; exact hi.2.1 e; exact hi.2.2 e)).mono (fun i hi => ⟨.inl hi.1, hi.2⟩)
  · obtain rfl := List.mem_singleton.1 hp
    exact (HBN.out.outs hO (fun i hi e => by rcases e with e | e; exact hi.2.1 e; exact hi.2.2 e)).mono (fun i hi => ⟨.inr hi.1, hi.2⟩)
end Go.Proofs.Ytkoalpbognpphaa
