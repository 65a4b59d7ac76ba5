/- Delivering a letter. -/
import Derived.Test.YtkoalpbognpphaaNLose
namespace Go.Proofs.Ytkoalpbognpphaa
open Go.RowKit Go.Maps
set_option linter.unusedVariables false

set_option maxHeartbeats 4000000 in
set_option maxRecDepth 100000 in
theorem deliverNo_any {w : World} {S : Nat → Prop} {b mb : Nat} {es : List (Le × Pl)} {sent : Nat} (h : Nt w S b mb es sent) (x : Int) (hx : 0 ≤ x ∧ x ≤ 18446744073709551615) (hp : pick es x = none) :
    Calls Try.prog 11 #[.pointer (some ⟨b, 0, none⟩), .int .u64 x] w fun e w' => e = .returned (.tuple #[zeroL, .int .i64 6]) ∧ Below w.heap.size w w' := by
  have H := Lib.hid (h.go (newL_below w))
  have HB := Lib.hid (newL_below w)
  have HWB := Lib.hid (newL_whole w)
  have HSZ := Lib.hid (newL_size w)
  clear h
  go_enter Try.func11, Try.ntmps11
  go_upto_region 1 with fail
  change Code.wp _ _ _ _ (newL w)
  generalize newL w = w0 at H HB HWB HSZ ⊢
  have ct := find_any H.out x hx
  rw [(hit_none hp).1, (hit_none hp).2] at ct
  simp only [zeroL] at ct
  have CT := Lib.hid ct
  clear ct
  go_wp2_with fail
  go_at_call 35
  refine CT.out.mono ?_
  rintro e w1 ⟨rfl, hb⟩
  have hw1 := HWB.out.below hb HWB.out.lt
  have HB1 := Lib.hid (HB.out.trans (hb.mono (by have := HSZ.out; omega)))
  have HW1 := Lib.hid hw1
  clear hb hw1
  go_upto_region 3 with fail
  have hw2 := HW1.out.alloc (.cells #[.int .u64 0, .int .u64 0, .int .i64 0, .int .i64 0, .slice none 0 0] 32)
  have hb2 := HB1.out.alloc HB1.out.size (.cells #[.int .u64 0, .int .u64 0, .int .i64 0, .int .i64 0, .slice none 0 0] 32)
  generalize w1.alloc (.cells #[.int .u64 0, .int .u64 0, .int .i64 0, .int .i64 0, .slice none 0 0] 32) = w2 at hw2 hb2 ⊢
  obtain ⟨c0, c1, c2, c3, c4⟩ := cells5 hw2
  have f0 := hw2.frozen
  have HW2 := Lib.hid hw2
  have HB2 := Lib.hid hb2
  clear hw2 hb2
  go_wp2
  have hx := put5_whole HW2.out (.int .u64 0) (.int .u64 0) (.int .i64 0) (.int .i64 0) (.slice none 0 0)
  have hbx : Below w.heap.size w (put5 w2 w.heap.size (.int .u64 0) (.int .u64 0) (.int .i64 0) (.int .i64 0) (.slice none 0 0)) := put5_below HB2.out (Nat.le_refl _) _ _ _ _ _
  change bodyPost _ _ _ _ _ (put5 w2 w.heap.size (.int .u64 0) (.int .u64 0) (.int .i64 0) (.int .i64 0) (.slice none 0 0))
  generalize put5 w2 w.heap.size (.int .u64 0) (.int .u64 0) (.int .i64 0) (.int .i64 0) (.slice none 0 0) = W at hx hbx ⊢
  clear c0 c1 c2 c3 c4 f0
  obtain ⟨c0, c1, c2, c3, c4⟩ := cells5 hx
  refine bodyPost_ret (by simp [results, Try.results11, go_sem, c0, c1, c2, c3, c4]; try rfl) rfl ?_
  exact ⟨rfl, hbx⟩

set_option maxHeartbeats 4000000 in
set_option maxRecDepth 100000 in
theorem deliver_any {w : World} {S : Nat → Prop} {b mb : Nat} {es : List (Le × Pl)} {sent : Nat} (h : Nt w S b mb es sent) (x : Int) (hx : 0 ≤ x ∧ x ≤ 18446744073709551615) {p : Le × Pl} (hp : pick es x = some p) :
    Calls Try.prog 11 #[.pointer (some ⟨b, 0, none⟩), .int .u64 x] w fun e w' => ∃ k : Pl, e = .returned (.tuple #[val p.1 k, .int .i64 0]) ∧ Nt w' S b mb (drop es x) sent ∧ Outs (fun i => i = b ∨ i = mb) w w' ∧ Bd w' (fun i => w.heap.size ≤ i) p.1.body k := by
  obtain ⟨hV, hE, hmem, -⟩ := hit_some hp
  have hblt := h.blk.lt
  have hmlt := h.map.lt
  have hlen := h.ok.len p.1 (List.mem_map_of_mem hmem)
  have HLT := Lib.hid h.lt
  have H := Lib.hid (h.go (newL_below w))
  have HB := Lib.hid (newL_below w)
  have HWB := Lib.hid (newL_whole w)
  have HSZ := Lib.hid (newL_size w)
  have HLEN := Lib.hid hlen
  clear h hlen
  go_enter Try.func11, Try.ntmps11
  go_upto_region 1 with fail
  change Code.wp _ _ _ _ (newL w)
  generalize newL w = w0 at H HB HWB HSZ ⊢
  have ct := find_any H.out x hx
  rw [hV, hE] at ct
  simp only [val] at ct
  have CT := Lib.hid ct
  clear ct
  go_wp2_with fail
  go_at_call 35
  refine CT.out.mono ?_
  rintro e w1 ⟨rfl, hb⟩
  have hw1 := HWB.out.below hb HWB.out.lt
  have HB1 := Lib.hid (HB.out.trans (hb.mono (by have := HSZ.out; omega)))
  have HN1 := Lib.hid (H.out.go hb)
  have HW1 := Lib.hid hw1
  clear hb hw1
  go_upto_region 4 with fail
  have hw2 := HW1.out.alloc (.cells #[.int .u64 p.1.num, .int .u64 p.1.first, .int .i64 p.1.frm, .int .i64 p.1.to_, .slice p.2.1 p.1.body.length p.2.2] 32)
  have hv2 := Whole.new w1 32 #[.int .u64 p.1.num, .int .u64 p.1.first, .int .i64 p.1.frm, .int .i64 p.1.to_, .slice p.2.1 p.1.body.length p.2.2]
  have hn2 := HN1.out.go ((Below.refl _ _).alloc (Nat.le_refl _) (.cells #[.int .u64 p.1.num, .int .u64 p.1.first, .int .i64 p.1.frm, .int .i64 p.1.to_, .slice p.2.1 p.1.body.length p.2.2] 32))
  have hb2 := HB1.out.alloc HB1.out.size (.cells #[.int .u64 p.1.num, .int .u64 p.1.first, .int .i64 p.1.frm, .int .i64 p.1.to_, .slice p.2.1 p.1.body.length p.2.2] 32)
  have hs1 := HW1.out.lt
  have hs2 : (w1.alloc (.cells #[.int .u64 p.1.num, .int .u64 p.1.first, .int .i64 p.1.frm, .int .i64 p.1.to_, .slice p.2.1 p.1.body.length p.2.2] 32)).heap.size = w1.heap.size + 1 := by simp
  generalize w1.alloc (.cells #[.int .u64 p.1.num, .int .u64 p.1.first, .int .i64 p.1.frm, .int .i64 p.1.to_, .slice p.2.1 p.1.body.length p.2.2] 32) = w2 at hw2 hv2 hn2 hb2 hs2 ⊢
  have hm2 := hn2.map
  have hc2 : w2.cell? ⟨b, 2, none⟩ = some (.map (some mb)) := by simpa using hn2.blk.cell 2
  have HB2 := Lib.hid hb2
  have HN2 := Lib.hid hn2
  have HW2 := Lib.hid hw2
  have HV2 := Lib.hid hv2
  have HS2 := Lib.hid hs2
  clear hb2 hn2 hw2 hv2 hs2
  go_upto_region 5 with (at_delete; refine wpList_delete_own _ rfl _ _ 55 25 rfl 32 keyed64 Try.underlying55 selfR mb sent (asMap (ents es)) rfl hm2 _ _ rfl (key_u64 hx) ?_; intro w3 hm3 ht3; go_frame)
  obtain ⟨hn3, ho3⟩ := HN2.out.dropped hm3 ht3
  clear hm2 hc2 hm3 ht3
  have hw3 := HW2.out.outs ho3 (by show ¬ w.heap.size = mb; omega)
  have hv3 := HV2.out.outs ho3 (by show ¬ w1.heap.size = mb; omega)
  have hbd3 := (HN2.out.bd p hmem).outs ho3 (fun i hi => hi.2.2)
  have ct := copied_any hbd3.rds HLEN.out
  simp only [val] at ct
  obtain ⟨d0, d1, d2, d3, d4⟩ := cells5 hv3
  have CT2 := Lib.hid ct
  have HN3 := Lib.hid hn3
  have HO3 := Lib.hid ho3
  have HW3 := Lib.hid hw3
  clear ct hn3 ho3 hw3 hv3 hbd3
  go_wp2_with fail
  go_at_call 36
  refine CT2.out.mono ?_
  rintro e w4 ⟨k, rfl, hb4, hbd4⟩
  have hw4 := HW3.out.below hb4 HW3.out.lt
  obtain ⟨c0, c1, c2, c3, c4⟩ := cells5 hw4
  have f0 := hw4.frozen
  have HW4 := Lib.hid hw4
  have HB4 := Lib.hid hb4
  have HBD4 := Lib.hid hbd4
  have HN4 := Lib.hid (HN3.out.go hb4)
  clear hw4 hb4 hbd4 d0 d1 d2 d3 d4
  go_wp2
  have hx := put5_whole HW4.out (.int .u64 p.1.num) (.int .u64 p.1.first) (.int .i64 p.1.frm) (.int .i64 p.1.to_) (.slice k.1 p.1.body.length k.2)
  have hox := put5_outs w4 w.heap.size (.int .u64 p.1.num) (.int .u64 p.1.first) (.int .i64 p.1.frm) (.int .i64 p.1.to_) (.slice k.1 p.1.body.length k.2)
  change bodyPost _ _ _ _ _ (put5 w4 w.heap.size (.int .u64 p.1.num) (.int .u64 p.1.first) (.int .i64 p.1.frm) (.int .i64 p.1.to_) (.slice k.1 p.1.body.length k.2))
  generalize put5 w4 w.heap.size (.int .u64 p.1.num) (.int .u64 p.1.first) (.int .i64 p.1.frm) (.int .i64 p.1.to_) (.slice k.1 p.1.body.length k.2) = W at hx hox ⊢
  clear c0 c1 c2 c3 c4 f0
  obtain ⟨c0, c1, c2, c3, c4⟩ := cells5 hx
  refine bodyPost_ret (by simp [results, Try.results11, go_sem, c0, c1, c2, c3, c4]; try rfl) rfl ?_
  have hz2 := HB2.out.size
  have hz3 := HO3.out.size
  have hs2 := HS2.out
  have hO3 : Outs (fun i => i = b ∨ i = mb) w w3 := (Outs.of HB2.out).same (HO3.out.mono (fun i e => .inr e))
  have hO4 : Outs (fun i => i = b ∨ i = mb) w w4 := hO3.then HB4.out hO3.size
  refine ⟨k, rfl, HN4.out.outs hox (fun i hi e => by have := HLT.out i hi; omega), hO4.trans hox (fun i e => .inr (by omega)), ?_⟩
  exact (HBD4.out.outs hox (fun i hi e => by omega)).mono (fun i hi => by omega)
end Go.Proofs.Ytkoalpbognpphaa
