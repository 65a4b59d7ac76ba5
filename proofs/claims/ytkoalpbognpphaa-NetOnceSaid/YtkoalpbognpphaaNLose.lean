/- Losing, delivering, doubling a letter. -/
import Derived.Test.YtkoalpbognpphaaNSend
namespace Go.Proofs.Ytkoalpbognpphaa
open Go.RowKit Go.Maps
set_option linter.unusedVariables false

/-- all but that number -/
def drop (es : List (Le × Pl)) (x : Int) : List (Le × Pl) := es.filter fun p => !decide (p.1.num = x)
theorem ents_drop (es : List (Le × Pl)) (x : Int) : (ents es).filter (fun p => !decide (p.1 = x)) = ents (drop es x) := by
  unfold ents drop
  rw [List.filter_map]
  rfl
theorem Okf.filter {sent : Nat} {fl : List Le} (h : Okf sent fl) (f : Le → Bool) : Okf sent (fl.filter f) :=
  ⟨h.rise.filter f, fun x hx => h.num x (List.mem_filter.1 hx).1, fun x hx => h.first x (List.mem_filter.1 hx).1, fun x hx => h.frm x (List.mem_filter.1 hx).1, fun x hx => h.to_ x (List.mem_filter.1 hx).1, fun x hx => h.len x (List.mem_filter.1 hx).1, Nat.le_trans (List.length_filter_le ..) h.most, h.few⟩
theorem drop_map (es : List (Le × Pl)) (x : Int) : (drop es x).map (·.1) = (es.map (·.1)).filter (fun y => !decide (y.num = x)) := by
  unfold drop
  rw [List.filter_map]
  rfl
/-- behind 'delete' -/
theorem Nt.dropped {w w' : World} {S : Nat → Prop} {b mb : Nat} {es : List (Le × Pl)} {sent : Nat} (h : Nt w S b mb es sent) {x : Int} (hm : w'.ownsMap Try.prog 25 selfR mb sent ((asMap (ents es)).del (.int .u64 x))) (ht : w.mapTurned w' mb) :
    Nt w' S b mb (drop es x) sent ∧ Outs (fun i => i = mb) w w' := by
  have ho : Outs (fun i => i = mb) w w' := turned_outs (H := Value) ht rfl
  rw [del_map, ents_drop] at hm
  exact ⟨⟨h.blk.outs ho (h.blk.ne_map h.map), hm, h.sb, h.sm, fun p hp => (h.bd p (List.mem_filter.1 hp).1).outs ho (fun i hi => hi.2.2), by rw [drop_map]; exact h.ok.filter _, fun i hi => Nat.lt_of_lt_of_le (h.lt i hi) ho.size⟩, ho⟩
theorem hit_none {es : List (Le × Pl)} {x : Int} (h : pick es x = none) : hitV es x = zeroL ∧ hitE es x = 6 := ⟨by unfold hitV; rw [h], by unfold hitE; rw [h]⟩
theorem hit_some {es : List (Le × Pl)} {x : Int} {p : Le × Pl} (h : pick es x = some p) : hitV es x = val p.1 p.2 ∧ hitE es x = 0 ∧ p ∈ es ∧ p.1.num = x :=
  ⟨by unfold hitV; rw [h], by unfold hitE; rw [h], List.mem_of_find?_eq_some h, of_decide_eq_true (List.find?_some (p := fun q : Le × Pl => decide (q.1.num = x)) h)⟩

set_option maxHeartbeats 4000000 in
set_option maxRecDepth 100000 in
theorem loseNo_any {w : World} {S : Nat → Prop} {b mb : Nat} {es : List (Le × Pl)} {sent : Nat} (h : Nt w S b mb es sent) (x : Int) (hx : 0 ≤ x ∧ x ≤ 18446744073709551615) (hp : pick es x = none) :
    Calls Try.prog 14 #[.pointer (some ⟨b, 0, none⟩), .int .u64 x] w fun e w' => e = .returned (.int .i64 6) ∧ Below w.heap.size w w' := by
  have ct := find_any h x hx
  rw [(hit_none hp).1, (hit_none hp).2] at ct
  simp only [zeroL] at ct
  have CT := Lib.hid ct
  clear ct h
  go_enter Try.func14, Try.ntmps14
  go_wp2_with fail
  go_at_call 35
  refine CT.out.mono ?_
  rintro e w1 ⟨rfl, hb⟩
  have HB := Lib.hid hb
  clear hb
  go_wp2
  go_ret
  exact ⟨rfl, HB.out.alloc HB.out.size _⟩

set_option maxHeartbeats 4000000 in
set_option maxRecDepth 100000 in
theorem lose_any {w : World} {S : Nat → Prop} {b mb : Nat} {es : List (Le × Pl)} {sent : Nat} (h : Nt w S b mb es sent) (x : Int) (hx : 0 ≤ x ∧ x ≤ 18446744073709551615) {p : Le × Pl} (hp : pick es x = some p) :
    Calls Try.prog 14 #[.pointer (some ⟨b, 0, none⟩), .int .u64 x] w fun e w' => e = .returned (.int .i64 0) ∧ Nt w' S b mb (drop es x) sent ∧ Outs (fun i => i = b ∨ i = mb) w w' := by
  have ct := find_any h x hx
  rw [(hit_some hp).1, (hit_some hp).2.1] at ct
  simp only [val] at ct
  have CT := Lib.hid ct
  have H := Lib.hid h
  clear ct h
  go_enter Try.func14, Try.ntmps14
  go_wp2_with fail
  go_at_call 35
  refine CT.out.mono ?_
  rintro e w1 ⟨rfl, hb⟩
  have HB := Lib.hid hb
  clear hb
  go_upto_region 4 with fail
  have hb2 := HB.out.alloc HB.out.size (.cells #[.int .u64 p.1.num, .int .u64 p.1.first, .int .i64 p.1.frm, .int .i64 p.1.to_, .slice p.2.1 p.1.body.length p.2.2] 32)
  generalize w1.alloc (.cells #[.int .u64 p.1.num, .int .u64 p.1.first, .int .i64 p.1.frm, .int .i64 p.1.to_, .slice p.2.1 p.1.body.length p.2.2] 32) = w2 at hb2 ⊢
  have hn2 := H.out.go hb2
  have hm2 := hn2.map
  have hc2 : w2.cell? ⟨b, 2, none⟩ = some (.map (some mb)) := by simpa using hn2.blk.cell 2
  have HB2 := Lib.hid hb2
  have HN2 := Lib.hid hn2
  clear hb2 hn2
  go_wp2_with (at_delete; refine wpList_delete_own _ rfl _ _ 55 25 rfl 32 keyed64 Try.underlying55 selfR mb sent (asMap (ents es)) rfl hm2 _ _ rfl (key_u64 hx) ?_; intro w3 hm3 ht3; go_frame)
  go_ret
  obtain ⟨h1, h2⟩ := HN2.out.dropped hm3 ht3
  exact ⟨rfl, h1, (Outs.of HB2.out).same (h2.mono (fun i e => .inr e))⟩

set_option maxHeartbeats 4000000 in
set_option maxRecDepth 100000 in
theorem doubleNo_any {w : World} {S : Nat → Prop} {b mb : Nat} {es : List (Le × Pl)} {sent : Nat} (h : Nt w S b mb es sent) (x : Int) (hx : 0 ≤ x ∧ x ≤ 18446744073709551615) (hp : pick es x = none) :
    Calls Try.prog 10 #[.pointer (some ⟨b, 0, none⟩), .int .u64 x] w fun e w' => e = .returned (.tuple #[.int .u64 0, .int .i64 6]) ∧ Below w.heap.size w w' := by
  have ct := find_any h x hx
  rw [(hit_none hp).1, (hit_none hp).2] at ct
  simp only [zeroL] at ct
  have CT := Lib.hid ct
  clear ct h
  go_enter Try.func10, Try.ntmps10
  go_wp2_with fail
  go_at_call 35
  refine CT.out.mono ?_
  rintro e w1 ⟨rfl, hb⟩
  have HB := Lib.hid hb
  clear hb
  go_wp2
  go_returns
  exact ⟨rfl, HB.out.alloc HB.out.size _⟩

end Go.Proofs.Ytkoalpbognpphaa
