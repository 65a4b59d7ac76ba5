/- Finding a letter, copying one, putting one in flight. -/
import Derived.Test.YtkoalpbognpphaaNNew
import Derived.Maps.OwnOps
import Derived.OwnWalk
import Derived.Maps.RangeWalk
namespace Go.Proofs.Ytkoalpbognpphaa
open Go.RowKit Go.Maps
set_option linter.unusedVariables false

section
variable {w w' : World} {S S' T : Nat → Prop} {b mb : Nat} {es : List (Le × Pl)} {sent : Nat}
/-- the letter of that number -/
def pick (es : List (Le × Pl)) (x : Int) : Option (Le × Pl) := es.find? fun p => decide (p.1.num = x)
def hitV (es : List (Le × Pl)) (x : Int) : Value := match pick es x with | some p => val p.1 p.2 | none => zeroL
def hitE (es : List (Le × Pl)) (x : Int) : Int := match pick es x with | some _ => 0 | none => 6
theorem look_at {v : Value} {ps : List MemPlace} {x : Int} (h : selfR v = some ((asMap (ents es)).atKey (.int .u64 x) (.held zeroL), ps)) : v = hitV es x := by
  rw [at_map, ents_find] at h
  unfold hitV pick
  unfold selfR at h
  cases hp : es.find? (fun p => decide (p.1.num = x)) with
  | none =>
    rw [hp] at h
    have h2 : v = zeroL ∧ ps = [] := by simpa using h
    exact h2.1
  | some p =>
    rw [hp] at h
    have h2 : v = val p.1 p.2 ∧ ps = [] := by simpa using h
    exact h2.1
theorem look_has (x : Int) : Maps.has (asMap (ents es)) (.int .u64 x) = (pick es x).isSome := by rw [has_map, ents_any]; rfl
end

set_option maxHeartbeats 2000000 in
set_option maxRecDepth 100000 in
theorem find_any {w : World} {S : Nat → Prop} {b mb : Nat} {es : List (Le × Pl)} {sent : Nat} (h : Nt w S b mb es sent) (x : Int) (hx : 0 ≤ x ∧ x ≤ 18446744073709551615) :
    Calls Try.prog 35 #[.pointer (some ⟨b, 0, none⟩), .int .u64 x] w fun e w' => e = .returned (.tuple #[hitV es x, .int .i64 (hitE es x)]) ∧ Below w.heap.size w w' := by
  have h1 := h.go (newL_below w)
  have HB := Lib.hid (newL_below w)
  have HWB := Lib.hid (newL_whole w)
  have HSZ := Lib.hid (newL_size w)
  have H1 := Lib.hid h1
  clear h h1
  go_enter Try.func35, Try.ntmps35
  go_wp2_with fail
  go_at_call 31
  refine (nobodys_any (w := newL w) H1.out).mono ?_
  rintro e w1 ⟨rfl, hw⟩
  have e1 : w1 = newL w := hw
  clear hw
  rw [← e1] at H1 HB HWB HSZ
  clear e1
  have hc := H1.out.blk.cell 2
  have hm := H1.out.map
  simp only [List.getElem?_toArray, List.getElem?_cons_zero, List.getElem?_cons_succ] at hc
  obtain ⟨c0, c1, c2, c3, c4⟩ := cells5 HWB.out
  have f0 := HWB.out.frozen
  cases hp : pick es x with
  | none =>
    have hV : hitV es x = zeroL := by unfold hitV; rw [hp]
    have hE : hitE es x = 6 := by unfold hitE; rw [hp]
    have hh : Maps.has (asMap (ents es)) (.int .u64 x) = false := by rw [look_has, hp]; rfl
    go_upto_region 5 with (at_lookup; refine wpList_lookup_own_ok _ rfl _ _ 55 rfl 25 32 keyed64 Try.underlying55 selfR (zero_letter _) (.held zeroL) [] rfl mb sent (asMap (ents es)) rfl hm _ _ rfl (key_u64 hx) ?_; intro v ps hv; obtain rfl := look_at hv; rw [hV, hh]; simp only [zeroL]; go_frame)
    have hw2 := HWB.out.alloc (.cells #[.int .u64 0, .int .u64 0, .int .i64 0, .int .i64 0, .slice none 0 0] 32)
    have hc2 := Whole.new w1 32 #[.int .u64 0, .int .u64 0, .int .i64 0, .int .i64 0, .slice none 0 0]
    have hb2 := HB.out.alloc HB.out.size (.cells #[.int .u64 0, .int .u64 0, .int .i64 0, .int .i64 0, .slice none 0 0] 32)
    generalize w1.alloc (.cells #[.int .u64 0, .int .u64 0, .int .i64 0, .int .i64 0, .slice none 0 0] 32) = w2 at hw2 hc2 hb2 ⊢
    clear c0 c1 c2 c3 c4 f0 hm hc
    obtain ⟨c0, c1, c2, c3, c4⟩ := cells5 hw2
    obtain ⟨d0, d1, d2, d3, d4⟩ := cells5 hc2
    have f0 := hw2.frozen
    have HW2 := Lib.hid hw2
    have HB2 := Lib.hid hb2
    clear hw2 hb2 hc2
    go_wp2
    have hx := put5_whole HW2.out (.int .u64 0) (.int .u64 0) (.int .i64 0) (.int .i64 0) (.slice none 0 0)
    have hbx : Below w.heap.size w (put5 w2 w.heap.size (.int .u64 0) (.int .u64 0) (.int .i64 0) (.int .i64 0) (.slice none 0 0)) := put5_below HB2.out (Nat.le_refl _) _ _ _ _ _
    change bodyPost _ _ _ _ _ (put5 w2 w.heap.size (.int .u64 0) (.int .u64 0) (.int .i64 0) (.int .i64 0) (.slice none 0 0))
    generalize put5 w2 w.heap.size (.int .u64 0) (.int .u64 0) (.int .i64 0) (.int .i64 0) (.slice none 0 0) = W at hx hbx ⊢
    clear c0 c1 c2 c3 c4 f0 d0 d1 d2 d3 d4
    obtain ⟨c0, c1, c2, c3, c4⟩ := cells5 hx
    refine bodyPost_ret (by simp [results, Try.results35, go_sem, c0, c1, c2, c3, c4]; try rfl) rfl ?_
    rw [hV, hE]
    exact ⟨rfl, hbx⟩
  | some p =>
    have hV : hitV es x = val p.1 p.2 := by unfold hitV; rw [hp]
    have hE : hitE es x = 0 := by unfold hitE; rw [hp]
    have hh : Maps.has (asMap (ents es)) (.int .u64 x) = true := by rw [look_has, hp]; rfl
    go_upto_region 6 with (at_lookup; refine wpList_lookup_own_ok _ rfl _ _ 55 rfl 25 32 keyed64 Try.underlying55 selfR (zero_letter _) (.held zeroL) [] rfl mb sent (asMap (ents es)) rfl hm _ _ rfl (key_u64 hx) ?_; intro v ps hv; obtain rfl := look_at hv; rw [hV, hh]; simp only [val]; go_frame)
    have hw2 := HWB.out.alloc (.cells #[.int .u64 p.1.num, .int .u64 p.1.first, .int .i64 p.1.frm, .int .i64 p.1.to_, .slice p.2.1 p.1.body.length p.2.2] 32)
    have hc2 := Whole.new w1 32 #[.int .u64 p.1.num, .int .u64 p.1.first, .int .i64 p.1.frm, .int .i64 p.1.to_, .slice p.2.1 p.1.body.length p.2.2]
    have hb2 := HB.out.alloc HB.out.size (.cells #[.int .u64 p.1.num, .int .u64 p.1.first, .int .i64 p.1.frm, .int .i64 p.1.to_, .slice p.2.1 p.1.body.length p.2.2] 32)
    generalize w1.alloc (.cells #[.int .u64 p.1.num, .int .u64 p.1.first, .int .i64 p.1.frm, .int .i64 p.1.to_, .slice p.2.1 p.1.body.length p.2.2] 32) = w2 at hw2 hc2 hb2 ⊢
    clear c0 c1 c2 c3 c4 f0 hm hc
    obtain ⟨c0, c1, c2, c3, c4⟩ := cells5 hw2
    obtain ⟨d0, d1, d2, d3, d4⟩ := cells5 hc2
    have f0 := hw2.frozen
    have HW2 := Lib.hid hw2
    have HB2 := Lib.hid hb2
    clear hw2 hb2 hc2
    go_wp2
    have hx := put5_whole HW2.out (.int .u64 p.1.num) (.int .u64 p.1.first) (.int .i64 p.1.frm) (.int .i64 p.1.to_) (.slice p.2.1 p.1.body.length p.2.2)
    have hbx : Below w.heap.size w (put5 w2 w.heap.size (.int .u64 p.1.num) (.int .u64 p.1.first) (.int .i64 p.1.frm) (.int .i64 p.1.to_) (.slice p.2.1 p.1.body.length p.2.2)) := put5_below HB2.out (Nat.le_refl _) _ _ _ _ _
    change bodyPost _ _ _ _ _ (put5 w2 w.heap.size (.int .u64 p.1.num) (.int .u64 p.1.first) (.int .i64 p.1.frm) (.int .i64 p.1.to_) (.slice p.2.1 p.1.body.length p.2.2))
    generalize put5 w2 w.heap.size (.int .u64 p.1.num) (.int .u64 p.1.first) (.int .i64 p.1.frm) (.int .i64 p.1.to_) (.slice p.2.1 p.1.body.length p.2.2) = W at hx hbx ⊢
    clear c0 c1 c2 c3 c4 f0 d0 d1 d2 d3 d4
    obtain ⟨c0, c1, c2, c3, c4⟩ := cells5 hx
    refine bodyPost_ret (by simp [results, Try.results35, go_sem, c0, c1, c2, c3, c4]; try rfl) rfl ?_
    rw [hV, hE]
    exact ⟨rfl, hbx⟩
end Go.Proofs.Ytkoalpbognpphaa
