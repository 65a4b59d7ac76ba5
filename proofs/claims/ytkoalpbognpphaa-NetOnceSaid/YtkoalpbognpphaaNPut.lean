/- Copying a letter, putting one in flight. -/
import Derived.Test.YtkoalpbognpphaaNFind
namespace Go.Proofs.Ytkoalpbognpphaa
open Go.RowKit Go.Maps
set_option linter.unusedVariables false

set_option maxHeartbeats 2000000 in
set_option maxRecDepth 100000 in
/-- bytes.Clone of a body -/
theorem clone_any {w : World} {bs : List Int} {A : Option Addr} {c : Nat} (h : Rds w w.heap.size A (c8 bs)) (hl : bs.length ≤ 140737488355328) :
    Calls Try.prog 34 #[.slice A bs.length c] w fun e w' => ∃ (A' : Option Addr) (c' : Nat), e = .returned (.slice A' bs.length c') ∧ Below w.heap.size w w' ∧ Bd w' (fun k => w.heap.size ≤ k) bs (A', c') := by
  cases A with
  | none =>
    have h0 : bs = [] := by
      cases bs with
      | nil => rfl
      | cons x r =>
        obtain ⟨ad, e, _⟩ := h (by simp [c8])
        cases e
    subst h0
    refine (Try.bytes_Clone_nil 0 c w).mono ?_
    rintro e w' ⟨rfl, rfl⟩
    exact ⟨none, 0, rfl, Below.refl _ _, fun hne => absurd rfl hne⟩
  | some a =>
    have hc : ∀ i, i < bs.length → w.cell? (a.add i) = some (.int .u8 (bs.getD i 0)) := fun i hi => by
      obtain ⟨ad, e, _, hr⟩ := h (by intro e; rw [show bs = [] by simpa [c8] using e] at hi; cases hi)
      cases e
      rw [hr i _ (c8_get hi)]
      simp [hi]
    refine (Try.bytes_Clone_at a bs.length c bs w rfl hl hc).mono ?_
    rintro e w' ⟨v', rfl, hown, hne, hb⟩
    rcases hown.2 with ⟨e1, _⟩ | ⟨g, cap, cur, rfl, hB, hg, h1, h2, h3, h4⟩
    · exact absurd e1 hne
    · refine ⟨some ⟨g, 0, none⟩, cap, rfl, hb, fun hbs => ⟨_, rfl, hB, (Array.getElem?_eq_some_iff.1 hg).1, fun j u hj => ?_⟩⟩
      have := Rds.ofOwn hown (fun e => hbs (by simpa using e))
      obtain ⟨ad, e, _, hr⟩ := this
      cases e
      exact hr j u hj

set_option maxHeartbeats 4000000 in
set_option maxRecDepth 100000 in
theorem copied_any {w : World} {x : Le} {k : Pl} (h : Rds w w.heap.size k.1 (c8 x.body)) (hl : x.body.length ≤ 16384) :
    Calls Try.prog 36 #[val x k] w fun e w' => ∃ k' : Pl, e = .returned (val x k') ∧ Below w.heap.size w w' ∧ Bd w' (fun i => w.heap.size ≤ i) x.body k' := by
  simp only [val]
  have hw1 : Whole (newL (w.alloc (.cells #[.int .u64 x.num, .int .u64 x.first, .int .i64 x.frm, .int .i64 x.to_, .slice k.1 x.body.length k.2] 32))) w.heap.size 32 #[.int .u64 x.num, .int .u64 x.first, .int .i64 x.frm, .int .i64 x.to_, .slice k.1 x.body.length k.2] := (Whole.new w _ _).alloc _
  have hw2 := newL_whole (w.alloc (.cells #[.int .u64 x.num, .int .u64 x.first, .int .i64 x.frm, .int .i64 x.to_, .slice k.1 x.body.length k.2] 32))
  have hb1 : Below w.heap.size w (newL (w.alloc (.cells #[.int .u64 x.num, .int .u64 x.first, .int .i64 x.frm, .int .i64 x.to_, .slice k.1 x.body.length k.2] 32))) := ((Below.refl _ _).alloc (Nat.le_refl _) _).alloc (by simp) _
  rw [World.size_alloc] at hw2
  have HR := Lib.hid (h.below hb1)
  have HW1 := Lib.hid hw1
  have HW2 := Lib.hid hw2
  have HB1 := Lib.hid hb1
  clear h hw1 hw2 hb1
  go_enter Try.func36, Try.ntmps36
  go_upto_region 1 with fail
  change Code.wp _ _ _ _ (newL (w.alloc (.cells #[.int .u64 x.num, .int .u64 x.first, .int .i64 x.frm, .int .i64 x.to_, .slice k.1 x.body.length k.2] 32)))
  generalize newL (w.alloc (.cells #[.int .u64 x.num, .int .u64 x.first, .int .i64 x.frm, .int .i64 x.to_, .slice k.1 x.body.length k.2] 32)) = w1 at HW1 HW2 HR HB1 ⊢
  obtain ⟨c0, c1, c2, c3, c4⟩ := cells5 HW1.out
  have hsz := HB1.out.size
  go_wp2_with fail
  go_at_call 34
  refine (clone_any (HR.out.more hsz) (by omega)).mono ?_
  rintro e w2 ⟨A', c', rfl, hb2, hbd⟩
  have hw3 := HW1.out.below hb2 HW1.out.lt
  have hw4 := HW2.out.below hb2 HW2.out.lt
  have HB2 := Lib.hid (HB1.out.trans (hb2.mono hsz))
  have HBD := Lib.hid hbd
  clear c0 c1 c2 c3 c4 hb2 hbd
  have f3 := hw3.frozen
  have f4 := hw4.frozen
  obtain ⟨c0, c1, c2, c3, c4⟩ := cells5 hw3
  have HW3 := Lib.hid hw3
  have HW4 := Lib.hid hw4
  clear hw3 hw4
  go_upto_region 2 with fail
  have hw5 := HW3.out.put 4 (.slice A' x.body.length c')
  have hw6 : Whole (w2.setCell ⟨w.heap.size, 4, none⟩ (.slice A' x.body.length c')) (w.heap.size + 1) 32 _ := HW4.out.far (by show w.heap.size + 1 ≠ w.heap.size; omega) (.slice A' x.body.length c')
  have hb3 : Below w.heap.size w (w2.setCell ⟨w.heap.size, 4, none⟩ (.slice A' x.body.length c')) := HB2.out.setCell (Nat.le_refl _) _
  have hbd3 : Bd (w2.setCell ⟨w.heap.size, 4, none⟩ (.slice A' x.body.length c')) (fun i => w1.heap.size ≤ i) x.body (A', c') := by
    have := HW2.out.lt
    exact HBD.out.outs (T := fun i => i = w.heap.size) (outs_put _ _ _ _) (fun i hi e => by omega)
  generalize w2.setCell ⟨w.heap.size, 4, none⟩ (.slice A' x.body.length c') = w3 at hw5 hw6 hb3 hbd3 ⊢
  have hw5' : Whole w3 w.heap.size 32 #[.int .u64 x.num, .int .u64 x.first, .int .i64 x.frm, .int .i64 x.to_, .slice A' x.body.length c'] := hw5
  clear c0 c1 c2 c3 c4 f3 f4 hw5
  obtain ⟨c0, c1, c2, c3, c4⟩ := cells5 hw5'
  obtain ⟨d0, d1, d2, d3, d4⟩ := cells5 hw6
  have f6 := hw6.frozen
  have HW5 := Lib.hid hw5'
  have HW6 := Lib.hid hw6
  have HB3 := Lib.hid hb3
  have HBD3 := Lib.hid hbd3
  clear hw5' hw6 hb3 hbd3
  go_wp2
  have hx := put5_whole HW6.out (.int .u64 x.num) (.int .u64 x.first) (.int .i64 x.frm) (.int .i64 x.to_) (.slice A' x.body.length c')
  have hbx : Below w.heap.size w (put5 w3 (w.heap.size + 1) (.int .u64 x.num) (.int .u64 x.first) (.int .i64 x.frm) (.int .i64 x.to_) (.slice A' x.body.length c')) := put5_below HB3.out (by omega) _ _ _ _ _
  have hbdx : Bd (put5 w3 (w.heap.size + 1) (.int .u64 x.num) (.int .u64 x.first) (.int .i64 x.frm) (.int .i64 x.to_) (.slice A' x.body.length c')) (fun i => w.heap.size ≤ i) x.body (A', c') := by
    have := HW2.out.lt
    exact (HBD3.out.outs (T := fun i => i = w.heap.size + 1) (put5_outs _ _ _ _ _ _ _) (fun i hi e => by omega)).mono (fun i hi => by omega)
  change bodyPost _ _ _ _ _ (put5 w3 (w.heap.size + 1) (.int .u64 x.num) (.int .u64 x.first) (.int .i64 x.frm) (.int .i64 x.to_) (.slice A' x.body.length c'))
  generalize put5 w3 (w.heap.size + 1) (.int .u64 x.num) (.int .u64 x.first) (.int .i64 x.frm) (.int .i64 x.to_) (.slice A' x.body.length c') = W at hx hbx hbdx ⊢
  clear c0 c1 c2 c3 c4 d0 d1 d2 d3 d4 f6
  obtain ⟨c0, c1, c2, c3, c4⟩ := cells5 hx
  refine bodyPost_ret (by simp [results, Try.results36, go_sem, c0, c1, c2, c3, c4]; try rfl) rfl ?_
  exact ⟨(A', c'), rfl, hbx, hbdx⟩
end Go.Proofs.Ytkoalpbognpphaa
