/- The example that every statement asks first. -/
import Derived.Test.YtconfkjchjcjgaaKNames
import Derived.Test.YtconfkjchjcjgaaKRefK
import Derived.Test.YtconfkjchjcjgaaKRefW
namespace Go.Proofs.Ytconfkjchjcjgaa
open Go.RowKit Go.Maps Go.WideMaps
set_option linter.unusedVariables false

/-- each part keeps to the drift, reckoned -/
def kpC (d : Int) (own : List Int) : Bool := (List.range (own.length + 1)).all fun k => (List.range k).all fun j => decide (osl d own j - 2000 ≤ osl d own k) && decide (ofs d own k ≤ ofs d own j + 2000)
theorem kpC_iff {d : Int} {own : List Int} : kpC d own = true ↔ Kp d own := by
  unfold kpC Kp Pair
  simp only [List.all_eq_true, List.mem_range, Bool.and_eq_true, decide_eq_true_eq]
  constructor
  · intro h k hk j hj
    exact h k (by omega) j hj
  · intro h k hk j hj
    exact h k (by omega) j hj
theorem kpB_C (d : Int) (own : List Int) : kpB d own = kpC d own := by
  cases e : kpC d own
  · exact kpB_false fun h => by rw [kpC_iff.2 h] at e; cases e
  · exact kpB_true (kpC_iff.1 e)

/-- a watch that was made behind w0 -/
structure At8 (w0 w : World) (b : Nat) (now : Int) (L : List It) (q : Nat) : Prop where
  wt : ∃ S : Nat → Prop, Wt w S b now L q ∧ ∀ k, S k → w0.heap.size ≤ k
  below : Below w0.heap.size w0 w
section
variable {w0 w w' : World} {b : Nat} {now : Int} {L : List It} {q : Nat}
theorem At8.go (h : At8 w0 w b now L q) (hb : Below w.heap.size w w') : At8 w0 w' b now L q := by
  obtain ⟨⟨S, h1, h2⟩, h3⟩ := h
  exact ⟨⟨S, h1.go hb, h2⟩, h3.trans (hb.mono h3.size)⟩
theorem at_new (h : Below w0.heap.size w0 w) : Calls Try.prog 13 #[] w fun e w' => ∃ b, e = .returned (.pointer (some ⟨b, 0, none⟩)) ∧ At8 w0 w' b 0 [] 0 := by
  refine (new_any w).mono ?_
  rintro e w' ⟨rfl, hn, hb⟩
  exact ⟨_, rfl, ⟨_, hn, fun k hk => by have := h.size; rcases hk with rfl | rfl <;> omega⟩, h.trans (hb.mono h.size)⟩
theorem at_set (h : At8 w0 w b now L q) {s : ByteArray} (hs : s.size ≤ 140737488351232) (hs0 : s.toList.isEmpty = false) (hnow : 0 ≤ now ∧ now ≤ 4611686018427387904) {t : Int} (ht : 1 ≤ t ∧ t ≤ 1073741824) (hq : q < 1000000) :
    Calls Try.prog 14 #[.pointer (some ⟨b, 0, none⟩), .string s, .int .i64 t] w fun e w' => e = .returned (.int .i64 0) ∧ At8 w0 w' b now (setL L ⟨s, now + t⟩) (q + 1) := by
  obtain ⟨⟨S, h1, h2⟩, h3⟩ := h
  cases hg : getL L s with
  | none =>
    refine (setNew_any h1 (by unfold maxLen; omega) (by omega) hs0 hg hnow ht hq).mono ?_
    rintro e w' ⟨rfl, hw, ho⟩
    refine ⟨rfl, ⟨_, hw, fun k hk => ?_⟩, h3.trans (ho.below h2 h3.size)⟩
    rcases hk with hk | hk
    · exact h2 k hk
    · exact Nat.le_trans h3.size hk.1
  | some x =>
    refine (setAnew_any h1 (by unfold maxLen; omega) hs0 hg hnow ht).mono ?_
    rintro e w' ⟨rfl, hw, ho⟩
    exact ⟨rfl, ⟨_, hw, h2⟩, h3.trans (ho.below h2 h3.size)⟩
theorem at_setBad (h : At8 w0 w b now L q) {s : ByteArray} {t : Int} (hb : (t < 1 ∨ 1073741824 < t) ∨ s.toList.isEmpty = true) :
    Calls Try.prog 14 #[.pointer (some ⟨b, 0, none⟩), .string s, .int .i64 t] w fun e w' => e = .returned (.int .i64 2) ∧ w = w' := by
  obtain ⟨⟨S, h1, h2⟩, h3⟩ := h
  exact setBad_any h1 hb
theorem at_now (h : At8 w0 w b now L q) : Calls Try.prog 18 #[.pointer (some ⟨b, 0, none⟩)] w fun e w' => e = .returned (.int .i64 now) ∧ w = w' := by
  obtain ⟨⟨S, h1, h2⟩, h3⟩ := h
  exact now_any h1
theorem at_tick (h : At8 w0 w b now L q) (hq : q ≤ 1000000) (hnow : 0 ≤ now ∧ now ≤ 4611686018426000000) {t : Int} (ht : 0 ≤ t ∧ t ≤ 1048576) :
    Calls Try.prog 15 #[.pointer (some ⟨b, 0, none⟩), .int .i64 t] w fun e w' => ∃ A n c, e = .returned (.tuple #[.slice A n c, .int .i64 0]) ∧ n = (due (now + t) L).length ∧ Rds w' w'.heap.size A (cT (due (now + t) L)) ∧ At8 w0 w' b (now + t) (rest (now + t) L) q := by
  obtain ⟨⟨S, h1, h2⟩, h3⟩ := h
  refine (tick_any h1 hq hnow ht).mono ?_
  rintro e w' ⟨v, rfl, hrow, hw, ho⟩
  obtain ⟨A, c, rfl, hr, -⟩ := own_open hrow
  exact ⟨A, _, c, rfl, rfl, hr, ⟨_, hw, h2⟩, h3.trans (ho.below h2 h3.size)⟩
theorem at_tickBad (h : At8 w0 w b now L q) {t : Int} (hb : t < 0 ∨ 1048576 < t) :
    Calls Try.prog 15 #[.pointer (some ⟨b, 0, none⟩), .int .i64 t] w fun e w' => e = .returned (.tuple #[.slice none 0 0, .int .i64 2]) ∧ w = w' := by
  obtain ⟨⟨S, h1, h2⟩, h3⟩ := h
  exact tickBad_any h1 hb
theorem at_drop (h : At8 w0 w b now L q) {s : ByteArray} (hs : s.size ≤ 140737488351232) {x : It} (hg : getL L s = some x) :
    Calls Try.prog 19 #[.pointer (some ⟨b, 0, none⟩), .string s] w fun e w' => e = .returned (.int .i64 0) ∧ At8 w0 w' b now (rmv s L) q := by
  obtain ⟨⟨S, h1, h2⟩, h3⟩ := h
  refine (drop_any h1 (by unfold maxLen; omega) hg).mono ?_
  rintro e w' ⟨rfl, hw, ho⟩
  exact ⟨rfl, ⟨_, hw, h2⟩, h3.trans (ho.below h2 h3.size)⟩
theorem at_dropNo (h : At8 w0 w b now L q) {s : ByteArray} (hs : s.size ≤ 140737488351232) (hg : getL L s = none) :
    Calls Try.prog 19 #[.pointer (some ⟨b, 0, none⟩), .string s] w fun e w' => e = .returned (.int .i64 6) ∧ w = w' := by
  obtain ⟨⟨S, h1, h2⟩, h3⟩ := h
  exact dropNo_any h1 (by unfold maxLen; omega) hg
theorem at_left (h : At8 w0 w b now L q) {s : ByteArray} (hs : s.size ≤ 140737488351232) {x : It} (hg : getL L s = some x) (hnow : 0 ≤ now ∧ now ≤ 4611686018427387904) :
    Calls Try.prog 16 #[.pointer (some ⟨b, 0, none⟩), .string s] w fun e w' => e = .returned (.tuple #[.int .i64 (x.at_ - now), .bool true]) ∧ At8 w0 w' b now L q ∧ Below w.heap.size w w' := by
  obtain ⟨⟨S, h1, h2⟩, h3⟩ := id h
  refine (left_any h1 (by unfold maxLen; omega) hg hnow).mono ?_
  rintro e w' ⟨rfl, hb⟩
  exact ⟨rfl, h.go hb, hb⟩
theorem at_leftNo (h : At8 w0 w b now L q) {s : ByteArray} (hs : s.size ≤ 140737488351232) (hg : getL L s = none) :
    Calls Try.prog 16 #[.pointer (some ⟨b, 0, none⟩), .string s] w fun e w' => e = .returned (.tuple #[.int .i64 0, .bool false]) ∧ w = w' := by
  obtain ⟨⟨S, h1, h2⟩, h3⟩ := h
  exact leftNo_any h1 (by unfold maxLen; omega) hg
theorem at_names (h : At8 w0 w b now L q) (hq : q ≤ 1000000) :
    Calls Try.prog 29 #[.pointer (some ⟨b, 0, none⟩)] w fun e w' => ∃ A n c, e = .returned (.slice A n c) ∧ n = (nmsOf L).length ∧ Rds w' w'.heap.size A (cS (nmsOf L)) ∧ At8 w0 w' b now L q ∧ Below w.heap.size w w' := by
  obtain ⟨⟨S, h1, h2⟩, h3⟩ := id h
  refine (namesW_any h1 hq).mono ?_
  rintro e w' ⟨v, rfl, hrow, hb⟩
  obtain ⟨A, c, rfl, hr, -⟩ := own_open hrow
  exact ⟨A, _, c, rfl, rfl, hr, h.go hb, hb⟩
end

theorem whole_rds {w : World} {g lim : Nat} {t : TypeId} {cs : Array Value} {xs : List Value} (h : Whole w g t cs) (hg : g < lim) (hx : cs.toList = xs) : Rds w lim (some ⟨g, 0, none⟩) xs := by
  intro _
  refine ⟨_, rfl, hg, fun j u hu => ?_⟩
  rw [add_base, h.cell j, ← hu, ← hx]
  simp
/-- four steps of a clock, as they are built -/
def fourV (w : World) : Array Value := #[.slice (some ⟨w.heap.size, 0, none⟩) 1 1, .slice (some ⟨w.heap.size + 1, 0, none⟩) 1 1, .slice (some ⟨w.heap.size + 1 + 1, 0, none⟩) 1 1, .slice (some ⟨w.heap.size + 1 + 1 + 1, 0, none⟩) 1 1]
def four (w : World) : World := (((((w.alloc (.cells #[.int .i64 1] 3)).alloc (.cells #[.int .i64 1] 3)).alloc (.cells #[.int .i64 1] 3)).alloc (.cells #[.int .i64 1] 3)).alloc (.cells (fourV w) 61))
def fourR (w : World) : List Ro := [⟨some ⟨w.heap.size, 0, none⟩, [1], 1⟩, ⟨some ⟨w.heap.size + 1, 0, none⟩, [1], 1⟩, ⟨some ⟨w.heap.size + 1 + 1, 0, none⟩, [1], 1⟩, ⟨some ⟨w.heap.size + 1 + 1 + 1, 0, none⟩, [1], 1⟩]
theorem four_below (w : World) : Below w.heap.size w (four w) := by
  unfold four
  exact ((((((Below.refl _ w).alloc (Nat.le_refl _) _).alloc (by simp) _).alloc (by simp; omega) _).alloc (by simp; omega) _).alloc (by simp; omega) _)
theorem four_course (w : World) : Course (four w) (four w).heap.size (some ⟨w.heap.size + 1 + 1 + 1 + 1, 0, none⟩) (fourR w) := by
  have hz : (four w).heap.size = w.heap.size + 5 := by simp [four]
  have h0 : Whole (four w) w.heap.size 3 #[.int .i64 1] := ((((Whole.new w 3 #[.int .i64 1]).alloc _).alloc _).alloc _).alloc _
  have h1 : Whole (four w) (w.heap.size + 1) 3 #[.int .i64 1] := by
    have := (((Whole.new (w.alloc (.cells #[.int .i64 1] 3)) 3 #[.int .i64 1]).alloc (.cells #[.int .i64 1] 3)).alloc (.cells #[.int .i64 1] 3)).alloc (.cells (fourV w) 61)
    simpa [four] using this
  have h2 : Whole (four w) (w.heap.size + 1 + 1) 3 #[.int .i64 1] := by
    have := ((Whole.new ((w.alloc (.cells #[.int .i64 1] 3)).alloc (.cells #[.int .i64 1] 3)) 3 #[.int .i64 1]).alloc (.cells #[.int .i64 1] 3)).alloc (.cells (fourV w) 61)
    simpa [four] using this
  have h3 : Whole (four w) (w.heap.size + 1 + 1 + 1) 3 #[.int .i64 1] := by
    have := (Whole.new (((w.alloc (.cells #[.int .i64 1] 3)).alloc (.cells #[.int .i64 1] 3)).alloc (.cells #[.int .i64 1] 3)) 3 #[.int .i64 1]).alloc (.cells (fourV w) 61)
    simpa [four] using this
  have h4 : Whole (four w) (w.heap.size + 1 + 1 + 1 + 1) 61 (fourV w) := by
    have := Whole.new ((((w.alloc (.cells #[.int .i64 1] 3)).alloc (.cells #[.int .i64 1] 3)).alloc (.cells #[.int .i64 1] 3)).alloc (.cells #[.int .i64 1] 3)) 61 (fourV w)
    simpa [four] using this
  refine ⟨whole_rds h4 (by omega) rfl, fun r hr => ?_, fun r hr => ?_, fun r hr => ?_, fun r hr e => ?_⟩
  · simp only [fourR, List.mem_cons, List.not_mem_nil, or_false] at hr
    rcases hr with rfl | rfl | rfl | rfl
    · exact whole_rds h0 (by omega) rfl
    · exact whole_rds h1 (by omega) rfl
    · exact whole_rds h2 (by omega) rfl
    · exact whole_rds h3 (by omega) rfl
  · simp only [fourR, List.mem_cons, List.not_mem_nil, or_false] at hr
    rcases hr with rfl | rfl | rfl | rfl <;> (intro z hz'; simp only [List.mem_cons, List.not_mem_nil, or_false] at hz'; subst hz'; exact ⟨by decide, by decide⟩)
  · simp only [fourR, List.mem_cons, List.not_mem_nil, or_false] at hr
    rcases hr with rfl | rfl | rfl | rfl <;> (show 1 ≤ 140737488351232; omega)
  · simp only [fourR, List.mem_cons, List.not_mem_nil, or_false] at hr
    rcases hr with rfl | rfl | rfl | rfl <;> cases e
theorem four_keep (w : World) : Calls Try.prog 11 #[.slice (some ⟨w.heap.size + 1 + 1 + 1 + 1, 0, none⟩) 4 4, .int .i64 0, .int .i64 0] (four w) fun e w' => e = .returned (.tuple #[.bool true, .int .i64 0]) ∧ Below w.heap.size w w' := by
  have h := keep_any (rs := fourR w) (node := 0) (d := 0) (n := 4) (c := 4) (four w) rfl (four_course w) ⟨⟨⟨by omega, by omega⟩, by omega, by omega⟩, by simp [fourR], by rfl⟩
  rw [show ownOf 0 (fourR w) = [1, 1, 1, 1] from rfl, kpB_C, show kpC 0 [1, 1, 1, 1] = true by decide +kernel] at h
  exact h.mono fun e w' ⟨h1, h2⟩ => ⟨h1, (four_below w).trans (h2.mono (four_below w).size)⟩

set_option maxHeartbeats 2000000 in
set_option maxRecDepth 100000 in
theorem lives_any (w : World) : Calls Try.prog 9 #[] w fun e w' => e = .returned (.bool true) ∧ Below w.heap.size w w' := by
  have cw1 := wait_any (l := 10) (d := 0) ⟨⟨by omega, by omega⟩, by omega, by omega⟩ w
  have cw2 := wait_any (l := 10) (d := 100) ⟨⟨by omega, by omega⟩, by omega, by omega⟩ w
  rw [show waitOf 10 0 = 14 by decide] at cw1
  rw [show waitOf 10 100 = 17 by decide] at cw2
  have ck := four_keep w
  unfold four fourV at ck
  have CK := Lib.hid ck
  clear ck
  go_enter Try.func9, Try.ntmps9
  go_wp2_with fail
  refine cw1.mono ?_
  rintro e w' ⟨rfl, rfl⟩
  go_wp2_with fail
  refine cw2.mono ?_
  rintro e w' ⟨rfl, rfl⟩
  go_wp2_with fail
  refine CK.out.mono ?_
  rintro e w1 ⟨rfl, hb1⟩
  have HB1 := Lib.hid hb1
  clear hb1 cw1 cw2 CK
  go_wp2_with fail
  refine (at_new (w0 := w) HB1.out).mono ?_
  rintro e w2 ⟨b, rfl, h2⟩
  have H2 := Lib.hid h2
  have cs := Lib.hid (at_set h2 (s := ⟨#[97]⟩) (t := 5) (by decide) (by rw [Lib.toList_data]; rfl) (by omega) (by omega) (by omega))
  clear h2
  go_wp2_with fail
  refine cs.out.mono ?_
  rintro e w3 ⟨rfl, h3⟩
  have H3 := Lib.hid h3
  have cn := Lib.hid (at_now h3)
  clear h3
  go_wp2_with fail
  refine cn.out.mono ?_
  rintro e w' ⟨rfl, rfl⟩
  go_wp2
  go_ret
  exact ⟨rfl, H3.out.below⟩
end Go.Proofs.Ytconfkjchjcjgaa
