/- A new net; what a net that nobody made answers. -/
import Derived.Test.YtkoalpbognpphaaNObj
import Derived.Carry
import Derived.Deep.Cut
namespace Go.Proofs.Ytkoalpbognpphaa
open Go.RowKit Go.Maps
set_option linter.unusedVariables false

theorem okf_nil : Okf 0 [] := ⟨List.Pairwise.nil, by simp, by simp, by simp, by simp, by simp, by simp, by omega⟩
/-- the places of a new net -/
def Two (m b : Nat) (k : Nat) : Prop := k = m ∨ k = b

set_option maxRecDepth 100000 in
theorem new_any (w : World) : Calls Try.prog 8 #[] w fun e w' => e = .returned (.pointer (some ⟨w.heap.size + 1, 0, none⟩)) ∧ Nt w' (Two w.heap.size (w.heap.size + 1)) (w.heap.size + 1) w.heap.size [] 0 ∧ Below w.heap.size w w' := by
  have hm := World.ownsMap_made (H := Value) w Try.prog 25 selfR
  have hmm := @run_makeMap Try.prog
  go_enter Try.func8, Try.ntmps8
  go_wp2
  go_ret
  have hw := Whole.new (w.alloc (.map #[] 0)) 57 #[.pointer (some ⟨w.heap.size + 1, 0, none⟩), .int .u64 0, .map (some w.heap.size)]
  rw [World.size_alloc] at hw
  exact ⟨rfl, ⟨hw, hm.alloc _, .inr rfl, .inl rfl, by simp, okf_nil, fun i hi => by unfold Two at hi; simp; omega⟩, ((Below.refl _ _).alloc (Nat.le_refl _) _).alloc (by simp) _⟩

theorem sendNil_any (f t : Int) (v : Value) (w : World) : Calls Try.prog 9 #[.pointer none, .int .i64 f, .int .i64 t, v] w fun e w' => e = .returned (.tuple #[.int .u64 0, .int .i64 1]) ∧ w' = w := by
  go_enter Try.func9, Try.ntmps9
  go_wp2_with (go_at_call 31; refine (nobodysNil_any _).mono ?_; rintro e w' ⟨rfl, rfl⟩)
  go_returns
  exact ⟨rfl, rfl⟩
set_option maxRecDepth 100000 in
theorem sendZero_any (f t : Int) (v : Value) {w : World} {b : Nat} {x : Int} {m : Value} (h : Whole w b 57 #[.pointer none, .int .u64 x, m]) : Calls Try.prog 9 #[.pointer (some ⟨b, 0, none⟩), .int .i64 f, .int .i64 t, v] w fun e w' => e = .returned (.tuple #[.int .u64 0, .int .i64 1]) ∧ w' = w := by
  have H := Lib.hid h
  clear h
  go_enter Try.func9, Try.ntmps9
  go_wp2_with (go_at_call 31; refine (nobodysZero_any H.out).mono ?_; rintro e w' ⟨rfl, rfl⟩)
  go_returns
  exact ⟨rfl, rfl⟩
/-- a net that is not there, or that nobody made -/
def Nob (w : World) (p : Option Addr) : Prop := p = none ∨ ∃ (b : Nat) (x : Int) (m : Value), p = some ⟨b, 0, none⟩ ∧ Whole w b 57 #[.pointer none, .int .u64 x, m]
theorem Nob.below {w w' : World} {p : Option Addr} (h : Nob w p) (hb : Below w.heap.size w w') : Nob w' p := by
  rcases h with h | ⟨b, x, m, h1, h2⟩
  · exact .inl h
  · exact .inr ⟨b, x, m, h1, h2.below hb h2.lt⟩
theorem nob_any {w : World} {p : Option Addr} (h : Nob w p) : Calls Try.prog 31 #[.pointer p] w fun e w' => e = .returned (.bool true) ∧ w' = w := by
  rcases h with rfl | ⟨b, x, m, rfl, h⟩
  · exact nobodysNil_any w
  · exact nobodysZero_any h
theorem nobSend_any (f t : Int) (v : Value) {w : World} {p : Option Addr} (h : Nob w p) : Calls Try.prog 9 #[.pointer p, .int .i64 f, .int .i64 t, v] w fun e w' => e = .returned (.tuple #[.int .u64 0, .int .i64 1]) ∧ w' = w := by
  rcases h with rfl | ⟨b, x, m, rfl, h⟩
  · exact sendNil_any f t v w
  · exact sendZero_any f t v h
set_option maxRecDepth 100000 in
theorem nobFind_any (x : Int) {w : World} {p : Option Addr} (h : Nob w p) : Calls Try.prog 35 #[.pointer p, .int .u64 x] w fun e w' => e = .returned (.tuple #[zeroL, .int .i64 1]) ∧ Below w.heap.size w w' := by
  have h1 : Nob (w.alloc (.cells #[.int .u64 0, .int .u64 0, .int .i64 0, .int .i64 0, .slice none 0 0] 32)) p := h.below ((Below.refl _ _).alloc (Nat.le_refl _) _)
  have H := Lib.hid h1
  clear h h1
  go_enter Try.func35, Try.ntmps35
  go_wp2_with (go_at_call 31; refine (nob_any H.out).mono ?_; rintro e w' ⟨rfl, rfl⟩)
  go_returns
  exact ⟨rfl, (Below.refl _ _).alloc (Nat.le_refl _) _⟩
/-- an empty letter in a new box -/
def newL (w : World) : World := w.alloc (.cells #[.int .u64 0, .int .u64 0, .int .i64 0, .int .i64 0, .slice none 0 0] 32)
theorem newL_whole (w : World) : Whole (newL w) w.heap.size 32 #[.int .u64 0, .int .u64 0, .int .i64 0, .int .i64 0, .slice none 0 0] := Whole.new w _ _
theorem newL_below (w : World) : Below w.heap.size w (newL w) := (Below.refl _ _).alloc (Nat.le_refl _) _
theorem newL_size (w : World) : (newL w).heap.size = w.heap.size + 1 := by simp [newL]

set_option maxHeartbeats 2000000 in
set_option maxRecDepth 100000 in
theorem nobDeliver_any (x : Int) {w : World} {p : Option Addr} (h : Nob w p) : Calls Try.prog 11 #[.pointer p, .int .u64 x] w fun e w' => e = .returned (.tuple #[zeroL, .int .i64 1]) ∧ Below w.heap.size w w' := by
  have H := Lib.hid (h.below (newL_below w))
  have HB := Lib.hid (newL_below w)
  have HWB := Lib.hid (newL_whole w)
  have HSZ := Lib.hid (newL_size w)
  clear h
  go_enter Try.func11, Try.ntmps11
  go_wp2_with fail
  go_at_call 35
  refine (nobFind_any (w := newL w) x H.out).mono ?_
  rintro e w1 ⟨rfl, hb⟩
  simp only [zeroL]
  have hw1 := HWB.out.below hb HWB.out.lt
  have HB1 := Lib.hid (HB.out.trans (hb.mono (by have := HSZ.out; omega)))
  obtain ⟨c0, c1, c2, c3, c4⟩ := cells5 hw1
  have f0 := hw1.frozen
  have hlt := hw1.lt
  have HW1 := Lib.hid hw1
  clear hb hw1
  go_upto_region 3 with fail
  have hw2 := HW1.out.alloc (.cells #[.int .u64 0, .int .u64 0, .int .i64 0, .int .i64 0, .slice none 0 0] 32)
  have hb2 := HB1.out.alloc HB1.out.size (.cells #[.int .u64 0, .int .u64 0, .int .i64 0, .int .i64 0, .slice none 0 0] 32)
  generalize w1.alloc (.cells #[.int .u64 0, .int .u64 0, .int .i64 0, .int .i64 0, .slice none 0 0] 32) = w2 at hw2 hb2 ⊢
  clear c0 c1 c2 c3 c4 f0 hlt
  obtain ⟨c0, c1, c2, c3, c4⟩ := cells5 hw2
  have f0 := hw2.frozen
  have HW2 := Lib.hid hw2
  have HB2 := Lib.hid hb2
  clear hw2 hb2
  go_wp2
  have hx := put5_whole HW2.out (.int .u64 0) (.int .u64 0) (.int .i64 0) (.int .i64 0) (.slice none 0 0)
  have hbx : Below w.heap.size w (put5 w2 w.heap.size (.int .u64 0) (.int .u64 0) (.int .i64 0) (.int .i64 0) (.slice none 0 0)) := put5_below HB2.out (Nat.le_refl _) _ _ _ _ _
  change bodyPost _ _ _ _ _ (put5 w2 w.heap.size (.int .u64 0) (.int .u64 0) (.int .i64 0) (.int .i64 0) (.slice none 0 0))
  generalize put5 w2 w.heap.size (.int .u64 0) (.int .u64 0) (.int .i64 0) (.int .i64 0) (.slice none 0 0) = W at hx hbx ⊢
  clear c0 c1 c2 c3 c4 f0
  obtain ⟨c0, c1, c2, c3, c4⟩ := cells5 hx
  refine bodyPost_ret (by simp [results, Try.results11, go_sem, c0, c1, c2, c3, c4]; try rfl) rfl ?_
  exact ⟨rfl, hbx⟩
end Go.Proofs.Ytkoalpbognpphaa
