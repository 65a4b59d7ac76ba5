/- slices.choosePivotOrdered over uint64: some place within; nothing that lay turns. -/
import Derived.Test.YtkoalpbognpphaaNRow
import Derived.Deep.QuietTactic
import Derived.BigQuiet
import Derived.Handy
namespace Go.Proofs.Ytkoalpbognpphaa
open Go.RowKit Go.Sort
set_option linter.unusedVariables false

/-- what choosePivot's helpers look at: the row's cells, and a counter in a box of its own -/
structure Pv (w0 : World) (g N sb : Nat) (G : Nat → Int) (w : World) (m : Nat) : Prop where
  gr : w0.grownBy w (some sb)
  cell : ∀ t, t < N → w.cell? ⟨g, t, none⟩ = some (.int .u64 (G t))
  box : ∃ s : Nat, s ≤ m ∧ Whole w sb 3 #[.int .i64 s]
  ne : g ≠ sb
theorem Pv.drewN {w0 w : World} {g N sb m : Nat} {G : Nat → Int} (h : Pv w0 g N sb G w m) (n : Nat) : Pv w0 g N sb G (w.drewN n) m := ⟨Only.drewN h.gr n, h.cell, h.box, h.ne⟩
theorem Pv.now {w0 w : World} {g N sb m : Nat} {G : Nat → Int} (h : Pv w0 g N sb G w m) : Pv w g N sb G w m := ⟨Only.refl w sb, h.cell, h.box, h.ne⟩
theorem Pv.trans {w0 w w' : World} {g N sb m m' : Nat} {G : Nat → Int} (h : Pv w0 g N sb G w m) (k : Pv w g N sb G w' m') : Pv w0 g N sb G w' m' := ⟨Only.trans h.gr k.gr, k.cell, k.box, k.ne⟩
theorem Pv.put {w0 w : World} {g N sb m s : Nat} {G : Nat → Int} (h : Pv w0 g N sb G w m) (hs : Whole w sb 3 #[.int .i64 s]) {x : Int} (hx : x = (s + 1 : Nat)) (hm : s ≤ m) : Pv w0 g N sb G (w.setCell ⟨sb, 0, none⟩ (.int .i64 x)) (m + 1) := by
  subst hx
  exact ⟨Only.put h.gr 0 _, fun t ht => (World.cell?_of_block (Below.heap_setCell w ⟨sb, 0, none⟩ _ g h.ne)).trans (h.cell t ht), ⟨s + 1, by omega, hs.put 0 _⟩, h.ne⟩

set_option maxHeartbeats 1000000 in
theorem order2_any {w : World} {g N sb m : Nat} {G : Nat → Int} (h : Pv w g N sb G w m) (hm : m ≤ 1000) (cap a b : Nat) (ha : a < N) (hb : b < N) (hN : N < 4611686018427387904) :
    Calls Try.prog 71 #[.slice (some ⟨g, 0, none⟩) N cap, .int .i64 a, .int .i64 b, .pointer (some ⟨sb, 0, none⟩)] w fun e w' =>
      (e = .returned (.tuple #[.int .i64 a, .int .i64 b]) ∨ e = .returned (.tuple #[.int .i64 b, .int .i64 a])) ∧ Pv w g N sb G w' (m + 1) := by
  have hcw := h.cell
  obtain ⟨s, hs, hbox⟩ := h.box
  have hc := hbox.cell 0
  have hf := hbox.frozen 0
  simp only [List.getElem?_toArray, List.getElem?_cons_zero] at hc
  have HB := Lib.hid hbox
  have HS := Lib.hid h
  clear h hbox
  go_enter Try.func71, Try.ntmps71
  go_wp2
  go_quiet (first | (go_at_call 60; refine Calls.quiet_of_same (less_any _ _ _)))
  go_wp2
  · go_returns
    exact ⟨.inr rfl, (HS.out.drewN _).put (HB.out.drewN _) (by omega) hs⟩
  · go_returns
    refine ⟨.inl rfl, ?_⟩
    have := HS.out.drewN nq
    exact ⟨this.gr, this.cell, ⟨s, by omega, HB.out⟩, this.ne⟩

/-- one of three -/
def One3 (x a b c : Nat) : Prop := x = a ∨ x = b ∨ x = c

set_option maxHeartbeats 2000000 in
theorem median_any {w : World} {g N sb m : Nat} {G : Nat → Int} (h : Pv w g N sb G w m) (hm : m ≤ 900) (cap a b c : Nat) (ha : a < N) (hb : b < N) (hc : c < N) (hN : N < 4611686018427387904) :
    Calls Try.prog 69 #[.slice (some ⟨g, 0, none⟩) N cap, .int .i64 a, .int .i64 b, .int .i64 c, .pointer (some ⟨sb, 0, none⟩)] w fun e w' =>
      (∃ x, One3 x a b c ∧ e = .returned (.int .i64 x)) ∧ Pv w g N sb G w' (m + 3) := by
  have two : ∀ {w1 : World} {k : Nat} (h1 : Pv w g N sb G w1 k) (hk : k ≤ 1000) (x y : Nat) (hx : x < N) (hy : y < N),
      Calls Try.prog 71 #[.slice (some ⟨g, 0, none⟩) N cap, .int .i64 x, .int .i64 y, .pointer (some ⟨sb, 0, none⟩)] w1 fun e w' => (∃ p q : Nat, (p = x ∧ q = y ∨ p = y ∧ q = x) ∧ e = .returned (.tuple #[.int .i64 p, .int .i64 q])) ∧ Pv w g N sb G w' (k + 1) :=
    fun h1 hk x y hx hy => (order2_any h1.now hk cap x y hx hy hN).mono (by
      rintro e w' ⟨he, h2⟩
      refine ⟨?_, h1.trans h2⟩
      rcases he with he | he
      · exact ⟨x, y, .inl ⟨rfl, rfl⟩, he⟩
      · exact ⟨y, x, .inr ⟨rfl, rfl⟩, he⟩)
  have h0 := h
  have H0 := Lib.hid h0
  clear h h0
  go_enter Try.func69, Try.ntmps69
  go_wp2_with fail
  go_at_call 71
  refine (two H0.out (by omega) a b ha hb).mono ?_
  rintro e w1 ⟨⟨p1, q1, e1, rfl⟩, h1⟩
  have H1 := Lib.hid h1
  have E1 := Lib.hid e1
  clear h1 e1
  have hp1 : p1 < N := by rcases E1.out with ⟨rfl, rfl⟩ | ⟨rfl, rfl⟩ <;> omega
  have hq1 : q1 < N := by rcases E1.out with ⟨rfl, rfl⟩ | ⟨rfl, rfl⟩ <;> omega
  go_wp2_with fail
  go_at_call 71
  refine (two H1.out (by omega) q1 c hq1 hc).mono ?_
  rintro e w2 ⟨⟨p2, q2, e2, rfl⟩, h2⟩
  have H2 := Lib.hid h2
  have E2 := Lib.hid e2
  clear h2 e2
  have hp2 : p2 < N := by rcases E2.out with ⟨rfl, rfl⟩ | ⟨rfl, rfl⟩ <;> omega
  go_wp2_with fail
  go_at_call 71
  refine (two H2.out (by omega) p1 p2 hp1 hp2).mono ?_
  rintro e w3 ⟨⟨p3, q3, e3, rfl⟩, h3⟩
  have H3 := Lib.hid h3
  have E3 := Lib.hid e3
  clear h3 e3
  go_wp2
  go_ret
  refine ⟨⟨q3, ?_, rfl⟩, H3.out⟩
  unfold One3
  rcases E1.out with ⟨rfl, rfl⟩ | ⟨rfl, rfl⟩ <;> rcases E2.out with ⟨rfl, rfl⟩ | ⟨rfl, rfl⟩ <;> rcases E3.out with ⟨rfl, rfl⟩ | ⟨rfl, rfl⟩ <;> simp

set_option maxHeartbeats 1000000 in
theorem adjacent_any {w : World} {g N sb m : Nat} {G : Nat → Int} (h : Pv w g N sb G w m) (hm : m ≤ 900) (cap a : Nat) (h0 : 1 ≤ a) (ha : a + 1 < N) (hN : N < 4611686018427387904) :
    Calls Try.prog 68 #[.slice (some ⟨g, 0, none⟩) N cap, .int .i64 a, .pointer (some ⟨sb, 0, none⟩)] w fun e w' =>
      (∃ x, One3 x (a - 1) a (a + 1) ∧ e = .returned (.int .i64 x)) ∧ Pv w g N sb G w' (m + 3) := by
  have ct : Calls Try.prog 69 #[.slice (some ⟨g, 0, none⟩) N cap, .int .i64 ((a : Int) - 1), .int .i64 a, .int .i64 ((a : Int) + 1), .pointer (some ⟨sb, 0, none⟩)] w fun e w' =>
      (∃ x, One3 x (a - 1) a (a + 1) ∧ e = .returned (.int .i64 x)) ∧ Pv w g N sb G w' (m + 3) := by
    have := median_any h hm cap (a - 1) a (a + 1) (by omega) (by omega) ha hN
    rwa [show ((a - 1 : Nat) : Int) = (a : Int) - 1 by omega, show ((a + 1 : Nat) : Int) = (a : Int) + 1 by omega] at this
  clear h
  have CT := Lib.hid ct
  clear ct
  go_enter Try.func68, Try.ntmps68
  go_wp2_with fail
  go_at_call 69
  refine CT.out.mono ?_
  rintro e w1 ⟨⟨x, hx, rfl⟩, h1⟩
  have H1 := Lib.hid h1
  clear h1
  go_wp2
  go_ret
  exact ⟨⟨x, hx, rfl⟩, H1.out⟩
end Go.Proofs.Ytkoalpbognpphaa
