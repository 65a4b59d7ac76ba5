/- Calls of a disk that is not there, or that nobody made. -/
import Derived.Test.YtnpomiidkdnebaaDOk
namespace Go.Proofs.Ytnpomiidkdnebaa
open Go.RowKit
set_option linter.unusedVariables false

theorem Nobody.below {w w' : World} {p : Option Addr} (h : Nobody w p) (hl : ∀ d, p = some d → d.block < w.heap.size) (hb : Below w.heap.size w w') : Nobody w' p := by
  rcases h with rfl | ⟨d, rfl, h⟩
  · exact .inl rfl
  · exact .inr ⟨d, rfl, (hb.cell (p := ⟨d, 0, none⟩) (hl _ rfl)).trans h⟩

section
variable {w : World} {p : Option Addr}
set_option maxRecDepth 5000 in
theorem make_no (h : Nobody w p) (hl : ∀ d, p = some d → d.block < w.heap.size) (s : ByteArray) : Calls Try.prog 10 #[.pointer p, .string s] w fun e w' => e = .returned (.int .i64 1) ∧ Below w.heap.size w w' := by
  have hb : Below w.heap.size w (((w.alloc (.cells #[.pointer p] 23)).alloc (.cells #[.string s] 9)).alloc (.cells #[.string s] 9)) := (((Below.refl _ w).alloc (Nat.le_refl _) _).alloc (by simp) _).alloc (by simp; omega) _
  have hcon := fun v => refusal_no p v _ (h.below hl hb)
  have HB := Lib.hid hb
  clear hb h hl
  go_enter Try.func10, Try.ntmps10
  go_wp2_with fail
  refine (hcon _).mono ?_
  rintro e w' ⟨rfl, rfl⟩
  go_wp2
  go_returns
  exact ⟨by simp, HB.out⟩
set_option maxRecDepth 5000 in
theorem rename_no (h : Nobody w p) (hl : ∀ d, p = some d → d.block < w.heap.size) (s r : ByteArray) : Calls Try.prog 19 #[.pointer p, .string s, .string r] w fun e w' => e = .returned (.int .i64 1) ∧ Below w.heap.size w w' := by
  have hb : Below w.heap.size w ((((w.alloc (.cells #[.pointer p] 23)).alloc (.cells #[.string s] 9)).alloc (.cells #[.string r] 9)).alloc (.cells #[.string s, .string r] 9)) := ((((Below.refl _ w).alloc (Nat.le_refl _) _).alloc (by simp) _).alloc (by simp; omega) _).alloc (by simp; omega) _
  have hcon := fun v => refusal_no p v _ (h.below hl hb)
  have HB := Lib.hid hb
  clear hb h hl
  go_enter Try.func19, Try.ntmps19
  go_wp2_with fail
  refine (hcon _).mono ?_
  rintro e w' ⟨rfl, rfl⟩
  go_wp2
  go_returns
  exact ⟨by simp, HB.out⟩
theorem fuse_no (h : Nobody w p) (_ : ∀ d, p = some d → d.block < w.heap.size) (n : Int) : Calls Try.prog 16 #[.pointer p, .int .i64 n] w fun e w' => e = .returned (.int .i64 1) ∧ w' = w := by
  have hcon := fun v => refusal_no p v w h
  clear h
  go_enter Try.func16, Try.ntmps16
  go_wp2_with fail
  refine (hcon _).mono ?_
  rintro e w' ⟨rfl, rfl⟩
  go_wp2
  go_returns
  exact ⟨by simp, rfl⟩
set_option maxRecDepth 5000 in
theorem remove_no (h : Nobody w p) (hl : ∀ d, p = some d → d.block < w.heap.size) (s : ByteArray) : Calls Try.prog 26 #[.pointer p, .string s] w fun e w' => e = .returned (.int .i64 1) ∧ Below w.heap.size w w' := by
  have hb : Below w.heap.size w ((w.alloc (.cells #[.pointer p] 23)).alloc (.cells #[.string s] 9)) := ((Below.refl _ w).alloc (Nat.le_refl _) _).alloc (by simp) _
  have hcon := find_no p s _ (h.below hl hb)
  generalize hW : (w.alloc (.cells #[.pointer p] 23)).alloc (.cells #[.string s] 9) = W at *
  have HW := Lib.hid hW
  clear hW h hl
  go_enter Try.func26, Try.ntmps26
  go_wp2_with fail
  rw [HW.out]
  refine hcon.mono ?_
  rintro e w' ⟨rfl, hb1⟩
  go_wp2
  go_returns
  exact ⟨by simp, hb.trans (hb1.mono hb.size)⟩
set_option maxRecDepth 5000 in
theorem sync_no (h : Nobody w p) (_ : ∀ d, p = some d → d.block < w.heap.size) (s : ByteArray) : Calls Try.prog 12 #[.pointer p, .string s] w fun e w' => e = .returned (.int .i64 1) ∧ Below w.heap.size w w' := by
  have hcon := find_no p s w h
  clear h
  go_enter Try.func12, Try.ntmps12
  go_wp2_with fail
  refine hcon.mono ?_
  rintro e w' ⟨rfl, hb1⟩
  go_wp2
  go_returns
  exact ⟨by simp, hb1.alloc hb1.size _⟩
theorem read_no (h : Nobody w p) (_ : ∀ d, p = some d → d.block < w.heap.size) (s : ByteArray) : Calls Try.prog 14 #[.pointer p, .string s] w fun e w' => e = .returned (.tuple #[.slice none 0 0, .int .i64 1]) ∧ Below w.heap.size w w' := by
  have hcon := find_no p s w h
  clear h
  go_enter Try.func14, Try.ntmps14
  go_wp2_with fail
  refine hcon.mono ?_
  rintro e w' ⟨rfl, hb1⟩
  go_wp2
  go_returns
  exact ⟨by simp, hb1⟩
theorem synced_no (h : Nobody w p) (_ : ∀ d, p = some d → d.block < w.heap.size) (s : ByteArray) : Calls Try.prog 15 #[.pointer p, .string s] w fun e w' => e = .returned (.tuple #[.int .i64 0, .int .i64 1]) ∧ Below w.heap.size w w' := by
  have hcon := find_no p s w h
  clear h
  go_enter Try.func15, Try.ntmps15
  go_wp2_with fail
  refine hcon.mono ?_
  rintro e w' ⟨rfl, hb1⟩
  go_wp2
  go_returns
  exact ⟨by simp, hb1⟩
set_option maxRecDepth 5000 in
theorem append_no (h : Nobody w p) (hl : ∀ d, p = some d → d.block < w.heap.size) (s : ByteArray) (v : Value) : Calls Try.prog 11 #[.pointer p, .string s, v] w fun e w' => e = .returned (.int .i64 1) ∧ Below w.heap.size w w' := by
  have hb : Below w.heap.size w ((w.alloc (.cells #[.pointer p] 23)).alloc (.cells #[.int .i64 0] 24)) := ((Below.refl _ w).alloc (Nat.le_refl _) _).alloc (by simp) _
  have hcon := find_no p s _ (h.below hl hb)
  have x2 : Whole ((w.alloc (.cells #[.pointer p] 23)).alloc (.cells #[.int .i64 0] 24)) (w.heap.size + 1) 24 #[.int .i64 0] := by
    have := Whole.new (w.alloc (.cells #[.pointer p] 23)) 24 #[.int .i64 0]
    rw [World.size_alloc] at this
    exact this
  generalize hW : (w.alloc (.cells #[.pointer p] 23)).alloc (.cells #[.int .i64 0] 24) = W at *
  have HW := Lib.hid hW
  clear hW h hl
  go_enter Try.func11, Try.ntmps11
  go_wp2_with fail
  rw [HW.out]
  refine hcon.mono ?_
  rintro e w1 ⟨rfl, hb1⟩
  have hb2 : Below w.heap.size w w1 := hb.trans (hb1.mono hb.size)
  have y2 := x2.below hb1 x2.lt
  have k3 : (w1.alloc (.cells #[.pointer none] 66)).cell? ⟨w.heap.size + 1, 0, none⟩ = some (.int .i64 0) := (y2.alloc _).cell 0
  have k4 : (w1.alloc (.cells #[.pointer none] 66)).frozen? ⟨w.heap.size + 1, 0, none⟩ = false := (y2.alloc _).frozen 0
  have hb3 : Below w.heap.size w ((w1.alloc (.cells #[.pointer none] 66)).setCell ⟨w.heap.size + 1, 0, none⟩ (.int .i64 1)) := (hb2.alloc hb2.size _).setCell (p := ⟨w.heap.size + 1, 0, none⟩) (Nat.le_succ _) _
  have hcell : ((w1.alloc (.cells #[.pointer none] 66)).setCell ⟨w.heap.size + 1, 0, none⟩ (.int .i64 1)).cell? ⟨w.heap.size + 1, 0, none⟩ = some (.int .i64 1) := ((y2.alloc _).put 0 _).cell 0
  have HB := Lib.hid hb3
  clear hb3 x2 y2 hcon hb hb1 hb2 HW
  go_wp2
  (try simp only [Exit.inBlock, Exit.then])
  refine bodyPost_ret (by simp [results, Try.results11, go_sem, hcell]; try rfl) rfl ?_
  exact ⟨rfl, HB.out⟩
end
end Go.Proofs.Ytnpomiidkdnebaa
