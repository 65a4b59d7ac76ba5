/- slices.breakPatternsOrdered over uint64: a permutation. -/
import Derived.Test.YtkoalpbognpphaaNRev
import Derived.Test.YtkoalpbognpphaaShelf
import Derived.Deep.LoopGhost
import Derived.Handy
import Derived.Lib.BitFns
import Derived.Laws.BitsAllLaws
namespace Go.Proofs.Ytkoalpbognpphaa
open Go.RowKit Go.Sort
set_option linter.unusedVariables false

/-- a number of 64 bits -/
def U64 (x : Int) : Prop := 0 ≤ x ∧ x ≤ 18446744073709551615

theorem wrap_u64 (n : Int) : U64 (IntKind.u64.wrap n) := by rw [IntKind.wrap_u64]; unfold U64; omega
theorem div_u64 {n : Int} (h : U64 n) : U64 (n / 128) := by unfold U64 at *; omega
theorem xor_u64 (a b : Int) (ha : U64 a) (hb : U64 b) : U64 (bits .xor .u64 a b) := by
  unfold U64 at *
  rw [Go.u64_xor a b ha.1 (by omega) hb.1 (by omega)]
  have := Nat.xor_lt_two_pow (x := a.toNat) (y := b.toNat) (n := 64) (by omega) (by omega)
  omega
theorem and_u64 (a b : Int) (ha : U64 a) (hb : U64 b) : ∃ k : Nat, bits .and .u64 a b = (k : Int) ∧ (k : Int) ≤ b := by
  unfold U64 at *
  refine ⟨a.toNat &&& b.toNat, Go.u64_and a b ha.1 (by omega) hb.1 (by omega), ?_⟩
  have : a.toNat &&& b.toNat ≤ b.toNat := Nat.and_le_right
  omega

set_option maxHeartbeats 1000000 in
theorem next_any {w : World} {sb : Nat} {x : Int} (hx : U64 x) (h : Whole w sb 95 #[.int .u64 x]) :
    Calls Try.prog 67 #[.pointer (some ⟨sb, 0, none⟩)] w fun e w' => ∃ y, U64 y ∧ e = .returned (.int .u64 y) ∧ w.grownBy w' (some sb) ∧ Whole w' sb 95 #[.int .u64 y] := by
  have hc := h.cell 0
  have hf := h.frozen 0
  simp only [List.getElem?_toArray, List.getElem?_cons_zero] at hc
  have HH := Lib.hid h
  have HX := Lib.hid hx
  clear h hx
  go_enter Try.func67, Try.ntmps67
  go_wp2
  go_region
  have hU1 : U64 (bits BinOp.xor IntKind.u64 x (IntKind.u64.wrap (x * 8192))) := xor_u64 _ _ HX.out (wrap_u64 _)
  generalize bits BinOp.xor IntKind.u64 x (IntKind.u64.wrap (x * 8192)) = y1 at hU1 ⊢
  have hw1 : Whole (w.setCell ⟨sb, 0, none⟩ (.int .u64 y1)).drew sb 95 #[.int .u64 y1] := HH.out.put 0 _
  have hg1 : w.grownBy (w.setCell ⟨sb, 0, none⟩ (.int .u64 y1)).drew (some sb) := Only.drew (Only.put (Only.refl w sb) 0 _)
  generalize (w.setCell ⟨sb, 0, none⟩ (.int .u64 y1)).drew = w1 at hw1 hg1 ⊢
  have HY1 := Lib.hid hU1
  have HG1 := Lib.hid hg1
  have HW1 := Lib.hid hw1
  have hc1 := hw1.cell 0
  have hf1 := hw1.frozen 0
  simp only [List.getElem?_toArray, List.getElem?_cons_zero] at hc1
  clear hU1 hg1 hw1 hc hf
  go_wp2
  go_region
  have hU2 : U64 (bits BinOp.xor IntKind.u64 y1 (y1 / 128)) := xor_u64 _ _ HY1.out (div_u64 HY1.out)
  generalize bits BinOp.xor IntKind.u64 y1 (y1 / 128) = y2 at hU2 ⊢
  have hw2 : Whole (w1.setCell ⟨sb, 0, none⟩ (.int .u64 y2)).drew sb 95 #[.int .u64 y2] := HW1.out.put 0 _
  have hg2 : w.grownBy (w1.setCell ⟨sb, 0, none⟩ (.int .u64 y2)).drew (some sb) := Only.drew (Only.put HG1.out 0 _)
  generalize (w1.setCell ⟨sb, 0, none⟩ (.int .u64 y2)).drew = w2 at hw2 hg2 ⊢
  have HY2 := Lib.hid hU2
  have HG2 := Lib.hid hg2
  have HW2 := Lib.hid hw2
  have hc2 := hw2.cell 0
  have hf2 := hw2.frozen 0
  simp only [List.getElem?_toArray, List.getElem?_cons_zero] at hc2
  clear hU2 hg2 hw2 hc1 hf1
  go_wp2
  go_region
  have hU3 : U64 (bits BinOp.xor IntKind.u64 y2 (IntKind.u64.wrap (y2 * 131072))) := xor_u64 _ _ HY2.out (wrap_u64 _)
  generalize bits BinOp.xor IntKind.u64 y2 (IntKind.u64.wrap (y2 * 131072)) = y3 at hU3 ⊢
  have hw3 : Whole (w2.setCell ⟨sb, 0, none⟩ (.int .u64 y3)).drew sb 95 #[.int .u64 y3] := HW2.out.put 0 _
  have hg3 : w.grownBy (w2.setCell ⟨sb, 0, none⟩ (.int .u64 y3)).drew (some sb) := Only.drew (Only.put HG2.out 0 _)
  generalize (w2.setCell ⟨sb, 0, none⟩ (.int .u64 y3)).drew = w3 at hw3 hg3 ⊢
  have HY3 := Lib.hid hU3
  have HG3 := Lib.hid hg3
  have HW3 := Lib.hid hw3
  have hc3 := hw3.cell 0
  have hf3 := hw3.frozen 0
  simp only [List.getElem?_toArray, List.getElem?_cons_zero] at hc3
  clear hU3 hg3 hw3 hc2 hf2
  go_wp2
  go_ret
  exact ⟨y3, HY3.out, rfl, HG3.out, HW3.out⟩

theorem pow_len : ∀ (n : Nat), 1 ≤ n → n < 18446744073709551616 → 2 ^ (Lib.bitLen n) ≤ 2 * n := by
  intro n
  induction n using Nat.strongRecOn with
  | ind n ih =>
    intro h1 h2
    rw [Lib.bitLen_half n (by omega) (by omega)]
    by_cases h : n = 1
    · subst h
      decide
    · have := ih (n / 2) (by omega) (by omega) (by omega)
      rw [Nat.pow_add]
      omega

set_option maxHeartbeats 1000000 in
theorem nextpow_any (n : Nat) (w : World) (h1 : 1 ≤ n) (h2 : n < 4611686018427387904) :
    Calls Try.prog 66 #[.int .i64 n] w fun e w' => (∃ m : Nat, 1 ≤ m ∧ m ≤ 2 * n ∧ e = .returned (.int .u64 m)) ∧ w' = w := by
  have hp := pow_len n h1 (by omega)
  obtain ⟨k, hk⟩ : ∃ k, Lib.bitLen n = k := ⟨_, rfl⟩
  rw [hk] at hp
  have hpos : 1 ≤ 2 ^ k := Nat.one_le_two_pow
  have hk64 : k < 64 := by
    rcases Nat.lt_or_ge k 64 with h | h
    · exact h
    · have := Nat.pow_le_pow_right (n := 2) (by omega) h
      omega
  have hw : IntKind.u64.wrap (n : Int) = (n : Int) := by rw [IntKind.wrap_u64]; omega
  have hwp : IntKind.u64.wrap ((2 : Int) ^ k) = (2 : Int) ^ k := by
    have : ((2 : Int) ^ k) = ((2 ^ k : Nat) : Int) := by push_cast; rfl
    rw [this, IntKind.wrap_u64]; omega
  have HP := Lib.hid hp
  have HPO := Lib.hid hpos
  clear hp hpos
  go_enter Try.func66, Try.ntmps66
  go_wp2_with (go_at_call 53; refine (Try.bits_Len _ _ (by omega) (by omega)).mono ?_; rintro e w' ⟨rfl, rfl⟩; simp only [Int.toNat_natCast]; rw [hk])
  go_ret
  refine ⟨⟨2 ^ k, HPO.out, HP.out, ?_⟩, rfl⟩
  simp
end Go.Proofs.Ytkoalpbognpphaa
