/- The walk over the examples that every statement of the layer asks first. -/
import Derived.Test.YtihndehmagfidaaGo2
namespace Go.Proofs.Ytihndehmagfidaa
open Go.RowKit
set_option linter.unusedVariables false

set_option maxHeartbeats 800000 in
theorem lives_any (w : World) : Calls Try.prog 10 #[] w fun e w' => e = .returned (.bool true) ∧ Below w.heap.size w w' := by
  go_enter Try.func10, Try.ntmps10
  go_wp2_with fail
  have hb0 : Below w.heap.size w (w.alloc (.cells #[.int .u8 172, .int .u8 2, .int .u8 9] 5)) := (Below.refl _ _).alloc (Nat.le_refl _) _
  have hr0 := Rds.made w 5 [172, 2, 9] #[.int .u8 172, .int .u8 2, .int .u8 9] rfl
  generalize w.alloc (.cells #[.int .u8 172, .int .u8 2, .int .u8 9] 5) = w1 at *
  refine (readUint_any _ [172, 2, 9] 3 _ _ (by decide) (by unfold Byt; decide) hr0).mono ?_
  rintro e w1 ⟨rfl, rfl⟩
  rw [show dec 0 0 [172, 2, 9] = (300, 2, 0) from by decide +kernel]
  go_wp2_with fail
  have hb1 := hb0.alloc hb0.size (.cells #[.int .u8 1, .int .u8 2, .int .u8 97, .int .u8 98, .int .u8 7] 5)
  have hr1 := Rds.made w1 5 [1, 2, 97, 98, 7] #[.int .u8 1, .int .u8 2, .int .u8 97, .int .u8 98, .int .u8 7] rfl
  have hs1 : (w1.alloc (.cells #[.int .u8 1, .int .u8 2, .int .u8 97, .int .u8 98, .int .u8 7] 5)).heap.size = w1.heap.size + 1 := by simp
  rw [← hs1] at hr1
  clear hs1
  generalize w1.alloc (.cells #[.int .u8 1, .int .u8 2, .int .u8 97, .int .u8 98, .int .u8 7] 5) = w2 at *
  refine (new_any _ [1, 2, 97, 98, 7] 5 _ (by decide) (by decide) (by intro h; cases h) (by unfold Byt; decide) hr1).mono ?_
  rintro e w3 ⟨g, A', c', rfl, hg1, hg2, hrd, hb3⟩
  have hb4 := hb1.trans (hb3.mono hb1.size)
  go_wp2_with fail
  refine (appUint_any none [] 0 300 _ (by omega) (by omega) (by decide) (by decide) (fun _ => ⟨rfl, rfl⟩) Rds.nil_).mono ?_
  rintro e w4 ⟨v, rfl, hown, hb5⟩
  have hb6 := hb4.trans (hb5.mono hb4.size)
  have hrd4 := hrd.below hb5 hg2
  obtain ⟨A4, c4, rfl, hr4, hc4, hm4, hn4⟩ := own_open hown
  go_wp2_with fail
  have hr5 := Rds.made w4 5 [172, 2] #[.int .u8 172, .int .u8 2] rfl
  have hr6 := (hr4.alloc (Nat.le_refl _) (.cells #[.int .u8 172, .int .u8 2] 5)).more (Nat.le_succ w4.heap.size)
  have hb7 := hb6.alloc hb6.size (.cells #[.int .u8 172, .int .u8 2] 5)
  have hrd5 := hrd4.below (Below.alloc (Below.refl w4.heap.size w4) (Nat.le_refl _) (.cells #[.int .u8 172, .int .u8 2] 5)) hrd4.1.lt
  generalize w4.alloc (.cells #[.int .u8 172, .int .u8 2] 5) = w5 at *
  refine (sameBytes_any A4 _ (enc 300) [172, 2] c4 2 (w4.heap.size + 1) _ (by decide) (by decide) hr6 hr5).mono ?_
  rintro e w6 ⟨rfl, n6, rfl⟩
  rw [show same8 (enc 300) [172, 2] = true from by decide +kernel]
  go_wp2_with fail
  refine (bool_go (k := 0) (hrd5.drewN n6) (by decide)).mono ?_
  rintro e w7 ⟨rfl, hrd7, hg7⟩
  rw [show (truth (List.drop 0 [1, 2, 97, 98, 7])) = (true, 1, 0) from rfl] at hrd7 ⊢
  go_wp2_with fail
  refine (text_go (k := 1) hrd7 (by decide)).mono ?_
  rintro e w8 ⟨rfl, hrd8, hg8⟩
  rw [show (textOf (List.drop 1 [1, 2, 97, 98, 7])) = ([97, 98], 3, 0) from by decide +kernel] at hrd8 ⊢
  rw [show strOfNums [97, 98] = ⟨#[97, 98]⟩ from rfl]
  go_wp2_with fail
  refine (uint_go (k := 4) hrd8 (by decide) (X := 7) (n := 1) (E := 0) (by decide +kernel) (by decide)).mono ?_
  rintro e w9 ⟨rfl, hrd9, hg9⟩
  go_wp2_with fail
  refine (done_go (k := 5) hrd9 (by decide)).mono ?_
  rintro e w10 ⟨rfl, hrd10, hg10⟩
  rw [show left 5 ([1, 2, 97, 98, 7] : List Int).length = 0 from rfl]
  go_wp2
  go_ret
  have hgg := Only.trans (Only.trans hg7 hg8) (Only.trans hg9 hg10)
  have hw : w.heap.size ≤ g := Nat.le_trans hb1.size hg1
  exact ⟨rfl, (hb7.trans (⟨rfl, rfl, rfl, Nat.le_refl _, fun _ _ => rfl⟩ : Below w.heap.size w5 (w5.drewN n6))).grown hgg hb7.size (fun k hk => by cases hk; exact hw)⟩
end Go.Proofs.Ytihndehmagfidaa
