/- The walks over the methods of a wire.Reader that has not stopped. -/
import Derived.Test.YtihndehmagfidaaStop
namespace Go.Proofs.Ytihndehmagfidaa
open Go.RowKit
set_option linter.unusedVariables false

section
variable {w : World} {g c k : Nat} {A : Option Addr} {zs : List Int}

/-- number, with its answer named -/
theorem number_at (h : RD w g A c zs k 0) (hk : k ≤ zs.length) (most : Int) (hm0 : 0 ≤ most) (hm1 : most ≤ 18446744073709551615) {X : Int} {n : Nat} {E : Int} (hn : num most (zs.drop k) = (X, (n : Int), E)) :
    Calls Try.prog 46 #[.pointer (some ⟨g, 0, none⟩), .int .u64 most] w fun r w' =>
      r = .returned (.tuple #[.int .u64 X, .int .i64 n]) ∧ RD w' g A c zs k E ∧ w.grownBy w' (some g) := by
  have := number_any h most hm0 hm1 hk
  rwa [hn] at this

set_option maxHeartbeats 400000 in
theorem uint_go (h : RD w g A c zs k 0) (hk : k ≤ zs.length) {X : Int} {n : Nat} {E : Int} (hn : num 18446744073709551615 (zs.drop k) = (X, (n : Int), E)) (hle : k + n ≤ zs.length) :
    Calls Try.prog 19 #[.pointer (some ⟨g, 0, none⟩)] w fun r w' => r = .returned (.int .u64 X) ∧ RD w' g A c zs (k + n : Nat) E ∧ w.grownBy w' (some g) := by
  have H := Lib.hid (number_at h hk _ (by omega) (by omega) hn)
  have HS : Hid (Stp w (some ⟨g, 0, none⟩) false) := Lib.hid h.ers.on
  have hl := h.2.2.2.1
  clear h hn
  go_enter Try.func19, Try.ntmps19
  go_wp2_with fail
  refine HS.out.now.mono ?_
  rintro e w1 ⟨rfl, rfl⟩
  go_wp2_with fail
  refine H.out.mono ?_
  rintro e w2 ⟨rfl, hrd, hg⟩
  have h2 := hrd.c2
  have hf := hrd.f 2
  go_wp2
  go_ret
  exact ⟨rfl, by rw [Int.natCast_add]; exact hrd.setP _, Only.put hg 2 _⟩

set_option maxHeartbeats 400000 in
theorem count_neg (h : RD w g A c zs k 0) (most : Int) (hm : most < 0) :
    Calls Try.prog 36 #[.pointer (some ⟨g, 0, none⟩), .int .i64 most] w fun r w' => r = .returned (.int .i64 0) ∧ RD w' g A c zs k 2 ∧ w.grownBy w' (some g) := by
  have HS : Hid (Stp w (some ⟨g, 0, none⟩) false) := Lib.hid h.ers.on
  have h3 := h.c3
  have hf := h.f 3
  have H := Lib.hid h
  clear h
  go_enter Try.func36, Try.ntmps36
  go_wp2_with fail
  refine HS.out.now.mono ?_
  rintro e w1 ⟨rfl, rfl⟩
  go_wp2
  go_ret
  exact ⟨rfl, H.out.setE _, Only.put (Only.refl _ _) 3 _⟩

set_option maxHeartbeats 400000 in
theorem count_go (h : RD w g A c zs k 0) (hk : k ≤ zs.length) (most : Int) (hm : 0 ≤ most) (hm1 : most ≤ 9223372036854775807) {X : Int} {n : Nat} {E : Int} (hn : num most (zs.drop k) = (X, (n : Int), E)) (hX0 : 0 ≤ X) (hX1 : X ≤ most) (hle : k + n ≤ zs.length) :
    Calls Try.prog 36 #[.pointer (some ⟨g, 0, none⟩), .int .i64 most] w fun r w' => r = .returned (.int .i64 X) ∧ RD w' g A c zs (k + n : Nat) E ∧ w.grownBy w' (some g) := by
  have H := Lib.hid (number_at h hk _ (by omega) (by omega) hn)
  have HS : Hid (Stp w (some ⟨g, 0, none⟩) false) := Lib.hid h.ers.on
  have hl := h.2.2.2.1
  clear h hn
  go_enter Try.func36, Try.ntmps36
  go_wp2_with fail
  refine HS.out.now.mono ?_
  rintro e w1 ⟨rfl, rfl⟩
  go_wp2_with fail
  refine H.out.mono ?_
  rintro e w2 ⟨rfl, hrd, hg⟩
  have h2 := hrd.c2
  have hf := hrd.f 2
  go_wp2
  go_ret
  exact ⟨rfl, by rw [Int.natCast_add]; exact hrd.setP _, Only.put hg 2 _⟩

theorem fail_go (h : RD w g A c zs k 0) (E : Int) :
    Calls Try.prog 38 #[.pointer (some ⟨g, 0, none⟩), .int .i64 E] w fun r w' => r = .returned (.tuple #[]) ∧ RD w' g A c zs k E ∧ w.grownBy w' (some g) := by
  have HS : Hid (Stp w (some ⟨g, 0, none⟩) false) := Lib.hid h.ers.on
  have h3 := h.c3
  have hf := h.f 3
  have H := Lib.hid h
  clear h
  go_enter Try.func38, Try.ntmps38
  go_wp2_with fail
  refine HS.out.now.mono ?_
  rintro e w1 ⟨rfl, rfl⟩
  go_wp2
  go_end0
  exact ⟨rfl, H.out.setE _, Only.put (Only.refl _ _) 3 _⟩
end
end Go.Proofs.Ytihndehmagfidaa
