/- The walk over the kit's Pick: what it picks lies below what it may pick from. No condition but that the numbers are of their types. -/
import Derived.Test.YtconfkjchjcjgaaKit
namespace Go.Proofs.Ytconfkjchjcjgaa
open Go.RowKit Go.Lib
set_option linter.unusedVariables false

theorem pick_any (x n : Int) (w : World) (h1 : 1 ≤ n) (h2 : n ≤ 4611686018427387904) (hx : -9223372036854775808 ≤ x ∧ x ≤ 9223372036854775807) :
    Calls Try.prog 24 #[.int .i64 x, .int .i64 n] w fun e w' => (∃ r : Nat, e = .returned (.int .i64 r) ∧ (r : Int) < n) ∧ w' = w := by
  have hx1 := hx.1
  have hx2 := hx.2
  clear hx
  have hm1 : -n < Int.tmod x n := by have := Int.tmod_lt_of_pos (-x) (show 0 < n by omega); rw [Int.neg_tmod] at this; omega
  have hm2 : Int.tmod x n < n := Int.tmod_lt_of_pos x (by omega)
  have hn0 : ¬ n = 0 := by omega
  have hn1 : ¬ n = -1 := by omega
  go_enter Try.func24, Try.ntmps24
  go_wp2
  go_ret
  have hm3 := Int.emod_nonneg (x.tmod n + n) hn0
  have hm4 := Int.emod_lt_of_pos (x.tmod n + n) (show 0 < n by omega)
  exact ⟨⟨((x.tmod n + n) % n).toNat, by rw [Int.toNat_of_nonneg hm3]; rfl, by rw [Int.toNat_of_nonneg hm3]; exact hm4⟩, rfl⟩

theorem Whole.reads {w : World} {g : Nat} {t : TypeId} {zs : List Int} (h : Whole w g t (c8 zs).toArray) : Rds w w.heap.size (some ⟨g, 0, none⟩) (c8 zs) := by
  intro _
  refine ⟨_, rfl, h.lt, fun j u hu => ?_⟩
  have hadd : (⟨g, 0, none⟩ : Addr).add j = ⟨g, j, none⟩ := by unfold Addr.add; split <;> simp_all
  rw [hadd, h.cell j]
  simpa using hu


end Go.Proofs.Ytconfkjchjcjgaa
