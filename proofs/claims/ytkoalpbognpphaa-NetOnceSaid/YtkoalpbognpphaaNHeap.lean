/- slices.heapSortOrdered over uint64. -/
import Derived.Test.YtkoalpbognpphaaNRow
import Derived.Deep.QuietTactic
import Derived.BigQuiet
import Derived.Deep.LoopGhost
import Derived.IntWalk
import Derived.Handy
namespace Go.Proofs.Ytkoalpbognpphaa
open Go.RowKit Go.Sort
set_option linter.unusedVariables false

section
variable {α : Type} [Inhabited α] (lt : α → α → Bool)
theorem sift_end {hi F r : Nat} (d : Array α) (h : hi ≤ 2 * r + 1) : siftDown lt hi F r d = d := by rw [siftDown, dif_pos h]
/-- the child that is looked at is c -/
theorem sift_at {hi F r c : Nat} (d : Array α) (h : ¬ hi ≤ 2 * r + 1)
    (hc : (c = 2 * r + 1 ∧ (2 * r + 2 < hi → lt d[F + (2 * r + 1)]! d[F + (2 * r + 2)]! = false)) ∨ (c = 2 * r + 2 ∧ 2 * r + 2 < hi ∧ lt d[F + (2 * r + 1)]! d[F + (2 * r + 2)]! = true)) :
    siftDown lt hi F r d = if lt d[F + r]! d[F + c]! = true then siftDown lt hi F c (Sort.swp d (F + r) (F + c)) else d := by
  rw [siftDown, dif_neg h, show F + (2 * r + 1) + 1 = F + (2 * r + 2) by omega, show 2 * r + 1 + 1 = 2 * r + 2 by omega]
  rcases hc with ⟨rfl, hc⟩ | ⟨rfl, h2, hc⟩
  · by_cases h2 : 2 * r + 2 < hi
    · rw [hc h2]
      cases lt d[F + r]! d[F + (2 * r + 1)]! <;> simp
    · simp only [h2, decide_false, Bool.false_and]
      cases lt d[F + r]! d[F + (2 * r + 1)]! <;> simp
  · rw [hc]
    simp only [h2, decide_true, Bool.true_and, if_true]
    cases lt d[F + r]! d[F + (2 * r + 2)]! <;> simp
theorem sift_size (hi F : Nat) : ∀ (n r : Nat) (d : Array α), hi - r ≤ n → (siftDown lt hi F r d).size = d.size := by
  intro n
  induction n with
  | zero => intro r d h; rw [sift_end lt d (by omega)]
  | succ n ih =>
    intro r d h
    by_cases he : hi ≤ 2 * r + 1
    · rw [sift_end lt d he]
    · have key : ∃ c, c ≤ 2 * r + 2 ∧ 2 * r + 1 ≤ c ∧ siftDown lt hi F r d = if lt d[F + r]! d[F + c]! = true then siftDown lt hi F c (Sort.swp d (F + r) (F + c)) else d := by
        by_cases h2 : 2 * r + 2 < hi ∧ lt d[F + (2 * r + 1)]! d[F + (2 * r + 2)]! = true
        · exact ⟨2 * r + 2, by omega, by omega, sift_at lt d he (.inr ⟨rfl, h2.1, h2.2⟩)⟩
        · exact ⟨2 * r + 1, by omega, by omega, sift_at lt d he (.inl ⟨rfl, fun h3 => by
            cases hq : lt d[F + (2 * r + 1)]! d[F + (2 * r + 2)]! with
            | false => rfl
            | true => exact absurd ⟨h3, hq⟩ h2⟩)⟩
      obtain ⟨c, hc1, hc2, hk⟩ := key
      rw [hk]
      split
      · rw [ih c _ (by omega), Sort.size_swp]
      · rfl
end

set_option maxHeartbeats 8000000 in
set_option maxRecDepth 1000000 in
theorem sift_any {g c N : Nat} {d : Array Int} {w : World} (h : SR w g c N w d) (cap lo hi F : Nat) (hlo : lo ≤ hi) (hb : F + hi ≤ N) (hN : N < 4611686018427387904) :
    Calls Try.prog 65 #[.slice (some ⟨g, 0, none⟩) N cap, .int .i64 lo, .int .i64 hi, .int .i64 F] w fun e w' => e = .returned (.tuple #[]) ∧ SR w g c N w' (Sort.siftDown ltInt hi F lo d) := by
  have HS := Lib.hid h
  clear h
  go_enter Try.func65, Try.ntmps65
  go_wp2
  go_loopw [8] (fun vi wr => ∃ (r : Nat) (dk : Array Int), vi = .int .i64 r ∧ r ≤ hi ∧ SR w g c N wr dk ∧ siftDown ltInt hi F r dk = siftDown ltInt hi F lo d) (fun vi _ => hi + 1 - (intOf vi).toNat)
  case atStart => exact ⟨lo, d, rfl, hlo, HS.out, rfl⟩
  case round =>
    obtain ⟨r, dk, rfl, hrb, hk, hO⟩ := hrel
    obtain ⟨G, hG, hcw, hfw⟩ := hk.names
    have HK := Lib.hid hk
    have HG := Lib.hid hG
    have HO := Lib.hid hO
    clear hk hG hO
    by_cases he : hi ≤ 2 * r + 1
    · have he' : (hi : Int) ≤ 2 * (r : Int) + 1 := by omega
      go_wp2
      go_end0
      exact ⟨rfl, by rw [← HO.out, sift_end ltInt dk he]; exact HK.out⟩
    · have he' : ¬ (hi : Int) ≤ 2 * (r : Int) + 1 := by omega
      have i0 : F + r < N := by omega
      have w0 : IntKind.i64.wrap ((F : Int) + (r : Int)) = (F : Int) + r := IntWalk.i64_in _ (by omega)
      have q0 : (F : Int) + (r : Int) < (N : Int) := by omega
      have q1 : 0 ≤ (F : Int) + (r : Int) := by omega
      have q2 : ((F : Int) + (r : Int)).toNat = F + r := by omega
      have w2 : IntKind.i64.wrap (2 * (r : Int) + 1 + 1) = 2 * (r : Int) + 1 + 1 := IntWalk.i64_in _ (by omega)
      have i1 : F + (2 * r + 1) < N := by omega
      by_cases h2 : 2 * r + 2 < hi
      · have h2' : 2 * (r : Int) + 1 + 1 < (hi : Int) := by omega
        have i2 : F + (2 * r + 1) + 1 < N := by omega
        go_wp2
        go_quiet (first | (go_at_call 60; refine Calls.quiet_of_same (less_any _ _ _)))
        go_wp2_with fail
        · rename ltInt (G (F + (2 * r + 1))) (G (F + (2 * r + 1) + 1)) = true => hl
          have hc := sift_at ltInt (F := F) dk he (.inr ⟨rfl, h2, by rw [show F + (2 * r + 2) = F + (2 * r + 1) + 1 by omega, ← HG.out, ← HG.out]; exact hl⟩)
          rw [show 2 * r + 2 = 2 * r + 1 + 1 by omega] at hc
          have HC := Lib.hid hc
          clear hc hl
          have ic : F + (2 * r + 1 + 1) < N := by omega
          have wc : IntKind.i64.wrap ((F : Int) + (2 * (r : Int) + 1 + 1)) = (F : Int) + (2 * (r : Int) + 1 + 1) := IntWalk.i64_in _ (by omega)
          have p0 : (F : Int) + (2 * (r : Int) + 1 + 1) < (N : Int) := by omega
          have p1 : 0 ≤ (F : Int) + (2 * (r : Int) + 1 + 1) := by omega
          have p2 : ((F : Int) + (2 * (r : Int) + 1 + 1)).toNat = F + (2 * r + 1 + 1) := by omega
          go_wp2
          have hk5 := HK.out.drewN nq
          have hcw5 : ∀ t, t < N → (wr.drewN nq).cell? ⟨g, t, none⟩ = some (.int .u64 (G t)) := hcw
          have hfw5 : ∀ t, t < N → (wr.drewN nq).frozen? ⟨g, t, none⟩ = false := hfw
          have HK5 := Lib.hid hk5
          clear hk5 hcw hfw
          generalize wr.drewN nq = w5 at hcw5 hfw5 HK5 ⊢
          go_quiet (first | (go_at_call 60; refine Calls.quiet_of_same (less_any _ _ _)))
          go_wp2
          · rename (!ltInt (G (F + r)) (G (F + (2 * r + 1 + 1)))) = true => hs
            go_returns
            refine ⟨rfl, ?_⟩
            rw [← HO.out, HC.out, if_neg (by rw [← HG.out, ← HG.out]; simpa using hs)]
            exact HK5.out.drewN _
          · rename (!ltInt (G (F + r)) (G (F + (2 * r + 1 + 1)))) = false => hs
            go_region
            go_wp2
            go_roundw
            case rel =>
              refine ⟨2 * r + 1 + 1, Sort.swp dk (F + r) (F + (2 * r + 1 + 1)), by go_num, by omega, (HK5.out.drewN _).swp i0 ic (HG.out _) (HG.out _), ?_⟩
              rw [← HO.out, HC.out, if_pos (by rw [← HG.out, ← HG.out]; simpa using hs)]
            case measure => first | (simp [intOf]; done) | (simp [intOf]; omega)
        · rename ltInt (G (F + (2 * r + 1))) (G (F + (2 * r + 1) + 1)) = false => hl
          have hc := sift_at ltInt (F := F) dk he (.inl ⟨rfl, fun _ => by rw [show F + (2 * r + 2) = F + (2 * r + 1) + 1 by omega, ← HG.out, ← HG.out]; exact hl⟩)
          have HC := Lib.hid hc
          clear hc hl
          have ic : F + (2 * r + 1) < N := by omega
          have wc : IntKind.i64.wrap ((F : Int) + (2 * (r : Int) + 1)) = (F : Int) + (2 * (r : Int) + 1) := IntWalk.i64_in _ (by omega)
          have p0 : (F : Int) + (2 * (r : Int) + 1) < (N : Int) := by omega
          have p1 : 0 ≤ (F : Int) + (2 * (r : Int) + 1) := by omega
          have p2 : ((F : Int) + (2 * (r : Int) + 1)).toNat = F + (2 * r + 1) := by omega
          go_wp2
          have hk5 := HK.out.drewN nq
          have hcw5 : ∀ t, t < N → (wr.drewN nq).cell? ⟨g, t, none⟩ = some (.int .u64 (G t)) := hcw
          have hfw5 : ∀ t, t < N → (wr.drewN nq).frozen? ⟨g, t, none⟩ = false := hfw
          have HK5 := Lib.hid hk5
          clear hk5 hcw hfw
          generalize wr.drewN nq = w5 at hcw5 hfw5 HK5 ⊢
          go_quiet (first | (go_at_call 60; refine Calls.quiet_of_same (less_any _ _ _)))
          go_wp2
          · rename (!ltInt (G (F + r)) (G (F + (2 * r + 1)))) = true => hs
            go_returns
            refine ⟨rfl, ?_⟩
            rw [← HO.out, HC.out, if_neg (by rw [← HG.out, ← HG.out]; simpa using hs)]
            exact HK5.out.drewN _
          · rename (!ltInt (G (F + r)) (G (F + (2 * r + 1)))) = false => hs
            go_region
            go_wp2
            go_roundw
            case rel =>
              refine ⟨2 * r + 1, Sort.swp dk (F + r) (F + (2 * r + 1)), by go_num, by omega, (HK5.out.drewN _).swp i0 ic (HG.out _) (HG.out _), ?_⟩
              rw [← HO.out, HC.out, if_pos (by rw [← HG.out, ← HG.out]; simpa using hs)]
            case measure => first | (simp [intOf]; done) | (simp [intOf]; omega)
      · have h2' : decide (2 * (r : Int) + 1 + 1 < (hi : Int)) = false := decide_eq_false (by omega)
        have hc := sift_at ltInt (F := F) dk he (.inl ⟨rfl, fun h3 => absurd h3 h2⟩)
        have HC := Lib.hid hc
        clear hc
        go_wp2
        go_quiet (first | (go_at_call 60; refine Calls.quiet_of_same (less_any _ _ _)))
        go_wp2_with fail
        have ic : F + (2 * r + 1) < N := by omega
        have wc : IntKind.i64.wrap ((F : Int) + (2 * (r : Int) + 1)) = (F : Int) + (2 * (r : Int) + 1) := IntWalk.i64_in _ (by omega)
        have p0 : (F : Int) + (2 * (r : Int) + 1) < (N : Int) := by omega
        have p1 : 0 ≤ (F : Int) + (2 * (r : Int) + 1) := by omega
        have p2 : ((F : Int) + (2 * (r : Int) + 1)).toNat = F + (2 * r + 1) := by omega
        go_wp2
        have hk5 := HK.out.drewN nq
        have hcw5 : ∀ t, t < N → (wr.drewN nq).cell? ⟨g, t, none⟩ = some (.int .u64 (G t)) := hcw
        have hfw5 : ∀ t, t < N → (wr.drewN nq).frozen? ⟨g, t, none⟩ = false := hfw
        have HK5 := Lib.hid hk5
        clear hk5 hcw hfw
        generalize wr.drewN nq = w5 at hcw5 hfw5 HK5 ⊢
        go_quiet (first | (go_at_call 60; refine Calls.quiet_of_same (less_any _ _ _)))
        go_wp2
        · rename (!ltInt (G (F + r)) (G (F + (2 * r + 1)))) = true => hs
          go_returns
          refine ⟨rfl, ?_⟩
          rw [← HO.out, HC.out, if_neg (by rw [← HG.out, ← HG.out]; simpa using hs)]
          exact HK5.out.drewN _
        · rename (!ltInt (G (F + r)) (G (F + (2 * r + 1)))) = false => hs
          go_region
          go_wp2
          go_roundw
          case rel =>
            refine ⟨2 * r + 1, Sort.swp dk (F + r) (F + (2 * r + 1)), by go_num, by omega, (HK5.out.drewN _).swp i0 ic (HG.out _) (HG.out _), ?_⟩
            rw [← HO.out, HC.out, if_pos (by rw [← HG.out, ← HG.out]; simpa using hs)]
          case measure => first | (simp [intOf]; done) | (simp [intOf]; omega)
end Go.Proofs.Ytkoalpbognpphaa
