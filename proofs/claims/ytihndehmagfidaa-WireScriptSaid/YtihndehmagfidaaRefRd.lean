/- The walks over the reader of the document's answer. -/
import Derived.Test.YtihndehmagfidaaReads
namespace Go.Proofs.Ytihndehmagfidaa
open Go.RowKit
set_option linter.unusedVariables false

/-- the answer's reader in block g reads zs (below block B), stands at p, and has the error e -/
def RR (w : World) (B g : Nat) (A : Option Addr) (c : Nat) (zs : List Int) (p e : Int) : Prop :=
  Whole w g 45 #[.slice A zs.length c, .int .i64 p, .int .i64 e] ∧ Rds w B A (c8 zs) ∧ (zs.length ≤ c ∧ zs.length ≤ 140737488351232 ∧ c ≤ maxLen ∧ Byt zs) ∧ B ≤ g

section
variable {w w' : World} {B g c : Nat} {A : Option Addr} {zs : List Int} {p e : Int}
theorem RR.c0 (h : RR w B g A c zs p e) : w.cell? ⟨g, 0, none⟩ = some (.slice A zs.length c) := h.1.cell 0
theorem RR.c1 (h : RR w B g A c zs p e) : w.cell? ⟨g, 1, none⟩ = some (.int .i64 p) := h.1.cell 1
theorem RR.c2 (h : RR w B g A c zs p e) : w.cell? ⟨g, 2, none⟩ = some (.int .i64 e) := h.1.cell 2
theorem RR.f (h : RR w B g A c zs p e) (i : Nat) : w.frozen? ⟨g, i, none⟩ = false := h.1.frozen i
theorem RR.drewN (h : RR w B g A c zs p e) (n : Nat) : RR (w.drewN n) B g A c zs p e := h
theorem RR.setP (h : RR w B g A c zs p e) (q : Int) : RR (w.setCell ⟨g, 1, none⟩ (.int .i64 q)) B g A c zs q e :=
  ⟨h.1.put 1 _, h.2.1.keep fun a ha => World.cell?_setCell_other _ _ _ _ (fun e => by subst e; have := h.2.2.2; exact absurd ha (by simp; omega)), h.2.2⟩
theorem RR.setE (h : RR w B g A c zs p e) (q : Int) : RR (w.setCell ⟨g, 2, none⟩ (.int .i64 q)) B g A c zs p q :=
  ⟨h.1.put 2 _, h.2.1.keep fun a ha => World.cell?_setCell_other _ _ _ _ (fun e => by subst e; have := h.2.2.2; exact absurd ha (by simp; omega)), h.2.2⟩
theorem RR.other {g' : Nat} (h : RR w B g A c zs p e) (hb : w.grownBy w' (some g')) (hg : g ≠ g') (hB : B ≤ g') : RR w' B g A c zs p e :=
  ⟨h.1.grown hb (by simpa using hg), h.2.1.grown hb (Nat.le_trans h.2.2.2 (Nat.le_of_lt h.1.lt)) (by simpa using hB), h.2.2⟩
end

section
variable {w : World} {B g c k : Nat} {A : Option Addr} {zs : List Int}

theorem refCut_reads {p e : Int} (h : RR w B g A c zs p e) (nq : Nat) :
    Calls Try.prog 28 #[.slice (if c = k then A else A.map (·.add k)) (zs.length - k) (c - k)] (w.drewN nq) fun r w' =>
      r = .returned (.tuple #[.int .u64 (dec 0 0 (zs.drop k)).1, .int .i64 (dec 0 0 (zs.drop k)).2.1, .int .i64 (dec 0 0 (zs.drop k)).2.2]) ∧ w' = w.drewN nq := by
  obtain ⟨_, hr, ⟨hc, hl, _, hz⟩, _⟩ := h
  have h1 := refReadUint_any (if c = k then A else A.map (·.add k)) (zs.drop k) (c - k) B (w.drewN nq) (by simp; omega) (hz.drop k)
    (by rw [show c8 (zs.drop k) = (c8 zs).drop k by simp [c8]]; exact (hr.drop k c (by simpa [c8] using hc)).drewN nq)
  rw [List.length_drop] at h1
  exact h1

theorem rUint_stop {p e : Int} (he : (e != 0) = true) (h : RR w B g A c zs p e) : Calls Try.prog 30 #[.pointer (some ⟨g, 0, none⟩)] w fun r w' => r = .returned (.int .u64 0) ∧ w' = w := by
  have h2 := h.c2
  go_enter Try.func30, Try.ntmps30
  go_wp2
  go_ret
  exact ⟨rfl, rfl⟩

set_option maxHeartbeats 800000 in
theorem rUint_go (h : RR w B g A c zs k 0) (hk : k ≤ zs.length) {X : Int} {n : Nat} {E : Int} (hn : dec 0 0 (zs.drop k) = (X, (n : Int), E)) (hle : k + n ≤ zs.length) :
    Calls Try.prog 30 #[.pointer (some ⟨g, 0, none⟩)] w fun r w' => r = .returned (.int .u64 X) ∧ RR w' B g A c zs (k + n : Nat) E ∧ w.grownBy w' (some g) := by
  have HC := fun nq => Lib.hid (refCut_reads (k := k) h nq)
  rw [hn] at HC
  simp only at HC
  clear hn
  have h0 := h.c0
  have h1 := h.c1
  have h2 := h.c2
  have hf1 := h.f 1
  have hf2 := h.f 2
  have hcl := h.2.2.1.1
  have hl := h.2.2.1.2.1
  have H := Lib.hid h
  clear h
  go_enter Try.func30, Try.ntmps30
  go_wp2_with fail
  go_quiet ((go_at_call 28; exact Calls.quiet_of_same (HC _).out))
  go_wp2
  all_goals
    go_ret
    first | exact ⟨rfl, ((H.out.drewN _).setE E).setP _, Only.put (Only.put (Only.drewN (Only.refl _ _) _) 2 _) 1 _⟩ | (obtain rfl : c = k := (by assumption); exact ⟨rfl, ((H.out.drewN _).setE E).setP _, Only.put (Only.put (Only.drewN (Only.refl _ _) _) 2 _) 1 _⟩)

theorem rInt_of {X : Int} {Q : World → Prop} (hX0 : 0 ≤ X) (hX1 : X ≤ 18446744073709551615) (h : Calls Try.prog 30 #[.pointer (some ⟨g, 0, none⟩)] w fun r w' => r = .returned (.int .u64 X) ∧ Q w') :
    Calls Try.prog 32 #[.pointer (some ⟨g, 0, none⟩)] w fun r w' => r = .returned (.int .i64 (zig X)) ∧ Q w' := by
  have H := Lib.hid h
  clear h
  by_cases h2 : X % 2 = 0
  · have hz : zig X = X / 2 := if_pos h2
    rw [hz]
    have hb : (X % 2 == 0) = true := by simp [h2]
    clear hz h2
    go_enter Try.func32, Try.ntmps32
    go_wp2_with fail
    refine H.out.mono ?_
    rintro e w1 ⟨rfl, hq⟩
    go_wp2
    go_ret
    exact ⟨rfl, hq⟩
  · have hz : zig X = -(X / 2) - 1 := if_neg h2
    rw [hz]
    have hb : (X % 2 == 0) = false := by simp; omega
    clear hz h2
    go_enter Try.func32, Try.ntmps32
    go_wp2_with fail
    refine H.out.mono ?_
    rintro e w1 ⟨rfl, hq⟩
    go_wp2
    go_ret
    exact ⟨rfl, hq⟩

theorem rBool_stop {p e : Int} (he : (e != 0) = true) (h : RR w B g A c zs p e) : Calls Try.prog 33 #[.pointer (some ⟨g, 0, none⟩)] w fun r w' => r = .returned (.bool false) ∧ w' = w := by
  have h2 := h.c2
  go_enter Try.func33, Try.ntmps33
  go_wp2
  go_ret
  exact ⟨rfl, rfl⟩

theorem rCount_stop {p e : Int} (he : (e != 0) = true) (h : RR w B g A c zs p e) (most : Int) : Calls Try.prog 37 #[.pointer (some ⟨g, 0, none⟩), .int .i64 most] w fun r w' => r = .returned (.int .i64 0) ∧ w' = w := by
  have h2 := h.c2
  go_enter Try.func37, Try.ntmps37
  go_wp2
  go_ret
  exact ⟨rfl, rfl⟩

theorem rText_stop {p e : Int} (he : (e != 0) = true) (h : RR w B g A c zs p e) : Calls Try.prog 35 #[.pointer (some ⟨g, 0, none⟩)] w fun r w' => r = .returned (.string ⟨#[]⟩) ∧ w' = w := by
  have h1 := h.c1
  have h2 := h.c2
  have HU := Lib.hid (rUint_stop he h)
  go_enter Try.func35, Try.ntmps35
  go_wp2_with fail
  refine HU.out.mono ?_
  rintro e w1 ⟨rfl, rfl⟩
  go_wp2
  go_ret
  exact ⟨rfl, rfl⟩

theorem rFail_stop {p e : Int} (he : (e == 0) = false) (h : RR w B g A c zs p e) (k : Int) : Calls Try.prog 39 #[.pointer (some ⟨g, 0, none⟩), .int .i64 k] w fun r w' => r = .returned (.tuple #[]) ∧ w' = w := by
  have h2 := h.c2
  go_enter Try.func39, Try.ntmps39
  go_wp2
  go_end0
  exact ⟨rfl, rfl⟩

theorem rFail_go {p : Int} (h : RR w B g A c zs p 0) (k : Int) : Calls Try.prog 39 #[.pointer (some ⟨g, 0, none⟩), .int .i64 k] w fun r w' => r = .returned (.tuple #[]) ∧ RR w' B g A c zs p k ∧ w.grownBy w' (some g) := by
  have h2 := h.c2
  have hf := h.f 2
  have H := Lib.hid h
  clear h
  go_enter Try.func39, Try.ntmps39
  go_wp2
  go_end0
  exact ⟨rfl, H.out.setE _, Only.put (Only.refl _ _) 2 _⟩

theorem rDone_stop {e : Int} (he : (e == 0) = false) (h : RR w B g A c zs k e) (hk : k ≤ zs.length) : Calls Try.prog 41 #[.pointer (some ⟨g, 0, none⟩)] w fun r w' => r = .returned (.int .i64 e) ∧ ∃ n, w' = w.drewN n := by
  have h0 := h.c0
  have h1 := h.c1
  have h2 := h.c2
  have hl := h.2.2.1.2.1
  have H := Lib.hid h
  clear h
  by_cases hlt : k < zs.length
  · go_enter Try.func41, Try.ntmps41
    go_wp2_with fail
    go_quiet (fail)
    go_wp2_with fail
    refine (rFail_stop he (H.out.drewN _) 5).mono ?_
    rintro e w1 ⟨rfl, rfl⟩
    go_wp2
    go_ret
    exact ⟨rfl, _, rfl⟩
  · go_enter Try.func41, Try.ntmps41
    go_wp2_with fail
    go_quiet (fail)
    go_wp2
    go_ret
    exact ⟨rfl, _, rfl⟩

theorem rDone_go (h : RR w B g A c zs k 0) (hk : k ≤ zs.length) : Calls Try.prog 41 #[.pointer (some ⟨g, 0, none⟩)] w fun r w' => r = .returned (.int .i64 (left k zs.length)) ∧ RR w' B g A c zs k (left k zs.length) ∧ w.grownBy w' (some g) := by
  have h0 := h.c0
  have h1 := h.c1
  have h2 := h.c2
  have hl := h.2.2.1.2.1
  have H := Lib.hid h
  clear h
  by_cases hlt : k < zs.length
  · rw [show left k zs.length = 5 from if_pos hlt]
    go_enter Try.func41, Try.ntmps41
    go_wp2_with fail
    go_quiet (fail)
    go_wp2_with fail
    refine (rFail_go (H.out.drewN _) 5).mono ?_
    rintro e w1 ⟨rfl, hrr, hg⟩
    have h3 := hrr.c2
    go_wp2
    go_ret
    exact ⟨rfl, hrr, Only.trans (Only.drewN (Only.refl _ _) _) hg⟩
  · rw [show left k zs.length = 0 from if_neg hlt]
    go_enter Try.func41, Try.ntmps41
    go_wp2_with fail
    go_quiet (fail)
    go_wp2
    go_ret
    exact ⟨rfl, H.out.drewN _, Only.drewN (Only.refl _ _) _⟩
end
end Go.Proofs.Ytihndehmagfidaa
