/- The walks over the methods of wire.Reader. -/
import Derived.Test.YtihndehmagfidaaRead
namespace Go.Proofs.Ytihndehmagfidaa
open Go.RowKit
set_option linter.unusedVariables false

/-- the reader in block g reads zs, stands at p, and has the error e -/
def RD (w : World) (g : Nat) (A : Option Addr) (c : Nat) (zs : List Int) (p e : Int) : Prop :=
  Whole w g 55 #[.bool true, .slice A zs.length c, .int .i64 p, .int .i64 e] ∧ Rds w g A (c8 zs) ∧ (zs.length ≤ c ∧ zs.length ≤ 140737488486400 ∧ c ≤ maxLen ∧ Byt zs)

section
variable {w w' : World} {g c : Nat} {A : Option Addr} {zs : List Int} {p e : Int}
theorem RD.c0 (h : RD w g A c zs p e) : w.cell? ⟨g, 0, none⟩ = some (.bool true) := h.1.cell 0
theorem RD.c1 (h : RD w g A c zs p e) : w.cell? ⟨g, 1, none⟩ = some (.slice A zs.length c) := h.1.cell 1
theorem RD.c2 (h : RD w g A c zs p e) : w.cell? ⟨g, 2, none⟩ = some (.int .i64 p) := h.1.cell 2
theorem RD.c3 (h : RD w g A c zs p e) : w.cell? ⟨g, 3, none⟩ = some (.int .i64 e) := h.1.cell 3
theorem RD.f (h : RD w g A c zs p e) (i : Nat) : w.frozen? ⟨g, i, none⟩ = false := h.1.frozen i
theorem RD.drewN (h : RD w g A c zs p e) (n : Nat) : RD (w.drewN n) g A c zs p e := h
theorem RD.setP (h : RD w g A c zs p e) (q : Int) : RD (w.setCell ⟨g, 2, none⟩ (.int .i64 q)) g A c zs q e :=
  ⟨h.1.put 2 _, h.2.1.keep fun a ha => World.cell?_setCell_other _ _ _ _ (fun e => by subst e; exact absurd ha (by simp)), h.2.2⟩
theorem RD.setE (h : RD w g A c zs p e) (q : Int) : RD (w.setCell ⟨g, 3, none⟩ (.int .i64 q)) g A c zs p q :=
  ⟨h.1.put 3 _, h.2.1.keep fun a ha => World.cell?_setCell_other _ _ _ _ (fun e => by subst e; exact absurd ha (by simp)), h.2.2⟩
theorem RD.below {B : Nat} (h : RD w g A c zs p e) (hb : Below B w w') (hg : g < B) : RD w' g A c zs p e :=
  ⟨h.1.below hb hg, h.2.1.keep fun a ha => hb.cell (by omega), h.2.2⟩
theorem RD.other {g' : Nat} (h : RD w g A c zs p e) (hb : w.grownBy w' (some g')) (hg : g < g') : RD w' g A c zs p e :=
  ⟨h.1.grown hb (by simp; omega), h.2.1.grown hb (Nat.le_of_lt h.1.lt) (by simp; omega), h.2.2⟩
end

/-- what New answers at block g: a reader at its beginning -/
theorem err_nil (w : World) : Calls Try.prog 18 #[.pointer none] w fun e w' => e = .returned (.int .i64 1) ∧ w' = w := by
  go_enter Try.func18, Try.ntmps18
  go_wp2
  go_ret
  exact ⟨rfl, rfl⟩

theorem err_zero (w : World) (g : Nat) (h : w.cell? ⟨g, 0, none⟩ = some (.bool false)) : Calls Try.prog 18 #[.pointer (some ⟨g, 0, none⟩)] w fun e w' => e = .returned (.int .i64 1) ∧ w' = w := by
  go_enter Try.func18, Try.ntmps18
  go_wp2
  go_ret
  exact ⟨rfl, rfl⟩

theorem err_made {w : World} {g c : Nat} {A : Option Addr} {zs : List Int} {p e : Int} (h : RD w g A c zs p e) :
    Calls Try.prog 18 #[.pointer (some ⟨g, 0, none⟩)] w fun r w' => r = .returned (.int .i64 e) ∧ w' = w := by
  have h0 := h.c0
  have h3 := h.c3
  go_enter Try.func18, Try.ntmps18
  go_wp2
  go_ret
  exact ⟨rfl, rfl⟩

theorem at_nil (w : World) : Calls Try.prog 20 #[.pointer none] w fun e w' => e = .returned (.int .i64 0) ∧ w' = w := by
  go_enter Try.func20, Try.ntmps20
  go_wp2
  go_ret
  exact ⟨rfl, rfl⟩

theorem at_zero (w : World) (g : Nat) (h : w.cell? ⟨g, 0, none⟩ = some (.bool false)) : Calls Try.prog 20 #[.pointer (some ⟨g, 0, none⟩)] w fun e w' => e = .returned (.int .i64 0) ∧ w' = w := by
  go_enter Try.func20, Try.ntmps20
  go_wp2
  go_ret
  exact ⟨rfl, rfl⟩

theorem at_made {w : World} {g c : Nat} {A : Option Addr} {zs : List Int} {p e : Int} (h : RD w g A c zs p e) :
    Calls Try.prog 20 #[.pointer (some ⟨g, 0, none⟩)] w fun r w' => r = .returned (.int .i64 p) ∧ w' = w := by
  have h0 := h.c0
  have h2 := h.c2
  go_enter Try.func20, Try.ntmps20
  go_wp2
  go_ret
  exact ⟨rfl, rfl⟩

/-- a reader whose error is E, whatever was drawn since -/
def Ers (w : World) (r : Option Addr) (E : Int) : Prop := ∀ n, Calls Try.prog 18 #[.pointer r] (w.drewN n) fun e w' => e = .returned (.int .i64 E) ∧ w' = w.drewN n
/-- has it stopped? whatever was drawn since -/
def Stp (w : World) (r : Option Addr) (b : Bool) : Prop := ∀ n, Calls Try.prog 45 #[.pointer r] (w.drewN n) fun e w' => e = .returned (.bool b) ∧ w' = w.drewN n
theorem Ers.now {w : World} {r : Option Addr} {E : Int} (h : Ers w r E) : Calls Try.prog 18 #[.pointer r] w fun e w' => e = .returned (.int .i64 E) ∧ w' = w := h 0
theorem Stp.now {w : World} {r : Option Addr} {b : Bool} (h : Stp w r b) : Calls Try.prog 45 #[.pointer r] w fun e w' => e = .returned (.bool b) ∧ w' = w := h 0
theorem Ers.drewN {w : World} {r : Option Addr} {E : Int} (h : Ers w r E) (n : Nat) : Ers (w.drewN n) r E := fun m => by
  have := h (n + m)
  rwa [← World.drewN_drewN] at this
theorem Ers.nil_ (w : World) : Ers w none 1 := fun n => err_nil _
theorem Ers.zero (w : World) (g : Nat) (h : w.cell? ⟨g, 0, none⟩ = some (.bool false)) : Ers w (some ⟨g, 0, none⟩) 1 := fun n => err_zero _ g h
theorem RD.ers {w : World} {g c : Nat} {A : Option Addr} {zs : List Int} {p e : Int} (h : RD w g A c zs p e) : Ers w (some ⟨g, 0, none⟩) e := fun n => err_made (h.drewN n)

theorem stopped_one {w : World} {r : Option Addr} {E : Int} (h : Calls Try.prog 18 #[.pointer r] w fun e w' => e = .returned (.int .i64 E) ∧ w' = w) :
    Calls Try.prog 45 #[.pointer r] w fun e w' => e = .returned (.bool (E != 0)) ∧ w' = w := by
  have H := Lib.hid h
  clear h
  go_enter Try.func45, Try.ntmps45
  go_wp2_with fail
  refine H.out.mono ?_
  rintro e w1 ⟨rfl, rfl⟩
  go_wp2
  go_ret
  exact ⟨rfl, rfl⟩
theorem Ers.stp {w : World} {r : Option Addr} {E : Int} (h : Ers w r E) : Stp w r (E != 0) := fun n => stopped_one (h n)
theorem Ers.on {w : World} {r : Option Addr} (h : Ers w r 0) : Stp w r false := h.stp
theorem Ers.off {w : World} {r : Option Addr} {E : Int} (h : Ers w r E) (hE : E ≠ 0) : Stp w r true := by
  have := h.stp
  rwa [show (E != 0) = true by simpa using hE] at this

/-- New -/
theorem new_any (A : Option Addr) (zs : List Int) (c : Nat) (w : World) (hl : zs.length ≤ 140737488486400) (hc : zs.length ≤ c) (hA : A = none → zs.length = 0 ∧ c = 0) (hz : Byt zs) (hr : Rds w w.heap.size A (c8 zs)) :
    Calls Try.prog 15 #[.slice A zs.length c] w fun e w' =>
      ∃ g A' c', e = .returned (.pointer (some ⟨g, 0, none⟩)) ∧ w.heap.size ≤ g ∧ g < w'.heap.size ∧ RD w' g A' c' zs 0 0 ∧ Below w.heap.size w w' := by
  go_enter Try.func15, Try.ntmps15
  go_wp2_with fail
  refine (copied_any A zs c 0 w (by omega) (by omega) hl hc hA hr).mono ?_
  rintro e w1 ⟨b, cap, rfl, hown, hb⟩
  go_wp2
  go_ret
  refine ⟨w1.heap.size, _, _, rfl, hb.size, by simp, ⟨Whole.new w1 _ _, ?_, ?_⟩, hb.alloc hb.size _⟩
  · exact (Rds.ofOwn hown).alloc (Nat.le_refl _) _
  · rcases hown.2 with ⟨h1, _⟩ | ⟨g', cap', cur, h1, _, _, h2, h3, _⟩
    · cases h1
    · injection h1 with _ _ h1
      subst h1
      exact ⟨h2, hl, h3, hz⟩

theorem cut_reads {w : World} {g c k : Nat} {A : Option Addr} {zs : List Int} {p e : Int} (h : RD w g A c zs p e) (nq : Nat) :
    Calls Try.prog 13 #[.slice (if c = k then A else A.map (·.add k)) (zs.length - k) (c - k)] (w.drewN nq) fun r w' =>
      r = .returned (.tuple #[.int .u64 (dec 0 0 (zs.drop k)).1, .int .i64 (dec 0 0 (zs.drop k)).2.1, .int .i64 (dec 0 0 (zs.drop k)).2.2]) ∧ w' = w.drewN nq := by
  obtain ⟨_, hr, hc, hl, _, hz⟩ := h
  have h1 := readUint_any (if c = k then A else A.map (·.add k)) (zs.drop k) (c - k) g (w.drewN nq) (by simp; omega) (fun z hz' => hz z (List.mem_of_mem_drop hz'))
    (by rw [show c8 (zs.drop k) = (c8 zs).drop k by simp [c8]]; exact (hr.drop k c (by simpa [c8] using hc)).drewN nq)
  rw [List.length_drop] at h1
  exact h1

set_option maxHeartbeats 800000 in
theorem number_any {w : World} {g c k : Nat} {A : Option Addr} {zs : List Int} (h : RD w g A c zs k 0) (most : Int) (hm0 : 0 ≤ most) (hm1 : most ≤ 18446744073709551615) (hk : k ≤ zs.length) :
    Calls Try.prog 46 #[.pointer (some ⟨g, 0, none⟩), .int .u64 most] w fun r w' =>
      r = .returned (.tuple #[.int .u64 (num most (zs.drop k)).1, .int .i64 (num most (zs.drop k)).2.1]) ∧ RD w' g A c zs k (num most (zs.drop k)).2.2 ∧ w.grownBy w' (some g) := by
  have HC := fun nq => Lib.hid (cut_reads (k := k) h nq)
  have HN : Hid (num most (zs.drop k) = if (dec 0 0 (zs.drop k)).2.2 = 0 then (if most < (dec 0 0 (zs.drop k)).1 then (0, 0, 3) else ((dec 0 0 (zs.drop k)).1, (dec 0 0 (zs.drop k)).2.1, 0)) else (0, 0, (dec 0 0 (zs.drop k)).2.2)) := rfl
  generalize dec 0 0 (zs.drop k) = R at HC HN
  obtain ⟨X, N, E⟩ := R
  simp only at HC
  have h1 := h.c1
  have h2 := h.c2
  have h3 := h.c3
  have hf := h.f 3
  have hcl := h.2.2.1
  have hl := h.2.2.2.1
  have H := Lib.hid h
  clear h
  by_cases hE : E = 0
  · subst hE
    by_cases hX : most < X
    · have hv : num most (zs.drop k) = (0, 0, 3) := by rw [HN.out, if_pos rfl, if_pos hX]
      rw [hv]
      clear hv HN
      go_enter Try.func46, Try.ntmps46
      go_wp2_with fail
      go_quiet ((go_at_call 13; exact Calls.quiet_of_same (HC _).out))
      go_wp2
      all_goals
        go_ret2
        first | exact ⟨rfl, (H.out.drewN _).setE 3, Only.put (Only.drewN (Only.refl _ _) _) 3 _⟩ | (obtain rfl : c = k := (by assumption); exact ⟨rfl, (H.out.drewN _).setE 3, Only.put (Only.drewN (Only.refl _ _) _) 3 _⟩)
    · have hv : num most (zs.drop k) = (X, N, 0) := by rw [HN.out, if_pos rfl, if_neg hX]
      rw [hv]
      clear hv HN
      go_enter Try.func46, Try.ntmps46
      go_wp2_with fail
      go_quiet ((go_at_call 13; exact Calls.quiet_of_same (HC _).out))
      go_wp2
      all_goals
        go_ret2
        first | exact ⟨rfl, H.out.drewN _, Only.drewN (Only.refl _ _) _⟩ | (obtain rfl : c = k := (by assumption); exact ⟨rfl, H.out.drewN _, Only.drewN (Only.refl _ _) _⟩)
  · have hv : num most (zs.drop k) = (0, 0, E) := by rw [HN.out, if_neg hE]
    rw [hv]
    clear hv HN
    have hE1 : (E == 0) = false := by simpa using hE
    have hE2 : (E != 0) = true := by simpa using hE
    clear hE
    go_enter Try.func46, Try.ntmps46
    go_wp2_with fail
    go_quiet ((go_at_call 13; exact Calls.quiet_of_same (HC _).out))
    go_wp2
    all_goals
      go_ret2
      first | exact ⟨rfl, (H.out.drewN _).setE E, Only.put (Only.drewN (Only.refl _ _) _) 3 _⟩ | (obtain rfl : c = k := (by assumption); exact ⟨rfl, (H.out.drewN _).setE E, Only.put (Only.drewN (Only.refl _ _) _) 3 _⟩)
end Go.Proofs.Ytihndehmagfidaa
