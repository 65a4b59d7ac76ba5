/- The walks over Bool, Text and Count of the answer's reader, where it has not stopped. -/
import Derived.Test.YtihndehmagfidaaRefRd
namespace Go.Proofs.Ytihndehmagfidaa
open Go.RowKit
set_option linter.unusedVariables false

section
variable {w : World} {B g c k : Nat} {A : Option Addr} {zs : List Int}

set_option maxHeartbeats 800000 in
theorem rBool_go (h : RR w B g A c zs k 0) (hk : k ≤ zs.length) :
    Calls Try.prog 33 #[.pointer (some ⟨g, 0, none⟩)] w fun r w' => r = .returned (.bool (truth (zs.drop k)).1) ∧ RR w' B g A c zs (k + (truth (zs.drop k)).2.1 : Nat) (truth (zs.drop k)).2.2 ∧ w.grownBy w' (some g) := by
  have h0 := h.c0
  have h1 := h.c1
  have h2 := h.c2
  have hf1 := h.f 1
  have hf2 := h.f 2
  have hl := h.2.2.1.2.1
  by_cases hlt : k < zs.length
  · obtain ⟨ad, rfl, hadB, hcell⟩ := h.2.1.at_ (c8_get hlt)
    have hb := h.2.2.1.2.2.2 zs[k] (List.getElem_mem hlt)
    have hBg := h.2.2.2
    have hd : zs.drop k = zs[k] :: zs.drop (k + 1) := List.drop_eq_getElem_cons hlt
    have hcell' : ∀ nq q, ((w.drewN nq).setCell ⟨g, 1, none⟩ q).cell? (ad.add k) = some (.int .u8 zs[k]) := fun nq q => by
      rw [World.cell?_setCell_other _ _ _ _ (fun e => by
        have hbl : (ad.add k).block = g := by rw [← e]
        rw [blk_add] at hbl
        omega)]
      exact hcell
    generalize zs[k] = d at *
    have H := Lib.hid h
    clear h
    by_cases h1d : 1 < d
    · have hv : truth (zs.drop k) = (false, 0, 5) := by rw [hd]; simp [truth, h1d]
      rw [hv]
      clear hv hd hcell'
      go_enter Try.func33, Try.ntmps33
      go_wp2_with fail
      go_quiet (fail)
      go_wp2_with fail
      go_quiet (fail)
      go_wp2
      go_ret
      exact ⟨rfl, (H.out.drewN _).setE _, Only.put (Only.drewN (Only.refl _ _) _) 2 _⟩
    · have hv : truth (zs.drop k) = (d == 1, 1, 0) := by rw [hd]; simp [truth, h1d]
      rw [hv]
      clear hv hd
      go_enter Try.func33, Try.ntmps33
      go_wp2_with fail
      go_quiet (fail)
      go_wp2_with fail
      go_quiet (fail)
      go_wp2_with fail
      go_quiet (fail)
      go_wp2
      go_ret
      first
        | exact ⟨rfl, ((H.out.drewN _).setP _).drewN _, Only.drewN (Only.put (Only.drewN (Only.refl _ _) _) 1 _) _⟩
        | exact ⟨rfl, (H.out.drewN _).setP _, Only.put (Only.drewN (Only.refl _ _) _) 1 _⟩
  · have hv : truth (zs.drop k) = (false, 0, 4) := by rw [List.drop_eq_nil_of_le (by omega)]; rfl
    rw [hv]
    obtain rfl : k = zs.length := by omega
    have H := Lib.hid h
    clear h hv
    go_enter Try.func33, Try.ntmps33
    go_wp2_with fail
    go_quiet (fail)
    go_wp2
    go_ret
    exact ⟨rfl, (H.out.drewN _).setE _, Only.put (Only.drewN (Only.refl _ _) _) 2 _⟩

theorem num_dec {most : Int} {l : List Int} {X N E : Int} (h : dec 0 0 l = (X, N, E)) : num most l = if E = 0 then (if most < X then (0, 0, 3) else (X, N, 0)) else (0, 0, E) := by
  unfold num
  rw [h]

set_option maxHeartbeats 800000 in
theorem rCount_neg (h : RR w B g A c zs k 0) (most : Int) (hm : most < 0) : Calls Try.prog 37 #[.pointer (some ⟨g, 0, none⟩), .int .i64 most] w fun r w' => r = .returned (.int .i64 0) ∧ RR w' B g A c zs k 2 ∧ w.grownBy w' (some g) := by
  have h2 := h.c2
  have hf := h.f 2
  have H := Lib.hid h
  clear h
  go_enter Try.func37, Try.ntmps37
  go_wp2
  go_ret
  exact ⟨rfl, H.out.setE _, Only.put (Only.refl _ _) 2 _⟩

set_option maxHeartbeats 800000 in
theorem rCount_go (h : RR w B g A c zs k 0) (hk : k ≤ zs.length) (most : Int) (hm : 0 ≤ most) (hm1 : most ≤ 9223372036854775807) {X : Int} {n : Nat} {E : Int} (hn : num most (zs.drop k) = (X, (n : Int), E)) :
    Calls Try.prog 37 #[.pointer (some ⟨g, 0, none⟩), .int .i64 most] w fun r w' => r = .returned (.int .i64 X) ∧ RR w' B g A c zs (k + n : Nat) E ∧ w.grownBy w' (some g) := by
  have h1 := h.c1
  have h2 := h.c2
  have hl := h.2.2.1.2.1
  obtain ⟨Y, m, E', hd, hY0, hY1, hml, _, hE0, _⟩ := dec_ok (zs.drop k) 0 0 (by omega) (by omega) (by decide) (h.2.2.1.2.2.2.drop k)
  rw [num_dec hd] at hn
  rw [List.length_drop] at hml
  have HU := Lib.hid (rUint_go h hk hd (by omega))
  clear hd h
  by_cases hE : E' = 0
  · subst hE
    rw [if_pos rfl] at hn
    by_cases hX : most < Y
    · rw [if_pos hX] at hn
      simp only [Prod.mk.injEq] at hn
      obtain ⟨rfl, hn2, rfl⟩ := hn
      obtain rfl : n = 0 := by omega
      clear hn2
      go_enter Try.func37, Try.ntmps37
      go_wp2_with fail
      refine HU.out.mono ?_
      rintro e w1 ⟨rfl, hrr, hg⟩
      have h3 := hrr.c1
      have h4 := hrr.c2
      have hf1 := hrr.f 1
      have hf2 := hrr.f 2
      go_wp2
      go_ret
      exact ⟨rfl, (hrr.setE _).setP _, Only.put (Only.put hg 2 _) 1 _⟩
    · rw [if_neg hX] at hn
      simp only [Prod.mk.injEq] at hn
      obtain ⟨rfl, hn2, rfl⟩ := hn
      obtain rfl : m = n := by omega
      clear hn2
      go_enter Try.func37, Try.ntmps37
      go_wp2_with fail
      refine HU.out.mono ?_
      rintro e w1 ⟨rfl, hrr, hg⟩
      have h3 := hrr.c1
      have h4 := hrr.c2
      go_wp2
      go_ret
      exact ⟨rfl, hrr, hg⟩
  · rw [if_neg hE] at hn
    simp only [Prod.mk.injEq] at hn
    obtain ⟨rfl, hn2, rfl⟩ := hn
    obtain ⟨rfl, rfl⟩ := hE0 hE
    obtain rfl : n = 0 := by omega
    have hE1 : (E' == 0) = false := by simpa using hE
    have hE2 : (E' != 0) = true := by simpa using hE
    clear hn2 hE
    go_enter Try.func37, Try.ntmps37
    go_wp2_with fail
    refine HU.out.mono ?_
    rintro e w1 ⟨rfl, hrr, hg⟩
    have h3 := hrr.c1
    have h4 := hrr.c2
    go_wp2
    go_ret
    exact ⟨rfl, hrr, hg⟩

set_option maxRecDepth 100000 in
set_option maxHeartbeats 1600000 in
theorem rText_go (h : RR w B g A c zs k 0) (hk : k ≤ zs.length) :
    Calls Try.prog 35 #[.pointer (some ⟨g, 0, none⟩)] w fun r w' => r = .returned (.string (strOfNums (textOf (zs.drop k)).1)) ∧ RR w' B g A c zs (k + (textOf (zs.drop k)).2.1 : Nat) (textOf (zs.drop k)).2.2 ∧ w.grownBy w' (some g) := by
  have h1 := h.c1
  have hl := h.2.2.1.2.1
  have hlc := h.2.2.1.1
  have hcm := h.2.2.1.2.2.1
  unfold maxLen at hcm
  obtain ⟨Y, m, E', hd, hY0, hY1, hml, _, hE0, _⟩ := dec_ok (zs.drop k) 0 0 (by omega) (by omega) (by decide) (h.2.2.1.2.2.2.drop k)
  have hnum := num_dec (most := 65536) hd
  rw [List.length_drop] at hml
  have HU := Lib.hid (rUint_go h hk hd (by omega))
  clear hd h
  by_cases hE : E' = 0
  · subst hE
    rw [if_pos rfl] at hnum
    obtain ⟨x, rfl⟩ := Int.eq_ofNat_of_zero_le hY0
    by_cases hX : 65536 < x
    · rw [if_pos (by omega)] at hnum
      have hv : textOf (zs.drop k) = ([], 0, 3) := by unfold textOf; rw [hnum]; rfl
      rw [hv]
      clear hv hnum
      have hX1 : decide ((65536 : Int) < (x : Int)) = true := decide_eq_true (by omega)
      go_enter Try.func35, Try.ntmps35
      go_wp2_with fail
      refine HU.out.mono ?_
      rintro e w1 ⟨rfl, hrr, hg⟩
      have h4 := hrr.c1
      have h5 := hrr.c2
      have hf1 := hrr.f 1
      have hf2 := hrr.f 2
      go_wp2
      go_ret
      exact ⟨rfl, (hrr.setE _).setP _, Only.put (Only.put hg 2 _) 1 _⟩
    · rw [if_neg (by omega)] at hnum
      have hX1 : decide ((65536 : Int) < (x : Int)) = false := decide_eq_false (by omega)
      by_cases hs : zs.length - (k + m) < x
      · have hv : textOf (zs.drop k) = ([], 0, 4) := by
          unfold textOf; rw [hnum]; simp only [Int.toNat_natCast, List.length_drop]; rw [if_pos trivial, if_pos (by omega)]
        rw [hv]
        clear hv hnum
        have hs1 : ((zs.length - (k + m) : Nat) : Int) = (zs.length : Int) - ((k : Int) + (m : Int)) := by omega
        have hs2 : decide ((zs.length : Int) - ((k : Int) + (m : Int)) < (x : Int)) = true := decide_eq_true (by omega)
        clear hs1
        go_enter Try.func35, Try.ntmps35
        go_wp2_with fail
        refine HU.out.mono ?_
        rintro e w1 ⟨rfl, hrr, hg⟩
        have h3 := hrr.c0
        have h4 := hrr.c1
        have h5 := hrr.c2
        have hf1 := hrr.f 1
        have hf2 := hrr.f 2
        go_wp2
        go_quiet (fail)
        go_wp2
        go_ret
        exact ⟨rfl, ((hrr.drewN _).setE _).setP _, Only.put (Only.put (Only.drewN hg _) 2 _) 1 _⟩
      · have hv : textOf (zs.drop k) = ((zs.drop (k + m)).take x, m + x, 0) := by
          unfold textOf; rw [hnum]; simp only [Int.toNat_natCast, List.length_drop]; rw [if_pos trivial, if_neg (by omega), List.drop_drop]
        rw [hv]
        clear hv hnum
        have hs2 : decide ((zs.length : Int) - ((k : Int) + (m : Int)) < (x : Int)) = false := decide_eq_false (by omega)
        have hlen : ((zs.drop (k + m)).take x).length = x := by simp; omega
        go_enter Try.func35, Try.ntmps35
        go_wp2_with fail
        refine HU.out.mono ?_
        rintro e w1 ⟨rfl, hrr, hg⟩
        have h3 := hrr.c0
        have h4 := hrr.c1
        have h5 := hrr.c2
        have hf1 := hrr.f 1
        have hf2 := hrr.f 2
        go_wp2
        go_quiet (fail)
        go_wp2
        have hW : RR ((w1.drewN nq).setCell ⟨g, 1, none⟩ (.int .i64 ((k : Int) + (m : Int) + (x : Int)))) B g A c zs ((k : Int) + (m : Int) + (x : Int)) 0 := (hrr.drewN nq).setP _
        have hgW : w.grownBy ((w1.drewN nq).setCell ⟨g, 1, none⟩ (.int .i64 ((k : Int) + (m : Int) + (x : Int)))) (some g) := Only.put (Only.drewN hg _) 1 _
        generalize (w1.drewN nq).setCell ⟨g, 1, none⟩ (.int .i64 ((k : Int) + (m : Int) + (x : Int))) = W at *
        clear hrr hg h3 h4 h5 hf1 hf2
        have h3 := hW.c0
        have h4 := hW.c1
        have hb1 : (0 : Int) ≤ (k : Int) + (m : Int) := by omega
        have hb3 : (k : Int) + (m : Int) + (x : Int) ≤ (c : Int) := by omega
        have hb2 : (k : Int) + (m : Int) ≤ (k : Int) + (m : Int) + (x : Int) := by omega
        have hconv : ∀ (A' : Option Addr) (cc nb : Nat), (A' = if c = k + m then A else A.map (·.add (k + m))) →
            (convert 23 9 (.slice A' x cc)).run Try.prog (W.drewN nb) = .ok (.string (strOfNums ((zs.drop (k + m)).take x))) (W.drewN nb) := by
          intro A' cc nb hA'
          have hr : Rds (W.drewN nb) B A' (c8 ((zs.drop (k + m)).take x)) := by
            have := (((hW.drewN nb).2.1).drop (k + m) c (by simpa [c8] using hlc)).take x
            rw [hA']
            simpa [c8] using this
          have := conv_text (P := Try.prog) (W.drewN nb) 23 5 9 Try.underlying23 Try.underlying5 Try.underlying9 hr cc
          rwa [hlen] at this
        have HW := Lib.hid hW
        have hw1 : IntKind.i64.wrap ((k : Int) + (m : Int) + (x : Int) - (x : Int)) = (k : Int) + (m : Int) := by rw [IntWalk.i64_in _ (by omega)]; omega
        have ht1 : ((k : Int) + (m : Int)).toNat = k + m := by omega
        have ht2 : ((k : Int) + (m : Int) + (x : Int)).toNat = k + m + x := by omega
        have hd1 : k + m + x - (k + m) = x := by omega
        clear hW hs hX hml
        by_cases hck : c = k + m
        · have hconv1 := fun (cc nb : Nat) => hconv A cc nb (by rw [if_pos hck])
          have HCK := Lib.hid hck
          clear hconv
          go_quiet (fail)
          go_wp2
          go_ret
          exact ⟨rfl, by rw [show ((k + (m + x) : Nat) : Int) = (k : Int) + (m : Int) + (x : Int) by omega]; exact HW.out.drewN _, Only.drewN hgW _⟩
        · have hconv1 := fun (cc nb : Nat) => hconv (A.map (·.add (k + m))) cc nb (by rw [if_neg hck])
          clear hconv
          go_quiet (fail)
          go_wp2
          go_ret
          exact ⟨rfl, by rw [show ((k + (m + x) : Nat) : Int) = (k : Int) + (m : Int) + (x : Int) by omega]; exact HW.out.drewN _, Only.drewN hgW _⟩
  · rw [if_neg hE] at hnum
    have hv : textOf (zs.drop k) = ([], 0, E') := by unfold textOf; rw [hnum]; rw [if_neg hE]
    rw [hv]
    clear hv hnum
    obtain ⟨rfl, rfl⟩ := hE0 hE
    have hE2 : (E' != 0) = true := by simpa using hE
    clear hE
    go_enter Try.func35, Try.ntmps35
    go_wp2_with fail
    refine HU.out.mono ?_
    rintro e w1 ⟨rfl, hrr, hg⟩
    have h4 := hrr.c1
    have h5 := hrr.c2
    go_wp2
    go_ret
    exact ⟨rfl, hrr, hg⟩
end
end Go.Proofs.Ytihndehmagfidaa
