/- The walks over Int, Bool, Text and Done of a wire.Reader that has not stopped. -/
import Derived.Test.YtihndehmagfidaaGo
import Derived.BigGuard
namespace Go.Proofs.Ytihndehmagfidaa
open Go.RowKit
set_option linter.unusedVariables false

section
variable {w : World} {g c k : Nat} {A : Option Addr} {zs : List Int}

set_option maxHeartbeats 400000 in
theorem int_go (h : RD w g A c zs k 0) (hk : k ≤ zs.length) {X : Int} {n : Nat} {E : Int} (hn : num 18446744073709551615 (zs.drop k) = (X, (n : Int), E)) (hle : k + n ≤ zs.length) (hX0 : 0 ≤ X) (hX1 : X ≤ 18446744073709551615) :
    Calls Try.prog 31 #[.pointer (some ⟨g, 0, none⟩)] w fun r w' => r = .returned (.int .i64 (zig X)) ∧ RD w' g A c zs (k + n : Nat) E ∧ w.grownBy w' (some g) := by
  have H := Lib.hid (uint_go h hk hn hle)
  have HS : Hid (Stp w (some ⟨g, 0, none⟩) false) := Lib.hid h.ers.on
  have HZ := Lib.hid (zig_of hX0 hX1)
  have hm := and_one hX0 hX1
  clear h hn
  go_enter Try.func31, Try.ntmps31
  go_wp2_with fail
  refine HS.out.now.mono ?_
  rintro e w1 ⟨rfl, rfl⟩
  go_wp2_with fail
  refine H.out.mono ?_
  rintro e w2 ⟨rfl, hrd, hg⟩
  go_wp2
  go_ret
  exact ⟨by rw [← HZ.out]; rfl, hrd, hg⟩

/-- a truth, from the beginning of l: the truth, how many bytes, the error -/
def truth : List Int → Bool × Nat × Int
  | [] => (false, 0, 4)
  | d :: _ => if 1 < d then (false, 0, 5) else (d == 1, 1, 0)

set_option maxHeartbeats 400000 in
theorem bool_go (h : RD w g A c zs k 0) (hk : k ≤ zs.length) :
    Calls Try.prog 17 #[.pointer (some ⟨g, 0, none⟩)] w fun r w' => r = .returned (.bool (truth (zs.drop k)).1) ∧ RD w' g A c zs (k + (truth (zs.drop k)).2.1 : Nat) (truth (zs.drop k)).2.2 ∧ w.grownBy w' (some g) := by
  have HS : Hid (Stp w (some ⟨g, 0, none⟩) false) := Lib.hid h.ers.on
  have h1 := h.c1
  have h2 := h.c2
  have h3 := h.c3
  have hf2 := h.f 2
  have hf3 := h.f 3
  have hl := h.2.2.2.1
  by_cases hlt : k < zs.length
  · obtain ⟨ad, rfl, _, hcell⟩ := h.2.1.at_ (c8_get hlt)
    have hb := h.2.2.2.2.2 zs[k] (List.getElem_mem hlt)
    have hd : zs.drop k = zs[k] :: zs.drop (k + 1) := List.drop_eq_getElem_cons hlt
    generalize zs[k] = d at *
    have H := Lib.hid h
    have hne : ((k : Int) == (zs.length : Int)) = false := by simp; omega
    clear h
    by_cases h1d : 1 < d
    · have hv : truth (zs.drop k) = (false, 0, 5) := by rw [hd]; simp [truth, h1d]
      rw [hv]
      clear hv hd
      go_enter Try.func17, Try.ntmps17
      go_wp2_with fail
      refine HS.out.now.mono ?_
      rintro e w1 ⟨rfl, rfl⟩
      go_wp2_with fail
      go_quiet (fail)
      go_wp2_with fail
      go_quiet (fail)
      go_wp2
      go_ret
      exact ⟨rfl, (H.out.drewN _).setE _, Only.put (Only.drewN (Only.refl _ _) _) 3 _⟩
    · have hv : truth (zs.drop k) = (d == 1, 1, 0) := by rw [hd]; simp [truth, h1d]
      rw [hv]
      clear hv hd
      go_enter Try.func17, Try.ntmps17
      go_wp2_with fail
      refine HS.out.now.mono ?_
      rintro e w1 ⟨rfl, rfl⟩
      go_wp2_with fail
      go_quiet (fail)
      go_wp2_with fail
      go_quiet (fail)
      go_wp2
      go_ret
      exact ⟨rfl, by rw [Int.natCast_add]; exact (H.out.drewN _).setP _, Only.put (Only.drewN (Only.refl _ _) _) 2 _⟩
  · have hv : truth (zs.drop k) = (false, 0, 4) := by rw [List.drop_eq_nil_of_le (by omega)]; rfl
    rw [hv]
    obtain rfl : k = zs.length := by omega
    have H := Lib.hid h
    clear h hv
    go_enter Try.func17, Try.ntmps17
    go_wp2_with fail
    refine HS.out.now.mono ?_
    rintro e w1 ⟨rfl, rfl⟩
    go_wp2_with fail
    go_quiet (fail)
    go_wp2
    go_ret
    exact ⟨rfl, (H.out.drewN _).setE _, Only.put (Only.drewN (Only.refl _ _) _) 3 _⟩

/-- the error of a reader at k of n bytes that is to be done -/
def left (k n : Nat) : Int := if k < n then 5 else 0
/-- Done of a reader that goes on: what is left is an error -/
theorem done_go (h : RD w g A c zs k 0) (hk : k ≤ zs.length) :
    Calls Try.prog 40 #[.pointer (some ⟨g, 0, none⟩)] w fun r w' => r = .returned (.int .i64 (left k zs.length)) ∧ RD w' g A c zs k (left k zs.length) ∧ w.grownBy w' (some g) := by
  have HS : Hid (Stp w (some ⟨g, 0, none⟩) false) := Lib.hid h.ers.on
  have h1 := h.c1
  have h2 := h.c2
  have h3 := h.c3
  have hf3 := h.f 3
  have hl := h.2.2.2.1
  have H := Lib.hid h
  clear h
  by_cases hlt : k < zs.length
  · rw [show left k zs.length = 5 from if_pos hlt]
    go_enter Try.func40, Try.ntmps40
    go_wp2_with fail
    go_quiet ((go_at_call 45; exact Calls.quiet_of_same (HS.out _)))
    go_wp2_with fail
    refine (err_made ((H.out.drewN _).setE 5)).mono ?_
    rintro e w1 ⟨rfl, rfl⟩
    go_wp2
    go_ret
    exact ⟨rfl, (H.out.drewN _).setE 5, Only.put (Only.drewN (Only.refl _ _) _) 3 _⟩
  · rw [show left k zs.length = 0 from if_neg hlt]
    go_enter Try.func40, Try.ntmps40
    go_wp2_with fail
    go_quiet ((go_at_call 45; exact Calls.quiet_of_same (HS.out _)))
    go_wp2_with fail
    refine (err_made (H.out.drewN _)).mono ?_
    rintro e w1 ⟨rfl, rfl⟩
    go_wp2
    go_ret
    exact ⟨rfl, H.out.drewN _, Only.drewN (Only.refl _ _) _⟩

/-- a text, from the beginning of l: the text's bytes, how many bytes in all, the error -/
def textOf (l : List Int) : List Int × Nat × Int :=
  if (num 65536 l).2.2 = 0 then
    (if ((l.drop (num 65536 l).2.1.toNat).length : Int) < (num 65536 l).1 then ([], 0, 4)
     else ((l.drop (num 65536 l).2.1.toNat).take (num 65536 l).1.toNat, (num 65536 l).2.1.toNat + (num 65536 l).1.toNat, 0))
  else ([], 0, (num 65536 l).2.2)

set_option maxHeartbeats 400000 in
theorem text_go (h : RD w g A c zs k 0) (hk : k ≤ zs.length) :
    Calls Try.prog 34 #[.pointer (some ⟨g, 0, none⟩)] w fun r w' => r = .returned (.string (strOfNums (textOf (zs.drop k)).1)) ∧ RD w' g A c zs (k + (textOf (zs.drop k)).2.1 : Nat) (textOf (zs.drop k)).2.2 ∧ w.grownBy w' (some g) := by
  have HS : Hid (Stp w (some ⟨g, 0, none⟩) false) := Lib.hid h.ers.on
  obtain ⟨⟨X, n, E, hn, hX0, _, hnl, _, hE0, _⟩, hX1⟩ := num_ok 65536 (zs.drop k) (h.2.2.2.2.2.drop k) (by omega)
  rw [hn] at hX1
  simp only at hX1
  rw [List.length_drop] at hnl
  have HN := Lib.hid (number_at h hk 65536 (by omega) (by omega) hn)
  have hl := h.2.2.2.1
  have hlc := h.2.2.1
  by_cases hE : E = 0
  · subst hE
    obtain ⟨x, rfl⟩ := Int.eq_ofNat_of_zero_le hX0
    by_cases hs : zs.length - (k + n) < x
    · have hv : textOf (zs.drop k) = ([], 0, 4) := by
        unfold textOf; rw [hn]; simp only [Int.toNat_natCast, List.length_drop]; rw [if_pos trivial, if_pos (by omega)]
      rw [hv]
      clear hv hn h
      have hs' : decide ((zs.length - (k + n) : Nat) < x) = true := by simpa using hs
      go_enter Try.func34, Try.ntmps34
      go_wp2_with fail
      refine HS.out.now.mono ?_
      rintro e w1 ⟨rfl, rfl⟩
      go_wp2_with fail
      refine HN.out.mono ?_
      rintro e w2 ⟨rfl, hrd, hg⟩
      go_wp2_with fail
      refine hrd.ers.on.now.mono ?_
      rintro e w3 ⟨rfl, rfl⟩
      have h1 := hrd.c1
      have h2 := hrd.c2
      have h3 := hrd.c3
      have hf3 := hrd.f 3
      go_wp2_with fail
      go_quiet (fail)
      go_wp2
      all_goals
        go_ret
        first | exact ⟨rfl, (hrd.drewN _).setE 4, Only.put (Only.drewN hg _) 3 _⟩ | (obtain rfl : c = k + n := (by assumption); exact ⟨rfl, (hrd.drewN _).setE 4, Only.put (Only.drewN hg _) 3 _⟩)
    · have hv : textOf (zs.drop k) = ((zs.drop (k + n)).take x, n + x, 0) := by
        unfold textOf; rw [hn]; simp only [Int.toNat_natCast, List.length_drop]; rw [if_pos trivial, if_neg (by omega), List.drop_drop]
      rw [hv]
      clear hv hn h
      have hs' : decide ((zs.length - (k + n) : Nat) < x) = false := by simpa using hs
      have hlen : ((zs.drop (k + n)).take x).length = x := by simp; omega
      go_enter Try.func34, Try.ntmps34
      go_wp2_with fail
      refine HS.out.now.mono ?_
      rintro e w1 ⟨rfl, rfl⟩
      go_wp2_with fail
      refine HN.out.mono ?_
      rintro e w2 ⟨rfl, hrd, hg⟩
      go_wp2_with fail
      refine hrd.ers.on.now.mono ?_
      rintro e w3 ⟨rfl, rfl⟩
      have h1 := hrd.c1
      have h2 := hrd.c2
      have h3 := hrd.c3
      have hf2 := hrd.f 2
      have hconv : ∀ (A' : Option Addr) (cc nq : Nat) (q : Int), (A' = if c = k + n then A else A.map (·.add (k + n))) →
          (convert 23 9 (.slice A' x cc)).run Try.prog ((w3.drewN nq).setCell ⟨g, 2, none⟩ (.int .i64 q)) = .ok (.string (strOfNums ((zs.drop (k + n)).take x))) ((w3.drewN nq).setCell ⟨g, 2, none⟩ (.int .i64 q)) := by
        intro A' cc nq q hA'
        have hr : Rds ((w3.drewN nq).setCell ⟨g, 2, none⟩ (.int .i64 q)) g A' (c8 ((zs.drop (k + n)).take x)) := by
          have := ((((hrd.drewN nq).setP q).2.1).drop (k + n) c (by simpa [c8] using hlc)).take x
          rw [hA']
          simpa [c8] using this
        have := conv_text (P := Try.prog) ((w3.drewN nq).setCell ⟨g, 2, none⟩ (.int .i64 q)) 23 5 9 Try.underlying23 Try.underlying5 Try.underlying9 hr cc
        rwa [hlen] at this
      by_cases hck : c = k + n
      · have hconv1 := fun (cc nq : Nat) (q : Int) => hconv A cc nq q (by rw [if_pos hck])
        clear hconv hlen
        subst hck
        go_wp2_with fail
        go_quiet (fail)
        go_wp2
        all_goals
          go_ret
          exact ⟨rfl, by rw [show ((k + (n + x) : Nat) : Int) = (k : Int) + ((n : Int) + (x : Int)) by omega]; exact (hrd.drewN _).setP _, Only.put (Only.drewN hg _) 2 _⟩
      · have hconv1 := fun (cc nq : Nat) (q : Int) => hconv (Option.map ((fun x => x) ∘ fun x => x.add (k + n)) A) cc nq q (by rw [if_neg hck]; rfl)
        clear hconv hlen
        go_wp2_with fail
        go_quiet (fail)
        go_wp2
        all_goals
          go_ret
          exact ⟨rfl, by rw [show ((k + (n + x) : Nat) : Int) = (k : Int) + ((n : Int) + (x : Int)) by omega]; exact (hrd.drewN _).setP _, Only.put (Only.drewN hg _) 2 _⟩
  · have hE' : E ≠ 0 := hE
    have hv : textOf (zs.drop k) = ([], 0, E) := by unfold textOf; rw [hn]; rw [if_neg hE]
    rw [hv]
    clear hv hn h
    obtain ⟨rfl, rfl⟩ := hE0 hE
    go_enter Try.func34, Try.ntmps34
    go_wp2_with fail
    refine HS.out.now.mono ?_
    rintro e w1 ⟨rfl, rfl⟩
    go_wp2_with fail
    refine HN.out.mono ?_
    rintro e w2 ⟨rfl, hrd, hg⟩
    go_wp2_with fail
    refine (hrd.ers.off hE').now.mono ?_
    rintro e w3 ⟨rfl, rfl⟩
    go_wp2
    go_ret
    exact ⟨rfl, hrd, hg⟩
end
end Go.Proofs.Ytihndehmagfidaa
