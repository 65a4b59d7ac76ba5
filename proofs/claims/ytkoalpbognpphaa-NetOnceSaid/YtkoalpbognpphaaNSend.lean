/- Sending a letter, doubling one. -/
import Derived.Test.YtkoalpbognpphaaNPut2
namespace Go.Proofs.Ytkoalpbognpphaa
open Go.RowKit Go.Maps
set_option linter.unusedVariables false

theorem Turn.of2 {w w' : World} {S S' : Nat → Prop} {b mb : Nat} {es : List (Le × Pl)} {sent : Nat} (h : Nt w S b mb es sent) (ho : Outs (fun i => i = b ∨ i = mb) w w') (hn : ∀ k, S' k → S k ∨ w.heap.size ≤ k) : Turn S S' w w' :=
  ⟨ho.mono (fun k hk => by rcases hk with rfl | rfl; exact h.sb; exact h.sm), hn⟩

/-- what sending answers -/
def sendE (f t : Int) (n : Nat) : Int := if (f < 0 ∨ 63 < f) ∨ (t < 0 ∨ 63 < t) then 2 else if 16384 < n then 3 else 0

set_option maxHeartbeats 4000000 in
set_option maxRecDepth 100000 in
theorem sendBad_any {w : World} {S : Nat → Prop} {b mb : Nat} {es : List (Le × Pl)} {sent : Nat} (h : Nt w S b mb es sent) (f t : Int) (A : Option Addr) (n c : Nat) (hn : n ≤ 9223372036854775807) (hE : sendE f t n ≠ 0) :
    Calls Try.prog 9 #[.pointer (some ⟨b, 0, none⟩), .int .i64 f, .int .i64 t, .slice A n c] w fun e w' => e = .returned (.tuple #[.int .u64 0, .int .i64 (sendE f t n)]) ∧ w' = w := by
  have H := Lib.hid h
  clear h
  by_cases hf : (f < 0 ∨ 63 < f)
  · have e1 : sendE f t n = 2 := by unfold sendE; rw [if_pos (.inl hf)]
    rw [e1]
    have hfb : (decide (f < 0) || decide (63 < f)) = true := by simpa using hf
    clear hE hf e1
    go_enter Try.func9, Try.ntmps9
    go_wp2_with (first
      | (go_at_call 31; refine (nobodys_any H.out).mono ?_; rintro e w' ⟨rfl, rfl⟩)
      | (go_at_call 32; refine (mayNot_any _ _).mono ?_; rintro e w' ⟨rfl, rfl⟩; rw [hfb]))
    go_returns
    exact ⟨rfl, rfl⟩
  · have hfb : (decide (f < 0) || decide (63 < f)) = false := by
      rw [Bool.or_eq_false_iff]
      exact ⟨decide_eq_false (fun e => hf (.inl e)), decide_eq_false (fun e => hf (.inr e))⟩
    have cf : Calls Try.prog 32 #[.int .i64 f] w fun e w' => e = .returned (.bool false) ∧ w' = w := by rw [← hfb]; exact mayNot_any f w
    have CF := Lib.hid cf
    clear cf hfb
    by_cases ht : (t < 0 ∨ 63 < t)
    · have e1 : sendE f t n = 2 := by unfold sendE; rw [if_pos (.inr ht)]
      rw [e1]
      have htb : (decide (t < 0) || decide (63 < t)) = true := by simpa using ht
      have ct : Calls Try.prog 32 #[.int .i64 t] w fun e w' => e = .returned (.bool true) ∧ w' = w := by rw [← htb]; exact mayNot_any t w
      have CT := Lib.hid ct
      clear hE hf e1 ct htb ht
      go_enter Try.func9, Try.ntmps9
      go_wp2_with fail
      go_at_call 31
      refine (nobodys_any H.out).mono ?_
      rintro e w1 ⟨rfl, hw⟩
      rw [hw]
      go_wp2_with fail
      go_at_call 32
      refine CF.out.mono ?_
      rintro e w2 ⟨rfl, hw2⟩
      rw [hw2]
      go_wp2_with fail
      go_at_call 32
      refine CT.out.mono ?_
      rintro e w3 ⟨rfl, hw3⟩
      rw [hw3]
      go_wp2
      go_returns
      exact ⟨rfl, rfl⟩
    · have htb : (decide (t < 0) || decide (63 < t)) = false := by
        rw [Bool.or_eq_false_iff]
        exact ⟨decide_eq_false (fun e => ht (.inl e)), decide_eq_false (fun e => ht (.inr e))⟩
      have ct : Calls Try.prog 32 #[.int .i64 t] w fun e w' => e = .returned (.bool false) ∧ w' = w := by rw [← htb]; exact mayNot_any t w
      have CT := Lib.hid ct
      have hno : ¬ ((f < 0 ∨ 63 < f) ∨ (t < 0 ∨ 63 < t)) := fun e => e.elim hf ht
      have hn3 : 16384 < n := by
        unfold sendE at hE
        rw [if_neg hno] at hE
        by_cases q : 16384 < n
        · exact q
        · rw [if_neg q] at hE; exact absurd rfl hE
      have e1 : sendE f t n = 3 := by unfold sendE; rw [if_neg hno, if_pos hn3]
      rw [e1]
      have hn3z : (16384 : Int) < (n : Int) := by omega
      clear hE hf e1 ct htb ht hno
      go_enter Try.func9, Try.ntmps9
      go_wp2_with fail
      go_at_call 31
      refine (nobodys_any H.out).mono ?_
      rintro e w1 ⟨rfl, hw⟩
      rw [hw]
      go_wp2_with fail
      go_at_call 32
      refine CF.out.mono ?_
      rintro e w2 ⟨rfl, hw2⟩
      rw [hw2]
      go_wp2_with fail
      go_at_call 32
      refine CT.out.mono ?_
      rintro e w3 ⟨rfl, hw3⟩
      rw [hw3]
      go_wp2
      go_returns
      exact ⟨rfl, rfl⟩

set_option maxHeartbeats 4000000 in
set_option maxRecDepth 100000 in
theorem send_any {w : World} {S : Nat → Prop} {b mb : Nat} {es : List (Le × Pl)} {sent : Nat} (h : Nt w S b mb es sent) (f t : Int) (A : Option Addr) (bs : List Int) (n c : Nat) (hbn : bs.length = n) (hE : sendE f t n = 0) (hr : Rds w w.heap.size A (c8 bs)) (hs : sent < 4000) (hm : es.length < 4000) :
    Calls Try.prog 9 #[.pointer (some ⟨b, 0, none⟩), .int .i64 f, .int .i64 t, .slice A n c] w fun e w' => e = .returned (.tuple #[.int .u64 (sent + 1 : Nat), .int .i64 0]) ∧
      ∃ S' k, Nt w' S' b mb (es ++ [(⟨(sent + 1 : Nat), (sent + 1 : Nat), f, t, bs⟩, k)]) (sent + 1) ∧ Turn S S' w w' := by
  have hno : ¬ ((f < 0 ∨ 63 < f) ∨ (t < 0 ∨ 63 < t)) := fun e => by unfold sendE at hE; rw [if_pos e] at hE; cases hE
  have hn : ¬ 16384 < n := fun e => by unfold sendE at hE; rw [if_neg hno, if_pos e] at hE; cases hE
  have hfb : (decide (f < 0) || decide (63 < f)) = false := by simp; omega
  have htb : (decide (t < 0) || decide (63 < t)) = false := by simp; omega
  have cf : Calls Try.prog 32 #[.int .i64 f] w fun e w' => e = .returned (.bool false) ∧ w' = w := by rw [← hfb]; exact mayNot_any f w
  have ct : Calls Try.prog 32 #[.int .i64 t] w fun e w' => e = .returned (.bool false) ∧ w' = w := by rw [← htb]; exact mayNot_any t w
  have CF := Lib.hid cf
  have CT := Lib.hid ct
  have hn3z : decide ((16384 : Int) < (n : Int)) = false := decide_eq_false (by omega)
  have cl := clone_any (c := c) hr (by omega)
  rw [hbn] at cl
  have CL := Lib.hid cl
  have H := Lib.hid h
  have HBN := Lib.hid hbn
  have hc1 : w.cell? ⟨b, 1, none⟩ = some (.int .u64 sent) := by simpa using h.blk.cell 1
  clear h cf ct hfb htb hE cl hr hbn
  go_enter Try.func9, Try.ntmps9
  go_wp2_with fail
  go_at_call 31
  refine (nobodys_any H.out).mono ?_
  rintro e w1 ⟨rfl, hw⟩
  rw [hw]
  go_wp2_with fail
  go_at_call 32
  refine CF.out.mono ?_
  rintro e w2 ⟨rfl, hw2⟩
  rw [hw2]
  go_wp2_with fail
  go_at_call 32
  refine CT.out.mono ?_
  rintro e w3 ⟨rfl, hw3⟩
  rw [hw3]
  go_wp2_with fail
  go_at_call 34
  refine CL.out.mono ?_
  rintro e w4 ⟨A', c', rfl, hb4, hbd4⟩
  have hn4 := H.out.go hb4
  have hsb := H.out.lt b H.out.sb
  have hsm := H.out.lt mb H.out.sm
  have hbd5 : Bd w4 (fun i => (w.heap.size ≤ i ∧ i < w4.heap.size) ∧ i ≠ b ∧ i ≠ mb) bs (A', c') := hbd4.within.mono (fun i hi => ⟨hi, by omega, by omega⟩)
  have ct := put_any hn4 ⟨0, (sent + 1 : Nat), f, t, bs⟩ ⟨(sent + 1 : Nat), (sent + 1 : Nat), f, t, bs⟩ (A', c') rfl ⟨by show (1 : Int) ≤ ((sent + 1 : Nat) : Int); omega, Int.le_refl _⟩ ⟨by show 0 ≤ f; omega, by show f ≤ 63; omega⟩ ⟨by show 0 ≤ t; omega, by show t ≤ 63; omega⟩ (by show bs.length ≤ 16384; have := HBN.out; omega) hs hm hbd5 (fun i hi => hi.2)
  simp only [val, HBN.out] at ct
  rw [show ((sent + 1 : Nat) : Int) = (sent : Int) + 1 by omega] at ct
  have CT2 := Lib.hid ct
  have HB4 := Lib.hid hb4
  have HN4 := Lib.hid hn4
  clear ct hn4 hb4 hbd4 hbd5 hw hw2 hw3
  go_wp2_with fail
  go_at_call 33
  refine CT2.out.mono ?_
  rintro e w5 ⟨rfl, hn5, ho5⟩
  have HN5 := Lib.hid hn5
  have HO5 := Lib.hid ho5
  clear hn5 ho5
  go_wp2
  go_returns
  refine ⟨by simp, _, (A', c'), by simpa using HN5.out, ?_⟩
  refine Turn.of2 H.out ((Outs.of HB4.out).same (HO5.out)) (fun k hk => ?_)
  rcases hk with hk | hk
  · exact .inl hk
  · exact .inr hk.1
end Go.Proofs.Ytkoalpbognpphaa
