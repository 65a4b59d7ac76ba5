/- Lists of letters in memory, and the law's same. -/
import Derived.Test.YtkoalpbognpphaaNFlight
import Derived.Test.YtkoalpbognpphaaNClear
import Derived.Test.YtkoalpbognpphaaNDlv
import Derived.Test.YtkoalpbognpphaaNDbl
import Derived.Test.YtkoalpbognpphaaSame
namespace Go.Proofs.Ytkoalpbognpphaa
open Go.RowKit Go.Maps
set_option linter.unusedVariables false

theorem addr_off {ad : Addr} {k : Nat} (h : k ≠ 0) : ad.add k = ⟨ad.block, ad.off + k, none⟩ := by unfold Addr.add; rw [if_neg h]
theorem row_slice {w : World} {B : Nat} {e : TypeId} {size : Nat} {v : Value} {n : Nat} {xs : List Value} (h : w.ownsRow B e size v n xs) : ∃ A c, v = .slice A n c ∧ Rds w w.heap.size A xs := by
  have h0 := h.1
  rcases h.2 with ⟨rfl, rfl⟩ | ⟨g, cap, cur, rfl, hBg, hh, h1, h2, h3, h4⟩
  · refine ⟨none, 0, rfl, ?_⟩
    have : xs = [] := List.eq_nil_of_length_eq_zero (by simpa using h0)
    rw [this]
    exact Rds.nil_
  · refine ⟨_, _, rfl, fun _ => ⟨_, rfl, (Array.getElem?_eq_some_iff.1 hh).1, fun j u hu => ?_⟩⟩
    have hadd : (⟨g, 0, none⟩ : Addr).add j = ⟨g, j, none⟩ := by unfold Addr.add; split <;> simp_all
    rw [hadd]
    have hW : Whole w g e cur := hh
    rw [hW.cell j]
    rw [← h4, List.getElem?_take] at hu
    split at hu
    · simpa using hu
    · cases hu
theorem cLs_get {ps : List (Le × Pl)} {k : Nat} (hk : k < ps.length) (i : Nat) (hi : i < 5) : (cLs ps)[k * 5 + i]? = (cL ps[k])[i]? := by
  induction ps generalizing k with
  | nil => cases hk
  | cons p ps ih =>
    have e : cLs (p :: ps) = cL p ++ cLs ps := rfl
    rw [e]
    cases k with
    | zero =>
      rw [List.getElem?_append_left (by simp [cL]; omega)]
      simp
    | succ k =>
      rw [List.getElem?_append_right (by simp [cL]; omega)]
      have e2 : (k + 1) * 5 + i - (cL p).length = k * 5 + i := by simp [cL]; omega
      rw [e2, ih (by simpa using hk)]
      rfl

/-- one letter's cells -/
theorem at5 {w : World} {lim : Nat} {A : Option Addr} {ps : List (Le × Pl)} (h : Rds w lim A (cLs ps)) {k : Nat} (hk : k < ps.length) :
    ∃ ad, A = some ad ∧ ad.block < lim ∧ w.cell? (ad.add (k * 5)) = some (.int .u64 ps[k].1.num) ∧ w.cell? ⟨(ad.add (k * 5)).block, (ad.add (k * 5)).off + 1, none⟩ = some (.int .u64 ps[k].1.first) ∧ w.cell? ⟨(ad.add (k * 5)).block, (ad.add (k * 5)).off + 2, none⟩ = some (.int .i64 ps[k].1.frm) ∧
      w.cell? ⟨(ad.add (k * 5)).block, (ad.add (k * 5)).off + 3, none⟩ = some (.int .i64 ps[k].1.to_) ∧ w.cell? ⟨(ad.add (k * 5)).block, (ad.add (k * 5)).off + 4, none⟩ = some (.slice ps[k].2.1 ps[k].1.body.length ps[k].2.2) := by
  obtain ⟨ad, rfl, hl, hc0⟩ := h.at_ ((cLs_get hk 0 (by omega)).trans rfl)
  have hc : ∀ i, i < 5 → i ≠ 0 → w.cell? ⟨(ad.add (k * 5)).block, (ad.add (k * 5)).off + i, none⟩ = (cL ps[k])[i]? := fun i hi h0 => by
    obtain ⟨u, hu⟩ : ∃ u, (cL ps[k])[i]? = some u := ⟨_, List.getElem?_eq_getElem (show i < (cL ps[k]).length from hi)⟩
    obtain ⟨ad', e, _, hc1⟩ := h.at_ ((cLs_get hk i hi).trans hu)
    obtain rfl := Option.some.inj e
    rw [← addr_off h0, add_twice, hc1, hu]
  exact ⟨ad, rfl, hl, hc0, (hc 1 (by omega) (by omega)).trans rfl, (hc 2 (by omega) (by omega)).trans rfl, (hc 3 (by omega) (by omega)).trans rfl, (hc 4 (by omega) (by omega)).trans rfl⟩

set_option maxHeartbeats 4000000 in
set_option maxRecDepth 100000 in
theorem same_any {w : World} {x y : Le} {k k' : Pl} (hr : Rds w w.heap.size k.1 (c8 x.body)) (hr' : Rds w w.heap.size k'.1 (c8 y.body)) (hl : x.body.length ≤ 16777216) (hl' : y.body.length ≤ 16777216) :
    Calls Try.prog 20 #[val x k, val y k'] w fun e w' => e = .returned (.bool (decide (x = y))) ∧ Below w.heap.size w w' := by
  simp only [val]
  have hw1 : Whole ((w.alloc (.cells #[.int .u64 x.num, .int .u64 x.first, .int .i64 x.frm, .int .i64 x.to_, .slice k.1 x.body.length k.2] 32)).alloc (.cells #[.int .u64 y.num, .int .u64 y.first, .int .i64 y.frm, .int .i64 y.to_, .slice k'.1 y.body.length k'.2] 32)) w.heap.size 32 #[.int .u64 x.num, .int .u64 x.first, .int .i64 x.frm, .int .i64 x.to_, .slice k.1 x.body.length k.2] := (Whole.new w _ _).alloc _
  have hw2 := Whole.new (w.alloc (.cells #[.int .u64 x.num, .int .u64 x.first, .int .i64 x.frm, .int .i64 x.to_, .slice k.1 x.body.length k.2] 32)) 32 #[.int .u64 y.num, .int .u64 y.first, .int .i64 y.frm, .int .i64 y.to_, .slice k'.1 y.body.length k'.2]
  have hb1 : Below w.heap.size w ((w.alloc (.cells #[.int .u64 x.num, .int .u64 x.first, .int .i64 x.frm, .int .i64 x.to_, .slice k.1 x.body.length k.2] 32)).alloc (.cells #[.int .u64 y.num, .int .u64 y.first, .int .i64 y.frm, .int .i64 y.to_, .slice k'.1 y.body.length k'.2] 32)) := ((Below.refl _ _).alloc (Nat.le_refl _) _).alloc (by simp) _
  rw [World.size_alloc] at hw2
  have HR := Lib.hid (hr.below hb1)
  have HR' := Lib.hid (hr'.below hb1)
  have HW1 := Lib.hid hw1
  have HW2 := Lib.hid hw2
  have HB1 := Lib.hid hb1
  have HEQ : Hid (∀ b0 b1 b2 b3 b4 : Bool, b0 = (x.num == y.num) → b1 = (x.first == y.first) → b2 = (x.frm == y.frm) → b3 = (x.to_ == y.to_) → b4 = same8 x.body y.body → (b0 && b1 && b2 && b3 && b4) = decide (x = y)) := Lib.hid (by
    rintro _ _ _ _ _ rfl rfl rfl rfl rfl
    obtain ⟨a0, a1, a2, a3, a4⟩ := x
    obtain ⟨d0, d1, d2, d3, d4⟩ := y
    rw [Bool.eq_iff_iff]
    simp [same8, and_assoc])
  clear hr hr' hw1 hw2 hb1
  go_enter Try.func20, Try.ntmps20
  go_upto_region 1 with fail
  generalize ((w.alloc (.cells #[.int .u64 x.num, .int .u64 x.first, .int .i64 x.frm, .int .i64 x.to_, .slice k.1 x.body.length k.2] 32)).alloc (.cells #[.int .u64 y.num, .int .u64 y.first, .int .i64 y.frm, .int .i64 y.to_, .slice k'.1 y.body.length k'.2] 32)) = w1 at HW1 HW2 HR HR' HB1 ⊢
  obtain ⟨c0, c1, c2, c3, c4⟩ := cells5 HW1.out
  obtain ⟨d0, d1, d2, d3, d4⟩ := cells5 HW2.out
  have hsz := HB1.out.size
  have ct := sameBytes_any k.1 k'.1 x.body y.body k.2 k'.2 w1.heap.size w1 (by omega) (by omega) (HR.out.more hsz) (HR'.out.more hsz)
  have CT := Lib.hid ct
  clear ct
  generalize e0 : (x.num == y.num) = b0
  generalize e1 : (x.first == y.first) = b1
  generalize e2 : (x.frm == y.frm) = b2
  generalize e3 : (x.to_ == y.to_) = b3
  cases b0 with
  | false =>
    have HE := Lib.hid (HEQ.out false b1 b2 b3 _ e0.symm e1.symm e2.symm e3.symm rfl)
    clear e1 e2 e3
    go_wp2
    go_ret
    exact ⟨by rw [← HE.out]; rfl, HB1.out⟩
  | true =>
  cases b1 with
  | false =>
    have HE := Lib.hid (HEQ.out true false b2 b3 _ e0.symm e1.symm e2.symm e3.symm rfl)
    clear e2 e3
    go_wp2
    go_ret
    exact ⟨by rw [← HE.out]; rfl, HB1.out⟩
  | true =>
  cases b2 with
  | false =>
    have HE := Lib.hid (HEQ.out true true false b3 _ e0.symm e1.symm e2.symm e3.symm rfl)
    clear e3
    go_wp2
    go_ret
    exact ⟨by rw [← HE.out]; rfl, HB1.out⟩
  | true =>
  cases b3 with
  | false =>
    have HE := Lib.hid (HEQ.out true true true false _ e0.symm e1.symm e2.symm e3.symm rfl)
    go_wp2
    go_ret
    exact ⟨by rw [← HE.out]; rfl, HB1.out⟩
  | true =>
    have HE := Lib.hid (HEQ.out true true true true _ e0.symm e1.symm e2.symm e3.symm rfl)
    go_wp2_with fail
    go_at_call 41
    refine CT.out.mono ?_
    rintro e w2 ⟨rfl, n, rfl⟩
    go_wp2
    go_ret
    exact ⟨by rw [← HE.out]; rfl, bDrewN HB1.out n⟩
end Go.Proofs.Ytkoalpbognpphaa
