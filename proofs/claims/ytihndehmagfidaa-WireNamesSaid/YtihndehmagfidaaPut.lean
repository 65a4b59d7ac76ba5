/- The walks over wire.putDigits, wire.copied, wire.AppendUint. -/
import Derived.Test.YtihndehmagfidaaRows
import Derived.Test.YtihndehmagfidaaWords
import Derived.Test.YtihndehmagfidaaMath
import Derived.Outline
namespace Go.Proofs.Ytihndehmagfidaa
open Go.RowKit
set_option linter.unusedVariables false

theorem info8 : (Try.prog.info? 5).map (fun i => (i.zero, i.size, i.bytes)) = some (some (.int .u8 0), 1, 1) := by kernel_rfl

set_option maxHeartbeats 400000 in
theorem put_any (B : Nat) (x : Int) (v : Value) (n : Nat) (xs : List Value) (w : World) (h0 : 0 ≤ x) (h1 : x ≤ 18446744073709551615) (hB : B ≤ w.heap.size)
    (hown : w.ownsRow B 5 1 v n xs) (hn : n + 10 ≤ 140737488355328) :
    Calls Try.prog 43 #[v, .int .u64 x] w fun e w' =>
      ∃ v', e = .returned v' ∧ w'.ownsRow B 5 1 v' (n + (enc x).length) (xs ++ c8 (enc x)) ∧ Below B w w' := by
  go_enter Try.func43, Try.ntmps43
  go_wp2
  go_loopw [0, 1] (fun v x' wr => ∃ (y : Int) (ds : List Int), x' = .int .u64 y ∧ 0 ≤ y ∧ y ≤ 18446744073709551615 ∧ ds ++ enc y = enc x ∧ wr.ownsRow B 5 1 v (n + ds.length) (xs ++ c8 ds) ∧ Below B w wr) (fun _ x' _ => (intOf x').toNat)
  case atStart => exact ⟨x, [], rfl, h0, h1, rfl, by simpa [c8] using hown, Below.refl _ _⟩
  case round =>
    obtain ⟨y, ds, rfl, hy0, hy1, hd, hown, hbel⟩ := hrel
    have hl1 := enc_pos y
    have hl2 : ds.length + (enc y).length ≤ 10 := by rw [← List.length_append, hd]; exact enc_length x
    have Hd := Lib.hid hd
    clear hd
    obtain ⟨i0, hi, hz0, hz1, hz2⟩ := info_parts info8
    by_cases hlt : 128 ≤ y
    · go_wp2_with (at_builtin; go_loud (refine app_one wr rfl (.tmp 7) (.tmp 11) 23 rfl B 5 i0 _ 1 Try.underlying23 hi hz0 hz1 hz2 rfl u0 _ _ rfl hown (.int .u8 (bits .or .u8 (y % 256) 128)) rfl rfl (by unfold maxLen; omega) (by omega) (Nat.le_trans hB hbel.size) ?_); intro v1 w1 hown1 hb1)
      go_roundw
      case rel =>
        refine ⟨y / 128, ds ++ [y % 128 + 128], rfl, by omega, by omega, ?_, ?_, hbel.trans (hb1.mono (Nat.le_refl _))⟩
        · rw [← Hd.out, enc_step hlt hy1]; simp
        · rw [List.length_append, c8_append, ← List.append_assoc, ← Nat.add_assoc]
          rw [or_digit] at hown1
          exact hown1
      case measure => simp [intOf]; omega
    · go_wp2_with (at_builtin; go_loud (refine app_one wr rfl (.tmp 15) (.tmp 18) 23 rfl B 5 i0 _ 1 Try.underlying23 hi hz0 hz1 hz2 rfl u0 _ _ rfl hown (.int .u8 y) rfl rfl (by unfold maxLen; omega) (by omega) (Nat.le_trans hB hbel.size) ?_); intro v1 w1 hown1 hb1)
      go_ret
      refine ⟨v1, rfl, ?_, hbel.trans hb1⟩
      have he : enc x = ds ++ [y] := by rw [← Hd.out, enc_small (by omega)]
      rw [he, List.length_append, c8_append, ← List.append_assoc, ← Nat.add_assoc]
      exact hown1

set_option maxHeartbeats 400000 in
/-- wire.copied: the bytes in new memory -/
theorem copied_any (A : Option Addr) (zs : List Int) (c : Nat) (more : Int) (w : World) (h0 : 0 ≤ more) (h1 : more ≤ 65546) (hl : zs.length ≤ 140737488486400) (hc : zs.length ≤ c) (hA : A = none → zs.length = 0 ∧ c = 0)
    (hr : Rds w w.heap.size A (c8 zs)) :
    Calls Try.prog 44 #[.slice A zs.length c, .int .i64 more] w fun e w' =>
      ∃ g cap, e = .returned (.slice (some ⟨g, 0, none⟩) zs.length cap) ∧ w'.ownsRow w.heap.size 5 1 (.slice (some ⟨g, 0, none⟩) zs.length cap) zs.length (c8 zs) ∧ Below w.heap.size w w' := by
  obtain ⟨m, rfl⟩ := Int.eq_ofNat_of_zero_le h0
  obtain ⟨i0, hi, hz0, hz1, hz2⟩ := info_parts info8
  go_enter Try.func44, Try.ntmps44
  go_wp2_with (first
    | (at_make; go_loud (refine wpList_make_own _ rfl _ _ 23 rfl w.heap.size 5 i0 (.int .u8 0) 1 Try.underlying23 hi hz0 hz1 .i64 .i64 _ (zs.length + m) rfl rfl (by omega) (by rw [hz2]; omega) (by unfold maxLen; omega) (Nat.le_refl _) ?_); intro w1 hown1 hg1)
    | (at_builtin; go_loud (refine wpList_append_fits_any w1 rfl (.tmp 9) (.tmp 10) 23 rfl w.heap.size 5 i0 1 Try.underlying23 hi hz1 w.heap.size 0 (zs.length + m) [] rfl hown1 A zs.length c (c8 zs) rfl (by simp [c8]) hA (fun ad had => ?_) (c8_one zs) (by omega) ?_)))
  · intro j u hu
    have hb1 : Below w.heap.size w w1 := (Below.refl _ _).grown hg1 (Nat.le_refl _) (by simp)
    obtain ⟨ad', e, _, hcell⟩ := (hr.below hb1).at_ hu
    rw [had] at e
    obtain rfl := Option.some.inj e
    exact hcell
  · intro w2 hown2 hg2
    go_wp2
    go_ret
    refine ⟨w.heap.size, zs.length + m, by simp, by simpa using hown2, ?_⟩
    exact ((Below.refl _ _).grown hg1 (Nat.le_refl _) (by simp)).grown hg2 (hg1.size) (by simp)

set_option maxHeartbeats 400000 in
/-- wire.AppendUint -/
theorem appUint_any (A : Option Addr) (zs : List Int) (c : Nat) (x : Int) (w : World) (h0 : 0 ≤ x) (h1 : x ≤ 18446744073709551615) (hl : zs.length ≤ 140737488351232) (hc : zs.length ≤ c) (hA : A = none → zs.length = 0 ∧ c = 0)
    (hr : Rds w w.heap.size A (c8 zs)) :
    Calls Try.prog 12 #[.slice A zs.length c, .int .u64 x] w fun e w' =>
      ∃ v, e = .returned v ∧ w'.ownsRow w.heap.size 5 1 v (zs ++ enc x).length (c8 (zs ++ enc x)) ∧ Below w.heap.size w w' := by
  go_enter Try.func12, Try.ntmps12
  go_wp2_with fail
  refine (copied_any A zs c 10 w (by omega) (by omega) (by omega) hc hA hr).mono ?_
  rintro e w1 ⟨g, cap, rfl, hown, hb⟩
  go_wp2_with fail
  refine (put_any w.heap.size x _ zs.length (c8 zs) w1 h0 h1 hb.size hown (by omega)).mono ?_
  rintro e w2 ⟨v, rfl, hown2, hb2⟩
  go_wp2
  go_ret
  exact ⟨v, rfl, by rw [List.length_append, c8_append]; exact hown2, hb.trans hb2⟩
end Go.Proofs.Ytihndehmagfidaa
