/- The walks over the sums of bytes: the program's More and Sum, and the document's: all are the plain sum. No condition but that the bytes can be read. -/
import Derived.Test.YtbmllljieoeihaaCStep
namespace Go.Proofs.Ytbmllljieoeihaa
open Go.RowKit
set_option linter.unusedVariables false

theorem not_key (s : Nat) (h : s < 4294967296) : bits .xor .u32 IntKind.u32.max (s : Int) = ((com s : Nat) : Int) := by
  rw [show IntKind.u32.max = ((4294967295 : Nat) : Int) by rfl, u32_xor_nat _ _ (by decide) h, com_xor h]

set_option maxHeartbeats 800000 in
theorem more_any (s : Nat) (A : Option Addr) (zs : List Int) (c lim : Nat) (w : World) (hs : s < 4294967296) (hl : zs.length ≤ 9223372036854775807) (hz : Byt zs) (hr : Rds w lim A (c8 zs)) :
    Calls Try.prog 27 #[.int .u32 s, .slice A zs.length c] w fun e w' => e = .returned (.int .u32 (mor s zs)) ∧ w' = w := by
  have HZ := Lib.hid hz
  have hsg : IntKind.u32.signed = false := rfl
  have hn := not_key s hs
  have hc := com_lt s
  clear hz
  go_enter Try.func27, Try.ntmps27
  go_wp2_with (simp only [hn])
  go_loop [0, 11] (fun x i => ∃ (k X : Nat), k ≤ zs.length ∧ i = .int .i64 k ∧ x = .int .u32 X ∧ X = fld (com s) (zs.take k)) (fun _ i => zs.length - (intOf i).toNat)
  case atStart => exact ⟨0, com s, by omega, rfl, rfl, rfl⟩
  case round =>
    obtain ⟨k, X, hk, rfl, rfl, hX⟩ := hrel
    have hXl : X < 4294967296 := by rw [hX]; exact fld_lt (HZ.out.take k) hc
    have HX := Lib.hid hX
    clear hX hn
    by_cases hlt : k < zs.length
    · obtain ⟨ad, rfl, _, hcell⟩ := hr.at_ (c8_get hlt)
      have hb := HZ.out zs[k] (List.getElem_mem hlt)
      have HK := Lib.hid (show fld (com s) (zs.take (k + 1)) = its 8 (X ^^^ (zs[k]).toNat) by rw [List.take_add_one, List.getElem?_eq_getElem hlt]; simp only [Option.toList]; rw [fld_snoc, ← HX.out])
      generalize zs[k] = d at *
      obtain ⟨b, rfl⟩ : ∃ b : Nat, d = b := ⟨d.toNat, by omega⟩
      have hx := u32_xor_nat X b hXl (by omega)
      have hY : X ^^^ b < 4294967296 := xlt hXl (by omega)
      go_wp2_with (simp only [hx])
      go_loop [0, 19] (fun x i => ∃ (j Y : Nat), j ≤ 8 ∧ i = .int .i64 j ∧ x = .int .u32 Y ∧ Y = its j (X ^^^ b)) (fun _ i => 8 - (intOf i).toNat)
      case atStart => exact ⟨0, _, by omega, rfl, rfl, rfl⟩
      case round =>
        obtain ⟨j, Y, hj, rfl, rfl, hY2⟩ := hrel
        have hYl : Y < 4294967296 := by rw [hY2]; exact its_lt _ hY
        have HY := Lib.hid hY2
        clear hY2 hx
        by_cases hj8 : j < 8
        · go_wp2_with fail
          refine (halved_any Y w hYl).mono ?_
          rintro e w1 ⟨rfl, rfl⟩
          go_wp2
          go_round
          case rel => exact ⟨j + 1, _, by omega, by go_num, rfl, by rw [its_next, ← HY.out]⟩
          case measure => simp [intOf]; omega
        · obtain rfl : j = 8 := by omega
          go_wp2
          go_round
          case rel => exact ⟨k + 1, _, by omega, by go_num, rfl, by rw [HK.out, HY.out]; rfl⟩
          case measure => simp [intOf]; omega
    · obtain rfl : k = zs.length := by omega
      have hn := not_key X hXl
      have hM : com X = mor s zs := by rw [HX.out, List.take_length]; rfl
      go_wp2_with (simp only [hn])
      go_ret
      exact ⟨rfl, rfl⟩

theorem sum_any (A : Option Addr) (zs : List Int) (c lim : Nat) (w : World) (hl : zs.length ≤ 9223372036854775807) (hz : Byt zs) (hr : Rds w lim A (c8 zs)) :
    Calls Try.prog 26 #[.slice A zs.length c] w fun e w' => e = .returned (.int .u32 (mor 0 zs)) ∧ w' = w := by
  go_enter Try.func26, Try.ntmps26
  go_wp2_with fail
  refine (more_any 0 A zs c lim w (by decide) hl hz hr).mono ?_
  rintro e w1 ⟨rfl, rfl⟩
  go_wp2
  go_ret
  exact ⟨rfl, rfl⟩

set_option maxHeartbeats 800000 in
theorem refMore_any (s : Nat) (A : Option Addr) (zs : List Int) (c lim : Nat) (w : World) (hs : s < 4294967296) (hl : zs.length ≤ 9223372036854775807) (hz : Byt zs) (hr : Rds w lim A (c8 zs)) :
    Calls Try.prog 32 #[.int .u32 s, .slice A zs.length c] w fun e w' => e = .returned (.int .u32 (mor s zs)) ∧ w' = w := by
  have HZ := Lib.hid hz
  have hsg : IntKind.u32.signed = false := rfl
  have hn := not_key s hs
  have hc := com_lt s
  clear hz
  go_enter Try.func32, Try.ntmps32
  go_wp2_with (simp only [hn])
  go_loop [5, 6] (fun x i => ∃ (k X : Nat), k ≤ zs.length ∧ i = .int .i64 k ∧ x = .int .u32 X ∧ X = fld (com s) (zs.take k)) (fun _ i => zs.length - (intOf i).toNat)
  case atStart => exact ⟨0, com s, by omega, rfl, rfl, rfl⟩
  case round =>
    obtain ⟨k, X, hk, rfl, rfl, hX⟩ := hrel
    have hXl : X < 4294967296 := by rw [hX]; exact fld_lt (HZ.out.take k) hc
    have HX := Lib.hid hX
    clear hX hn
    by_cases hlt : k < zs.length
    · obtain ⟨ad, rfl, _, hcell⟩ := hr.at_ (c8_get hlt)
      have hb := HZ.out zs[k] (List.getElem_mem hlt)
      have HK := Lib.hid (show fld (com s) (zs.take (k + 1)) = its 8 (X ^^^ (zs[k]).toNat) by rw [List.take_add_one, List.getElem?_eq_getElem hlt]; simp only [Option.toList]; rw [fld_snoc, ← HX.out])
      generalize zs[k] = d at *
      obtain ⟨b, rfl⟩ : ∃ b : Nat, d = b := ⟨d.toNat, by omega⟩
      have hx := u32_xor_nat X b hXl (by omega)
      have hY : X ^^^ b < 4294967296 := xlt hXl (by omega)
      go_wp2_with (simp only [hx])
      go_loop [5, 7] (fun x i => ∃ (j Y : Nat), j ≤ 8 ∧ i = .int .i64 j ∧ x = .int .u32 Y ∧ Y = its j (X ^^^ b)) (fun _ i => 8 - (intOf i).toNat)
      case atStart => exact ⟨0, _, by omega, rfl, rfl, rfl⟩
      case round =>
        obtain ⟨j, Y, hj, rfl, rfl, hY2⟩ := hrel
        have hYl : Y < 4294967296 := by rw [hY2]; exact its_lt _ hY
        have HY := Lib.hid hY2
        clear hY2 hx
        by_cases hj8 : j < 8
        · go_wp2_with fail
          refine (times_any Y w hYl).mono ?_
          rintro e w1 ⟨rfl, rfl⟩
          go_wp2
          go_round
          case rel => exact ⟨j + 1, _, by omega, by go_num, rfl, by rw [its_next, ← HY.out]⟩
          case measure => simp [intOf]; omega
        · obtain rfl : j = 8 := by omega
          go_wp2
          go_round
          case rel => exact ⟨k + 1, _, by omega, by go_num, rfl, by rw [HK.out, HY.out]; rfl⟩
          case measure => simp [intOf]; omega
    · obtain rfl : k = zs.length := by omega
      have hn := not_key X hXl
      have hM : com X = mor s zs := by rw [HX.out, List.take_length]; rfl
      go_wp2_with (simp only [hn])
      go_ret
      exact ⟨rfl, rfl⟩

theorem refSum_any (A : Option Addr) (zs : List Int) (c lim : Nat) (w : World) (hl : zs.length ≤ 9223372036854775807) (hz : Byt zs) (hr : Rds w lim A (c8 zs)) :
    Calls Try.prog 30 #[.slice A zs.length c] w fun e w' => e = .returned (.int .u32 (mor 0 zs)) ∧ w' = w := by
  go_enter Try.func30, Try.ntmps30
  go_wp2_with fail
  refine (refMore_any 0 A zs c lim w (by decide) hl hz hr).mono ?_
  rintro e w1 ⟨rfl, rfl⟩
  go_wp2
  go_ret
  exact ⟨rfl, rfl⟩

end Go.Proofs.Ytbmllljieoeihaa
