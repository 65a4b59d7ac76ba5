/- The walks over the document's answer to the calls that put something down. -/
import Derived.Test.YtihndehmagfidaaApp
namespace Go.Proofs.Ytihndehmagfidaa
open Go.RowKit Go.Lib
set_option linter.unusedVariables false

set_option maxHeartbeats 800000 in
theorem refUint_put (A : Option Addr) (zs : List Int) (c : Nat) (x : Int) (w : World) (h0 : 0 ≤ x) (h1 : x ≤ 18446744073709551615) (hl : zs.length ≤ 140737488351232) (hc : zs.length ≤ c) (hA : A = none → zs.length = 0 ∧ c = 0)
    (hr : Rds w w.heap.size A (c8 zs)) :
    Calls Try.prog 22 #[.slice A zs.length c, .int .u64 x] w fun e w' =>
      ∃ v, e = .returned v ∧ w'.ownsRow w.heap.size 5 1 v (zs ++ enc x).length (c8 (zs ++ enc x)) ∧ Below w.heap.size w w' := by
  obtain ⟨i0, hi, hz0, hz1, hz2⟩ := info_parts info8
  have HA := Lib.hid hA
  have hown1 := World.ownsRow_made (base := w.heap.size) (e := 5) (size := 1) w #[] 0 (Nat.le_refl _) (by unfold maxLen; omega) rfl
  have hr1 := hr.alloc (Nat.le_refl _) (.cells #[] 5)
  clear hA
  go_enter Try.func22, Try.ntmps22
  go_wp2_with (at_builtin; go_loud (refine app_many (w.alloc (.cells #[] 5)) rfl (.tmp 6) (.tmp 7) 23 rfl w.heap.size 5 i0 (.int .u8 0) 1 Try.underlying23 hi hz0 hz1 hz2 rfl _ 0 [] rfl hown1 A zs.length c w.heap.size (c8 zs) rfl (c8_length zs).symm hr1 (fun h => (HA.out h).2) (c8_one zs) (by unfold maxLen; omega) (by omega) (by simp) ?_))
  intro v2 w2 hown2 hb2
  have hb3 : Below w.heap.size w w2 := ((Below.refl w.heap.size w).alloc (Nat.le_refl _) (.cells #[] 5)).trans hb2
  clear hown1 hr1 hb2
  go_wp2_with fail
  go_loopw [5, 1] (fun v x' wr => ∃ (y : Int) (ds : List Int), x' = .int .u64 y ∧ 0 ≤ y ∧ y ≤ 18446744073709551615 ∧ ds ++ enc y = enc x ∧ wr.ownsRow w.heap.size 5 1 v (zs.length + ds.length) (c8 zs ++ c8 ds) ∧ Below w.heap.size w wr) (fun _ x' _ => (intOf x').toNat)
  case atStart => exact ⟨x, [], rfl, h0, h1, rfl, by simpa [c8] using hown2, hb3⟩
  case round =>
    obtain ⟨y, ds, rfl, hy0, hy1, hd, hown, hbel⟩ := hrel
    have hl1 := enc_pos y
    have hl2 : ds.length + (enc y).length ≤ 10 := by rw [← List.length_append, hd]; exact enc_length x
    have Hd := Lib.hid hd
    clear hd
    by_cases hlt : 128 ≤ y
    · go_wp2_with (at_builtin; go_loud (refine app_one wr rfl (.tmp 11) (.tmp 16) 23 rfl w.heap.size 5 i0 _ 1 Try.underlying23 hi hz0 hz1 hz2 rfl u5 _ _ rfl hown (.int .u8 (y % 128 + 128)) rfl rfl (by unfold maxLen; omega) (by omega) hbel.size ?_); intro v1 w1 hown1 hb1)
      go_roundw
      case rel =>
        refine ⟨y / 128, ds ++ [y % 128 + 128], rfl, by omega, by omega, ?_, ?_, hbel.trans hb1⟩
        · rw [← Hd.out, enc_step hlt hy1]; simp
        · rw [List.length_append, c8_append, ← List.append_assoc, ← Nat.add_assoc]
          exact hown1
      case measure => simp [intOf]; omega
    · go_wp2_with (at_builtin; go_loud (refine app_one wr rfl (.tmp 20) (.tmp 23) 23 rfl w.heap.size 5 i0 _ 1 Try.underlying23 hi hz0 hz1 hz2 rfl u5 _ _ rfl hown (.int .u8 y) rfl rfl (by unfold maxLen; omega) (by omega) hbel.size ?_); intro v1 w1 hown1 hb1)
      go_ret
      refine ⟨v1, rfl, ?_, hbel.trans hb1⟩
      have he : enc x = ds ++ [y] := by rw [← Hd.out, enc_small (by omega)]
      simpa [he, c8, Nat.add_assoc, List.append_assoc] using hown1

set_option maxHeartbeats 400000 in
theorem refInt_put (A : Option Addr) (zs : List Int) (c : Nat) (x : Int) (w : World) (hx : -9223372036854775808 ≤ x ∧ x ≤ 9223372036854775807) (hl : zs.length ≤ 140737488351232) (hc : zs.length ≤ c) (hA : A = none → zs.length = 0 ∧ c = 0)
    (hr : Rds w w.heap.size A (c8 zs)) :
    Calls Try.prog 23 #[.slice A zs.length c, .int .i64 x] w fun e w' =>
      ∃ v, e = .returned v ∧ w'.ownsRow w.heap.size 5 1 v (zs ++ enc (zag x)).length (c8 (zs ++ enc (zag x))) ∧ Below w.heap.size w w' := by
  have HA := Lib.hid hA
  clear hA
  by_cases h0 : 0 ≤ x
  · have hz : zag x = x * 2 := by unfold zag; rw [if_pos h0]; omega
    rw [hz]
    clear hz
    go_enter Try.func23, Try.ntmps23
    go_wp2_with fail
    refine (refUint_put A zs c (x * 2) w (by omega) (by omega) hl hc HA.out hr).mono ?_
    rintro e w1 ⟨v, rfl, hown, hb⟩
    go_wp2
    go_ret
    exact ⟨v, rfl, hown, hb⟩
  · have hz : zag x = -(x + 1) * 2 + 1 := by unfold zag; rw [if_neg h0]; omega
    rw [hz]
    clear hz
    go_enter Try.func23, Try.ntmps23
    go_wp2_with fail
    refine (refUint_put A zs c (-(x + 1) * 2 + 1) w (by omega) (by omega) hl hc HA.out hr).mono ?_
    rintro e w1 ⟨v, rfl, hown, hb⟩
    go_wp2
    go_ret
    exact ⟨v, rfl, hown, hb⟩

theorem refText_long (A : Option Addr) (n c : Nat) (s : ByteArray) (w : World) (hs : 65536 < s.size) (hs1 : s.size ≤ 9223372036854775807) :
    Calls Try.prog 26 #[.slice A n c, .string s] w fun e w' => e = .returned (.tuple #[.slice none 0 0, .int .i64 3]) ∧ w' = w := by
  go_enter Try.func26, Try.ntmps26
  go_wp2
  go_ret2
  exact ⟨rfl, rfl⟩

set_option maxRecDepth 100000 in
set_option maxHeartbeats 400000 in
theorem refText_put (A : Option Addr) (zs : List Int) (c : Nat) (s : ByteArray) (w : World) (hs : s.size ≤ 65536) (hl : zs.length ≤ 140737488351232) (hc : zs.length ≤ c) (hA : A = none → zs.length = 0 ∧ c = 0)
    (hr : Rds w w.heap.size A (c8 zs)) :
    Calls Try.prog 26 #[.slice A zs.length c, .string s] w fun e w' =>
      ∃ v, e = .returned (.tuple #[v, .int .i64 0]) ∧ w'.ownsRow w.heap.size 5 1 v (zs ++ (enc s.size ++ nums s)).length (c8 (zs ++ (enc s.size ++ nums s))) ∧ Below w.heap.size w w' := by
  obtain ⟨i0, hi, hz0, hz1, hz2⟩ := info_parts info8
  have HA := Lib.hid hA
  have hle := enc_length (s.size : Int)
  clear hA
  go_enter Try.func26, Try.ntmps26
  go_wp2_with fail
  refine (refUint_put A zs c s.size w (by omega) (by omega) hl hc HA.out hr).mono ?_
  rintro e w2 ⟨v, rfl, hown2, hb2⟩
  go_wp2_with (at_builtin; go_loud (refine app_text w2 rfl (.tmp 13) (.tmp 14) 23 9 rfl w.heap.size 5 i0 Try.underlying23 hi hz0 hz1 hz2 Try.underlying9 v _ _ rfl hown2 s rfl (by rw [List.length_append]; omega) (by omega) hb2.size ?_); intro v3 w3 hown3 hb3)
  go_ret2
  refine ⟨v3, rfl, ?_, hb2.trans hb3⟩
  rw [strCells_c8, ← c8_append, List.append_assoc] at hown3
  rw [← List.append_assoc, List.length_append, nums_length]
  rw [← List.append_assoc] at hown3
  exact hown3

set_option maxHeartbeats 400000 in
theorem refBool_put (A : Option Addr) (zs : List Int) (c : Nat) (b : Bool) (w : World) (hl : zs.length ≤ 140737488351232) (hc : zs.length ≤ c) (hA : A = none → zs.length = 0 ∧ c = 0)
    (hr : Rds w w.heap.size A (c8 zs)) :
    Calls Try.prog 25 #[.slice A zs.length c, .bool b] w fun e w' =>
      ∃ v, e = .returned v ∧ w'.ownsRow w.heap.size 5 1 v (zs ++ [bit b]).length (c8 (zs ++ [bit b])) ∧ Below w.heap.size w w' := by
  obtain ⟨i0, hi, hz0, hz1, hz2⟩ := info_parts info8
  have HA := Lib.hid hA
  have hown1 := World.ownsRow_made (base := w.heap.size) (e := 5) (size := 1) w #[] 0 (Nat.le_refl _) (by unfold maxLen; omega) rfl
  have hr1 := hr.alloc (Nat.le_refl _) (.cells #[] 5)
  clear hA
  cases b
  · go_enter Try.func25, Try.ntmps25
    go_wp2_with (at_builtin; go_loud (refine app_many (w.alloc (.cells #[] 5)) rfl (.tmp 11) (.tmp 12) 23 rfl w.heap.size 5 i0 (.int .u8 0) 1 Try.underlying23 hi hz0 hz1 hz2 rfl _ 0 [] rfl hown1 A zs.length c w.heap.size (c8 zs) rfl (c8_length zs).symm hr1 (fun h => (HA.out h).2) (c8_one zs) (by unfold maxLen; omega) (by omega) (by simp) ?_))
    intro v2 w2 hown2 hb2
    have hb3 : Below w.heap.size w w2 := ((Below.refl w.heap.size w).alloc (Nat.le_refl _) (.cells #[] 5)).trans hb2
    clear hown1 hr1 hb2
    go_wp2_with (at_builtin; go_loud (refine app_one w2 rfl (.tmp 13) (.tmp 14) 23 rfl w.heap.size 5 i0 _ 1 Try.underlying23 hi hz0 hz1 hz2 rfl v2 _ _ rfl hown2 (.int .u8 0) rfl rfl (by unfold maxLen; omega) (by omega) hb3.size ?_); intro v1 w1 hown3 hb4)
    go_ret
    exact ⟨v1, rfl, by simpa [c8, bit] using hown3, hb3.trans hb4⟩
  · go_enter Try.func25, Try.ntmps25
    go_wp2_with (at_builtin; go_loud (refine app_many (w.alloc (.cells #[] 5)) rfl (.tmp 6) (.tmp 7) 23 rfl w.heap.size 5 i0 (.int .u8 0) 1 Try.underlying23 hi hz0 hz1 hz2 rfl _ 0 [] rfl hown1 A zs.length c w.heap.size (c8 zs) rfl (c8_length zs).symm hr1 (fun h => (HA.out h).2) (c8_one zs) (by unfold maxLen; omega) (by omega) (by simp) ?_))
    intro v2 w2 hown2 hb2
    have hb3 : Below w.heap.size w w2 := ((Below.refl w.heap.size w).alloc (Nat.le_refl _) (.cells #[] 5)).trans hb2
    clear hown1 hr1 hb2
    go_wp2_with (at_builtin; go_loud (refine app_one w2 rfl (.tmp 8) (.tmp 9) 23 rfl w.heap.size 5 i0 _ 1 Try.underlying23 hi hz0 hz1 hz2 rfl v2 _ _ rfl hown2 (.int .u8 1) rfl rfl (by unfold maxLen; omega) (by omega) hb3.size ?_); intro v1 w1 hown3 hb4)
    go_ret
    exact ⟨v1, rfl, by simpa [c8, bit] using hown3, hb3.trans hb4⟩
end Go.Proofs.Ytihndehmagfidaa
