/- The walks over the calls that put down numbers, truths and texts, of the program and of the document's answer. -/
import Derived.Test.YtihndehmagfidaaRead
import Derived.Test.YtihndehmagfidaaBig
namespace Go.Proofs.Ytihndehmagfidaa
open Go.RowKit Go.Lib
set_option linter.unusedVariables false

set_option maxHeartbeats 400000 in
theorem appInt_any (A : Option Addr) (zs : List Int) (c : Nat) (x : Int) (w : World) (hx : -9223372036854775808 ≤ x ∧ x ≤ 9223372036854775807) (hl : zs.length ≤ 140737488351232) (hc : zs.length ≤ c) (hA : A = none → zs.length = 0 ∧ c = 0)
    (hr : Rds w w.heap.size A (c8 zs)) :
    Calls Try.prog 11 #[.slice A zs.length c, .int .i64 x] w fun e w' =>
      ∃ v, e = .returned v ∧ w'.ownsRow w.heap.size 5 1 v (zs ++ enc (zag x)).length (c8 (zs ++ enc (zag x))) ∧ Below w.heap.size w w' := by
  go_enter Try.func11, Try.ntmps11
  go_wp2_with fail
  rw [zag_of hx]
  have hz := zag_range hx
  refine (appUint_any A zs c (zag x) w hz.1 hz.2 hl hc hA hr).mono ?_
  rintro e w1 ⟨v, rfl, hown, hb⟩
  go_wp2
  go_ret
  exact ⟨v, rfl, hown, hb⟩

/-- a truth's byte -/
def bit (b : Bool) : Int := if b then 1 else 0

set_option maxHeartbeats 400000 in
theorem appBool_any (A : Option Addr) (zs : List Int) (c : Nat) (b : Bool) (w : World) (hl : zs.length ≤ 140737488351232) (hc : zs.length ≤ c) (hA : A = none → zs.length = 0 ∧ c = 0)
    (hr : Rds w w.heap.size A (c8 zs)) :
    Calls Try.prog 24 #[.slice A zs.length c, .bool b] w fun e w' =>
      ∃ v, e = .returned v ∧ w'.ownsRow w.heap.size 5 1 v (zs ++ [bit b]).length (c8 (zs ++ [bit b])) ∧ Below w.heap.size w w' := by
  obtain ⟨i0, hi, hz0, hz1, hz2⟩ := info_parts info8
  have HA := Lib.hid hA
  cases b
  · go_enter Try.func24, Try.ntmps24
    go_wp2_with fail
    refine (copied_any A zs c 1 w (by omega) (by omega) (by omega) hc HA.out hr).mono ?_
    rintro e w1 ⟨g, cap, rfl, hown, hb⟩
    go_wp2_with (at_builtin; go_loud (refine app_one w1 rfl (.tmp 12) (.tmp 13) 23 rfl w.heap.size 5 i0 _ 1 Try.underlying23 hi hz0 hz1 hz2 rfl (.slice (some ⟨g, 0, none⟩) zs.length cap) _ _ rfl hown (.int .u8 0) rfl rfl (by unfold maxLen; omega) (by omega) hb.size ?_); intro v2 w2 hown2 hb2)
    go_ret
    exact ⟨v2, rfl, by simpa [c8, bit] using hown2, hb.trans hb2⟩
  · go_enter Try.func24, Try.ntmps24
    go_wp2_with fail
    refine (copied_any A zs c 1 w (by omega) (by omega) (by omega) hc HA.out hr).mono ?_
    rintro e w1 ⟨g, cap, rfl, hown, hb⟩
    go_wp2_with (at_builtin; go_loud (refine app_one w1 rfl (.tmp 9) (.tmp 10) 23 rfl w.heap.size 5 i0 _ 1 Try.underlying23 hi hz0 hz1 hz2 rfl (.slice (some ⟨g, 0, none⟩) zs.length cap) _ _ rfl hown (.int .u8 1) rfl rfl (by unfold maxLen; omega) (by omega) hb.size ?_); intro v2 w2 hown2 hb2)
    go_ret
    exact ⟨v2, rfl, by simpa [c8, bit] using hown2, hb.trans hb2⟩

theorem appText_long (A : Option Addr) (n c : Nat) (s : ByteArray) (w : World) (hs : 65536 < s.size) (hs1 : s.size ≤ 9223372036854775807) :
    Calls Try.prog 14 #[.slice A n c, .string s] w fun e w' => e = .returned (.tuple #[.slice none 0 0, .int .i64 3]) ∧ w' = w := by
  go_enter Try.func14, Try.ntmps14
  go_wp2
  go_ret2
  exact ⟨rfl, rfl⟩

set_option maxRecDepth 100000 in
set_option maxHeartbeats 400000 in
theorem appText_any (A : Option Addr) (zs : List Int) (c : Nat) (s : ByteArray) (w : World) (hs : s.size ≤ 65536) (hl : zs.length ≤ 140737488351232) (hc : zs.length ≤ c) (hA : A = none → zs.length = 0 ∧ c = 0)
    (hr : Rds w w.heap.size A (c8 zs)) :
    Calls Try.prog 14 #[.slice A zs.length c, .string s] w fun e w' =>
      ∃ v, e = .returned (.tuple #[v, .int .i64 0]) ∧ w'.ownsRow w.heap.size 5 1 v (zs ++ (enc s.size ++ nums s)).length (c8 (zs ++ (enc s.size ++ nums s))) ∧ Below w.heap.size w w' := by
  obtain ⟨i0, hi, hz0, hz1, hz2⟩ := info_parts info8
  have HA := Lib.hid hA
  have hle := enc_length (s.size : Int)
  go_enter Try.func14, Try.ntmps14
  go_wp2_with fail
  refine (copied_any A zs c (10 + s.size) w (by omega) (by omega) (by omega) hc HA.out hr).mono ?_
  rintro e w1 ⟨g, cap, rfl, hown, hb⟩
  go_wp2_with fail
  refine (put_any w.heap.size s.size _ zs.length (c8 zs) w1 (by omega) (by omega) hb.size hown (by omega)).mono ?_
  rintro e w2 ⟨v, rfl, hown2, hb2⟩
  have hbs := Nat.le_trans hb.size hb2.size
  go_wp2_with (at_builtin; go_loud (refine app_text w2 rfl (.tmp 19) (.tmp 20) 23 9 rfl w.heap.size 5 i0 Try.underlying23 hi hz0 hz1 hz2 Try.underlying9 v _ _ rfl hown2 s rfl (by omega) (by omega) hbs ?_); intro v3 w3 hown3 hb3)
  go_ret2
  refine ⟨v3, rfl, ?_, (hb.trans hb2).trans hb3⟩
  rw [strCells_c8] at hown3
  rw [List.length_append, List.length_append, nums_length, c8_append, c8_append, ← Nat.add_assoc, ← List.append_assoc]
  exact hown3
end Go.Proofs.Ytihndehmagfidaa
