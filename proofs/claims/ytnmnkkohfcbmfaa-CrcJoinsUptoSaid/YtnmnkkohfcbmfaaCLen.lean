/- The walks over the library's Len64 and Len: a number has no digit at or above its length. -/
import Derived.Test.YtnmnkkohfcbmfaaBase
import Derived.Lib.Strings
import Derived.Lib.Slices
import Derived.Lib.Small
import Derived.Lib.Walk
import Derived.Lib.BitFns
namespace Go.Proofs.Ytnmnkkohfcbmfaa
open Go.RowKit
set_option linter.unusedVariables false

theorem tab_size : Lib.len8tab.size = 256 := by decide +kernel
theorem tab8 : ∀ n : Fin 256, (Lib.len8tab[n.val]'(by have := n.isLt; rw [tab_size]; exact this)).toNat = Lib.bitLen n.val := by decide +kernel
theorem tab8' (i : Nat) (h : i < Lib.len8tab.size) : (Lib.len8tab[i]'h).toNat = Lib.bitLen i := tab8 ⟨i, by rw [tab_size] at h; exact h⟩
theorem leaf56 (x q : Int) (h : x ≤ 18446744073709551615) (hx : 72057594037927936 ≤ x) (h8 : x / 72057594037927936 ≤ 255) (hq : q = x / 72057594037927936) {h' : q.toNat < Lib.len8tab.size} :
    wrap64 (56 + wrap64 ((Lib.len8tab[q.toNat]'h').toNat : Int)) = (Lib.bitLen x.toNat : Int) := by
  rw [tab8' q.toNat h', show q.toNat = x.toNat / 72057594037927936 by omega]
  have := Lib.bitLen_shift56 x.toNat (by omega) (by omega)
  have := Lib.bitLen_le8 ⟨x.toNat / 72057594037927936, by omega⟩
  simp only at this
  unfold wrap64
  omega
theorem leaf48 (x q : Int) (h : x ≤ 18446744073709551615) (hx : 281474976710656 ≤ x) (h8 : x / 281474976710656 ≤ 255) (hq : q = x / 281474976710656) {h' : q.toNat < Lib.len8tab.size} :
    wrap64 (48 + wrap64 ((Lib.len8tab[q.toNat]'h').toNat : Int)) = (Lib.bitLen x.toNat : Int) := by
  rw [tab8' q.toNat h', show q.toNat = x.toNat / 281474976710656 by omega]
  have := Lib.bitLen_shift48 x.toNat (by omega) (by omega)
  have := Lib.bitLen_le8 ⟨x.toNat / 281474976710656, by omega⟩
  simp only at this
  unfold wrap64
  omega
theorem leaf40 (x q : Int) (h : x ≤ 18446744073709551615) (hx : 1099511627776 ≤ x) (h8 : x / 1099511627776 ≤ 255) (hq : q = x / 1099511627776) {h' : q.toNat < Lib.len8tab.size} :
    wrap64 (40 + wrap64 ((Lib.len8tab[q.toNat]'h').toNat : Int)) = (Lib.bitLen x.toNat : Int) := by
  rw [tab8' q.toNat h', show q.toNat = x.toNat / 1099511627776 by omega]
  have := Lib.bitLen_shift40 x.toNat (by omega) (by omega)
  have := Lib.bitLen_le8 ⟨x.toNat / 1099511627776, by omega⟩
  simp only at this
  unfold wrap64
  omega
theorem leaf32 (x q : Int) (h : x ≤ 18446744073709551615) (hx : 4294967296 ≤ x) (h8 : x / 4294967296 ≤ 255) (hq : q = x / 4294967296) {h' : q.toNat < Lib.len8tab.size} :
    wrap64 (32 + wrap64 ((Lib.len8tab[q.toNat]'h').toNat : Int)) = (Lib.bitLen x.toNat : Int) := by
  rw [tab8' q.toNat h', show q.toNat = x.toNat / 4294967296 by omega]
  have := Lib.bitLen_shift32 x.toNat (by omega) (by omega)
  have := Lib.bitLen_le8 ⟨x.toNat / 4294967296, by omega⟩
  simp only at this
  unfold wrap64
  omega
theorem leaf24 (x q : Int) (h : x ≤ 18446744073709551615) (hx : 16777216 ≤ x) (h8 : x / 16777216 ≤ 255) (hq : q = x / 16777216) {h' : q.toNat < Lib.len8tab.size} :
    wrap64 (24 + wrap64 ((Lib.len8tab[q.toNat]'h').toNat : Int)) = (Lib.bitLen x.toNat : Int) := by
  rw [tab8' q.toNat h', show q.toNat = x.toNat / 16777216 by omega]
  have := Lib.bitLen_shift24 x.toNat (by omega) (by omega)
  have := Lib.bitLen_le8 ⟨x.toNat / 16777216, by omega⟩
  simp only at this
  unfold wrap64
  omega
theorem leaf16 (x q : Int) (h : x ≤ 18446744073709551615) (hx : 65536 ≤ x) (h8 : x / 65536 ≤ 255) (hq : q = x / 65536) {h' : q.toNat < Lib.len8tab.size} :
    wrap64 (16 + wrap64 ((Lib.len8tab[q.toNat]'h').toNat : Int)) = (Lib.bitLen x.toNat : Int) := by
  rw [tab8' q.toNat h', show q.toNat = x.toNat / 65536 by omega]
  have := Lib.bitLen_shift16 x.toNat (by omega) (by omega)
  have := Lib.bitLen_le8 ⟨x.toNat / 65536, by omega⟩
  simp only at this
  unfold wrap64
  omega
theorem leaf8 (x q : Int) (h : x ≤ 18446744073709551615) (hx : 256 ≤ x) (h8 : x / 256 ≤ 255) (hq : q = x / 256) {h' : q.toNat < Lib.len8tab.size} :
    wrap64 (8 + wrap64 ((Lib.len8tab[q.toNat]'h').toNat : Int)) = (Lib.bitLen x.toNat : Int) := by
  rw [tab8' q.toNat h', show q.toNat = x.toNat / 256 by omega]
  have := Lib.bitLen_shift8 x.toNat (by omega) (by omega)
  have := Lib.bitLen_le8 ⟨x.toNat / 256, by omega⟩
  simp only at this
  unfold wrap64
  omega
theorem leaf0 (x q : Int) (h : 0 ≤ x) (h8 : x ≤ 255) (hq : q = x) {h' : q.toNat < Lib.len8tab.size} :
    wrap64 (wrap64 ((Lib.len8tab[q.toNat]'h').toNat : Int)) = (Lib.bitLen x.toNat : Int) := by
  rw [tab8' q.toNat h', hq]
  have := Lib.bitLen_le8 ⟨x.toNat, by omega⟩
  simp only at this
  unfold wrap64
  omega

set_option maxHeartbeats 4000000 in
set_option maxRecDepth 100000 in
theorem len64_any (x : Int) (w : World) (h0 : 0 ≤ x) (h1 : x ≤ 18446744073709551615) :
    Calls Try.prog 32 #[.int .u64 x] w fun e w' => e = .returned (.int .i64 (Lib.bitLen x.toNat)) ∧ w' = w := by
  have hts : (Lib.len8tab.size : Int) = 256 := by rw [tab_size]; rfl
  have HT := Lib.hid hts
  clear hts
  go_enter Try.func32, Try.ntmps32
  go_wp2
  all_goals have hts := HT.out
  all_goals first
    | (exfalso; omega)
    | (go_ret; exact ⟨congrArg Ending.returned (congrArg (Value.int IntKind.i64) (leaf56 x (x / 4294967296 / 65536 / 256) (by omega) (by omega) (by omega) (by omega))), rfl⟩)
    | (go_ret; exact ⟨congrArg Ending.returned (congrArg (Value.int IntKind.i64) (leaf48 x (x / 4294967296 / 65536) (by omega) (by omega) (by omega) (by omega))), rfl⟩)
    | (go_ret; exact ⟨congrArg Ending.returned (congrArg (Value.int IntKind.i64) (leaf40 x (x / 4294967296 / 256) (by omega) (by omega) (by omega) (by omega))), rfl⟩)
    | (go_ret; exact ⟨congrArg Ending.returned (congrArg (Value.int IntKind.i64) (leaf32 x (x / 4294967296) (by omega) (by omega) (by omega) (by omega))), rfl⟩)
    | (go_ret; exact ⟨congrArg Ending.returned (congrArg (Value.int IntKind.i64) (leaf24 x (x / 65536 / 256) (by omega) (by omega) (by omega) (by omega))), rfl⟩)
    | (go_ret; exact ⟨congrArg Ending.returned (congrArg (Value.int IntKind.i64) (leaf16 x (x / 65536) (by omega) (by omega) (by omega) (by omega))), rfl⟩)
    | (go_ret; exact ⟨congrArg Ending.returned (congrArg (Value.int IntKind.i64) (leaf8 x (x / 256) (by omega) (by omega) (by omega) (by omega))), rfl⟩)
    | (go_ret; exact ⟨congrArg Ending.returned (congrArg (Value.int IntKind.i64) (leaf0 x (x) (by omega) (by omega) (by omega) )), rfl⟩)

theorem lt_bitLen : ∀ (f x : Nat), x < 2 ^ f → x < 2 ^ Lib.bitLenAux f x
  | 0, x, h => by simpa [Lib.bitLenAux] using h
  | f + 1, x, h => by
    unfold Lib.bitLenAux
    split
    · omega
    · have := lt_bitLen f (x / 2) (by rw [Nat.pow_succ] at h; omega)
      rw [Nat.add_comm, Nat.pow_succ]
      omega

theorem len_any (n : Nat) (w : World) (h : n ≤ 9223372036854775807) :
    Calls Try.prog 28 #[.int .u64 n] w fun e w' => (∃ c : Nat, e = .returned (.int .i64 c) ∧ c ≤ 63 ∧ n < 2 ^ c) ∧ w' = w := by
  have h1 := Lib.bitLen_le n 63 (by decide) (by omega)
  have h2 := lt_bitLen 64 n (by omega)
  go_enter Try.func28, Try.ntmps28
  go_wp2_with fail
  refine (len64_any n w (by omega) (by omega)).mono ?_
  rintro e w1 ⟨rfl, rfl⟩
  go_wp2
  go_ret
  exact ⟨⟨Lib.bitLen n, rfl, h1, h2⟩, rfl⟩

end Go.Proofs.Ytnmnkkohfcbmfaa
