/- The walks over wire.ReadUint and the kit's SameBytes. -/
import Derived.Test.YtihndehmagfidaaPut
import Derived.BigQuiet
import Derived.Deep.QuietTactic
namespace Go.Proofs.Ytihndehmagfidaa
open Go.RowKit
set_option linter.unusedVariables false

theorem mask7 {d : Int} (h0 : 0 ≤ d) (h1 : d ≤ 255) : bits .and .u8 d 127 = d % 128 := bits_mask .u8 8 (by decide) wraps_u8 7 (by decide) d h0 (by omega)


set_option maxHeartbeats 800000 in
theorem readUint_any (A : Option Addr) (zs : List Int) (c lim : Nat) (w : World) (hl : zs.length ≤ 140737488486400) (hz : Byt zs) (hr : Rds w lim A (c8 zs)) :
    Calls Try.prog 13 #[.slice A zs.length c] w fun e w' =>
      e = .returned (.tuple #[.int .u64 (dec 0 0 zs).1, .int .i64 (dec 0 0 zs).2.1, .int .i64 (dec 0 0 zs).2.2]) ∧ w' = w := by
  rw [← decR_dec zs 0 0 (by omega) (by omega) (by decide) hz]
  go_enter Try.func13, Try.ntmps13
  go_wp2
  go_loop [2, 9] (fun x i => ∃ (k : Nat) (X : Int), k ≤ zs.length ∧ k ≤ 9 ∧ i = .int .i64 k ∧ x = .int .u64 X ∧ decR 0 0 zs = decR X k (zs.drop k)) (fun _ i => zs.length - (intOf i).toNat)
  case atStart => exact ⟨0, 0, by omega, by omega, rfl, rfl, rfl⟩
  case round =>
    obtain ⟨k, X, hk, hk9, rfl, rfl, hd⟩ := hrel
    have HD := Lib.hid hd
    clear hd
    by_cases hlt : k < zs.length
    · obtain ⟨ad, rfl, _, hcell⟩ := hr.at_ (c8_get hlt)
      have hb := hz zs[k] (List.getElem_mem hlt)
      have hmask := mask7 hb.1 hb.2
      have HS : Hid (decR X k (zs.drop k) = decR X k (zs[k] :: zs.drop (k + 1))) := by rw [List.drop_eq_getElem_cons hlt]; rfl
      generalize hzk : zs[k] = d at *
      have HZ := Lib.hid hzk
      clear hzk
      go_wp2
      · have h9 : (k : Int) = 9 := by assumption
        have hd1 : (d != 1) = true := by assumption
        have hk9' : k = 9 := by omega
        have hv : decR 0 0 zs = (0, 0, 5) := by rw [HD.out, HS.out]; simp only [decR]; rw [if_pos ⟨hk9', by simpa using hd1⟩]
        go_ret3
        exact ⟨by rw [hv]; rfl, rfl⟩
      · have hd1 : (d != 1) = false := by assumption
        have h128 : 128 ≤ d := by assumption
        have : d = 1 := by simpa using hd1
        omega
      · have hd1 : (d != 1) = false := by assumption
        have h0 : d = 0 := by assumption
        have : d = 1 := by simpa using hd1
        omega
      · have h9 : (k : Int) = 9 := by assumption
        have hd1 : (d != 1) = false := by assumption
        have h1 : d = 1 := by simpa using hd1
        obtain rfl : k = 9 := by omega
        have hv : decR 0 0 zs = (bits .or .u64 X (IntKind.u64.wrap (d % 128 * 9223372036854775808)), 10, 0) := by
          rw [HD.out, HS.out]; simp only [decR]; rw [if_neg (by omega), if_neg (by omega), if_neg (by omega)]; rfl
        go_ret3
        exact ⟨by rw [hv]; rfl, rfl⟩
      · have h9 : ¬ (k : Int) = 9 := by assumption
        have h128 : 128 ≤ d := by assumption
        have hk9' : ¬ (k = 9 ∧ d ≠ 1) := by omega
        go_round
        case rel => exact ⟨k + 1, _, by omega, by omega, by go_num, rfl, by rw [HD.out, HS.out]; simp only [decR]; rw [if_neg hk9', if_pos h128]⟩
        case measure => simp [intOf]; omega
      · have h9 : ¬ (k : Int) = 9 := by assumption
        have h0 : d = 0 := by assumption
        have hk0 : 0 < k := by assumption
        have hv : decR 0 0 zs = (0, 0, 5) := by
          rw [HD.out, HS.out]; simp only [decR]; rw [if_neg (by omega), if_neg (by omega), if_pos ⟨h0, hk0⟩]
        go_ret3
        exact ⟨by rw [hv]; rfl, rfl⟩
      · have h9 : ¬ (k : Int) = 9 := by assumption
        have h0 : d = 0 := by assumption
        have hk0 : ¬ 0 < k := by assumption
        have hv : decR 0 0 zs = (bits .or .u64 X (IntKind.u64.wrap 0), (k : Int) + 1, 0) := by
          rw [HD.out, HS.out]; simp only [decR]; rw [if_neg (by omega), if_neg (by omega), if_neg (by omega), show d % 128 * 2 ^ (7 * k) = 0 by rw [h0]; simp]
        go_ret3
        exact ⟨by rw [hv]; rfl, rfl⟩
      · have h9 : ¬ (k : Int) = 9 := by assumption
        have h0 : ¬ d = 0 := by assumption
        have h128 : d < 128 := by assumption
        have hv : decR 0 0 zs = (bits .or .u64 X (IntKind.u64.wrap (d % 128 * 2 ^ (7 * k))), (k : Int) + 1, 0) := by
          rw [HD.out, HS.out]; simp only [decR]; rw [if_neg (by omega), if_neg (by omega), if_neg (by omega)]
        go_ret3
        exact ⟨by rw [hv]; rfl, rfl⟩
    · have hv : decR 0 0 zs = (0, 0, 4) := by rw [HD.out, List.drop_eq_nil_of_le (by omega)]; rfl
      have HV := Lib.hid hv
      clear hv
      go_wp2
      go_ret3
      exact ⟨by rw [HV.out]; rfl, rfl⟩

/-- two lists of bytes, told apart -/
def same8 (a b : List Int) : Bool := decide (a = b)

set_option maxHeartbeats 800000 in
theorem sameBytes_any (A A' : Option Addr) (xs ys : List Int) (c c' lim : Nat) (w : World) (hl : xs.length ≤ 9223372036854775807) (hl' : ys.length ≤ 9223372036854775807) (hr : Rds w lim A (c8 xs)) (hr' : Rds w lim A' (c8 ys)) :
    Calls Try.prog 16 #[.slice A xs.length c, .slice A' ys.length c'] w fun e w' => e = .returned (.bool (same8 xs ys)) ∧ ∃ n, w' = w.drewN n := by
  by_cases hlen : xs.length = ys.length
  · have hlb : ((xs.length : Int) != (ys.length : Int)) = false := by simp [hlen]
    have HL := Lib.hid hlen
    clear hlen
    go_enter Try.func16, Try.ntmps16
    go_wp2
    go_loopw [5] (fun i wr => ∃ k : Nat, k ≤ xs.length ∧ i = .int .i64 k ∧ (∀ j, j < k → xs[j]? = ys[j]?) ∧ ∃ n, wr = w.drewN n) (fun i _ => xs.length - (intOf i).toNat)
    case atStart => exact ⟨0, Nat.zero_le _, rfl, fun j hj => absurd hj (by omega), 0, rfl⟩
    case round =>
      obtain ⟨k, hk, rfl, hsame, n, rfl⟩ := hrel
      have HS := Lib.hid hsame
      clear hsame
      by_cases hlt : k < xs.length
      · have hlt' : k < ys.length := by have := HL.out; omega
        obtain ⟨ad, rfl, _, hcell⟩ := hr.at_ (c8_get hlt)
        obtain ⟨ad', rfl, _, hcell'⟩ := hr'.at_ (c8_get hlt')
        generalize hx : xs[k] = x at *
        generalize hy : ys[k] = y at *
        have HX := Lib.hid hx
        have HY := Lib.hid hy
        clear hx hy
        go_wp2
        go_quiet (fail)
        go_wp2
        · have hne : (x != y) = true := by assumption
          have hf : same8 xs ys = false := by
            refine decide_eq_false fun e => ?_
            have h1 : xs[k]? = ys[k]? := by rw [e]
            rw [List.getElem?_eq_getElem hlt, List.getElem?_eq_getElem hlt', HX.out, HY.out] at h1
            simp at hne
            exact hne (Option.some.inj h1)
          go_ret
          exact ⟨by rw [hf]; rfl, _, World.drewN_drewN ..⟩
        · have heq : (x != y) = false := by assumption
          go_roundw
          case rel =>
            refine ⟨k + 1, by omega, by go_num, fun j hj => ?_, _, rfl⟩
            rcases Nat.lt_or_ge j k with h | h
            · exact HS.out j h
            · obtain rfl : j = k := by omega
              simp at heq
              rw [List.getElem?_eq_getElem hlt, List.getElem?_eq_getElem hlt', HX.out, HY.out, heq]
          case measure => simp [intOf]; omega
      · have ht : same8 xs ys = true := by
          refine decide_eq_true (List.ext_getElem? fun j => ?_)
          rcases Nat.lt_or_ge j k with h | h
          · exact HS.out j h
          · have := HL.out
            rw [List.getElem?_eq_none (by omega), List.getElem?_eq_none (by omega)]
        have HT := Lib.hid ht
        clear ht
        go_wp2
        go_ret
        exact ⟨by rw [HT.out]; rfl, n, rfl⟩
  · have hlb : ((xs.length : Int) != (ys.length : Int)) = true := by simp; omega
    have hf : same8 xs ys = false := decide_eq_false fun e => hlen (by rw [e])
    have HF := Lib.hid hf
    clear hf
    go_enter Try.func16, Try.ntmps16
    go_wp2
    go_ret
    exact ⟨by rw [HF.out]; rfl, 0, rfl⟩

/-- the same, where the lists are one; the lengths as they stand at the call -/
theorem sameBytes_yes (A A' : Option Addr) (xs ys : List Int) (n m c c' lim : Nat) (w : World) (hn : xs.length = n) (hm : ys.length = m) (hl : n ≤ 9223372036854775807) (e : xs = ys) (hr : Rds w lim A (c8 xs)) (hr' : Rds w lim A' (c8 ys)) :
    Calls Try.prog 16 #[.slice A n c, .slice A' m c'] w fun e w' => e = .returned (.bool true) ∧ ∃ n, w' = w.drewN n := by
  subst hn hm e
  have h := sameBytes_any A A' xs xs c c' lim w hl hl hr hr'
  rwa [show same8 xs xs = true from decide_eq_true rfl] at h

theorem readUint_len (A : Option Addr) (zs : List Int) (n c lim : Nat) (w : World) (hn : zs.length = n) (hl : n ≤ 140737488486400) (hz : Byt zs) (hr : Rds w lim A (c8 zs)) {X N E : Int} (hd : dec 0 0 zs = (X, N, E)) :
    Calls Try.prog 13 #[.slice A n c] w fun e w' => e = .returned (.tuple #[.int .u64 X, .int .i64 N, .int .i64 E]) ∧ w' = w := by
  subst hn
  have h := readUint_any A zs c lim w hl hz hr
  rwa [hd] at h
end Go.Proofs.Ytihndehmagfidaa
