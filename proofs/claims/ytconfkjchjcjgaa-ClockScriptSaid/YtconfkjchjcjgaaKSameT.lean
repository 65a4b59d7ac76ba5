/- The walk over the kit's SameTexts. -/
import Derived.Test.YtconfkjchjcjgaaKTick
import Derived.BigQuiet
import Derived.Deep.QuietTactic
namespace Go.Proofs.Ytconfkjchjcjgaa
open Go.RowKit
set_option linter.unusedVariables false

abbrev Nm := List UInt8
def cS (l : List Nm) : List Value := l.map encStr
theorem cS_get {l : List Nm} {j : Nat} (h : j < l.length) : (cS l)[j]? = some (encStr l[j]) := by simp [cS, h]
theorem cS_length (l : List Nm) : (cS l).length = l.length := by simp [cS]
theorem encStr_lst (s : ByteArray) : encStr (lst s) = .string s := by
  show Value.string ⟨(lst s).toArray⟩ = .string s
  simp [lst]
theorem cT_cS (T : List It) : cT T = cS (T.map fun x => lst x.nm) := by
  unfold cT cS
  rw [List.map_map]
  exact List.map_congr_left fun x _ => (encStr_lst x.nm).symm
def sameT (a b : List Nm) : Bool := decide (a = b)
theorem encStr_toList (l : Nm) : (ByteArray.mk l.toArray).toList = l := by rw [Lib.toList_data]

set_option maxHeartbeats 1000000 in
set_option maxRecDepth 5000 in
theorem sameTexts_any (A A' : Option Addr) (xs ys : List Nm) (n m c c' lim : Nat) (w : World) (hn : xs.length = n) (hm : ys.length = m) (hl : n ≤ 9223372036854775807) (hl' : m ≤ 9223372036854775807) (hr : Rds w lim A (cS xs)) (hr' : Rds w lim A' (cS ys)) :
    Calls Try.prog 17 #[.slice A n c, .slice A' m c'] w fun e w' => e = .returned (.bool (sameT xs ys)) ∧ ∃ q, w' = w.drewN q := by
  by_cases hlen : n = m
  · have hlb : ((n : Int) != (m : Int)) = false := by simp [hlen]
    have HL := Lib.hid hlen
    have HN := Lib.hid hn
    have HM := Lib.hid hm
    clear hlen hn hm
    have hn63 : (n : Int) ≤ 9223372036854775807 := by omega
    go_enter Try.func17, Try.ntmps17
    go_wp2
    go_loopw [5] (fun i wr => ∃ k : Nat, k ≤ n ∧ i = .int .i64 k ∧ (∀ j, j < k → xs[j]? = ys[j]?) ∧ ∃ q, wr = w.drewN q) (fun i _ => n - (intOf i).toNat)
    case atStart => exact ⟨0, Nat.zero_le _, rfl, fun j hj => absurd hj (by omega), 0, rfl⟩
    case round =>
      obtain ⟨k, hk, rfl, hsame, q, rfl⟩ := hrel
      have HS := Lib.hid hsame
      clear hsame
      by_cases hlt : k < n
      · have hkx : k < xs.length := by rw [HN.out]; exact hlt
        have hky : k < ys.length := by rw [HM.out, ← HL.out]; exact hlt
        have hltm : (k : Int) < (m : Int) := by have := HL.out; omega
        obtain ⟨ad, rfl, _, hcell⟩ := hr.at_ (cS_get hkx)
        obtain ⟨ad', rfl, _, hcell'⟩ := hr'.at_ (cS_get hky)
        have e1 : encStr xs[k] = .string ⟨xs[k].toArray⟩ := rfl
        have e2 : encStr ys[k] = .string ⟨ys[k].toArray⟩ := rfl
        rw [e1] at hcell
        rw [e2] at hcell'
        clear e1 e2
        have hX : (⟨xs[k].toArray⟩ : ByteArray).toList = xs[k] := encStr_toList _
        have hY : (⟨ys[k].toArray⟩ : ByteArray).toList = ys[k] := encStr_toList _
        by_cases heq : xs[k] = ys[k]
        · have hq : ((⟨xs[k].toArray⟩ : ByteArray).toList == (⟨ys[k].toArray⟩ : ByteArray).toList) = true := by rw [hX, hY, heq]; simp
          have hq2 : (⟨xs[k].toArray⟩ : ByteArray).toList = (⟨ys[k].toArray⟩ : ByteArray).toList := by rw [hX, hY, heq]
          have HE := Lib.hid heq
          clear hX hY heq
          generalize (⟨xs[k].toArray⟩ : ByteArray) = X at *
          generalize (⟨ys[k].toArray⟩ : ByteArray) = Y at *
          have hq3 : (X.toList != Y.toList) = false := by simp [hq2]
          go_wp2
          go_quiet (fail)
          go_wp2
          go_roundw
          case rel =>
            refine ⟨k + 1, by omega, by go_num, fun j hj => ?_, _, rfl⟩
            rcases Nat.lt_or_ge j k with h | h
            · exact HS.out j h
            · obtain rfl : j = k := by omega
              rw [List.getElem?_eq_getElem hkx, List.getElem?_eq_getElem hky, HE.out]
          case measure => simp [intOf]; omega
        · have hq2 : ¬ (⟨xs[k].toArray⟩ : ByteArray).toList = (⟨ys[k].toArray⟩ : ByteArray).toList := by rw [hX, hY]; exact heq
          have hf : sameT xs ys = false := by
            refine decide_eq_false fun e => heq ?_
            subst e
            rfl
          have HF := Lib.hid hf
          clear hX hY heq hf
          generalize (⟨xs[k].toArray⟩ : ByteArray) = X at *
          generalize (⟨ys[k].toArray⟩ : ByteArray) = Y at *
          have hq3 : (X.toList != Y.toList) = true := by simpa using hq2
          have hq4 : (X.toList == Y.toList) = false := by simpa using hq2
          go_wp2
          go_quiet (fail)
          go_wp2
          go_returns
          exact ⟨by rw [HF.out]; simp, _, World.drewN_drewN ..⟩
      · have ht : sameT xs ys = true := by
          refine decide_eq_true (List.ext_getElem? fun j => ?_)
          rcases Nat.lt_or_ge j k with h | h
          · exact HS.out j h
          · have h1 := HN.out
            have h2 := HM.out
            have h3 := HL.out
            rw [List.getElem?_eq_none (by omega), List.getElem?_eq_none (by omega)]
        have HT := Lib.hid ht
        clear ht
        go_wp2
        go_returns
        exact ⟨by rw [HT.out]; simp, q, rfl⟩
  · have hlb : ((n : Int) != (m : Int)) = true := by simp; omega
    have hf : sameT xs ys = false := decide_eq_false fun e => hlen (by rw [← hn, ← hm, e])
    rw [hf]
    clear hf hlen hn hm
    go_enter Try.func17, Try.ntmps17
    go_wp2
    go_returns
    exact ⟨by simp, 0, rfl⟩
end Go.Proofs.Ytconfkjchjcjgaa
