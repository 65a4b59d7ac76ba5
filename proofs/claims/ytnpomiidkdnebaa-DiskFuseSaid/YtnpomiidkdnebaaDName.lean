/- The program's test of a file's name. -/
import Derived.Test.YtnpomiidkdnebaaDObj
namespace Go.Proofs.Ytnpomiidkdnebaa
open Go.RowKit Go.Maps
set_option linter.unusedVariables false

def okB (b : UInt8) : Bool := decide (33 ≤ b.toNat) && decide (b.toNat ≤ 126)

theorem okN_long {l : Nm} (h : 24 < l.length) : okN l = false := by simp [okN]; omega
theorem okN_short {l : Nm} (h1 : 1 ≤ l.length) (h2 : l.length ≤ 24) : okN l = l.all okB := by
  have a : decide (1 ≤ l.length) = true := by simpa using h1
  have b : decide (l.length ≤ 24) = true := by simpa using h2
  unfold okN
  rw [a, b]
  rfl
theorem okN_len {l : Nm} (h : okN l = true) : 1 ≤ l.length ∧ l.length ≤ 24 := by
  simp only [okN, Bool.and_eq_true, decide_eq_true_eq] at h
  exact ⟨h.1, h.2.1⟩

set_option maxHeartbeats 800000 in
theorem mayNot_any (s : ByteArray) (hs : s.size ≤ 9223372036854775807) (w : World) :
    Calls Try.prog 48 #[.string s] w fun e w' => e = .returned (.bool (!okN s.data.toList)) ∧ ∃ n, w' = w.drewN n := by
  have hsz : s.size = s.data.toList.length := by simp
  have hl : s.toList = s.data.toList := Lib.toList_data s
  have he : (ByteArray.mk #[]).toList = [] := by rw [Lib.toList_data]
  by_cases h0 : s.size = 0
  · have hn : s.data.toList = [] := List.eq_nil_of_length_eq_zero (by omega)
    have hq : s.toList = [] := by rw [hl, hn]
    have hf : okN s.data.toList = false := by rw [hn]; rfl
    rw [hf]
    clear hf hn hl he hsz
    go_enter Try.func48, Try.ntmps48
    go_wp2
    go_ret
    exact ⟨by simp, 0, rfl⟩
  · have hq : ¬ s.toList = [] := by
      rw [hl]
      intro hn
      rw [hn] at hsz
      exact h0 hsz
    have hq1 : s.toList.isEmpty = false := by simpa using hq
    by_cases h24 : 24 < s.size
    · rw [okN_long (by omega)]
      have h24' : (24 : Int) < s.size := by omega
      clear hl he hsz h24
      go_enter Try.func48, Try.ntmps48
      go_wp2
      go_ret
      exact ⟨by simp, 0, rfl⟩
    · rw [okN_short (by omega) (by omega)]
      have h24' : ¬ (24 : Int) < s.size := by omega
      have HL := Lib.hid hl
      have HS := Lib.hid hsz
      generalize hr : s.data.toList.all okB = r
      have HR := Lib.hid hr
      clear hr
      clear hl he hsz h24
      go_enter Try.func48, Try.ntmps48
      go_wp2
      go_loopw [13] (fun i wr => ∃ k : Nat, k ≤ s.size ∧ i = .int .i64 k ∧ (s.data.toList.take k).all okB = true ∧ ∃ n, wr = w.drewN n) (fun i _ => s.size - (intOf i).toNat)
      case atStart => exact ⟨0, Nat.zero_le _, rfl, rfl, 0, rfl⟩
      case round =>
        obtain ⟨k, hk, rfl, hall, n, rfl⟩ := hrel
        have HA := Lib.hid hall
        clear hall
        by_cases hlt : k < s.size
        · have hg : s.data[k]'(by exact hlt) = s.data.toList[k]'(by rw [← HS.out]; exact hlt) := by simp
          have hkl : k < s.data.toList.length := by rw [← HS.out]; exact hlt
          have hb : okB (s.data.toList[k]'hkl) = decide (33 ≤ ((s[k]'hlt).toNat : Int) ∧ ((s[k]'hlt).toNat : Int) ≤ 126) := by
            have e : s[k]'hlt = s.data.toList[k]'hkl := by rw [← hg]; rfl
            rw [e]
            simp only [okB, Bool.decide_and]
            congr 1 <;> exact decide_eq_decide.2 (by omega)
          have bad : okB (s.data.toList[k]'hkl) = false → s.data.toList.all okB = false := fun h => by
            rw [List.all_eq_false]
            exact ⟨_, List.getElem_mem hkl, by rw [h]; decide⟩
          have HB := Lib.hid hb
          have HBad := Lib.hid bad
          clear hg hb bad
          go_wp2
          all_goals first
            | (go_roundw
               case rel =>
                 refine ⟨k + 1, by omega, by go_num, ?_, n, rfl⟩
                 rw [List.take_add_one, List.getElem?_eq_getElem hkl, List.all_append, HA.out]
                 simp only [Option.toList_some, List.all_cons, List.all_nil, Bool.and_true, Bool.true_and]
                 rw [HB.out]
                 exact decide_eq_true (by omega)
               case measure => simp [intOf]; omega)
            | (go_ret
               refine ⟨?_, n, rfl⟩
               rw [← HR.out, HBad.out (by rw [HB.out]; exact decide_eq_false (by omega))]
               rfl)
        · go_wp2
          go_ret
          refine ⟨?_, n, rfl⟩
          have := HA.out
          rw [List.take_of_length_le (by rw [← HS.out]; omega)] at this
          rw [← HR.out, this]
          rfl

/-- texts that the model can hold -/
abbrev Txt := { s : ByteArray // s.size ≤ 9223372036854775807 }
instance : Inhabited Txt := ⟨⟨ByteArray.mk #[], by decide⟩⟩
def encT (s : Txt) : Value := .string s.1
theorem mayNot_pred (w : World) : PredAt Try.prog 48 #[] encT (fun s => !okN s.1.data.toList) w := fun W x hb => mayNot_any x.1 x.2 W
theorem mayNot_enters : ∀ args w, (callFunc 48 args).run Try.prog w = .ok (.enter 48 args) w := enters_of Try.func48 (by kernel_rfl) rfl
/-- the test over a new slice of names -/
theorem names_any (ss : List Txt) (b n c : Nat) (w : World) (hn : ss.length = n) (hbig : n ≤ 9223372036854775807) (hc : ∀ j, j < ss.length → w.cell? ⟨b, j, none⟩ = some (encT ss[j]!)) :
    Calls Try.prog 63 #[.slice (some ⟨b, 0, none⟩) n c, .func (.func 48) #[] #[]] w fun e w' => e = .returned (.bool (!(ss.map (·.1.data.toList)).all okN)) ∧ ∃ q, w' = w.drewN q := by
  have h := Try.slices_ContainsFunc_f63 encT (fun s => !okN s.1.data.toList) 48 #[] mayNot_enters b 0 n c ss w (mayNot_pred w) (by omega) hbig (by simpa using hc)
  refine h.mono ?_
  rintro e w' ⟨rfl, q, rfl⟩
  refine ⟨?_, q, rfl⟩
  rw [List.take_of_length_le (by omega), List.any_eq_not_all_not, List.all_map]
  congr 3
  simp only [Bool.not_not]
  rfl
end Go.Proofs.Ytnpomiidkdnebaa
