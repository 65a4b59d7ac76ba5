/- The program's test of what a crash is to keep; the files' names, rising. -/
import Derived.Test.YtnpomiidkdnebaaDRen
namespace Go.Proofs.Ytnpomiidkdnebaa
open Go.RowKit Go.Maps Go.WideMaps
set_option linter.unusedVariables false

theorem neg_any (z : Int) (w : World) : Calls Try.prog 42 #[.int .i64 z] w fun e w' => e = .returned (.bool (decide (z < 0))) ∧ w' = w := by
  by_cases h : z < 0
  · have h' : decide (z < 0) = true := decide_eq_true h
    rw [h']
    go_enter Try.func42, Try.ntmps42
    go_wp2
    go_returns
    exact ⟨by simp, rfl⟩
  · have h' : decide (z < 0) = false := decide_eq_false h
    rw [h']
    go_enter Try.func42, Try.ntmps42
    go_wp2
    go_returns
    exact ⟨by simp, rfl⟩

def cN (zs : List Int) : List Value := zs.map (Value.int .i64)
theorem cN_length (zs : List Int) : (cN zs).length = zs.length := by simp [cN]
theorem cN_get {zs : List Int} {j : Nat} (h : j < zs.length) : (cN zs)[j]? = some (.int .i64 zs[j]) := by simp [cN, h]
def isNeg (z : Int) : Bool := decide (z < 0)

set_option maxHeartbeats 1000000 in
set_option maxRecDepth 5000 in
theorem index_any (A : Option Addr) (zs : List Int) (n c lim : Nat) (w : World) (hn : zs.length = n) (hl : n ≤ 9223372036854775807) (hr : Rds w lim A (cN zs)) :
    Calls Try.prog 65 #[.slice A n c, .func (.func 42) #[] #[]] w fun e w' => ∃ i : Int, e = .returned (.int .i64 i) ∧ decide (0 ≤ i) = zs.any isNeg ∧ ∃ k, w' = w.drewN k := by
  have hl' : (n : Int) ≤ 9223372036854775807 := by omega
  have HN := Lib.hid hn
  clear hn
  go_enter Try.func65, Try.ntmps65
  go_wp2
  go_loopw [8] (fun i wr => ∃ k : Nat, k ≤ n ∧ i = .int .i64 k ∧ (∀ z ∈ zs.take k, isNeg z = false) ∧ ∃ q, wr = w.drewN q) (fun i _ => n - (intOf i).toNat)
  case atStart => exact ⟨0, Nat.zero_le _, rfl, by simp, 0, rfl⟩
  case round =>
    obtain ⟨k, hk, rfl, hall, q, rfl⟩ := hrel
    have HA := Lib.hid hall
    clear hall
    by_cases hlt : k < n
    · have hkl : k < zs.length := by rw [HN.out]; exact hlt
      obtain ⟨ad, rfl, _, hcell⟩ := hr.at_ (cN_get hkl)
      generalize hz : zs[k] = z at *
      have HZ := Lib.hid hz
      clear hz
      go_wp2_with fail
      refine (neg_any z _).mono ?_
      rintro e w1 ⟨rfl, rfl⟩
      cases hd : decide (z < 0)
      · go_wp2
        go_roundw
        case rel =>
          refine ⟨k + 1, by omega, by go_num, ?_, _, rfl⟩
          intro y hy
          rw [List.take_add_one, List.getElem?_eq_getElem hkl] at hy
          rcases List.mem_append.1 hy with hy | hy
          · exact HA.out y hy
          · have : y = z := by rw [← HZ.out]; simpa using hy
            rw [this]
            exact hd
        case measure => simp [intOf]; omega
      · go_wp2
        go_returns
        refine ⟨k, by simp, ?_, _, rfl⟩
        have : zs.any isNeg = true := List.any_eq_true.2 ⟨z, by rw [← HZ.out]; exact List.getElem_mem hkl, hd⟩
        rw [this]
        exact decide_eq_true (by omega)
    · go_wp2
      go_returns
      refine ⟨-1, by simp, ?_, q, rfl⟩
      have h := HA.out
      rw [List.take_of_length_le (by rw [HN.out]; omega)] at h
      have : zs.any isNeg = false := List.any_eq_false.2 (fun z hz => by rw [h z hz]; decide)
      rw [this]
      rfl
theorem anyNeg_any (A : Option Addr) (zs : List Int) (n c lim : Nat) (w : World) (hn : zs.length = n) (hl : n ≤ 9223372036854775807) (hr : Rds w lim A (cN zs)) :
    Calls Try.prog 41 #[.slice A n c, .func (.func 42) #[] #[]] w fun e w' => e = .returned (.bool (zs.any isNeg)) ∧ ∃ k, w' = w.drewN k := by
  have hcon := index_any A zs n c lim w hn hl hr
  go_enter Try.func41, Try.ntmps41
  go_wp2_with fail
  refine hcon.mono ?_
  rintro e w1 ⟨i, rfl, hd, k, rfl⟩
  have HD := Lib.hid hd
  clear hd hcon
  by_cases hi : 0 ≤ i
  · have : zs.any isNeg = true := by rw [← HD.out]; exact decide_eq_true hi
    rw [this] at HD
    go_wp2
    go_returns
    exact ⟨by rw [this]; simp, k, rfl⟩
  · have : zs.any isNeg = false := by rw [← HD.out]; exact decide_eq_false hi
    go_wp2
    go_returns
    exact ⟨by rw [this]; simp; omega, k, rfl⟩

section
variable {S : Nat → Prop} {d mb nn : Nat} {M : DataW Unit} {blk : Nm → Nat} {vs : Nm → Value} {D : Dsk}

theorem names_perm {w : World} (h : DkAt w S d mb nn M blk vs D) (hs : Srt D.files) : (names D).Perm (strKeys M) := by
  have hc : Collected M (fun _ => false) (names D) := by
    refine ⟨?_, fun x => ?_⟩
    · have := (srt_iff D.files).1 hs
      exact this.imp (fun h => nm_lt_ne h)
    · rw [and_iff_left rfl]
      constructor
      · intro hx
        obtain ⟨f, hf, rfl⟩ := List.mem_map.1 hx
        have := find_mem hs hf
        exact has_true_of_atKey (y := .lit (.int .i64 (blk f.nm))) fun z => by rw [h.key, this]
      · intro hx
        cases hf : find D.files x with
        | none =>
          have : has M (.string x) = false := has_false_of_atKey fun z => by rw [h.key, hf]
          rw [this] at hx
          cases hx
        | some f =>
          obtain ⟨hm, rfl⟩ := find_some hf
          exact List.mem_map.2 ⟨f, hm, rfl⟩
  exact hc.perm h.map lawS Try.underlying9 (fun _ => rfl)
theorem names_sorted {D : Dsk} (hs : Srt D.files) : (names D).mergeSort leB = names D := by
  refine List.mergeSort_of_pairwise ?_
  refine ((srt_iff D.files).1 hs).imp fun h => ?_
  simp only [leB, decide_eq_true_eq]
  exact List.le_of_lt h

def cS (l : List Nm) : List Value := l.map encStr

theorem rising_any (w : World) (h : DkAt w S d mb nn M blk vs D) (hnn : nn ≤ 1099511627776) (hs : Srt D.files) :
    Calls Try.prog 43 #[.pointer (some ⟨d, 0, none⟩)] w fun e w' => ∃ v, e = .returned v ∧ w'.ownsRow w.heap.size 9 1 v (names D).length (cS (names D)) ∧ Below w.heap.size w w' := by
  have c5 := h.c5
  have hz := h.map.size_le
  have hk := callsIn_wide.1 (Try.maps_Keys_67 (some mb) w)
  have hso := callsIn_wide.1 (Try.slices_Sorted_keys_66_67 mb nn M ptrR w h.map (by unfold maxLen; omega) (by omega))
  go_enter Try.func43, Try.ntmps43
  go_wp2_with fail
  refine hk.mono ?_
  rintro e w1 ⟨rfl, rfl⟩
  go_wp2_with fail
  refine hso.mono ?_
  rintro e w2 ⟨v, ss, rfl, hp, ho, _, hb⟩
  have hl : ss.length = (names D).length := (hp.trans (names_perm h hs).symm).length_eq
  have hm : ss.mergeSort (fun x y => decide (x ≤ y)) = names D := (mergeSort_of_perm (hp.trans (names_perm h hs).symm)).trans (names_sorted hs)
  rw [hm, hl] at ho
  have hb2 : Below w.heap.size w w2 := ((Below.refl _ w).alloc (Nat.le_refl _) _).trans (hb.mono (by simp))
  have HO := Lib.hid (ownRow_base ho (B' := w.heap.size) (fun g hg => by have := (ownRow_block ho hg).1; simp at this; omega))
  have HB := Lib.hid hb2
  clear ho hb hb2 hm hl hp hso hk
  go_wp2
  go_returns
  exact ⟨v, by simp, HO.out, HB.out⟩
theorem names_on (w : World) (h : Dk 0 w S d D) (hst : D.steps ≤ 1099511627776) (hs : Srt D.files) :
    Calls Try.prog 21 #[.pointer (some ⟨d, 0, none⟩)] w fun e w' => ∃ v, e = .returned v ∧ w'.ownsRow w.heap.size 9 1 v (dNames D).length (cS (dNames D)) ∧ Below w.heap.size w w' := by
  have hcon := on_any w h
  obtain ⟨mb, nn, M, blk, vs, h, hnn⟩ := h
  have hri := rising_any w h (by omega) hs
  cases ho : D.off
  · have e : dNames D = names D := by simp [dNames, ho]
    rw [ho] at hcon
    rw [e]
    generalize names D = L at *
    go_enter Try.func21, Try.ntmps21
    go_wp2_with fail
    refine hcon.mono ?_
    rintro e w1 ⟨rfl, rfl⟩
    go_wp2_with fail
    refine hri.mono ?_
    rintro e w2 ⟨v, rfl, ho, hb⟩
    have HO := Lib.hid ho
    clear ho hri hcon
    go_wp2
    go_returns
    exact ⟨v, by simp, HO.out, hb⟩
  · have e : dNames D = [] := by simp [dNames, ho]
    rw [ho] at hcon
    rw [e]
    go_enter Try.func21, Try.ntmps21
    go_wp2_with fail
    refine hcon.mono ?_
    rintro e w1 ⟨rfl, rfl⟩
    go_wp2
    go_returns
    exact ⟨_, by simp, World.ownsRow_nil _ _ _ _, Below.refl _ _⟩
theorem names_no (p : Option Addr) (w : World) (h : Nobody w p) :
    Calls Try.prog 21 #[.pointer p] w fun e w' => e = .returned (.slice none 0 0) ∧ w' = w := by
  have hcon := on_no p w h
  go_enter Try.func21, Try.ntmps21
  go_wp2_with fail
  refine hcon.mono ?_
  rintro e w1 ⟨rfl, rfl⟩
  go_wp2
  go_returns
  exact ⟨by simp, rfl⟩
end
end Go.Proofs.Ytnpomiidkdnebaa
