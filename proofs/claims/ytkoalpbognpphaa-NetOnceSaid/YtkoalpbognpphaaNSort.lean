/- slices.Sort over []uint64: the numbers, rising. -/
import Derived.Test.YtkoalpbognpphaaNPdq
import Derived.Test.YtkoalpbognpphaaShelf
namespace Go.Proofs.Ytkoalpbognpphaa
open Go.RowKit Go.Sort
set_option linter.unusedVariables false

/-- numbers as cells -/
def cU (zs : List Int) : List Value := zs.map (Value.int .u64)
theorem cU_length (zs : List Int) : (cU zs).length = zs.length := by simp [cU]
/-- the numbers, rising -/
def rise (zs : List Int) : List Int := zs.mergeSort fun x y => decide (x ≤ y)
theorem rise_perm (zs : List Int) : (rise zs).Perm zs := List.mergeSort_perm ..
theorem rise_length (zs : List Int) : (rise zs).length = zs.length := (rise_perm zs).length_eq
theorem len_bits : ∀ (n : Nat), Lib.bitLen n ≤ 64 := by
  intro n
  have : ∀ f x, Lib.bitLenAux f x ≤ f := by
    intro f
    induction f with
    | zero => intro x; simp [Lib.bitLenAux]
    | succ f ih =>
      intro x
      simp only [Lib.bitLenAux]
      split
      · omega
      · have := ih (x / 2); omega
  exact this 64 n

set_option maxHeartbeats 1000000 in
set_option maxRecDepth 100000 in
theorem insNil_any (w : World) : Calls Try.prog 54 #[.slice none 0 0, .int .i64 0, .int .i64 0] w fun e w' => e = .returned (.tuple #[]) ∧ w' = w := by
  go_enter Try.func54, Try.ntmps54
  go_wp2
  go_loopw [6] (fun vi wr => vi = .int .i64 1 ∧ wr = w) (fun vi _ => 0)
  case atStart => exact ⟨rfl, rfl⟩
  case round =>
    obtain ⟨rfl, rfl⟩ := hrel
    go_wp2
    go_end0
    exact ⟨rfl, rfl⟩
set_option maxHeartbeats 1000000 in
set_option maxRecDepth 100000 in
theorem pdqNil_any (w : World) (l : Int) : Calls Try.prog 52 #[.slice none 0 0, .int .i64 0, .int .i64 0, .int .i64 l] w fun e w' => e = .returned (.tuple #[]) ∧ w' = w := by
  go_enter Try.func52, Try.ntmps52
  go_wp2
  go_loopw [1, 2, 3, 8, 9] (fun v1 v2 v3 v8 v9 wr => v1 = .int .i64 0 ∧ v2 = .int .i64 0 ∧ wr = w) (fun _ _ _ _ _ _ => 0)
  case atStart => exact ⟨rfl, rfl, rfl⟩
  case round =>
    obtain ⟨rfl, rfl, rfl⟩ := hrel
    go_wp2_with fail
    go_at_call 54
    refine (insNil_any _).mono ?_
    rintro e w1 ⟨rfl, rfl⟩
    go_wp2
    go_returns
    exact ⟨rfl, rfl⟩

set_option maxHeartbeats 2000000 in
set_option maxRecDepth 100000 in
theorem sortNil_any (w : World) : Calls Try.prog 49 #[.slice none 0 0] w fun e w' => e = .returned (.tuple #[]) ∧ w' = w := by
  go_enter Try.func49, Try.ntmps49
  go_wp2_with (first
    | (go_at_call 53; refine (Try.bits_Len _ _ (by omega) (by omega)).mono ?_; rintro e w' ⟨rfl, rfl⟩)
    | (go_at_call 52; refine (pdqNil_any _ _).mono ?_; rintro e w' ⟨rfl, rfl⟩))
  go_returns
  exact ⟨rfl, rfl⟩

set_option maxHeartbeats 2000000 in
set_option maxRecDepth 100000 in
theorem sortRow_any {g c n : Nat} {zs : List Int} {w : World} (hn : zs.length = n) (h : SR w g c n w zs.toArray) (cap : Nat) (hN : n < 4611686018427387904) :
    Calls Try.prog 49 #[.slice (some ⟨g, 0, none⟩) n cap] w fun e w' => e = .returned (.tuple #[]) ∧ SR w g c n w' (rise zs).toArray := by
  have hsz : zs.toArray.size = n := by simpa using hn
  have HS := Lib.hid h
  clear h
  have hbits := len_bits n
  obtain ⟨bl, hbl⟩ : ∃ bl, Lib.bitLen n = bl := ⟨_, rfl⟩
  rw [hbl] at hbits
  have HN := Lib.hid hn
  have HSZ := Lib.hid hsz
  clear hn hsz
  have hwn : IntKind.u64.wrap (n : Int) = (n : Int) := by rw [IntKind.wrap_u64]; omega
  go_enter Try.func49, Try.ntmps49
  go_wp2_with (go_at_call 53; refine (Try.bits_Len _ _ (by omega) (by omega)).mono ?_; rintro e w' ⟨rfl, rfl⟩; simp only [Int.toNat_natCast]; rw [hbl])
  go_at_call 52
  refine (pdq_all (n + 1) _ _ _ _ _ HS.out cap 0 n bl (by omega) (Nat.zero_le _) (Nat.le_refl _) hN (by omega) (.inl rfl)).mono ?_
  rintro e w5 ⟨rfl, d5, h5, p5, s5⟩
  have he : d5.toList = rise zs := by
    have := sorted_unique_holds (lt := ltInt) swo_ltInt (fun x y h1 h2 => by have := lt_f.1 h1; have := lt_f.1 h2; omega) zs.toArray d5 (by rw [HSZ.out]; exact p5) (by rw [HSZ.out]; exact s5)
    rw [this]
    unfold rise
    congr 1
    funext x y
    unfold ltInt
    by_cases e : x ≤ y
    · simp [e]
    · simp [e]; omega
  have H5 := Lib.hid h5
  have HE := Lib.hid he
  clear h5 p5 s5 he
  go_wp2
  go_returns
  exact ⟨rfl, by rw [← HE.out]; exact H5.out⟩

theorem sort_any {B : Nat} {v : Value} {zs : List Int} {n : Nat} (hn : zs.length = n) {w : World} (h : w.ownsRow B 25 1 v n (cU zs)) (hN : n < 4611686018427387904) :
    Calls Try.prog 49 #[v] w fun e w' => e = .returned (.tuple #[]) ∧ w'.ownsRow B 25 1 v n (cU (rise zs)) ∧ w.grownBy w' v.ownBlock := by
  subst hn
  rcases h.2 with ⟨rfl, h0⟩ | ⟨g, cap, cur, rfl, hB, hg, h1, h2, h3, h4⟩
  · obtain rfl : zs = [] := List.eq_nil_of_length_eq_zero h0
    refine (sortNil_any w).mono ?_
    rintro e w' ⟨rfl, rfl⟩
    exact ⟨rfl, by simpa [rise] using h, World.grownBy.refl _ _⟩
  · have hsr : SR w g cap zs.length w zs.toArray := by
      refine ⟨Only.refl w g, by simp, cur, hg, by omega, h1, fun j hj => ?_⟩
      have e : (cur.toList.take (zs.length * 1))[j]? = (cU zs)[j]? := by rw [h4]
      rw [List.getElem?_take_of_lt (by omega), Array.getElem?_toList] at e
      rw [e]
      simp [cU, hj]
    refine (sortRow_any rfl hsr cap hN).mono ?_
    rintro e w' ⟨rfl, h5⟩
    obtain ⟨cur', g1, g2, g3, g4⟩ := h5.row
    have hl : (cU (rise zs)).length = zs.length := by rw [cU_length, rise_length]
    refine ⟨rfl, ⟨by rw [hl, Nat.mul_one], .inr ⟨g, cap, cur', rfl, hB, g1, h1, h2, by omega, ?_⟩⟩, by simpa [Value.ownBlock] using h5.gr⟩
    refine List.ext_getElem? fun j => ?_
    rcases Nat.lt_or_ge j zs.length with hj | hj
    · rw [List.getElem?_take_of_lt (by omega), Array.getElem?_toList, g4 j hj]
      have : j < (rise zs).length := by rw [rise_length]; exact hj
      simp [cU, this]
    · rw [List.getElem?_eq_none (by simp; omega), List.getElem?_eq_none (by omega)]
end Go.Proofs.Ytkoalpbognpphaa
