/- The walks over the frame's put and number: bytes laid down and read, the lowest first. -/
import Derived.Test.YtbmllljieoeihaaFMath2
import Derived.Test.YtbmllljieoeihaaKit
import Derived.Test.YtbmllljieoeihaaCMore
import Derived.Laws.BitsAllLaws
namespace Go.Proofs.Ytbmllljieoeihaa
open Go.RowKit
set_option linter.unusedVariables false

theorem le_snoc : ∀ (j x : Nat), le (j + 1) x = le j x ++ [((x / 2 ^ (8 * j) % 256 : Nat) : Int)]
  | 0, x => by simp [le]
  | j + 1, x => by
    have h := le_snoc j (x / 256)
    rw [le, h, le, List.cons_append, Nat.div_div_eq_div_mul, show 256 * 2 ^ (8 * j) = 2 ^ (8 * (j + 1)) by rw [show 8 * (j + 1) = 8 + 8 * j by omega, Nat.pow_add]]

theorem lay_byte {L : List Int} {off j : Nat} (h : off + j < L.length) (M : List Int) (hM : M.length = j) (v : Int) :
    (L.take off ++ (M ++ L.drop (off + j))).set (off + j) v = L.take off ++ ((M ++ [v]) ++ L.drop (off + (j + 1))) := by
  have h1 : (L.take off).length = off := by rw [List.length_take]; omega
  rw [List.set_append_right _ _ (by omega), h1, List.set_append_right _ _ (by omega), hM, show off + j - off - j = 0 by omega, List.drop_eq_getElem_cons h, List.append_assoc]
  rfl

set_option maxHeartbeats 800000 in
theorem fput_any (g off n c x : Nat) (L : List Int) (w : World) (hx : x < 4294967296) (hn : n ≤ 4) (hoff : off + n ≤ L.length) (hl : L.length ≤ 281474976710656) (hw : Whole w g 5 (c8 L).toArray) :
    Calls Try.prog 25 #[.slice (some ⟨g, off, none⟩) n c, .int .u32 x] w fun e w' => e = .returned (.tuple #[]) ∧ Whole w' g 5 (c8 (L.take off ++ (le n x ++ L.drop (off + n)))).toArray ∧ w.grownBy w' (some g) := by
  go_enter Try.func25, Try.ntmps25
  go_wp2
  go_loopw [7] (fun i wr => ∃ j : Nat, j ≤ n ∧ i = .int .i64 j ∧ Whole wr g 5 (c8 (L.take off ++ (le j x ++ L.drop (off + j)))).toArray ∧ w.grownBy wr (some g)) (fun i _ => n - (intOf i).toNat)
  case atStart => exact ⟨0, by omega, rfl, by simpa [le] using hw, Only.refl _ _⟩
  case round =>
    obtain ⟨j, hj, rfl, hw1, hg1⟩ := hrel
    by_cases hlt : j < n
    · have hcell : ∃ v, wr.cell? ⟨g, off + j, none⟩ = some v := by
        refine ⟨_, hw1.cell _ |>.trans (List.getElem?_toArray ▸ List.getElem?_eq_getElem (by simp [c8, le_length]; omega))⟩
      obtain ⟨v, hcell⟩ := hcell
      have hf := hw1.frozen (off + j)
      have HW := Lib.hid hw1
      clear hw1
      go_wp2
      go_roundw
      case rel =>
        have hval : ((x : Int) / 2 ^ (8 * j) % 256) = ((x / 2 ^ (8 * j) % 256 : Nat) : Int) := by simp
        refine ⟨j + 1, by omega, by go_num, ?_, ?_⟩
        · have h := HW.out.put (off + j) (.int .u8 ((x / 2 ^ (8 * j) % 256 : Nat) : Int))
          rw [c8_set, lay_byte (by omega) (le j x) (le_length j x), ← le_snoc] at h
          rw [hval]
          exact h
        · exact Only.put hg1 _ _
      case measure => simp [intOf]; omega
    · obtain rfl : j = n := by omega
      go_wp2
      go_end0
      exact ⟨rfl, hw1, hg1⟩


theorem un_append : ∀ (a b : List Int), un (a ++ b) = un a + 256 ^ a.length * un b
  | [], b => by simp [un]
  | z :: r, b => by
    rw [List.cons_append, un, un_append r b, un, List.length_cons, Nat.pow_succ, Nat.mul_add, Nat.mul_comm (256 ^ r.length) 256, Nat.mul_assoc, Nat.add_assoc]

/-- one more byte read -/
theorem num_next {zs : List Int} (hz : Byt zs) {j : Nat} (hj : j < zs.length) (h4 : j < 4) : bits .or .u32 (un (zs.take j) : Nat) (zs[j] * 2 ^ (8 * j) % 4294967296) = (un (zs.take (j + 1)) : Nat) := by
  have hb := hz zs[j] (List.getElem_mem hj)
  have hlen : (zs.take j).length = j := by rw [List.length_take]; omega
  have h1 := un_lt (hz.take j)
  rw [hlen] at h1
  have e : un (zs.take (j + 1)) = un (zs.take j) + 256 ^ j * zs[j].toNat := by
    rw [List.take_add_one, List.getElem?_eq_getElem hj, un_append, hlen]
    rfl
  generalize zs[j] = d at *
  obtain ⟨b, rfl⟩ : ∃ b : Nat, d = b := ⟨d.toNat, by omega⟩
  rw [Int.toNat_natCast] at e
  have hp : (256 : Nat) ^ j = 2 ^ (8 * j) := by rw [Nat.pow_mul]
  have hle : 2 ^ (8 * j) ≤ 2 ^ 24 := Nat.pow_le_pow_right (by decide) (by omega)
  rw [hp] at h1 e
  have hbp : b * 2 ^ (8 * j) ≤ 255 * 2 ^ 24 := Nat.mul_le_mul (by omega) hle
  have hv : ((b : Int) * 2 ^ (8 * j) % 4294967296) = ((2 ^ (8 * j) * b : Nat) : Int) := by
    have e2 : ((b : Int) * 2 ^ (8 * j)) = ((b * 2 ^ (8 * j) : Nat) : Int) := by simp
    rw [e2, Nat.mul_comm (2 ^ (8 * j)) b]
    generalize b * 2 ^ (8 * j) = q at *
    omega
  have hq : 2 ^ (8 * j) * b < 4294967296 := by rw [Nat.mul_comm]; omega
  rw [hv, u32_or_nat _ _ (by omega) hq, e, Nat.or_comm, ← Nat.two_pow_add_eq_or_of_lt h1 b, Nat.add_comm]

set_option maxHeartbeats 800000 in
theorem fnum_any (A : Option Addr) (zs : List Int) (c lim : Nat) (w : World) (hl : zs.length ≤ 4) (hz : Byt zs) (hr : Rds w lim A (c8 zs)) :
    Calls Try.prog 35 #[.slice A zs.length c] w fun e w' => e = .returned (.int .u32 (un zs : Nat)) ∧ w' = w := by
  go_enter Try.func35, Try.ntmps35
  go_wp2
  go_loop [3, 8] (fun x i => ∃ (j : Nat), j ≤ zs.length ∧ i = .int .i64 j ∧ x = .int .u32 (un (zs.take j) : Nat)) (fun _ i => zs.length - (intOf i).toNat)
  case atStart => exact ⟨0, by omega, rfl, by simp [un]⟩
  case round =>
    obtain ⟨j, hj, rfl, rfl⟩ := hrel
    by_cases hlt : j < zs.length
    · obtain ⟨ad, rfl, _, hcell⟩ := hr.at_ (c8_get hlt)
      have hb := hz zs[j] (List.getElem_mem hlt)
      go_wp2
      go_round
      case rel =>
        exact ⟨j + 1, by omega, by go_num, by rw [num_next hz hlt (by omega)]⟩
      case measure => simp [intOf]; omega
    · obtain rfl : j = zs.length := by omega
      go_wp2
      go_ret
      exact ⟨rfl, rfl⟩
theorem fnum_len (A : Option Addr) (zs : List Int) (n c lim : Nat) (w : World) (hn : zs.length = n) (hl : n ≤ 4) (hz : Byt zs) (hr : Rds w lim A (c8 zs)) :
    Calls Try.prog 35 #[.slice A n c] w fun e w' => e = .returned (.int .u32 (un zs : Nat)) ∧ w' = w := by
  subst hn
  exact fnum_any A zs c lim w hl hz hr
end Go.Proofs.Ytbmllljieoeihaa
