/- The walk over the frame's Append. -/
import Derived.Test.YtbmllljieoeihaaFRead
import Derived.StillTailTactics
namespace Go.Proofs.Ytbmllljieoeihaa
open Go.RowKit
set_option linter.unusedVariables false

theorem app_long (A A' : Option Addr) (n c m c' : Nat) (k : Int) (w : World) (hm : 1048576 < m) (hm2 : m ≤ 9223372036854775807) :
    Calls Try.prog 10 #[.slice A n c, .agg #[.int .u8 k, .slice A' m c']] w fun e w' => e = .returned (.tuple #[.slice none 0 0, .int .i64 3]) ∧ Below w.heap.size w w' := by
  have hm' : (1048576 : Int) < (m : Int) := by omega
  go_enter Try.func10, Try.ntmps10
  go_wp2
  go_ret2
  exact ⟨rfl, (Below.refl _ _).alloc (Nat.le_refl _) _⟩

/-- copy(dst, src) into the middle of a block known whole, src nil or not, no longer than dst -/
theorem copy_mid {P : Program} (w : World) (T e ty : TypeId) (hu : P.underlying T = some (.slice e)) (hs : (P.info? e).map (·.size) = some 1) {g off m cap c lim : Nat} {old : List Value} {A : Option Addr} {xs : List Value} {te : TypeId}
    (hw : Whole w g te old.toArray) (hr : Rds w lim A xs) (hle : xs.length ≤ m) (hm : off + xs.length ≤ old.length) (h1 : ∀ u ∈ xs, u.oneCell' = true) {n : Nat} (hn : n = xs.length) (D : Option Addr) (hD : xs ≠ [] → D = some ⟨g, off, none⟩) :
    ∃ w', (Builtin.copy_ #[T, T] ty #[.slice D m cap, .slice A n c]).run P w = .ok (.int .i64 n) w' ∧ Whole w' g te (old.take off ++ (xs ++ old.drop (off + xs.length))).toArray ∧ w.grownBy w' (some g) := by
  subst hn
  have hmin : Nat.min xs.length m = xs.length := Nat.min_eq_left hle
  by_cases h0 : xs = []
  · subst h0
    exact ⟨w, run_copy_none (P := P) w T T ty e _ A m cap 0 c hu hs (Nat.min_eq_left (Nat.zero_le _)), by simpa using hw, Only.refl _ _⟩
  · obtain rfl := hD h0
    obtain ⟨ad, rfl, _, hsrc⟩ := hr h0
    refine ⟨_, run_copy_row (P := P) w T T ty e g off m cap ad xs.length c old.toArray te xs hu hs hw hmin.symm hsrc (by simpa using hm) h1, ?_, ?_⟩
    · have := setRow_heap w g _ ((old.toArray.toList.take off ++ xs ++ old.toArray.toList.drop (off + xs.length)).toArray) te (0, 0) hw
      unfold Whole
      rw [this]
      simp
    · exact ⟨rfl, rfl, rfl, by simp [World.setRow], fun k hk hn => setRow_other w g k _ (fun e => hn (by rw [e]))⟩

theorem lay_mid {P Q R N : List Int} {off n : Nat} (h1 : P.length = off) (h2 : Q.length = n) : (P ++ (Q ++ R)).take off ++ (N ++ (P ++ (Q ++ R)).drop (off + n)) = P ++ (N ++ R) := by
  subst h1 h2
  rw [List.take_left, ← List.drop_drop, List.drop_left, List.drop_left]

theorem addr_add (g off j : Nat) : (⟨g, off, none⟩ : Addr).add j = ⟨g, off + j, none⟩ := by unfold Addr.add; split <;> simp_all

/-- a piece in the middle of a block reads as it stands there -/
theorem Whole.mid {w : World} {g off : Nat} {t : TypeId} {P Q R : List Int} (h : Whole w g t (c8 (P ++ (Q ++ R))).toArray) (ho : P.length = off) : Rds w w.heap.size (some ⟨g, off, none⟩) (c8 Q) := by
  intro _
  refine ⟨_, rfl, h.lt, fun j u hu => ?_⟩
  have hj : j < (c8 Q).length := (List.getElem?_eq_some_iff.1 hu).1
  have hP : (c8 P).length = off := by rw [c8_length, ho]
  rw [addr_add, h.cell, c8_append, c8_append]
  simp only [List.getElem?_toArray]
  rw [List.getElem?_append_right (by omega), hP, show off + j - off = j by omega, List.getElem?_append_left hj, hu]

theorem rep_split (a b : Nat) : List.replicate (a + b) (0 : Int) = List.replicate a 0 ++ List.replicate b 0 := by rw [List.replicate_append_replicate]

set_option maxHeartbeats 3200000 in
theorem fapp_any (A A' : Option Addr) (zs body : List Int) (c c' m : Nat) (k : Int) (w : World) (hbm : body.length = m) (hl : zs.length ≤ 140737488400000) (hm : m ≤ 1048576) (hk : 0 ≤ k ∧ k ≤ 255) (hz : Byt zs) (hzb : Byt body)
    (hr : Rds w w.heap.size A (c8 zs)) (hr' : Rds w w.heap.size A' (c8 body)) :
    Calls Try.prog 10 #[.slice A zs.length c, .agg #[.int .u8 k, .slice A' m c']] w fun e w' =>
      ∃ g, e = .returned (.tuple #[.slice (some ⟨g, 0, none⟩) (zs.length + (m + 12)) (zs.length + (m + 12)), .int .i64 0]) ∧ Whole w' g 5 (c8 (zs ++ fby ⟨k, body⟩)).toArray ∧ w.heap.size ≤ g ∧ Below w.heap.size w w' := by
  obtain ⟨i0, hi, hz0, hz1, hz2⟩ := info_parts info8
  have hsz : (Try.prog.info? 5).map (·.size) = some 1 := by rw [hi]; simp [hz1]
  have hm' : ¬ (1048576 : Int) < (m : Int) := by omega
  have hwr : IntKind.u32.wrap (m : Int) = (m : Int) := IntWalk.u32_in _ (by omega)
  have hq1 : (4 : Int) ≤ (m : Int) + 12 := by omega
  have hq2 : (8 : Int) ≤ (m : Int) + 12 := by omega
  have hq3 : 0 ≤ 8 + (m : Int) ∧ 8 + (m : Int) ≤ (m : Int) + 12 := by omega
  have hq4 : max (8 + (m : Int)) 0 = 8 + (m : Int) := by omega
  have hq5 : (8 + (m : Int)).toNat = 8 + m := by omega
  have hq6 : (8 : Int) ≤ 8 + (m : Int) := by omega
  have hq7 : 0 ≤ 8 + (m : Int) + 4 ∧ 8 + (m : Int) + 4 ≤ (m : Int) + 12 := by omega
  have hq8 : max (8 + (m : Int) + 4) 0 = 8 + (m : Int) + 4 := by omega
  have hq9 : (8 + (m : Int) + 4).toNat = 8 + m + 4 := by omega
  have hq10 : 0 ≤ 8 + (m : Int) ∧ 8 + (m : Int) ≤ 8 + (m : Int) + 4 := by omega
  have hadd : ∀ g k, (⟨g, 0, none⟩ : Addr).add k = ⟨g, k, none⟩ := fun g k => by unfold Addr.add; split <;> simp_all
  have hbx : Below w.heap.size w (w.alloc (.cells #[.int .u8 k, .slice A' m c'] 28)) := (Below.refl _ _).alloc (Nat.le_refl _) _
  have hwx := Whole.new w 28 #[.int .u8 k, .slice A' m c']
  go_enter Try.func10, Try.ntmps10
  go_wp2_with (at_make; go_loud (refine wpList_make_full _ rfl _ _ 23 rfl (w.heap.size + 1) 5 i0 (.int .u8 0) 1 Try.underlying23 hi hz0 hz1 .i64 .i64 _ _ (zs.length + (m + 12)) rfl rfl (by omega) (by omega) (by rw [hz2]; omega) (by unfold maxLen; omega) (by simp) ?_))
  intro w1 hown1 hg1
  have hb1 : Below w.heap.size w w1 := hbx.grown hg1 (by simp) (by simp)
  have hx1 : Whole w1 w.heap.size 28 #[.int .u8 k, .slice A' m c'] := hwx.grown hg1 (by simp)
  have hw1 := own_whole hown1
  have hG : w.heap.size ≤ w.heap.size + 1 := by omega
  have hne : w.heap.size ≠ w.heap.size + 1 := by omega
  have e1 : (madeCells #[Value.int .u8 0] (zs.length + (m + 12))).toList = c8 ([] ++ (List.replicate zs.length 0 ++ List.replicate (m + 12) 0)) := by
    have h := made1 (.int .u8 0) (zs.length + (m + 12))
    rw [Nat.mul_one] at h
    rw [h]
    simp [c8]
  rw [e1] at hw1
  clear e1 hown1 hg1
  generalize w.heap.size + 1 = G at *
  have hr1 := hr.below hb1
  obtain ⟨w2, hrun, hw2, hg2⟩ := copy_mid (P := Try.prog) w1 23 5 3 Try.underlying23 hsz (off := 0) (m := zs.length + (m + 12)) (cap := zs.length + (m + 12)) (c := c) hw1 hr1 (by rw [c8_length]; omega) (by simp [c8]) (c8_one zs) (c8_length zs).symm (some ⟨G, 0, none⟩) (fun _ => rfl)
  have hb2 := hb1.grown hg2 hb1.size (fun k hk => by cases hk; exact hG)
  have hx2 := hx1.grown hg2 (by simp; exact hne)
  rw [c8_length, ← c8_take, ← c8_drop, ← c8_append, ← c8_append, lay_mid (P := []) (off := 0) (n := zs.length) rfl (by simp), List.nil_append] at hw2
  clear hw1 hr1 hx1 hb1 hbx hwx
  have hc1 := hx2.cell 1
  have hc0 := hx2.cell 0
  have hcg : w2.cell? ⟨G, zs.length, none⟩ = some (.int .u8 0) := by
    rw [hw2.cell zs.length]
    simp [c8]
  have hfg := hw2.frozen zs.length
  have hp3 := hw2.put zs.length (.int .u8 k)
  rw [c8_set, show (zs ++ List.replicate (m + 12) (0 : Int)).set zs.length k = zs ++ ([k] ++ (List.replicate 3 0 ++ List.replicate (m + 8) 0)) by
    rw [List.set_append_right _ _ (Nat.le_refl _), Nat.sub_self, show m + 12 = 3 + (m + 8) + 1 by omega, List.replicate_succ, ← List.replicate_append_replicate]
    rfl] at hp3
  have hg3 : w1.grownBy (w2.setCell ⟨G, zs.length, none⟩ (.int .u8 k)) (some G) := Only.put hg2 _ _
  have hb3 : Below w.heap.size w (w2.setCell ⟨G, zs.length, none⟩ (.int .u8 k)) := hb2.setCell (p := ⟨G, zs.length, none⟩) hG _
  have hx3 : Whole (w2.setCell ⟨G, zs.length, none⟩ (.int .u8 k)) w.heap.size 28 #[.int .u8 k, .slice A' m c'] := hx2.far (p := ⟨G, zs.length, none⟩) hne _
  go_wp2
  clear hcg hfg hc0 hc1 hx2 hw2 hg2 hb2
  generalize w2.setCell ⟨G, zs.length, none⟩ (.int .u8 k) = w3 at *
  have hc1 := hx3.cell 1
  go_still_tail 6, (by kernel_rfl)
  change wpList _ _ _ _ _ w3.drew
  go_wp2_with fail
  refine (fput_any G (zs.length + 1) 3 3 m _ w3.drew (by omega) (by omega) (by simp; omega) (by simp; omega) hp3).mono ?_
  rintro e w4 ⟨rfl, hw4, hg4⟩
  have hp4 : Whole w4 G 5 (c8 (zs ++ (hd4 k m ++ (List.replicate 4 0 ++ List.replicate (m + 4) 0)))).toArray := by
    rw [show zs ++ ([k] ++ (List.replicate 3 (0 : Int) ++ List.replicate (m + 8) 0)) = (zs ++ [k]) ++ (List.replicate 3 0 ++ (List.replicate 4 0 ++ List.replicate (m + 4) 0)) by
      rw [← rep_split 4 (m + 4), show 4 + (m + 4) = m + 8 by omega]; simp, lay_mid (by simp) (by simp)] at hw4
    simpa [hd4] using hw4
  have hb4 := hb3.drew.grown hg4 (by have := hb3.size; exact this) (fun q hq => by cases hq; exact hG)
  have hx4 : Whole w4 w.heap.size 28 #[.int .u8 k, .slice A' m c'] := hx3.drew.grown hg4 (by simp; exact hne)
  clear hw4 hg4 hp3 hg3 hb3 hx3 hc1
  have hS := sum_any (some ⟨G, zs.length, none⟩) (hd4 k m) 4 w4.heap.size w4 (by rw [hd4_length]; omega) (hd4_byt hk _) (hp4.mid rfl)
  rw [hd4_length] at hS
  change Calls _ _ _ _ fun e w' => e = .returned (.int .u32 (hsum k m : Nat)) ∧ w' = w4 at hS
  have hsl : hsum k m < 4294967296 := mor_lt _ _
  have HSM := Lib.hid (show mor 0 (hd4 k m) = hsum k m from rfl)
  generalize hSg : hsum k m = S at *
  go_wp2_with fail
  refine hS.mono ?_
  rintro e w5 ⟨rfl, rfl⟩
  rw [show zs ++ (hd4 k m ++ (List.replicate 4 (0 : Int) ++ List.replicate (m + 4) 0)) = (zs ++ hd4 k m) ++ (List.replicate 4 0 ++ (List.replicate m 0 ++ List.replicate 4 0)) by
    rw [← rep_split m 4]; simp] at hp4
  go_wp2_with fail
  refine (fput_any G (zs.length + 4) 4 4 S _ w5 hsl (by omega) (by simp [hd4_length]; omega) (by simp [hd4_length]; omega) hp4).mono ?_
  rintro e w6 ⟨rfl, hw6, hg6⟩
  rw [lay_mid (by simp [hd4_length]) (by simp)] at hw6
  have hb6 := hb4.grown hg6 hb4.size (fun q hq => by cases hq; exact hG)
  have hx6 : Whole w6 w.heap.size 28 #[.int .u8 k, .slice A' m c'] := hx4.grown hg6 (by simp; exact hne)
  clear hp4 hg6 hb4 hx4 hS
  have hc1 := hx6.cell 1
  have hr6 : Rds w6.drew w.heap.size A' (c8 body) := hr'.below hb6.drew
  go_wp2
  go_still_tail 6, (by kernel_rfl)
  change wpList _ _ _ _ _ w6.drew
  have hw6' : Whole w6.drew G 5 (c8 (zs ++ hd4 k m ++ (le 4 S ++ (List.replicate m 0 ++ List.replicate 4 0)))).toArray := hw6
  have hx6' : Whole w6.drew w.heap.size 28 #[.int .u8 k, .slice A' m c'] := hx6
  have hb6' : Below w.heap.size w w6.drew := hb6.drew
  clear hw6 hx6 hb6 hc1
  generalize w6.drew = w7 at *
  rw [show zs ++ hd4 k m ++ (le 4 S ++ (List.replicate m (0 : Int) ++ List.replicate 4 0)) = (zs ++ hd4 k m ++ le 4 S) ++ (List.replicate m 0 ++ List.replicate 4 0) by simp] at hw6'
  obtain ⟨w8, hrun8, hw8, hg8⟩ := copy_mid (P := Try.prog) w7 23 5 3 Try.underlying23 hsz (off := zs.length + 8) (m := m) (cap := m) (c := c') hw6' hr6 (by rw [c8_length]; omega) (by simp [c8, hd4_length, le_length]; omega) (c8_one body) ((c8_length body).trans hbm).symm (if m = 0 then some ⟨G, zs.length, none⟩ else some ⟨G, zs.length + 8, none⟩) (fun h => if_neg (fun h2 => h (List.eq_nil_of_length_eq_zero (by rw [c8_length, hbm]; exact h2))))
  generalize (if m = 0 then some (⟨G, zs.length, none⟩ : Addr) else some ⟨G, zs.length + 8, none⟩) = D at *
  rw [c8_length, ← c8_take, ← c8_drop, ← c8_append, ← c8_append, lay_mid (by simp [hd4_length, le_length]) (by simp [hbm])] at hw8
  have hb8 := hb6'.grown hg8 hb6'.size (fun q hq => by cases hq; exact hG)
  have hx8 : Whole w8 w.heap.size 28 #[.int .u8 k, .slice A' m c'] := hx6'.grown hg8 (by simp; exact hne)
  go_wp2
  clear hw6' hg8 hb6' hx6' hrun8 hr6
  have hc1 := hx8.cell 1
  have hr8 : Rds w8.drew w.heap.size A' (c8 body) := hr'.below hb8.drew
  have hMo := more_any S A' body c' w.heap.size w8.drew hsl (by omega) hzb hr8
  rw [hbm] at hMo
  have hml := mor_lt S body
  refine wp_region_still_tail 9 (by kernel_rfl) (by kernel_rfl) ?_
  simp only [List.take_succ_cons, List.take_zero, List.drop_succ_cons, List.drop_zero]
  repeat still_step
  still_call hMo
  refine wpStill_nil ?_
  change wpList _ _ _ _ _ w8.drew
  go_wp2_with fail
  have hw9 : Whole w8.drew G 5 (c8 ((zs ++ hd4 k m ++ le 4 S ++ body) ++ (List.replicate 4 0 ++ []))).toArray := by
    have h : Whole w8.drew G 5 (c8 (zs ++ hd4 k m ++ le 4 S ++ (body ++ List.replicate 4 0))).toArray := hw8
    rw [List.append_nil, List.append_assoc _ body]
    exact h
  refine (fput_any G (zs.length + (8 + m)) 4 4 (mor S body) _ w8.drew hml (by omega) (by simp [hd4_length, le_length, hbm]; omega) (by simp [hd4_length, le_length, hbm]; omega) hw9).mono ?_
  rintro e w9 ⟨rfl, hw10, hg9⟩
  rw [lay_mid (by simp [hd4_length, le_length, hbm]; omega) (by simp)] at hw10
  have hb10 := hb8.drew.grown hg9 hb8.drew.size (fun q hq => by cases hq; exact hG)
  rw [show zs ++ hd4 k m ++ le 4 S ++ body ++ (le 4 (mor S body) ++ []) = zs ++ fby ⟨k, body⟩ by
    unfold fby
    simp only [hbm, hSg, List.append_nil, List.append_assoc]] at hw10
  have HW10 := Lib.hid hw10
  clear hw10 hw9 hg9 hw8 hMo hr8 hx8
  go_wp2
  go_ret2
  exact ⟨G, rfl, HW10.out, hG, hb10⟩

end Go.Proofs.Ytbmllljieoeihaa
