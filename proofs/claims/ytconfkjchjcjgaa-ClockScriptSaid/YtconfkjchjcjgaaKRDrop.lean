/- The document's Drop, Left. -/
import Derived.Test.YtconfkjchjcjgaaKRw
import Derived.IntWalk
namespace Go.Proofs.Ytconfkjchjcjgaa
open Go.RowKit
set_option linter.unusedVariables false

/-- the first one of a name -/
theorem getL_at {L : List It} {s : ByteArray} {k : Nat} (hk : k < L.length) (h : L[k].nm = s) (hno : ∀ j (hj : j < L.length), j < k → L[j].nm ≠ s) : getL L s = some L[k] ∧ (Nod L → rmv s L = L.take k ++ L.drop (k + 1)) := by
  have hsplit : L = L.take k ++ L[k] :: L.drop (k + 1) := by rw [List.getElem_cons_drop, List.take_append_drop]
  have htk : ∀ y ∈ L.take k, y.nm ≠ s := fun y hy => by
    obtain ⟨j, hj, rfl⟩ := List.getElem_of_mem hy
    rw [List.length_take] at hj
    rw [List.getElem_take]
    exact hno j (by omega) (by omega)
  constructor
  · unfold getL
    rw [List.find?_eq_some_iff_append]
    exact ⟨by simpa using h, L.take k, L.drop (k + 1), hsplit, fun y hy => by simpa using htk y hy⟩
  · intro hn
    have hdr : ∀ y ∈ L.drop (k + 1), y.nm ≠ s := fun y hy e => by
      obtain ⟨j, hj, rfl⟩ := List.getElem_of_mem hy
      rw [List.length_drop] at hj
      rw [List.getElem_drop] at e
      have := List.pairwise_iff_getElem.1 hn k (k + 1 + j) hk (by omega) (by omega)
      exact this (by rw [h, e])
    calc rmv s L = rmv s (L.take k ++ L[k] :: L.drop (k + 1)) := by rw [← hsplit]
      _ = L.take k ++ L.drop (k + 1) := by
        unfold rmv
        rw [List.filter_append, List.filter_cons_of_neg (by simpa using h)]
        congr 1
        · exact List.filter_eq_self.2 fun y hy => by simpa using htk y hy
        · exact List.filter_eq_self.2 fun y hy => by simpa using hdr y hy
theorem getL_no {L : List It} {s : ByteArray} (hno : ∀ j (hj : j < L.length), L[j].nm ≠ s) : getL L s = none := by
  unfold getL
  refine List.find?_eq_none.2 fun y hy => ?_
  obtain ⟨j, hj, rfl⟩ := List.getElem_of_mem hy
  simpa using hno j hj

section
variable {w : World} {R : Nat → Prop} {x n c : Nat} {A : Option Addr} {T : Int} {L : List It}
/-- what Left answers -/
def leftV (L : List It) (T : Int) (s : ByteArray) : Int := match getL L s with | none => 0 | some y => y.at_ - T
def leftB (L : List It) (s : ByteArray) : Bool := (getL L s).isSome
set_option maxHeartbeats 4000000 in
set_option maxRecDepth 100000 in
theorem rleft_any (h : Rw w R x T L) (s : ByteArray) (hT : 0 ≤ T ∧ T ≤ 4611686018427387904) (hat : ∀ y ∈ L, 0 ≤ y.at_ ∧ y.at_ ≤ 4611686018427387904) :
    Calls Try.prog 28 #[.pointer (some ⟨x, 0, none⟩), .string s] w fun e w' => e = .returned (.tuple #[.int .i64 (leftV L T s), .bool (leftB L s)]) ∧ Below w.heap.size w w' := by
  obtain ⟨A, n, c, h⟩ := h
  have c0 := h.c0
  have c1 := h.c1
  have hn63 : (n : Int) ≤ 1000000 := by have := h.few; omega
  have HAT := Lib.hid hat
  have H := Lib.hid h
  clear h hat
  go_enter Try.func28, Try.ntmps28
  go_wp2
  go_loop [6] (fun i => ∃ k : Nat, k ≤ n ∧ i = .int .i64 k ∧ ∀ j (hj : j < L.length), j < k → L[j].nm ≠ s) (fun i => n - (intOf i).toNat)
  case atStart => exact ⟨0, by omega, rfl, fun j _ hj => absurd hj (Nat.not_lt_zero j)⟩
  case round =>
    obtain ⟨k, hk, rfl, hno⟩ := hrel
    have HNO := Lib.hid hno
    clear hno
    by_cases hlt : k < n
    · have hkL : k < L.length := by have := H.out.len; omega
      obtain ⟨ad, rfl, hc1, hc2⟩ := H.out.at_ hlt
      obtain ⟨y, hy⟩ : ∃ y, L[k] = y := ⟨_, rfl⟩
      have hyb := HAT.out L[k] (List.getElem_mem _)
      rw [hy] at hc1 hc2 hyb
      obtain ⟨nm, hnm⟩ : ∃ nm, y.nm = nm := ⟨_, rfl⟩
      obtain ⟨yt, hyt⟩ : ∃ t, y.at_ = t := ⟨_, rfl⟩
      rw [hnm] at hc1
      rw [hyt] at hc2 hyb
      have HY := Lib.hid hy
      have HNM := Lib.hid hnm
      have HYT := Lib.hid hyt
      clear hy hnm hyt
      by_cases he : nm = s
      · have hg := (getL_at hkL (by rw [HY.out, HNM.out, he]) HNO.out).1
        have hv : leftV L T s = yt - T := by unfold leftV; rw [hg, HY.out]; show y.at_ - T = _; rw [HYT.out]
        have hb : leftB L s = true := by unfold leftB; rw [hg]; rfl
        have hq : (nm.toList == s.toList) = true := by rw [he]; simp
        have hq2 : nm.toList = s.toList := by rw [he]
        have HV := Lib.hid hv
        have HBB := Lib.hid hb
        clear hg hv hb he
        go_wp2
        go_quiet (fail)
        go_wp2
        go_returns
        exact ⟨by rw [HV.out, HBB.out]; rfl, bDrewN (Below.refl _ _) _⟩
      · have hq : (nm.toList == s.toList) = false := by
          rw [lst_toList, lst_toList]
          simpa using fun e => he (lst_inj e)
        have hq2 : ¬ nm.toList = s.toList := by simpa using hq
        have HE := Lib.hid he
        clear he
        go_wp2
        go_round
        case rel =>
          refine ⟨k + 1, by omega, by go_num, fun j hj hjk => ?_⟩
          rcases Nat.lt_or_ge j k with q | q
          · exact HNO.out j hj q
          · obtain rfl : j = k := by omega
            rw [HY.out, HNM.out]; exact HE.out
        case measure => simp [intOf]; omega
    · have hg := getL_no (L := L) (s := s) fun j hj => HNO.out j hj (by have := H.out.len; omega)
      have hv : leftV L T s = 0 := by unfold leftV; rw [hg]
      have hb : leftB L s = false := by unfold leftB; rw [hg]; rfl
      have HV := Lib.hid hv
      have HBB := Lib.hid hb
      clear hg hv hb
      go_wp2
      go_returns
      exact ⟨by rw [HV.out, HBB.out]; rfl, Below.refl _ _⟩

/-- what Drop answers -/
def dropE (L : List It) (s : ByteArray) : Int := match getL L s with | none => 6 | some _ => 0
set_option maxHeartbeats 8000000 in
set_option maxRecDepth 100000 in
theorem rdrop_any (h : Rw w R x T L) (hnod : Nod L) (s : ByteArray) :
    Calls Try.prog 27 #[.pointer (some ⟨x, 0, none⟩), .string s] w fun e w' => e = .returned (.int .i64 (dropE L s)) ∧ Rw w' (More R w w') x T (rmv s L) ∧ Outs (fun k => k = x) w w' := by
  obtain ⟨i0, hi, hz0, hz1, hz2⟩ := info_parts infoEnd
  obtain ⟨A, n, c, h⟩ := h
  have c0 := h.c0
  have c1 := h.c1
  have f1 := h.top.frozen 1
  have hx := h.lt x h.sx
  have hn63 : (n : Int) ≤ 1000000 := by have := h.few; omega
  have hnc := h.cap
  have hcm := h.cmax
  have hA0 := h.nil_
  have H := Lib.hid h
  have HND := Lib.hid hnod
  clear h hnod
  go_enter Try.func27, Try.ntmps27
  go_wp2
  go_loop [5] (fun i => ∃ k : Nat, k ≤ n ∧ i = .int .i64 k ∧ ∀ j (hj : j < L.length), j < k → L[j].nm ≠ s) (fun i => n - (intOf i).toNat)
  case atStart => exact ⟨0, by omega, rfl, fun j _ hj => absurd hj (Nat.not_lt_zero j)⟩
  case round =>
    obtain ⟨k, hk, rfl, hno⟩ := hrel
    have HNO := Lib.hid hno
    clear hno
    by_cases hlt : k < n
    · have hkL : k < L.length := by have := H.out.len; omega
      obtain ⟨ad, hA, hc1, hc2⟩ := H.out.at_ hlt
      obtain ⟨y, hy⟩ : ∃ y, L[k] = y := ⟨_, rfl⟩
      rw [hy] at hc1 hc2
      obtain ⟨nm, hnm⟩ : ∃ nm, y.nm = nm := ⟨_, rfl⟩
      rw [hnm] at hc1
      have HY := Lib.hid hy
      have HNM := Lib.hid hnm
      clear hy hnm
      subst hA
      by_cases he : nm = s
      · obtain ⟨hg, hrm⟩ := getL_at hkL (by rw [HY.out, HNM.out, he]) HNO.out
        have hv : dropE L s = 0 := by unfold dropE; rw [hg]
        have hrm2 := hrm HND.out
        have hq : (nm.toList == s.toList) = true := by rw [he]; simp
        have hq2 : nm.toList = s.toList := by rw [he]
        have HV := Lib.hid hv
        have HRM := Lib.hid hrm2
        clear hg hrm hv he hrm2
        go_wp2
        have hlen : (cE L).length = n * 2 := by rw [cE_length, H.out.len]
        have r1 : Rds w w.heap.size (some ad) (cE (L.take k)) := by rw [cE_take]; exact H.out.rds.take _
        have r2 : Rds w w.heap.size (if c = k + 1 then some ad else (some ad).map (·.add ((k + 1) * 2))) (cE (L.drop (k + 1))) := by rw [cE_drop]; exact rowed_drop2 H.out.rds hnc hlen
        have hlaid := fun (w9 : World) (u : Value) (m : Nat) (h9 : Below w.heap.size w w9) (hown : w9.ownsRow w.heap.size 80 2 u m (cE (L.take k ++ L.drop (k + 1)))) (hm : m ≤ 1000000) =>
          H.out.laid (w1 := w) (L' := L.take k ++ L.drop (k + 1)) (Below.refl _ _) (Nat.le_refl _) (Nat.le_refl _) h9 hown hm
        have HL := Lib.hid hlaid
        have ho1 := cE_one (L.take k)
        have ho2 := cE_one (L.drop (k + 1))
        have hl1 : (cE (L.take k)).length = k * 2 := by rw [cE_length, List.length_take]; omega
        have hl2 : (cE (L.drop (k + 1))).length = (n - (k + 1)) * 2 := by rw [cE_length, List.length_drop, H.out.len]
        have HC := Lib.hid (cE_append (L.take k) (L.drop (k + 1)))
        have hcm63 : (c : Int) ≤ 9223372036854775807 := by unfold maxLen at hcm; omega
        have hkc : k ≤ c := by omega
        have hkn0 : (0 : Int) ≤ (k : Int) + 1 := by omega
        have hkn1 : (k : Int) + 1 ≤ n := by omega
        have hkn2 : ((k : Int) + 1).toNat = k + 1 := by omega
        have hw1 : IntKind.i64.wrap ((k : Int) + 1) = (k : Int) + 1 := IntWalk.i64_in _ (by omega)
        have hA1 : (some ad : Option Addr) = none → k = 0 ∧ c = 0 := fun e => by cases e
        obtain ⟨A2, hA2e⟩ : ∃ A2, A2 = if c = k + 1 then some ad else some (ad.add ((k + 1) * 2)) := ⟨_, rfl⟩
        have hA2 : A2 = none → n - (k + 1) = 0 ∧ c - (k + 1) = 0 := fun e => by
          rw [hA2e] at e
          split at e <;> cases e
        replace r2 : Rds w w.heap.size (if c = k + 1 then some ad else some (ad.add ((k + 1) * 2))) (cE (L.drop (k + 1))) := r2
        rw [← hA2e] at r2
        have HA2 := Lib.hid hA2e
        have hb14 : Below w.heap.size w (w.alloc (.cells #[] 80)).drew := ((Below.refl _ w).alloc (Nat.le_refl _) _).drew
        have hown14 : (w.alloc (.cells #[] 80)).drew.ownsRow w.heap.size 80 2 (.slice (some ⟨w.heap.size, 0, none⟩) 0 0) 0 [] := World.ownsRow_made (base := w.heap.size) (e := 80) (size := 2) w #[] 0 (Nat.le_refl _) (by unfold maxLen; omega) rfl
        have hr14 := r1.below hb14
        have hB14 := hb14.size
        clear hlaid hlen hA0 hc1 hc2 hA2e
        refine wp_region_G 19 (fun w' => w'.cell? ⟨x, 1, none⟩ = some (.slice (some ad) n c) ∧ w'.frozen? ⟨x, 1, none⟩ = false ∧ Below w.heap.size w w') (by kernel_rfl) (by kernel_rfl) (keepS c1 f1 hx (Below.refl _ w).drew) (fun hSS hst => ?_)
        refine wpAnyG_take (i := 0) (v := ?_) rfl (by kernel_rfl) hst (by kernel_rfl) (by kernel_rfl) (fun _ _ _ h => h) hSS (Or.inl ⟨by rfl, ?_⟩) (fun hst2 => ?_)
        rotate_left
        · (intro w hSw; (try dsimp only at hSw); go_simp; try (with_reducible rfl))
        clear hst; have hst := hst2; clear hst2
        try simp only [Act.put, List.setIfInBounds_toArray, List.set_cons_zero, List.set_cons_succ]
        refine wpAnyG_take (i := 2) (v := ?_) rfl (by kernel_rfl) hst (by kernel_rfl) (by kernel_rfl) (fun _ _ _ h => h) hSS (Or.inl ⟨by rfl, ?_⟩) (fun hst2 => ?_)
        rotate_left
        · (intro w hSw; (try dsimp only at hSw); go_simp; try (with_reducible rfl))
        clear hst; have hst := hst2; clear hst2
        try simp only [Act.put, List.setIfInBounds_toArray, List.set_cons_zero, List.set_cons_succ]
        refine wpAnyG_take (i := 3) (v := ?_) rfl (by kernel_rfl) hst (by kernel_rfl) (by kernel_rfl) (fun _ _ _ h => h) hSS (Or.inl ⟨by rfl, ?_⟩) (fun hst2 => ?_)
        rotate_left
        · (intro w hSw; (try dsimp only at hSw); go_simp; try (with_reducible rfl))
        clear hst; have hst := hst2; clear hst2
        try simp only [Act.put, List.setIfInBounds_toArray, List.set_cons_zero, List.set_cons_succ]
        refine wpAnyG_take (i := 4) (v := ?_) rfl (by kernel_rfl) hst (by kernel_rfl) (by kernel_rfl) (fun _ _ _ h => h) hSS (Or.inl ⟨by rfl, ?_⟩) (fun hst2 => ?_)
        rotate_left
        · (intro w hSw; (try dsimp only at hSw); go_simp; try (with_reducible rfl))
        clear hst; have hst := hst2; clear hst2
        try simp only [Act.put, List.setIfInBounds_toArray, List.set_cons_zero, List.set_cons_succ]
        refine wpAnyG_take (i := 5) (v := ?_) rfl (by kernel_rfl) hst (by kernel_rfl) (by kernel_rfl) (fun _ _ _ h => h) hSS (Or.inl ⟨by rfl, ?_⟩) (fun hst2 => ?_)
        rotate_left
        · (intro w hSw; (try dsimp only at hSw); go_simp; try (with_reducible rfl))
        clear hst; have hst := hst2; clear hst2
        try simp only [Act.put, List.setIfInBounds_toArray, List.set_cons_zero, List.set_cons_succ]
        refine wpAnyG_take (i := 6) (v := ?_) rfl (by kernel_rfl) hst (by kernel_rfl) (by kernel_rfl) (fun _ _ _ h => h) hSS (Or.inl ⟨by rfl, ?_⟩) (fun hst2 => ?_)
        rotate_left
        · (intro w hSw; (try dsimp only at hSw); go_simp; try (with_reducible rfl))
        clear hst; have hst := hst2; clear hst2
        try simp only [Act.put, List.setIfInBounds_toArray, List.set_cons_zero, List.set_cons_succ]
        refine wpAnyG_take (i := 7) (v := ?_) rfl (by kernel_rfl) hst (by kernel_rfl) (by kernel_rfl) (fun _ _ _ h => h) hSS (Or.inl ⟨by rfl, ?_⟩) (fun hst2 => ?_)
        rotate_left
        · (intro w hSw; (try dsimp only at hSw); go_simp; try (with_reducible rfl))
        clear hst; have hst := hst2; clear hst2
        try simp only [Act.put, List.setIfInBounds_toArray, List.set_cons_zero, List.set_cons_succ]
        refine wpAnyG_take (i := 9) (v := ?_) rfl (by kernel_rfl) hst (by kernel_rfl) (by kernel_rfl) (fun _ _ _ h => h) hSS (Or.inl ⟨by rfl, ?_⟩) (fun hst2 => ?_)
        rotate_left
        · (intro w hSw; (try dsimp only at hSw); go_simp; try (with_reducible rfl))
        clear hst; have hst := hst2; clear hst2
        try simp only [Act.put, List.setIfInBounds_toArray, List.set_cons_zero, List.set_cons_succ]
        refine wpAnyG_take (i := 10) (v := ?_) rfl (by kernel_rfl) hst (by kernel_rfl) (by kernel_rfl) (fun _ _ _ h => h) hSS (Or.inl ⟨by rfl, ?_⟩) (fun hst2 => ?_)
        rotate_left
        · (intro w hSw; (try dsimp only at hSw); go_simp; try (with_reducible rfl))
        clear hst; have hst := hst2; clear hst2
        try simp only [Act.put, List.setIfInBounds_toArray, List.set_cons_zero, List.set_cons_succ]
        refine wpAnyG_take (i := 11) (v := ?_) rfl (by kernel_rfl) hst (by kernel_rfl) (by kernel_rfl) (fun _ _ _ h => h) hSS (Or.inl ⟨by rfl, ?_⟩) (fun hst2 => ?_)
        rotate_left
        · (intro w hSw; (try dsimp only at hSw); go_simp; try (with_reducible rfl))
        clear hst; have hst := hst2; clear hst2
        try simp only [Act.put, List.setIfInBounds_toArray, List.set_cons_zero, List.set_cons_succ]
        refine wpAnyG_take (i := 12) (v := ?_) rfl (by kernel_rfl) hst (by kernel_rfl) (by kernel_rfl) (fun _ _ _ h => h) hSS (Or.inl ⟨by rfl, ?_⟩) (fun hst2 => ?_)
        rotate_left
        · (intro w hSw; (try dsimp only at hSw); go_simp; try (with_reducible rfl))
        clear hst; have hst := hst2; clear hst2
        try simp only [Act.put, List.setIfInBounds_toArray, List.set_cons_zero, List.set_cons_succ]
        refine wpAnyG_take (i := 13) (v := ?_) rfl (by kernel_rfl) hst (by kernel_rfl) (by kernel_rfl) (fun _ _ _ h => h) hSS (Or.inl ⟨by rfl, ?_⟩) (fun hst2 => ?_)
        rotate_left
        · (intro w hSw; (try dsimp only at hSw); go_simp; try (with_reducible rfl))
        clear hst; have hst := hst2; clear hst2
        try simp only [Act.put, List.setIfInBounds_toArray, List.set_cons_zero, List.set_cons_succ]
        refine wpAnyG_take (i := 14) (v := ?_) rfl (by kernel_rfl) hst (by kernel_rfl) (by kernel_rfl) (fun _ _ _ h => h) hSS (Or.inl ⟨by rfl, ?_⟩) (fun hst2 => ?_)
        rotate_left
        · (intro w hSw; (try dsimp only at hSw); go_simp; try (with_reducible rfl))
        clear hst; have hst := hst2; clear hst2
        try simp only [Act.put, List.setIfInBounds_toArray, List.set_cons_zero, List.set_cons_succ]
        refine wpAnyG_take (i := 15) (v := ?_) rfl (by kernel_rfl) hst (by kernel_rfl) (by kernel_rfl) (fun _ _ _ h => h) hSS (Or.inl ⟨by rfl, ?_⟩) (fun hst2 => ?_)
        rotate_left
        · (intro w hSw; (try dsimp only at hSw); go_simp; try (with_reducible rfl))
        clear hst; have hst := hst2; clear hst2
        try simp only [Act.put, List.setIfInBounds_toArray, List.set_cons_zero, List.set_cons_succ]
        try rw [← HA2.out]
        refine wpAnyG_one (i := 1) (by kernel_rfl) rfl (by kernel_rfl) hst (fun K hK => ?_)
        go_simp
        refine hK.out _ _ (keepS c1 f1 hx hb14) (fun hSS2 hst2 => ?_)
        clear hst hK K hSS
        have hst := hst2
        have hSS := hSS2
        clear hst2 hSS2
        try simp only [Act.put, List.setIfInBounds_toArray, List.set_cons_zero, List.set_cons_succ]
        refine wpAnyG_one (i := 8) (by kernel_rfl) rfl (by kernel_rfl) hst (fun K hK => ?_)
        refine step_app_wide rfl (.tmp 26) (.tmp 32) 46 rfl 80 i0 _ 2 24 rfl hi hz0 hz1 hz2 rfl (by decide) w.heap.size (.slice (some ⟨w.heap.size, 0, none⟩) 0 0) 0 [] rfl hown14 (some ad) k c w.heap.size (cE (L.take k)) rfl hl1 hr14 hA1 ho1 (by unfold maxLen; omega) (by omega) hB14 ?_
        intro v7 w7 hown7 hg7 hb7 _
        have hb7' := hb14.trans hb7
        refine hK.out _ _ (keepS c1 f1 hx hb7') (fun hSS2 hst2 => ?_)
        clear hst hK K hSS
        have hst := hst2
        have hSS := hSS2
        clear hst2 hSS2
        try simp only [Act.put, List.setIfInBounds_toArray, List.set_cons_zero, List.set_cons_succ]
        have hr7 := r2.below hb7'
        have hB7 := hb7'.size
        clear hg7 hb7 hr14 hown14 hb14 hB14
        refine wpAnyG_one (i := 16) (by kernel_rfl) rfl (by kernel_rfl) hst (fun K hK => ?_)
        refine step_app_wide rfl (.tmp 33) (.tmp 40) 46 rfl 80 i0 _ 2 24 rfl hi hz0 hz1 hz2 rfl (by decide) w.heap.size v7 (0 + k) ([] ++ cE (L.take k)) rfl hown7 A2 (n - (k + 1)) (c - (k + 1)) w.heap.size (cE (L.drop (k + 1))) rfl hl2 hr7 hA2 ho2 (by unfold maxLen; omega) (by omega) hB7 ?_
        intro v8 w8 hown8 hg8 hb8 _
        have hb8' := hb7'.trans hb8
        have hS8 := keepS c1 f1 hx hb8'
        refine hK.out _ _ hS8 (fun hSS2 hst2 => ?_)
        clear hst hK K hSS
        have hst := hst2
        have hSS := hSS2
        clear hst2 hSS2
        try simp only [Act.put, List.setIfInBounds_toArray, List.set_cons_zero, List.set_cons_succ]
        rw [List.nil_append, ← HC.out, Nat.zero_add] at hown8
        have hfin := HL.out w8 v8 _ hb8' hown8 (by omega)
        have HF := Lib.hid hfin
        obtain ⟨A8, cc8, rfl⟩ := own_open2 hown8
        obtain ⟨c8', f8', _⟩ := hS8
        clear hfin hg8 hb8 hb8' hown8 hown7 hb7' hr7 r1 r2 hl1 hl2 ho1 ho2 c1 f1
        refine wpAnyG_take (i := 17) (v := ?_) rfl (by kernel_rfl) hst (by kernel_rfl) (by kernel_rfl) (fun _ _ _ h => h) hSS (Or.inl ⟨by rfl, ?_⟩) (fun hst2 => ?_)
        rotate_left
        · (intro w hSw; (try dsimp only at hSw); go_simp; try (with_reducible rfl))
        clear hst; have hst := hst2; clear hst2
        try simp only [Act.put, List.setIfInBounds_toArray, List.set_cons_zero, List.set_cons_succ]
        refine wpAnyG_take (i := 18) (v := ?_) rfl (by kernel_rfl) hst (by kernel_rfl) (by kernel_rfl) (fun _ _ _ h => h) hSS (Or.inl ⟨by rfl, ?_⟩) (fun hst2 => ?_)
        rotate_left
        · (intro w hSw; (try dsimp only at hSw); go_simp; try (with_reducible rfl))
        clear hst; have hst := hst2; clear hst2
        try simp only [Act.put, List.setIfInBounds_toArray, List.set_cons_zero, List.set_cons_succ]
        refine wpAnyG_last (i := 19) (by kernel_rfl) rfl (by kernel_rfl) (by kernel_rfl) (fun K hK => ?_)
        go_simp
        refine hK.out _ _ ?_
        clear hK K hst hSS
        go_wp2
        all_goals (
          go_returns
          exact ⟨by rw [HV.out]; rfl, by rw [HRM.out]; exact HF.out.1, HF.out.2⟩)
      · have hq : (nm.toList == s.toList) = false := by
          rw [lst_toList, lst_toList]
          simpa using fun e => he (lst_inj e)
        have hq2 : ¬ nm.toList = s.toList := by simpa using hq
        have HE := Lib.hid he
        clear he
        go_wp2
        go_round
        case rel =>
          refine ⟨k + 1, by omega, by go_num, fun j hj hjk => ?_⟩
          rcases Nat.lt_or_ge j k with q | q
          · exact HNO.out j hj q
          · obtain rfl : j = k := by omega
            rw [HY.out, HNM.out]; exact HE.out
        case measure => simp [intOf]; omega
    · have hg := getL_no (L := L) (s := s) fun j hj => HNO.out j hj (by have := H.out.len; omega)
      have hv : dropE L s = 6 := by unfold dropE; rw [hg]
      have hr : rmv s L = L := rmv_none (getL_none hg)
      have HV := Lib.hid hv
      have HRM := Lib.hid hr
      clear hg hv hr
      go_wp2
      go_ret
      have h' := H.out
      refine ⟨by rw [HV.out]; rfl, ⟨A, n, c, ?_⟩, Outs.refl _ _⟩
      rw [HRM.out]
      exact { h' with
        inR := fun ad hne e => ⟨.inl (h'.inR ad hne e).1, (h'.inR ad hne e).2⟩
        sx := .inl h'.sx
        lt := fun k hk => by
          rcases hk with hk | hk
          · exact h'.lt k hk
          · exact hk.2 }
end
end Go.Proofs.Ytconfkjchjcjgaa
