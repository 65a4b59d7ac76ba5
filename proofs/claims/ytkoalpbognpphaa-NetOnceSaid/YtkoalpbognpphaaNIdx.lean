/- slices.IndexFunc, slices.DeleteFunc over the numbers in flight. -/
import Derived.Test.YtkoalpbognpphaaNPred
import Derived.Lib.SliceRun
namespace Go.Proofs.Ytkoalpbognpphaa
open Go.RowKit Go.Maps Go.Sort
set_option linter.unusedVariables false

theorem grown_of_below {w w' : World} (h : Below w.heap.size w w') : w.grownBy w' none := ⟨h.os, h.tape, h.output, h.size, fun i hi _ => h.block i hi⟩
/-- those that go elsewhere -/
def pdn (es : List (Le × Pl)) (node x : Int) : Bool := !decide (toOf es x = node)
def Known (es : List (Le × Pl)) (zs : List Int) : Prop := ∀ x ∈ zs, (0 ≤ x ∧ x ≤ 18446744073709551615) ∧ ∃ p, pick es x = some p

section
variable {S : Nat → Prop} {b mb : Nat} {es : List (Le × Pl)} {sent ba bn : Nat} {node : Int}
set_option maxHeartbeats 4000000 in
set_option maxRecDepth 100000 in
theorem idx_any {w : World} {g c n : Nat} {zs : List Int} (hn : zs.length = n) (hN : n ≤ 100000) (hk : Known es zs) (hr : SR w g c n w zs.toArray) (h : Pd w S b mb es sent ba bn node) (cap : Nat) :
    Calls Try.prog 47 #[.slice (some ⟨g, 0, none⟩) n cap, .func (.func 44) #[] #[.pointer (some ⟨ba, 0, none⟩), .pointer (some ⟨bn, 0, none⟩)]] w fun e w' =>
      (∃ r : Int, e = .returned (.int .i64 r) ∧ ((r = -1 ∧ ∀ j, j < n → pdn es node zs[j]! = false) ∨ ∃ i : Nat, r = i ∧ i < n ∧ pdn es node zs[i]! = true ∧ ∀ j, j < i → pdn es node zs[j]! = false)) ∧ SR w g c n w' zs.toArray ∧ Pd w' S b mb es sent ba bn node := by
  have HR := Lib.hid hr
  have H := Lib.hid h
  have HN := Lib.hid hn
  have HK := Lib.hid hk
  clear hr h hn hk
  go_enter Try.func47, Try.ntmps47
  go_wp2
  go_loopw [8] (fun vi wr => ∃ k : Nat, vi = .int .i64 k ∧ k ≤ n ∧ SR w g c n wr zs.toArray ∧ Pd wr S b mb es sent ba bn node ∧ ∀ j, j < k → pdn es node zs[j]! = false) (fun vi _ => n - (intOf vi).toNat)
  case atStart => exact ⟨0, rfl, Nat.zero_le _, HR.out, H.out, fun j hj => absurd hj (Nat.not_lt_zero j)⟩
  case round =>
    obtain ⟨k, rfl, hkn, hr, hp, hno⟩ := hrel
    have HR1 := Lib.hid hr
    have HP1 := Lib.hid hp
    have HNO := Lib.hid hno
    by_cases hlt : k < n
    · obtain ⟨x, hx⟩ : ∃ x, x = zs[k]! := ⟨_, rfl⟩
      have hcell : wr.cell? ⟨g, k, none⟩ = some (.int .u64 x) := by
        rw [hr.cell hlt, hx]
        simp [HN.out ▸ hlt]
      have hmem : x ∈ zs := by rw [hx, getElem!_pos zs k (by have := HN.out; omega)]; exact List.getElem_mem _
      obtain ⟨hxr, p, hpp⟩ := HK.out x hmem
      have CT := Lib.hid (pred_any hp x hxr hpp)
      have HX := Lib.hid hx
      clear hr hp hno hx hmem hpp
      go_wp2_with fail
      go_at_call 44
      refine CT.out.mono ?_
      rintro e w2 ⟨rfl, hb⟩
      have HR2 := Lib.hid (HR1.out.grown (grown_of_below hb))
      have HP2 := Lib.hid (HP1.out.go hb)
      clear hb
      cases hd : (!decide (toOf es x = node))
      · have hno2 : ∀ j, j < k + 1 → pdn es node zs[j]! = false := fun j hj => by
          rcases Nat.lt_or_ge j k with q | q
          · exact HNO.out j q
          · obtain rfl : j = k := by omega
            rw [← HX.out]; exact hd
        have HNO2 := Lib.hid hno2
        clear hno2
        go_wp2
        go_roundw
        case rel => exact ⟨k + 1, by go_num, by omega, HR2.out, HP2.out, HNO2.out⟩
        case measure => first | (simp [intOf]; done) | (simp [intOf]; omega)
      · go_wp2
        go_returns
        exact ⟨⟨k, rfl, .inr ⟨k, rfl, hlt, by rw [← HX.out]; exact hd, HNO.out⟩⟩, HR2.out, HP2.out⟩
    · obtain rfl : k = n := by omega
      clear hr hp hno
      go_wp2
      go_returns
      exact ⟨⟨-1, rfl, .inl ⟨rfl, HNO.out⟩⟩, HR1.out, HP1.out⟩

/-- the first m places of a row -/
structure Fst (w0 : World) (g c m : Nat) (w : World) (L : List Int) : Prop where
  gr : w0.grownBy w (some g)
  row : ∃ cur : Array Value, w.heap[g]? = some (.cells cur 25 (0, 0)) ∧ cur.size = c ∧ ∀ k, k < m → cur[k]? = some (.int .u64 L[k]!)
theorem Fst.setCells {w0 : World} {g c m : Nat} {L : List Int} : ∀ (vs : List Value) (o : Nat) (w : World), m ≤ o → Fst w0 g c m w L → Fst w0 g c m (w.setCells g o vs) L
  | [], _, _, _, h => h
  | v :: vs, o, w, ho, h => by
    refine Fst.setCells vs (o + 1) (w.setCell ⟨g, o, none⟩ v) (by omega) ⟨Only.put h.gr o v, ?_⟩
    obtain ⟨cur, h1, h2, h3⟩ := h.row
    refine ⟨cur.setIfInBounds o v, Whole.put (show Whole w g 25 cur from h1) o v, by simp [h2], fun k hk => ?_⟩
    rw [Array.getElem?_setIfInBounds_ne (by omega)]
    exact h3 k hk
theorem outs_cells (g : Nat) : ∀ (vs : List Value) (o : Nat) (w : World), Outs (fun k => k = g) w (w.setCells g o vs)
  | [], _, w => Outs.refl _ w
  | v :: vs, o, w => (outs_put w g o v).same (outs_cells g vs (o + 1) _)
def keepN (es : List (Le × Pl)) (node : Int) (zs : List Int) : List Int := zs.filter fun x => !pdn es node x
theorem keepN_succ (es : List (Le × Pl)) (node : Int) (zs : List Int) {j : Nat} (hj : j < zs.length) : keepN es node (zs.take (j + 1)) = keepN es node (zs.take j) ++ (if pdn es node zs[j]! = true then [] else [zs[j]!]) := by
  unfold keepN
  rw [List.take_add_one, List.getElem?_eq_getElem hj, getElem!_pos zs j hj]
  simp only [Option.toList_some, List.filter_append]
  congr 1
  cases h : pdn es node zs[j] <;> simp [h]
theorem keepN_all {es : List (Le × Pl)} {node : Int} {zs : List Int} : ∀ {j : Nat}, j ≤ zs.length → (∀ k, k < j → pdn es node zs[k]! = false) → keepN es node (zs.take j) = zs.take j
  | 0, _, _ => rfl
  | j + 1, hj, h => by
    rw [keepN_succ es node zs (by omega), keepN_all (by omega) (fun k hk => h k (by omega)), h j (by omega), List.take_add_one, List.getElem?_eq_getElem (by omega), getElem!_pos zs j (by omega)]
    simp

set_option maxHeartbeats 8000000 in
set_option maxRecDepth 100000 in
theorem delF_any {w : World} {B g cap n : Nat} {zs : List Int} (hn : zs.length = n) (hN : n ≤ 100000) (hc : n ≤ cap) (hcap : cap ≤ maxLen) (hk : Known es zs) (hr : SR w g cap n w zs.toArray) (h : Pd w S b mb es sent ba bn node) (hB : B ≤ g) (hgS : ¬ S g) (hga : ba ≠ g) (hgb : bn ≠ g) :
    Calls Try.prog 43 #[.slice (some ⟨g, 0, none⟩) n cap, .func (.func 44) #[] #[.pointer (some ⟨ba, 0, none⟩), .pointer (some ⟨bn, 0, none⟩)]] w fun e w' =>
      ∃ m, e = .returned (.slice (some ⟨g, 0, none⟩) m cap) ∧ m = (keepN es node zs).length ∧ w'.ownsRow B 25 1 (.slice (some ⟨g, 0, none⟩) m cap) m (cU (keepN es node zs)) ∧ Pd w' S b mb es sent ba bn node ∧ w.grownBy w' (some g) := by
  have fin : ∀ {w' : World} {m : Nat}, m = (keepN es node zs).length → m ≤ n → Fst w g cap m w' (keepN es node zs) → w'.ownsRow B 25 1 (.slice (some ⟨g, 0, none⟩) m cap) m (cU (keepN es node zs)) := fun {w' m} hm hmn hf => by
    obtain ⟨cur, h1, h2, h3⟩ := hf.row
    refine ⟨by rw [cU_length, hm, Nat.mul_one], .inr ⟨g, cap, cur, rfl, hB, h1, by omega, hcap, by omega, ?_⟩⟩
    refine List.ext_getElem? fun j => ?_
    rcases Nat.lt_or_ge j m with hj | hj
    · rw [List.getElem?_take_of_lt (by omega), Array.getElem?_toList, h3 j hj]
      have : j < (keepN es node zs).length := by omega
      simp [cU, this]
    · rw [List.getElem?_eq_none (by simp; omega), List.getElem?_eq_none (by rw [cU_length]; omega)]
  have FIN : Hid (∀ (w' : World) (m : Nat), m = (keepN es node zs).length → m ≤ n → Fst w g cap m w' (keepN es node zs) → w'.ownsRow B 25 1 (.slice (some ⟨g, 0, none⟩) m cap) m (cU (keepN es node zs))) := Lib.hid fun _ _ a b c => fin a b c
  have CT := Lib.hid (idx_any hn hN hk hr h cap)
  have HN := Lib.hid hn
  have HK := Lib.hid hk
  clear hr h hn hk fin
  go_enter Try.func43, Try.ntmps43
  go_wp2_with fail
  go_at_call 47
  refine CT.out.mono ?_
  rintro e w1 ⟨⟨r, rfl, hrr⟩, hr1, hp1⟩
  have HR1 := Lib.hid hr1
  have HP1 := Lib.hid hp1
  clear hr1 hp1
  rcases hrr with ⟨rfl, hall⟩ | ⟨i, rfl, hi, hyes, hno⟩
  · have hke : keepN es node zs = zs := by
      have := keepN_all (es := es) (node := node) (zs := zs) (j := n) (by have := HN.out; omega) hall
      rwa [List.take_of_length_le (by have := HN.out; omega)] at this
    have HKE := Lib.hid hke
    clear hall hke
    go_wp2
    go_ret
    refine ⟨n, rfl, by rw [HKE.out, HN.out], FIN.out _ _ (by rw [HKE.out, HN.out]) (Nat.le_refl _) ⟨HR1.out.gr, ?_⟩, HP1.out, HR1.out.gr⟩
    obtain ⟨cur, h1, h2, h3, h4⟩ := HR1.out.row
    refine ⟨cur, h1, h2, fun k hk => ?_⟩
    rw [h4 k hk, HKE.out]
    simp [HN.out ▸ hk]
  · have hne : ((i : Int) == -1) = false := beq_eq_false_iff_ne.2 (by omega)
    have h0 : keepN es node (zs.take (i + 1)) = zs.take i := by
      rw [keepN_succ es node zs (by have := HN.out; omega), keepN_all (by have := HN.out; omega) hno, hyes]
      simp
    have H0 := Lib.hid h0
    clear h0 hyes hno
    go_wp2
    go_loopw [5, 6, 7] (fun v5 v6 v7 wr => ∃ (m j : Nat) (d : Array Int), v5 = .int .i64 m ∧ v6 = .int .i64 j ∧ j ≤ n ∧ m < j ∧ m = (keepN es node (zs.take j)).length ∧ SR w g cap n wr d ∧ Pd wr S b mb es sent ba bn node ∧ (∀ k, k < m → d[k]! = (keepN es node (zs.take j))[k]!) ∧ ∀ k, j ≤ k → k < n → d[k]! = zs[k]!) (fun _ v6 _ _ => n - (intOf v6).toNat)
    case atStart =>
      refine ⟨i, i + 1, zs.toArray, rfl, by go_num, by omega, by omega, ?_, HR1.out, HP1.out, fun k hk => ?_, fun k _ hk => ?_⟩
      · rw [H0.out, List.length_take]; have := HN.out; omega
      · rw [H0.out]
        have := HN.out
        rw [getElem!_pos (zs.take i) k (by rw [List.length_take]; omega), getElem!_pos zs.toArray k (by simp; omega)]
        simp
      · have := HN.out
        simp [show k < zs.length by omega]
    case round =>
      obtain ⟨m, j, d, rfl, rfl, hjn, hmj, hml, hr, hp, hlo, hhi⟩ := hrel
      have HML := Lib.hid hml
      have HR2 := Lib.hid hr
      have HP2 := Lib.hid hp
      have HLO := Lib.hid hlo
      have HHI := Lib.hid hhi
      clear hml hr hp hlo hhi
      by_cases hlt : j < n
      · obtain ⟨x, hx⟩ : ∃ x, x = zs[j]! := ⟨_, rfl⟩
        have hcell : wr.cell? ⟨g, j, none⟩ = some (.int .u64 x) := by
          rw [HR2.out.cell hlt, HHI.out j (Nat.le_refl _) hlt, hx]
        have hmem : x ∈ zs := by rw [hx, getElem!_pos zs j (by have := HN.out; omega)]; exact List.getElem_mem _
        obtain ⟨hxr, p, hpp⟩ := HK.out x hmem
        have CP := Lib.hid (pred_any HP2.out x hxr hpp)
        have hsucc := keepN_succ es node zs (j := j) (by have := HN.out; omega)
        rw [← hx] at hsucc
        have HSU := Lib.hid hsucc
        have HX := Lib.hid hx
        clear hx hmem hpp hsucc
        go_wp2_with fail
        go_at_call 44
        refine CP.out.mono ?_
        rintro e w2 ⟨rfl, hb⟩
        have HR3 := Lib.hid (HR2.out.grown (grown_of_below hb))
        have HP3 := Lib.hid (HP2.out.go hb)
        clear hb hcell
        have hmN : m < n := by omega
        have hcm : w2.cell? ⟨g, m, none⟩ = some (.int .u64 d[m]!) := HR3.out.cell hmN
        have hfm := HR3.out.frozen m
        generalize d[m]! = old at hcm
        cases hd : (!decide (toOf es x = node))
        · -- it stays
          have hsu := HSU.out
          rw [show pdn es node x = false from hd] at hsu
          simp only [Bool.false_eq_true, if_false] at hsu
          have HSU2 := Lib.hid hsu
          clear hsu
          go_wp2
          have hrow : SR w g cap n (w2.setCell ⟨g, m, none⟩ (.int .u64 x)) (d.setIfInBounds m x) := by
            obtain ⟨cur, q1, q2, q3, q4⟩ := HR3.out.row
            refine ⟨Only.put HR3.out.gr m _, by simp [HR3.out.len], _, Whole.put (show Whole w2 g 25 cur from q1) m _, by simp [q2], q3, fun k hk => ?_⟩
            have hsz := HR3.out.len
            by_cases e : k = m
            · subst e
              rw [Array.getElem?_setIfInBounds_self_of_lt (by omega), Sort.getElem!_set_same d k x (by omega)]
            · rw [Array.getElem?_setIfInBounds_ne (Ne.symm e), q4 k hk]
              congr 2
              simp only [getElem!_def, Array.getElem?_setIfInBounds, if_neg (Ne.symm e)]
          have hP4 : Pd (w2.setCell ⟨g, m, none⟩ (.int .u64 x)) S b mb es sent ba bn node := HP3.out.outs (outs_put w2 g m _) (fun i hi e => hgS (e ▸ hi)) (fun e => hga e) (fun e => hgb e)
          have hget : ∀ k, (d.setIfInBounds m x)[k]! = if k = m then x else d[k]! := fun k => by
            have hsz := HR3.out.len
            by_cases e : k = m
            · subst e
              rw [if_pos rfl]; exact Sort.getElem!_set_same d k x (by omega)
            · rw [if_neg e]
              simp only [getElem!_def, Array.getElem?_setIfInBounds, if_neg (Ne.symm e)]
          have hfin : (m + 1 = (keepN es node (zs.take (j + 1))).length) ∧ (∀ k, k < m + 1 → (d.setIfInBounds m x)[k]! = (keepN es node (zs.take (j + 1)))[k]!) ∧ ∀ k, j + 1 ≤ k → k < n → (d.setIfInBounds m x)[k]! = zs[k]! := by
            have hm := HML.out
            refine ⟨by rw [HSU2.out]; simp; omega, fun k hk => ?_, fun k k1 k2 => ?_⟩
            · rw [hget k, HSU2.out]
              by_cases e : k = m
              · subst e
                rw [if_pos rfl, getElem!_pos _ k (by simp; omega)]
                rw [List.getElem_append_right (by omega)]
                simp
              · rw [if_neg e, HLO.out k (by omega), getElem!_pos _ k (by omega), getElem!_pos _ k (by simp; omega), List.getElem_append_left]
            · rw [hget k, if_neg (by omega)]
              exact HHI.out k (by omega) k2
          have HF := Lib.hid hfin
          have HRW := Lib.hid hrow
          have HP4 := Lib.hid hP4
          clear hfin hrow hP4 hget
          go_roundw
          case rel => exact ⟨m + 1, j + 1, _, by go_num, by go_num, by omega, by omega, HF.out.1, HRW.out, HP4.out, HF.out.2.1, HF.out.2.2⟩
          case measure => first | (simp [intOf]; done) | (simp [intOf]; omega)
        · have hsu := HSU.out
          rw [show pdn es node x = true from hd] at hsu
          simp only [if_true, List.append_nil] at hsu
          have HSU2 := Lib.hid hsu
          clear hsu
          go_wp2
          go_roundw
          case rel => exact ⟨m, j + 1, d, rfl, by go_num, by omega, by omega, by rw [HSU2.out]; exact HML.out, HR3.out, HP3.out, fun k hk => by rw [HSU2.out]; exact HLO.out k hk, fun k k1 k2 => HHI.out k (by omega) k2⟩
          case measure => first | (simp [intOf]; done) | (simp [intOf]; omega)
      · obtain rfl : j = n := by omega
        have hall : zs.take j = zs := List.take_of_length_le (by have := HN.out; omega)
        have hcm : ¬ cap = m := by omega
        have hcell : ∀ t, t < j - m → (wr.cell? ⟨g, m + t, none⟩).isSome = true := fun t ht => by rw [HR2.out.cell (by omega)]; rfl
        have hclear := fun ty => Lib.run_clear_slice (P := Try.prog) wr 36 25 ty (.int .u64 0) Try.underlying36 Try.zeroValue25 rfl rfl g m (j - m) (cap - m) (by omega) hcell (fun t _ => HR2.out.frozen (m + t))
        have HALL := Lib.hid hall
        clear hall hcell
        go_wp2
        go_ret
        have hf : Fst w g cap m wr (keepN es node zs) := by
          obtain ⟨cur, q1, q2, q3, q4⟩ := HR2.out.row
          refine ⟨HR2.out.gr, cur, q1, q2, fun k hk => ?_⟩
          rw [q4 k (by omega), HLO.out k hk, HALL.out]
        have hf2 := Fst.setCells (List.replicate (j - m) (.int .u64 0)) m wr (Nat.le_refl _) hf
        exact ⟨m, rfl, by rw [HML.out, HALL.out], FIN.out _ _ (by rw [HML.out, HALL.out]) (by omega) hf2, HP2.out.outs (outs_cells g _ _ _) (fun i hi e => hgS (e ▸ hi)) (fun e => hga e) (fun e => hgb e), hf2.gr⟩
end
end Go.Proofs.Ytkoalpbognpphaa
