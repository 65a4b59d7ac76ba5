/- Several texts, each a section: NIdx, NTo, NFlight, NClear, NDlv, NDbl, Same, NRl. -/
import Derived.Test.YtnleeffajljodaaM05
import Derived.Lib.SliceRun
import Derived.Maps.AppendAt
import Derived.Test.YtnleeffajljodaaM01
section
/- slices.IndexFunc, slices.DeleteFunc over the numbers in flight. -/
namespace Go.Proofs.Ytnleeffajljodaa
open Go.RowKit Go.Maps Go.Sort
set_option linter.unusedVariables false

theorem grown_of_below {w w' : World} (h : Below w.heap.size w w') : w.grownBy w' none := ⟨h.os, h.tape, h.output, h.size, fun i hi _ => h.block i hi⟩
/-- those that go elsewhere -/
def pdn (es : List (Le × Pl)) (node x : Int) : Bool := !decide (toOf es x = node)
def Known (es : List (Le × Pl)) (zs : List Int) : Prop := ∀ x ∈ zs, (0 ≤ x ∧ x ≤ 18446744073709551615) ∧ ∃ p, pick es x = some p

section
variable {S : Nat → Prop} {b mb : Nat} {es : List (Le × Pl)} {sent ba bn : Nat} {node : Int}
set_option maxHeartbeats 4000000 in
set_option maxRecDepth 100000 in
theorem idx_any {w : World} {g c n : Nat} {zs : List Int} (hn : zs.length = n) (hN : n ≤ 100000) (hk : Known es zs) (hr : SR w g c n w zs.toArray) (h : Pd w S b mb es sent ba bn node) (cap : Nat) :
    Calls Try.prog 47 #[.slice (some ⟨g, 0, none⟩) n cap, .func (.func 44) #[] #[.pointer (some ⟨ba, 0, none⟩), .pointer (some ⟨bn, 0, none⟩)]] w fun e w' =>
      (∃ r : Int, e = .returned (.int .i64 r) ∧ ((r = -1 ∧ ∀ j, j < n → pdn es node zs[j]! = false) ∨ ∃ i : Nat, r = i ∧ i < n ∧ pdn es node zs[i]! = true ∧ ∀ j, j < i → pdn es node zs[j]! = false)) ∧ SR w g c n w' zs.toArray ∧ Pd w' S b mb es sent ba bn node := by
  have HR := Lib.hid hr
  have H := Lib.hid h
  have HN := Lib.hid hn
  have HK := Lib.hid hk
  clear hr h hn hk
  go_enter Try.func47, Try.ntmps47
  go_wp2
  go_loopw [8] (fun vi wr => ∃ k : Nat, vi = .int .i64 k ∧ k ≤ n ∧ SR w g c n wr zs.toArray ∧ Pd wr S b mb es sent ba bn node ∧ ∀ j, j < k → pdn es node zs[j]! = false) (fun vi _ => n - (intOf vi).toNat)
  case atStart => exact ⟨0, rfl, Nat.zero_le _, HR.out, H.out, fun j hj => absurd hj (Nat.not_lt_zero j)⟩
  case round =>
    obtain ⟨k, rfl, hkn, hr, hp, hno⟩ := hrel
    have HR1 := Lib.hid hr
    have HP1 := Lib.hid hp
    have HNO := Lib.hid hno
    by_cases hlt : k < n
    · obtain ⟨x, hx⟩ : ∃ x, x = zs[k]! := ⟨_, rfl⟩
      have hcell : wr.cell? ⟨g, k, none⟩ = some (.int .u64 x) := by
        rw [hr.cell hlt, hx]
        simp [HN.out ▸ hlt]
      have hmem : x ∈ zs := by rw [hx, getElem!_pos zs k (by have := HN.out; omega)]; exact List.getElem_mem _
      obtain ⟨hxr, p, hpp⟩ := HK.out x hmem
      have CT := Lib.hid (pred_any hp x hxr hpp)
      have HX := Lib.hid hx
      clear hr hp hno hx hmem hpp
      go_wp2_with fail
      go_at_call 44
      refine CT.out.mono ?_
      rintro e w2 ⟨rfl, hb⟩
      have HR2 := Lib.hid (HR1.out.grown (grown_of_below hb))
      have HP2 := Lib.hid (HP1.out.go hb)
      clear hb
      cases hd : (!decide (toOf es x = node))
      · have hno2 : ∀ j, j < k + 1 → pdn es node zs[j]! = false := fun j hj => by
          rcases Nat.lt_or_ge j k with q | q
          · exact HNO.out j q
          · obtain rfl : j = k := by omega
            rw [← HX.out]; exact hd
        have HNO2 := Lib.hid hno2
        clear hno2
        go_wp2
        go_roundw
        case rel => exact ⟨k + 1, by go_num, by omega, HR2.out, HP2.out, HNO2.out⟩
        case measure => first | (simp [intOf]; done) | (simp [intOf]; omega)
      · go_wp2
        go_returns
        exact ⟨⟨k, rfl, .inr ⟨k, rfl, hlt, by rw [← HX.out]; exact hd, HNO.out⟩⟩, HR2.out, HP2.out⟩
    · obtain rfl : k = n := by omega
      clear hr hp hno
      go_wp2
      go_returns
      exact ⟨⟨-1, rfl, .inl ⟨rfl, HNO.out⟩⟩, HR1.out, HP1.out⟩

/-- the first m places of a row -/
structure Fst (w0 : World) (g c m : Nat) (w : World) (L : List Int) : Prop where
  gr : w0.grownBy w (some g)
  row : ∃ cur : Array Value, w.heap[g]? = some (.cells cur 25 (0, 0)) ∧ cur.size = c ∧ ∀ k, k < m → cur[k]? = some (.int .u64 L[k]!)
theorem Fst.setCells {w0 : World} {g c m : Nat} {L : List Int} : ∀ (vs : List Value) (o : Nat) (w : World), m ≤ o → Fst w0 g c m w L → Fst w0 g c m (w.setCells g o vs) L
  | [], _, _, _, h => h
  | v :: vs, o, w, ho, h => by
    refine Fst.setCells vs (o + 1) (w.setCell ⟨g, o, none⟩ v) (by omega) ⟨Only.put h.gr o v, ?_⟩
    obtain ⟨cur, h1, h2, h3⟩ := h.row
    refine ⟨cur.setIfInBounds o v, Whole.put (show Whole w g 25 cur from h1) o v, by simp [h2], fun k hk => ?_⟩
    rw [Array.getElem?_setIfInBounds_ne (by omega)]
    exact h3 k hk
theorem outs_cells (g : Nat) : ∀ (vs : List Value) (o : Nat) (w : World), Outs (fun k => k = g) w (w.setCells g o vs)
  | [], _, w => Outs.refl _ w
  | v :: vs, o, w => (outs_put w g o v).same (outs_cells g vs (o + 1) _)
def keepN (es : List (Le × Pl)) (node : Int) (zs : List Int) : List Int := zs.filter fun x => !pdn es node x
theorem keepN_succ (es : List (Le × Pl)) (node : Int) (zs : List Int) {j : Nat} (hj : j < zs.length) : keepN es node (zs.take (j + 1)) = keepN es node (zs.take j) ++ (if pdn es node zs[j]! = true then [] else [zs[j]!]) := by
  unfold keepN
  rw [List.take_add_one, List.getElem?_eq_getElem hj, getElem!_pos zs j hj]
  simp only [Option.toList_some, List.filter_append]
  congr 1
  cases h : pdn es node zs[j] <;> simp [h]
theorem keepN_all {es : List (Le × Pl)} {node : Int} {zs : List Int} : ∀ {j : Nat}, j ≤ zs.length → (∀ k, k < j → pdn es node zs[k]! = false) → keepN es node (zs.take j) = zs.take j
  | 0, _, _ => rfl
  | j + 1, hj, h => by
    rw [keepN_succ es node zs (by omega), keepN_all (by omega) (fun k hk => h k (by omega)), h j (by omega), List.take_add_one, List.getElem?_eq_getElem (by omega), getElem!_pos zs j (by omega)]
    simp

set_option maxHeartbeats 8000000 in
set_option maxRecDepth 100000 in
theorem delF_any {w : World} {B g cap n : Nat} {zs : List Int} (hn : zs.length = n) (hN : n ≤ 100000) (hc : n ≤ cap) (hcap : cap ≤ maxLen) (hk : Known es zs) (hr : SR w g cap n w zs.toArray) (h : Pd w S b mb es sent ba bn node) (hB : B ≤ g) (hgS : ¬ S g) (hga : ba ≠ g) (hgb : bn ≠ g) :
    Calls Try.prog 43 #[.slice (some ⟨g, 0, none⟩) n cap, .func (.func 44) #[] #[.pointer (some ⟨ba, 0, none⟩), .pointer (some ⟨bn, 0, none⟩)]] w fun e w' =>
      ∃ m, e = .returned (.slice (some ⟨g, 0, none⟩) m cap) ∧ m = (keepN es node zs).length ∧ w'.ownsRow B 25 1 (.slice (some ⟨g, 0, none⟩) m cap) m (cU (keepN es node zs)) ∧ Pd w' S b mb es sent ba bn node ∧ w.grownBy w' (some g) := by
  have fin : ∀ {w' : World} {m : Nat}, m = (keepN es node zs).length → m ≤ n → Fst w g cap m w' (keepN es node zs) → w'.ownsRow B 25 1 (.slice (some ⟨g, 0, none⟩) m cap) m (cU (keepN es node zs)) := fun {w' m} hm hmn hf => by
    obtain ⟨cur, h1, h2, h3⟩ := hf.row
    refine ⟨by rw [cU_length, hm, Nat.mul_one], .inr ⟨g, cap, cur, rfl, hB, h1, by omega, hcap, by omega, ?_⟩⟩
    refine List.ext_getElem? fun j => ?_
    rcases Nat.lt_or_ge j m with hj | hj
    · rw [List.getElem?_take_of_lt (by omega), Array.getElem?_toList, h3 j hj]
      have : j < (keepN es node zs).length := by omega
      simp [cU, this]
    · rw [List.getElem?_eq_none (by simp; omega), List.getElem?_eq_none (by rw [cU_length]; omega)]
  have FIN : Hid (∀ (w' : World) (m : Nat), m = (keepN es node zs).length → m ≤ n → Fst w g cap m w' (keepN es node zs) → w'.ownsRow B 25 1 (.slice (some ⟨g, 0, none⟩) m cap) m (cU (keepN es node zs))) := Lib.hid fun _ _ a b c => fin a b c
  have CT := Lib.hid (idx_any hn hN hk hr h cap)
  have HN := Lib.hid hn
  have HK := Lib.hid hk
  clear hr h hn hk fin
  go_enter Try.func43, Try.ntmps43
  go_wp2_with fail
  go_at_call 47
  refine CT.out.mono ?_
  rintro e w1 ⟨⟨r, rfl, hrr⟩, hr1, hp1⟩
  have HR1 := Lib.hid hr1
  have HP1 := Lib.hid hp1
  clear hr1 hp1
  rcases hrr with ⟨rfl, hall⟩ | ⟨i, rfl, hi, hyes, hno⟩
  · have hke : keepN es node zs = zs := by
      have := keepN_all (es := es) (node := node) (zs := zs) (j := n) (by have := HN.out; omega) hall
      rwa [List.take_of_length_le (by have := HN.out; omega)] at this
    have HKE := Lib.hid hke
    clear hall hke
    go_wp2
    go_ret
    refine ⟨n, rfl, by rw [HKE.out, HN.out], FIN.out _ _ (by rw [HKE.out, HN.out]) (Nat.le_refl _) ⟨HR1.out.gr, ?_⟩, HP1.out, HR1.out.gr⟩
    obtain ⟨cur, h1, h2, h3, h4⟩ := HR1.out.row
    refine ⟨cur, h1, h2, fun k hk => ?_⟩
    rw [h4 k hk, HKE.out]
    simp [HN.out ▸ hk]
  · have hne : ((i : Int) == -1) = false := beq_eq_false_iff_ne.2 (by omega)
    have h0 : keepN es node (zs.take (i + 1)) = zs.take i := by
      rw [keepN_succ es node zs (by have := HN.out; omega), keepN_all (by have := HN.out; omega) hno, hyes]
      simp
    have H0 := Lib.hid h0
    clear h0 hyes hno
    go_wp2
    go_loopw [5, 6, 7] (fun v5 v6 v7 wr => ∃ (m j : Nat) (d : Array Int), v5 = .int .i64 m ∧ v6 = .int .i64 j ∧ j ≤ n ∧ m < j ∧ m = (keepN es node (zs.take j)).length ∧ SR w g cap n wr d ∧ Pd wr S b mb es sent ba bn node ∧ (∀ k, k < m → d[k]! = (keepN es node (zs.take j))[k]!) ∧ ∀ k, j ≤ k → k < n → d[k]! = zs[k]!) (fun _ v6 _ _ => n - (intOf v6).toNat)
    case atStart =>
      refine ⟨i, i + 1, zs.toArray, rfl, by go_num, by omega, by omega, ?_, HR1.out, HP1.out, fun k hk => ?_, fun k _ hk => ?_⟩
      · rw [H0.out, List.length_take]; have := HN.out; omega
      · rw [H0.out]
        have := HN.out
        rw [getElem!_pos (zs.take i) k (by rw [List.length_take]; omega), getElem!_pos zs.toArray k (by simp; omega)]
        simp
      · have := HN.out
        simp [show k < zs.length by omega]
    case round =>
      obtain ⟨m, j, d, rfl, rfl, hjn, hmj, hml, hr, hp, hlo, hhi⟩ := hrel
      have HML := Lib.hid hml
      have HR2 := Lib.hid hr
      have HP2 := Lib.hid hp
      have HLO := Lib.hid hlo
      have HHI := Lib.hid hhi
      clear hml hr hp hlo hhi
      by_cases hlt : j < n
      · obtain ⟨x, hx⟩ : ∃ x, x = zs[j]! := ⟨_, rfl⟩
        have hcell : wr.cell? ⟨g, j, none⟩ = some (.int .u64 x) := by
          rw [HR2.out.cell hlt, HHI.out j (Nat.le_refl _) hlt, hx]
        have hmem : x ∈ zs := by rw [hx, getElem!_pos zs j (by have := HN.out; omega)]; exact List.getElem_mem _
        obtain ⟨hxr, p, hpp⟩ := HK.out x hmem
        have CP := Lib.hid (pred_any HP2.out x hxr hpp)
        have hsucc := keepN_succ es node zs (j := j) (by have := HN.out; omega)
        rw [← hx] at hsucc
        have HSU := Lib.hid hsucc
        have HX := Lib.hid hx
        clear hx hmem hpp hsucc
        go_wp2_with fail
        go_at_call 44
        refine CP.out.mono ?_
        rintro e w2 ⟨rfl, hb⟩
        have HR3 := Lib.hid (HR2.out.grown (grown_of_below hb))
        have HP3 := Lib.hid (HP2.out.go hb)
        clear hb hcell
        have hmN : m < n := by omega
        have hcm : w2.cell? ⟨g, m, none⟩ = some (.int .u64 d[m]!) := HR3.out.cell hmN
        have hfm := HR3.out.frozen m
        generalize d[m]! = old at hcm
        cases hd : (!decide (toOf es x = node))
        · -- it stays
          have hsu := HSU.out
          rw [show pdn es node x = false from hd] at hsu
          simp only [Bool.false_eq_true, if_false] at hsu
          have HSU2 := Lib.hid hsu
          clear hsu
          go_wp2
          have hrow : SR w g cap n (w2.setCell ⟨g, m, none⟩ (.int .u64 x)) (d.setIfInBounds m x) := by
            obtain ⟨cur, q1, q2, q3, q4⟩ := HR3.out.row
            refine ⟨Only.put HR3.out.gr m _, by simp [HR3.out.len], _, Whole.put (show Whole w2 g 25 cur from q1) m _, by simp [q2], q3, fun k hk => ?_⟩
            have hsz := HR3.out.len
            by_cases e : k = m
            · subst e
              rw [Array.getElem?_setIfInBounds_self_of_lt (by omega), Sort.getElem!_set_same d k x (by omega)]
            · rw [Array.getElem?_setIfInBounds_ne (Ne.symm e), q4 k hk]
              congr 2
              simp only [getElem!_def, Array.getElem?_setIfInBounds, if_neg (Ne.symm e)]
          have hP4 : Pd (w2.setCell ⟨g, m, none⟩ (.int .u64 x)) S b mb es sent ba bn node := HP3.out.outs (outs_put w2 g m _) (fun i hi e => hgS (e ▸ hi)) (fun e => hga e) (fun e => hgb e)
          have hget : ∀ k, (d.setIfInBounds m x)[k]! = if k = m then x else d[k]! := fun k => by
            have hsz := HR3.out.len
            by_cases e : k = m
            · subst e
              rw [if_pos rfl]; exact Sort.getElem!_set_same d k x (by omega)
            · rw [if_neg e]
              simp only [getElem!_def, Array.getElem?_setIfInBounds, if_neg (Ne.symm e)]
          have hfin : (m + 1 = (keepN es node (zs.take (j + 1))).length) ∧ (∀ k, k < m + 1 → (d.setIfInBounds m x)[k]! = (keepN es node (zs.take (j + 1)))[k]!) ∧ ∀ k, j + 1 ≤ k → k < n → (d.setIfInBounds m x)[k]! = zs[k]! := by
            have hm := HML.out
            refine ⟨by rw [HSU2.out]; simp; omega, fun k hk => ?_, fun k k1 k2 => ?_⟩
            · rw [hget k, HSU2.out]
              by_cases e : k = m
              · subst e
                rw [if_pos rfl, getElem!_pos _ k (by simp; omega)]
                rw [List.getElem_append_right (by omega)]
                simp
              · rw [if_neg e, HLO.out k (by omega), getElem!_pos _ k (by omega), getElem!_pos _ k (by simp; omega), List.getElem_append_left]
            · rw [hget k, if_neg (by omega)]
              exact HHI.out k (by omega) k2
          have HF := Lib.hid hfin
          have HRW := Lib.hid hrow
          have HP4 := Lib.hid hP4
          clear hfin hrow hP4 hget
          go_roundw
          case rel => exact ⟨m + 1, j + 1, _, by go_num, by go_num, by omega, by omega, HF.out.1, HRW.out, HP4.out, HF.out.2.1, HF.out.2.2⟩
          case measure => first | (simp [intOf]; done) | (simp [intOf]; omega)
        · have hsu := HSU.out
          rw [show pdn es node x = true from hd] at hsu
          simp only [if_true, List.append_nil] at hsu
          have HSU2 := Lib.hid hsu
          clear hsu
          go_wp2
          go_roundw
          case rel => exact ⟨m, j + 1, d, rfl, by go_num, by omega, by omega, by rw [HSU2.out]; exact HML.out, HR3.out, HP3.out, fun k hk => by rw [HSU2.out]; exact HLO.out k hk, fun k k1 k2 => HHI.out k (by omega) k2⟩
          case measure => first | (simp [intOf]; done) | (simp [intOf]; omega)
      · obtain rfl : j = n := by omega
        have hall : zs.take j = zs := List.take_of_length_le (by have := HN.out; omega)
        have hcm : ¬ cap = m := by omega
        have hcell : ∀ t, t < j - m → (wr.cell? ⟨g, m + t, none⟩).isSome = true := fun t ht => by rw [HR2.out.cell (by omega)]; rfl
        have hclear := fun ty => Lib.run_clear_slice (P := Try.prog) wr 36 25 ty (.int .u64 0) Try.underlying36 Try.zeroValue25 rfl rfl g m (j - m) (cap - m) (by omega) hcell (fun t _ => HR2.out.frozen (m + t))
        have HALL := Lib.hid hall
        clear hall hcell
        go_wp2
        go_ret
        have hf : Fst w g cap m wr (keepN es node zs) := by
          obtain ⟨cur, q1, q2, q3, q4⟩ := HR2.out.row
          refine ⟨HR2.out.gr, cur, q1, q2, fun k hk => ?_⟩
          rw [q4 k (by omega), HLO.out k hk, HALL.out]
        have hf2 := Fst.setCells (List.replicate (j - m) (.int .u64 0)) m wr (Nat.le_refl _) hf
        exact ⟨m, rfl, by rw [HML.out, HALL.out], FIN.out _ _ (by rw [HML.out, HALL.out]) (by omega) hf2, HP2.out.outs (outs_cells g _ _ _) (fun i hi e => hgS (e ▸ hi)) (fun e => hga e) (fun e => hgb e), hf2.gr⟩
end
end Go.Proofs.Ytnleeffajljodaa
end

section
/- The numbers of the letters to a node. -/
namespace Go.Proofs.Ytnleeffajljodaa
open Go.RowKit Go.Maps
set_option linter.unusedVariables false

set_option maxRecDepth 100000 in
theorem idxNil_any (w : World) (fv : Value) : Calls Try.prog 47 #[.slice none 0 0, fv] w fun e w' => e = .returned (.int .i64 (-1)) ∧ w' = w := by
  go_enter Try.func47, Try.ntmps47
  go_wp2
  go_loopw [8] (fun vi wr => vi = .int .i64 0 ∧ wr = w) (fun vi _ => 0)
  case atStart => exact ⟨rfl, rfl⟩
  case round =>
    obtain ⟨rfl, rfl⟩ := hrel
    go_wp2
    go_returns
    exact ⟨rfl, rfl⟩
set_option maxRecDepth 100000 in
theorem delNil_any (w : World) (fv : Value) : Calls Try.prog 43 #[.slice none 0 0, fv] w fun e w' => e = .returned (.slice none 0 0) ∧ w' = w := by
  go_enter Try.func43, Try.ntmps43
  go_wp2_with (go_at_call 47; refine (idxNil_any _ _).mono ?_; rintro e w' ⟨rfl, rfl⟩)
  go_ret
  exact ⟨rfl, rfl⟩

/-! ### the numbers as a list -/
/-- the letters to a node -/
def toN (es : List (Le × Pl)) (node : Int) : List (Le × Pl) := es.filter fun p => decide (p.1.to_ = node)
theorem pick_mem : ∀ {es : List (Le × Pl)}, (es.map (·.1)).Pairwise (fun x y : Le => x.num < y.num) → ∀ {p : Le × Pl}, p ∈ es → pick es p.1.num = some p
  | [], _, _, h => by cases h
  | q :: es, hr, p, h => by
    unfold pick
    rw [List.find?_cons]
    rcases List.mem_cons.1 h with rfl | h
    · simp
    · have h1 : q.1.num < p.1.num := (List.pairwise_cons.1 hr).1 p.1 (List.mem_map_of_mem h)
      rw [decide_eq_false (by omega)]
      exact pick_mem (List.pairwise_cons.1 hr).2 h
theorem known_nums {w : World} {S : Nat → Prop} {b mb : Nat} {es : List (Le × Pl)} {sent : Nat} (h : Nt w S b mb es sent) : Known es (nums es) := fun x hx => by
  obtain ⟨p, hp, rfl⟩ := List.mem_map.1 hx
  exact ⟨h.ok.wf p.1 (List.mem_map_of_mem hp), p, pick_mem h.ok.rise hp⟩
theorem keep_nums {es : List (Le × Pl)} (hr : (es.map (·.1)).Pairwise (fun x y : Le => x.num < y.num)) (node : Int) : keepN es node (nums es) = nums (toN es node) := by
  unfold keepN nums toN
  rw [List.filter_map]
  congr 1
  refine List.filter_congr fun p hp => ?_
  show (!pdn es node p.1.num) = _
  unfold pdn toOf
  rw [pick_mem hr hp]
  simp

set_option maxHeartbeats 4000000 in
set_option maxRecDepth 100000 in
theorem those_any {w : World} {S : Nat → Prop} {b mb : Nat} {es : List (Le × Pl)} {sent : Nat} (h : Nt w S b mb es sent) (node : Int) :
    Calls Try.prog 37 #[.pointer (some ⟨b, 0, none⟩), .func (.func 38) #[.int .i64 node] #[]] w fun e w' => ∃ v m, e = .returned v ∧ m = (toN es node).length ∧ w'.ownsRow w.heap.size 25 1 v m (cU (nums (toN es node))) ∧ Below w.heap.size w w' := by
  have hB : Below w.heap.size w ((w.alloc (.cells #[.pointer (some ⟨b, 0, none⟩)] 23)).alloc (.cells #[.func (.func 38) #[.int .i64 node] #[]] 66)) := ((Below.refl _ _).alloc (Nat.le_refl _) _).alloc (by simp) _
  have hx1 : Whole ((w.alloc (.cells #[.pointer (some ⟨b, 0, none⟩)] 23)).alloc (.cells #[.func (.func 38) #[.int .i64 node] #[]] 66)) w.heap.size 23 #[.pointer (some ⟨b, 0, none⟩)] := (Whole.new w _ _).alloc _
  have hx2 := Whole.new (w.alloc (.cells #[.pointer (some ⟨b, 0, none⟩)] 23)) 66 #[.func (.func 38) #[.int .i64 node] #[]]
  rw [World.size_alloc] at hx2
  have hpd : Pd ((w.alloc (.cells #[.pointer (some ⟨b, 0, none⟩)] 23)).alloc (.cells #[.func (.func 38) #[.int .i64 node] #[]] 66)) S b mb es sent (w.heap.size + 1) w.heap.size node := ⟨h.go hB, hx2, hx1⟩
  have hkn := keep_nums h.ok.rise node
  have hkw := known_nums h
  have HPD := Lib.hid hpd
  have HB := Lib.hid hB
  have HKN := Lib.hid hkn
  have HKW := Lib.hid hkw
  have HLT := Lib.hid h.lt
  have hlen : es.length ≤ 100000 := by have := h.ok.most; simp at this; omega
  clear h hB hx1 hx2 hpd hkn hkw
  go_enter Try.func37, Try.ntmps37
  go_upto_region 1 with fail
  generalize (w.alloc (.cells #[.pointer (some ⟨b, 0, none⟩)] 23)).alloc (.cells #[.func (.func 38) #[.int .i64 node] #[]] 66) = w1 at HPD HB ⊢
  have c1 : w1.cell? ⟨w.heap.size, 0, none⟩ = some (.pointer (some ⟨b, 0, none⟩)) := by simpa using HPD.out.box.cell 0
  go_wp2_with fail
  go_at_call 42
  refine (rising_any HPD.out.net).mono ?_
  rintro e w2 ⟨v, rfl, hrow, hb2⟩
  have HP2 := Lib.hid (HPD.out.go hb2)
  have HB2 := Lib.hid (HB.out.trans (hb2.mono HB.out.size))
  have hl : (nums es).length = es.length := by simp [nums]
  have hsz := HB.out.size
  have hbx := HPD.out.ask.lt
  rcases hrow.2 with ⟨rfl, h0⟩ | ⟨g, cap, cur, rfl, hBg, hg, h1, h2, h3, h4⟩
  · have he : es = [] := List.eq_nil_of_length_eq_zero h0
    have HE := Lib.hid he
    clear hb2 he h0 hrow
    go_wp2_with fail
    go_at_call 43
    refine (delNil_any _ _).mono ?_
    rintro e w3 ⟨rfl, hw⟩
    rw [hw]
    go_wp2
    go_ret
    refine ⟨_, 0, rfl, by rw [HE.out]; rfl, by rw [HE.out]; exact World.ownsRow_nil _ _ _ _, HB2.out⟩
  · have hsr : SR w2 g cap es.length w2 (nums es).toArray := by
      refine ⟨Only.refl w2 g, by simp [hl], cur, hg, by omega, h1, fun j hj => ?_⟩
      have e : (cur.toList.take (es.length * 1))[j]? = (cU (nums es))[j]? := by rw [h4]
      rw [List.getElem?_take_of_lt (by omega), Array.getElem?_toList] at e
      rw [e]
      have : j < (nums es).length := by rw [hl]; exact hj
      simp [cU, this]
    have ct := delF_any (B := w.heap.size) hl hlen h1 h2 HKW.out hsr HP2.out (by omega) (fun e => by have := HLT.out g e; omega) (by omega) (by omega)
    have CT := Lib.hid ct
    clear hb2 hrow ct hsr
    go_wp2_with fail
    go_at_call 43
    refine CT.out.mono ?_
    rintro e w3 ⟨m, rfl, hm, hrow, hp3, hg3⟩
    rw [HKN.out] at hm hrow
    have HROW := Lib.hid hrow
    have HM := Lib.hid hm
    have HG3 := Lib.hid hg3
    clear hm hrow hp3 hg3
    go_wp2
    go_ret
    exact ⟨_, m, rfl, by rw [HM.out]; simp [nums], HROW.out, HB2.out.grown HG3.out HB2.out.size (fun k e => by cases e; omega)⟩

set_option maxRecDepth 100000 in
theorem to_any {w : World} {S : Nat → Prop} {b mb : Nat} {es : List (Le × Pl)} {sent : Nat} (h : Nt w S b mb es sent) (node : Int) :
    Calls Try.prog 13 #[.pointer (some ⟨b, 0, none⟩), .int .i64 node] w fun e w' => ∃ v m, e = .returned v ∧ m = (toN es node).length ∧ w'.ownsRow w.heap.size 25 1 v m (cU (nums (toN es node))) ∧ Below w.heap.size w w' := by
  have CT := Lib.hid (those_any h node)
  have H := Lib.hid h
  clear h
  go_enter Try.func13, Try.ntmps13
  go_wp2_with fail
  go_at_call 31
  refine (nobodys_any H.out).mono ?_
  rintro e w1 ⟨rfl, hw⟩
  rw [hw]
  clear hw
  go_wp2_with fail
  go_at_call 37
  refine CT.out.mono ?_
  rintro e w2 ⟨v, m, rfl, hm, hrow, hb⟩
  have HM := Lib.hid hm
  have HROW := Lib.hid hrow
  have HB := Lib.hid hb
  clear hm hrow hb
  go_wp2
  go_ret
  exact ⟨v, m, rfl, HM.out, HROW.out, HB.out⟩
end Go.Proofs.Ytnleeffajljodaa
end

section
/- The letters in flight, told. -/
namespace Go.Proofs.Ytnleeffajljodaa
open Go.RowKit Go.Maps
set_option linter.unusedVariables false

theorem infoL : (Try.prog.info? 32).map (fun i => (i.zero, i.size, i.bytes)) = some (some zeroL, 5, 56) := by kernel_rfl
/-- a letter's cells -/
def cL (p : Le × Pl) : List Value := [.int .u64 p.1.num, .int .u64 p.1.first, .int .i64 p.1.frm, .int .i64 p.1.to_, .slice p.2.1 p.1.body.length p.2.2]
/-- letters' cells -/
def cLs (ps : List (Le × Pl)) : List Value := ps.flatMap cL
theorem cLs_length (ps : List (Le × Pl)) : (cLs ps).length = ps.length * 5 := by
  induction ps with
  | nil => rfl
  | cons p ps ih => simp only [cLs, List.flatMap_cons, List.length_append, List.length_cons] at *; rw [ih]; simp [cL]; omega
theorem five_new (w : World) (t : TypeId) (c0 c1 c2 c3 c4 : Value) : ∀ j u, [c0, c1, c2, c3, c4][j]? = some u → (w.alloc (.cells #[c0, c1, c2, c3, c4] t)).cell? ((⟨w.heap.size, 0, none⟩ : Addr).add j) = some u := fun j u hj => by
  have hadd : (⟨w.heap.size, 0, none⟩ : Addr).add j = ⟨w.heap.size, j, none⟩ := by unfold Addr.add; split <;> simp_all
  rw [hadd, (Whole.new w t #[c0, c1, c2, c3, c4]).cell j]
  simpa using hj

/-- what Flight keeps: the letters told so far -/
structure Fl (B : Nat) (w1 wr : World) (v : Value) (ps : List (Le × Pl)) (n : Nat) : Prop where
  row : wr.ownsRow B 32 5 v n (cLs ps)
  len : ps.length = n
  bd : ∀ p ∈ ps, Bd wr (fun i => B ≤ i ∧ v.ownBlock ≠ some i) p.1.body p.2
  below : Below B w1 wr
theorem Fl.go {B : Nat} {w1 wr w2 : World} {v : Value} {ps : List (Le × Pl)} {n : Nat} (h : Fl B w1 wr v ps n) (hB : B ≤ wr.heap.size) (hb : Below wr.heap.size wr w2) : Fl B w1 w2 v ps n :=
  ⟨h.row.kept (grown_of_below hb) (by cases v.ownBlock <;> simp), h.len, fun p hp => (h.bd p hp).outs (T := fun _ => False) (Outs.of hb) (fun _ _ e => e), h.below.trans (hb.mono hB)⟩

theorem Fl.push {B : Nat} {w1 wr w4 w5 : World} {u v : Value} {ps : List (Le × Pl)} {n : Nat} {x : Le} {k' : Pl} {o : Obj} (h : Fl B w1 w4 u ps n) (hr : ∀ g, u.ownBlock = some g → g < wr.heap.size) (hs : wr.heap.size ≤ w4.heap.size) (hB : B ≤ wr.heap.size)
    (hrow : w5.ownsRow B 32 5 v (n + 1) (cLs ps ++ cL (x, k'))) (hg : (w4.alloc o).grownBy w5 u.ownBlock) (hat : v.ownBlock = u.ownBlock ∨ v.ownBlock = some (w4.alloc o).heap.size) (hbd : Bd w4 (fun i => wr.heap.size ≤ i) x.body k') : Fl B w1 w5 v (ps ++ [(x, k')]) (n + 1) := by
  have hout : Outs (fun i => u.ownBlock = some i) w4 w5 := ((Outs.refl _ w4).alloc o).grown hg (fun k hk => .inl hk)
  have hsz : (w4.alloc o).heap.size = w4.heap.size + 1 := by simp
  refine ⟨?_, by simp [h.len], fun p hp => ?_, (h.below.alloc (by omega) o).grown hg (by omega) (fun k hk => (h.row.lt k hk).1)⟩
  · have e : cLs (ps ++ [(x, k')]) = cLs ps ++ cL (x, k') := by simp [cLs]
    rw [e]; exact hrow
  · rcases List.mem_append.1 hp with hp | hp
    · refine ((h.bd p hp).within.outs hout (fun i hi e => hi.1.2 e)).mono fun i hi => ⟨hi.1.1, fun e => ?_⟩
      rcases hat with hat | hat
      · exact hi.1.2 (hat ▸ e)
      · rw [hat] at e
        injection e with e
        have := hi.2
        omega
    · obtain rfl := List.mem_singleton.1 hp
      refine (hbd.within.outs hout (fun i hi e => by have := hr i e; have := hi.1; omega)).mono fun i hi => ⟨by have := hi.1; omega, fun e => ?_⟩
      rcases hat with hat | hat
      · have := hr i (hat ▸ e); have := hi.1; omega
      · rw [hat] at e
        injection e with e
        have := hi.2
        omega

set_option maxHeartbeats 4000000 in
set_option maxRecDepth 100000 in
theorem flight_any {w : World} {S : Nat → Prop} {b mb : Nat} {es : List (Le × Pl)} {sent : Nat} (h : Nt w S b mb es sent) :
    Calls Try.prog 28 #[.pointer (some ⟨b, 0, none⟩)] w fun e w' => ∃ v ps, e = .returned v ∧ ps.map (·.1) = es.map (·.1) ∧ w'.ownsRow w.heap.size 32 5 v es.length (cLs ps) ∧ (∀ p ∈ ps, Bd w' (fun i => w.heap.size ≤ i) p.1.body p.2) ∧ Below w.heap.size w w' := by
  obtain ⟨i0, hi, hz0, hz1, hz2⟩ := info_parts infoL
  have hmost : es.length ≤ 4000 := by have := h.ok.most; simpa using this
  obtain ⟨n, hn⟩ : ∃ n, es.length = n := ⟨_, rfl⟩
  have ct := rising_any h
  rw [hn] at ct hmost
  have CT := Lib.hid ct
  have H := Lib.hid h
  have HN := Lib.hid hn
  clear ct h hn
  go_enter Try.func28, Try.ntmps28
  go_wp2_with fail
  go_at_call 31
  refine (nobodys_any H.out).mono ?_
  rintro e w1 ⟨rfl, hw⟩
  rw [hw]
  clear hw
  go_wp2_with fail
  go_at_call 42
  refine CT.out.mono ?_
  rintro e w1 ⟨v, rfl, hrow, hb1⟩
  have hrd : ∃ A c, v = .slice A n c ∧ Rds w1 w1.heap.size A (cU (nums es)) := by
    rcases hrow.2 with ⟨rfl, h0⟩ | ⟨g, cap, cur, rfl, hBg, hg, h1, h2, h3, h4⟩
    · exact ⟨none, 0, by rw [h0], by rw [List.eq_nil_of_length_eq_zero (HN.out.trans h0)]; exact Rds.nil_⟩
    · exact ⟨_, cap, rfl, Rds.ofOwn hrow⟩
  obtain ⟨A, c, rfl, hrd⟩ := hrd
  have HRD := Lib.hid hrd
  have HN1 := Lib.hid (H.out.go hb1)
  have HB1 := Lib.hid hb1
  have hsz1 := hb1.size
  clear hrow hrd hb1
  go_wp2
  go_loopw [3, 11] (fun v3 vi wr => ∃ (k : Nat) (ps : List (Le × Pl)), vi = .int .i64 k ∧ k ≤ n ∧ ps.map (·.1) = (es.take k).map (·.1) ∧ Fl w1.heap.size w1 wr v3 ps k) (fun _ vi _ => n - (intOf vi).toNat)
  case atStart => exact ⟨0, [], rfl, Nat.zero_le _, rfl, ⟨World.ownsRow_nil _ _ _ _, rfl, fun p hp => (by cases hp), Below.refl _ _⟩⟩
  case round =>
    obtain ⟨k, ps, rfl, hk, hps, hf⟩ := hrel
    have hbr := hf.below
    have hszr := hbr.size
    have HF := Lib.hid hf
    have HPS := Lib.hid hps
    have hnr := HN1.out.go hbr
    by_cases hlt : k < n
    · have hke : k < es.length := by have := HN.out; omega
      obtain ⟨p, hp⟩ : ∃ p, p = es[k] := ⟨_, rfl⟩
      have hmem : p ∈ es := by rw [hp]; exact List.getElem_mem _
      obtain ⟨ad, hAe, hadl, hcell0⟩ := HRD.out.at_ (k := k) (u := .int .u64 p.1.num) (by simp [cU, nums, hke, hp])
      have hcell : wr.cell? (ad.add k) = some (.int .u64 p.1.num) := by rw [hbr.cell (p := ad.add k) (by rw [blk_add]; exact hadl)]; exact hcell0
      have hl := look_run hnr p.1.num (hnr.ok.wf p.1 (List.mem_map_of_mem hmem))
      rw [(hit_some (pick_mem hnr.ok.rise hmem)).1] at hl
      simp only [val] at hl
      have ct := copied_any (hnr.bd p hmem).rds (hnr.ok.len p.1 (List.mem_map_of_mem hmem))
      simp only [val] at ct
      have CT2 := Lib.hid ct
      have hc2 : wr.cell? ⟨b, 2, none⟩ = some (.map (some mb)) := by simpa using hnr.blk.cell 2
      have hpt : (es.take (k + 1)).map (·.1) = (es.take k).map (·.1) ++ [p.1] := by
        rw [List.take_add_one, List.getElem?_eq_getElem hke, List.map_append, hp]
        rfl
      have HPT := Lib.hid hpt
      clear hf hps hnr hcell0 ct hp hpt hmem
      subst hAe
      go_wp2_with fail
      go_at_call 36
      refine CT2.out.mono ?_
      rintro e w4 ⟨k', rfl, hb4, hbd4⟩
      have hf4 := HF.out.go hszr hb4
      have hs4 := hb4.size
      have HB4 := Lib.hid hb4
      have HBD4 := Lib.hid hbd4
      have HF4 := Lib.hid hf4
      have hrow4 := hf4.row
      clear hb4 hbd4 hf4 hcell hl hc2
      go_wp2_with (at_builtin; refine wpList_append_own_at _ rfl _ _ 41 rfl w1.heap.size 32 i0 zeroL 5 56 Try.underlying41 hi hz0 hz1 hz2 rfl (by decide) _ k (cLs ps) rfl (hrow4.alloc _) ⟨w4.heap.size, 0, none⟩ 1 1 (cL (p.1, k')) rfl (by simp [cL]) (five_new _ _ _ _ _ _ _) (by simp [cL, Value.oneCell']) (by unfold maxLen; omega) (by omega) (by simp; omega) ?_; intro v5 w5 hrow5 hg5 _ hat5; go_frame)
      refine ⟨⟨k + 1, ps ++ [(p.1, k')], by simp, by omega, ?_, ?_⟩, by simp only [intOf]; omega⟩
      · rw [List.map_append, HPS.out, HPT.out]; rfl
      · exact HF4.out.push (fun g hg => (HF.out.row.lt g hg).2) HB4.out.size hszr hrow5 hg5 hat5 HBD4.out
    · obtain rfl : k = n := by omega
      clear hf hps
      have hn := HN.out
      have hps2 : ps.map (·.1) = es.map (·.1) := by rw [HPS.out, ← hn, List.take_length]
      have HPS2 := Lib.hid hps2
      have HRW := Lib.hid (ownRow_base HF.out.row (B' := w.heap.size) (fun g hg => by have := (HF.out.row.lt g hg).1; omega))
      have HBL := Lib.hid (HB1.out.trans (hbr.mono hsz1))
      have HBS : Hid (∀ q ∈ ps, Bd wr (fun i => w.heap.size ≤ i) q.1.body q.2) := Lib.hid (fun q hq => (HF.out.bd q hq).mono fun i hi => by have := hi.1; omega)
      clear hps2 hn hbr hnr
      go_wp2
      go_ret
      refine ⟨_, rfl, ps, HPS2.out, ?_, fun q1 q2 q3 hq => HBS.out (q1, q2, q3) hq, HBL.out⟩
      rw [HN.out]
      exact HRW.out
end Go.Proofs.Ytnleeffajljodaa
end

section
/- All letters to a node are lost. -/
namespace Go.Proofs.Ytnleeffajljodaa
open Go.RowKit Go.Maps
set_option linter.unusedVariables false

/-- the letters to other nodes -/
def awayN (es : List (Le × Pl)) (node : Int) : List (Le × Pl) := es.filter fun p => !decide (p.1.to_ = node)
theorem drop_all : ∀ (zs : List Int) (es : List (Le × Pl)), zs.foldl drop es = es.filter (fun p => !decide (p.1.num ∈ zs))
  | [], es => (List.filter_eq_self.2 (fun p _ => by simp)).symm
  | z :: zs, es => by
    rw [List.foldl_cons, drop_all zs]
    unfold drop
    rw [List.filter_filter]
    refine List.filter_congr fun p _ => ?_
    simp only [List.mem_cons]
    by_cases h1 : p.1.num = z <;> by_cases h2 : p.1.num ∈ zs <;> simp [h1, h2]
theorem drop_to {es : List (Le × Pl)} (hr : (es.map (·.1)).Pairwise (fun x y : Le => x.num < y.num)) (node : Int) : (nums (toN es node)).foldl drop es = awayN es node := by
  rw [drop_all]
  unfold awayN
  refine List.filter_congr fun p hp => ?_
  congr 1
  refine decide_eq_decide.2 ⟨fun h => ?_, fun h => ?_⟩
  · obtain ⟨q, hq, e⟩ := List.mem_map.1 h
    obtain ⟨hq1, hq2⟩ := List.mem_filter.1 hq
    have h1 := pick_mem hr hq1
    have h2 := pick_mem hr hp
    have e' : q.1.num = p.1.num := e
    rw [e', h2] at h1
    cases h1
    exact of_decide_eq_true hq2
  · exact List.mem_map.2 ⟨p, List.mem_filter.2 ⟨hp, decide_eq_true h⟩, rfl⟩
theorem foldl_take (zs : List Int) (es : List (Le × Pl)) {k : Nat} (hk : k < zs.length) : (zs.take (k + 1)).foldl drop es = drop ((zs.take k).foldl drop es) zs[k] := by
  rw [List.take_add_one, List.getElem?_eq_getElem hk, List.foldl_append]
  rfl

set_option maxHeartbeats 4000000 in
set_option maxRecDepth 100000 in
theorem clear_any {w : World} {S : Nat → Prop} {b mb : Nat} {es : List (Le × Pl)} {sent : Nat} (h : Nt w S b mb es sent) (node : Int) :
    Calls Try.prog 23 #[.pointer (some ⟨b, 0, none⟩), .int .i64 node] w fun e w' => e = .returned (.tuple #[]) ∧ Nt w' S b mb (awayN es node) sent ∧ Outs (fun i => i = b ∨ i = mb) w w' := by
  have hmlt := h.map.lt
  have hwf : ∀ x ∈ nums (toN es node), 0 ≤ x ∧ x ≤ 18446744073709551615 := fun x hx => by
    obtain ⟨p, hp, rfl⟩ := List.mem_map.1 hx
    exact h.ok.wf p.1 (List.mem_map_of_mem (List.mem_filter.1 hp).1)
  have hfin := drop_to h.ok.rise node
  obtain ⟨zs, hzs⟩ : ∃ zs, zs = nums (toN es node) := ⟨_, rfl⟩
  have hlz : (toN es node).length = zs.length := by rw [hzs]; simp [nums]
  have hmost : zs.length ≤ 100000 := by
    have h1 := h.ok.most
    have h2 : (toN es node).length ≤ es.length := List.length_filter_le ..
    simp at h1
    omega
  have ct := to_any h node
  rw [← hzs, hlz] at ct
  rw [← hzs] at hwf hfin
  have CT := Lib.hid ct
  have H := Lib.hid h
  have HWF := Lib.hid hwf
  have HFIN := Lib.hid hfin
  clear ct h hwf hfin hzs hlz
  go_enter Try.func23, Try.ntmps23
  go_wp2_with fail
  go_at_call 13
  refine CT.out.mono ?_
  rintro e w1 ⟨v, m, rfl, hm, hrow, hb1⟩
  subst hm
  have hn1 := H.out.go hb1
  obtain ⟨n, hn⟩ : ∃ n, n = zs.length := ⟨_, rfl⟩
  rw [← hn] at hrow hmost
  have hrd : ∃ A c, v = .slice A n c ∧ Rds w1 w1.heap.size A (cU zs) ∧ ∀ ad, A = some ad → w.heap.size ≤ ad.block := by
    rcases hrow.2 with ⟨rfl, h0⟩ | ⟨g, cap, cur, rfl, hBg, hg, h1, h2, h3, h4⟩
    · exact ⟨none, 0, by rw [h0], by rw [List.eq_nil_of_length_eq_zero (hn.symm.trans h0)]; exact Rds.nil_, fun ad e => by cases e⟩
    · exact ⟨_, cap, rfl, Rds.ofOwn hrow, fun ad e => by cases e; exact hBg⟩
  obtain ⟨A, c, rfl, hrd, hA⟩ := hrd
  have HRD := Lib.hid hrd
  have HN1 := Lib.hid hn1
  have HB1 := Lib.hid hb1
  have HN := Lib.hid hn
  have HAA := Lib.hid hA
  clear hrow hrd hn1 hb1 hn hA
  go_wp2
  go_loopw [10] (fun vi wr => ∃ k : Nat, vi = .int .i64 k ∧ k ≤ n ∧ Nt wr S b mb ((zs.take k).foldl drop es) sent ∧ Outs (fun i => i = mb) w1 wr) (fun vi _ => n - (intOf vi).toNat)
  case atStart => exact ⟨0, rfl, Nat.zero_le _, HN1.out, Outs.refl _ _⟩
  case round =>
    obtain ⟨k, rfl, hk, hnt, ho⟩ := hrel
    have HNT := Lib.hid hnt
    have HO := Lib.hid ho
    by_cases hlt : k < n
    · have hkz : k < zs.length := by have := HN.out; omega
      obtain ⟨ad, hAe, hadl, hcell0⟩ := HRD.out.at_ (k := k) (u := .int .u64 zs[k]) (by simp [cU, hkz])
      have hcell : wr.cell? (ad.add k) = some (.int .u64 zs[k]) := by
        rw [ho.cell (p := ad.add k) (by rw [blk_add]; exact hadl) (by rw [blk_add]; have := HAA.out ad hAe; omega)]
        exact hcell0
      have hft := foldl_take zs es hkz
      have hxr := HWF.out zs[k] (List.getElem_mem _)
      generalize zs[k] = x at hcell hft hxr
      have HFT := Lib.hid hft
      have hc2 : wr.cell? ⟨b, 2, none⟩ = some (.map (some mb)) := by simpa using hnt.blk.cell 2
      have hm2 := hnt.map
      clear hnt ho hcell0 hft
      subst hAe
      go_wp2_with (at_delete; refine wpList_delete_own _ rfl _ _ 55 25 rfl 32 keyed64 Try.underlying55 selfR mb sent (asMap (ents ((zs.take k).foldl drop es))) rfl hm2 _ _ rfl (key_u64 hxr) ?_; intro w3 hm3 ht3; go_frame)
      obtain ⟨hn3, ho3⟩ := HNT.out.dropped hm3 ht3
      rw [← HFT.out] at hn3
      go_roundw
      case rel => exact ⟨k + 1, by go_num, by omega, hn3, HO.out.same ho3⟩
      case measure => first | (simp [intOf]; done) | (simp [intOf]; omega)
    · obtain rfl : k = n := by omega
      clear hnt ho
      go_wp2
      go_end0
      refine ⟨rfl, ?_, (Outs.of HB1.out).same (HO.out.mono (fun i e => .inr e))⟩
      have := HNT.out
      rwa [List.take_of_length_le (by have := HN.out; omega), HFIN.out] at this
end Go.Proofs.Ytnleeffajljodaa
end

section
/- Delivering a letter. -/
namespace Go.Proofs.Ytnleeffajljodaa
open Go.RowKit Go.Maps
set_option linter.unusedVariables false

set_option maxHeartbeats 4000000 in
set_option maxRecDepth 100000 in
theorem deliverNo_any {w : World} {S : Nat → Prop} {b mb : Nat} {es : List (Le × Pl)} {sent : Nat} (h : Nt w S b mb es sent) (x : Int) (hx : 0 ≤ x ∧ x ≤ 18446744073709551615) (hp : pick es x = none) :
    Calls Try.prog 11 #[.pointer (some ⟨b, 0, none⟩), .int .u64 x] w fun e w' => e = .returned (.tuple #[zeroL, .int .i64 6]) ∧ Below w.heap.size w w' := by
  have H := Lib.hid (h.go (newL_below w))
  have HB := Lib.hid (newL_below w)
  have HWB := Lib.hid (newL_whole w)
  have HSZ := Lib.hid (newL_size w)
  clear h
  go_enter Try.func11, Try.ntmps11
  go_upto_region 1 with fail
  change Code.wp _ _ _ _ (newL w)
  generalize newL w = w0 at H HB HWB HSZ ⊢
  have ct := find_any H.out x hx
  rw [(hit_none hp).1, (hit_none hp).2] at ct
  simp only [zeroL] at ct
  have CT := Lib.hid ct
  clear ct
  go_wp2_with fail
  go_at_call 35
  refine CT.out.mono ?_
  rintro e w1 ⟨rfl, hb⟩
  have hw1 := HWB.out.below hb HWB.out.lt
  have HB1 := Lib.hid (HB.out.trans (hb.mono (by have := HSZ.out; omega)))
  have HW1 := Lib.hid hw1
  clear hb hw1
  go_upto_region 3 with fail
  have hw2 := HW1.out.alloc (.cells #[.int .u64 0, .int .u64 0, .int .i64 0, .int .i64 0, .slice none 0 0] 32)
  have hb2 := HB1.out.alloc HB1.out.size (.cells #[.int .u64 0, .int .u64 0, .int .i64 0, .int .i64 0, .slice none 0 0] 32)
  generalize w1.alloc (.cells #[.int .u64 0, .int .u64 0, .int .i64 0, .int .i64 0, .slice none 0 0] 32) = w2 at hw2 hb2 ⊢
  obtain ⟨c0, c1, c2, c3, c4⟩ := cells5 hw2
  have f0 := hw2.frozen
  have HW2 := Lib.hid hw2
  have HB2 := Lib.hid hb2
  clear hw2 hb2
  go_wp2
  have hx := put5_whole HW2.out (.int .u64 0) (.int .u64 0) (.int .i64 0) (.int .i64 0) (.slice none 0 0)
  have hbx : Below w.heap.size w (put5 w2 w.heap.size (.int .u64 0) (.int .u64 0) (.int .i64 0) (.int .i64 0) (.slice none 0 0)) := put5_below HB2.out (Nat.le_refl _) _ _ _ _ _
  change bodyPost _ _ _ _ _ (put5 w2 w.heap.size (.int .u64 0) (.int .u64 0) (.int .i64 0) (.int .i64 0) (.slice none 0 0))
  generalize put5 w2 w.heap.size (.int .u64 0) (.int .u64 0) (.int .i64 0) (.int .i64 0) (.slice none 0 0) = W at hx hbx ⊢
  clear c0 c1 c2 c3 c4 f0
  obtain ⟨c0, c1, c2, c3, c4⟩ := cells5 hx
  refine bodyPost_ret (by simp [results, Try.results11, go_sem, c0, c1, c2, c3, c4]; try rfl) rfl ?_
  exact ⟨rfl, hbx⟩

set_option maxHeartbeats 4000000 in
set_option maxRecDepth 100000 in
theorem deliver_any {w : World} {S : Nat → Prop} {b mb : Nat} {es : List (Le × Pl)} {sent : Nat} (h : Nt w S b mb es sent) (x : Int) (hx : 0 ≤ x ∧ x ≤ 18446744073709551615) {p : Le × Pl} (hp : pick es x = some p) :
    Calls Try.prog 11 #[.pointer (some ⟨b, 0, none⟩), .int .u64 x] w fun e w' => ∃ k : Pl, e = .returned (.tuple #[val p.1 k, .int .i64 0]) ∧ Nt w' S b mb (drop es x) sent ∧ Outs (fun i => i = b ∨ i = mb) w w' ∧ Bd w' (fun i => w.heap.size ≤ i) p.1.body k := by
  obtain ⟨hV, hE, hmem, -⟩ := hit_some hp
  have hblt := h.blk.lt
  have hmlt := h.map.lt
  have hlen := h.ok.len p.1 (List.mem_map_of_mem hmem)
  have HLT := Lib.hid h.lt
  have H := Lib.hid (h.go (newL_below w))
  have HB := Lib.hid (newL_below w)
  have HWB := Lib.hid (newL_whole w)
  have HSZ := Lib.hid (newL_size w)
  have HLEN := Lib.hid hlen
  clear h hlen
  go_enter Try.func11, Try.ntmps11
  go_upto_region 1 with fail
  change Code.wp _ _ _ _ (newL w)
  generalize newL w = w0 at H HB HWB HSZ ⊢
  have ct := find_any H.out x hx
  rw [hV, hE] at ct
  simp only [val] at ct
  have CT := Lib.hid ct
  clear ct
  go_wp2_with fail
  go_at_call 35
  refine CT.out.mono ?_
  rintro e w1 ⟨rfl, hb⟩
  have hw1 := HWB.out.below hb HWB.out.lt
  have HB1 := Lib.hid (HB.out.trans (hb.mono (by have := HSZ.out; omega)))
  have HN1 := Lib.hid (H.out.go hb)
  have HW1 := Lib.hid hw1
  clear hb hw1
  go_upto_region 4 with fail
  have hw2 := HW1.out.alloc (.cells #[.int .u64 p.1.num, .int .u64 p.1.first, .int .i64 p.1.frm, .int .i64 p.1.to_, .slice p.2.1 p.1.body.length p.2.2] 32)
  have hv2 := Whole.new w1 32 #[.int .u64 p.1.num, .int .u64 p.1.first, .int .i64 p.1.frm, .int .i64 p.1.to_, .slice p.2.1 p.1.body.length p.2.2]
  have hn2 := HN1.out.go ((Below.refl _ _).alloc (Nat.le_refl _) (.cells #[.int .u64 p.1.num, .int .u64 p.1.first, .int .i64 p.1.frm, .int .i64 p.1.to_, .slice p.2.1 p.1.body.length p.2.2] 32))
  have hb2 := HB1.out.alloc HB1.out.size (.cells #[.int .u64 p.1.num, .int .u64 p.1.first, .int .i64 p.1.frm, .int .i64 p.1.to_, .slice p.2.1 p.1.body.length p.2.2] 32)
  have hs1 := HW1.out.lt
  have hs2 : (w1.alloc (.cells #[.int .u64 p.1.num, .int .u64 p.1.first, .int .i64 p.1.frm, .int .i64 p.1.to_, .slice p.2.1 p.1.body.length p.2.2] 32)).heap.size = w1.heap.size + 1 := by simp
  generalize w1.alloc (.cells #[.int .u64 p.1.num, .int .u64 p.1.first, .int .i64 p.1.frm, .int .i64 p.1.to_, .slice p.2.1 p.1.body.length p.2.2] 32) = w2 at hw2 hv2 hn2 hb2 hs2 ⊢
  have hm2 := hn2.map
  have hc2 : w2.cell? ⟨b, 2, none⟩ = some (.map (some mb)) := by simpa using hn2.blk.cell 2
  have HB2 := Lib.hid hb2
  have HN2 := Lib.hid hn2
  have HW2 := Lib.hid hw2
  have HV2 := Lib.hid hv2
  have HS2 := Lib.hid hs2
  clear hb2 hn2 hw2 hv2 hs2
  go_upto_region 5 with (at_delete; refine wpList_delete_own _ rfl _ _ 55 25 rfl 32 keyed64 Try.underlying55 selfR mb sent (asMap (ents es)) rfl hm2 _ _ rfl (key_u64 hx) ?_; intro w3 hm3 ht3; go_frame)
  obtain ⟨hn3, ho3⟩ := HN2.out.dropped hm3 ht3
  clear hm2 hc2 hm3 ht3
  have hw3 := HW2.out.outs ho3 (by show ¬ w.heap.size = mb; omega)
  have hv3 := HV2.out.outs ho3 (by show ¬ w1.heap.size = mb; omega)
  have hbd3 := (HN2.out.bd p hmem).outs ho3 (fun i hi => hi.2.2)
  have ct := copied_any hbd3.rds HLEN.out
  simp only [val] at ct
  obtain ⟨d0, d1, d2, d3, d4⟩ := cells5 hv3
  have CT2 := Lib.hid ct
  have HN3 := Lib.hid hn3
  have HO3 := Lib.hid ho3
  have HW3 := Lib.hid hw3
  clear ct hn3 ho3 hw3 hv3 hbd3
  go_wp2_with fail
  go_at_call 36
  refine CT2.out.mono ?_
  rintro e w4 ⟨k, rfl, hb4, hbd4⟩
  have hw4 := HW3.out.below hb4 HW3.out.lt
  obtain ⟨c0, c1, c2, c3, c4⟩ := cells5 hw4
  have f0 := hw4.frozen
  have HW4 := Lib.hid hw4
  have HB4 := Lib.hid hb4
  have HBD4 := Lib.hid hbd4
  have HN4 := Lib.hid (HN3.out.go hb4)
  clear hw4 hb4 hbd4 d0 d1 d2 d3 d4
  go_wp2
  have hx := put5_whole HW4.out (.int .u64 p.1.num) (.int .u64 p.1.first) (.int .i64 p.1.frm) (.int .i64 p.1.to_) (.slice k.1 p.1.body.length k.2)
  have hox := put5_outs w4 w.heap.size (.int .u64 p.1.num) (.int .u64 p.1.first) (.int .i64 p.1.frm) (.int .i64 p.1.to_) (.slice k.1 p.1.body.length k.2)
  change bodyPost _ _ _ _ _ (put5 w4 w.heap.size (.int .u64 p.1.num) (.int .u64 p.1.first) (.int .i64 p.1.frm) (.int .i64 p.1.to_) (.slice k.1 p.1.body.length k.2))
  generalize put5 w4 w.heap.size (.int .u64 p.1.num) (.int .u64 p.1.first) (.int .i64 p.1.frm) (.int .i64 p.1.to_) (.slice k.1 p.1.body.length k.2) = W at hx hox ⊢
  clear c0 c1 c2 c3 c4 f0
  obtain ⟨c0, c1, c2, c3, c4⟩ := cells5 hx
  refine bodyPost_ret (by simp [results, Try.results11, go_sem, c0, c1, c2, c3, c4]; try rfl) rfl ?_
  have hz2 := HB2.out.size
  have hz3 := HO3.out.size
  have hs2 := HS2.out
  have hO3 : Outs (fun i => i = b ∨ i = mb) w w3 := (Outs.of HB2.out).same (HO3.out.mono (fun i e => .inr e))
  have hO4 : Outs (fun i => i = b ∨ i = mb) w w4 := hO3.then HB4.out hO3.size
  refine ⟨k, rfl, HN4.out.outs hox (fun i hi e => by have := HLT.out i hi; omega), hO4.trans hox (fun i e => .inr (by omega)), ?_⟩
  exact (HBD4.out.outs hox (fun i hi e => by omega)).mono (fun i hi => by omega)
end Go.Proofs.Ytnleeffajljodaa
end

section
/- Doubling a letter. -/
namespace Go.Proofs.Ytnleeffajljodaa
open Go.RowKit Go.Maps
set_option linter.unusedVariables false

set_option maxHeartbeats 4000000 in
set_option maxRecDepth 100000 in
theorem double_any {w : World} {S : Nat → Prop} {b mb : Nat} {es : List (Le × Pl)} {sent : Nat} (h : Nt w S b mb es sent) (x : Int) (hx : 0 ≤ x ∧ x ≤ 18446744073709551615) {p : Le × Pl} (hp : pick es x = some p) (hs : sent < 4000) (hm : es.length < 4000) :
    Calls Try.prog 10 #[.pointer (some ⟨b, 0, none⟩), .int .u64 x] w fun e w' => e = .returned (.tuple #[.int .u64 (sent + 1 : Nat), .int .i64 0]) ∧ Nt w' S b mb (es ++ [({ p.1 with num := (sent + 1 : Nat) }, p.2)]) (sent + 1) ∧ Outs (fun i => i = b ∨ i = mb) w w' := by
  obtain ⟨hV, hE, hmem, -⟩ := hit_some hp
  have ct := find_any h x hx
  rw [hV, hE] at ct
  simp only [val] at ct
  have CT := Lib.hid ct
  have H := Lib.hid h
  clear ct h
  go_enter Try.func10, Try.ntmps10
  go_wp2_with fail
  go_at_call 35
  refine CT.out.mono ?_
  rintro e w1 ⟨rfl, hb⟩
  have HB := Lib.hid hb
  clear hb
  go_upto_region 4 with fail
  have hb2 := HB.out.alloc HB.out.size (.cells #[.int .u64 p.1.num, .int .u64 p.1.first, .int .i64 p.1.frm, .int .i64 p.1.to_, .slice p.2.1 p.1.body.length p.2.2] 32)
  have hw2 := Whole.new w1 32 #[.int .u64 p.1.num, .int .u64 p.1.first, .int .i64 p.1.frm, .int .i64 p.1.to_, .slice p.2.1 p.1.body.length p.2.2]
  generalize w1.alloc (.cells #[.int .u64 p.1.num, .int .u64 p.1.first, .int .i64 p.1.frm, .int .i64 p.1.to_, .slice p.2.1 p.1.body.length p.2.2] 32) = w2 at hb2 hw2 ⊢
  obtain ⟨c0, c1, c2, c3, c4⟩ := cells5 hw2
  have hn2 := H.out.go hb2
  have hmm : p.1 ∈ es.map (·.1) := List.mem_map_of_mem hmem
  have hf := hn2.ok.first p.1 hmm
  have hnm := hn2.ok.num p.1 hmm
  have ct := put_any (T := S) hn2 p.1 { p.1 with num := (sent + 1 : Nat) } p.2 rfl ⟨hf.1, by show p.1.first ≤ ((sent + 1 : Nat) : Int); omega⟩ (hn2.ok.frm p.1 hmm) (hn2.ok.to_ p.1 hmm) (hn2.ok.len p.1 hmm) hs hm (hn2.bd p hmem) hn2.lt
  simp only [val] at ct
  have CT2 := Lib.hid ct
  have HB2 := Lib.hid hb2
  clear ct hn2 hb2 hw2 hmm hf hnm
  go_wp2_with fail
  go_at_call 33
  refine CT2.out.mono ?_
  rintro e w3 ⟨rfl, hn3, ho3⟩
  have HN3 := Lib.hid hn3
  have HO3 := Lib.hid ho3
  clear hn3 ho3
  go_wp2
  go_returns
  refine ⟨by simp, ?_, (Outs.of HB2.out).same HO3.out⟩
  have := HN3.out
  exact ⟨this.blk, this.map, this.sb.elim id id, this.sm.elim id id, fun q hq => (this.bd q hq).mono (fun i hi => ⟨hi.1.elim id id, hi.2⟩), this.ok, fun i hi => this.lt i (.inl hi)⟩
end Go.Proofs.Ytnleeffajljodaa
end

section
/- The walk over the kit's SameBytes. -/
namespace Go.Proofs.Ytnleeffajljodaa
open Go.RowKit
set_option linter.unusedVariables false

/-- two lists of bytes, told apart -/
def same8 (a b : List Int) : Bool := decide (a = b)

set_option maxHeartbeats 800000 in
theorem sameBytes_any (A A' : Option Addr) (xs ys : List Int) (c c' lim : Nat) (w : World) (hl : xs.length ≤ 9223372036854775807) (hl' : ys.length ≤ 9223372036854775807) (hr : Rds w lim A (c8 xs)) (hr' : Rds w lim A' (c8 ys)) :
    Calls Try.prog 41 #[.slice A xs.length c, .slice A' ys.length c'] w fun e w' => e = .returned (.bool (same8 xs ys)) ∧ ∃ n, w' = w.drewN n := by
  by_cases hlen : xs.length = ys.length
  · have hlb : ((xs.length : Int) != (ys.length : Int)) = false := by simp [hlen]
    have HL := Lib.hid hlen
    clear hlen
    go_enter Try.func41, Try.ntmps41
    go_wp2
    go_loopw [5] (fun i wr => ∃ k : Nat, k ≤ xs.length ∧ i = .int .i64 k ∧ (∀ j, j < k → xs[j]? = ys[j]?) ∧ ∃ n, wr = w.drewN n) (fun i _ => xs.length - (intOf i).toNat)
    case atStart => exact ⟨0, Nat.zero_le _, rfl, fun j hj => absurd hj (by omega), 0, rfl⟩
    case round =>
      obtain ⟨k, hk, rfl, hsame, n, rfl⟩ := hrel
      have HS := Lib.hid hsame
      clear hsame
      by_cases hlt : k < xs.length
      · have hlt' : k < ys.length := by have := HL.out; omega
        obtain ⟨ad, rfl, _, hcell⟩ := hr.at_ (c8_get hlt)
        obtain ⟨ad', rfl, _, hcell'⟩ := hr'.at_ (c8_get hlt')
        generalize hx : xs[k] = x at *
        generalize hy : ys[k] = y at *
        have HX := Lib.hid hx
        have HY := Lib.hid hy
        clear hx hy
        go_wp2
        go_quiet (fail)
        go_wp2
        · have hne : (x != y) = true := by assumption
          have hf : same8 xs ys = false := by
            refine decide_eq_false fun e => ?_
            have h1 : xs[k]? = ys[k]? := by rw [e]
            rw [List.getElem?_eq_getElem hlt, List.getElem?_eq_getElem hlt', HX.out, HY.out] at h1
            simp at hne
            exact hne (Option.some.inj h1)
          go_ret
          exact ⟨by rw [hf]; rfl, _, World.drewN_drewN ..⟩
        · have heq : (x != y) = false := by assumption
          go_roundw
          case rel =>
            refine ⟨k + 1, by omega, by go_num, fun j hj => ?_, _, rfl⟩
            rcases Nat.lt_or_ge j k with h | h
            · exact HS.out j h
            · obtain rfl : j = k := by omega
              simp at heq
              rw [List.getElem?_eq_getElem hlt, List.getElem?_eq_getElem hlt', HX.out, HY.out, heq]
          case measure => simp [intOf]; omega
      · have ht : same8 xs ys = true := by
          refine decide_eq_true (List.ext_getElem? fun j => ?_)
          rcases Nat.lt_or_ge j k with h | h
          · exact HS.out j h
          · have := HL.out
            rw [List.getElem?_eq_none (by omega), List.getElem?_eq_none (by omega)]
        have HT := Lib.hid ht
        clear ht
        go_wp2
        go_ret
        exact ⟨by rw [HT.out]; rfl, n, rfl⟩
  · have hlb : ((xs.length : Int) != (ys.length : Int)) = true := by simp; omega
    have hf : same8 xs ys = false := decide_eq_false fun e => hlen (by rw [e])
    have HF := Lib.hid hf
    clear hf
    go_enter Try.func41, Try.ntmps41
    go_wp2
    go_ret
    exact ⟨by rw [HF.out]; rfl, 0, rfl⟩

/-- the same, where the lists are one; the lengths as they stand at the call -/
theorem sameBytes_yes (A A' : Option Addr) (xs ys : List Int) (n m c c' lim : Nat) (w : World) (hn : xs.length = n) (hm : ys.length = m) (hl : n ≤ 9223372036854775807) (e : xs = ys) (hr : Rds w lim A (c8 xs)) (hr' : Rds w lim A' (c8 ys)) :
    Calls Try.prog 41 #[.slice A n c, .slice A' m c'] w fun e w' => e = .returned (.bool true) ∧ ∃ n, w' = w.drewN n := by
  subst hn hm e
  have h := sameBytes_any A A' xs xs c c' lim w hl hl hr hr'
  rwa [show same8 xs xs = true from decide_eq_true rfl] at h

end Go.Proofs.Ytnleeffajljodaa
end

section
/- Lists of letters in memory, and the law's same. -/
namespace Go.Proofs.Ytnleeffajljodaa
open Go.RowKit Go.Maps
set_option linter.unusedVariables false

theorem addr_off {ad : Addr} {k : Nat} (h : k ≠ 0) : ad.add k = ⟨ad.block, ad.off + k, none⟩ := by unfold Addr.add; rw [if_neg h]
theorem row_slice {w : World} {B : Nat} {e : TypeId} {size : Nat} {v : Value} {n : Nat} {xs : List Value} (h : w.ownsRow B e size v n xs) : ∃ A c, v = .slice A n c ∧ Rds w w.heap.size A xs := by
  have h0 := h.1
  rcases h.2 with ⟨rfl, rfl⟩ | ⟨g, cap, cur, rfl, hBg, hh, h1, h2, h3, h4⟩
  · refine ⟨none, 0, rfl, ?_⟩
    have : xs = [] := List.eq_nil_of_length_eq_zero (by simpa using h0)
    rw [this]
    exact Rds.nil_
  · refine ⟨_, _, rfl, fun _ => ⟨_, rfl, (Array.getElem?_eq_some_iff.1 hh).1, fun j u hu => ?_⟩⟩
    have hadd : (⟨g, 0, none⟩ : Addr).add j = ⟨g, j, none⟩ := by unfold Addr.add; split <;> simp_all
    rw [hadd]
    have hW : Whole w g e cur := hh
    rw [hW.cell j]
    rw [← h4, List.getElem?_take] at hu
    split at hu
    · simpa using hu
    · cases hu
theorem cLs_get {ps : List (Le × Pl)} {k : Nat} (hk : k < ps.length) (i : Nat) (hi : i < 5) : (cLs ps)[k * 5 + i]? = (cL ps[k])[i]? := by
  induction ps generalizing k with
  | nil => cases hk
  | cons p ps ih =>
    have e : cLs (p :: ps) = cL p ++ cLs ps := rfl
    rw [e]
    cases k with
    | zero =>
      rw [List.getElem?_append_left (by simp [cL]; omega)]
      simp
    | succ k =>
      rw [List.getElem?_append_right (by simp [cL]; omega)]
      have e2 : (k + 1) * 5 + i - (cL p).length = k * 5 + i := by simp [cL]; omega
      rw [e2, ih (by simpa using hk)]
      rfl

/-- one letter's cells -/
theorem at5 {w : World} {lim : Nat} {A : Option Addr} {ps : List (Le × Pl)} (h : Rds w lim A (cLs ps)) {k : Nat} (hk : k < ps.length) :
    ∃ ad, A = some ad ∧ ad.block < lim ∧ w.cell? (ad.add (k * 5)) = some (.int .u64 ps[k].1.num) ∧ w.cell? ⟨(ad.add (k * 5)).block, (ad.add (k * 5)).off + 1, none⟩ = some (.int .u64 ps[k].1.first) ∧ w.cell? ⟨(ad.add (k * 5)).block, (ad.add (k * 5)).off + 2, none⟩ = some (.int .i64 ps[k].1.frm) ∧
      w.cell? ⟨(ad.add (k * 5)).block, (ad.add (k * 5)).off + 3, none⟩ = some (.int .i64 ps[k].1.to_) ∧ w.cell? ⟨(ad.add (k * 5)).block, (ad.add (k * 5)).off + 4, none⟩ = some (.slice ps[k].2.1 ps[k].1.body.length ps[k].2.2) := by
  obtain ⟨ad, rfl, hl, hc0⟩ := h.at_ ((cLs_get hk 0 (by omega)).trans rfl)
  have hc : ∀ i, i < 5 → i ≠ 0 → w.cell? ⟨(ad.add (k * 5)).block, (ad.add (k * 5)).off + i, none⟩ = (cL ps[k])[i]? := fun i hi h0 => by
    obtain ⟨u, hu⟩ : ∃ u, (cL ps[k])[i]? = some u := ⟨_, List.getElem?_eq_getElem (show i < (cL ps[k]).length from hi)⟩
    obtain ⟨ad', e, _, hc1⟩ := h.at_ ((cLs_get hk i hi).trans hu)
    obtain rfl := Option.some.inj e
    rw [← addr_off h0, add_twice, hc1, hu]
  exact ⟨ad, rfl, hl, hc0, (hc 1 (by omega) (by omega)).trans rfl, (hc 2 (by omega) (by omega)).trans rfl, (hc 3 (by omega) (by omega)).trans rfl, (hc 4 (by omega) (by omega)).trans rfl⟩

set_option maxHeartbeats 4000000 in
set_option maxRecDepth 100000 in
theorem same_any {w : World} {x y : Le} {k k' : Pl} (hr : Rds w w.heap.size k.1 (c8 x.body)) (hr' : Rds w w.heap.size k'.1 (c8 y.body)) (hl : x.body.length ≤ 16777216) (hl' : y.body.length ≤ 16777216) :
    Calls Try.prog 20 #[val x k, val y k'] w fun e w' => e = .returned (.bool (decide (x = y))) ∧ Below w.heap.size w w' := by
  simp only [val]
  have hw1 : Whole ((w.alloc (.cells #[.int .u64 x.num, .int .u64 x.first, .int .i64 x.frm, .int .i64 x.to_, .slice k.1 x.body.length k.2] 32)).alloc (.cells #[.int .u64 y.num, .int .u64 y.first, .int .i64 y.frm, .int .i64 y.to_, .slice k'.1 y.body.length k'.2] 32)) w.heap.size 32 #[.int .u64 x.num, .int .u64 x.first, .int .i64 x.frm, .int .i64 x.to_, .slice k.1 x.body.length k.2] := (Whole.new w _ _).alloc _
  have hw2 := Whole.new (w.alloc (.cells #[.int .u64 x.num, .int .u64 x.first, .int .i64 x.frm, .int .i64 x.to_, .slice k.1 x.body.length k.2] 32)) 32 #[.int .u64 y.num, .int .u64 y.first, .int .i64 y.frm, .int .i64 y.to_, .slice k'.1 y.body.length k'.2]
  have hb1 : Below w.heap.size w ((w.alloc (.cells #[.int .u64 x.num, .int .u64 x.first, .int .i64 x.frm, .int .i64 x.to_, .slice k.1 x.body.length k.2] 32)).alloc (.cells #[.int .u64 y.num, .int .u64 y.first, .int .i64 y.frm, .int .i64 y.to_, .slice k'.1 y.body.length k'.2] 32)) := ((Below.refl _ _).alloc (Nat.le_refl _) _).alloc (by simp) _
  rw [World.size_alloc] at hw2
  have HR := Lib.hid (hr.below hb1)
  have HR' := Lib.hid (hr'.below hb1)
  have HW1 := Lib.hid hw1
  have HW2 := Lib.hid hw2
  have HB1 := Lib.hid hb1
  have HEQ : Hid (∀ b0 b1 b2 b3 b4 : Bool, b0 = (x.num == y.num) → b1 = (x.first == y.first) → b2 = (x.frm == y.frm) → b3 = (x.to_ == y.to_) → b4 = same8 x.body y.body → (b0 && b1 && b2 && b3 && b4) = decide (x = y)) := Lib.hid (by
    rintro _ _ _ _ _ rfl rfl rfl rfl rfl
    obtain ⟨a0, a1, a2, a3, a4⟩ := x
    obtain ⟨d0, d1, d2, d3, d4⟩ := y
    rw [Bool.eq_iff_iff]
    simp [same8, and_assoc])
  clear hr hr' hw1 hw2 hb1
  go_enter Try.func20, Try.ntmps20
  go_upto_region 1 with fail
  generalize ((w.alloc (.cells #[.int .u64 x.num, .int .u64 x.first, .int .i64 x.frm, .int .i64 x.to_, .slice k.1 x.body.length k.2] 32)).alloc (.cells #[.int .u64 y.num, .int .u64 y.first, .int .i64 y.frm, .int .i64 y.to_, .slice k'.1 y.body.length k'.2] 32)) = w1 at HW1 HW2 HR HR' HB1 ⊢
  obtain ⟨c0, c1, c2, c3, c4⟩ := cells5 HW1.out
  obtain ⟨d0, d1, d2, d3, d4⟩ := cells5 HW2.out
  have hsz := HB1.out.size
  have ct := sameBytes_any k.1 k'.1 x.body y.body k.2 k'.2 w1.heap.size w1 (by omega) (by omega) (HR.out.more hsz) (HR'.out.more hsz)
  have CT := Lib.hid ct
  clear ct
  generalize e0 : (x.num == y.num) = b0
  generalize e1 : (x.first == y.first) = b1
  generalize e2 : (x.frm == y.frm) = b2
  generalize e3 : (x.to_ == y.to_) = b3
  cases b0 with
  | false =>
    have HE := Lib.hid (HEQ.out false b1 b2 b3 _ e0.symm e1.symm e2.symm e3.symm rfl)
    clear e1 e2 e3
    go_wp2
    go_ret
    exact ⟨by rw [← HE.out]; rfl, HB1.out⟩
  | true =>
  cases b1 with
  | false =>
    have HE := Lib.hid (HEQ.out true false b2 b3 _ e0.symm e1.symm e2.symm e3.symm rfl)
    clear e2 e3
    go_wp2
    go_ret
    exact ⟨by rw [← HE.out]; rfl, HB1.out⟩
  | true =>
  cases b2 with
  | false =>
    have HE := Lib.hid (HEQ.out true true false b3 _ e0.symm e1.symm e2.symm e3.symm rfl)
    clear e3
    go_wp2
    go_ret
    exact ⟨by rw [← HE.out]; rfl, HB1.out⟩
  | true =>
  cases b3 with
  | false =>
    have HE := Lib.hid (HEQ.out true true true false _ e0.symm e1.symm e2.symm e3.symm rfl)
    go_wp2
    go_ret
    exact ⟨by rw [← HE.out]; rfl, HB1.out⟩
  | true =>
    have HE := Lib.hid (HEQ.out true true true true _ e0.symm e1.symm e2.symm e3.symm rfl)
    go_wp2_with fail
    go_at_call 41
    refine CT.out.mono ?_
    rintro e w2 ⟨rfl, n, rfl⟩
    go_wp2
    go_ret
    exact ⟨by rw [← HE.out]; rfl, bDrewN HB1.out n⟩
end Go.Proofs.Ytnleeffajljodaa
end
