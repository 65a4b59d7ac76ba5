/- The document's Set. -/
import Derived.Test.YtconfkjchjcjgaaKRTick
import Derived.Deep.DeepCutAuto
import Derived.Deep.CutBlock
namespace Go.Proofs.Ytconfkjchjcjgaa
open Go.RowKit
set_option linter.unusedVariables false

/-- where one is put -/
theorem ins_at {y : It} : ∀ {L : List It} {P : Nat} (hP : P ≤ L.length), (∀ j (hj : j < L.length), j < P → ltI L[j] y = true) → (∀ h : P < L.length, ltI L[P] y = false) → ins y L = L.take P ++ y :: L.drop P
  | [], 0, _, _, _ => rfl
  | z :: L, 0, _, _, h2 => by
    have := h2 (by simp)
    simp only [List.getElem_cons_zero] at this
    unfold ins
    rw [this]
    rfl
  | z :: L, P + 1, hP, h1, h2 => by
    have h0 := h1 0 (by simp) (by omega)
    simp only [List.getElem_cons_zero] at h0
    unfold ins
    rw [h0, if_pos rfl, ins_at (L := L) (P := P) (by simpa using hP) (fun j hj hjP => by
      have := h1 (j + 1) (by simpa using hj) (by omega)
      simpa using this) (fun h => by
      have := h2 (by simpa using h)
      simpa using this)]
    rfl
section
variable {R : Nat → Prop} {x : Nat} {T : Int} {L : List It}
theorem rsetBad_any (x : Nat) {s : ByteArray} {t : Int} (hb : (t < 1 ∨ 1073741824 < t) ∨ s.toList.isEmpty = true) (w : World) :
    Calls Try.prog 26 #[.pointer (some ⟨x, 0, none⟩), .string s, .int .i64 t] w fun e w' => e = .returned (.int .i64 2) ∧ w = w' := by
  by_cases c1 : t < 1
  · have t1 : decide (t < 1) = true := decide_eq_true c1
    clear hb
    go_enter Try.func26, Try.ntmps26
    go_wp2
    go_ret
    exact ⟨rfl, rfl⟩
  have t1 : decide (t < 1) = false := decide_eq_false c1
  by_cases c2 : 1073741824 < t
  · have t2 : decide (1073741824 < t) = true := decide_eq_true c2
    clear hb
    go_enter Try.func26, Try.ntmps26
    go_wp2
    go_ret
    exact ⟨rfl, rfl⟩
  have t2 : decide (1073741824 < t) = false := decide_eq_false c2
  have c3 : s.toList.isEmpty = true := by
    rcases hb with (q | q) | q
    · exact absurd q c1
    · exact absurd q c2
    · exact q
  clear hb c1 c2
  go_enter Try.func26, Try.ntmps26
  go_wp2
  go_ret
  exact ⟨rfl, rfl⟩

set_option maxHeartbeats 16000000 in
set_option maxRecDepth 100000 in
theorem rset_any {w0 : World} (h : Rw w0 R x T L) (hnod : Nod L) (nm : ByteArray) (hs0 : nm.toList.isEmpty = false) (hT : 0 ≤ T ∧ T ≤ 4611686018426000000) {t : Int} (ht : 1 ≤ t ∧ t ≤ 1073741824) (hfl : L.length < 1000000) :
    Calls Try.prog 26 #[.pointer (some ⟨x, 0, none⟩), .string nm, .int .i64 t] w0 fun e w' => e = .returned (.int .i64 0) ∧ ∃ w, Outs (fun k => k = x) w0 w ∧ (Rw w' (More (More R w0 w) w w') x T (setL L ⟨nm, T + t⟩) ∧ Outs (fun k => k = x) w w') := by
  obtain ⟨i0, hi, hz0, hz1, hz2⟩ := info_parts infoEnd
  have t1 : decide (t < 1) = false := decide_eq_false (by omega)
  have t2 : decide (1073741824 < t) = false := decide_eq_false (by omega)
  have CD := Lib.hid (rdrop_any h hnod nm)
  go_enter Try.func26, Try.ntmps26
  go_wp2_with fail
  go_at_call 27
  refine CD.out.mono ?_
  rintro e w ⟨rfl, hrw, ho0⟩
  have HO0 := Lib.hid ho0
  obtain ⟨L1, hL1⟩ : ∃ L1, L1 = rmv nm L := ⟨_, rfl⟩
  have hlr : L1.length ≤ L.length := by rw [hL1]; exact rmv_length _ _
  obtain ⟨sy, hsy⟩ : ∃ sy, sy = T + t := ⟨_, rfl⟩
  obtain ⟨y, hy⟩ : ∃ y : It, y = ⟨nm, sy⟩ := ⟨_, rfl⟩
  have hset : setL L ⟨nm, T + t⟩ = ins y L1 := by rw [hy, hsy, hL1]; rfl
  rw [← hL1] at hrw
  obtain ⟨R1, hR1⟩ : ∃ R1, R1 = More R w0 w := ⟨_, rfl⟩
  rw [← hR1] at hrw
  obtain ⟨A, n, c, h⟩ := hrw
  have c0 := h.c0
  have c1 := h.c1
  have f1 := h.top.frozen 1
  have hx := h.lt x h.sx
  have hn63 : (n : Int) ≤ 1000000 := by have := h.few; omega
  have hnc := h.cap
  have hcm := h.cmax
  have hA0 := h.nil_
  have hlen1 := h.len
  have hn1k : n < 1000000 := by omega
  have HLEN := Lib.hid hlen1
  have H := Lib.hid h
  have HSET := Lib.hid hset
  have HSY := Lib.hid hsy
  have HY := Lib.hid hy
  have HR1 := Lib.hid hR1
  clear h hset hy hsy hR1 hL1 ho0 CD hnod hlen1 hlr hfl
  go_upto_block 0 with fail
  rw [← HSY.out]
  obtain ⟨w1, hw1⟩ : ∃ w1, w1 = w.alloc (.cells #[.string nm, .int .i64 sy] 80) := ⟨_, rfl⟩
  rw [← hw1]
  have hbw : Below w.heap.size w w1 := by rw [hw1]; exact (Below.refl _ w).alloc (Nat.le_refl _) _
  have hsz : w1.heap.size = w.heap.size + 1 := by rw [hw1]; simp
  have hW0 : Whole w1 w.heap.size 80 #[.string nm, .int .i64 sy] := by rw [hw1]; exact Whole.new _ _ _
  have k0 : w1.cell? ⟨w.heap.size, 0, none⟩ = some (.string nm) := by simpa using hW0.cell 0
  have k1 : w1.cell? ⟨w.heap.size, 1, none⟩ = some (.int .i64 sy) := by simpa using hW0.cell 1
  have HSZ := Lib.hid hsz
  have HBW := Lib.hid hbw
  have H1 := Lib.hid (H.out.go hbw)
  have c0 := H1.out.c0
  have c1 := H1.out.c1
  have f1 := H1.out.top.frozen 1
  clear hw1 hW0 hbw hsz
  go_cut [8] from 30 to 76 (fun i wc => ∃ P q : Nat, i = .int .i64 P ∧ P ≤ n ∧ wc = w1.drewN q ∧ (∀ j (hj : j < L1.length), j < P → ltI L1[j] y = true) ∧ (∀ hp : P < L1.length, ltI L1[P] y = false))
  case first =>
    go_wp2_with fail
    go_loopw [8] (fun i wr => ∃ P q : Nat, P ≤ n ∧ i = .int .i64 P ∧ wr = w1.drewN q ∧ ∀ j (hj : j < L1.length), j < P → ltI L1[j] y = true) (fun i _ => n - (intOf i).toNat)
    case atStart => exact ⟨0, 0, by omega, rfl, rfl, fun j _ hj => absurd hj (Nat.not_lt_zero j)⟩
    case round =>
      obtain ⟨k, q, hk, rfl, rfl, hno⟩ := hrel
      have HNO := Lib.hid hno
      clear hno
      by_cases hlt : k < n
      · have hkL : k < L1.length := by have := HLEN.out; omega
        obtain ⟨ad, rfl, hc2, hc1⟩ := H1.out.at_ hlt
        obtain ⟨z, hz⟩ : ∃ z, L1[k] = z := ⟨_, rfl⟩
        rw [hz] at hc1 hc2
        obtain ⟨zn, hzn⟩ : ∃ a, z.nm = a := ⟨_, rfl⟩
        obtain ⟨za, hza⟩ : ∃ a, z.at_ = a := ⟨_, rfl⟩
        rw [hzn] at hc2
        rw [hza] at hc1
        have HZ := Lib.hid hz
        have HZN := Lib.hid hzn
        have HZA := Lib.hid hza
        have tl : decide ((k : Int) < n) = true := decide_eq_true (by omega)
        clear hz hzn hza
        by_cases hd1 : za < sy
        · have d1 : decide (za < sy) = true := decide_eq_true hd1
          have hyes : ltI L1[k] y = true := by rw [HZ.out, HY.out]; exact decide_eq_true (.inl (by rw [HZA.out]; exact hd1))
          have HYES := Lib.hid hyes
          clear hyes
          go_wp2
          go_quiet (fail)
          go_wp2
          refine ⟨⟨k + 1, q + nq, by omega, by simp, rfl, fun j hj hjk => ?_⟩, by simp [intOf]; omega⟩
          rcases Nat.lt_or_ge j k with g | g
          · exact HNO.out j hj g
          · obtain rfl : j = k := by omega
            exact HYES.out
        · have d1 : decide (za < sy) = false := decide_eq_false hd1
          by_cases hd2 : za = sy
          · have d2 : (za == sy) = true := by simpa using hd2
            by_cases hd3 : lst zn < lst nm
            · have d3 : Op.bytesLess zn.toList nm.toList = true := by rw [bytesLess_eq, lst_toList, lst_toList]; exact decide_eq_true hd3
              have hyes : ltI L1[k] y = true := by rw [HZ.out, HY.out]; exact decide_eq_true (.inr ⟨by rw [HZA.out]; exact hd2, by rw [HZN.out]; exact hd3⟩)
              have HYES := Lib.hid hyes
              clear hyes
              clear hd2 hd3
              go_wp2
              go_quiet (fail)
              go_wp2
              refine ⟨⟨k + 1, q + nq, by omega, by simp, rfl, fun j hj hjk => ?_⟩, by simp [intOf]; omega⟩
              rcases Nat.lt_or_ge j k with g | g
              · exact HNO.out j hj g
              · obtain rfl : j = k := by omega
                exact HYES.out
            · have d3 : Op.bytesLess zn.toList nm.toList = false := by rw [bytesLess_eq, lst_toList, lst_toList]; exact decide_eq_false hd3
              have hnot : ltI L1[k] y = false := by rw [HZ.out, HY.out]; exact decide_eq_false (fun e => by
                rcases e with e | ⟨_, e⟩
                · rw [HZA.out] at e; exact hd1 e
                · rw [HZN.out] at e; exact hd3 e)
              have HNOT := Lib.hid hnot
              clear hnot
              clear hd2 hd3
              go_wp2
              go_quiet (fail)
              go_wp2
              go_meet
              case rel => exact ⟨k, q + nq, rfl, by omega, World.drewN_drewN _ _ _, HNO.out, fun _ => HNOT.out⟩
          · have d2 : (za == sy) = false := by simpa using hd2
            have hnot : ltI L1[k] y = false := by rw [HZ.out, HY.out]; exact decide_eq_false (fun e => by
              rcases e with e | ⟨e, _⟩
              · rw [HZA.out] at e; exact hd1 e
              · rw [HZA.out] at e; exact hd2 e)
            have HNOT := Lib.hid hnot
            clear hnot
            go_wp2
            go_quiet (fail)
            go_wp2
            go_meet
            case rel => exact ⟨k, q + nq, rfl, by omega, World.drewN_drewN _ _ _, HNO.out, fun _ => HNOT.out⟩
      · have tl : decide ((k : Int) < n) = false := decide_eq_false (by omega)
        go_wp2
        go_quiet (fail)
        go_wp2
        go_meet
        case rel => exact ⟨k, q + nq, rfl, by omega, World.drewN_drewN _ _ _, HNO.out, fun hp => absurd hp (by have := HLEN.out; omega)⟩
  case rest =>
    obtain ⟨P, q, rfl, hkn, rfl, hpos, hstop⟩ := hcut
    have hfin0 : L1.take P ++ y :: L1.drop P = setL L ⟨nm, T + t⟩ := by rw [HSET.out]; exact (ins_at (by have := HLEN.out; omega) hpos hstop).symm
    have HFIN0 := Lib.hid hfin0
    clear hpos hstop hfin0
    obtain ⟨w2, hw2⟩ : ∃ w2, w2 = w1.drewN q := ⟨_, rfl⟩
    have hb2 : Below w.heap.size w w2 := by rw [hw2]; exact bDrewN HBW.out q
    have hsz : w2.heap.size = w.heap.size + 1 := by rw [hw2]; exact HSZ.out
    have c1' : w2.cell? ⟨x, 1, none⟩ = some (.slice A n c) := by rw [hw2]; exact c1
    have f1' : w2.frozen? ⟨x, 1, none⟩ = false := by rw [hw2]; exact f1
    have k0' : w2.cell? ⟨w.heap.size, 0, none⟩ = some (.string nm) := by rw [hw2]; exact k0
    have k1' : w2.cell? ⟨w.heap.size, 1, none⟩ = some (.int .i64 sy) := by rw [hw2]; exact k1
    rw [← hw2]
    clear c0 c1 f1 k0 k1 hw2
    have hlen : (cE L1).length = n * 2 := by rw [cE_length, HLEN.out]
    have r1 : Rds w w.heap.size A (cE (L1.take P)) := by rw [cE_take]; exact H.out.rds.take _
    have r2 : Rds w w.heap.size (if c = P then A else A.map (·.add (P * 2))) (cE (L1.drop P)) := by rw [cE_drop]; exact rowed_drop2 H.out.rds hnc hlen
    have hlaid := fun (w9 : World) (u9 : Value) (m : Nat) (h9 : Below (w.heap.size + 1) w2 w9) (hown : w9.ownsRow (w.heap.size + 1) 80 2 u9 m (cE (L1.take P ++ y :: L1.drop P))) (hm : m ≤ 1000000) =>
      H.out.laid hb2 (Nat.le_succ _) (Nat.le_of_eq hsz.symm) h9 hown hm
    rw [HFIN0.out, HR1.out] at hlaid
    have HL := Lib.hid hlaid
    have ho1 : ∀ u ∈ cE (L1.take P), u.oneCell' = true := cE_one _
    have ho2 : ∀ u ∈ cE (L1.drop P), u.oneCell' = true := cE_one _
    have hoF : ∀ u ∈ cE [y], u.oneCell' = true := cE_one _
    have hl1 : (cE (L1.take P)).length = P * 2 := by rw [cE_length, List.length_take, HLEN.out]; omega
    have hl2 : (cE (L1.drop P)).length = (n - P) * 2 := by rw [cE_length, List.length_drop, HLEN.out]
    have hlF : (cE [y]).length = 1 * 2 := rfl
    have hcat : cE (setL L ⟨nm, T + t⟩) = cE (L1.take P) ++ cE [y] ++ cE (L1.drop P) := by rw [← HFIN0.out, ← cE_append, ← cE_append, List.append_assoc]; rfl
    have HC := Lib.hid hcat
    have hcm63 : (c : Int) ≤ 9223372036854775807 := by unfold maxLen at hcm; omega
    have hkc : P ≤ c := by omega
    have hkn1 : (P : Int) ≤ n := by omega
    have hA1 : A = none → P = 0 ∧ c = 0 := fun e => by
      obtain ⟨h1, h2⟩ := hA0 e
      omega
    obtain ⟨A2, hA2e⟩ : ∃ A2, A2 = if c = P then A else A.map (·.add (P * 2)) := ⟨_, rfl⟩
    have hA2 : A2 = none → n - P = 0 ∧ c - P = 0 := fun e => by
      rw [hA2e] at e
      cases A with
      | none => have := (hA0 rfl).1; have := (hA0 rfl).2; omega
      | some ad => split at e <;> cases e
    rw [← hA2e] at r2
    have hS : ∀ w', Below (w.heap.size + 1) w2 w' → w'.cell? ⟨x, 1, none⟩ = some (.slice A n c) ∧ w'.frozen? ⟨x, 1, none⟩ = false ∧ w'.cell? ⟨w.heap.size, 0, none⟩ = some (.string nm) ∧ w'.cell? ⟨w.heap.size, 1, none⟩ = some (.int .i64 sy) ∧ Below (w.heap.size + 1) w2 w' := fun w' hb =>
      ⟨(hb.cell (Nat.lt_succ_of_lt hx)).trans c1', (hb.frozen (Nat.lt_succ_of_lt hx)).trans f1', (hb.cell (Nat.lt_succ_self _)).trans k0', (hb.cell (Nat.lt_succ_self _)).trans k1', hb⟩
    have r1s : ∀ w', Below (w.heap.size + 1) w2 w' → Rds w' w.heap.size A (cE (L1.take P)) := fun w' hb => (r1.below hb2).below (hb.mono (Nat.le_succ _))
    have r2s : ∀ w', Below (w.heap.size + 1) w2 w' → Rds w' w.heap.size A2 (cE (L1.drop P)) := fun w' hb => (r2.below hb2).below (hb.mono (Nat.le_succ _))
    have hrF : ∀ W g, Whole W g 80 #[.string nm, .int .i64 sy] → Rds W W.heap.size (some ⟨g, 0, none⟩) (cE [y]) := fun W g hw _ => by
      refine ⟨_, rfl, hw.lt, fun j q hq => ?_⟩
      rw [show (⟨g, 0, none⟩ : Addr).add j = ⟨g, j, none⟩ by unfold Addr.add; split <;> simp_all, hw.cell]
      rw [HY.out] at hq
      simpa [cE] using hq
    have hmk : ∀ W : World, w.heap.size + 1 ≤ W.heap.size → (W.alloc (.cells #[] 80)).ownsRow (w.heap.size + 1) 80 2 (.slice (some ⟨W.heap.size, 0, none⟩) 0 0) 0 [] := fun W hW => World.ownsRow_made (base := w.heap.size + 1) (e := 80) (size := 2) W #[] 0 hW (by unfold maxLen; omega) rfl
    have HRF := Lib.hid hrF
    have HMK := Lib.hid hmk
    have HA2 := Lib.hid hA2e
    have hSs := hS _ (Below.refl _ w2).drew
    clear hrF hmk hlaid hcat hlen hA0 hA2e r1 r2 hb2 HFIN0 HSET c1' f1' k0' k1'
    go_wp2_with fail
    refine wp_region_G 21 (fun w' => w'.cell? ⟨x, 1, none⟩ = some (.slice A n c) ∧ w'.frozen? ⟨x, 1, none⟩ = false ∧ w'.cell? ⟨w.heap.size, 0, none⟩ = some (.string nm) ∧ w'.cell? ⟨w.heap.size, 1, none⟩ = some (.int .i64 sy) ∧ Below (w.heap.size + 1) w2 w') (by kernel_rfl) (by kernel_rfl) hSs (fun hSS hst => ?_)
    refine wpAnyG_take (i := 0) (v := ?_) rfl (by kernel_rfl) hst (by kernel_rfl) (by kernel_rfl) (fun _ _ _ h => h) hSS (Or.inl ⟨by rfl, ?_⟩) (fun hst2 => ?_)
    rotate_left
    · (intro w hSw; (try dsimp only at hSw); go_simp; try (with_reducible rfl))
    clear hst; have hst := hst2; clear hst2
    try simp only [Act.put, List.setIfInBounds_toArray, List.set_cons_zero, List.set_cons_succ]
    refine wpAnyG_take (i := 2) (v := ?_) rfl (by kernel_rfl) hst (by kernel_rfl) (by kernel_rfl) (fun _ _ _ h => h) hSS (Or.inl ⟨by rfl, ?_⟩) (fun hst2 => ?_)
    rotate_left
    · (intro w hSw; (try dsimp only at hSw); go_simp; try (with_reducible rfl))
    clear hst; have hst := hst2; clear hst2
    try simp only [Act.put, List.setIfInBounds_toArray, List.set_cons_zero, List.set_cons_succ]
    refine wpAnyG_take (i := 3) (v := ?_) rfl (by kernel_rfl) hst (by kernel_rfl) (by kernel_rfl) (fun _ _ _ h => h) hSS (Or.inl ⟨by rfl, ?_⟩) (fun hst2 => ?_)
    rotate_left
    · (intro w hSw; (try dsimp only at hSw); go_simp; try (with_reducible rfl))
    clear hst; have hst := hst2; clear hst2
    try simp only [Act.put, List.setIfInBounds_toArray, List.set_cons_zero, List.set_cons_succ]
    refine wpAnyG_take (i := 4) (v := ?_) rfl (by kernel_rfl) hst (by kernel_rfl) (by kernel_rfl) (fun _ _ _ h => h) hSS (Or.inl ⟨by rfl, ?_⟩) (fun hst2 => ?_)
    rotate_left
    · (intro w hSw; (try dsimp only at hSw); go_simp; try (with_reducible rfl))
    clear hst; have hst := hst2; clear hst2
    try simp only [Act.put, List.setIfInBounds_toArray, List.set_cons_zero, List.set_cons_succ]
    refine wpAnyG_take (i := 5) (v := ?_) rfl (by kernel_rfl) hst (by kernel_rfl) (by kernel_rfl) (fun _ _ _ h => h) hSS (Or.inl ⟨by rfl, ?_⟩) (fun hst2 => ?_)
    rotate_left
    · (intro w hSw; (try dsimp only at hSw); go_simp; try (with_reducible rfl))
    clear hst; have hst := hst2; clear hst2
    try simp only [Act.put, List.setIfInBounds_toArray, List.set_cons_zero, List.set_cons_succ]
    refine wpAnyG_take (i := 6) (v := ?_) rfl (by kernel_rfl) hst (by kernel_rfl) (by kernel_rfl) (fun _ _ _ h => h) hSS (Or.inl ⟨by rfl, ?_⟩) (fun hst2 => ?_)
    rotate_left
    · (intro w hSw; (try dsimp only at hSw); go_simp; try (with_reducible rfl))
    clear hst; have hst := hst2; clear hst2
    try simp only [Act.put, List.setIfInBounds_toArray, List.set_cons_zero, List.set_cons_succ]
    refine wpAnyG_take (i := 7) (v := ?_) rfl (by kernel_rfl) hst (by kernel_rfl) (by kernel_rfl) (fun _ _ _ h => h) hSS (Or.inl ⟨by rfl, ?_⟩) (fun hst2 => ?_)
    rotate_left
    · (intro w hSw; (try dsimp only at hSw); go_simp; try (with_reducible rfl))
    clear hst; have hst := hst2; clear hst2
    try simp only [Act.put, List.setIfInBounds_toArray, List.set_cons_zero, List.set_cons_succ]
    refine wpAnyG_take (i := 9) (v := ?_) rfl (by kernel_rfl) hst (by kernel_rfl) (by kernel_rfl) (fun _ _ _ h => h) hSS (Or.inl ⟨by rfl, ?_⟩) (fun hst2 => ?_)
    rotate_left
    · (intro w hSw; (try dsimp only at hSw); go_simp; try (with_reducible rfl))
    clear hst; have hst := hst2; clear hst2
    try simp only [Act.put, List.setIfInBounds_toArray, List.set_cons_zero, List.set_cons_succ]
    refine wpAnyG_take (i := 12) (v := ?_) rfl (by kernel_rfl) hst (by kernel_rfl) (by kernel_rfl) (fun _ _ _ h => h) hSS (Or.inl ⟨by rfl, ?_⟩) (fun hst2 => ?_)
    rotate_left
    · (intro w hSw; (try dsimp only at hSw); go_simp; try (with_reducible rfl))
    clear hst; have hst := hst2; clear hst2
    try simp only [Act.put, List.setIfInBounds_toArray, List.set_cons_zero, List.set_cons_succ]
    refine wpAnyG_take (i := 13) (v := ?_) rfl (by kernel_rfl) hst (by kernel_rfl) (by kernel_rfl) (fun _ _ _ h => h) hSS (Or.inl ⟨by rfl, ?_⟩) (fun hst2 => ?_)
    rotate_left
    · (intro w hSw; (try dsimp only at hSw); go_simp; try (with_reducible rfl))
    clear hst; have hst := hst2; clear hst2
    try simp only [Act.put, List.setIfInBounds_toArray, List.set_cons_zero, List.set_cons_succ]
    refine wpAnyG_take (i := 14) (v := ?_) rfl (by kernel_rfl) hst (by kernel_rfl) (by kernel_rfl) (fun _ _ _ h => h) hSS (Or.inl ⟨by rfl, ?_⟩) (fun hst2 => ?_)
    rotate_left
    · (intro w hSw; (try dsimp only at hSw); go_simp; try (with_reducible rfl))
    clear hst; have hst := hst2; clear hst2
    try simp only [Act.put, List.setIfInBounds_toArray, List.set_cons_zero, List.set_cons_succ]
    refine wpAnyG_take (i := 15) (v := ?_) rfl (by kernel_rfl) hst (by kernel_rfl) (by kernel_rfl) (fun _ _ _ h => h) hSS (Or.inl ⟨by rfl, ?_⟩) (fun hst2 => ?_)
    rotate_left
    · (intro w hSw; (try dsimp only at hSw); go_simp; try (with_reducible rfl))
    clear hst; have hst := hst2; clear hst2
    try simp only [Act.put, List.setIfInBounds_toArray, List.set_cons_zero, List.set_cons_succ]
    refine wpAnyG_take (i := 16) (v := ?_) rfl (by kernel_rfl) hst (by kernel_rfl) (by kernel_rfl) (fun _ _ _ h => h) hSS (Or.inl ⟨by rfl, ?_⟩) (fun hst2 => ?_)
    rotate_left
    · (intro w hSw; (try dsimp only at hSw); go_simp; try (with_reducible rfl))
    clear hst; have hst := hst2; clear hst2
    try simp only [Act.put, List.setIfInBounds_toArray, List.set_cons_zero, List.set_cons_succ]
    refine wpAnyG_take (i := 17) (v := ?_) rfl (by kernel_rfl) hst (by kernel_rfl) (by kernel_rfl) (fun _ _ _ h => h) hSS (Or.inl ⟨by rfl, ?_⟩) (fun hst2 => ?_)
    rotate_left
    · (intro w hSw; (try dsimp only at hSw); go_simp; try (with_reducible rfl))
    clear hst; have hst := hst2; clear hst2
    try simp only [Act.put, List.setIfInBounds_toArray, List.set_cons_zero, List.set_cons_succ]
    try rw [← HA2.out]
    refine wpAnyG_two (i := 1) (j := 10) (by kernel_rfl) rfl rfl (by kernel_rfl) (by kernel_rfl) hst (fun K hK => ?_) (fun K hK => ?_)
    · skip
      go_simp
      have bb : Below (w.heap.size + 1) w2 (w2.alloc (.cells #[] 80)).drew := ((Below.refl _ w2).alloc (Nat.le_of_eq hsz.symm) _).drew
      refine hK.out _ _ (hS _ bb) (fun hSS2 hst2 => ?_)
      clear hst hK K hSS
      have hst := hst2
      have hSS := hSS2
      clear hst2 hSS2
      try simp only [Act.put, List.setIfInBounds_toArray, List.set_cons_zero, List.set_cons_succ]
      have own7 : (w2.alloc (.cells #[] 80)).drew.ownsRow (w.heap.size + 1) 80 2 (.slice (some ⟨w.heap.size + 1, 0, none⟩) 0 0) 0 [] := by have := HMK.out w2 (Nat.le_of_eq hsz.symm); rw [hsz] at this; exact this
      have hr7 := r1s _ bb
      have hB7 := bb.size
      rw [hsz] at hB7
      refine wpAnyG_two (i := 8) (j := 10) (by kernel_rfl) rfl rfl (by kernel_rfl) (by kernel_rfl) hst (fun K hK => ?_) (fun K hK => ?_)
      · skip
        refine step_app_wide rfl (.tmp 78) (.tmp 84) 46 rfl 80 i0 _ 2 24 rfl hi hz0 hz1 hz2 rfl (by decide) (w.heap.size + 1) (.slice (some ⟨w.heap.size + 1, 0, none⟩) 0 0) 0 [] rfl own7 A P c w.heap.size (cE (L1.take P)) rfl hl1 hr7 hA1 ho1 (by unfold maxLen; omega) (by omega) hB7 ?_
        intro v7 w7 own8a g7 b7' _
        have b7 := bb.trans b7'
        refine hK.out _ _ (hS _ b7) (fun hSS2 hst2 => ?_)
        clear hst hK K hSS
        have hst := hst2
        have hSS := hSS2
        clear hst2 hSS2
        try simp only [Act.put, List.setIfInBounds_toArray, List.set_cons_zero, List.set_cons_succ]

        have hB7' : w.heap.size + 1 ≤ w7.heap.size := Nat.le_trans hB7 b7'.size
        have b8 : Below (w.heap.size + 1) w2 (w7.alloc (.cells #[.string nm, .int .i64 sy] 80)) := b7.alloc hB7' _
        have own8 := own8a.alloc (.cells #[.string nm, .int .i64 sy] 80)
        have src8 := HRF.out _ _ (Whole.new w7 80 #[.string nm, .int .i64 sy])
        have hB8 : w.heap.size + 1 ≤ (w7.alloc (.cells #[.string nm, .int .i64 sy] 80)).heap.size := by have := b8.size; omega
        refine wpAnyG_one (i := 10) (by kernel_rfl) rfl (by kernel_rfl) hst (fun K hK => ?_)
        go_simp
        refine hK.out _ _ (hS _ b8) (fun hSS2 hst2 => ?_)
        clear hst hK K hSS
        have hst := hst2
        have hSS := hSS2
        clear hst2 hSS2
        try simp only [Act.put, List.setIfInBounds_toArray, List.set_cons_zero, List.set_cons_succ]

        refine wpAnyG_one (i := 11) (by kernel_rfl) rfl (by kernel_rfl) hst (fun K hK => ?_)
        refine step_app_wide rfl (.tmp 85) (.tmp 87) 46 rfl 80 i0 _ 2 24 rfl hi hz0 hz1 hz2 rfl (by decide) (w.heap.size + 1) v7 (0 + P) ([] ++ cE (L1.take P)) rfl own8 _ 1 1 _ (cE [y]) rfl hlF src8 (fun h => by cases h) hoF (by unfold maxLen; omega) (by omega) hB8 ?_
        intro v9 w9 own9 g9 b9 _
        have b9' := b8.trans b9
        refine hK.out _ _ (hS _ b9') (fun hSS2 hst2 => ?_)
        clear hst hK K hSS
        have hst := hst2
        have hSS := hSS2
        clear hst2 hSS2
        try simp only [Act.put, List.setIfInBounds_toArray, List.set_cons_zero, List.set_cons_succ]
        have hr9 := r2s _ b9'
        have hB9 : w.heap.size + 1 ≤ w9.heap.size := by have := b9'.size; omega
        refine wpAnyG_one (i := 18) (by kernel_rfl) rfl (by kernel_rfl) hst (fun K hK => ?_)
        refine step_app_wide rfl (.tmp 88) (.tmp 94) 46 rfl 80 i0 _ 2 24 rfl hi hz0 hz1 hz2 rfl (by decide) (w.heap.size + 1) v9 (0 + P + 1) ([] ++ cE (L1.take P) ++ cE [y]) rfl own9 A2 (n - P) (c - P) w.heap.size (cE (L1.drop P)) rfl hl2 hr9 hA2 ho2 (by unfold maxLen; omega) (by omega) hB9 ?_
        intro v10 w10 own10 _ b10 _
        have b10' := b9'.trans b10
        have hS10 := hS _ b10'
        refine hK.out _ _ hS10 (fun hSS2 hst2 => ?_)
        clear hst hK K hSS
        have hst := hst2
        have hSS := hSS2
        clear hst2 hSS2
        try simp only [Act.put, List.setIfInBounds_toArray, List.set_cons_zero, List.set_cons_succ]
        rw [List.nil_append, ← HC.out, Nat.zero_add] at own10
        have hfin := HL.out w10 v10 _ b10' own10 (by omega)
        have HF := Lib.hid hfin
        obtain ⟨A10, cc10, rfl⟩ := own_open2 own10
        obtain ⟨c10, f10, _⟩ := hS10
        clear hfin b10 b10' own10 own9 g9 b9 b9' hr9 hB9 hS r1s r2s hl1 hl2 ho1 ho2 hoF hlF
        refine wpAnyG_take (i := 19) (v := ?_) rfl (by kernel_rfl) hst (by kernel_rfl) (by kernel_rfl) (fun _ _ _ h => h) hSS (Or.inl ⟨by rfl, ?_⟩) (fun hst2 => ?_)
        rotate_left
        · (intro w hSw; (try dsimp only at hSw); go_simp; try (with_reducible rfl))
        clear hst; have hst := hst2; clear hst2
        try simp only [Act.put, List.setIfInBounds_toArray, List.set_cons_zero, List.set_cons_succ]
        refine wpAnyG_take (i := 20) (v := ?_) rfl (by kernel_rfl) hst (by kernel_rfl) (by kernel_rfl) (fun _ _ _ h => h) hSS (Or.inl ⟨by rfl, ?_⟩) (fun hst2 => ?_)
        rotate_left
        · (intro w hSw; (try dsimp only at hSw); go_simp; try (with_reducible rfl))
        clear hst; have hst := hst2; clear hst2
        try simp only [Act.put, List.setIfInBounds_toArray, List.set_cons_zero, List.set_cons_succ]
        refine wpAnyG_last (i := 21) (by kernel_rfl) rfl (by kernel_rfl) (by kernel_rfl) (fun K hK => ?_)
        go_simp
        refine hK.out _ _ ?_
        clear hK K hst hSS
        go_wp2
        all_goals (
          go_returns
          exact ⟨rfl, w, HO0.out, HF.out⟩)
      · skip
        go_simp
        have bb2 : Below (w.heap.size + 1) w2 ((w2.alloc (.cells #[] 80)).alloc (.cells #[.string nm, .int .i64 sy] 80)).drew := (((Below.refl _ w2).alloc (Nat.le_of_eq hsz.symm) _).alloc (by simp [hsz]) _).drew
        refine hK.out _ _ (hS _ bb2) (fun hSS2 hst2 => ?_)
        clear hst hK K hSS
        have hst := hst2
        have hSS := hSS2
        clear hst2 hSS2
        try simp only [Act.put, List.setIfInBounds_toArray, List.set_cons_zero, List.set_cons_succ]
        have own7b : ((w2.alloc (.cells #[] 80)).alloc (.cells #[.string nm, .int .i64 sy] 80)).drew.ownsRow (w.heap.size + 1) 80 2 (.slice (some ⟨w.heap.size + 1, 0, none⟩) 0 0) 0 [] := own7.alloc _
        have hF7 : Whole ((w2.alloc (.cells #[] 80)).alloc (.cells #[.string nm, .int .i64 sy] 80)).drew (w.heap.size + 1 + 1) 80 #[.string nm, .int .i64 sy] := by
          have := Whole.new (w2.alloc (.cells #[] 80)) 80 #[.string nm, .int .i64 sy]
          rw [show (w2.alloc (.cells #[] 80)).heap.size = w.heap.size + 1 + 1 by simp [hsz]] at this
          exact this

        clear own7 hr7 hB7 bb
        have own7 := own7b
        have bb := bb2
        have hr7 := r1s _ bb
        have hB7 := bb.size
        rw [hsz] at hB7
        refine wpAnyG_one (i := 8) (by kernel_rfl) rfl (by kernel_rfl) hst (fun K hK => ?_)

        refine step_app_wide rfl (.tmp 78) (.tmp 84) 46 rfl 80 i0 _ 2 24 rfl hi hz0 hz1 hz2 rfl (by decide) (w.heap.size + 1) (.slice (some ⟨w.heap.size + 1, 0, none⟩) 0 0) 0 [] rfl own7 A P c w.heap.size (cE (L1.take P)) rfl hl1 hr7 hA1 ho1 (by unfold maxLen; omega) (by omega) hB7 ?_
        intro v7 w7 own8 g7 b7' _
        have b7 := bb.trans b7'
        refine hK.out _ _ (hS _ b7) (fun hSS2 hst2 => ?_)
        clear hst hK K hSS
        have hst := hst2
        have hSS := hSS2
        clear hst2 hSS2
        try simp only [Act.put, List.setIfInBounds_toArray, List.set_cons_zero, List.set_cons_succ]

        have hF8 := hF7.grown g7 (by simp [Value.ownBlock])
        have src8 := HRF.out _ _ hF8
        have b8 := b7
        have hB8 : w.heap.size + 1 ≤ w7.heap.size := Nat.le_trans hB7 b7'.size

        refine wpAnyG_one (i := 11) (by kernel_rfl) rfl (by kernel_rfl) hst (fun K hK => ?_)
        refine step_app_wide rfl (.tmp 85) (.tmp 87) 46 rfl 80 i0 _ 2 24 rfl hi hz0 hz1 hz2 rfl (by decide) (w.heap.size + 1) v7 (0 + P) ([] ++ cE (L1.take P)) rfl own8 _ 1 1 _ (cE [y]) rfl hlF src8 (fun h => by cases h) hoF (by unfold maxLen; omega) (by omega) hB8 ?_
        intro v9 w9 own9 g9 b9 _
        have b9' := b8.trans b9
        refine hK.out _ _ (hS _ b9') (fun hSS2 hst2 => ?_)
        clear hst hK K hSS
        have hst := hst2
        have hSS := hSS2
        clear hst2 hSS2
        try simp only [Act.put, List.setIfInBounds_toArray, List.set_cons_zero, List.set_cons_succ]
        have hr9 := r2s _ b9'
        have hB9 : w.heap.size + 1 ≤ w9.heap.size := by have := b9'.size; omega
        refine wpAnyG_one (i := 18) (by kernel_rfl) rfl (by kernel_rfl) hst (fun K hK => ?_)
        refine step_app_wide rfl (.tmp 88) (.tmp 94) 46 rfl 80 i0 _ 2 24 rfl hi hz0 hz1 hz2 rfl (by decide) (w.heap.size + 1) v9 (0 + P + 1) ([] ++ cE (L1.take P) ++ cE [y]) rfl own9 A2 (n - P) (c - P) w.heap.size (cE (L1.drop P)) rfl hl2 hr9 hA2 ho2 (by unfold maxLen; omega) (by omega) hB9 ?_
        intro v10 w10 own10 _ b10 _
        have b10' := b9'.trans b10
        have hS10 := hS _ b10'
        refine hK.out _ _ hS10 (fun hSS2 hst2 => ?_)
        clear hst hK K hSS
        have hst := hst2
        have hSS := hSS2
        clear hst2 hSS2
        try simp only [Act.put, List.setIfInBounds_toArray, List.set_cons_zero, List.set_cons_succ]
        rw [List.nil_append, ← HC.out, Nat.zero_add] at own10
        have hfin := HL.out w10 v10 _ b10' own10 (by omega)
        have HF := Lib.hid hfin
        obtain ⟨A10, cc10, rfl⟩ := own_open2 own10
        obtain ⟨c10, f10, _⟩ := hS10
        clear hfin b10 b10' own10 own9 g9 b9 b9' hr9 hB9 hS r1s r2s hl1 hl2 ho1 ho2 hoF hlF
        refine wpAnyG_take (i := 19) (v := ?_) rfl (by kernel_rfl) hst (by kernel_rfl) (by kernel_rfl) (fun _ _ _ h => h) hSS (Or.inl ⟨by rfl, ?_⟩) (fun hst2 => ?_)
        rotate_left
        · (intro w hSw; (try dsimp only at hSw); go_simp; try (with_reducible rfl))
        clear hst; have hst := hst2; clear hst2
        try simp only [Act.put, List.setIfInBounds_toArray, List.set_cons_zero, List.set_cons_succ]
        refine wpAnyG_take (i := 20) (v := ?_) rfl (by kernel_rfl) hst (by kernel_rfl) (by kernel_rfl) (fun _ _ _ h => h) hSS (Or.inl ⟨by rfl, ?_⟩) (fun hst2 => ?_)
        rotate_left
        · (intro w hSw; (try dsimp only at hSw); go_simp; try (with_reducible rfl))
        clear hst; have hst := hst2; clear hst2
        try simp only [Act.put, List.setIfInBounds_toArray, List.set_cons_zero, List.set_cons_succ]
        refine wpAnyG_last (i := 21) (by kernel_rfl) rfl (by kernel_rfl) (by kernel_rfl) (fun K hK => ?_)
        go_simp
        refine hK.out _ _ ?_
        clear hK K hst hSS
        go_wp2
        all_goals (
          go_returns
          exact ⟨rfl, w, HO0.out, HF.out⟩)
    · skip
      go_simp
      have bb1 : Below (w.heap.size + 1) w2 (w2.alloc (.cells #[.string nm, .int .i64 sy] 80)).drew := ((Below.refl _ w2).alloc (Nat.le_of_eq hsz.symm) _).drew
      refine hK.out _ _ (hS _ bb1) (fun hSS2 hst2 => ?_)
      clear hst hK K hSS
      have hst := hst2
      have hSS := hSS2
      clear hst2 hSS2
      try simp only [Act.put, List.setIfInBounds_toArray, List.set_cons_zero, List.set_cons_succ]
      have bb2 : Below (w.heap.size + 1) w2 ((w2.alloc (.cells #[.string nm, .int .i64 sy] 80)).alloc (.cells #[] 80)).drew := (((Below.refl _ w2).alloc (Nat.le_of_eq hsz.symm) _).alloc (by simp [hsz]) _).drew
      refine wpAnyG_one (i := 1) (by kernel_rfl) rfl (by kernel_rfl) hst (fun K hK => ?_)
      go_simp
      refine hK.out _ _ (hS _ bb2) (fun hSS2 hst2 => ?_)
      clear hst hK K hSS
      have hst := hst2
      have hSS := hSS2
      clear hst2 hSS2
      try simp only [Act.put, List.setIfInBounds_toArray, List.set_cons_zero, List.set_cons_succ]
      have own7b : ((w2.alloc (.cells #[.string nm, .int .i64 sy] 80)).alloc (.cells #[] 80)).drew.ownsRow (w.heap.size + 1) 80 2 (.slice (some ⟨w.heap.size + 1 + 1, 0, none⟩) 0 0) 0 [] := by
        have := HMK.out (w2.alloc (.cells #[.string nm, .int .i64 sy] 80)) (by simp [hsz])
        rw [show (w2.alloc (.cells #[.string nm, .int .i64 sy] 80)).heap.size = w.heap.size + 1 + 1 by simp [hsz]] at this
        exact this
      have hF7 : Whole ((w2.alloc (.cells #[.string nm, .int .i64 sy] 80)).alloc (.cells #[] 80)).drew (w.heap.size + 1) 80 #[.string nm, .int .i64 sy] := by
        have := (Whole.new w2 80 #[.string nm, .int .i64 sy]).alloc (.cells #[] 80)
        rw [hsz] at this
        exact this

      have own7 := own7b
      have bb := bb2
      have hr7 := r1s _ bb
      have hB7 := bb.size
      rw [hsz] at hB7
      refine wpAnyG_one (i := 8) (by kernel_rfl) rfl (by kernel_rfl) hst (fun K hK => ?_)

      refine step_app_wide rfl (.tmp 78) (.tmp 84) 46 rfl 80 i0 _ 2 24 rfl hi hz0 hz1 hz2 rfl (by decide) (w.heap.size + 1) (.slice (some ⟨w.heap.size + 1 + 1, 0, none⟩) 0 0) 0 [] rfl own7 A P c w.heap.size (cE (L1.take P)) rfl hl1 hr7 hA1 ho1 (by unfold maxLen; omega) (by omega) hB7 ?_
      intro v7 w7 own8 g7 b7' _
      have b7 := bb.trans b7'
      refine hK.out _ _ (hS _ b7) (fun hSS2 hst2 => ?_)
      clear hst hK K hSS
      have hst := hst2
      have hSS := hSS2
      clear hst2 hSS2
      try simp only [Act.put, List.setIfInBounds_toArray, List.set_cons_zero, List.set_cons_succ]

      have hF8 := hF7.grown g7 (by simp [Value.ownBlock])
      have src8 := HRF.out _ _ hF8
      have b8 := b7
      have hB8 : w.heap.size + 1 ≤ w7.heap.size := Nat.le_trans hB7 b7'.size

      refine wpAnyG_one (i := 11) (by kernel_rfl) rfl (by kernel_rfl) hst (fun K hK => ?_)
      refine step_app_wide rfl (.tmp 85) (.tmp 87) 46 rfl 80 i0 _ 2 24 rfl hi hz0 hz1 hz2 rfl (by decide) (w.heap.size + 1) v7 (0 + P) ([] ++ cE (L1.take P)) rfl own8 _ 1 1 _ (cE [y]) rfl hlF src8 (fun h => by cases h) hoF (by unfold maxLen; omega) (by omega) hB8 ?_
      intro v9 w9 own9 g9 b9 _
      have b9' := b8.trans b9
      refine hK.out _ _ (hS _ b9') (fun hSS2 hst2 => ?_)
      clear hst hK K hSS
      have hst := hst2
      have hSS := hSS2
      clear hst2 hSS2
      try simp only [Act.put, List.setIfInBounds_toArray, List.set_cons_zero, List.set_cons_succ]
      have hr9 := r2s _ b9'
      have hB9 : w.heap.size + 1 ≤ w9.heap.size := by have := b9'.size; omega
      refine wpAnyG_one (i := 18) (by kernel_rfl) rfl (by kernel_rfl) hst (fun K hK => ?_)
      refine step_app_wide rfl (.tmp 88) (.tmp 94) 46 rfl 80 i0 _ 2 24 rfl hi hz0 hz1 hz2 rfl (by decide) (w.heap.size + 1) v9 (0 + P + 1) ([] ++ cE (L1.take P) ++ cE [y]) rfl own9 A2 (n - P) (c - P) w.heap.size (cE (L1.drop P)) rfl hl2 hr9 hA2 ho2 (by unfold maxLen; omega) (by omega) hB9 ?_
      intro v10 w10 own10 _ b10 _
      have b10' := b9'.trans b10
      have hS10 := hS _ b10'
      refine hK.out _ _ hS10 (fun hSS2 hst2 => ?_)
      clear hst hK K hSS
      have hst := hst2
      have hSS := hSS2
      clear hst2 hSS2
      try simp only [Act.put, List.setIfInBounds_toArray, List.set_cons_zero, List.set_cons_succ]
      rw [List.nil_append, ← HC.out, Nat.zero_add] at own10
      have hfin := HL.out w10 v10 _ b10' own10 (by omega)
      have HF := Lib.hid hfin
      obtain ⟨A10, cc10, rfl⟩ := own_open2 own10
      obtain ⟨c10, f10, _⟩ := hS10
      clear hfin b10 b10' own10 own9 g9 b9 b9' hr9 hB9 hS r1s r2s hl1 hl2 ho1 ho2 hoF hlF
      refine wpAnyG_take (i := 19) (v := ?_) rfl (by kernel_rfl) hst (by kernel_rfl) (by kernel_rfl) (fun _ _ _ h => h) hSS (Or.inl ⟨by rfl, ?_⟩) (fun hst2 => ?_)
      rotate_left
      · (intro w hSw; (try dsimp only at hSw); go_simp; try (with_reducible rfl))
      clear hst; have hst := hst2; clear hst2
      try simp only [Act.put, List.setIfInBounds_toArray, List.set_cons_zero, List.set_cons_succ]
      refine wpAnyG_take (i := 20) (v := ?_) rfl (by kernel_rfl) hst (by kernel_rfl) (by kernel_rfl) (fun _ _ _ h => h) hSS (Or.inl ⟨by rfl, ?_⟩) (fun hst2 => ?_)
      rotate_left
      · (intro w hSw; (try dsimp only at hSw); go_simp; try (with_reducible rfl))
      clear hst; have hst := hst2; clear hst2
      try simp only [Act.put, List.setIfInBounds_toArray, List.set_cons_zero, List.set_cons_succ]
      refine wpAnyG_last (i := 21) (by kernel_rfl) rfl (by kernel_rfl) (by kernel_rfl) (fun K hK => ?_)
      go_simp
      refine hK.out _ _ ?_
      clear hK K hst hSS
      go_wp2
      all_goals (
        go_returns
        exact ⟨rfl, w, HO0.out, HF.out⟩)
end
end Go.Proofs.Ytconfkjchjcjgaa
