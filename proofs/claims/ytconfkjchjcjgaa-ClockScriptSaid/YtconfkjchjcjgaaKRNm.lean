/- The document's Names. -/
import Derived.Test.YtconfkjchjcjgaaKRSet
import Derived.Test.YtconfkjchjcjgaaKNames
namespace Go.Proofs.Ytconfkjchjcjgaa
open Go.RowKit
set_option linter.unusedVariables false

def cB (l : List ByteArray) : List Value := l.map Value.string
theorem cB_length (l : List ByteArray) : (cB l).length = l.length := by simp [cB]
theorem cB_append (a b : List ByteArray) : cB (a ++ b) = cB a ++ cB b := by simp [cB]
theorem cB_take (l : List ByteArray) (k : Nat) : cB (l.take k) = (cB l).take k := by simp [cB]
theorem cB_drop (l : List ByteArray) (k : Nat) : cB (l.drop k) = (cB l).drop k := by simp [cB]
theorem cB_get {l : List ByteArray} {k : Nat} (h : k < l.length) : (cB l)[k]? = some (.string l[k]) := by simp [cB, h]
theorem cB_one (l : List ByteArray) : ∀ u ∈ cB l, u.oneCell' = true := by
  intro u hu
  obtain ⟨r, hr, rfl⟩ := List.mem_map.1 hu
  rfl
theorem cS_lst (l : List ByteArray) : cS (l.map lst) = cB l := by
  unfold cS cB
  rw [List.map_map]
  refine List.map_congr_left fun a _ => ?_
  simp [encStr, lst]
def Ris (O : List ByteArray) : Prop := O.Pairwise fun a b => lst a ≤ lst b
theorem ris_ins {s : ByteArray} {O : List ByteArray} {P : Nat} (hP : P ≤ O.length) (hs : Ris O) (h1 : ∀ j (hj : j < O.length), j < P → lst O[j] < lst s) (h2 : ∀ h : P < O.length, ¬ lst O[P] < lst s) : Ris (O.take P ++ s :: O.drop P) := by
  unfold Ris at hs ⊢
  have hdrop : ∀ z ∈ O.drop P, lst s ≤ lst z := fun z hz => by
    obtain ⟨j, hj, rfl⟩ := List.getElem_of_mem hz
    rw [List.length_drop] at hj
    rw [List.getElem_drop]
    have hb := List.not_lt.1 (h2 (by omega))
    rcases Nat.eq_zero_or_pos j with rfl | q
    · exact hb
    · exact List.le_trans hb (List.pairwise_iff_getElem.1 hs P (P + j) (by omega) (by omega) (by omega))
  rw [List.pairwise_append]
  refine ⟨hs.sublist (List.take_sublist _ _), ?_, fun a ha b hb => ?_⟩
  · rw [List.pairwise_cons]
    exact ⟨hdrop, hs.sublist (List.drop_sublist _ _)⟩
  · obtain ⟨j, hj, rfl⟩ := List.getElem_of_mem ha
    rw [List.length_take] at hj
    rw [List.getElem_take]
    have hlt := h1 j (by omega) (by omega)
    rcases List.mem_cons.1 hb with rfl | hb
    · exact List.le_of_lt hlt
    · exact List.le_trans (List.le_of_lt hlt) (hdrop b hb)
theorem ris_nms {O : List ByteArray} {L : List It} (hs : Ris O) (hp : O.Perm (L.map (·.nm))) : nmsOf L = O.map lst := by
  have h1 : (L.map fun x => lst x.nm).Perm (O.map lst) := by
    have := (hp.map lst).symm
    rwa [List.map_map] at this
  unfold nmsOf
  rw [mergeSort_of_perm h1]
  refine List.mergeSort_of_pairwise ?_
  rw [List.pairwise_map]
  exact hs.imp fun h => by simpa [leB] using h
/-- what a row is as a slice -/
theorem own_open3 {w : World} {B : Nat} {e : TypeId} {k n : Nat} {v : Value} {xs : List Value} (h : w.ownsRow B e k v n xs) :
    ∃ A c, v = .slice A n c ∧ Rds w w.heap.size A xs ∧ n ≤ c ∧ c ≤ maxLen ∧ (A = none → n = 0 ∧ c = 0) ∧ (∀ ad, A = some ad → ∃ g, ad = ⟨g, 0, none⟩ ∧ v.ownBlock = some g) := by
  rcases h.2 with ⟨rfl, rfl⟩ | ⟨g, cap, cur, rfl, _, hh, h1, h2, _⟩
  · have hx : xs = [] := List.eq_nil_of_length_eq_zero (by simpa using h.1)
    subst hx
    exact ⟨none, 0, rfl, fun e => absurd rfl e, Nat.le_refl _, by unfold maxLen; omega, fun _ => ⟨rfl, rfl⟩, fun ad e => by cases e⟩
  · refine ⟨_, cap, rfl, ?_, h1, h2, (fun h => by cases h), fun ad e => ?_⟩
    · intro _
      exact ⟨_, rfl, (Array.getElem?_eq_some_iff.1 hh).1, h.cells (g := g) rfl⟩
    · obtain rfl := Option.some.inj e
      exact ⟨g, rfl, rfl⟩
theorem rowed_drop1 {w : World} {A : Option Addr} {c n k : Nat} {xs : List Value} {lim : Nat} (h : Rds w lim A xs) (hc : n ≤ c) (hn : xs.length = n) : Rds w lim (if c = k then A else A.map (·.add k)) (xs.drop k) := by
  intro hne
  have hk : k < xs.length := by
    rcases Nat.lt_or_ge k xs.length with h1 | h1
    · exact h1
    · exact absurd (List.drop_eq_nil_of_le h1) hne
  obtain ⟨ad, rfl, hb, hcell⟩ := h (by rintro rfl; simp at hk)
  rw [if_neg (by omega)]
  refine ⟨ad.add k, rfl, by rw [blk_add]; exact hb, fun j u hu => ?_⟩
  rw [add_twice]
  exact hcell _ u (by rw [← hu, List.getElem?_drop])
def Nmr (w : World) (L : List It) (k : Nat) (wr : World) (v : Value) : Prop := ∃ O : List ByteArray, wr.ownsRow w.heap.size 9 1 v O.length (cB O) ∧ Below w.heap.size w wr ∧ Ris O ∧ O.Perm ((L.take k).map (·.nm))
section
variable {w : World} {R : Nat → Prop} {x n c : Nat} {A : Option Addr} {T : Int} {L : List It}
set_option maxHeartbeats 16000000 in
set_option maxRecDepth 100000 in
theorem rnames_any (h : Rw w R x T L) :
    Calls Try.prog 30 #[.pointer (some ⟨x, 0, none⟩)] w fun e w' => ∃ v, e = .returned v ∧ w'.ownsRow w.heap.size 9 1 v (nmsOf L).length (cS (nmsOf L)) ∧ Below w.heap.size w w' := by
  obtain ⟨i0, hi, hz0, hz1, hz2⟩ := info_parts infoS
  obtain ⟨A, n, c, h⟩ := h
  have hx := h.lt x h.sx
  have hn63 : (n : Int) ≤ 1000000 := by have := h.few; omega
  have HLEN := Lib.hid h.len
  have H := Lib.hid h
  clear h
  go_enter Try.func30, Try.ntmps30
  go_wp2
  go_loopw [3, 4] (fun v i wr => ∃ k : Nat, k ≤ n ∧ i = .int .i64 k ∧ Nmr w L k wr v) (fun _ i _ => n - (intOf i).toNat)
  case atStart => exact ⟨0, by omega, rfl, [], ⟨rfl, .inl ⟨rfl, rfl⟩⟩, Below.refl _ _, List.Pairwise.nil, by simp⟩
  case round =>
    obtain ⟨k, hk, rfl, O, hown, hb, hris, hperm⟩ := hrel
    have H1 := Lib.hid (H.out.go hb)
    have c1 := H1.out.c1
    have f1 := H1.out.top.frozen 1
    have hOl : O.length = k := by
      rw [hperm.length_eq, List.length_map, List.length_take]
      have := HLEN.out
      omega
    obtain ⟨A0, cc, rfl, hrd, hmc, hcm, hA0, hA⟩ := own_open3 hown
    obtain ⟨m, hm⟩ : ∃ m, m = O.length := ⟨_, rfl⟩
    have hm63 : (m : Int) ≤ 1000000 := by omega
    have hcm63 : (cc : Int) ≤ 9223372036854775807 := by unfold maxLen at hcm; omega
    rw [← hm] at hmc hA0 ⊢
    have HM := Lib.hid hm
    have HB := Lib.hid hb
    have HRIS := Lib.hid hris
    have HPERM := Lib.hid hperm
    have HRD := Lib.hid hrd
    have HOWN := Lib.hid hown
    clear hb hris hperm hrd hown hm hOl hA
    by_cases hlt : k < n
    · have hkL : k < L.length := by have := HLEN.out; omega
      obtain ⟨ad, rfl, hc2, -⟩ := H1.out.at_ hlt
      obtain ⟨nm, hnm⟩ : ∃ a, L[k].nm = a := ⟨_, rfl⟩
      rw [hnm] at hc2
      have HNM := Lib.hid hnm
      clear hnm
      go_upto_block 2 with fail
      go_cut [5] from 15 to 35 (fun i wc => ∃ P q : Nat, i = .int .i64 P ∧ P ≤ m ∧ wc = wr.drewN q ∧ (∀ j (hj : j < O.length), j < P → lst O[j] < lst nm) ∧ (∀ hp : P < O.length, ¬ lst O[P] < lst nm))
      case first =>
        go_wp2_with fail
        go_loopw [5] (fun i wi => ∃ P q : Nat, P ≤ m ∧ i = .int .i64 P ∧ wi = wr.drewN q ∧ ∀ j (hj : j < O.length), j < P → lst O[j] < lst nm) (fun i _ => m - (intOf i).toNat)
        case atStart => exact ⟨0, 0, by omega, rfl, rfl, fun j _ hj => absurd hj (Nat.not_lt_zero j)⟩
        case round =>
          obtain ⟨P, q, hP, rfl, rfl, hno⟩ := hrel
          have HNO := Lib.hid hno
          clear hno
          by_cases hlP : P < m
          · have hPO : P < O.length := by have := HM.out; omega
            obtain ⟨ao, rfl, hbo, co⟩ := HRD.out.at_ (cB_get hPO)
            obtain ⟨on, hon⟩ : ∃ on, O[P] = on := ⟨_, rfl⟩
            rw [hon] at co
            have HON := Lib.hid hon
            have tl : decide ((P : Int) < m) = true := decide_eq_true (by omega)
            clear hon hbo
            by_cases hd : lst on < lst nm
            · have d3 : Op.bytesLess on.toList nm.toList = true := by rw [bytesLess_eq, lst_toList, lst_toList]; exact decide_eq_true hd
              have HD := Lib.hid hd
              clear hd
              go_wp2
              go_quiet (fail)
              go_wp2
              refine ⟨⟨P + 1, q + nq, by omega, by simp, rfl, fun j hj hjk => ?_⟩, by simp [intOf]; omega⟩
              rcases Nat.lt_or_ge j P with g | g
              · exact HNO.out j hj g
              · obtain rfl : j = P := by omega
                rw [HON.out]; exact HD.out
            · have d3 : Op.bytesLess on.toList nm.toList = false := by rw [bytesLess_eq, lst_toList, lst_toList]; exact decide_eq_false hd
              have HD := Lib.hid hd
              clear hd
              go_wp2
              go_quiet (fail)
              go_wp2
              go_meet
              case rel => exact ⟨P, q + nq, rfl, by omega, World.drewN_drewN _ _ _, HNO.out, fun _ => by rw [HON.out]; exact HD.out⟩
          · have tl : decide ((P : Int) < m) = false := decide_eq_false (by omega)
            go_wp2
            go_quiet (fail)
            go_wp2
            go_meet
            case rel => exact ⟨P, q + nq, rfl, by omega, World.drewN_drewN _ _ _, HNO.out, fun hp => absurd hp (by have := HM.out; omega)⟩
      case rest =>
        obtain ⟨P, q, rfl, hkn, rfl, hpos, hstop⟩ := hcut
        have hris2 : Ris (O.take P ++ nm :: O.drop P) := ris_ins (by have := HM.out; omega) HRIS.out hpos hstop
        have hperm2 : (O.take P ++ nm :: O.drop P).Perm ((L.take (k + 1)).map (·.nm)) := by
          rw [List.take_succ_eq_append_getElem hkL, List.map_append, List.map_singleton, HNM.out]
          refine (List.perm_middle (l₁ := O.take P)).trans ?_
          rw [List.take_append_drop]
          exact (HPERM.out.cons nm).trans (List.perm_append_singleton _ _).symm
        clear hpos hstop
        obtain ⟨B, hB⟩ : ∃ B, B = wr.heap.size := ⟨_, rfl⟩
        obtain ⟨w2, hw2⟩ : ∃ w2, w2 = wr.drewN q := ⟨_, rfl⟩
        have hsz : w2.heap.size = B := by rw [hw2, hB]; rfl
        have hwB : w.heap.size ≤ B := by rw [hB]; exact HB.out.size
        have hb2 : Below w.heap.size w w2 := by rw [hw2]; exact bDrewN HB.out q
        have c1' : w2.cell? ⟨x, 1, none⟩ = some (.slice (some ad) n c) := by rw [hw2]; exact c1
        have k0' : w2.cell? (ad.add (k * 2)) = some (.string nm) := by rw [hw2]; exact hc2
        have hrd2 : Rds w2 B A0 (cB O) := by rw [hw2, hB]; exact HRD.out.below (bDrewN (Below.refl _ _) q)
        have hxB : x < B := by omega
        have hadB : (ad.add (k * 2)).block < B := by
          rw [blk_add, hB]
          exact H1.out.lt _ (H1.out.inR ad (fun z => by have := congrArg List.length z; rw [cE_length] at this; simp at this; omega) rfl).1
        rw [← hw2]
        clear c1 f1 hc2 hw2 hB
        have hlen : (cB O).length = m := by rw [cB_length, HM.out]
        have r1 : Rds w2 B A0 (cB (O.take P)) := by rw [cB_take]; exact hrd2.take _
        have r2 : Rds w2 B (if cc = P then A0 else A0.map (·.add P)) (cB (O.drop P)) := by rw [cB_drop]; exact rowed_drop1 hrd2 hmc hlen
        have hlaid : ∀ (w9 : World) (u9 : Value) (m9 : Nat), Below B w2 w9 → w9.ownsRow B 9 1 u9 m9 (cB (O.take P ++ nm :: O.drop P)) → Nmr w L (k + 1) w9 u9 := fun w9 u9 m9 h9 hown => by
          have hm9 : m9 = (O.take P ++ nm :: O.drop P).length := by
            have := hown.1
            rw [cB_length] at this
            omega
          rw [hm9] at hown
          exact ⟨_, ownRow_base hown (fun g hg => Nat.le_trans hwB (ownRow_block hown hg).1), hb2.trans (h9.mono hwB), hris2, hperm2⟩
        have HL := Lib.hid hlaid
        have ho1 : ∀ u ∈ cB (O.take P), u.oneCell' = true := cB_one _
        have ho2 : ∀ u ∈ cB (O.drop P), u.oneCell' = true := cB_one _
        have hoF : ∀ u ∈ cB [nm], u.oneCell' = true := cB_one _
        have hl1 : (cB (O.take P)).length = P * 1 := by rw [cB_length, List.length_take, ← HM.out]; omega
        have hl2 : (cB (O.drop P)).length = (m - P) * 1 := by rw [cB_length, List.length_drop, ← HM.out]; omega
        have hlF : (cB [nm]).length = 1 * 1 := rfl
        have hcat : cB (O.take P ++ nm :: O.drop P) = cB (O.take P) ++ cB [nm] ++ cB (O.drop P) := by rw [← cB_append, ← cB_append, List.append_assoc]; rfl
        have HC := Lib.hid hcat
        have hkc : P ≤ cc := by omega
        have hkn1 : (P : Int) ≤ m := by omega
        have hA1 : A0 = none → P = 0 ∧ cc = 0 := fun e => by
          obtain ⟨h1, h2⟩ := hA0 e
          omega
        obtain ⟨A2, hA2e⟩ : ∃ A2, A2 = if cc = P then A0 else A0.map (·.add P) := ⟨_, rfl⟩
        have hA2 : A2 = none → m - P = 0 ∧ cc - P = 0 := fun e => by
          rw [hA2e] at e
          cases A0 with
          | none => have := (hA0 rfl).1; have := (hA0 rfl).2; omega
          | some ad => split at e <;> cases e
        rw [← hA2e] at r2
        have hS : ∀ w', Below B w2 w' → w'.cell? ⟨x, 1, none⟩ = some (.slice (some ad) n c) ∧ w'.cell? (ad.add (k * 2)) = some (.string nm) ∧ Below B w2 w' := fun w' hb =>
          ⟨(hb.cell hxB).trans c1', (hb.cell hadB).trans k0', hb⟩
        have r1s : ∀ w', Below B w2 w' → Rds w' B A0 (cB (O.take P)) := fun w' hb => r1.below hb
        have r2s : ∀ w', Below B w2 w' → Rds w' B A2 (cB (O.drop P)) := fun w' hb => r2.below hb
        have hrF : ∀ W g, Whole W g 9 #[.string nm] → Rds W W.heap.size (some ⟨g, 0, none⟩) (cB [nm]) := fun W g hw _ => by
          refine ⟨_, rfl, hw.lt, fun j q hq => ?_⟩
          rw [show (⟨g, 0, none⟩ : Addr).add j = ⟨g, j, none⟩ by unfold Addr.add; split <;> simp_all, hw.cell]
          simpa [cB] using hq
        have hmk : ∀ W : World, B ≤ W.heap.size → (W.alloc (.cells #[] 9)).ownsRow B 9 1 (.slice (some ⟨W.heap.size, 0, none⟩) 0 0) 0 [] := fun W hW => World.ownsRow_made (base := B) (e := 9) (size := 1) W #[] 0 hW (by unfold maxLen; omega) rfl
        have HRF := Lib.hid hrF
        have HMK := Lib.hid hmk
        have HA2 := Lib.hid hA2e
        have hSs := hS _ (Below.refl _ w2).drew
        clear hrF hmk hlaid hcat hlen hA0 hA2e r1 r2 hb2 c1' k0' hris2 hperm2 hrd2
        go_wp2_with fail
        refine wp_region_G 19 (fun w' => w'.cell? ⟨x, 1, none⟩ = some (.slice (some ad) n c) ∧ w'.cell? (ad.add (k * 2)) = some (.string nm) ∧ Below B w2 w') (by kernel_rfl) (by kernel_rfl) hSs (fun hSS hst => ?_)
        refine wpAnyG_take (i := 1) (v := ?_) rfl (by kernel_rfl) hst (by kernel_rfl) (by kernel_rfl) (fun _ _ _ h => h) hSS (Or.inl ⟨by rfl, ?_⟩) (fun hst2 => ?_)
        rotate_left
        · (intro w hSw; (try dsimp only at hSw); go_simp; try (with_reducible rfl))
        clear hst; have hst := hst2; clear hst2
        try simp only [Act.put, List.setIfInBounds_toArray, List.set_cons_zero, List.set_cons_succ]
        refine wpAnyG_take (i := 2) (v := ?_) rfl (by kernel_rfl) hst (by kernel_rfl) (by kernel_rfl) (fun _ _ _ h => h) hSS (Or.inl ⟨by rfl, ?_⟩) (fun hst2 => ?_)
        rotate_left
        · (intro w hSw; (try dsimp only at hSw); go_simp; try (with_reducible rfl))
        clear hst; have hst := hst2; clear hst2
        try simp only [Act.put, List.setIfInBounds_toArray, List.set_cons_zero, List.set_cons_succ]
        refine wpAnyG_take (i := 3) (v := ?_) rfl (by kernel_rfl) hst (by kernel_rfl) (by kernel_rfl) (fun _ _ _ h => h) hSS (Or.inl ⟨by rfl, ?_⟩) (fun hst2 => ?_)
        rotate_left
        · (intro w hSw; (try dsimp only at hSw); go_simp; try (with_reducible rfl))
        clear hst; have hst := hst2; clear hst2
        try simp only [Act.put, List.setIfInBounds_toArray, List.set_cons_zero, List.set_cons_succ]
        refine wpAnyG_take (i := 5) (v := ?_) rfl (by kernel_rfl) hst (by kernel_rfl) (by kernel_rfl) (fun _ _ _ h => h) hSS (Or.inl ⟨by rfl, ?_⟩) (fun hst2 => ?_)
        rotate_left
        · (intro w hSw; (try dsimp only at hSw); go_simp; try (with_reducible rfl))
        clear hst; have hst := hst2; clear hst2
        try simp only [Act.put, List.setIfInBounds_toArray, List.set_cons_zero, List.set_cons_succ]
        refine wpAnyG_take (i := 6) (v := ?_) rfl (by kernel_rfl) hst (by kernel_rfl) (by kernel_rfl) (fun _ _ _ h => h) hSS (Or.inl ⟨by rfl, ?_⟩) (fun hst2 => ?_)
        rotate_left
        · (intro w hSw; (try dsimp only at hSw); go_simp; try (with_reducible rfl))
        clear hst; have hst := hst2; clear hst2
        try simp only [Act.put, List.setIfInBounds_toArray, List.set_cons_zero, List.set_cons_succ]
        refine wpAnyG_take (i := 7) (v := ?_) rfl (by kernel_rfl) hst (by kernel_rfl) (by kernel_rfl) (fun _ _ _ h => h) hSS (Or.inl ⟨by rfl, ?_⟩) (fun hst2 => ?_)
        rotate_left
        · (intro w hSw; (try dsimp only at hSw); go_simp; try (with_reducible rfl))
        clear hst; have hst := hst2; clear hst2
        try simp only [Act.put, List.setIfInBounds_toArray, List.set_cons_zero, List.set_cons_succ]
        refine wpAnyG_take (i := 8) (v := ?_) rfl (by kernel_rfl) hst (by kernel_rfl) (by kernel_rfl) (fun _ _ _ h => h) hSS (Or.inl ⟨by rfl, ?_⟩) (fun hst2 => ?_)
        rotate_left
        · (intro w hSw; (try dsimp only at hSw); go_simp; try (with_reducible rfl))
        clear hst; have hst := hst2; clear hst2
        try simp only [Act.put, List.setIfInBounds_toArray, List.set_cons_zero, List.set_cons_succ]
        refine wpAnyG_take (i := 9) (v := ?_) rfl (by kernel_rfl) hst (by kernel_rfl) (by kernel_rfl) (fun _ _ _ h => h) hSS (Or.inl ⟨by rfl, ?_⟩) (fun hst2 => ?_)
        rotate_left
        · (intro w hSw; (try dsimp only at hSw); go_simp; try (with_reducible rfl))
        clear hst; have hst := hst2; clear hst2
        try simp only [Act.put, List.setIfInBounds_toArray, List.set_cons_zero, List.set_cons_succ]
        refine wpAnyG_take (i := 10) (v := ?_) rfl (by kernel_rfl) hst (by kernel_rfl) (by kernel_rfl) (fun _ _ _ h => h) hSS (Or.inl ⟨by rfl, ?_⟩) (fun hst2 => ?_)
        rotate_left
        · (intro w hSw; (try dsimp only at hSw); go_simp; try (with_reducible rfl))
        clear hst; have hst := hst2; clear hst2
        try simp only [Act.put, List.setIfInBounds_toArray, List.set_cons_zero, List.set_cons_succ]
        refine wpAnyG_take (i := 11) (v := ?_) rfl (by kernel_rfl) hst (by kernel_rfl) (by kernel_rfl) (fun _ _ _ h => h) hSS (Or.inl ⟨by rfl, ?_⟩) (fun hst2 => ?_)
        rotate_left
        · (intro w hSw; (try dsimp only at hSw); go_simp; try (with_reducible rfl))
        clear hst; have hst := hst2; clear hst2
        try simp only [Act.put, List.setIfInBounds_toArray, List.set_cons_zero, List.set_cons_succ]
        refine wpAnyG_take (i := 12) (v := ?_) rfl (by kernel_rfl) hst (by kernel_rfl) (by kernel_rfl) (fun _ _ _ h => h) hSS (Or.inl ⟨by rfl, ?_⟩) (fun hst2 => ?_)
        rotate_left
        · (intro w hSw; (try dsimp only at hSw); go_simp; try (with_reducible rfl))
        clear hst; have hst := hst2; clear hst2
        try simp only [Act.put, List.setIfInBounds_toArray, List.set_cons_zero, List.set_cons_succ]
        refine wpAnyG_take (i := 15) (v := ?_) rfl (by kernel_rfl) hst (by kernel_rfl) (by kernel_rfl) (fun _ _ _ h => h) hSS (Or.inl ⟨by rfl, ?_⟩) (fun hst2 => ?_)
        rotate_left
        · (intro w hSw; (try dsimp only at hSw); go_simp; try (with_reducible rfl))
        clear hst; have hst := hst2; clear hst2
        try simp only [Act.put, List.setIfInBounds_toArray, List.set_cons_zero, List.set_cons_succ]
        refine wpAnyG_take (i := 16) (v := ?_) rfl (by kernel_rfl) hst (by kernel_rfl) (by kernel_rfl) (fun _ _ _ h => h) hSS (Or.inl ⟨by rfl, ?_⟩) (fun hst2 => ?_)
        rotate_left
        · (intro w hSw; (try dsimp only at hSw); go_simp; try (with_reducible rfl))
        clear hst; have hst := hst2; clear hst2
        try simp only [Act.put, List.setIfInBounds_toArray, List.set_cons_zero, List.set_cons_succ]
        refine wpAnyG_take (i := 17) (v := ?_) rfl (by kernel_rfl) hst (by kernel_rfl) (by kernel_rfl) (fun _ _ _ h => h) hSS (Or.inl ⟨by rfl, ?_⟩) (fun hst2 => ?_)
        rotate_left
        · (intro w hSw; (try dsimp only at hSw); go_simp; try (with_reducible rfl))
        clear hst; have hst := hst2; clear hst2
        try simp only [Act.put, List.setIfInBounds_toArray, List.set_cons_zero, List.set_cons_succ]
        try rw [← HA2.out]
        refine wpAnyG_two (i := 0) (j := 13) (by kernel_rfl) rfl rfl (by kernel_rfl) (by kernel_rfl) hst (fun K hK => ?_) (fun K hK => ?_)
        · skip
          go_simp
          have bb : Below B w2 (w2.alloc (.cells #[] 9)).drew := ((Below.refl _ w2).alloc (Nat.le_of_eq hsz.symm) _).drew
          refine hK.out _ _ (hS _ bb) (fun hSS2 hst2 => ?_)
          clear hst hK K hSS
          have hst := hst2
          have hSS := hSS2
          clear hst2 hSS2
          try simp only [Act.put, List.setIfInBounds_toArray, List.set_cons_zero, List.set_cons_succ]
          have own7 : (w2.alloc (.cells #[] 9)).drew.ownsRow B 9 1 (.slice (some ⟨B, 0, none⟩) 0 0) 0 [] := by have := HMK.out w2 (Nat.le_of_eq hsz.symm); rw [hsz] at this; exact this
          have hr7 := r1s _ bb
          have hB7 := bb.size
          rw [hsz] at hB7
          refine wpAnyG_two (i := 4) (j := 13) (by kernel_rfl) rfl rfl (by kernel_rfl) (by kernel_rfl) hst (fun K hK => ?_) (fun K hK => ?_)
          · skip
            refine step_app_wide rfl (.tmp 36) (.tmp 39) 33 rfl 9 i0 _ 1 16 rfl hi hz0 hz1 hz2 rfl (by decide) B (.slice (some ⟨B, 0, none⟩) 0 0) 0 [] rfl own7 A0 P cc B (cB (O.take P)) rfl hl1 hr7 hA1 ho1 (by unfold maxLen; omega) (by omega) hB7 ?_
            intro v7 w7 own8a g7 b7' _
            have b7 := bb.trans b7'
            refine hK.out _ _ (hS _ b7) (fun hSS2 hst2 => ?_)
            clear hst hK K hSS
            have hst := hst2
            have hSS := hSS2
            clear hst2 hSS2
            try simp only [Act.put, List.setIfInBounds_toArray, List.set_cons_zero, List.set_cons_succ]

            have hB7' : B ≤ w7.heap.size := Nat.le_trans hB7 b7'.size
            have b8 : Below B w2 (w7.alloc (.cells #[.string nm] 9)) := b7.alloc hB7' _
            have own8 := own8a.alloc (.cells #[.string nm] 9)
            have src8 := HRF.out _ _ (Whole.new w7 9 #[.string nm])
            have hB8 : B ≤ (w7.alloc (.cells #[.string nm] 9)).heap.size := by have := b8.size; omega
            refine wpAnyG_one (i := 13) (by kernel_rfl) rfl (by kernel_rfl) hst (fun K hK => ?_)
            go_simp
            refine hK.out _ _ (hS _ b8) (fun hSS2 hst2 => ?_)
            clear hst hK K hSS
            have hst := hst2
            have hSS := hSS2
            clear hst2 hSS2
            try simp only [Act.put, List.setIfInBounds_toArray, List.set_cons_zero, List.set_cons_succ]

            refine wpAnyG_one (i := 14) (by kernel_rfl) rfl (by kernel_rfl) hst (fun K hK => ?_)
            refine step_app_wide rfl (.tmp 40) (.tmp 49) 33 rfl 9 i0 _ 1 16 rfl hi hz0 hz1 hz2 rfl (by decide) B v7 (0 + P) ([] ++ cB (O.take P)) rfl own8 _ 1 1 _ (cB [nm]) rfl hlF src8 (fun h => by cases h) hoF (by unfold maxLen; omega) (by omega) hB8 ?_
            intro v9 w9 own9 g9 b9 _
            have b9' := b8.trans b9
            refine hK.out _ _ (hS _ b9') (fun hSS2 hst2 => ?_)
            clear hst hK K hSS
            have hst := hst2
            have hSS := hSS2
            clear hst2 hSS2
            try simp only [Act.put, List.setIfInBounds_toArray, List.set_cons_zero, List.set_cons_succ]
            have hr9 := r2s _ b9'
            have hB9 : B ≤ w9.heap.size := by have := b9'.size; omega
            refine wpAnyG_one (i := 18) (by kernel_rfl) rfl (by kernel_rfl) hst (fun K hK => ?_)
            refine step_app_wide rfl (.tmp 50) (.tmp 53) 33 rfl 9 i0 _ 1 16 rfl hi hz0 hz1 hz2 rfl (by decide) B v9 (0 + P + 1) ([] ++ cB (O.take P) ++ cB [nm]) rfl own9 A2 (m - P) (cc - P) B (cB (O.drop P)) rfl hl2 hr9 hA2 ho2 (by unfold maxLen; omega) (by omega) hB9 ?_
            intro v10 w10 own10 _ b10 _
            have b10' := b9'.trans b10
            have hS10 := hS _ b10'
            refine hK.out _ _ hS10 (fun hSS2 hst2 => ?_)
            clear hst hK K hSS
            have hst := hst2
            have hSS := hSS2
            clear hst2 hSS2
            try simp only [Act.put, List.setIfInBounds_toArray, List.set_cons_zero, List.set_cons_succ]
            rw [List.nil_append, ← HC.out, Nat.zero_add] at own10
            have hfin := HL.out w10 v10 _ b10' own10
            have HF := Lib.hid hfin
            obtain ⟨A10, cc10, rfl⟩ := own_open2 own10
            clear hfin b10 hS10 b10' own10 own9 g9 b9 b9' hr9 hB9 hS r1s r2s hl1 hl2 ho1 ho2 hoF hlF
            refine wpAnyG_last (i := 19) (by kernel_rfl) rfl (by kernel_rfl) (by kernel_rfl) (fun K hK => ?_)
            go_simp
            refine hK.out _ _ ?_
            clear hK K hst hSS
            go_wp2
            trace_state
            exact ⟨⟨k + 1, by omega, by simp, HF.out⟩, by simp [intOf]; omega⟩
          · skip
            go_simp
            have bb2 : Below B w2 ((w2.alloc (.cells #[] 9)).alloc (.cells #[.string nm] 9)).drew := (((Below.refl _ w2).alloc (Nat.le_of_eq hsz.symm) _).alloc (by simp [hsz]) _).drew
            refine hK.out _ _ (hS _ bb2) (fun hSS2 hst2 => ?_)
            clear hst hK K hSS
            have hst := hst2
            have hSS := hSS2
            clear hst2 hSS2
            try simp only [Act.put, List.setIfInBounds_toArray, List.set_cons_zero, List.set_cons_succ]
            have own7b : ((w2.alloc (.cells #[] 9)).alloc (.cells #[.string nm] 9)).drew.ownsRow B 9 1 (.slice (some ⟨B, 0, none⟩) 0 0) 0 [] := own7.alloc _
            have hF7 : Whole ((w2.alloc (.cells #[] 9)).alloc (.cells #[.string nm] 9)).drew (B + 1) 9 #[.string nm] := by
              have := Whole.new (w2.alloc (.cells #[] 9)) 9 #[.string nm]
              rw [show (w2.alloc (.cells #[] 9)).heap.size = B + 1 by simp [hsz]] at this
              exact this

            clear own7 hr7 hB7 bb
            have own7 := own7b
            have bb := bb2
            have hr7 := r1s _ bb
            have hB7 := bb.size
            rw [hsz] at hB7
            refine wpAnyG_one (i := 4) (by kernel_rfl) rfl (by kernel_rfl) hst (fun K hK => ?_)

            refine step_app_wide rfl (.tmp 36) (.tmp 39) 33 rfl 9 i0 _ 1 16 rfl hi hz0 hz1 hz2 rfl (by decide) B (.slice (some ⟨B, 0, none⟩) 0 0) 0 [] rfl own7 A0 P cc B (cB (O.take P)) rfl hl1 hr7 hA1 ho1 (by unfold maxLen; omega) (by omega) hB7 ?_
            intro v7 w7 own8 g7 b7' _
            have b7 := bb.trans b7'
            refine hK.out _ _ (hS _ b7) (fun hSS2 hst2 => ?_)
            clear hst hK K hSS
            have hst := hst2
            have hSS := hSS2
            clear hst2 hSS2
            try simp only [Act.put, List.setIfInBounds_toArray, List.set_cons_zero, List.set_cons_succ]

            have hF8 := hF7.grown g7 (by simp [Value.ownBlock])
            have src8 := HRF.out _ _ hF8
            have b8 := b7
            have hB8 : B ≤ w7.heap.size := Nat.le_trans hB7 b7'.size

            refine wpAnyG_one (i := 14) (by kernel_rfl) rfl (by kernel_rfl) hst (fun K hK => ?_)
            refine step_app_wide rfl (.tmp 40) (.tmp 49) 33 rfl 9 i0 _ 1 16 rfl hi hz0 hz1 hz2 rfl (by decide) B v7 (0 + P) ([] ++ cB (O.take P)) rfl own8 _ 1 1 _ (cB [nm]) rfl hlF src8 (fun h => by cases h) hoF (by unfold maxLen; omega) (by omega) hB8 ?_
            intro v9 w9 own9 g9 b9 _
            have b9' := b8.trans b9
            refine hK.out _ _ (hS _ b9') (fun hSS2 hst2 => ?_)
            clear hst hK K hSS
            have hst := hst2
            have hSS := hSS2
            clear hst2 hSS2
            try simp only [Act.put, List.setIfInBounds_toArray, List.set_cons_zero, List.set_cons_succ]
            have hr9 := r2s _ b9'
            have hB9 : B ≤ w9.heap.size := by have := b9'.size; omega
            refine wpAnyG_one (i := 18) (by kernel_rfl) rfl (by kernel_rfl) hst (fun K hK => ?_)
            refine step_app_wide rfl (.tmp 50) (.tmp 53) 33 rfl 9 i0 _ 1 16 rfl hi hz0 hz1 hz2 rfl (by decide) B v9 (0 + P + 1) ([] ++ cB (O.take P) ++ cB [nm]) rfl own9 A2 (m - P) (cc - P) B (cB (O.drop P)) rfl hl2 hr9 hA2 ho2 (by unfold maxLen; omega) (by omega) hB9 ?_
            intro v10 w10 own10 _ b10 _
            have b10' := b9'.trans b10
            have hS10 := hS _ b10'
            refine hK.out _ _ hS10 (fun hSS2 hst2 => ?_)
            clear hst hK K hSS
            have hst := hst2
            have hSS := hSS2
            clear hst2 hSS2
            try simp only [Act.put, List.setIfInBounds_toArray, List.set_cons_zero, List.set_cons_succ]
            rw [List.nil_append, ← HC.out, Nat.zero_add] at own10
            have hfin := HL.out w10 v10 _ b10' own10
            have HF := Lib.hid hfin
            obtain ⟨A10, cc10, rfl⟩ := own_open2 own10
            clear hfin b10 hS10 b10' own10 own9 g9 b9 b9' hr9 hB9 hS r1s r2s hl1 hl2 ho1 ho2 hoF hlF
            refine wpAnyG_last (i := 19) (by kernel_rfl) rfl (by kernel_rfl) (by kernel_rfl) (fun K hK => ?_)
            go_simp
            refine hK.out _ _ ?_
            clear hK K hst hSS
            go_wp2
            trace_state
            exact ⟨⟨k + 1, by omega, by simp, HF.out⟩, by simp [intOf]; omega⟩
        · skip
          go_simp
          have bb1 : Below B w2 (w2.alloc (.cells #[.string nm] 9)).drew := ((Below.refl _ w2).alloc (Nat.le_of_eq hsz.symm) _).drew
          refine hK.out _ _ (hS _ bb1) (fun hSS2 hst2 => ?_)
          clear hst hK K hSS
          have hst := hst2
          have hSS := hSS2
          clear hst2 hSS2
          try simp only [Act.put, List.setIfInBounds_toArray, List.set_cons_zero, List.set_cons_succ]
          have bb2 : Below B w2 ((w2.alloc (.cells #[.string nm] 9)).alloc (.cells #[] 9)).drew := (((Below.refl _ w2).alloc (Nat.le_of_eq hsz.symm) _).alloc (by simp [hsz]) _).drew
          refine wpAnyG_one (i := 0) (by kernel_rfl) rfl (by kernel_rfl) hst (fun K hK => ?_)
          go_simp
          refine hK.out _ _ (hS _ bb2) (fun hSS2 hst2 => ?_)
          clear hst hK K hSS
          have hst := hst2
          have hSS := hSS2
          clear hst2 hSS2
          try simp only [Act.put, List.setIfInBounds_toArray, List.set_cons_zero, List.set_cons_succ]
          have own7b : ((w2.alloc (.cells #[.string nm] 9)).alloc (.cells #[] 9)).drew.ownsRow B 9 1 (.slice (some ⟨B + 1, 0, none⟩) 0 0) 0 [] := by
            have := HMK.out (w2.alloc (.cells #[.string nm] 9)) (by simp [hsz])
            rw [show (w2.alloc (.cells #[.string nm] 9)).heap.size = B + 1 by simp [hsz]] at this
            exact this
          have hF7 : Whole ((w2.alloc (.cells #[.string nm] 9)).alloc (.cells #[] 9)).drew B 9 #[.string nm] := by
            have := (Whole.new w2 9 #[.string nm]).alloc (.cells #[] 9)
            rw [hsz] at this
            exact this

          have own7 := own7b
          have bb := bb2
          have hr7 := r1s _ bb
          have hB7 := bb.size
          rw [hsz] at hB7
          refine wpAnyG_one (i := 4) (by kernel_rfl) rfl (by kernel_rfl) hst (fun K hK => ?_)

          refine step_app_wide rfl (.tmp 36) (.tmp 39) 33 rfl 9 i0 _ 1 16 rfl hi hz0 hz1 hz2 rfl (by decide) B (.slice (some ⟨B + 1, 0, none⟩) 0 0) 0 [] rfl own7 A0 P cc B (cB (O.take P)) rfl hl1 hr7 hA1 ho1 (by unfold maxLen; omega) (by omega) hB7 ?_
          intro v7 w7 own8 g7 b7' _
          have b7 := bb.trans b7'
          refine hK.out _ _ (hS _ b7) (fun hSS2 hst2 => ?_)
          clear hst hK K hSS
          have hst := hst2
          have hSS := hSS2
          clear hst2 hSS2
          try simp only [Act.put, List.setIfInBounds_toArray, List.set_cons_zero, List.set_cons_succ]

          have hF8 := hF7.grown g7 (by simp [Value.ownBlock])
          have src8 := HRF.out _ _ hF8
          have b8 := b7
          have hB8 : B ≤ w7.heap.size := Nat.le_trans hB7 b7'.size

          refine wpAnyG_one (i := 14) (by kernel_rfl) rfl (by kernel_rfl) hst (fun K hK => ?_)
          refine step_app_wide rfl (.tmp 40) (.tmp 49) 33 rfl 9 i0 _ 1 16 rfl hi hz0 hz1 hz2 rfl (by decide) B v7 (0 + P) ([] ++ cB (O.take P)) rfl own8 _ 1 1 _ (cB [nm]) rfl hlF src8 (fun h => by cases h) hoF (by unfold maxLen; omega) (by omega) hB8 ?_
          intro v9 w9 own9 g9 b9 _
          have b9' := b8.trans b9
          refine hK.out _ _ (hS _ b9') (fun hSS2 hst2 => ?_)
          clear hst hK K hSS
          have hst := hst2
          have hSS := hSS2
          clear hst2 hSS2
          try simp only [Act.put, List.setIfInBounds_toArray, List.set_cons_zero, List.set_cons_succ]
          have hr9 := r2s _ b9'
          have hB9 : B ≤ w9.heap.size := by have := b9'.size; omega
          refine wpAnyG_one (i := 18) (by kernel_rfl) rfl (by kernel_rfl) hst (fun K hK => ?_)
          refine step_app_wide rfl (.tmp 50) (.tmp 53) 33 rfl 9 i0 _ 1 16 rfl hi hz0 hz1 hz2 rfl (by decide) B v9 (0 + P + 1) ([] ++ cB (O.take P) ++ cB [nm]) rfl own9 A2 (m - P) (cc - P) B (cB (O.drop P)) rfl hl2 hr9 hA2 ho2 (by unfold maxLen; omega) (by omega) hB9 ?_
          intro v10 w10 own10 _ b10 _
          have b10' := b9'.trans b10
          have hS10 := hS _ b10'
          refine hK.out _ _ hS10 (fun hSS2 hst2 => ?_)
          clear hst hK K hSS
          have hst := hst2
          have hSS := hSS2
          clear hst2 hSS2
          try simp only [Act.put, List.setIfInBounds_toArray, List.set_cons_zero, List.set_cons_succ]
          rw [List.nil_append, ← HC.out, Nat.zero_add] at own10
          have hfin := HL.out w10 v10 _ b10' own10
          have HF := Lib.hid hfin
          obtain ⟨A10, cc10, rfl⟩ := own_open2 own10
          clear hfin b10 hS10 b10' own10 own9 g9 b9 b9' hr9 hB9 hS r1s r2s hl1 hl2 ho1 ho2 hoF hlF
          refine wpAnyG_last (i := 19) (by kernel_rfl) rfl (by kernel_rfl) (by kernel_rfl) (fun K hK => ?_)
          go_simp
          refine hK.out _ _ ?_
          clear hK K hst hSS
          go_wp2
          trace_state
          exact ⟨⟨k + 1, by omega, by simp, HF.out⟩, by simp [intOf]; omega⟩
    · have tl : decide ((k : Int) < n) = false := decide_eq_false (by omega)
      have hkn : k = n := by omega
      have hall : nmsOf L = O.map lst := by
        have hp := HPERM.out
        rw [List.take_of_length_le (by have := HLEN.out; omega)] at hp
        exact ris_nms HRIS.out hp
      have HALL := Lib.hid hall
      clear hall hkn
      go_wp2
      go_returns
      refine ⟨_, rfl, ?_, HB.out⟩
      rw [HALL.out, cS_lst, List.length_map, ← HM.out]
      have := HOWN.out
      rwa [← HM.out] at this
end
end Go.Proofs.Ytconfkjchjcjgaa
