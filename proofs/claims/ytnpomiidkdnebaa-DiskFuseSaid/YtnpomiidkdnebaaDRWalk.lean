/- Walks over the document's tests and searches. -/
import Derived.Test.YtnpomiidkdnebaaDRObj
import Derived.Test.YtnpomiidkdnebaaDSameT
import Derived.Laws.Cover1
import Derived.Sort.Walk0
namespace Go.Proofs.Ytnpomiidkdnebaa
open Go.RowKit
set_option linter.unusedVariables false

set_option maxHeartbeats 800000 in
theorem rname_any (s : ByteArray) (hs : s.size ≤ 9223372036854775807) (w : World) :
    Calls Try.prog 74 #[.string s] w fun e w' => e = .returned (.bool (okN (lst s))) ∧ ∃ n, w' = w.drewN n := by
  change Calls _ _ _ _ fun e w' => e = .returned (.bool (okN s.data.toList)) ∧ ∃ n, w' = w.drewN n
  have hsz : s.size = s.data.toList.length := by simp
  by_cases h0 : s.size < 1
  · have hn : s.data.toList = [] := List.eq_nil_of_length_eq_zero (by omega)
    have hf : okN s.data.toList = false := by rw [hn]; rfl
    have h0' : (s.size : Int) < 1 := by omega
    rw [hf]
    clear hf hn hsz h0
    go_enter Try.func74, Try.ntmps74
    go_wp2
    go_returns
    exact ⟨by simp, 0, rfl⟩
  · have h0' : ¬ (s.size : Int) < 1 := by omega
    by_cases h24 : 24 < s.size
    · rw [okN_long (by omega)]
      have h24' : (24 : Int) < s.size := by omega
      clear hsz h24
      go_enter Try.func74, Try.ntmps74
      go_wp2
      go_returns
      exact ⟨by simp, 0, rfl⟩
    · rw [okN_short (by omega) (by omega)]
      have h24' : ¬ (24 : Int) < s.size := by omega
      have HS := Lib.hid hsz
      generalize hr : s.data.toList.all okB = r
      have HR := Lib.hid hr
      clear hsz h24 h0 hr
      go_enter Try.func74, Try.ntmps74
      go_wp2
      go_loopw [3] (fun i wr => ∃ k : Nat, k ≤ s.size ∧ i = .int .i64 k ∧ (s.data.toList.take k).all okB = true ∧ ∃ n, wr = w.drewN n) (fun i _ => s.size - (intOf i).toNat)
      case atStart => exact ⟨0, Nat.zero_le _, rfl, rfl, 0, rfl⟩
      case round =>
        obtain ⟨k, hk, rfl, hall, n, rfl⟩ := hrel
        have HA := Lib.hid hall
        clear hall
        by_cases hlt : k < s.size
        · have hg : s.data[k]'(by exact hlt) = s.data.toList[k]'(by rw [← HS.out]; exact hlt) := by simp
          have hkl : k < s.data.toList.length := by rw [← HS.out]; exact hlt
          have hb : okB (s.data.toList[k]'hkl) = decide (33 ≤ ((s[k]'hlt).toNat : Int) ∧ ((s[k]'hlt).toNat : Int) ≤ 126) := by
            have e : s[k]'hlt = s.data.toList[k]'hkl := by rw [← hg]; rfl
            rw [e]
            simp only [okB, Bool.decide_and]
            congr 1 <;> exact decide_eq_decide.2 (by omega)
          have bad : okB (s.data.toList[k]'hkl) = false → s.data.toList.all okB = false := fun h => by
            rw [List.all_eq_false]
            exact ⟨_, List.getElem_mem hkl, by rw [h]; decide⟩
          have HB := Lib.hid hb
          have HBad := Lib.hid bad
          clear hg hb bad
          go_wp2
          all_goals first
            | (go_roundw
               case rel =>
                 refine ⟨k + 1, by omega, by go_num, ?_, n, rfl⟩
                 rw [List.take_add_one, List.getElem?_eq_getElem hkl, List.all_append, HA.out]
                 simp only [Option.toList_some, List.all_cons, List.all_nil, Bool.and_true, Bool.true_and]
                 rw [HB.out]
                 exact decide_eq_true (by omega)
               case measure => simp [intOf]; omega)
            | (go_ret
               refine ⟨?_, n, rfl⟩
               rw [← HR.out, HBad.out (by rw [HB.out]; exact decide_eq_false (by omega))]
               rfl)
        · go_wp2
          go_ret
          refine ⟨?_, n, rfl⟩
          have := HA.out
          rw [List.take_of_length_le (by rw [← HS.out]; omega)] at this
          rw [← HR.out, this]
          rfl

section
variable {S : Nat → Prop} {x : Nat} {v : Value} {rs : List RFl} {fz : Int} {D : Dsk}

set_option maxHeartbeats 1000000 in
theorem rasked_any (ss : List Txt) (b n c : Nat) (w : World) (h : RfAt w S x v rs fz D) (hn : ss.length = n) (hbig : n ≤ 9223372036854775806) (hc : ∀ j, j < ss.length → w.cell? ⟨b, j, none⟩ = some (encT ss[j]!)) :
    Calls Try.prog 68 #[.pointer (some ⟨x, 0, none⟩), .slice (some ⟨b, 0, none⟩) n c] w fun e w' => e = .returned (.int .i64 (ask D (ss.map (lst ·.1)))) ∧ ∃ q, w' = w.drewN q := by
  have c4 := h.c4
  cases ho : D.off
  · have ha : ask D (ss.map (lst ·.1)) = if (ss.map (lst ·.1)).all okN then 0 else 2 := by simp [ask, ho]
    rw [ha]
    rw [ho] at c4
    have HN := Lib.hid hn
    have HC := Lib.hid hc
    generalize hr : (if (ss.map (lst ·.1)).all okN then (0 : Int) else 2) = r
    have HR := Lib.hid hr
    have hb' : (n : Int) ≤ 9223372036854775806 := by omega
    clear ha hn hc ho hr
    go_enter Try.func68, Try.ntmps68
    go_wp2
    go_loopw [5] (fun i wr => ∃ k : Nat, k ≤ n ∧ i = .int .i64 k ∧ ((ss.take k).map (lst ·.1)).all okN = true ∧ ∃ q, wr = w.drewN q) (fun i _ => n - (intOf i).toNat)
    case atStart => exact ⟨0, Nat.zero_le _, rfl, rfl, 0, rfl⟩
    case round =>
      obtain ⟨k, hk, rfl, hall, q, rfl⟩ := hrel
      have HA := Lib.hid hall
      clear hall
      by_cases hlt : k < n
      · have hkl : k < ss.length := by rw [HN.out]; exact hlt
        have hcell : w.cell? ⟨b, k, none⟩ = some (.string (ss[k]!).1) := HC.out k hkl
        have hgk : ss[k]! = ss[k] := by simp [hkl]
        have HG := Lib.hid hgk
        clear hgk
        have hT := (ss[k]!).2
        have hcon := rname_any (ss[k]!).1 hT (w.drewN q)
        cases hok : okN (lst (ss[k]!).1)
        · rw [hok] at hcon
          have hf : (ss.map (lst ·.1)).all okN = false := by
            rw [List.all_eq_false]
            exact ⟨lst (ss[k]!).1, List.mem_map.2 ⟨ss[k]!, by rw [HG.out]; exact List.getElem_mem hkl, rfl⟩, by rw [hok]; decide⟩
          have HF := Lib.hid hf
          clear hf hok
          generalize (ss[k]!).1 = t at *
          go_wp2_with fail
          refine hcon.mono ?_
          rintro e w1 ⟨rfl, m, rfl⟩
          go_wp2
          go_returns
          refine ⟨?_, q + m, rfl⟩
          rw [← HR.out, HF.out]
          simp
        · rw [hok] at hcon
          have HOK := Lib.hid hok
          clear hok
          generalize ht : (ss[k]!).1 = t at *
          have HTT := Lib.hid ht
          clear ht
          go_wp2_with fail
          refine hcon.mono ?_
          rintro e w1 ⟨rfl, m, rfl⟩
          go_wp2
          go_roundw
          case rel =>
            refine ⟨k + 1, by omega, by go_num, ?_, q + m, rfl⟩
            rw [List.take_add_one, List.getElem?_eq_getElem hkl, List.map_append, List.all_append, HA.out]
            simp only [Option.toList_some, List.map_cons, List.map_nil, List.all_cons, List.all_nil, Bool.and_true, Bool.true_and]
            rw [← HG.out, HTT.out]
            exact HOK.out
          case measure => simp [intOf]; omega
      · go_wp2
        go_returns
        refine ⟨?_, q, rfl⟩
        have := HA.out
        rw [List.take_of_length_le (by rw [HN.out]; omega)] at this
        rw [← HR.out, this]
        simp
  · have ha : ask D (ss.map (lst ·.1)) = 10 := by simp [ask, ho]
    rw [ha]
    rw [ho] at c4
    clear ho ha hc
    go_enter Try.func68, Try.ntmps68
    go_wp2
    go_returns
    exact ⟨by simp, 0, rfl⟩

set_option maxHeartbeats 1000000 in
set_option maxRecDepth 5000 in
theorem rplace_any (s : ByteArray) (w : World) (h : RfAt w S x v rs fz D) (hs : Srt D.files) :
    Calls Try.prog 69 #[.pointer (some ⟨x, 0, none⟩), .string s] w fun e w' => e = .returned (.tuple #[.int .i64 (pos D.files (lst s)), .bool (hit D.files (lst s))]) ∧ w' = w := by
  have c1 := h.c1
  obtain ⟨A, c, rfl, hr, hnc, hcm, hA0, hA⟩ := own_open3 h.own
  have hlen := h.len
  have hc63 : rs.length ≤ 9223372036854775807 := by unfold maxLen at hcm; omega
  have hsl : s.toList = lst s := Lib.toList_data s
  have hnm : ∀ k (hk : k < rs.length), D.files[k]? = some rs[k].f := fun k hk => h.nm hk
  have HF := Lib.hid hnm
  obtain ⟨n, hn⟩ : ∃ n, n = rs.length := ⟨_, rfl⟩
  rw [← hn] at c1 hnc hc63
  have HN := Lib.hid hn
  have HL := Lib.hid hlen
  have HSL := Lib.hid hsl
  clear hn hlen hA0 hA h hsl hnm
  go_enter Try.func69, Try.ntmps69
  go_wp2
  go_loop [6] (fun i => ∃ k : Nat, k ≤ n ∧ i = .int .i64 k ∧ ∀ j (hj : j < D.files.length), j < k → D.files[j].nm < lst s) (fun i => n - (intOf i).toNat)
  case atStart => exact ⟨0, Nat.zero_le _, rfl, fun j _ h => absurd h (by omega)⟩
  case round =>
    obtain ⟨k, hk, rfl, hall⟩ := hrel
    have HA := Lib.hid hall
    clear hall
    by_cases hlt : k < n
    · have hkr : k < rs.length := by rw [← HN.out]; exact hlt
      have hkf : k < D.files.length := by rw [← HL.out]; exact hkr
      obtain ⟨ad, rfl, _, hcell⟩ := hr.at_ (cR_get0 hkr)
      have hfk : D.files[k] = rs[k].f := by
        have := HF.out k hkr
        rw [List.getElem?_eq_getElem hkf] at this
        exact Option.some.inj this
      have hXl : (⟨rs[k].f.nm.toArray⟩ : ByteArray).toList = D.files[k].nm := by rw [hfk]; exact encStr_toList _
      have hbl : Op.bytesLess (⟨rs[k].f.nm.toArray⟩ : ByteArray).toList s.toList = decide (D.files[k].nm < lst s) := by rw [hXl, HSL.out]; exact bytesLess_eq _ _
      have heq : (⟨rs[k].f.nm.toArray⟩ : ByteArray).toList = s.toList ↔ D.files[k].nm = lst s := by rw [hXl, HSL.out]
      have hbefore : ∀ j (hj : j < D.files.length), j < k → D.files[j].nm < lst s := HA.out
      · by_cases h1 : D.files[k].nm = lst s
        · have hq2 : (⟨rs[k].f.nm.toArray⟩ : ByteArray).toList = s.toList := heq.2 h1
          have hq1 : ((⟨rs[k].f.nm.toArray⟩ : ByteArray).toList == s.toList) = true := by simpa using hq2
          have hp : pos D.files (lst s) = k := pos_eq _ _ _ (by omega) hbefore (fun _ => by rw [h1]; exact List.lt_irrefl _)
          have hh : hit D.files (lst s) = true := by unfold hit; rw [find_nil_at hs hkf h1]; rfl
          have HP := Lib.hid hp
          have HH := Lib.hid hh
          clear hXl hbl heq hbefore h1 hp hh hfk
          generalize (⟨rs[k].f.nm.toArray⟩ : ByteArray) = X at *
          go_wp2
          go_returns
          exact ⟨by rw [HP.out, HH.out]; simp, rfl⟩
        · have hq2 : ¬ (⟨rs[k].f.nm.toArray⟩ : ByteArray).toList = s.toList := fun e => h1 (heq.1 e)
          have hq1 : ((⟨rs[k].f.nm.toArray⟩ : ByteArray).toList == s.toList) = false := by simpa using hq2
          by_cases h2 : D.files[k].nm < lst s
          · rw [decide_eq_true h2] at hbl
            have H2 := Lib.hid h2
            clear hXl heq h1 h2 hfk hbefore
            generalize (⟨rs[k].f.nm.toArray⟩ : ByteArray) = X at *
            go_wp2
            go_round
            case rel =>
              refine ⟨k + 1, by omega, by go_num, fun j hj hjk => ?_⟩
              rcases Nat.lt_or_ge j k with h | h
              · exact HA.out j hj h
              · obtain rfl : j = k := by omega
                exact H2.out
            case measure => simp [intOf]; omega
          · rw [decide_eq_false h2] at hbl
            have hp : pos D.files (lst s) = k := pos_eq _ _ _ (by omega) hbefore (fun _ => h2)
            have hh : hit D.files (lst s) = false := by
              unfold hit
              cases hf : find D.files (lst s) with
              | none => rfl
              | some f =>
                exfalso
                have h3 := find_at hs hf
                rw [hp, List.getElem?_eq_getElem hkf] at h3
                obtain rfl := Option.some.inj h3
                exact h1 (find_some hf).2
            have HP := Lib.hid hp
            have HH := Lib.hid hh
            clear hXl heq h1 h2 hfk hbefore hp hh
            generalize (⟨rs[k].f.nm.toArray⟩ : ByteArray) = X at *
            go_wp2
            go_returns
            exact ⟨by rw [HP.out, HH.out]; simp, rfl⟩
    · obtain rfl : k = n := by omega
      have hp : pos D.files (lst s) = k := pos_eq _ _ _ (by have := HN.out; have := HL.out; omega) HA.out (fun h => absurd h (by have := HN.out; have := HL.out; omega))
      have hh : hit D.files (lst s) = false := by
        unfold hit
        cases hf : find D.files (lst s) with
        | none => rfl
        | some f =>
          exfalso
          have h3 := pos_lt_len hs hf
          have := HN.out
          have := HL.out
          omega
      have HP := Lib.hid hp
      have HH := Lib.hid hh
      clear hp hh
      go_wp2
      go_returns
      exact ⟨by rw [HP.out, HH.out]; simp, rfl⟩
end
end Go.Proofs.Ytnpomiidkdnebaa
