/- The statement on names that are set and told: for any names, ticks, and ticks behind them, each name is told by just one tick, the first at which all ticks so far reach its own. -/
import Derived.Test.YtconfkjchjcjgaaKOnce
namespace Go.Proofs.Ytconfkjchjcjgaa
open Go.RowKit
set_option linter.unusedVariables false

set_option maxHeartbeats 16000000 in
set_option maxRecDepth 100000 in
theorem konce_walk {A0 A1 A2 : Option Addr} {ss : List ByteArray} {zs ys : List Int} {N n1 n2 c0 c1 c2 : Nat} (w : World) (hN : ss.length = N) (hn1 : zs.length = n1) (hn2 : ys.length = n2) (hNb : N ≤ 9223372036854775807) (hn1b : n1 ≤ 9223372036854775807) (hn2b : n2 ≤ 9223372036854775807)
    (hsz : ∀ s ∈ ss, s.size ≤ 140737488351232) (hs : Rds w w.heap.size A0 (cZ ss)) (hz : Rds w w.heap.size A1 (cI zs)) (hy : Rds w w.heap.size A2 (cI ys)) (hyi : I64 ys) :
    Calls Try.prog 8 #[.slice A0 N c0, .slice A1 n1 c1, .slice A2 n2 c2] w fun e w' => e = .returned (.bool true) ∧ Below w.heap.size w w' := by
  obtain ⟨i0, hi0, hz0, hz1, hz2⟩ := info_parts infoI
  have HN := Lib.hid hN
  have HN1 := Lib.hid hn1
  have HN2 := Lib.hid hn2
  have HSZ' := Lib.hid hsz
  have HSS := Lib.hid hs
  have HZS := Lib.hid hz
  have HYS := Lib.hid hy
  have HYI := Lib.hid hyi
  clear hN hn1 hn2 hsz hs hz hy hyi
  obtain ⟨nm, hnm⟩ : ∃ nm : Nat → ByteArray, ∀ k (hk : k < N), nm k = ss[k]'(by have := HN.out; omega) := ⟨fun k => ss.getD k ⟨#[]⟩, fun k hk => by simp [show k < ss.length by have := HN.out; omega]⟩
  have HNM := Lib.hid hnm
  clear hnm
  go_enter Try.func8, Try.ntmps8
  go_wp2_with fail
  refine (lives_any w).mono ?_
  rintro e w1 ⟨rfl, hb1⟩
  have HB1 := Lib.hid hb1
  clear hb1
  by_cases hbig : 200 < N ∨ 200 < n2
  · by_cases h1 : 200 < N
    · have t1 : decide ((200 : Int) < (N : Int)) = true := decide_eq_true (by omega)
      go_wp2
      go_ret
      exact ⟨rfl, HB1.out⟩
    · have t1 : decide ((200 : Int) < (N : Int)) = false := decide_eq_false (by omega)
      have t2 : decide ((200 : Int) < (n2 : Int)) = true := decide_eq_true (by omega)
      go_wp2
      go_ret
      exact ⟨rfl, HB1.out⟩
  have hN2 : N ≤ 200 := by omega
  have hn22 : n2 ≤ 200 := by omega
  have t1 : decide ((200 : Int) < (N : Int)) = false := decide_eq_false (by omega)
  have t2 : decide ((200 : Int) < (n2 : Int)) = false := decide_eq_false (by omega)
  clear hbig
  go_wp2_with fail
  refine (at_new (w0 := w) HB1.out).mono ?_
  rintro e w2 ⟨b, rfl, h2⟩
  have H2 := Lib.hid h2
  have hb2 := h2.below.size
  clear h2 t1 t2
  go_wp2_with (at_make; go_loud (refine wpList_make_full _ rfl _ _ 61 rfl w.heap.size 3 i0 (.int .i64 0) 1 Try.underlying61 hi0 hz0 hz1 .i64 .i64 _ _ N rfl rfl (by omega) (by omega) (by rw [hz2]; omega) (by unfold maxLen; omega) (by omega) ?_))
  intro w3 hown3 hg3
  have hb3 : Below w2.heap.size w2 w3 := (Below.refl _ _).grown hg3 (Nat.le_refl _) (by simp)
  have hw3 := own_whole hown3
  have HON : Hid (On8 w w3 b w2.heap.size 0 [] 0 (cF (fun _ => 0) N)) := Lib.hid (by
    obtain ⟨⟨S, k1, k2⟩, k3⟩ := H2.out
    refine ⟨⟨S, k1.go hb3, k2, fun hS => by have := k1.lt _ hS; omega⟩, ?_, hb2, k3.trans (hb3.mono hb2)⟩
    have e : (madeCells #[Value.int .i64 0] N).toList = (List.range N).map fun _ => Value.int .i64 0 := by
      have hq := made1 (.int .i64 0) N
      rw [Nat.mul_one] at hq
      rw [hq]
      clear hown3 hw3 hq
      apply List.ext_getElem
      · simp
      · intro i _ _; simp
    rw [e] at hw3
    exact hw3)
  generalize w2.heap.size = gl at *
  clear hw3 hb3 hg3 hown3 hb2 H2
  go_wp2
  go_loopw [9] (fun v wr => ∃ (i : Nat) (F : Nat → Int) (L : List It) (q : Nat), i ≤ N ∧ v = .int .i64 i ∧ On8 w wr b gl 0 L q (cF F N) ∧ Rl F nm N L ∧ (∀ k, i ≤ k → k < N → F k = 0) ∧ q ≤ i) (fun v _ => N - (intOf v).toNat)
  case atStart => exact ⟨0, fun _ => 0, [], 0, by omega, rfl, HON.out, Rl.start nm N, fun _ _ _ => rfl, by omega⟩
  case round =>
    obtain ⟨i, F, L, q, hiN, rfl, ho, hr, hzr, hq⟩ := hrel
    have HO := Lib.hid ho
    have HR := Lib.hid hr
    have HZ := Lib.hid hzr
    clear ho hr hzr
    by_cases hi : i < N
    · obtain ⟨ad, rfl, hlad, hcell⟩ := (HSS.out.below HO.out.below).at_ (cZ_get (show i < ss.length by have := HN.out; omega))
      obtain ⟨s, hs⟩ : ∃ s, ss[i]'(by have := HN.out; omega) = s := ⟨_, rfl⟩
      have HSI : Hid (nm i = s) := Lib.hid (by rw [HNM.out i hi, hs])
      have HSZ : Hid (s.size ≤ 140737488351232) := Lib.hid (by rw [← hs]; exact HSZ'.out _ (List.getElem_mem _))
      rw [hs] at hcell
      clear hs
      by_cases hi1 : i < n1
      · obtain ⟨ad1, rfl, hl1, hc1⟩ := (HZS.out.below HO.out.below).at_ (cI_get (show i < zs.length by have := HN1.out; omega))
        obtain ⟨tv, htv⟩ : ∃ tv, zs[i]'(by have := HN1.out; omega) = tv := ⟨_, rfl⟩
        rw [htv] at hc1
        clear htv
        by_cases hbad : (tv < 1 ∨ 1073741824 < tv) ∨ s.toList.isEmpty = true
        · have CS := Lib.hid (on_setBad HO.out hbad)
          clear hbad
          go_wp2_with (go_at_call 14; refine CS.out.mono ?_; rintro e w' ⟨rfl, rfl⟩)
          exact ⟨⟨i + 1, F, L, q, by omega, by go_num, HO.out, HR.out, fun k h1 h2 => HZ.out k (by omega) h2, by omega⟩, by simp [intOf]; omega⟩
        · have ht1 : 1 ≤ tv ∧ tv ≤ 1073741824 := by
            rcases Int.lt_or_le tv 1 with z | z
            · exact absurd (.inl (.inl z)) hbad
            · rcases Int.lt_or_le 1073741824 tv with z' | z'
              · exact absurd (.inl (.inr z')) hbad
              · exact ⟨z, z'⟩
          have hs0 : s.toList.isEmpty = false := by
            cases e : s.toList.isEmpty
            · rfl
            · exact absurd (.inr e) hbad
          have CS := Lib.hid (on_set HO.out HSZ.out hs0 (by omega) ht1 (by omega))
          have HS0 := Lib.hid hs0
          clear hbad hs0
          go_wp2_with fail
          go_at_call 14
          refine CS.out.mono ?_
          rintro e w4 ⟨rfl, ho4⟩
          have hp4 := ho4.put i (.int .i64 tv)
          rw [cF_set] at hp4
          have fz := ho4.row.frozen i
          have ci : w4.cell? ⟨gl, i, none⟩ = some (.int .i64 (F i)) := by rw [ho4.row.cell i, cF_get F (by omega)]
          have HP4 := Lib.hid hp4
          have HB4 := Lib.hid ho4.below
          have e0 : cF (fun j => if j = i then tv else F j) N = cF (anewF F nm i 0 tv) N := cF_ext fun j hj => by unfold anewF; simp
          rw [e0] at HP4
          clear ho4 hp4 CS e0 hcell
          go_wp2
          go_loopw [11] (fun v wr => ∃ k : Nat, k ≤ i ∧ v = .int .i64 k ∧ On8 w wr b gl 0 (setL L ⟨s, 0 + tv⟩) (q + 1) (cF (anewF F nm i k tv) N)) (fun v _ => i - (intOf v).toNat)
          case atStart => exact ⟨0, by omega, rfl, HP4.out⟩
          case round =>
            obtain ⟨k, hki, rfl, hok⟩ := hrel
            have HK := Lib.hid hok
            clear hok
            by_cases hkl : k < i
            · have hkN : k < N := by omega
              obtain ⟨adk, hAk, hlk, hck⟩ := (HSS.out.below HK.out.below).at_ (cZ_get (show k < ss.length by have := HN.out; omega))
              obtain ⟨adi, hAi, hli, hci⟩ := (HSS.out.below HK.out.below).at_ (cZ_get (show i < ss.length by have := HN.out; omega))
              obtain rfl : ad = adk := Option.some.inj hAk
              obtain rfl : ad = adi := Option.some.inj hAi
              have hsk : ss[k]'(by have := HN.out; omega) = nm k := (HNM.out k hkN).symm
              have hsi : ss[i]'(by have := HN.out; omega) = s := by rw [← HSI.out, HNM.out i (by omega)]
              rw [hsk] at hck
              rw [hsi] at hci
              have ck : wr.cell? ⟨gl, k, none⟩ = some (.int .i64 (anewF F nm i k tv k)) := by rw [HK.out.row.cell k, cF_get _ hkN]
              have fk := HK.out.row.frozen k
              have hki' : k ≠ i := by omega
              clear hAk hAi hsk hsi
              by_cases he : nm k = s
              · have hq : ((nm k).toList == s.toList) = true := by rw [he]; simp
                have hq2 : (nm k).toList = s.toList := by rw [he]
                have e1 : cF (fun j => if j = k then (0 : Int) else anewF F nm i k tv j) N = cF (anewF F nm i (k + 1) tv) N := cF_ext fun j hj => by
                  unfold anewF
                  by_cases h1 : j = k
                  · subst h1
                    rw [if_pos rfl, if_neg hki', if_pos ⟨by omega, by rw [HSI.out]; exact he⟩]
                  · rw [if_neg h1]
                    by_cases h2 : j = i
                    · rw [if_pos h2, if_pos h2]
                    · rw [if_neg h2, if_neg h2]
                      by_cases h3 : j < k ∧ nm j = nm i
                      · rw [if_pos h3, if_pos ⟨by omega, h3.2⟩]
                      · rw [if_neg h3, if_neg fun z => h3 ⟨by omega, z.2⟩]
                have E1 := Lib.hid e1
                clear e1 he
                generalize nm k = sk at *
                go_wp2
                go_quiet (fail)
                have hp := (HK.out.go (bDrewN (Below.refl _ _) nq)).put k (.int .i64 0)
                rw [cF_set, E1.out] at hp
                have HP := Lib.hid hp
                clear hp
                go_wp2
                go_roundw
                case rel => exact ⟨k + 1, by omega, by go_num, HP.out⟩
                case measure => simp [intOf]; omega
              · have hq : ((nm k).toList == s.toList) = false := by
                  rw [lst_toList, lst_toList]
                  simpa using fun e => he (lst_inj e)
                have hq2 : ¬ (nm k).toList = s.toList := by simpa using hq
                have e1 : cF (anewF F nm i k tv) N = cF (anewF F nm i (k + 1) tv) N := cF_ext fun j hj => by
                  unfold anewF
                  by_cases h2 : j = i
                  · rw [if_pos h2, if_pos h2]
                  · rw [if_neg h2, if_neg h2]
                    by_cases h3 : j < k ∧ nm j = nm i
                    · rw [if_pos h3, if_pos ⟨by omega, h3.2⟩]
                    · rw [if_neg h3]
                      rw [if_neg]
                      rintro ⟨z1, z2⟩
                      by_cases h4 : j = k
                      · subst h4
                        rw [HSI.out] at z2
                        exact he z2
                      · exact h3 ⟨by omega, z2⟩
                have hp := HK.out
                rw [e1] at hp
                have HP := Lib.hid hp
                clear hp e1 he ck fk
                generalize nm k = sk at *
                go_wp2
                go_quiet (fail)
                go_wp2
                go_roundw
                case rel => exact ⟨k + 1, by omega, by go_num, HP.out.go (bDrewN (Below.refl _ _) _)⟩
                case measure => simp [intOf]; omega
            · obtain rfl : k = i := by omega
              have hrl := HR.out.set hi (show 0 < tv by omega) HZ.out
              rw [HSI.out] at hrl
              have hfz : ∀ k', k + 1 ≤ k' → k' < N → anewF F nm k k tv k' = 0 := fun k' h1 h2 => by
                unfold anewF
                rw [if_neg (by omega), if_neg (fun z => by omega)]
                exact HZ.out k' (by omega) h2
              have HRL := Lib.hid hrl
              have HFZ := Lib.hid hfz
              have hok := HK.out
              rw [show (0 : Int) + tv = tv by omega] at hok
              have HOK := Lib.hid hok
              clear hrl hfz hok
              go_wp2
              exact ⟨⟨k + 1, _, _, q + 1, by omega, by go_num, HOK.out, HRL.out, HFZ.out, by omega⟩, by simp [intOf]; omega⟩
      · by_cases hbad : ((1 : Int) < 1 ∨ 1073741824 < (1 : Int)) ∨ s.toList.isEmpty = true
        · have CS := Lib.hid (on_setBad HO.out hbad)
          clear hbad
          go_wp2_with (go_at_call 14; refine CS.out.mono ?_; rintro e w' ⟨rfl, rfl⟩)
          exact ⟨⟨i + 1, F, L, q, by omega, by go_num, HO.out, HR.out, fun k h1 h2 => HZ.out k (by omega) h2, by omega⟩, by simp [intOf]; omega⟩
        · have ht1 : 1 ≤ (1 : Int) ∧ (1 : Int) ≤ 1073741824 := by
            rcases Int.lt_or_le (1 : Int) 1 with z | z
            · exact absurd (.inl (.inl z)) hbad
            · rcases Int.lt_or_le 1073741824 (1 : Int) with z' | z'
              · exact absurd (.inl (.inr z')) hbad
              · exact ⟨z, z'⟩
          have hs0 : s.toList.isEmpty = false := by
            cases e : s.toList.isEmpty
            · rfl
            · exact absurd (.inr e) hbad
          have CS := Lib.hid (on_set HO.out HSZ.out hs0 (by omega) ht1 (by omega))
          have HS0 := Lib.hid hs0
          clear hbad hs0
          go_wp2_with fail
          go_at_call 14
          refine CS.out.mono ?_
          rintro e w4 ⟨rfl, ho4⟩
          have hp4 := ho4.put i (.int .i64 (1 : Int))
          rw [cF_set] at hp4
          have fz := ho4.row.frozen i
          have ci : w4.cell? ⟨gl, i, none⟩ = some (.int .i64 (F i)) := by rw [ho4.row.cell i, cF_get F (by omega)]
          have HP4 := Lib.hid hp4
          have HB4 := Lib.hid ho4.below
          have e0 : cF (fun j => if j = i then (1 : Int) else F j) N = cF (anewF F nm i 0 (1 : Int)) N := cF_ext fun j hj => by unfold anewF; simp
          rw [e0] at HP4
          clear ho4 hp4 CS e0 hcell
          go_wp2
          go_loopw [11] (fun v wr => ∃ k : Nat, k ≤ i ∧ v = .int .i64 k ∧ On8 w wr b gl 0 (setL L ⟨s, 0 + (1 : Int)⟩) (q + 1) (cF (anewF F nm i k (1 : Int)) N)) (fun v _ => i - (intOf v).toNat)
          case atStart => exact ⟨0, by omega, rfl, HP4.out⟩
          case round =>
            obtain ⟨k, hki, rfl, hok⟩ := hrel
            have HK := Lib.hid hok
            clear hok
            by_cases hkl : k < i
            · have hkN : k < N := by omega
              obtain ⟨adk, hAk, hlk, hck⟩ := (HSS.out.below HK.out.below).at_ (cZ_get (show k < ss.length by have := HN.out; omega))
              obtain ⟨adi, hAi, hli, hci⟩ := (HSS.out.below HK.out.below).at_ (cZ_get (show i < ss.length by have := HN.out; omega))
              obtain rfl : ad = adk := Option.some.inj hAk
              obtain rfl : ad = adi := Option.some.inj hAi
              have hsk : ss[k]'(by have := HN.out; omega) = nm k := (HNM.out k hkN).symm
              have hsi : ss[i]'(by have := HN.out; omega) = s := by rw [← HSI.out, HNM.out i (by omega)]
              rw [hsk] at hck
              rw [hsi] at hci
              have ck : wr.cell? ⟨gl, k, none⟩ = some (.int .i64 (anewF F nm i k (1 : Int) k)) := by rw [HK.out.row.cell k, cF_get _ hkN]
              have fk := HK.out.row.frozen k
              have hki' : k ≠ i := by omega
              clear hAk hAi hsk hsi
              by_cases he : nm k = s
              · have hq : ((nm k).toList == s.toList) = true := by rw [he]; simp
                have hq2 : (nm k).toList = s.toList := by rw [he]
                have e1 : cF (fun j => if j = k then (0 : Int) else anewF F nm i k (1 : Int) j) N = cF (anewF F nm i (k + 1) (1 : Int)) N := cF_ext fun j hj => by
                  unfold anewF
                  by_cases h1 : j = k
                  · subst h1
                    rw [if_pos rfl, if_neg hki', if_pos ⟨by omega, by rw [HSI.out]; exact he⟩]
                  · rw [if_neg h1]
                    by_cases h2 : j = i
                    · rw [if_pos h2, if_pos h2]
                    · rw [if_neg h2, if_neg h2]
                      by_cases h3 : j < k ∧ nm j = nm i
                      · rw [if_pos h3, if_pos ⟨by omega, h3.2⟩]
                      · rw [if_neg h3, if_neg fun z => h3 ⟨by omega, z.2⟩]
                have E1 := Lib.hid e1
                clear e1 he
                generalize nm k = sk at *
                go_wp2
                go_quiet (fail)
                have hp := (HK.out.go (bDrewN (Below.refl _ _) nq)).put k (.int .i64 0)
                rw [cF_set, E1.out] at hp
                have HP := Lib.hid hp
                clear hp
                go_wp2
                go_roundw
                case rel => exact ⟨k + 1, by omega, by go_num, HP.out⟩
                case measure => simp [intOf]; omega
              · have hq : ((nm k).toList == s.toList) = false := by
                  rw [lst_toList, lst_toList]
                  simpa using fun e => he (lst_inj e)
                have hq2 : ¬ (nm k).toList = s.toList := by simpa using hq
                have e1 : cF (anewF F nm i k (1 : Int)) N = cF (anewF F nm i (k + 1) (1 : Int)) N := cF_ext fun j hj => by
                  unfold anewF
                  by_cases h2 : j = i
                  · rw [if_pos h2, if_pos h2]
                  · rw [if_neg h2, if_neg h2]
                    by_cases h3 : j < k ∧ nm j = nm i
                    · rw [if_pos h3, if_pos ⟨by omega, h3.2⟩]
                    · rw [if_neg h3]
                      rw [if_neg]
                      rintro ⟨z1, z2⟩
                      by_cases h4 : j = k
                      · subst h4
                        rw [HSI.out] at z2
                        exact he z2
                      · exact h3 ⟨by omega, z2⟩
                have hp := HK.out
                rw [e1] at hp
                have HP := Lib.hid hp
                clear hp e1 he ck fk
                generalize nm k = sk at *
                go_wp2
                go_quiet (fail)
                go_wp2
                go_roundw
                case rel => exact ⟨k + 1, by omega, by go_num, HP.out.go (bDrewN (Below.refl _ _) _)⟩
                case measure => simp [intOf]; omega
            · obtain rfl : k = i := by omega
              have hrl := HR.out.set hi (show 0 < (1 : Int) by omega) HZ.out
              rw [HSI.out] at hrl
              have hfz : ∀ k', k + 1 ≤ k' → k' < N → anewF F nm k k (1 : Int) k' = 0 := fun k' h1 h2 => by
                unfold anewF
                rw [if_neg (by omega), if_neg (fun z => by omega)]
                exact HZ.out k' (by omega) h2
              have HRL := Lib.hid hrl
              have HFZ := Lib.hid hfz
              have hok := HK.out
              rw [show (0 : Int) + (1 : Int) = (1 : Int) by omega] at hok
              have HOK := Lib.hid hok
              clear hrl hfz hok
              go_wp2
              exact ⟨⟨k + 1, _, _, q + 1, by omega, by go_num, HOK.out, HRL.out, HFZ.out, by omega⟩, by simp [intOf]; omega⟩
    · obtain rfl : i = N := by omega
      go_wp2
      go_loopw [12, 13] (fun tt vi wr => ∃ (j : Nat) (t : Int) (F : Nat → Int) (L : List It) (q : Nat), j ≤ n2 ∧ vi = .int .i64 j ∧ tt = .int .i64 t ∧ (0 ≤ t ∧ t ≤ j * 1048576) ∧ On8 w wr b gl t L q (cF F i) ∧ Rl F nm i L ∧ q ≤ 200) (fun _ vi _ => n2 - (intOf vi).toNat)
      case atStart => exact ⟨0, 0, F, L, q, by omega, rfl, rfl, by omega, HO.out, HR.out, by omega⟩
      case round =>
        clear HO HR HZ
        obtain ⟨j, t, F, L, q, hj, rfl, rfl, ht, ho, hr, hq2⟩ := hrel
        have HO := Lib.hid ho
        have HR := Lib.hid hr
        clear ho hr
        by_cases hjn : j < n2
        · obtain ⟨ad, rfl, hlad, hcell⟩ := (HYS.out.below HO.out.below).at_ (cI_get (show j < ys.length by have := HN2.out; omega))
          have hyb := HYI.out (ys[j]'(by have := HN2.out; omega)) (List.getElem_mem _)
          obtain ⟨y, hy⟩ : ∃ y, ys[j]'(by have := HN2.out; omega) = y := ⟨_, rfl⟩
          rw [hy] at hcell hyb
          have CP := Lib.hid (pick_any y 1048576 wr (by omega) (by omega) hyb)
          clear hy hyb
          go_wp2_with fail
          go_at_call 24
          refine CP.out.mono ?_
          rintro e w5 ⟨⟨r, rfl, hr1⟩, hw5⟩
          rw [hw5]
          clear hw5 hcell
          have CT := Lib.hid (on_tick HO.out (by omega) (by omega) (t := r) (by omega))
          go_wp2_with fail
          go_at_call 15
          refine CT.out.mono ?_
          rintro e w6 ⟨A3, n3, c3, rfl, hn3, hrow3, ho6⟩
          have HN3 := Lib.hid hn3
          have hcn := HR.out.count (t := t + r) HO.out.facts.1 HO.out.facts.2
          have HCN := Lib.hid hcn
          have HTK := Lib.hid (HR.out.tick (t := t + r) HO.out.facts.1)
          have hn3b : n3 ≤ 200 := by rw [hn3, ← hcn]; have := cnt_le F (t + r) i; omega
          have H6 := Lib.hid ho6
          have HROW := Lib.hid hrow3
          have e0 : cF F i = cF (pastF F (t + r) 0) i := cF_ext fun j hj => by unfold pastF; simp
          rw [e0] at H6
          have HSRT := Lib.hid HO.out.facts.1
          obtain ⟨wb, hwb⟩ : ∃ wb : Nat, wr.heap.size = wb := ⟨_, rfl⟩
          rw [hwb] at HROW
          clear hn3 hcn ho6 hrow3 e0 CT CP HO hwb
          go_wp2
          go_loopw [17, 18] (fun vc vk wr => ∃ k : Nat, k ≤ i ∧ vk = .int .i64 k ∧ vc = .int .i64 (cnt F (t + r) k) ∧ On8 w wr b gl (t + r) (rest (t + r) L) q (cF (pastF F (t + r) k) i) ∧ wr.ownsRow wb 9 1 (.slice A3 n3 c3) n3 (cT (due (t + r) L))) (fun _ vk _ => i - (intOf vk).toNat)
          case atStart => exact ⟨0, by omega, rfl, rfl, H6.out, HROW.out⟩
          case round =>
            obtain ⟨k, hk, rfl, rfl, hok, hrow⟩ := hrel
            have HK := Lib.hid hok
            have HRW := Lib.hid hrow
            have hcl := cnt_le F (t + r) k
            have hcs := cnt_succ F (t + r) k
            have HCS := Lib.hid hcs
            clear hok hrow hcs
            by_cases hki : k < i
            · have ck : wr.cell? ⟨gl, k, none⟩ = some (.int .i64 (F k)) := by
                rw [HK.out.row.cell k, cF_get _ hki]
                unfold pastF
                rw [if_neg (fun z => by omega)]
              have fk := HK.out.row.frozen k
              obtain ⟨adk, hAk, hlk, hck⟩ := (HSS.out.below HK.out.below).at_ (cZ_get (show k < ss.length by have := HN.out; omega))
              have hsk : ss[k]'(by have := HN.out; omega) = nm k := (HNM.out k hki).symm
              rw [hsk] at hck
              subst hAk
              clear hsk
              obtain ⟨x, hx⟩ : ∃ x, F k = x := ⟨_, rfl⟩
              by_cases hact : 0 < F k ∧ F k ≤ t + r
              · have hin : (⟨nm k, F k⟩ : It) ∈ due (t + r) L := (mem_due HSRT.out).2 ⟨HR.out.to k hki hact.1, hact.2⟩
                have hp := HK.out.put k (.int .i64 0)
                rw [cF_set] at hp
                have e1 : cF (fun j => if j = k then (0 : Int) else pastF F (t + r) k j) i = cF (pastF F (t + r) (k + 1)) i := cF_ext fun j hj => by
                  unfold pastF
                  by_cases h1 : j = k
                  · subst h1
                    rw [if_pos rfl, if_pos ⟨by omega, hact⟩]
                  · rw [if_neg h1]
                    by_cases h2 : j < k ∧ 0 < F j ∧ F j ≤ t + r
                    · rw [if_pos h2, if_pos ⟨by omega, h2.2⟩]
                    · rw [if_neg h2, if_neg fun z => h2 ⟨by omega, z.2⟩]
                rw [e1] at hp
                have hcc : cnt F (t + r) (k + 1) = cnt F (t + r) k + 1 := by rw [HCS.out, if_pos hact]
                have hrw2 : (wr.setCell ⟨gl, k, none⟩ (.int .i64 0)).ownsRow wb 9 1 (.slice A3 n3 c3) n3 (cT (due (t + r) L)) := ownRow_block_kept HRW.out fun g hg => Below.heap_setCell _ _ _ _ (ownRow_ne HRW.out hg HK.out.row (by decide))
                have hck2 : (wr.setCell ⟨gl, k, none⟩ (.int .i64 0)).cell? (adk.add k) = some (.string (nm k)) := by
                  rw [World.cell?_of_block (Below.heap_setCell _ _ _ _ (by rw [blk_add]; show adk.block ≠ gl; have := HK.out.glB; omega))]
                  exact hck
                have CH := Lib.hid (has_any (n := n3) (c := c3) (nm k) (wr.setCell ⟨gl, k, none⟩ (.int .i64 0)) HN3.out.symm (by omega) (Rds.ofOwn hrw2) ⟨_, hin, rfl⟩)
                rw [hx] at ck hact
                obtain ⟨a1, a2⟩ := hact
                have u1 : decide (0 < x) = true := decide_eq_true a1
                have u2 : decide (x ≤ t + r) = true := decide_eq_true a2
                have HP := Lib.hid hp
                have HCC := Lib.hid hcc
                have HRW2 := Lib.hid hrw2
                clear hx hin hp e1 hcc hrw2
                go_wp2_with fail
                go_at_call 31
                refine CH.out.mono ?_
                rintro e w7 ⟨rfl, rfl⟩
                go_wp2
                go_roundw
                case rel => exact ⟨k + 1, by omega, by go_num, by rw [HCC.out]; go_num, HP.out, HRW2.out⟩
                case measure => simp [intOf]; omega
              · have e1 : cF (pastF F (t + r) k) i = cF (pastF F (t + r) (k + 1)) i := cF_ext fun j hj => by
                  unfold pastF
                  by_cases h2 : j < k ∧ 0 < F j ∧ F j ≤ t + r
                  · rw [if_pos h2, if_pos ⟨by omega, h2.2⟩]
                  · rw [if_neg h2, if_neg]
                    rintro ⟨z1, z2⟩
                    by_cases h4 : j = k
                    · rw [h4] at z2; exact hact z2
                    · exact h2 ⟨by omega, z2⟩
                have hp := HK.out
                rw [e1] at hp
                have hcc : cnt F (t + r) (k + 1) = cnt F (t + r) k := by rw [HCS.out, if_neg hact]; rfl
                have HP := Lib.hid hp
                have HCC := Lib.hid hcc
                rw [hx] at ck hact
                clear hx hp e1 hcc
                by_cases a1 : 0 < x
                · have u1 : decide (0 < x) = true := decide_eq_true a1
                  have u2 : decide (x ≤ t + r) = false := decide_eq_false fun z => hact ⟨a1, z⟩
                  clear hact
                  go_wp2
                  go_roundw
                  case rel => exact ⟨k + 1, by omega, by go_num, by rw [HCC.out], HP.out, HRW.out⟩
                  case measure => simp [intOf]; omega
                · have u1 : decide (0 < x) = false := decide_eq_false a1
                  clear hact a1
                  go_wp2
                  go_roundw
                  case rel => exact ⟨k + 1, by omega, by go_num, by rw [HCC.out], HP.out, HRW.out⟩
                  case measure => simp [intOf]; omega
            · obtain rfl : k = i := by omega
              have hceq : cnt F (t + r) k = n3 := by rw [HCN.out, ← HN3.out]
              have t5 : ((cnt F (t + r) k : Int) != (n3 : Int)) = false := by rw [hceq]; simp
              clear hceq
              generalize cnt F (t + r) k = cc at *
              go_wp2
              exact ⟨⟨j + 1, t + r, _, _, q, by omega, by go_num, rfl, by omega, HK.out, HTK.out, by omega⟩, by simp [intOf]; omega⟩
        · go_wp2
          go_ret
          exact ⟨rfl, HO.out.below⟩

open Go.ChangeShapes Go.WideShapes Go.ChangeAt
set_option maxRecDepth 100000 in
theorem konce_lifted (os : Os) (started : os.Started) (H : Type) (enc : TypeId × Value → H) :
    ReturnsInHanded {} Try.checked os 8 .any (Rows.clockOnceSpec.pre6 enc Try.prog Try.f8 Rows.clockOnceRow.domain false) (Rows.clockOnceSpec.post enc Try.prog Try.f8 false true false false) := by
  refine returnsInHanded_of_change_sized (C := Try.checked) own started (by kernel_rfl) Try.func8
    (ChangeSpec.witness6 (enc := enc) (C := Try.checked) false ⟨#[], #[.slice none 0 0, .slice none 0 0, .slice none 0 0], []⟩ 8 (by kernel_rfl) (by kernel_rfl) (by kernel_rfl) (by kernel_rfl)) ?_
  intro W base args ds gs before hval0 hW _ hsz0 _
  have hsz : (DataW.weightsEach Try.prog (Try.f8.params.toList ++ Rows.clockOnceSpec.plain.varTypes Try.prog) (ds ++ gs)).all (· ≤ reachBytes) = true := hsz0
  have hval : ∀ (j : Nat) t v, Try.f8.params[j]? = some t → args[j]? = some v → Value.okWide Try.prog W .any base t v := hval0
  have hW' := hW
  obtain ⟨p, q, hA0, hV, rfl, _, _⟩ := hW
  have hA : DataW.TrodAll enc Try.prog W 0 (fun _ => true) true Try.f8.params.toList args.toList ds p := hA0
  rw [Try.params8] at hA hval hsz
  obtain ⟨v0, vs0, d0, ds0, p0, q0, hargs, rfl, rfl, h0, r0⟩ := trodAll_cons hA
  obtain ⟨v1, vs1, d1, ds1, p1, q1, rfl, rfl, rfl, h1, r1⟩ := trodAll_cons r0
  obtain ⟨v2, vs2, d2, ds2, p2, q2, rfl, rfl, rfl, h2, r2⟩ := trodAll_cons r1
  obtain ⟨rfl, rfl, rfl⟩ := trodAll_nil r2
  obtain rfl : args = #[v0, v1, v2] := by cases args; simp_all
  obtain ⟨A0, ss0, c0, hz0⟩ := open_texts (hval 0 33 v0 rfl rfl) h0 (sized_mem hsz (j := 0) (t := 33) rfl rfl)
  obtain rfl := hz0.val
  obtain ⟨A1, zs1, c1, hn1⟩ := open_nums Try.underlying61 Try.underlying3 cellsN (hval 1 61 v1 rfl rfl) h1
  have hl1 := hn1.reach hsz (j := 1) (t := 61) (e := 3) rfl rfl Try.underlying61 bytesN
  obtain rfl := hn1.val
  obtain ⟨A2, zs2, c2, hn2⟩ := open_nums Try.underlying61 Try.underlying3 cellsN (hval 2 61 v2 rfl rfl) h2
  have hl2 := hn2.reach hsz (j := 2) (t := 61) (e := 3) rfl rfl Try.underlying61 bytesN
  obtain rfl := hn2.val
  exact law_close laid rfl hW' (by kernel_rfl) rfl Try.underlying4 rfl (konce_walk W rfl rfl rfl hz0.len (by omega) (by omega) hz0.size hz0.rds hn1.rds hn2.rds hn2.i64)

theorem clockOnce_holds : Rows.ClockOnceSaid :=
  OpenClaim.holds_of_wide 8 Try.f8 rfl rfl rfl rfl rfl rfl rfl ⟨rfl, rfl, rfl, rfl, rfl⟩ rfl rfl rfl rfl rfl (by kernel_rfl) Try.func8 (by kernel_rfl)
    (of_decide_eq_true (by kernel_rfl)) (by unfold Func.isWrapper; first | (rw [if_pos (by decide +kernel)]; kernel_rfl) | (rw [if_neg (by decide +kernel)]; exact ⟨rfl, rfl⟩))
    (fun os started H enc _ => konce_lifted os started H enc)

#print axioms clockOnce_holds
end Go.Proofs.Ytconfkjchjcjgaa
