/- The walks over the document's own Ends of frames, and the kit's SameInts. -/
import Derived.Test.YtbmllljieoeihaaFRef3
import Derived.Test.YtbmllljieoeihaaFBack
namespace Go.Proofs.Ytbmllljieoeihaa
open Go.RowKit
set_option linter.unusedVariables false

theorem refscan_len (A : Option Addr) (zs : List Int) (n c : Nat) (w : World) (hn : zs.length = n) (hl : n ≤ 1099511627776) (hc : n ≤ c) (hz : Byt zs) (hr : Rds w w.heap.size A (c8 zs)) :
    Calls Try.prog 18 #[.slice A n c] w fun e w' => ∃ A' c' rs, e = .returned (.tuple #[.slice A' rs.length c', .int .i64 ((scn zs).2.1 : Nat), .int .i64 ((scn zs).2.2 : Nat)]) ∧
      rs.map FR.f = (scn zs).1 ∧ w'.ownsRow w.heap.size 28 2 (.slice A' rs.length c') rs.length (cF rs) ∧ Bds w' w.heap.size rs ∧ Below w.heap.size w w' := by
  subst hn
  exact refscan_any A zs c w hl hc hz hr

theorem fbs_take_le (fs : List Fr) (j : Nat) : (fbs (fs.take j)).length ≤ (fbs fs).length := by
  have h : fbs fs = fbs (fs.take j) ++ fbs (fs.drop j) := by rw [← fbs_append, List.take_append_drop]
  rw [h, List.length_append]
  omega
theorem scn_size : ∀ (n : Nat) (b : List Int), b.length ≤ n → (fbs (scn b).1).length ≤ b.length
  | n, b, hn => by
    by_cases hE : (mea b).2 = 0
    · have h12 := mea_le hE
      have hfl := fra_length hE
      rw [scn_more hE]
      have e : fbs (fra b :: (scn (b.drop (mea b).1)).1) = fby (fra b) ++ fbs (scn (b.drop (mea b).1)).1 := by simp [fbs]
      match n with
      | 0 => omega
      | n + 1 =>
        have ih := scn_size n (b.drop (mea b).1) (by rw [List.length_drop]; omega)
        rw [List.length_drop] at ih
        show (fbs (fra b :: (scn (b.drop (mea b).1)).1)).length ≤ _
        rw [e, List.length_append, fby_length]
        omega
    · rw [scn_end hE]
      simp [fbs]

set_option maxHeartbeats 1600000 in
theorem refends_any (A : Option Addr) (zs : List Int) (n c : Nat) (w : World) (hn : zs.length = n) (hl : n ≤ 1099511627776) (hc : n ≤ c) (hz : Byt zs) (hr : Rds w w.heap.size A (c8 zs)) :
    Calls Try.prog 22 #[.slice A n c] w fun e w' => ∃ A' c', e = .returned (.slice A' (plc 0 (scn zs).1).length c') ∧ w'.ownsRow w.heap.size 3 1 (.slice A' (plc 0 (scn zs).1).length c') (plc 0 (scn zs).1).length (cI (plc 0 (scn zs).1)) ∧ Below w.heap.size w w' := by
  obtain ⟨i0, hi, hz0, hz1, hz2⟩ := info_parts info3
  have hS := refscan_len A zs n c w hn hl hc hz hr
  have hsz := scn_size zs.length zs (Nat.le_refl _)
  rw [hn] at hsz
  go_enter Try.func22, Try.ntmps22
  go_wp2_with fail
  refine hS.mono ?_
  rintro e w2 ⟨A2, c2, rs, rfl, hm, hrow2, hbd2, hb2⟩
  have hrd := Rdf.ofOwn hrow2 hbd2
  rw [← hm] at hsz
  have HM := Lib.hid hm
  have hrl : rs.length * 12 ≤ (fbs (rs.map FR.f)).length := by
    have : ∀ fs : List Fr, fs.length * 12 ≤ (fbs fs).length := by
      intro fs
      induction fs with
      | nil => simp [fbs]
      | cons f r ih =>
        have e : (fbs (f :: r)).length = f.body.length + 12 + (fbs r).length := by simp [fbs, fby_length]
        rw [e, List.length_cons]
        omega
    have h := this (rs.map FR.f)
    rwa [List.length_map] at h
  have hbs := hb2.size
  clear hS hm hrow2 hbd2 hz hr
  go_wp2
  go_loopw [6, 7, 8] (fun l a i wr => ∃ (j N : Nat) (L : List Int) (v : Value), j ≤ rs.length ∧ N = (fbs ((rs.map FR.f).take j)).length ∧ v = l ∧ a = .int .i64 N ∧ i = .int .i64 j ∧ plc 0 (rs.map FR.f) = L ++ plc N ((rs.map FR.f).drop j) ∧ L.length = j ∧ wr.ownsRow w2.heap.size 3 1 v L.length (cI L) ∧ Below w2.heap.size w2 wr) (fun _ _ i _ => rs.length - (intOf i).toNat)
  case atStart => exact ⟨0, 0, [], .slice none 0 0, by omega, by simp [fbs], rfl, rfl, rfl, by simp, rfl, ⟨rfl, .inl ⟨rfl, rfl⟩⟩, Below.refl _ _⟩
  case round =>
    obtain ⟨j, N, L, v, hj, hN, rfl, rfl, rfl, hpl, hL, hrow, hb⟩ := hrel
    have HPL := Lib.hid hpl
    have HN := Lib.hid hN
    have hNl : N ≤ 1099511627776 := by
      have := fbs_take_le (rs.map FR.f) j
      omega
    clear hpl hN
    by_cases hlt : j < rs.length
    · have hr1 : Rdf wr w2.heap.size A2 rs := hrd.below hb
      obtain ⟨ad, rfl, _, hc0, hc1⟩ := hr1.at_ hlt
      have hjm : j < (rs.map FR.f).length := by simpa using hlt
      have hgm : (rs.map FR.f)[j] = rs[j].f := by simp
      have HNX := Lib.hid (show plc N ((rs.map FR.f).drop j) = ((N + (rs[j].f.body.length + 12) : Nat) : Int) :: plc (N + (rs[j].f.body.length + 12)) ((rs.map FR.f).drop (j + 1)) by
        rw [List.drop_eq_getElem_cons hjm, plc, hgm])
      have HN2 := Lib.hid (show N + (rs[j].f.body.length + 12) = (fbs ((rs.map FR.f).take (j + 1))).length by
        rw [List.take_add_one, List.getElem?_eq_getElem hjm, Option.toList_some, fbs_snoc, List.length_append, fby_length, hgm, ← HN.out])
      have hN2l : N + (rs[j].f.body.length + 12) ≤ 1099511627776 := by
        have := fbs_take_le (rs.map FR.f) (j + 1)
        rw [HN2.out]
        omega
      generalize rs[j].f.body.length = m at *
      generalize rs[j].A = D at *
      generalize rs[j].c = x at *
      generalize rs[j].f.k = kk at *
      have hBs := hb.size
      have HV := Lib.hid (show (N : Int) + (m : Int) + 12 = ((N + (m + 12) : Nat) : Int) by omega)
      go_wp2_with (at_builtin; go_loud (refine app_one wr rfl (.tmp 30) (.tmp 32) 39 rfl w2.heap.size 3 i0 (.int .i64 0) 8 Try.underlying39 hi hz0 hz1 hz2 rfl v L.length (cI L) rfl hrow (.int .i64 ((N : Int) + (m : Int) + 12)) rfl rfl (by unfold maxLen; omega) (by omega) hBs ?_))
      intro v' w' hown' hb'
      go_wp2
      go_roundw
      case rel =>
        rw [HV.out] at hown'
        refine ⟨j + 1, N + (m + 12), L ++ [((N + (m + 12) : Nat) : Int)], v', by omega, HN2.out, rfl, by go_num, by go_num, ?_, by simp [hL], ?_, hb.trans hb'⟩
        · rw [HPL.out, HNX.out]
          simp
        · rw [List.length_append, cI_append, hL]
          exact hown'
      case measure => simp [intOf] <;> omega
    · obtain rfl : j = rs.length := by omega
      have hfin : plc 0 (scn zs).1 = L := by
        rw [← HM.out, HPL.out, List.drop_eq_nil_of_le (by simp)]
        simp [plc]
      obtain ⟨A', c', rfl⟩ := row_shape hrow
      have hrow' := own_base hrow hbs
      have HF := Lib.hid hfin
      have hbl := belowGo hb2 (Nat.le_refl _) hb
      clear hfin hrow
      go_wp2
      go_ret
      exact ⟨A', c', by rw [HF.out]; rfl, by rw [HF.out]; exact hrow', hbl⟩

set_option maxHeartbeats 800000 in
theorem sameInts_yes (A A' : Option Addr) (xs : List Int) (n c c' lim : Nat) (w : World) (hn : xs.length = n) (hl : n ≤ 9223372036854775807) (hr : Rds w lim A (cI xs)) (hr' : Rds w lim A' (cI xs)) :
    Calls Try.prog 20 #[.slice A n c, .slice A' n c'] w fun e w' => e = .returned (.bool true) ∧ ∃ n, w' = w.drewN n := by
  have hlb : ((n : Int) != (n : Int)) = false := by simp
  go_enter Try.func20, Try.ntmps20
  go_wp2
  go_loopw [5] (fun i wr => ∃ k : Nat, k ≤ n ∧ i = .int .i64 k ∧ ∃ n, wr = w.drewN n) (fun i _ => n - (intOf i).toNat)
  case atStart => exact ⟨0, Nat.zero_le _, rfl, 0, rfl⟩
  case round =>
    obtain ⟨k, hk, rfl, q, rfl⟩ := hrel
    by_cases hlt : k < n
    · have hlt' : k < xs.length := by omega
      obtain ⟨ad, rfl, _, hcell⟩ := hr.at_ (cI_get hlt')
      obtain ⟨ad', rfl, _, hcell'⟩ := hr'.at_ (cI_get hlt')
      generalize xs[k] = x at *
      have hx : (x != x) = false := by simp
      go_wp2
      go_quiet (fail)
      go_wp2
      go_roundw
      case rel => exact ⟨k + 1, by omega, by go_num, _, rfl⟩
      case measure => simp [intOf]; omega
    · go_wp2
      go_ret
      exact ⟨rfl, q, rfl⟩

end Go.Proofs.Ytbmllljieoeihaa
