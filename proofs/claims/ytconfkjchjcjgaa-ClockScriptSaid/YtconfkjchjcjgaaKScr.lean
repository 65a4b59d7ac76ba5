/- The statement on whole scripts: the program's watch does, call by call, what the document's does. -/
import Derived.Test.YtconfkjchjcjgaaKPr
import Derived.Test.YtconfkjchjcjgaaKOpen
import Derived.Test.YtconfkjchjcjgaaCPick
import Derived.Deep.RegionHeld3
import Derived.Deep.DeepCutAuto
import Derived.Deep.CutBlock
namespace Go.Proofs.Ytconfkjchjcjgaa
open Go.RowKit
set_option linter.unusedVariables false

/-- one act's cells -/
theorem actAt {w : World} {lim : Nat} {A : Option Addr} {az : List Ac8} (h : Rds w lim A (c8A az)) {k : Nat} (hk : k < az.length) :
    ∃ ad, A = some ad ∧ ad.block < lim ∧ w.cell? (ad.add (k * 3)) = some (.int .i64 az[k].kd) ∧ w.cell? ⟨(ad.add (k * 3)).block, (ad.add (k * 3)).off + 1, none⟩ = some (.string az[k].nm) ∧ w.cell? ⟨(ad.add (k * 3)).block, (ad.add (k * 3)).off + 2, none⟩ = some (.int .i64 az[k].n) := by
  obtain ⟨ad, rfl, hl, hc0⟩ := h.at_ ((c8A_get hk (r := 0) (by omega)).trans rfl)
  have hc : ∀ i, i < 3 → i ≠ 0 → w.cell? ⟨(ad.add (k * 3)).block, (ad.add (k * 3)).off + i, none⟩ = (ac8Cells az[k])[i]? := fun i hi h0 => by
    obtain ⟨u, hu⟩ : ∃ u, (ac8Cells az[k])[i]? = some u := ⟨_, Array.getElem?_eq_getElem (show i < (ac8Cells az[k]).size from hi)⟩
    obtain ⟨ad', e, _, hc1⟩ := h.at_ ((c8A_get hk hi).trans hu)
    obtain rfl := Option.some.inj e
    rw [← addr_off h0, add_twice, hc1, hu]
  exact ⟨ad, rfl, hl, hc0, (hc 1 (by omega) (by omega)).trans rfl, (hc 2 (by omega) (by omega)).trans rfl⟩
section
variable {w0 w : World} {b x g : Nat} {kd tn : Int} {nm : ByteArray} {T T2 : Int} {L L2 : List It} {q : Nat}
theorem Pr8.c12 (h : Pr8 w0 w b x g #[.int .i64 kd, .string nm, .int .i64 tn] T L q T2 L2) : w.cell? ⟨g, 1, none⟩ = some (.string nm) ∧ w.cell? ⟨g, 2, none⟩ = some (.int .i64 tn) := ⟨by simpa using h.box.cell 1, by simpa using h.box.cell 2⟩
theorem pr_setBad2 {C : Array Value} (h : Pr8 w0 w b x g C T L q T2 L2) {s : ByteArray} {t : Int} (hb : (t < 1 ∨ 1073741824 < t) ∨ s.toList.isEmpty = true) :
    Calls Try.prog 14 #[.pointer (some ⟨b, 0, none⟩), .string s, .int .i64 t] w fun e w' => e = .returned (.int .i64 2) ∧ Pr8 w0 w' b x g C T L q T2 L2 := by
  refine (pr_setBad h hb).mono ?_
  rintro e w' ⟨rfl, rfl⟩
  exact ⟨rfl, h⟩
theorem pr_rsetBad2 {C : Array Value} (h : Pr8 w0 w b x g C T L q T2 L2) {s : ByteArray} {t : Int} (hb : (t < 1 ∨ 1073741824 < t) ∨ s.toList.isEmpty = true) :
    Calls Try.prog 26 #[.pointer (some ⟨x, 0, none⟩), .string s, .int .i64 t] w fun e w' => e = .returned (.int .i64 2) ∧ Pr8 w0 w' b x g C T L q T2 L2 := by
  refine (rsetBad_any x hb w).mono ?_
  rintro e w' ⟨rfl, rfl⟩
  exact ⟨rfl, h⟩
end

set_option maxHeartbeats 16000000 in
set_option maxRecDepth 100000 in
theorem kscr_walk (A : Option Addr) (az : List Ac8) (n c : Nat) (w : World) (hn : az.length = n) (hin : ∀ a ∈ az, ActIn8 a) (hr : Rds w w.heap.size A (c8A az)) :
    Calls Try.prog 5 #[.slice A n c] w fun e w' => e = .returned (.bool true) ∧ Below w.heap.size w w' := by
  have HN := Lib.hid hn
  have HIN := Lib.hid hin
  have HR := Lib.hid hr
  clear hn hin hr
  go_enter Try.func5, Try.ntmps5
  go_wp2_with fail
  refine (lives_any w).mono ?_
  rintro e w1 ⟨rfl, hb1⟩
  have HB1 := Lib.hid hb1
  clear hb1
  by_cases hbig : 200 < n
  · have t1 : decide ((200 : Int) < (n : Int)) = true := decide_eq_true (by omega)
    go_wp2
    go_ret
    exact ⟨rfl, HB1.out⟩
  have t1 : decide ((200 : Int) < (n : Int)) = false := decide_eq_false (by omega)
  have hn200 : n ≤ 200 := by omega
  go_wp2_with fail
  refine (pr_new (w0 := w) HB1.out).mono ?_
  rintro e w2 ⟨b, rfl, hb2, hp2⟩
  have HP2 := Lib.hid hp2
  clear hb2 hp2 t1 hbig
  go_wp2
  generalize w2.alloc (.cells #[.int .i64 0, .slice none 0 0] 48) = w3 at *
  generalize w2.heap.size = x at *
  go_loopw [5] (fun vi wr => ∃ (k : Nat) (T : Int) (L : List It) (q : Nat), vi = .int .i64 k ∧ k ≤ n ∧ q ≤ k ∧ 0 ≤ T ∧ T ≤ (k : Int) * 1048576 ∧ Pr0 w wr b x T L q) (fun vi _ => n - (intOf vi).toNat)
  case atStart => exact ⟨0, 0, [], 0, rfl, by omega, by omega, by omega, by omega, HP2.out⟩
  case round =>
    obtain ⟨k, T, L, q, rfl, hk, hq, hT0, hTk, hp⟩ := hrel
    by_cases hlt : k < n
    · have hke : k < az.length := by have := HN.out; omega
      have hain := HIN.out _ (List.getElem_mem hke)
      obtain ⟨ad, rfl, _, d0, d1, d2⟩ := actAt (HR.out.below hp.below) hke
      generalize az[k] = a at hain d0 d1 d2
      obtain ⟨kd, nm, tn⟩ := a
      simp only at d0 d1 d2
      have hbx := hp.box #[.int .i64 kd, .string nm, .int .i64 tn]
      have HPX := Lib.hid hbx
      have HAI := Lib.hid hain
      clear hbx hain hp
      go_upto_region 11 with fail
      generalize (wr.alloc (.cells #[.int .i64 kd, .string nm, .int .i64 tn] 50)) = W at HPX ⊢
      generalize wr.heap.size = g at HPX ⊢
      clear d0 d1 d2
      have c0 : W.cell? ⟨g, 0, none⟩ = some (.int .i64 kd) := by simpa using HPX.out.box.cell 0
      obtain ⟨c1, c2⟩ := HPX.out.c12
      have hTb : T ≤ 209715200 := by omega
      have hq2 : q ≤ 200 := by omega
      go_upto_block 2 with (go_at_call 24; refine (pick_any kd 4 W (by decide) (by decide) HAI.out.kd).mono ?_; rintro e w3 ⟨⟨r, rfl, hr4⟩, rfl⟩)
      go_cut [7] (fun s7 wx => s7 = .bool true ∧ ∃ (T' : Int) (L' : List It) (q' : Nat), q' ≤ k + 1 ∧ 0 ≤ T' ∧ T' ≤ ((k : Int) + 1) * 1048576 ∧ Pr8 w wx b x g #[.int .i64 kd, .string nm, .int .i64 tn] T' L' q' T' L')
      case first =>
        have hr4' : r = 0 ∨ r = 1 ∨ r = 2 ∨ r = 3 := by omega
        clear hr4
        rcases hr4' with rfl | rfl | rfl | rfl
        · by_cases hbad : tn < 0 ∨ 1048576 < tn
          · have CT := Lib.hid (pr_tickBad HPX.out hbad)
            have CR := Lib.hid (rtickBad_any x hbad w3)
            have CS := Lib.hid (sameTexts_any none none [] [] 0 0 0 0 w3.heap.size w3 rfl rfl (by omega) (by omega) (fun e => absurd rfl e) (fun e => absurd rfl e))
            rw [sameT_self] at CS
            clear hbad
            go_wp2_with fail
            go_at_call 15
            refine CT.out.mono ?_
            rintro e w4 ⟨rfl, rfl⟩
            go_wp2_with fail
            go_at_call 25
            refine CR.out.mono ?_
            rintro e w4 ⟨rfl, rfl⟩
            go_wp2_with fail
            go_at_call 17
            refine CS.out.mono ?_
            rintro e w4 ⟨rfl, q4, rfl⟩
            have HF := Lib.hid (HPX.out.go (bDrewN (Below.refl _ _) q4))
            go_wp2
            go_meet
            case rel => exact ⟨rfl, T, L, q, by omega, hT0, by omega, HF.out⟩
          · have hbad' : 0 ≤ tn ∧ tn ≤ 1048576 := by omega
            have CT := Lib.hid (pr_tick HPX.out (by omega) (by omega) hbad')
            have hnd := HPX.out.facts.2.1
            have hdl : (due (T + tn) L).length ≤ 200 := Nat.le_trans (due_sub (T + tn) L).length_le (by omega)
            have HDL := Lib.hid hdl
            have hxl := HPX.out.xlt
            clear hbad hnd hdl
            go_wp2_with fail
            go_at_call 15
            refine CT.out.mono ?_
            rintro e w4 ⟨A4, n4, cc4, rfl, hn4, hrow4, hp4⟩
            have HN4 := Lib.hid hn4
            have HROW4 := Lib.hid hrow4
            have HP4 := Lib.hid hp4
            have CR := Lib.hid (pr_rtick hp4 (by omega) hbad')
            obtain ⟨c1, c2⟩ := hp4.c12
            clear hn4 hrow4 hp4 CT
            go_wp2_with fail
            go_at_call 25
            refine CR.out.mono ?_
            rintro e w5 ⟨A5, n5, cc5, rfl, hn5, hr5, hp5, ho5⟩
            have hrow := row_outs HROW4.out ho5 hxl
            obtain ⟨A6, cc6, e6, hr6, -⟩ := own_open hrow
            obtain ⟨rfl, rfl⟩ : A4 = A6 ∧ cc4 = cc6 := by injection e6 with h1 _ h3; exact ⟨h1, h3⟩
            rw [cT_cS] at hr5 hr6
            have CS := Lib.hid (sameTexts_any A4 A5 ((due (T + tn) L).map fun y => lst y.nm) ((due (T + tn) L).map fun y => lst y.nm) n4 n5 cc4 cc5 w5.heap.size w5 (by rw [List.length_map]; exact HN4.out.symm) (by rw [List.length_map]; exact hn5.symm) (by have := HN4.out; have := HDL.out; omega) (by have := HDL.out; omega) hr6 hr5)
            rw [sameT_self] at CS
            have HP5 := Lib.hid hp5
            clear hn5 hr5 hp5 ho5 hrow e6 hr6 CR
            go_wp2_with fail
            go_at_call 17
            refine CS.out.mono ?_
            rintro e w6 ⟨rfl, q6, rfl⟩
            have HF := Lib.hid (HP5.out.go (bDrewN (Below.refl _ _) q6))
            go_wp2
            go_meet
            case rel => exact ⟨rfl, T + tn, _, q, by omega, by omega, by omega, HF.out⟩
        · have h0 : Pr8 w w3.drew b x g #[.int .i64 kd, .string nm, .int .i64 tn] T L q T L := HPX.out.go (Below.refl _ _).drew
          obtain ⟨k1, k2⟩ := h0.c12
          have hkc : ∀ (W' : World) (T L q T2 L2), Pr8 w W' b x g #[.int .i64 kd, .string nm, .int .i64 tn] T L q T2 L2 → W'.cell? ⟨g, 1, none⟩ = some (.string nm) ∧ W'.cell? ⟨g, 2, none⟩ = some (.int .i64 tn) := fun _ _ _ _ _ _ h => h.c12
          have HKC := Lib.hid hkc
          clear hkc
          by_cases hbad : (tn < 1 ∨ 1073741824 < tn) ∨ nm.toList.isEmpty = true
          · have hSm : ∀ W', Pr8 w W' b x g #[.int .i64 kd, .string nm, .int .i64 tn] T L q T L → _ := fun W' h => pr_setBad2 h hbad
            have hRm : ∀ W', Pr8 w W' b x g #[.int .i64 kd, .string nm, .int .i64 tn] T L q T L → _ := fun W' h => pr_rsetBad2 h hbad
            clear hbad
            go_wp2_with fail
            go_region_held3 (fun w' => w'.cell? ⟨g, 1, none⟩ = some (.string nm) ∧ w'.cell? ⟨g, 2, none⟩ = some (.int .i64 tn))
              (first | assumption | exact ⟨k1, k2⟩)
              (first
                | (go_at_call 14; refine (hSm _ (by assumption)).mono ?_; rintro e w10 ⟨rfl, hp10⟩; have hc10 := HKC.out _ _ _ _ _ _ hp10)
                | (go_at_call 26; refine (hRm _ (by assumption)).mono ?_; rintro e w11 ⟨rfl, hp11⟩; have hc11 := HKC.out _ _ _ _ _ _ hp11))
            all_goals (
              go_wp2
              go_meet
              case rel => exact ⟨rfl, T, L, q, by omega, hT0, by omega, by assumption⟩)
          · have ht1 : 1 ≤ tn ∧ tn ≤ 1073741824 := by
              rcases Int.lt_or_le tn 1 with z | z
              · exact absurd (.inl (.inl z)) hbad
              · rcases Int.lt_or_le 1073741824 tn with z' | z'
                · exact absurd (.inl (.inr z')) hbad
                · exact ⟨z, z'⟩
            have hs0 : nm.toList.isEmpty = false := by
              cases e : nm.toList.isEmpty
              · rfl
              · exact absurd (.inr e) hbad
            have hnod := h0.facts.1
            have hfl : L.length < 1000000 := by have := h0.facts.2.1; omega
            have hSm : ∀ W' L2, Pr8 w W' b x g #[.int .i64 kd, .string nm, .int .i64 tn] T L q T L2 → _ := fun W' L2 h => pr_set h HAI.out.nm hs0 (by omega) ht1 (by omega)
            have hRm : ∀ W' L1 q1, Pr8 w W' b x g #[.int .i64 kd, .string nm, .int .i64 tn] T L1 q1 T L → _ := fun W' L1 q1 h => pr_rset h hnod nm hs0 (by omega) ht1 hfl
            clear hbad hs0 hnod
            go_wp2_with fail
            go_region_held3 (fun w' => w'.cell? ⟨g, 1, none⟩ = some (.string nm) ∧ w'.cell? ⟨g, 2, none⟩ = some (.int .i64 tn))
              (first | assumption | exact ⟨k1, k2⟩)
              (first
                | (go_at_call 14; refine (hSm _ _ (by assumption)).mono ?_; rintro e w10 ⟨rfl, hp10⟩; have hc10 := HKC.out _ _ _ _ _ _ hp10)
                | (go_at_call 26; refine (hRm _ _ _ (by assumption)).mono ?_; rintro e w11 ⟨rfl, hp11⟩; have hc11 := HKC.out _ _ _ _ _ _ hp11))
            all_goals (
              go_wp2
              go_meet
              case rel => exact ⟨rfl, T, _, q + 1, by omega, hT0, by omega, by assumption⟩)
        · have h0 : Pr8 w w3.drew b x g #[.int .i64 kd, .string nm, .int .i64 tn] T L q T L := HPX.out.go (Below.refl _ _).drew
          obtain ⟨k1, k2⟩ := h0.c12
          have hkc : ∀ (W' : World) (T L q T2 L2), Pr8 w W' b x g #[.int .i64 kd, .string nm, .int .i64 tn] T L q T2 L2 → W'.cell? ⟨g, 1, none⟩ = some (.string nm) ∧ W'.cell? ⟨g, 2, none⟩ = some (.int .i64 tn) := fun _ _ _ _ _ _ h => h.c12
          have HKC := Lib.hid hkc
          clear hkc
          have hnod := h0.facts.1
          have hSm : ∀ W' L2, Pr8 w W' b x g #[.int .i64 kd, .string nm, .int .i64 tn] T L q T L2 → _ := fun W' L2 h => pr_drop h HAI.out.nm
          have hRm : ∀ W' L1 q1, Pr8 w W' b x g #[.int .i64 kd, .string nm, .int .i64 tn] T L1 q1 T L → _ := fun W' L1 q1 h => pr_rdrop h hnod nm
          clear hnod
          go_wp2_with fail
          go_region_held3 (fun w' => w'.cell? ⟨g, 1, none⟩ = some (.string nm) ∧ w'.cell? ⟨g, 2, none⟩ = some (.int .i64 tn))
            (first | assumption | exact ⟨k1, k2⟩)
            (first
              | (go_at_call 19; refine (hSm _ _ (by assumption)).mono ?_; rintro e w10 ⟨rfl, hp10⟩; have hc10 := HKC.out _ _ _ _ _ _ hp10)
              | (go_at_call 27; refine (hRm _ _ _ (by assumption)).mono ?_; rintro e w11 ⟨rfl, hp11⟩; have hc11 := HKC.out _ _ _ _ _ _ hp11))
          all_goals (
            go_wp2
            go_meet
            case rel => exact ⟨rfl, T, _, q, by omega, hT0, by omega, by assumption⟩)
        · go_wp2
          go_meet
          case rel => exact ⟨rfl, T, L, q, by omega, hT0, by omega, HPX.out⟩
      case rest =>
        obtain ⟨rfl, T', L', q', hq', hT0', hTk', hp'⟩ := hcut
        have HNM : Hid (nm.size ≤ 140737488351232) := Lib.hid HAI.out.nm
        have hTb' : T' ≤ 209715200 := by omega
        have CL := Lib.hid (pr_left hp' HNM.out (by omega))
        have HP' := Lib.hid hp'
        obtain ⟨k1, -⟩ := hp'.c12
        clear hp' HPX c0 c1 c2
        obtain ⟨lv, hlv⟩ : ∃ lv, leftV L' T' nm = lv := ⟨_, rfl⟩
        obtain ⟨lb, hlb⟩ : ∃ lb, leftB L' nm = lb := ⟨_, rfl⟩
        rw [hlv, hlb] at CL
        have HLV := Lib.hid hlv
        have HLB := Lib.hid hlb
        clear hlv hlb
        go_wp2_with fail
        go_at_call 16
        refine CL.out.mono ?_
        rintro e w4 ⟨rfl, hp4⟩
        have CR := Lib.hid (pr_rleft hp4 nm (by omega) (fun y hy => by have := hp4.facts.2.2 y hy; omega))
        rw [HLV.out, HLB.out] at CR
        obtain ⟨k1, -⟩ := hp4.c12
        clear hp4 CL
        go_wp2_with fail
        go_at_call 28
        refine CR.out.mono ?_
        rintro e W2 ⟨rfl, hp5⟩
        have HP := Lib.hid hp5
        have hS : ∀ w', Below W2.heap.size W2 w' → w'.cell? ⟨x, 0, none⟩ = some (.int .i64 T') ∧ Below W2.heap.size W2 w' := fun w' hb => ⟨(HP.out.go hb).xt, hb⟩
        have HS := Lib.hid hS
        have HL2 : Hid (L'.length ≤ 200) := Lib.hid (by have := hp5.facts.2.1; omega)
        clear hp5 CR hS k1 HLV HLB
        go_upto_region 22 with fail
        refine wp_region_G 28 (fun w' => w'.cell? ⟨x, 0, none⟩ = some (.int .i64 T') ∧ Below W2.heap.size W2 w') (by kernel_rfl) (by kernel_rfl) (HS.out _ (Below.refl _ _).drew) (fun hSS hst => ?_)
        refine wpAnyG_take (i := 0) (v := ?_) rfl (by kernel_rfl) hst (by kernel_rfl) (by kernel_rfl) (fun _ _ _ h => h) hSS (Or.inl ⟨by rfl, ?_⟩) (fun hst2 => ?_)
        rotate_left
        · (intro w hSw; (try dsimp only at hSw); go_simp; try (with_reducible rfl))
        clear hst; have hst := hst2; clear hst2
        try simp only [Act.put, List.setIfInBounds_toArray, List.set_cons_zero, List.set_cons_succ]
        refine wpAnyG_take (i := 1) (v := ?_) rfl (by kernel_rfl) hst (by kernel_rfl) (by kernel_rfl) (fun _ _ _ h => h) hSS (Or.inl ⟨by rfl, ?_⟩) (fun hst2 => ?_)
        rotate_left
        · (intro w hSw; (try dsimp only at hSw); go_simp; try (with_reducible rfl))
        clear hst; have hst := hst2; clear hst2
        try simp only [Act.put, List.setIfInBounds_toArray, List.set_cons_zero, List.set_cons_succ]
        refine wpAnyG_take (i := 2) (v := ?_) rfl (by kernel_rfl) hst (by kernel_rfl) (by kernel_rfl) (fun _ _ _ h => h) hSS (Or.inl ⟨by rfl, ?_⟩) (fun hst2 => ?_)
        rotate_left
        · (intro w hSw; (try dsimp only at hSw); go_simp; try (with_reducible rfl))
        clear hst; have hst := hst2; clear hst2
        try simp only [Act.put, List.setIfInBounds_toArray, List.set_cons_zero, List.set_cons_succ]
        refine wpAnyG_take (i := 3) (v := ?_) rfl (by kernel_rfl) hst (by kernel_rfl) (by kernel_rfl) (fun _ _ _ h => h) hSS (Or.inl ⟨by rfl, ?_⟩) (fun hst2 => ?_)
        rotate_left
        · (intro w hSw; (try dsimp only at hSw); go_simp; try (with_reducible rfl))
        clear hst; have hst := hst2; clear hst2
        try simp only [Act.put, List.setIfInBounds_toArray, List.set_cons_zero, List.set_cons_succ]
        refine wpAnyG_take (i := 4) (v := ?_) rfl (by kernel_rfl) hst (by kernel_rfl) (by kernel_rfl) (fun _ _ _ h => h) hSS (Or.inl ⟨by rfl, ?_⟩) (fun hst2 => ?_)
        rotate_left
        · (intro w hSw; (try dsimp only at hSw); go_simp; try (with_reducible rfl))
        clear hst; have hst := hst2; clear hst2
        try simp only [Act.put, List.setIfInBounds_toArray, List.set_cons_zero, List.set_cons_succ]
        refine wpAnyG_take (i := 5) (v := ?_) rfl (by kernel_rfl) hst (by kernel_rfl) (by kernel_rfl) (fun _ _ _ h => h) hSS (Or.inl ⟨by rfl, ?_⟩) (fun hst2 => ?_)
        rotate_left
        · (intro w hSw; (try dsimp only at hSw); go_simp; try (with_reducible rfl))
        clear hst; have hst := hst2; clear hst2
        try simp only [Act.put, List.setIfInBounds_toArray, List.set_cons_zero, List.set_cons_succ]
        refine wpAnyG_take (i := 6) (v := ?_) rfl (by kernel_rfl) hst (by kernel_rfl) (by kernel_rfl) (fun _ _ _ h => h) hSS (Or.inl ⟨by rfl, ?_⟩) (fun hst2 => ?_)
        rotate_left
        · (intro w hSw; (try dsimp only at hSw); go_simp; try (with_reducible rfl))
        clear hst; have hst := hst2; clear hst2
        try simp only [Act.put, List.setIfInBounds_toArray, List.set_cons_zero, List.set_cons_succ]
        refine wpAnyG_take (i := 7) (v := ?_) rfl (by kernel_rfl) hst (by kernel_rfl) (by kernel_rfl) (fun _ _ _ h => h) hSS (Or.inl ⟨by rfl, ?_⟩) (fun hst2 => ?_)
        rotate_left
        · (intro w hSw; (try dsimp only at hSw); go_simp; try (with_reducible rfl))
        clear hst; have hst := hst2; clear hst2
        try simp only [Act.put, List.setIfInBounds_toArray, List.set_cons_zero, List.set_cons_succ]
        refine wpAnyG_take (i := 8) (v := ?_) rfl (by kernel_rfl) hst (by kernel_rfl) (by kernel_rfl) (fun _ _ _ h => h) hSS (Or.inl ⟨by rfl, ?_⟩) (fun hst2 => ?_)
        rotate_left
        · (intro w hSw; (try dsimp only at hSw); go_simp; try (with_reducible rfl))
        clear hst; have hst := hst2; clear hst2
        try simp only [Act.put, List.setIfInBounds_toArray, List.set_cons_zero, List.set_cons_succ]
        refine wpAnyG_take (i := 9) (v := ?_) rfl (by kernel_rfl) hst (by kernel_rfl) (by kernel_rfl) (fun _ _ _ h => h) hSS (Or.inl ⟨by rfl, ?_⟩) (fun hst2 => ?_)
        rotate_left
        · (intro w hSw; (try dsimp only at hSw); go_simp; try (with_reducible rfl))
        clear hst; have hst := hst2; clear hst2
        try simp only [Act.put, List.setIfInBounds_toArray, List.set_cons_zero, List.set_cons_succ]
        refine wpAnyG_take (i := 10) (v := ?_) rfl (by kernel_rfl) hst (by kernel_rfl) (by kernel_rfl) (fun _ _ _ h => h) hSS (Or.inl ⟨by rfl, ?_⟩) (fun hst2 => ?_)
        rotate_left
        · (intro w hSw; (try dsimp only at hSw); go_simp; try (with_reducible rfl))
        clear hst; have hst := hst2; clear hst2
        try simp only [Act.put, List.setIfInBounds_toArray, List.set_cons_zero, List.set_cons_succ]
        refine wpAnyG_take (i := 11) (v := ?_) rfl (by kernel_rfl) hst (by kernel_rfl) (by kernel_rfl) (fun _ _ _ h => h) hSS (Or.inl ⟨by rfl, ?_⟩) (fun hst2 => ?_)
        rotate_left
        · (intro w hSw; (try dsimp only at hSw); go_simp; try (with_reducible rfl))
        clear hst; have hst := hst2; clear hst2
        try simp only [Act.put, List.setIfInBounds_toArray, List.set_cons_zero, List.set_cons_succ]
        refine wpAnyG_take (i := 12) (v := ?_) rfl (by kernel_rfl) hst (by kernel_rfl) (by kernel_rfl) (fun _ _ _ h => h) hSS (Or.inl ⟨by rfl, ?_⟩) (fun hst2 => ?_)
        rotate_left
        · (intro w hSw; (try dsimp only at hSw); go_simp; try (with_reducible rfl))
        clear hst; have hst := hst2; clear hst2
        try simp only [Act.put, List.setIfInBounds_toArray, List.set_cons_zero, List.set_cons_succ]
        refine wpAnyG_take (i := 13) (v := ?_) rfl (by kernel_rfl) hst (by kernel_rfl) (by kernel_rfl) (fun _ _ _ h => h) hSS (Or.inl ⟨by rfl, ?_⟩) (fun hst2 => ?_)
        rotate_left
        · (intro w hSw; (try dsimp only at hSw); go_simp; try (with_reducible rfl))
        clear hst; have hst := hst2; clear hst2
        try simp only [Act.put, List.setIfInBounds_toArray, List.set_cons_zero, List.set_cons_succ]
        refine wpAnyG_take (i := 15) (v := ?_) rfl (by kernel_rfl) hst (by kernel_rfl) (by kernel_rfl) (fun _ _ _ h => h) hSS (Or.inl ⟨by rfl, ?_⟩) (fun hst2 => ?_)
        rotate_left
        · (intro w hSw; (try dsimp only at hSw); go_simp; try (with_reducible rfl))
        clear hst; have hst := hst2; clear hst2
        try simp only [Act.put, List.setIfInBounds_toArray, List.set_cons_zero, List.set_cons_succ]
        refine wpAnyG_take (i := 16) (v := ?_) rfl (by kernel_rfl) hst (by kernel_rfl) (by kernel_rfl) (fun _ _ _ h => h) hSS (Or.inl ⟨by rfl, ?_⟩) (fun hst2 => ?_)
        rotate_left
        · (intro w hSw; (try dsimp only at hSw); go_simp; try (with_reducible rfl))
        clear hst; have hst := hst2; clear hst2
        try simp only [Act.put, List.setIfInBounds_toArray, List.set_cons_zero, List.set_cons_succ]
        refine wpAnyG_take (i := 17) (v := ?_) rfl (by kernel_rfl) hst (by kernel_rfl) (by kernel_rfl) (fun _ _ _ h => h) hSS (Or.inl ⟨by rfl, ?_⟩) (fun hst2 => ?_)
        rotate_left
        · (intro w hSw; (try dsimp only at hSw); go_simp; try (with_reducible rfl))
        clear hst; have hst := hst2; clear hst2
        try simp only [Act.put, List.setIfInBounds_toArray, List.set_cons_zero, List.set_cons_succ]
        refine wpAnyG_take (i := 18) (v := ?_) rfl (by kernel_rfl) hst (by kernel_rfl) (by kernel_rfl) (fun _ _ _ h => h) hSS (Or.inl ⟨by rfl, ?_⟩) (fun hst2 => ?_)
        rotate_left
        · (intro w hSw; (try dsimp only at hSw); go_simp; try (with_reducible rfl))
        clear hst; have hst := hst2; clear hst2
        try simp only [Act.put, List.setIfInBounds_toArray, List.set_cons_zero, List.set_cons_succ]
        refine wpAnyG_one (i := 14) (by kernel_rfl) rfl (by kernel_rfl) hst (fun K hK => ?_)
        go_simp
        refine (pr_now (HP.out.go (Below.refl _ _).drew)).mono ?_
        rintro e w20 ⟨rfl, rfl⟩
        refine hK.out _ _ (HS.out _ (Below.refl _ _).drew) (fun hSS2 hst2 => ?_)
        clear hst hK K hSS
        have hst := hst2
        have hSS := hSS2
        clear hst2 hSS2
        try simp only [Act.put, List.setIfInBounds_toArray, List.set_cons_zero, List.set_cons_succ]
        refine wpAnyG_take (i := 19) (v := ?_) rfl (by kernel_rfl) hst (by kernel_rfl) (by kernel_rfl) (fun _ _ _ h => h) hSS (Or.inl ⟨by rfl, ?_⟩) (fun hst2 => ?_)
        rotate_left
        · (intro w hSw; (try dsimp only at hSw); go_simp; try (with_reducible rfl))
        clear hst; have hst := hst2; clear hst2
        try simp only [Act.put, List.setIfInBounds_toArray, List.set_cons_zero, List.set_cons_succ]
        refine wpAnyG_take (i := 20) (v := ?_) rfl (by kernel_rfl) hst (by kernel_rfl) (by kernel_rfl) (fun _ _ _ h => h) hSS (Or.inl ⟨by rfl, ?_⟩) (fun hst2 => ?_)
        rotate_left
        · (intro w hSw; (try dsimp only at hSw); go_simp; try (with_reducible rfl))
        clear hst; have hst := hst2; clear hst2
        try simp only [Act.put, List.setIfInBounds_toArray, List.set_cons_zero, List.set_cons_succ]
        refine wpAnyG_take (i := 21) (v := ?_) rfl (by kernel_rfl) hst (by kernel_rfl) (by kernel_rfl) (fun _ _ _ h => h) hSS (Or.inl ⟨by rfl, ?_⟩) (fun hst2 => ?_)
        rotate_left
        · (intro w hSw; (try dsimp only at hSw); go_simp; try (with_reducible rfl))
        clear hst; have hst := hst2; clear hst2
        try simp only [Act.put, List.setIfInBounds_toArray, List.set_cons_zero, List.set_cons_succ]
        refine wpAnyG_take (i := 22) (v := ?_) rfl (by kernel_rfl) hst (by kernel_rfl) (by kernel_rfl) (fun _ _ _ h => h) hSS (Or.inl ⟨by rfl, ?_⟩) (fun hst2 => ?_)
        rotate_left
        · (intro w hSw; (try dsimp only at hSw); go_simp; try (with_reducible rfl))
        clear hst; have hst := hst2; clear hst2
        try simp only [Act.put, List.setIfInBounds_toArray, List.set_cons_zero, List.set_cons_succ]
        refine wpAnyG_take (i := 24) (v := ?_) rfl (by kernel_rfl) hst (by kernel_rfl) (by kernel_rfl) (fun _ _ _ h => h) hSS (Or.inl ⟨by rfl, ?_⟩) (fun hst2 => ?_)
        rotate_left
        · (intro w hSw; (try dsimp only at hSw); go_simp; try (with_reducible rfl))
        clear hst; have hst := hst2; clear hst2
        try simp only [Act.put, List.setIfInBounds_toArray, List.set_cons_zero, List.set_cons_succ]
        refine wpAnyG_one (i := 23) (by kernel_rfl) rfl (by kernel_rfl) hst (fun K hK => ?_)
        go_simp
        refine (pr_names (HP.out.go (Below.refl _ _).drew) (by omega)).mono ?_
        rintro e w21 ⟨A21, n21, c21, rfl, hn21, hr21, hb21⟩
        have b21 : Below W2.heap.size W2 w21 := ((Below.refl _ W2).drew).trans hb21
        have HN21 := Lib.hid hn21
        clear hn21
        refine hK.out _ _ (HS.out _ b21) (fun hSS2 hst2 => ?_)
        clear hst hK K hSS
        have hst := hst2
        have hSS := hSS2
        clear hst2 hSS2
        try simp only [Act.put, List.setIfInBounds_toArray, List.set_cons_zero, List.set_cons_succ]
        refine wpAnyG_one (i := 25) (by kernel_rfl) rfl (by kernel_rfl) hst (fun K hK => ?_)
        go_simp
        refine (pr_rnames (HP.out.go b21)).mono ?_
        rintro e w22 ⟨A22, n22, c22, rfl, hn22, hr22, hb22⟩
        have b22 : Below W2.heap.size W2 w22 := b21.trans (hb22.mono b21.size)
        have HN22 := Lib.hid hn22
        clear hn22
        refine hK.out _ _ (HS.out _ b22) (fun hSS2 hst2 => ?_)
        clear hst hK K hSS
        have hst := hst2
        have hSS := hSS2
        clear hst2 hSS2
        try simp only [Act.put, List.setIfInBounds_toArray, List.set_cons_zero, List.set_cons_succ]
        refine wpAnyG_one (i := 26) (by kernel_rfl) rfl (by kernel_rfl) hst (fun K hK => ?_)
        go_simp
        have csn := sameTexts_any A21 A22 (nmsOf L') (nmsOf L') n21 n22 c21 c22 w22.heap.size w22 HN21.out.symm HN22.out.symm (by have := HN21.out; rw [nmsOf_length] at this; have := HL2.out; omega) (by have := HN22.out; rw [nmsOf_length] at this; have := HL2.out; omega) ((hr21.below hb22).more hb22.size) hr22
        rw [sameT_self] at csn
        refine csn.mono ?_
        rintro e w23 ⟨rfl, q23, rfl⟩
        have b23 : Below W2.heap.size W2 (w22.drewN q23) := bDrewN b22 q23
        refine hK.out _ _ (HS.out _ b23) (fun hSS2 hst2 => ?_)
        clear hst hK K hSS
        have hst := hst2
        have hSS := hSS2
        clear hst2 hSS2
        try simp only [Act.put, List.setIfInBounds_toArray, List.set_cons_zero, List.set_cons_succ]
        clear csn hr21 hr22 hb21
        refine wpAnyG_take (i := 27) (v := ?_) rfl (by kernel_rfl) hst (by kernel_rfl) (by kernel_rfl) (fun _ _ _ h => h) hSS (Or.inl ⟨by rfl, ?_⟩) (fun hst2 => ?_)
        rotate_left
        · (intro w hSw; (try dsimp only at hSw); go_simp; try (with_reducible rfl))
        clear hst; have hst := hst2; clear hst2
        try simp only [Act.put, List.setIfInBounds_toArray, List.set_cons_zero, List.set_cons_succ]
        refine wpAnyG_last (i := 28) (by kernel_rfl) rfl (by kernel_rfl) (by kernel_rfl) (fun K hK => ?_)
        go_simp
        refine hK.out _ _ ?_
        have HPF := Lib.hid (HP.out.go b23).bare
        clear hK K hst hSS b21 b22 b23 hb22
        go_wp2
        go_roundw
        case rel => exact ⟨k + 1, T', L', q', by go_num, by omega, hq', hT0', by omega, HPF.out⟩
        case measure => simp [intOf]; omega
    · have HB := Lib.hid hp.below
      clear hp
      go_wp2
      go_ret
      exact ⟨rfl, HB.out⟩
end Go.Proofs.Ytconfkjchjcjgaa
