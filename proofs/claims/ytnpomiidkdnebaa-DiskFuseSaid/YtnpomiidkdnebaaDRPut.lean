/- The walk over the document's put. -/
import Derived.Test.YtnpomiidkdnebaaDRCut
namespace Go.Proofs.Ytnpomiidkdnebaa
open Go.RowKit
set_option linter.unusedVariables false

section
variable {S : Nat → Prop} {x : Nat} {v : Value} {rs : List RFl} {fz : Int} {D : Dsk} {w : World}

set_option maxHeartbeats 8000000 in
set_option maxRecDepth 5000 in
theorem rput_any (f : Fl) (u : Value) (w : World) (h : RfAt w S x v rs fz D) (hs : Srt D.files) (hfn : find D.files f.nm = none) (hsm : rs.length ≤ 1099511627776) (hu : w.ownsRow 0 5 1 u f.bs.length (c8 f.bs)) (hub : ∀ k, u.ownBlock = some k → S k) :
    Calls Try.prog 71 #[.pointer (some ⟨x, 0, none⟩), .agg #[.string ⟨f.nm.toArray⟩, u, .int .i64 f.sy]] w fun e w' => e = .returned (.tuple #[]) ∧ Laid S x fz { D with files := ins f D.files } w w' := by
  obtain ⟨i0, hi, hz0, hz1, hz2⟩ := info_parts info3
  have hpl := rplace_any (D := D) ⟨f.nm.toArray⟩ (w.alloc (.cells #[.string ⟨f.nm.toArray⟩, u, .int .i64 f.sy] 95)) (h.go ((Below.refl _ w).alloc (Nat.le_refl _) _)) hs
  have hlst : lst ⟨f.nm.toArray⟩ = f.nm := by simp [lst]
  rw [hlst] at hpl
  obtain ⟨P, hP⟩ : ∃ P, P = pos D.files f.nm := ⟨_, rfl⟩
  rw [← hP] at hpl
  have hkn : P ≤ rs.length := by rw [hP, h.len]; exact pos_le _ _
  obtain ⟨A, c, rfl, hrd, hnc, hcm, hA0, hA⟩ := own_open3 h.own
  have c1 := h.c1
  have f1 := h.fr 1
  have hone := h.one
  have hx := h.lt x h.sx
  obtain ⟨Au, cu, hue, _⟩ := own_open hu
  have huo : u.oneCell' = true := own_oneCell hu
  obtain ⟨n, hn⟩ : ∃ n, n = rs.length := ⟨_, rfl⟩
  have hlen : (cR rs).length = n * 3 := by rw [cR_length, hn]
  have r1 : Rds w w.heap.size A (cR (rs.take P)) := by rw [cR_take]; exact hrd.take _
  have r2 : Rds w w.heap.size (if c = P then A else A.map (·.add (P * 3))) (cR (rs.drop P)) := by rw [cR_drop]; exact rowed_drop hrd (by omega) hlen
  have hbw : Below w.heap.size w (w.alloc (.cells #[.string ⟨f.nm.toArray⟩, u, .int .i64 f.sy] 95)) := (Below.refl _ w).alloc (Nat.le_refl _) _
  have hlaid := fun (w9 : World) (u9 : Value) (m : Nat) (h9 : Below (w.heap.size + 1) (w.alloc (.cells #[.string ⟨f.nm.toArray⟩, u, .int .i64 f.sy] 95)) w9) (hown : w9.ownsRow (w.heap.size + 1) 95 3 u9 m (cR (rs.take P ++ ⟨f, u⟩ :: rs.drop P))) =>
    h.laid (rs' := rs.take P ++ ⟨f, u⟩ :: rs.drop P) hbw (Nat.le_succ _) (by simp) h9 hown (fun r hr => by
      rcases List.mem_append.1 hr with hm | hm
      · have hm := List.mem_of_mem_take hm
        exact ⟨h.byt r hm, h.sb r hm⟩
      · rcases List.mem_cons.1 hm with rfl | hm
        · exact ⟨hu, hub⟩
        · have hm := List.mem_of_mem_drop hm
          exact ⟨h.byt r hm, h.sb r hm⟩) (fs := ins f D.files) (by rw [List.map_append, List.map_cons, List.map_take, List.map_drop, h.files, hP]; exact ins_pos hfn)
  have HL := Lib.hid hlaid
  have ho1 : ∀ u ∈ cR (rs.take P), u.oneCell' = true := cR_one _ fun r hr => hone r (List.mem_of_mem_take hr)
  have ho2 : ∀ u ∈ cR (rs.drop P), u.oneCell' = true := cR_one _ fun r hr => hone r (List.mem_of_mem_drop hr)
  have hoF : ∀ q ∈ cR [⟨f, u⟩], q.oneCell' = true := cR_one _ fun r hr => by obtain rfl := List.mem_singleton.1 hr; exact huo
  have hl1 : (cR (rs.take P)).length = P * 3 := by rw [cR_length, List.length_take]; omega
  have hl2 : (cR (rs.drop P)).length = (n - P) * 3 := by rw [cR_length, List.length_drop, hn]
  have hcat : cR (rs.take P ++ ⟨f, u⟩ :: rs.drop P) = cR (rs.take P) ++ cR [⟨f, u⟩] ++ cR (rs.drop P) := by rw [← cR_append, ← cR_append, List.append_assoc]; rfl
  rw [← hn] at c1 hnc hkn hsm
  have HC := Lib.hid hcat
  have hn63 : (n : Int) ≤ 9223372036854775807 := by omega
  have hcm63 : (c : Int) ≤ 9223372036854775807 := by unfold maxLen at hcm; omega
  have hkc : P ≤ c := by omega
  have hkn1 : (P : Int) ≤ n := by omega
  have hA1 : A = none → P = 0 ∧ c = 0 := fun e => by
    obtain ⟨h1, h2⟩ := hA0 e
    omega
  obtain ⟨A2, hA2e⟩ : ∃ A2, A2 = if c = P then A else A.map (·.add (P * 3)) := ⟨_, rfl⟩
  have hA2 : A2 = none → n - P = 0 ∧ c - P = 0 := fun e => by
    rw [hA2e] at e
    cases A with
    | none => have := (hA0 rfl).1; have := (hA0 rfl).2; omega
    | some ad => split at e <;> cases e
  rw [← hA2e] at r2
  -- the world in which the region begins
  have hW0 : Whole (w.alloc (.cells #[.string ⟨f.nm.toArray⟩, u, .int .i64 f.sy] 95)) w.heap.size 95 #[.string ⟨f.nm.toArray⟩, u, .int .i64 f.sy] := Whole.new _ _ _
  have hsz : (w.alloc (.cells #[.string ⟨f.nm.toArray⟩, u, .int .i64 f.sy] 95)).heap.size = w.heap.size + 1 := by simp
  have k0 := hW0.cell 0
  have k1 := hW0.cell 1
  have k2 := hW0.cell 2
  have r1' := r1.below hbw
  have r2' := r2.below hbw
  have c1' := (hbw.cell (p := ⟨x, 1, none⟩) hx).trans c1
  have f1' := (hbw.frozen (p := ⟨x, 1, none⟩) hx).trans f1
  have hS : ∀ w', Below (w.heap.size + 1) (w.alloc (.cells #[.string ⟨f.nm.toArray⟩, u, .int .i64 f.sy] 95)) w' → w'.cell? ⟨x, 1, none⟩ = some (.slice A n c) ∧ w'.frozen? ⟨x, 1, none⟩ = false ∧ w'.cell? ⟨w.heap.size, 0, none⟩ = some (.string ⟨f.nm.toArray⟩) ∧ w'.cell? ⟨w.heap.size, 1, none⟩ = some u ∧ w'.cell? ⟨w.heap.size, 2, none⟩ = some (.int .i64 f.sy) ∧ Below (w.heap.size + 1) (w.alloc (.cells #[.string ⟨f.nm.toArray⟩, u, .int .i64 f.sy] 95)) w' := fun w' hb =>
    ⟨(hb.cell (Nat.lt_succ_of_lt hx)).trans c1', (hb.frozen (Nat.lt_succ_of_lt hx)).trans f1', (hb.cell (Nat.lt_succ_self _)).trans k0, (hb.cell (Nat.lt_succ_self _)).trans k1, (hb.cell (Nat.lt_succ_self _)).trans k2, hb⟩
  have r1s : ∀ w', Below (w.heap.size + 1) (w.alloc (.cells #[.string ⟨f.nm.toArray⟩, u, .int .i64 f.sy] 95)) w' → Rds w' w.heap.size A (cR (rs.take P)) := fun w' hb => r1'.below (hb.mono (Nat.le_succ _))
  have r2s : ∀ w', Below (w.heap.size + 1) (w.alloc (.cells #[.string ⟨f.nm.toArray⟩, u, .int .i64 f.sy] 95)) w' → Rds w' w.heap.size A2 (cR (rs.drop P)) := fun w' hb => r2'.below (hb.mono (Nat.le_succ _))
  have hrF : ∀ W g, Whole W g 95 #[.string ⟨f.nm.toArray⟩, u, .int .i64 f.sy] → Rds W W.heap.size (some ⟨g, 0, none⟩) (cR [⟨f, u⟩]) := fun W g hw _ => by
    refine ⟨_, rfl, hw.lt, fun j q hq => ?_⟩
    rw [show (⟨g, 0, none⟩ : Addr).add j = ⟨g, j, none⟩ by unfold Addr.add; split <;> simp_all, hw.cell]
    simpa [cR] using hq
  have hmk : ∀ W : World, w.heap.size + 1 ≤ W.heap.size → (W.alloc (.cells #[] 95)).ownsRow (w.heap.size + 1) 95 3 (.slice (some ⟨W.heap.size, 0, none⟩) 0 0) 0 [] := fun W hW => World.ownsRow_made (base := w.heap.size + 1) (e := 95) (size := 3) W #[] 0 hW (by unfold maxLen; omega) rfl
  have hlF : (cR [⟨f, u⟩]).length = 1 * 3 := rfl
  have HRF := Lib.hid hrF
  have HMK := Lib.hid hmk
  clear hrF hmk hP hlaid hone hcat h hrd hA hlen hn hA0 r1 r2 r1' r2' c1 f1 c1' f1' hW0 k0 k1 k2 hu hub hue hbw
  generalize (⟨f.nm.toArray⟩ : ByteArray) = nm at *
  generalize f.sy = sy at *
  have HA2 := Lib.hid hA2e
  clear hA2e
  go_enter Try.func71, Try.ntmps71
  go_wp2_with fail
  refine hpl.mono ?_
  rintro e w1 ⟨rfl, rfl⟩
  clear hpl
  go_wp2_with fail
  generalize w.alloc (.cells #[.string nm, u, .int .i64 sy] 95) = w1 at *
  refine wp_region_G 21 (fun w' => w'.cell? ⟨x, 1, none⟩ = some (.slice A n c) ∧ w'.frozen? ⟨x, 1, none⟩ = false ∧ w'.cell? ⟨w.heap.size, 0, none⟩ = some (.string nm) ∧ w'.cell? ⟨w.heap.size, 1, none⟩ = some u ∧ w'.cell? ⟨w.heap.size, 2, none⟩ = some (.int .i64 sy) ∧ Below (w.heap.size + 1) w1 w') (by kernel_rfl) (by kernel_rfl) (hS _ (Below.refl _ w1).drew) (fun hSS hst => ?_)
  refine wpAnyG_take (i := 0) (v := ?_) rfl (by kernel_rfl) hst (by kernel_rfl) (by kernel_rfl) (fun _ _ _ h => h) hSS (Or.inl ⟨by rfl, ?_⟩) (fun hst2 => ?_)
  rotate_left
  · (intro w hSw; (try dsimp only at hSw); go_simp; try (with_reducible rfl))
  clear hst; have hst := hst2; clear hst2
  try simp only [Act.put, List.setIfInBounds_toArray, List.set_cons_zero, List.set_cons_succ]
  refine wpAnyG_take (i := 2) (v := ?_) rfl (by kernel_rfl) hst (by kernel_rfl) (by kernel_rfl) (fun _ _ _ h => h) hSS (Or.inl ⟨by rfl, ?_⟩) (fun hst2 => ?_)
  rotate_left
  · (intro w hSw; (try dsimp only at hSw); go_simp; try (with_reducible rfl))
  clear hst; have hst := hst2; clear hst2
  try simp only [Act.put, List.setIfInBounds_toArray, List.set_cons_zero, List.set_cons_succ]
  refine wpAnyG_take (i := 3) (v := ?_) rfl (by kernel_rfl) hst (by kernel_rfl) (by kernel_rfl) (fun _ _ _ h => h) hSS (Or.inl ⟨by rfl, ?_⟩) (fun hst2 => ?_)
  rotate_left
  · (intro w hSw; (try dsimp only at hSw); go_simp; try (with_reducible rfl))
  clear hst; have hst := hst2; clear hst2
  try simp only [Act.put, List.setIfInBounds_toArray, List.set_cons_zero, List.set_cons_succ]
  refine wpAnyG_take (i := 4) (v := ?_) rfl (by kernel_rfl) hst (by kernel_rfl) (by kernel_rfl) (fun _ _ _ h => h) hSS (Or.inl ⟨by rfl, ?_⟩) (fun hst2 => ?_)
  rotate_left
  · (intro w hSw; (try dsimp only at hSw); go_simp; try (with_reducible rfl))
  clear hst; have hst := hst2; clear hst2
  try simp only [Act.put, List.setIfInBounds_toArray, List.set_cons_zero, List.set_cons_succ]
  refine wpAnyG_take (i := 5) (v := ?_) rfl (by kernel_rfl) hst (by kernel_rfl) (by kernel_rfl) (fun _ _ _ h => h) hSS (Or.inl ⟨by rfl, ?_⟩) (fun hst2 => ?_)
  rotate_left
  · (intro w hSw; (try dsimp only at hSw); go_simp; try (with_reducible rfl))
  clear hst; have hst := hst2; clear hst2
  try simp only [Act.put, List.setIfInBounds_toArray, List.set_cons_zero, List.set_cons_succ]
  refine wpAnyG_take (i := 6) (v := ?_) rfl (by kernel_rfl) hst (by kernel_rfl) (by kernel_rfl) (fun _ _ _ h => h) hSS (Or.inl ⟨by rfl, ?_⟩) (fun hst2 => ?_)
  rotate_left
  · (intro w hSw; (try dsimp only at hSw); go_simp; try (with_reducible rfl))
  clear hst; have hst := hst2; clear hst2
  try simp only [Act.put, List.setIfInBounds_toArray, List.set_cons_zero, List.set_cons_succ]
  refine wpAnyG_take (i := 7) (v := ?_) rfl (by kernel_rfl) hst (by kernel_rfl) (by kernel_rfl) (fun _ _ _ h => h) hSS (Or.inl ⟨by rfl, ?_⟩) (fun hst2 => ?_)
  rotate_left
  · (intro w hSw; (try dsimp only at hSw); go_simp; try (with_reducible rfl))
  clear hst; have hst := hst2; clear hst2
  try simp only [Act.put, List.setIfInBounds_toArray, List.set_cons_zero, List.set_cons_succ]
  refine wpAnyG_take (i := 9) (v := ?_) rfl (by kernel_rfl) hst (by kernel_rfl) (by kernel_rfl) (fun _ _ _ h => h) hSS (Or.inl ⟨by rfl, ?_⟩) (fun hst2 => ?_)
  rotate_left
  · (intro w hSw; (try dsimp only at hSw); go_simp; try (with_reducible rfl))
  clear hst; have hst := hst2; clear hst2
  try simp only [Act.put, List.setIfInBounds_toArray, List.set_cons_zero, List.set_cons_succ]
  refine wpAnyG_take (i := 12) (v := ?_) rfl (by kernel_rfl) hst (by kernel_rfl) (by kernel_rfl) (fun _ _ _ h => h) hSS (Or.inl ⟨by rfl, ?_⟩) (fun hst2 => ?_)
  rotate_left
  · (intro w hSw; (try dsimp only at hSw); go_simp; try (with_reducible rfl))
  clear hst; have hst := hst2; clear hst2
  try simp only [Act.put, List.setIfInBounds_toArray, List.set_cons_zero, List.set_cons_succ]
  refine wpAnyG_take (i := 13) (v := ?_) rfl (by kernel_rfl) hst (by kernel_rfl) (by kernel_rfl) (fun _ _ _ h => h) hSS (Or.inl ⟨by rfl, ?_⟩) (fun hst2 => ?_)
  rotate_left
  · (intro w hSw; (try dsimp only at hSw); go_simp; try (with_reducible rfl))
  clear hst; have hst := hst2; clear hst2
  try simp only [Act.put, List.setIfInBounds_toArray, List.set_cons_zero, List.set_cons_succ]
  refine wpAnyG_take (i := 14) (v := ?_) rfl (by kernel_rfl) hst (by kernel_rfl) (by kernel_rfl) (fun _ _ _ h => h) hSS (Or.inl ⟨by rfl, ?_⟩) (fun hst2 => ?_)
  rotate_left
  · (intro w hSw; (try dsimp only at hSw); go_simp; try (with_reducible rfl))
  clear hst; have hst := hst2; clear hst2
  try simp only [Act.put, List.setIfInBounds_toArray, List.set_cons_zero, List.set_cons_succ]
  refine wpAnyG_take (i := 15) (v := ?_) rfl (by kernel_rfl) hst (by kernel_rfl) (by kernel_rfl) (fun _ _ _ h => h) hSS (Or.inl ⟨by rfl, ?_⟩) (fun hst2 => ?_)
  rotate_left
  · (intro w hSw; (try dsimp only at hSw); go_simp; try (with_reducible rfl))
  clear hst; have hst := hst2; clear hst2
  try simp only [Act.put, List.setIfInBounds_toArray, List.set_cons_zero, List.set_cons_succ]
  refine wpAnyG_take (i := 16) (v := ?_) rfl (by kernel_rfl) hst (by kernel_rfl) (by kernel_rfl) (fun _ _ _ h => h) hSS (Or.inl ⟨by rfl, ?_⟩) (fun hst2 => ?_)
  rotate_left
  · (intro w hSw; (try dsimp only at hSw); go_simp; try (with_reducible rfl))
  clear hst; have hst := hst2; clear hst2
  try simp only [Act.put, List.setIfInBounds_toArray, List.set_cons_zero, List.set_cons_succ]
  refine wpAnyG_take (i := 17) (v := ?_) rfl (by kernel_rfl) hst (by kernel_rfl) (by kernel_rfl) (fun _ _ _ h => h) hSS (Or.inl ⟨by rfl, ?_⟩) (fun hst2 => ?_)
  rotate_left
  · (intro w hSw; (try dsimp only at hSw); go_simp; try (with_reducible rfl))
  clear hst; have hst := hst2; clear hst2
  try simp only [Act.put, List.setIfInBounds_toArray, List.set_cons_zero, List.set_cons_succ]
  try rw [← HA2.out]
  refine wpAnyG_two (i := 1) (j := 10) (by kernel_rfl) rfl rfl (by kernel_rfl) (by kernel_rfl) hst (fun K hK => ?_) (fun K hK => ?_)
  · skip
    go_simp
    have bb : Below (w.heap.size + 1) w1 (w1.alloc (.cells #[] 95)).drew := ((Below.refl _ w1).alloc (Nat.le_of_eq hsz.symm) _).drew
    refine hK.out _ _ (hS _ bb) (fun hSS2 hst2 => ?_)
    clear hst hK K hSS
    have hst := hst2
    have hSS := hSS2
    clear hst2 hSS2
    try simp only [Act.put, List.setIfInBounds_toArray, List.set_cons_zero, List.set_cons_succ]
    have own7 : (w1.alloc (.cells #[] 95)).drew.ownsRow (w.heap.size + 1) 95 3 (.slice (some ⟨w.heap.size + 1, 0, none⟩) 0 0) 0 [] := by have := HMK.out w1 (Nat.le_of_eq hsz.symm); rw [hsz] at this; exact this
    have hr7 := r1s _ bb
    have hB7 := bb.size
    rw [hsz] at hB7
    refine wpAnyG_two (i := 8) (j := 10) (by kernel_rfl) rfl rfl (by kernel_rfl) (by kernel_rfl) hst (fun K hK => ?_) (fun K hK => ?_)
    · skip
      refine step_app_wide rfl (.tmp 14) (.tmp 20) 81 rfl 95 i0 _ 3 48 rfl hi hz0 hz1 hz2 rfl (by decide) (w.heap.size + 1) (.slice (some ⟨w.heap.size + 1, 0, none⟩) 0 0) 0 [] rfl own7 A P c w.heap.size (cR (rs.take P)) rfl hl1 hr7 hA1 ho1 (by unfold maxLen; omega) (by omega) hB7 ?_
      intro v7 w7 own8a g7 b7' _
      have b7 := bb.trans b7'
      refine hK.out _ _ (hS _ b7) (fun hSS2 hst2 => ?_)
      clear hst hK K hSS
      have hst := hst2
      have hSS := hSS2
      clear hst2 hSS2
      try simp only [Act.put, List.setIfInBounds_toArray, List.set_cons_zero, List.set_cons_succ]

      have hB7' : w.heap.size + 1 ≤ w7.heap.size := Nat.le_trans hB7 b7'.size
      have b8 : Below (w.heap.size + 1) w1 (w7.alloc (.cells #[.string nm, u, .int .i64 sy] 95)) := b7.alloc hB7' _
      have own8 := own8a.alloc (.cells #[.string nm, u, .int .i64 sy] 95)
      have src8 := HRF.out _ _ (Whole.new w7 95 #[.string nm, u, .int .i64 sy])
      have hB8 : w.heap.size + 1 ≤ (w7.alloc (.cells #[.string nm, u, .int .i64 sy] 95)).heap.size := by have := b8.size; omega
      refine wpAnyG_one (i := 10) (by kernel_rfl) rfl (by kernel_rfl) hst (fun K hK => ?_)
      go_simp
      refine hK.out _ _ (hS _ b8) (fun hSS2 hst2 => ?_)
      clear hst hK K hSS
      have hst := hst2
      have hSS := hSS2
      clear hst2 hSS2
      try simp only [Act.put, List.setIfInBounds_toArray, List.set_cons_zero, List.set_cons_succ]

      refine wpAnyG_one (i := 11) (by kernel_rfl) rfl (by kernel_rfl) hst (fun K hK => ?_)
      refine step_app_wide rfl (.tmp 21) (.tmp 23) 81 rfl 95 i0 _ 3 48 rfl hi hz0 hz1 hz2 rfl (by decide) (w.heap.size + 1) v7 (0 + P) ([] ++ cR (rs.take P)) rfl own8 _ 1 1 _ (cR [⟨f, u⟩]) rfl hlF src8 (fun h => by cases h) hoF (by unfold maxLen; omega) (by omega) hB8 ?_
      intro v9 w9 own9 g9 b9 _
      have b9' := b8.trans b9
      refine hK.out _ _ (hS _ b9') (fun hSS2 hst2 => ?_)
      clear hst hK K hSS
      have hst := hst2
      have hSS := hSS2
      clear hst2 hSS2
      try simp only [Act.put, List.setIfInBounds_toArray, List.set_cons_zero, List.set_cons_succ]
      have hr9 := r2s _ b9'
      have hB9 : w.heap.size + 1 ≤ w9.heap.size := by have := b9'.size; omega
      refine wpAnyG_one (i := 18) (by kernel_rfl) rfl (by kernel_rfl) hst (fun K hK => ?_)
      refine step_app_wide rfl (.tmp 24) (.tmp 30) 81 rfl 95 i0 _ 3 48 rfl hi hz0 hz1 hz2 rfl (by decide) (w.heap.size + 1) v9 (0 + P + 1) ([] ++ cR (rs.take P) ++ cR [⟨f, u⟩]) rfl own9 A2 (n - P) (c - P) w.heap.size (cR (rs.drop P)) rfl hl2 hr9 hA2 ho2 (by unfold maxLen; omega) (by omega) hB9 ?_
      intro v10 w10 own10 _ b10 _
      have b10' := b9'.trans b10
      have hS10 := hS _ b10'
      refine hK.out _ _ hS10 (fun hSS2 hst2 => ?_)
      clear hst hK K hSS
      have hst := hst2
      have hSS := hSS2
      clear hst2 hSS2
      try simp only [Act.put, List.setIfInBounds_toArray, List.set_cons_zero, List.set_cons_succ]
      rw [List.nil_append, ← HC.out, Nat.zero_add] at own10
      have hfin := HL.out w10 v10 _ b10' own10
      have HF := Lib.hid hfin
      obtain ⟨A10, cc10, rfl, _⟩ := own_open3 own10
      obtain ⟨c10, f10, _⟩ := hS10
      clear hfin b10 b10' own10 own9 g9 b9 b9' hr9 hB9 hS r1s r2s hl1 hl2 ho1 ho2 hoF hlF
      refine wpAnyG_take (i := 19) (v := ?_) rfl (by kernel_rfl) hst (by kernel_rfl) (by kernel_rfl) (fun _ _ _ h => h) hSS (Or.inl ⟨by rfl, ?_⟩) (fun hst2 => ?_)
      rotate_left
      · (intro w hSw; (try dsimp only at hSw); go_simp; try (with_reducible rfl))
      clear hst; have hst := hst2; clear hst2
      try simp only [Act.put, List.setIfInBounds_toArray, List.set_cons_zero, List.set_cons_succ]
      refine wpAnyG_take (i := 20) (v := ?_) rfl (by kernel_rfl) hst (by kernel_rfl) (by kernel_rfl) (fun _ _ _ h => h) hSS (Or.inl ⟨by rfl, ?_⟩) (fun hst2 => ?_)
      rotate_left
      · (intro w hSw; (try dsimp only at hSw); go_simp; try (with_reducible rfl))
      clear hst; have hst := hst2; clear hst2
      try simp only [Act.put, List.setIfInBounds_toArray, List.set_cons_zero, List.set_cons_succ]
      refine wpAnyG_last (i := 21) (by kernel_rfl) rfl (by kernel_rfl) (by kernel_rfl) (fun K hK => ?_)
      go_simp
      refine hK.out _ _ ?_
      clear hK K hst hSS
      go_wp2
      all_goals (
        go_returns
        exact ⟨by simp, HF.out⟩)
    · skip
      go_simp
      have bb2 : Below (w.heap.size + 1) w1 ((w1.alloc (.cells #[] 95)).alloc (.cells #[.string nm, u, .int .i64 sy] 95)).drew := (((Below.refl _ w1).alloc (Nat.le_of_eq hsz.symm) _).alloc (by simp [hsz]) _).drew
      refine hK.out _ _ (hS _ bb2) (fun hSS2 hst2 => ?_)
      clear hst hK K hSS
      have hst := hst2
      have hSS := hSS2
      clear hst2 hSS2
      try simp only [Act.put, List.setIfInBounds_toArray, List.set_cons_zero, List.set_cons_succ]
      have own7b : ((w1.alloc (.cells #[] 95)).alloc (.cells #[.string nm, u, .int .i64 sy] 95)).drew.ownsRow (w.heap.size + 1) 95 3 (.slice (some ⟨w.heap.size + 1, 0, none⟩) 0 0) 0 [] := own7.alloc _
      have hF7 : Whole ((w1.alloc (.cells #[] 95)).alloc (.cells #[.string nm, u, .int .i64 sy] 95)).drew (w.heap.size + 1 + 1) 95 #[.string nm, u, .int .i64 sy] := by
        have := Whole.new (w1.alloc (.cells #[] 95)) 95 #[.string nm, u, .int .i64 sy]
        rw [show (w1.alloc (.cells #[] 95)).heap.size = w.heap.size + 1 + 1 by simp [hsz]] at this
        exact this

      clear own7 hr7 hB7 bb
      have own7 := own7b
      have bb := bb2
      have hr7 := r1s _ bb
      have hB7 := bb.size
      rw [hsz] at hB7
      refine wpAnyG_one (i := 8) (by kernel_rfl) rfl (by kernel_rfl) hst (fun K hK => ?_)

      refine step_app_wide rfl (.tmp 14) (.tmp 20) 81 rfl 95 i0 _ 3 48 rfl hi hz0 hz1 hz2 rfl (by decide) (w.heap.size + 1) (.slice (some ⟨w.heap.size + 1, 0, none⟩) 0 0) 0 [] rfl own7 A P c w.heap.size (cR (rs.take P)) rfl hl1 hr7 hA1 ho1 (by unfold maxLen; omega) (by omega) hB7 ?_
      intro v7 w7 own8 g7 b7' _
      have b7 := bb.trans b7'
      refine hK.out _ _ (hS _ b7) (fun hSS2 hst2 => ?_)
      clear hst hK K hSS
      have hst := hst2
      have hSS := hSS2
      clear hst2 hSS2
      try simp only [Act.put, List.setIfInBounds_toArray, List.set_cons_zero, List.set_cons_succ]

      have hF8 := hF7.grown g7 (by simp [Value.ownBlock])
      have src8 := HRF.out _ _ hF8
      have b8 := b7
      have hB8 : w.heap.size + 1 ≤ w7.heap.size := Nat.le_trans hB7 b7'.size

      refine wpAnyG_one (i := 11) (by kernel_rfl) rfl (by kernel_rfl) hst (fun K hK => ?_)
      refine step_app_wide rfl (.tmp 21) (.tmp 23) 81 rfl 95 i0 _ 3 48 rfl hi hz0 hz1 hz2 rfl (by decide) (w.heap.size + 1) v7 (0 + P) ([] ++ cR (rs.take P)) rfl own8 _ 1 1 _ (cR [⟨f, u⟩]) rfl hlF src8 (fun h => by cases h) hoF (by unfold maxLen; omega) (by omega) hB8 ?_
      intro v9 w9 own9 g9 b9 _
      have b9' := b8.trans b9
      refine hK.out _ _ (hS _ b9') (fun hSS2 hst2 => ?_)
      clear hst hK K hSS
      have hst := hst2
      have hSS := hSS2
      clear hst2 hSS2
      try simp only [Act.put, List.setIfInBounds_toArray, List.set_cons_zero, List.set_cons_succ]
      have hr9 := r2s _ b9'
      have hB9 : w.heap.size + 1 ≤ w9.heap.size := by have := b9'.size; omega
      refine wpAnyG_one (i := 18) (by kernel_rfl) rfl (by kernel_rfl) hst (fun K hK => ?_)
      refine step_app_wide rfl (.tmp 24) (.tmp 30) 81 rfl 95 i0 _ 3 48 rfl hi hz0 hz1 hz2 rfl (by decide) (w.heap.size + 1) v9 (0 + P + 1) ([] ++ cR (rs.take P) ++ cR [⟨f, u⟩]) rfl own9 A2 (n - P) (c - P) w.heap.size (cR (rs.drop P)) rfl hl2 hr9 hA2 ho2 (by unfold maxLen; omega) (by omega) hB9 ?_
      intro v10 w10 own10 _ b10 _
      have b10' := b9'.trans b10
      have hS10 := hS _ b10'
      refine hK.out _ _ hS10 (fun hSS2 hst2 => ?_)
      clear hst hK K hSS
      have hst := hst2
      have hSS := hSS2
      clear hst2 hSS2
      try simp only [Act.put, List.setIfInBounds_toArray, List.set_cons_zero, List.set_cons_succ]
      rw [List.nil_append, ← HC.out, Nat.zero_add] at own10
      have hfin := HL.out w10 v10 _ b10' own10
      have HF := Lib.hid hfin
      obtain ⟨A10, cc10, rfl, _⟩ := own_open3 own10
      obtain ⟨c10, f10, _⟩ := hS10
      clear hfin b10 b10' own10 own9 g9 b9 b9' hr9 hB9 hS r1s r2s hl1 hl2 ho1 ho2 hoF hlF
      refine wpAnyG_take (i := 19) (v := ?_) rfl (by kernel_rfl) hst (by kernel_rfl) (by kernel_rfl) (fun _ _ _ h => h) hSS (Or.inl ⟨by rfl, ?_⟩) (fun hst2 => ?_)
      rotate_left
      · (intro w hSw; (try dsimp only at hSw); go_simp; try (with_reducible rfl))
      clear hst; have hst := hst2; clear hst2
      try simp only [Act.put, List.setIfInBounds_toArray, List.set_cons_zero, List.set_cons_succ]
      refine wpAnyG_take (i := 20) (v := ?_) rfl (by kernel_rfl) hst (by kernel_rfl) (by kernel_rfl) (fun _ _ _ h => h) hSS (Or.inl ⟨by rfl, ?_⟩) (fun hst2 => ?_)
      rotate_left
      · (intro w hSw; (try dsimp only at hSw); go_simp; try (with_reducible rfl))
      clear hst; have hst := hst2; clear hst2
      try simp only [Act.put, List.setIfInBounds_toArray, List.set_cons_zero, List.set_cons_succ]
      refine wpAnyG_last (i := 21) (by kernel_rfl) rfl (by kernel_rfl) (by kernel_rfl) (fun K hK => ?_)
      go_simp
      refine hK.out _ _ ?_
      clear hK K hst hSS
      go_wp2
      all_goals (
        go_returns
        exact ⟨by simp, HF.out⟩)
  · skip
    go_simp
    have bb1 : Below (w.heap.size + 1) w1 (w1.alloc (.cells #[.string nm, u, .int .i64 sy] 95)).drew := ((Below.refl _ w1).alloc (Nat.le_of_eq hsz.symm) _).drew
    refine hK.out _ _ (hS _ bb1) (fun hSS2 hst2 => ?_)
    clear hst hK K hSS
    have hst := hst2
    have hSS := hSS2
    clear hst2 hSS2
    try simp only [Act.put, List.setIfInBounds_toArray, List.set_cons_zero, List.set_cons_succ]
    have bb2 : Below (w.heap.size + 1) w1 ((w1.alloc (.cells #[.string nm, u, .int .i64 sy] 95)).alloc (.cells #[] 95)).drew := (((Below.refl _ w1).alloc (Nat.le_of_eq hsz.symm) _).alloc (by simp [hsz]) _).drew
    refine wpAnyG_one (i := 1) (by kernel_rfl) rfl (by kernel_rfl) hst (fun K hK => ?_)
    go_simp
    refine hK.out _ _ (hS _ bb2) (fun hSS2 hst2 => ?_)
    clear hst hK K hSS
    have hst := hst2
    have hSS := hSS2
    clear hst2 hSS2
    try simp only [Act.put, List.setIfInBounds_toArray, List.set_cons_zero, List.set_cons_succ]
    have own7b : ((w1.alloc (.cells #[.string nm, u, .int .i64 sy] 95)).alloc (.cells #[] 95)).drew.ownsRow (w.heap.size + 1) 95 3 (.slice (some ⟨w.heap.size + 1 + 1, 0, none⟩) 0 0) 0 [] := by
      have := HMK.out (w1.alloc (.cells #[.string nm, u, .int .i64 sy] 95)) (by simp [hsz])
      rw [show (w1.alloc (.cells #[.string nm, u, .int .i64 sy] 95)).heap.size = w.heap.size + 1 + 1 by simp [hsz]] at this
      exact this
    have hF7 : Whole ((w1.alloc (.cells #[.string nm, u, .int .i64 sy] 95)).alloc (.cells #[] 95)).drew (w.heap.size + 1) 95 #[.string nm, u, .int .i64 sy] := by
      have := (Whole.new w1 95 #[.string nm, u, .int .i64 sy]).alloc (.cells #[] 95)
      rw [hsz] at this
      exact this

    have own7 := own7b
    have bb := bb2
    have hr7 := r1s _ bb
    have hB7 := bb.size
    rw [hsz] at hB7
    refine wpAnyG_one (i := 8) (by kernel_rfl) rfl (by kernel_rfl) hst (fun K hK => ?_)

    refine step_app_wide rfl (.tmp 14) (.tmp 20) 81 rfl 95 i0 _ 3 48 rfl hi hz0 hz1 hz2 rfl (by decide) (w.heap.size + 1) (.slice (some ⟨w.heap.size + 1 + 1, 0, none⟩) 0 0) 0 [] rfl own7 A P c w.heap.size (cR (rs.take P)) rfl hl1 hr7 hA1 ho1 (by unfold maxLen; omega) (by omega) hB7 ?_
    intro v7 w7 own8 g7 b7' _
    have b7 := bb.trans b7'
    refine hK.out _ _ (hS _ b7) (fun hSS2 hst2 => ?_)
    clear hst hK K hSS
    have hst := hst2
    have hSS := hSS2
    clear hst2 hSS2
    try simp only [Act.put, List.setIfInBounds_toArray, List.set_cons_zero, List.set_cons_succ]

    have hF8 := hF7.grown g7 (by simp [Value.ownBlock])
    have src8 := HRF.out _ _ hF8
    have b8 := b7
    have hB8 : w.heap.size + 1 ≤ w7.heap.size := Nat.le_trans hB7 b7'.size

    refine wpAnyG_one (i := 11) (by kernel_rfl) rfl (by kernel_rfl) hst (fun K hK => ?_)
    refine step_app_wide rfl (.tmp 21) (.tmp 23) 81 rfl 95 i0 _ 3 48 rfl hi hz0 hz1 hz2 rfl (by decide) (w.heap.size + 1) v7 (0 + P) ([] ++ cR (rs.take P)) rfl own8 _ 1 1 _ (cR [⟨f, u⟩]) rfl hlF src8 (fun h => by cases h) hoF (by unfold maxLen; omega) (by omega) hB8 ?_
    intro v9 w9 own9 g9 b9 _
    have b9' := b8.trans b9
    refine hK.out _ _ (hS _ b9') (fun hSS2 hst2 => ?_)
    clear hst hK K hSS
    have hst := hst2
    have hSS := hSS2
    clear hst2 hSS2
    try simp only [Act.put, List.setIfInBounds_toArray, List.set_cons_zero, List.set_cons_succ]
    have hr9 := r2s _ b9'
    have hB9 : w.heap.size + 1 ≤ w9.heap.size := by have := b9'.size; omega
    refine wpAnyG_one (i := 18) (by kernel_rfl) rfl (by kernel_rfl) hst (fun K hK => ?_)
    refine step_app_wide rfl (.tmp 24) (.tmp 30) 81 rfl 95 i0 _ 3 48 rfl hi hz0 hz1 hz2 rfl (by decide) (w.heap.size + 1) v9 (0 + P + 1) ([] ++ cR (rs.take P) ++ cR [⟨f, u⟩]) rfl own9 A2 (n - P) (c - P) w.heap.size (cR (rs.drop P)) rfl hl2 hr9 hA2 ho2 (by unfold maxLen; omega) (by omega) hB9 ?_
    intro v10 w10 own10 _ b10 _
    have b10' := b9'.trans b10
    have hS10 := hS _ b10'
    refine hK.out _ _ hS10 (fun hSS2 hst2 => ?_)
    clear hst hK K hSS
    have hst := hst2
    have hSS := hSS2
    clear hst2 hSS2
    try simp only [Act.put, List.setIfInBounds_toArray, List.set_cons_zero, List.set_cons_succ]
    rw [List.nil_append, ← HC.out, Nat.zero_add] at own10
    have hfin := HL.out w10 v10 _ b10' own10
    have HF := Lib.hid hfin
    obtain ⟨A10, cc10, rfl, _⟩ := own_open3 own10
    obtain ⟨c10, f10, _⟩ := hS10
    clear hfin b10 b10' own10 own9 g9 b9 b9' hr9 hB9 hS r1s r2s hl1 hl2 ho1 ho2 hoF hlF
    refine wpAnyG_take (i := 19) (v := ?_) rfl (by kernel_rfl) hst (by kernel_rfl) (by kernel_rfl) (fun _ _ _ h => h) hSS (Or.inl ⟨by rfl, ?_⟩) (fun hst2 => ?_)
    rotate_left
    · (intro w hSw; (try dsimp only at hSw); go_simp; try (with_reducible rfl))
    clear hst; have hst := hst2; clear hst2
    try simp only [Act.put, List.setIfInBounds_toArray, List.set_cons_zero, List.set_cons_succ]
    refine wpAnyG_take (i := 20) (v := ?_) rfl (by kernel_rfl) hst (by kernel_rfl) (by kernel_rfl) (fun _ _ _ h => h) hSS (Or.inl ⟨by rfl, ?_⟩) (fun hst2 => ?_)
    rotate_left
    · (intro w hSw; (try dsimp only at hSw); go_simp; try (with_reducible rfl))
    clear hst; have hst := hst2; clear hst2
    try simp only [Act.put, List.setIfInBounds_toArray, List.set_cons_zero, List.set_cons_succ]
    refine wpAnyG_last (i := 21) (by kernel_rfl) rfl (by kernel_rfl) (by kernel_rfl) (fun K hK => ?_)
    go_simp
    refine hK.out _ _ ?_
    clear hK K hst hSS
    go_wp2
    all_goals (
      go_returns
      exact ⟨by simp, HF.out⟩)
end
end Go.Proofs.Ytnpomiidkdnebaa
