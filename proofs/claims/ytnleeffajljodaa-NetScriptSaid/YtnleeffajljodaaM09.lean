/- Several texts, each a section: NRd, NRt, NFl, End. -/
import Derived.Test.YtnleeffajljodaaM08
import Derived.Test.YtnleeffajljodaaM04
import Derived.Test.YtnleeffajljodaaM07
import Derived.Test.YtnleeffajljodaaRows
import Derived.Test.YtnleeffajljodaaM01
import Derived.ProofKit
import Derived.OpenShut
import Derived.SizedLaws
import Derived.Carry
section
/- The document's net: Deliver, Lose. -/
namespace Go.Proofs.Ytnleeffajljodaa
open Go.RowKit Go.Maps
set_option linter.unusedVariables false

set_option maxHeartbeats 4000000 in
set_option maxRecDepth 100000 in
theorem rdeliverNo_any {w : World} {R : Nat → Prop} {xb : Nat} {v : Value} {ps : List (Le × Pl)} {last : Nat} (h : Rn w R xb v ps last) (x : Int) (hp : pick ps x = none) (hm : ps.length ≤ 4000) :
    Calls Try.prog 19 #[.pointer (some ⟨xb, 0, none⟩), .int .u64 x] w fun e w' => e = .returned (.tuple #[zeroL, .int .i64 6]) ∧ Below w.heap.size w w' := by
  have ct := place_any (h.go (newL_below w)) x (by omega)
  rw [posN_none hp] at ct
  have CT := Lib.hid ct
  have HB := Lib.hid (newL_below w)
  have HWB := Lib.hid (newL_whole w)
  clear ct h
  go_enter Try.func19, Try.ntmps19
  go_upto_region 1 with fail
  change Code.wp _ _ _ _ (newL w)
  generalize newL w = w0 at CT HB HWB ⊢
  obtain ⟨c0, c1, c2, c3, c4⟩ := cells5 HWB.out
  have f0 := HWB.out.frozen
  go_wp2_with fail
  refine CT.out.mono ?_
  rintro e w1 ⟨rfl, hw⟩
  rw [hw]
  clear hw
  go_wp2
  have hx := put5_whole HWB.out (.int .u64 0) (.int .u64 0) (.int .i64 0) (.int .i64 0) (.slice none 0 0)
  have hbx : Below w.heap.size w (put5 w0 w.heap.size (.int .u64 0) (.int .u64 0) (.int .i64 0) (.int .i64 0) (.slice none 0 0)) := put5_below HB.out (Nat.le_refl _) _ _ _ _ _
  change bodyPost _ _ _ _ _ (put5 w0 w.heap.size (.int .u64 0) (.int .u64 0) (.int .i64 0) (.int .i64 0) (.slice none 0 0))
  generalize put5 w0 w.heap.size (.int .u64 0) (.int .u64 0) (.int .i64 0) (.int .i64 0) (.slice none 0 0) = W at hx hbx ⊢
  clear c0 c1 c2 c3 c4 f0
  obtain ⟨c0, c1, c2, c3, c4⟩ := cells5 hx
  refine bodyPost_ret (by simp [results, Try.results19, go_sem, c0, c1, c2, c3, c4]; try rfl) rfl ?_
  exact ⟨rfl, hbx⟩
set_option maxHeartbeats 4000000 in
set_option maxRecDepth 100000 in
theorem rloseNo_any {w : World} {R : Nat → Prop} {xb : Nat} {v : Value} {ps : List (Le × Pl)} {last : Nat} (h : Rn w R xb v ps last) (x : Int) (hp : pick ps x = none) (hm : ps.length ≤ 4000) :
    Calls Try.prog 21 #[.pointer (some ⟨xb, 0, none⟩), .int .u64 x] w fun e w' => e = .returned (.int .i64 6) ∧ Below w.heap.size w w' := by
  have CT := Lib.hid (rdeliverNo_any h x hp hm)
  clear h
  go_enter Try.func21, Try.ntmps21
  go_wp2_with fail
  refine CT.out.mono ?_
  rintro e w1 ⟨rfl, hb⟩
  simp only [zeroL]
  have HB := Lib.hid hb
  clear hb
  go_wp2
  go_ret
  exact ⟨rfl, HB.out.alloc HB.out.size _⟩

theorem drop_pos {ps : List (Le × Pl)} (hr : (ps.map (·.1)).Pairwise (fun x y : Le => x.num < y.num)) {k : Nat} (hk : k < ps.length) : drop ps ps[k].1.num = ps.take k ++ ps.drop (k + 1) := by
  have hr' : ps.Pairwise (fun p q => p.1.num < q.1.num) := (List.pairwise_map (f := fun q : Le × Pl => q.1) (R := fun x y : Le => x.num < y.num)).1 hr
  have e : ps = ps.take k ++ ps[k] :: ps.drop (k + 1) := by rw [← List.drop_eq_getElem_cons hk, List.take_append_drop]
  have hp : (ps.take k ++ ps[k] :: ps.drop (k + 1)).Pairwise (fun p q => p.1.num < q.1.num) := by rw [← e]; exact hr'
  obtain ⟨_, h2, h3⟩ := List.pairwise_append.1 hp
  obtain ⟨h4, _⟩ := List.pairwise_cons.1 h2
  have g : drop (ps.take k ++ ps[k] :: ps.drop (k + 1)) ps[k].1.num = ps.take k ++ ps.drop (k + 1) := by
    unfold drop
    rw [List.filter_append, List.filter_cons]
    simp only [decide_true, Bool.not_true, Bool.false_eq_true, if_false]
    congr 1
    · exact List.filter_eq_self.2 fun p hp => by have := h3 p hp _ (List.mem_cons_self ..); simp; omega
    · exact List.filter_eq_self.2 fun p hp => by have := h4 p hp; simp; omega
  exact (congrArg (fun l => drop l ps[k].1.num) e).trans g
theorem cLs_take (ps : List (Le × Pl)) (k : Nat) : cLs (ps.take k) = (cLs ps).take (k * 5) := by
  induction ps generalizing k with
  | nil => simp [cLs]
  | cons p ps ih =>
    cases k with
    | zero => simp [cLs]
    | succ k =>
      have e : ∀ l : List (Le × Pl), cLs (p :: l) = cL p ++ cLs l := fun _ => rfl
      have e3 : (cL p).take ((k + 1) * 5) = cL p := List.take_of_length_le (by show 5 ≤ (k + 1) * 5; omega)
      rw [List.take_succ_cons, e, e, ih, List.take_append, show (cL p).length = 5 from rfl, e3, show (k + 1) * 5 - 5 = k * 5 by omega]
theorem cLs_drop (ps : List (Le × Pl)) (k : Nat) : cLs (ps.drop k) = (cLs ps).drop (k * 5) := by
  induction ps generalizing k with
  | nil => simp [cLs]
  | cons p ps ih =>
    cases k with
    | zero => simp
    | succ k =>
      have e : ∀ l : List (Le × Pl), cLs (p :: l) = cL p ++ cLs l := fun _ => rfl
      have e3 : (cL p).drop ((k + 1) * 5) = [] := List.drop_eq_nil_of_le (by show 5 ≤ (k + 1) * 5; omega)
      rw [List.drop_succ_cons, e, ih, List.drop_append, show (cL p).length = 5 from rfl, e3, List.nil_append, show (k + 1) * 5 - 5 = k * 5 by omega]

theorem cLs_one (ps : List (Le × Pl)) : ∀ u ∈ cLs ps, u.oneCell' = true := by
  intro u hu
  obtain ⟨p, _, hp⟩ := List.mem_flatMap.1 hu
  simp only [cL, List.mem_cons, List.not_mem_nil, or_false] at hp
  rcases hp with rfl | rfl | rfl | rfl | rfl <;> rfl
theorem empty_own5 (w : World) (e : TypeId) : (w.alloc (.cells #[] e)).ownsRow w.heap.size e 5 (.slice (some ⟨w.heap.size, 0, none⟩) 0 0) 0 [] :=
  ⟨rfl, .inr ⟨w.heap.size, 0, #[], rfl, Nat.le_refl _, heap_alloc_new w _, Nat.le_refl _, by unfold maxLen; omega, rfl, rfl⟩⟩
theorem cut_take {w : World} {lim k : Nat} {ad : Addr} {ps : List (Le × Pl)} (h : Rds w lim (some ad) (cLs ps)) {j : Nat} {u : Value} (hj : (cLs (ps.take k))[j]? = some u) : w.cell? (ad.add j) = some u := by
  rw [cLs_take] at hj
  obtain ⟨ad', e, _, hc⟩ := (h.take (k * 5)).at_ hj
  cases e
  exact hc
theorem cut_drop {w : World} {lim k cp : Nat} {ad ad2 : Addr} {ps : List (Le × Pl)} (h : Rds w lim (some ad) (cLs ps)) (ha : ad2 = if cp = k + 1 then ad else ad.add ((k + 1) * 5)) (hl : ps.length ≤ cp) {j : Nat} {u : Value} (hj : (cLs (ps.drop (k + 1)))[j]? = some u) : w.cell? (ad2.add j) = some u := by
  by_cases hc : cp = k + 1
  · rw [List.drop_eq_nil_of_le (by omega)] at hj
    cases hj
  · rw [if_neg hc] at ha
    rw [cLs_drop, List.getElem?_drop] at hj
    obtain ⟨ad', e, _, hcell⟩ := h.at_ hj
    cases e
    rw [ha, add_twice]
    exact hcell

set_option maxHeartbeats 4000000 in
set_option maxRecDepth 100000 in
theorem rdeliver_any {w : World} {R : Nat → Prop} {xb : Nat} {v : Value} {ps : List (Le × Pl)} {last : Nat} (h : Rn w R xb v ps last) (x : Int) {p : Le × Pl} (hp : pick ps x = some p) (hm : ps.length ≤ 4000) (hris : (ps.map (·.1)).Pairwise (fun x y : Le => x.num < y.num)) :
    Calls Try.prog 19 #[.pointer (some ⟨xb, 0, none⟩), .int .u64 x] w fun e w' => e = .returned (.tuple #[val p.1 p.2, .int .i64 0]) ∧
      ∃ v' R', Rn w' R' xb v' (drop ps x) last ∧ Outs (fun i => i = xb) w w' ∧ (∀ i, R' i → R i ∨ w.heap.size ≤ i) ∧ Rds w' w'.heap.size p.2.1 (c8 p.1.body) := by
  obtain ⟨il, hil, hl0, hl1, hl2⟩ := info_parts infoL
  obtain ⟨k, hk, hpos, hpk, _⟩ := posN_some hp
  have hpx : p.1.num = x := (hit_some hp).2.2.2
  have hdr := drop_pos hris hk
  rw [hpk, hpx] at hdr
  rw [hdr]
  have ct := place_any (h.go (newL_below w)) x (by omega)
  rw [hpos] at ct
  have hrow := h.row
  have hb0 := newL_below w
  have H0 := h.go hb0
  have hxl := h.blk.lt
  have hcap : ∃ ad cp, v = .slice (some ad) ps.length cp ∧ ps.length ≤ cp ∧ cp ≤ maxLen := by
    rcases hrow.2 with ⟨_, h0⟩ | ⟨g, cap, cur, rfl, _, _, h1, h2, _⟩
    · omega
    · exact ⟨_, cap, rfl, h1, h2⟩
  obtain ⟨ad, cp, rfl, hcp, hcm⟩ := hcap
  obtain ⟨n, hn⟩ : ∃ n, ps.length = n := ⟨_, rfl⟩
  have HN := Lib.hid hn
  have HR := Lib.hid (show Rds w w.heap.size (some ad) (cLs ps) by obtain ⟨A, c, e, hr⟩ := row_slice hrow; cases e; exact hr)
  have H := Lib.hid h
  have HH0 := Lib.hid H0
  have CT := Lib.hid ct
  have HB := Lib.hid hb0
  have HWB := Lib.hid (newL_whole w)
  have HPK := Lib.hid hpk
  rw [hn] at hcp hm hk
  clear ct hrow H0 h hb0 hpk hpos hdr hpx hn hris
  go_enter Try.func19, Try.ntmps19
  go_upto_region 1 with fail
  change Code.wp _ _ _ _ (newL w)
  generalize newL w = w0 at CT HB HWB HH0 ⊢
  go_wp2_with fail
  refine CT.out.mono ?_
  rintro e w1 ⟨rfl, hw⟩
  rw [hw]
  clear hw
  have hsz0 := HB.out.size
  have c0 : w0.cell? ⟨xb, 0, none⟩ = some (.slice (some ad) n cp) := by rw [← HN.out]; simpa using HH0.out.blk.cell 0
  obtain ⟨ad', e, _, d0, d1, d2, d3, d4⟩ := at5 (HR.out.below HB.out) (k := k) (by have := HN.out; omega)
  obtain rfl := Option.some.inj e
  rw [HPK.out] at d0 d1 d2 d3 d4
  go_upto_region 5 with fail
  have hbn : Below w0.heap.size w0 (w0.alloc (.cells #[.int .u64 p.1.num, .int .u64 p.1.first, .int .i64 p.1.frm, .int .i64 p.1.to_, .slice p.2.1 p.1.body.length p.2.2] 32)) := (Below.refl _ _).alloc (Nat.le_refl _) _
  have HBX := Lib.hid (Whole.new w0 32 #[.int .u64 p.1.num, .int .u64 p.1.first, .int .i64 p.1.frm, .int .i64 p.1.to_, .slice p.2.1 p.1.body.length p.2.2])
  have HW0 := Lib.hid (HWB.out.below hbn HWB.out.lt)
  have HB1 := Lib.hid (HB.out.trans (hbn.mono hsz0))
  have HH1 := Lib.hid (HH0.out.go hbn)
  clear hbn d0 d1 d2 d3 d4 c0
  generalize (w0.alloc (.cells #[.int .u64 p.1.num, .int .u64 p.1.first, .int .i64 p.1.frm, .int .i64 p.1.to_, .slice p.2.1 p.1.body.length p.2.2] 32)) = W at HBX HW0 HB1 HH1 ⊢
  have hszW := HB1.out.size
  have hS : ∀ w', Below W.heap.size W w' → (w'.cell? ⟨xb, 0, none⟩ = some (.slice (some ad) n cp) ∧ w'.frozen? ⟨xb, 0, none⟩ = false) := fun w' hb => by
    have hX := HH1.out.blk.below hb HH1.out.blk.lt
    exact ⟨by rw [← HN.out]; simpa using hX.cell 0, hX.frozen 0⟩
  have q1 : ¬ ((k : Int) < 0) := by omega
  have q2 : ¬ ((cp : Int) < (k : Int)) := by omega
  have q3 : (k : Int) ≤ (cp : Int) := by omega
  have q4 : (k : Int) + 1 ≤ (n : Int) := by omega
  have q5 : k ≤ cp := by omega
  have q6 : k + 1 ≤ n := by omega
  have q7 : k + 1 ≤ cp := by omega
  have HS := Lib.hid hS
  clear hS
  refine wp_region_G 17 (fun w' => w'.cell? ⟨xb, 0, none⟩ = some (.slice (some ad) n cp) ∧ w'.frozen? ⟨xb, 0, none⟩ = false) (by kernel_rfl) (by kernel_rfl) (HS.out _ (Below.refl _ _).drew) (fun hSS hst => ?_)
  have q8 : 0 ≤ (k : Int) + 1 := by omega
  obtain ⟨ad2, had⟩ : ∃ a, a = if cp = k + 1 then ad else ad.add ((k + 1) * 5) := ⟨_, rfl⟩
  have HAD := Lib.hid had
  clear had
  have hwrap : IntKind.i64.wrap ((k : Int) + 1) = (k : Int) + 1 := IntWalk.i64_in _ (by omega)
  refine wpAnyG_take (i := 0) (v := ?_) rfl (by kernel_rfl) hst (by kernel_rfl) (by kernel_rfl) (fun _ _ _ h => h) hSS (Or.inl ⟨by rfl, ?_⟩) (fun hst2 => ?_)
  rotate_left
  · (intro w hSw; (try dsimp only at hSw); go_simp; try (with_reducible rfl))
  clear hst; have hst := hst2; clear hst2
  try simp only [Act.put, List.setIfInBounds_toArray, List.set_cons_zero, List.set_cons_succ]
  refine wpAnyG_take (i := 2) (v := ?_) rfl (by kernel_rfl) hst (by kernel_rfl) (by kernel_rfl) (fun _ _ _ h => h) hSS (Or.inl ⟨by rfl, ?_⟩) (fun hst2 => ?_)
  rotate_left
  · (intro w hSw; (try dsimp only at hSw); go_simp; try (with_reducible rfl))
  clear hst; have hst := hst2; clear hst2
  try simp only [Act.put, List.setIfInBounds_toArray, List.set_cons_zero, List.set_cons_succ]
  refine wpAnyG_take (i := 3) (v := ?_) rfl (by kernel_rfl) hst (by kernel_rfl) (by kernel_rfl) (fun _ _ _ h => h) hSS (Or.inl ⟨by rfl, ?_⟩) (fun hst2 => ?_)
  rotate_left
  · (intro w hSw; (try dsimp only at hSw); go_simp; try (with_reducible rfl))
  clear hst; have hst := hst2; clear hst2
  try simp only [Act.put, List.setIfInBounds_toArray, List.set_cons_zero, List.set_cons_succ]
  refine wpAnyG_take (i := 4) (v := ?_) rfl (by kernel_rfl) hst (by kernel_rfl) (by kernel_rfl) (fun _ _ _ h => h) hSS (Or.inl ⟨by rfl, ?_⟩) (fun hst2 => ?_)
  rotate_left
  · (intro w hSw; (try dsimp only at hSw); go_simp; try (with_reducible rfl))
  clear hst; have hst := hst2; clear hst2
  try simp only [Act.put, List.setIfInBounds_toArray, List.set_cons_zero, List.set_cons_succ]
  refine wpAnyG_take (i := 5) (v := ?_) rfl (by kernel_rfl) hst (by kernel_rfl) (by kernel_rfl) (fun _ _ _ h => h) hSS (Or.inl ⟨by rfl, ?_⟩) (fun hst2 => ?_)
  rotate_left
  · (intro w hSw; (try dsimp only at hSw); go_simp; try (with_reducible rfl))
  clear hst; have hst := hst2; clear hst2
  try simp only [Act.put, List.setIfInBounds_toArray, List.set_cons_zero, List.set_cons_succ]
  refine wpAnyG_take (i := 6) (v := ?_) rfl (by kernel_rfl) hst (by kernel_rfl) (by kernel_rfl) (fun _ _ _ h => h) hSS (Or.inl ⟨by rfl, ?_⟩) (fun hst2 => ?_)
  rotate_left
  · (intro w hSw; (try dsimp only at hSw); go_simp; try (with_reducible rfl))
  clear hst; have hst := hst2; clear hst2
  try simp only [Act.put, List.setIfInBounds_toArray, List.set_cons_zero, List.set_cons_succ]
  refine wpAnyG_take (i := 7) (v := ?_) rfl (by kernel_rfl) hst (by kernel_rfl) (by kernel_rfl) (fun _ _ _ h => h) hSS (Or.inl ⟨by rfl, ?_⟩) (fun hst2 => ?_)
  rotate_left
  · (intro w hSw; (try dsimp only at hSw); go_simp; try (with_reducible rfl))
  clear hst; have hst := hst2; clear hst2
  try simp only [Act.put, List.setIfInBounds_toArray, List.set_cons_zero, List.set_cons_succ]
  refine wpAnyG_take (i := 9) (v := ?_) rfl (by kernel_rfl) hst (by kernel_rfl) (by kernel_rfl) (fun _ _ _ h => h) hSS (Or.inl ⟨by rfl, ?_⟩) (fun hst2 => ?_)
  rotate_left
  · (intro w hSw; (try dsimp only at hSw); go_simp; try (with_reducible rfl))
  clear hst; have hst := hst2; clear hst2
  try simp only [Act.put, List.setIfInBounds_toArray, List.set_cons_zero, List.set_cons_succ]
  refine wpAnyG_take (i := 10) (v := ?_) rfl (by kernel_rfl) hst (by kernel_rfl) (by kernel_rfl) (fun _ _ _ h => h) hSS (Or.inl ⟨by rfl, ?_⟩) (fun hst2 => ?_)
  rotate_left
  · (intro w hSw; (try dsimp only at hSw); go_simp; try (with_reducible rfl))
  clear hst; have hst := hst2; clear hst2
  try simp only [Act.put, List.setIfInBounds_toArray, List.set_cons_zero, List.set_cons_succ]
  refine wpAnyG_take (i := 11) (v := ?_) rfl (by kernel_rfl) hst (by kernel_rfl) (by kernel_rfl) (fun _ _ _ h => h) hSS (Or.inl ⟨by rfl, ?_⟩) (fun hst2 => ?_)
  rotate_left
  · (intro w hSw; (try dsimp only at hSw); go_simp; try (with_reducible rfl))
  clear hst; have hst := hst2; clear hst2
  try simp only [Act.put, List.setIfInBounds_toArray, List.set_cons_zero, List.set_cons_succ]
  refine wpAnyG_take (i := 12) (v := ?_) rfl (by kernel_rfl) hst (by kernel_rfl) (by kernel_rfl) (fun _ _ _ h => h) hSS (Or.inl ⟨by rfl, ?_⟩) (fun hst2 => ?_)
  rotate_left
  · (intro w hSw; (try dsimp only at hSw); go_simp; try (with_reducible rfl))
  clear hst; have hst := hst2; clear hst2
  try simp only [Act.put, List.setIfInBounds_toArray, List.set_cons_zero, List.set_cons_succ]
  refine wpAnyG_take (i := 13) (v := ?_) rfl (by kernel_rfl) hst (by kernel_rfl) (by kernel_rfl) (fun _ _ _ h => h) hSS (Or.inl ⟨by rfl, ?_⟩) (fun hst2 => ?_)
  rotate_left
  · (intro w hSw; (try dsimp only at hSw); go_simp; try (with_reducible rfl))
  clear hst; have hst := hst2; clear hst2
  try simp only [Act.put, List.setIfInBounds_toArray, List.set_cons_zero, List.set_cons_succ]
  refine wpAnyG_take (i := 14) (v := .int .i64 ((k : Int) + 1)) rfl (by kernel_rfl) hst (by kernel_rfl) (by kernel_rfl) (fun _ _ _ h => h) hSS (Or.inl ⟨by rfl, ?_⟩) (fun hst2 => ?_)
  · intro w hSw
    go_simp
    try rw [hwrap]
  clear hst
  have hst := hst2
  clear hst2
  try simp only [Act.put, List.setIfInBounds_toArray, List.set_cons_zero, List.set_cons_succ]
  refine wpAnyG_take (i := 15) (v := .slice (some ad2) (n - (k + 1)) (cp - (k + 1))) rfl (by kernel_rfl) hst (by kernel_rfl) (by kernel_rfl) (fun _ _ _ h => h) hSS (Or.inl ⟨by rfl, ?_⟩) (fun hst2 => ?_)
  · intro w hSw
    go_simp
    first
      | (rw [if_pos q8, HAD.out]; split <;> rfl)
      | (rw [HAD.out]; split <;> rfl)
  clear hst
  have hst := hst2
  clear hst2
  try simp only [Act.put, List.setIfInBounds_toArray, List.set_cons_zero, List.set_cons_succ]
  refine wpAnyG_one (i := 1) (by kernel_rfl) rfl (by kernel_rfl) hst (fun K hK => ?_)
  go_simp
  have hbA : Below W.heap.size W (W.alloc (.cells #[] 32)).drew := ((Below.refl _ _).alloc (Nat.le_refl _) _).drew
  refine hK.out _ _ (HS.out _ hbA) (fun hSS2 hst2 => ?_)
  clear hst hK K hSS
  have hst := hst2
  have hSS := hSS2
  clear hst2 hSS2
  try simp only [Act.put, List.setIfInBounds_toArray, List.set_cons_zero, List.set_cons_succ]
  refine wpAnyG_one (i := 8) (by kernel_rfl) rfl (by kernel_rfl) hst (fun K hK => ?_)
  have hRW := (HR.out.below HB1.out)
  have hown0 : (W.alloc (.cells #[] 32)).drew.ownsRow W.heap.size 32 5 (.slice (some ⟨W.heap.size, 0, none⟩) 0 0) 0 [] := empty_own5 W _
  have hA1 : (W.alloc (.cells #[] 32)).drew.heap.size = W.heap.size + 1 := by simp [World.drew]
  refine step_grow rfl (.tmp 22) (.tmp 28) 41 rfl W.heap.size 32 il zeroL 5 56 Try.underlying41 hil hl0 hl1 hl2 rfl (by decide) _ 0 [] rfl hown0 ad k cp (cLs (ps.take k)) rfl (by rw [cLs_length, List.length_take, HN.out, Nat.min_eq_left (by omega)]) (fun j u hj => cut_take (hRW.below (hbA.mono hszW)) hj) (cLs_one _) (by unfold maxLen; omega) (by omega) (by rw [hA1]; omega) ?_
  intro v8 w8 hrow8 hg8 hat8
  have hb8 : Below W.heap.size W w8 := hbA.grown hg8 (by rw [hA1]; omega) (fun g hg => Nat.le_of_eq (Option.some.inj (show some W.heap.size = some g from hg)))
  refine hK.out _ _ (HS.out _ hb8) (fun hSS2 hst2 => ?_)
  clear hst hK K hSS
  have hst := hst2
  have hSS := hSS2
  clear hst2 hSS2
  try simp only [Act.put, List.setIfInBounds_toArray, List.set_cons_zero, List.set_cons_succ]
  refine wpAnyG_one (i := 16) (by kernel_rfl) rfl (by kernel_rfl) hst (fun K hK => ?_)
  refine step_grow rfl (.tmp 29) (.tmp 36) 41 rfl W.heap.size 32 il zeroL 5 56 Try.underlying41 hil hl0 hl1 hl2 rfl (by decide) v8 (0 + k) ([] ++ cLs (ps.take k)) rfl hrow8 ad2 (n - (k + 1)) (cp - (k + 1)) (cLs (ps.drop (k + 1))) rfl (by rw [cLs_length, List.length_drop, HN.out]) (fun j u hj => cut_drop (hRW.below (hb8.mono hszW)) HAD.out (by rw [HN.out]; exact hcp) hj) (cLs_one _) (by unfold maxLen; omega) (by omega) hb8.size ?_
  intro v9 w9 hrow9 hg9 hat9
  have hb9 : Below W.heap.size W w9 := hb8.grown hg9 hb8.size (fun g hg => (hrow8.lt g hg).1)
  refine hK.out _ _ (HS.out _ hb9) (fun hSS2 hst2 => ?_)
  clear hst hK K hSS
  have hst := hst2
  have hSS := hSS2
  clear hst2 hSS2
  try simp only [Act.put, List.setIfInBounds_toArray, List.set_cons_zero, List.set_cons_succ]
  have hcs : cLs (ps.take k ++ ps.drop (k + 1)) = [] ++ cLs (ps.take k) ++ cLs (ps.drop (k + 1)) := by simp [cLs]
  have hln : (ps.take k ++ ps.drop (k + 1)).length = 0 + k + (n - (k + 1)) := by rw [List.length_append, List.length_take, List.length_drop, HN.out, Nat.min_eq_left (by omega)]; omega
  rw [← hcs, ← hln] at hrow9
  obtain ⟨fl, hfl⟩ : ∃ fl, fl = ps.take k ++ ps.drop (k + 1) := ⟨_, rfl⟩
  rw [← hfl] at hrow9
  obtain ⟨L9, hL9⟩ : ∃ L9, fl.length = L9 := ⟨_, rfl⟩
  rw [hL9] at hrow9
  have HL9 := Lib.hid hL9
  have HFL := Lib.hid hfl
  clear hL9 hfl
  clear hcs hln hrow8 hg8 hat8 hg9 hat9 hown0 hA1 hbA hRW hb8
  obtain ⟨A9, c9, rfl, hr9⟩ := row_slice hrow9
  clear hr9
  refine wpAnyG_pass (i := 17) (by kernel_rfl) rfl (by kernel_rfl) (fun K hK => ?_)
  go_simp
  refine hK.out _ _ ?_
  clear hK K
  try simp only [Act.put, List.setIfInBounds_toArray, List.set_cons_zero, List.set_cons_succ]
  refine wpAnyG_pass (i := 18) (by kernel_rfl) rfl (by kernel_rfl) (fun K hK => ?_)
  go_simp
  refine hK.out _ _ ?_
  clear hK K
  try simp only [Act.put, List.setIfInBounds_toArray, List.set_cons_zero, List.set_cons_succ]
  refine wpAnyG_last (i := 19) (by kernel_rfl) rfl (by kernel_rfl) (by kernel_rfl) (fun K hK => ?_)
  obtain ⟨s0, s1⟩ := HS.out _ hb9
  go_simp
  refine hK.out _ _ ?_
  clear hK K hst hSS
  have hx9 := HH1.out.blk.below hb9 HH1.out.blk.lt
  have hx10 : Whole (w9.setCell ⟨xb, 0, none⟩ (.slice A9 L9 c9)) xb 43 #[.slice A9 L9 c9, .int .u64 last] := hx9.put 0 (.slice A9 L9 c9)
  have hwW : Below w.heap.size w w9 := HB1.out.trans (hb9.mono hszW)
  have ho10 : Outs (fun i => i = xb) w (w9.setCell ⟨xb, 0, none⟩ (.slice A9 L9 c9)) := Outs.setCell (S := fun i => i = xb) (p := ⟨xb, 0, none⟩) (Outs.of hwW) (.inl rfl) _
  have hv9 : ∀ g, (Value.slice A9 L9 c9).ownBlock = some g → W.heap.size ≤ g ∧ g < w9.heap.size := fun g hg => hrow9.lt g hg
  have hs10 : (w9.setCell ⟨xb, 0, none⟩ (.slice A9 L9 c9)).heap.size = w9.heap.size := by simp [World.setCell]
  have hgw := HW0.out.lt
  have hgx := HBX.out.lt
  have hz9 := hb9.size
  have hfin : Rn (w9.setCell ⟨xb, 0, none⟩ (.slice A9 L9 c9)) (fun i => R i ∨ (Value.slice A9 L9 c9).ownBlock = some i) xb (.slice A9 L9 c9) fl last := by
    refine ⟨hx10, ownRow_block_kept (by rw [HL9.out]; exact ownRow_base hrow9 (fun _ _ => Nat.zero_le _)) fun g hg => Below.heap_setCell w9 ⟨xb, 0, none⟩ _ g (fun e => by have := (hv9 g hg).1; have : g = xb := e; omega), .inl H.out.rx, fun g hg => ⟨.inr hg, fun e => by have := (hv9 g hg).1; omega⟩, fun q hq => ?_, fun i hi => ?_⟩
    · have hqm : q ∈ ps := by
        rw [HFL.out] at hq
        rcases List.mem_append.1 hq with hq | hq
        · exact List.mem_of_mem_take hq
        · exact List.mem_of_mem_drop hq
      refine ((H.out.bd q hqm).within.outs ho10 (fun i hi => hi.1.2.1)).mono fun i hi => ⟨.inl hi.1.1, hi.1.2.1, fun e => by have := (hv9 i e).1; have := hi.2; omega⟩
    · rw [hs10]
      rcases hi with hi | hi
      · have := H.out.lt i hi; omega
      · exact (hv9 i hi).2
  have hg10 := (HBX.out.below hb9 hgx).far (p := ⟨xb, 0, none⟩) (by show w0.heap.size ≠ xb; omega) (.slice A9 L9 c9)
  have ht10 := (HW0.out.below hb9 hgw).far (p := ⟨xb, 0, none⟩) (by show w.heap.size ≠ xb; omega) (.slice A9 L9 c9)
  have HFIN := Lib.hid hfin
  have HO10 := Lib.hid ho10
  have HG10 := Lib.hid hg10
  have HT10 := Lib.hid ht10
  have HS10 := Lib.hid hs10
  have HV9 := Lib.hid hv9
  clear hfin ho10 hg10 ht10 hs10 hv9 hx10 hwW hrow9 s0 s1 hx9 hb9
  generalize w9.setCell ⟨xb, 0, none⟩ (.slice A9 L9 c9) = w10 at HFIN HO10 HG10 HT10 HS10 ⊢
  obtain ⟨c0, c1, c2, c3, c4⟩ := cells5 HT10.out
  obtain ⟨d0, d1, d2, d3, d4⟩ := cells5 HG10.out
  have f0 := HT10.out.frozen
  go_wp2
  have hx := put5_whole HT10.out (.int .u64 p.1.num) (.int .u64 p.1.first) (.int .i64 p.1.frm) (.int .i64 p.1.to_) (.slice p.2.1 p.1.body.length p.2.2)
  have hox := put5_outs w10 w.heap.size (.int .u64 p.1.num) (.int .u64 p.1.first) (.int .i64 p.1.frm) (.int .i64 p.1.to_) (.slice p.2.1 p.1.body.length p.2.2)
  change bodyPost _ _ _ _ _ (put5 w10 w.heap.size (.int .u64 p.1.num) (.int .u64 p.1.first) (.int .i64 p.1.frm) (.int .i64 p.1.to_) (.slice p.2.1 p.1.body.length p.2.2))
  generalize put5 w10 w.heap.size (.int .u64 p.1.num) (.int .u64 p.1.first) (.int .i64 p.1.frm) (.int .i64 p.1.to_) (.slice p.2.1 p.1.body.length p.2.2) = W2 at hx hox ⊢
  clear c0 c1 c2 c3 c4 f0 d0 d1 d2 d3 d4
  obtain ⟨c0, c1, c2, c3, c4⟩ := cells5 hx
  refine bodyPost_ret (by simp [results, Try.results19, go_sem, c0, c1, c2, c3, c4]; try rfl) rfl ?_
  have hpm : p ∈ ps := by rw [← HPK.out]; exact List.getElem_mem _
  have ho2 : Outs (fun i => i = xb) w W2 := HO10.out.trans hox (fun i hi => .inr (Nat.le_of_eq hi.symm))
  refine ⟨rfl, .slice A9 L9 c9, (fun i => R i ∨ (Value.slice A9 L9 c9).ownBlock = some i), ?_, ho2, fun i hi => ?_, ?_⟩
  · rw [← HFL.out]
    refine HFIN.out.outs hox (fun i hi e => ?_)
    have e : i = w.heap.size := e
    rcases hi with hi | hi
    · have := H.out.lt i hi; omega
    · have := (HV9.out i hi).1; omega
  · rcases hi with hi | hi
    · exact .inl hi
    · have := (HV9.out i hi).1; exact .inr (by omega)
  · exact ((H.out.bd p hpm).outs ho2 (fun i hi => hi.2.1)).rds
set_option maxHeartbeats 4000000 in
set_option maxRecDepth 100000 in
theorem rlose_any {w : World} {R : Nat → Prop} {xb : Nat} {v : Value} {ps : List (Le × Pl)} {last : Nat} (h : Rn w R xb v ps last) (x : Int) {p : Le × Pl} (hp : pick ps x = some p) (hm : ps.length ≤ 4000) (hris : (ps.map (·.1)).Pairwise (fun x y : Le => x.num < y.num)) :
    Calls Try.prog 21 #[.pointer (some ⟨xb, 0, none⟩), .int .u64 x] w fun e w' => e = .returned (.int .i64 0) ∧
      ∃ v' R', Rn w' R' xb v' (drop ps x) last ∧ Outs (fun i => i = xb) w w' ∧ (∀ i, R' i → R i ∨ w.heap.size ≤ i) := by
  have CT := Lib.hid (rdeliver_any h x hp hm hris)
  have hxl := h.blk.lt
  clear h
  go_enter Try.func21, Try.ntmps21
  go_wp2_with fail
  refine CT.out.mono ?_
  rintro e w1 ⟨rfl, v', R', h1, h2, h3, -⟩
  simp only [val]
  have HA := Lib.hid (And.intro h1 (And.intro h2 h3))
  clear h1 h2 h3
  go_wp2
  go_ret
  exact ⟨rfl, v', R', HA.out.1.go ((Below.refl _ _).alloc (Nat.le_refl _) _), HA.out.2.1.alloc _, HA.out.2.2⟩
end Go.Proofs.Ytnleeffajljodaa
end

section
/- The document's net: To, Clear. -/
namespace Go.Proofs.Ytnleeffajljodaa
open Go.RowKit Go.Maps
set_option linter.unusedVariables false

theorem toN_step {ps : List (Le × Pl)} {k : Nat} (hk : k < ps.length) (node : Int) : toN (ps.take (k + 1)) node = toN (ps.take k) node ++ (if ps[k].1.to_ = node then [ps[k]] else []) := by
  rw [List.take_add_one, List.getElem?_eq_getElem hk]
  unfold toN
  rw [List.filter_append]
  congr 1
  by_cases h : ps[k].1.to_ = node <;> simp [h]
theorem awayN_step {ps : List (Le × Pl)} {k : Nat} (hk : k < ps.length) (node : Int) : awayN (ps.take (k + 1)) node = awayN (ps.take k) node ++ (if ps[k].1.to_ = node then [] else [ps[k]]) := by
  rw [List.take_add_one, List.getElem?_eq_getElem hk]
  unfold awayN
  rw [List.filter_append]
  congr 1
  by_cases h : ps[k].1.to_ = node <;> simp [h]

set_option maxHeartbeats 4000000 in
set_option maxRecDepth 100000 in
theorem rto_any {w : World} {R : Nat → Prop} {xb : Nat} {v : Value} {ps : List (Le × Pl)} {last : Nat} (h : Rn w R xb v ps last) (node : Int) (hm : ps.length ≤ 4000) :
    Calls Try.prog 26 #[.pointer (some ⟨xb, 0, none⟩), .int .i64 node] w fun e w' => ∃ A c n, e = .returned (.slice A n c) ∧ n = (nums (toN ps node)).length ∧ Rds w' w'.heap.size A (cU (nums (toN ps node))) ∧ Below w.heap.size w w' := by
  obtain ⟨iu, hiu, hu0, hu1, hu2⟩ := info_parts info64
  obtain ⟨A, c, rfl, hr⟩ := h.open_
  obtain ⟨n, hn⟩ : ∃ n, ps.length = n := ⟨_, rfl⟩
  have c0 : w.cell? ⟨xb, 0, none⟩ = some (.slice A n c) := by rw [← hn]; simpa using h.blk.cell 0
  have HX := Lib.hid (World.block_lt_of_cell? _ _ c0)
  have HC0 := Lib.hid c0
  have HN := Lib.hid hn
  have HR := Lib.hid hr
  rw [hn] at hm
  clear h hn hr c0
  go_enter Try.func26, Try.ntmps26
  go_wp2
  go_loopw [5, 6] (fun v5 vi wr => ∃ (k m : Nat), vi = .int .i64 k ∧ k ≤ n ∧ m = (toN (ps.take k) node).length ∧ wr.ownsRow w.heap.size 25 1 v5 m (cU (nums (toN (ps.take k) node))) ∧ Below w.heap.size w wr) (fun _ vi _ => n - (intOf vi).toNat)
  case atStart => exact ⟨0, 0, rfl, Nat.zero_le _, rfl, World.ownsRow_nil _ _ _ _, Below.refl _ _⟩
  case round =>
    obtain ⟨k, m, rfl, hk, hmm, hrow, hb⟩ := hrel
    have hsz := hb.size
    have c0 : wr.cell? ⟨xb, 0, none⟩ = some (.slice A n c) := by rw [hb.cell (p := ⟨xb, 0, none⟩) HX.out]; exact HC0.out
    by_cases hlt : k < n
    · have hke : k < ps.length := by have := HN.out; omega
      obtain ⟨ad, rfl, _, d0, d1, d2, d3, d4⟩ := at5 (HR.out.below hb) hke
      have hst := toN_step hke node
      have hml : m ≤ k := by rw [hmm]; exact Nat.le_trans (List.length_filter_le _ _) (by rw [List.length_take]; omega)
      obtain ⟨y, hy⟩ : ∃ y, y = ps[k] := ⟨_, rfl⟩
      rw [← hy] at hst d0 d1 d2 d3 d4
      have HB := Lib.hid hb
      have HROW := Lib.hid hrow
      have HMM := Lib.hid hmm
      clear hy hb hrow hmm
      by_cases hto : y.1.to_ = node
      · rw [if_pos hto] at hst
        have HST := Lib.hid hst
        have e0 : (y.1.to_ == node) = true := by simp [hto]
        clear hst hto d1 d2 d4
        have hrow := HROW.out
        go_wp2_with (at_builtin; refine wpList_append_own_at _ rfl _ _ 36 rfl w.heap.size 25 iu (.int .u64 0) 1 8 Try.underlying36 hiu hu0 hu1 hu2 rfl (by decide) _ m (cU (nums (toN (ps.take k) node))) rfl (hrow.alloc _) ⟨wr.heap.size, 0, none⟩ 1 1 [.int .u64 y.1.num] rfl rfl (cell_one_new _ _ _) (by simp [Value.oneCell']) (by unfold maxLen; omega) (by omega) (by simp; omega) ?_; intro v5' w5' hrow5 hg5 _ hat5; go_frame)
        go_roundw
        case rel =>
          refine ⟨k + 1, m + 1, by go_num, by omega, by rw [HST.out, List.length_append, HMM.out]; rfl, ?_, (HB.out.alloc hsz _).grown hg5 (by simp; omega) (fun g hg => (HROW.out.lt g hg).1)⟩
          rw [HST.out]
          have e : cU (nums (toN (ps.take k) node ++ [y])) = cU (nums (toN (ps.take k) node)) ++ [.int .u64 y.1.num] := by simp [cU, nums]
          rw [e]
          exact hrow5
        case measure => simp [intOf]; omega
      · rw [if_neg hto, List.append_nil] at hst
        have HST := Lib.hid hst
        have e0 : (y.1.to_ == node) = false := by simp [hto]
        clear hst hto
        go_wp2
        go_roundw
        case rel => exact ⟨k + 1, m, by go_num, by omega, by rw [HST.out]; exact HMM.out, by rw [HST.out]; exact HROW.out, HB.out⟩
        case measure => simp [intOf]; omega
    · obtain rfl : k = n := by omega
      have ht : ps.take k = ps := by rw [← HN.out, List.take_length]
      rw [ht] at hmm hrow
      have HB := Lib.hid hb
      obtain ⟨A5, c5, rfl, hr5⟩ := row_slice hrow
      have HMM := Lib.hid hmm
      have HR5 := Lib.hid hr5
      clear hb hrow hmm hr5 ht
      go_wp2
      go_ret
      refine ⟨A5, c5, m, by first | rfl | simp, by rw [HMM.out]; simp [nums], HR5.out, HB.out⟩

set_option maxHeartbeats 4000000 in
set_option maxRecDepth 100000 in
theorem rclear_any {w : World} {R : Nat → Prop} {xb : Nat} {v : Value} {ps : List (Le × Pl)} {last : Nat} (h : Rn w R xb v ps last) (node : Int) (hm : ps.length ≤ 4000) :
    Calls Try.prog 24 #[.pointer (some ⟨xb, 0, none⟩), .int .i64 node] w fun e w' => e = .returned (.tuple #[]) ∧
      ∃ v' R', Rn w' R' xb v' (awayN ps node) last ∧ Outs (fun i => i = xb) w w' ∧ ∀ i, R' i → R i ∨ w.heap.size ≤ i := by
  obtain ⟨il, hil, hl0, hl1, hl2⟩ := info_parts infoL
  obtain ⟨A, c, rfl, hr⟩ := h.open_
  obtain ⟨n, hn⟩ : ∃ n, ps.length = n := ⟨_, rfl⟩
  have c0 : w.cell? ⟨xb, 0, none⟩ = some (.slice A n c) := by rw [← hn]; simpa using h.blk.cell 0
  have HX := Lib.hid (World.block_lt_of_cell? _ _ c0)
  have HC0 := Lib.hid c0
  have HN := Lib.hid hn
  have HR := Lib.hid hr
  have H := Lib.hid h
  rw [hn] at hm
  clear h hn hr c0
  go_enter Try.func24, Try.ntmps24
  go_wp2
  go_loopw [4, 5] (fun v4 vi wr => ∃ (k m : Nat), vi = .int .i64 k ∧ k ≤ n ∧ m = (awayN (ps.take k) node).length ∧ wr.ownsRow w.heap.size 32 5 v4 m (cLs (awayN (ps.take k) node)) ∧ Below w.heap.size w wr) (fun _ vi _ => n - (intOf vi).toNat)
  case atStart => exact ⟨0, 0, rfl, Nat.zero_le _, rfl, World.ownsRow_nil _ _ _ _, Below.refl _ _⟩
  case round =>
    obtain ⟨k, m, rfl, hk, hmm, hrow, hb⟩ := hrel
    have hsz := hb.size
    have c0 : wr.cell? ⟨xb, 0, none⟩ = some (.slice A n c) := by rw [hb.cell (p := ⟨xb, 0, none⟩) HX.out]; exact HC0.out
    by_cases hlt : k < n
    · have hke : k < ps.length := by have := HN.out; omega
      obtain ⟨ad, rfl, _, d0, d1, d2, d3, d4⟩ := at5 (HR.out.below hb) hke
      have hst := awayN_step hke node
      have hml : m ≤ k := by rw [hmm]; exact Nat.le_trans (List.length_filter_le _ _) (by rw [List.length_take]; omega)
      obtain ⟨y, hy⟩ : ∃ y, y = ps[k] := ⟨_, rfl⟩
      rw [← hy] at hst d0 d1 d2 d3 d4
      have HB := Lib.hid hb
      have HROW := Lib.hid hrow
      have HMM := Lib.hid hmm
      clear hy hb hrow hmm
      by_cases hto : y.1.to_ = node
      · rw [if_pos hto, List.append_nil] at hst
        have HST := Lib.hid hst
        have e0 : (y.1.to_ != node) = false := by simp [hto]
        clear hst hto
        go_wp2
        go_roundw
        case rel => exact ⟨k + 1, m, by go_num, by omega, by rw [HST.out]; exact HMM.out, by rw [HST.out]; exact HROW.out, HB.out⟩
        case measure => simp [intOf]; omega
      · rw [if_neg hto] at hst
        have HST := Lib.hid hst
        have e0 : (y.1.to_ != node) = true := by simp [hto]
        clear hst hto
        have hrow := HROW.out
        go_wp2_with (at_builtin; refine wpList_append_own_at _ rfl _ _ 41 rfl w.heap.size 32 il zeroL 5 56 Try.underlying41 hil hl0 hl1 hl2 rfl (by decide) _ m (cLs (awayN (ps.take k) node)) rfl (hrow.alloc _) ⟨wr.heap.size, 0, none⟩ 1 1 (cL y) rfl (by simp [cL]) (five_new _ _ _ _ _ _ _) (by simp [cL, Value.oneCell']) (by unfold maxLen; omega) (by omega) (by simp; omega) ?_; intro v5' w5' hrow5 hg5 _ hat5; go_frame)
        go_roundw
        case rel =>
          refine ⟨k + 1, m + 1, by go_num, by omega, by rw [HST.out, List.length_append, HMM.out]; rfl, ?_, (HB.out.alloc hsz _).grown hg5 (by simp; omega) (fun g hg => (HROW.out.lt g hg).1)⟩
          rw [HST.out]
          have e : cLs (awayN (ps.take k) node ++ [y]) = cLs (awayN (ps.take k) node) ++ cL y := by simp [cLs]
          rw [e]
          exact hrow5
        case measure => simp [intOf]; omega
    · obtain rfl : k = n := by omega
      have ht : ps.take k = ps := by rw [← HN.out, List.take_length]
      rw [ht] at hmm hrow
      subst hmm
      obtain ⟨A5, c5, rfl, hr5⟩ := row_slice hrow
      have hx := H.out.blk.below hb H.out.blk.lt
      have f0 := hx.frozen
      have hx8 := hx.put 0 (.slice A5 (awayN ps node).length c5)
      have ho8 : Outs (fun i => i = xb) w (wr.setCell ⟨xb, 0, none⟩ (.slice A5 (awayN ps node).length c5)) := Outs.setCell (S := fun i => i = xb) (p := ⟨xb, 0, none⟩) (Outs.of hb) (.inl rfl) _
      have hxl := H.out.blk.lt
      have hv5 : ∀ g, (Value.slice A5 (awayN ps node).length c5).ownBlock = some g → w.heap.size ≤ g ∧ g < wr.heap.size := fun g hg => hrow.lt g hg
      have hfin : Rn (wr.setCell ⟨xb, 0, none⟩ (.slice A5 (awayN ps node).length c5)) (fun i => R i ∨ (Value.slice A5 (awayN ps node).length c5).ownBlock = some i) xb (.slice A5 (awayN ps node).length c5) (awayN ps node) last := by
        refine ⟨hx8, ownRow_block_kept (ownRow_base hrow (fun _ _ => Nat.zero_le _)) fun g hg => Below.heap_setCell wr ⟨xb, 0, none⟩ _ g (fun e => by have := (hv5 g hg).1; have : g = xb := e; omega), .inl H.out.rx, fun g hg => ⟨.inr hg, fun e => by have := (hv5 g hg).1; omega⟩, fun p hp => ?_, fun i hi => ?_⟩
        · refine ((H.out.bd p (List.mem_filter.1 hp).1).within.outs ho8 (fun i hi => hi.1.2.1)).mono fun i hi => ⟨.inl hi.1.1, hi.1.2.1, fun e => by have := (hv5 i e).1; have := hi.2; omega⟩
        · have e : (wr.setCell ⟨xb, 0, none⟩ (.slice A5 (awayN ps node).length c5)).heap.size = wr.heap.size := by simp [World.setCell]
          rw [e]
          rcases hi with hi | hi
          · have := H.out.lt i hi; omega
          · exact (hv5 i hi).2
      have HFIN := Lib.hid hfin
      have HO8 := Lib.hid ho8
      have HR8 : Hid (∀ i, (R i ∨ (Value.slice A5 (awayN ps node).length c5).ownBlock = some i) → R i ∨ w.heap.size ≤ i) := Lib.hid fun i hi => by
        rcases hi with hi | hi
        · exact .inl hi
        · exact .inr (hv5 i hi).1
      clear hfin ho8 hx8 hv5 hr5 hx ht hb hrow
      go_wp2
      go_returns
      exact ⟨by first | rfl | simp, _, _, HFIN.out, HO8.out, HR8.out⟩
end Go.Proofs.Ytnleeffajljodaa
end

section
/- The law's flight. -/
namespace Go.Proofs.Ytnleeffajljodaa
open Go.RowKit Go.Maps
set_option linter.unusedVariables false

set_option maxHeartbeats 4000000 in
set_option maxRecDepth 100000 in
theorem flight_yes (A A' : Option Addr) (ps qs : List (Le × Pl)) (n m c c' : Nat) (w : World) (hn : ps.length = n) (hq : qs.length = m) (hl : n ≤ 1048576) (he : ps.map (·.1) = qs.map (·.1)) (hr : Rdl w w.heap.size A ps) (hr' : Rdl w w.heap.size A' qs) :
    Calls Try.prog 27 #[.slice A n c, .slice A' m c'] w fun e w' => e = .returned (.bool true) ∧ Below w.heap.size w w' := by
  have hmn : m = n := by have := congrArg List.length he; simp only [List.length_map] at this; omega
  subst hmn
  have hlb : ((m : Int) != (m : Int)) = false := by simp
  have HN := Lib.hid hn
  have HQ := Lib.hid hq
  have HE := Lib.hid he
  have HR := Lib.hid hr
  have HR' := Lib.hid hr'
  clear hn hq he hr hr'
  go_enter Try.func27, Try.ntmps27
  go_wp2
  go_loopw [5] (fun i wr => ∃ k : Nat, k ≤ m ∧ i = .int .i64 k ∧ Below w.heap.size w wr) (fun i _ => m - (intOf i).toNat)
  case atStart => exact ⟨0, Nat.zero_le _, rfl, Below.refl _ _⟩
  case round =>
    obtain ⟨k, hk, rfl, hb⟩ := hrel
    have hsz := hb.size
    by_cases hlt : k < m
    · have h1 : k < ps.length := by have := HN.out; omega
      have h2 : k < qs.length := by have := HQ.out; omega
      have hrk := HR.out.below hb
      have hrk' := HR'.out.below hb
      obtain ⟨ad, rfl, _, d0, d1, d2, d3, d4⟩ := at5 hrk.cells h1
      obtain ⟨ad', rfl, _, e0, e1, e2, e3, e4⟩ := at5 hrk'.cells h2
      obtain ⟨b1, l1⟩ := hrk.bods _ (List.getElem_mem h1)
      obtain ⟨b2, l2⟩ := hrk'.bods _ (List.getElem_mem h2)
      have hf : ps[k].1 = qs[k].1 := by
        have h := congrArg (fun l => l[k]?) HE.out
        simpa [h1, h2] using h
      have ct := fun (w' : World) (hb' : Below wr.heap.size wr w') => same_any (w := w') (k := ps[k].2) (k' := qs[k].2) (((b1.more hsz).below hb').more hb'.size) (((b2.more hsz).below hb').more hb'.size) l1 l2
      simp only [hf, decide_true, val] at ct
      rw [hf] at d0 d1 d2 d3 d4
      generalize qs[k].1 = y at d0 d1 d2 d3 d4 e0 e1 e2 e3 e4 ct
      generalize ps[k].2 = p1 at d0 d1 d2 d3 d4 ct
      generalize qs[k].2 = p2 at e0 e1 e2 e3 e4 ct
      have CT := Lib.hid ct
      have HB := Lib.hid hb
      clear ct hf b1 b2 l1 l2 hrk hrk' hb
      go_wp2_with fail
      have hS : ∀ w', Below wr.heap.size wr w' → (w'.cell? (ad.add (k * 5)) = some (.int .u64 y.num) ∧ w'.cell? ⟨(ad.add (k * 5)).block, (ad.add (k * 5)).off + 1, none⟩ = some (.int .u64 y.first) ∧ w'.cell? ⟨(ad.add (k * 5)).block, (ad.add (k * 5)).off + 2, none⟩ = some (.int .i64 y.frm) ∧ w'.cell? ⟨(ad.add (k * 5)).block, (ad.add (k * 5)).off + 3, none⟩ = some (.int .i64 y.to_) ∧ w'.cell? ⟨(ad.add (k * 5)).block, (ad.add (k * 5)).off + 4, none⟩ = some (.slice p1.1 y.body.length p1.2) ∧
          w'.cell? (ad'.add (k * 5)) = some (.int .u64 y.num) ∧ w'.cell? ⟨(ad'.add (k * 5)).block, (ad'.add (k * 5)).off + 1, none⟩ = some (.int .u64 y.first) ∧ w'.cell? ⟨(ad'.add (k * 5)).block, (ad'.add (k * 5)).off + 2, none⟩ = some (.int .i64 y.frm) ∧ w'.cell? ⟨(ad'.add (k * 5)).block, (ad'.add (k * 5)).off + 3, none⟩ = some (.int .i64 y.to_) ∧ w'.cell? ⟨(ad'.add (k * 5)).block, (ad'.add (k * 5)).off + 4, none⟩ = some (.slice p2.1 y.body.length p2.2) ∧ Below wr.heap.size wr w') := fun w' hb => by
        have kp : ∀ {a : Addr} {u : Value}, wr.cell? a = some u → w'.cell? a = some u := fun {a u} h => by rw [hb.cell (World.block_lt_of_cell? _ _ h)]; exact h
        exact ⟨kp d0, kp d1, kp d2, kp d3, kp d4, kp e0, kp e1, kp e2, kp e3, kp e4, hb⟩
      refine wp_region_G 9 (fun w' => w'.cell? (ad.add (k * 5)) = some (.int .u64 y.num) ∧ w'.cell? ⟨(ad.add (k * 5)).block, (ad.add (k * 5)).off + 1, none⟩ = some (.int .u64 y.first) ∧ w'.cell? ⟨(ad.add (k * 5)).block, (ad.add (k * 5)).off + 2, none⟩ = some (.int .i64 y.frm) ∧ w'.cell? ⟨(ad.add (k * 5)).block, (ad.add (k * 5)).off + 3, none⟩ = some (.int .i64 y.to_) ∧ w'.cell? ⟨(ad.add (k * 5)).block, (ad.add (k * 5)).off + 4, none⟩ = some (.slice p1.1 y.body.length p1.2) ∧
          w'.cell? (ad'.add (k * 5)) = some (.int .u64 y.num) ∧ w'.cell? ⟨(ad'.add (k * 5)).block, (ad'.add (k * 5)).off + 1, none⟩ = some (.int .u64 y.first) ∧ w'.cell? ⟨(ad'.add (k * 5)).block, (ad'.add (k * 5)).off + 2, none⟩ = some (.int .i64 y.frm) ∧ w'.cell? ⟨(ad'.add (k * 5)).block, (ad'.add (k * 5)).off + 3, none⟩ = some (.int .i64 y.to_) ∧ w'.cell? ⟨(ad'.add (k * 5)).block, (ad'.add (k * 5)).off + 4, none⟩ = some (.slice p2.1 y.body.length p2.2) ∧ Below wr.heap.size wr w') (by kernel_rfl) (by kernel_rfl) (hS _ (Below.refl _ _).drew) (fun hSS hst => ?_)
      refine wpAnyG_take (i := 0) (v := ?_) rfl (by kernel_rfl) hst (by kernel_rfl) (by kernel_rfl) (fun _ _ _ h => h) hSS (Or.inl ⟨by rfl, ?_⟩) (fun hst2 => ?_)
      rotate_left
      · (intro w hSw; (try dsimp only at hSw); go_simp; try (with_reducible rfl))
      clear hst; have hst := hst2; clear hst2
      try simp only [Act.put, List.setIfInBounds_toArray, List.set_cons_zero, List.set_cons_succ]
      refine wpAnyG_take (i := 1) (v := ?_) rfl (by kernel_rfl) hst (by kernel_rfl) (by kernel_rfl) (fun _ _ _ h => h) hSS (Or.inl ⟨by rfl, ?_⟩) (fun hst2 => ?_)
      rotate_left
      · (intro w hSw; (try dsimp only at hSw); go_simp; try (with_reducible rfl))
      clear hst; have hst := hst2; clear hst2
      try simp only [Act.put, List.setIfInBounds_toArray, List.set_cons_zero, List.set_cons_succ]
      refine wpAnyG_take (i := 2) (v := ?_) rfl (by kernel_rfl) hst (by kernel_rfl) (by kernel_rfl) (fun _ _ _ h => h) hSS (Or.inl ⟨by rfl, ?_⟩) (fun hst2 => ?_)
      rotate_left
      · (intro w hSw; (try dsimp only at hSw); go_simp; try (with_reducible rfl))
      clear hst; have hst := hst2; clear hst2
      try simp only [Act.put, List.setIfInBounds_toArray, List.set_cons_zero, List.set_cons_succ]
      refine wpAnyG_take (i := 3) (v := ?_) rfl (by kernel_rfl) hst (by kernel_rfl) (by kernel_rfl) (fun _ _ _ h => h) hSS (Or.inl ⟨by rfl, ?_⟩) (fun hst2 => ?_)
      rotate_left
      · (intro w hSw; (try dsimp only at hSw); go_simp; try (with_reducible rfl))
      clear hst; have hst := hst2; clear hst2
      try simp only [Act.put, List.setIfInBounds_toArray, List.set_cons_zero, List.set_cons_succ]
      refine wpAnyG_take (i := 4) (v := ?_) rfl (by kernel_rfl) hst (by kernel_rfl) (by kernel_rfl) (fun _ _ _ h => h) hSS (Or.inl ⟨by rfl, ?_⟩) (fun hst2 => ?_)
      rotate_left
      · (intro w hSw; (try dsimp only at hSw); go_simp; try (with_reducible rfl))
      clear hst; have hst := hst2; clear hst2
      try simp only [Act.put, List.setIfInBounds_toArray, List.set_cons_zero, List.set_cons_succ]
      refine wpAnyG_take (i := 5) (v := ?_) rfl (by kernel_rfl) hst (by kernel_rfl) (by kernel_rfl) (fun _ _ _ h => h) hSS (Or.inl ⟨by rfl, ?_⟩) (fun hst2 => ?_)
      rotate_left
      · (intro w hSw; (try dsimp only at hSw); go_simp; try (with_reducible rfl))
      clear hst; have hst := hst2; clear hst2
      try simp only [Act.put, List.setIfInBounds_toArray, List.set_cons_zero, List.set_cons_succ]
      refine wpAnyG_take (i := 6) (v := ?_) rfl (by kernel_rfl) hst (by kernel_rfl) (by kernel_rfl) (fun _ _ _ h => h) hSS (Or.inl ⟨by rfl, ?_⟩) (fun hst2 => ?_)
      rotate_left
      · (intro w hSw; (try dsimp only at hSw); go_simp; try (with_reducible rfl))
      clear hst; have hst := hst2; clear hst2
      try simp only [Act.put, List.setIfInBounds_toArray, List.set_cons_zero, List.set_cons_succ]
      refine wpAnyG_take (i := 7) (v := ?_) rfl (by kernel_rfl) hst (by kernel_rfl) (by kernel_rfl) (fun _ _ _ h => h) hSS (Or.inl ⟨by rfl, ?_⟩) (fun hst2 => ?_)
      rotate_left
      · (intro w hSw; (try dsimp only at hSw); go_simp; try (with_reducible rfl))
      clear hst; have hst := hst2; clear hst2
      try simp only [Act.put, List.setIfInBounds_toArray, List.set_cons_zero, List.set_cons_succ]
      refine wpAnyG_one (i := 8) (by kernel_rfl) rfl (by kernel_rfl) hst (fun K hK => ?_)
      go_simp
      refine (CT.out _ (Below.refl _ _).drew).mono ?_
      rintro e w9 ⟨rfl, hb9⟩
      have b9 : Below wr.heap.size wr w9 := ((Below.refl _ wr).drew).trans hb9
      refine hK.out _ _ (hS _ b9) (fun hSS2 hst2 => ?_)
      clear hst hK K hSS
      have hst := hst2
      have hSS := hSS2
      clear hst2 hSS2
      try simp only [Act.put, List.setIfInBounds_toArray, List.set_cons_zero, List.set_cons_succ]
      refine wpAnyG_last (i := 9) (by kernel_rfl) rfl (by kernel_rfl) (by kernel_rfl) (fun K hK => ?_)
      go_simp
      refine hK.out _ _ ?_
      have HB9 := Lib.hid (HB.out.trans (b9.mono hsz))
      clear hK K hst hSS hS hb9 b9 d0 d1 d2 d3 d4 e0 e1 e2 e3 e4
      go_wp2
      go_roundw
      case rel => exact ⟨k + 1, by omega, by go_num, HB9.out⟩
      case measure => simp [intOf]; omega
    · obtain rfl : k = m := by omega
      have HB := Lib.hid hb
      clear hb
      go_wp2
      go_ret
      exact ⟨rfl, HB.out⟩
end Go.Proofs.Ytnleeffajljodaa
end

section
/- From a call that returns true and leaves all that was there as it was to what a statement asks of it. -/
namespace Go.Proofs.Ytnleeffajljodaa
open Go.RowKit Go.ChangeShapes Go.WideShapes Go.ChangeAt
set_option linter.unusedVariables false

theorem own : ownKnob Try.prog.godebug = none := by kernel_rfl
theorem laid : laidOutB Try.prog = true := by kernel_rfl
theorem cells8 : Try.prog.cellsOf 5 = 1 := by kernel_rfl
theorem bytes8 : Try.prog.bytesOf 5 = 1 := by kernel_rfl
theorem below_drewN {B : Nat} {a w : World} (h : Below B a w) (n : Nat) : Below B a (w.drewN n) := ⟨h.os, h.tape, h.output, h.size, h.block⟩

section
variable {H : Type} {enc : TypeId × Value → H} {P : Program}

/-- the arguments read as they did -/
theorem args_stay (hl : laidOutB P = true) {W W' : World} (hb : Below W.heap.size W W') : ∀ {ts : List TypeId} {vs : List Value} {ds : List (DataW H)} {ps : List MemPlace},
    ts.all (fun t => P.readableRec t && decide (t < P.types.size)) = true → DataW.TrodAll enc P W 0 (fun _ => true) true ts vs ds ps → (∀ x ∈ ps, x.block < W.heap.size) →
    DataW.TrodAll enc P W' 0 (fun b => decide (b < W.heap.size)) true ts vs ds ps
  | [], [], [], _, _, h, _ => h
  | t :: ts, _ :: _, _ :: _, _, ht, ⟨p, q, h1, h2, e⟩, hlt => by
    subst e
    simp only [List.all_cons, Bool.and_eq_true] at ht
    exact ⟨p, q, Below.trod hl ht.1.1 (of_decide_eq_true ht.1.2) h1 hb (fun x hx => hlt x (List.mem_append_left _ hx)),
      args_stay hl hb ht.2 h2 (fun x hx => hlt x (List.mem_append_right _ hx)), rfl⟩

theorem law_close (hl : laidOutB P = true) {n : Nat} {f : Func} {s : ChangeSpec} {W : World} {args : Array Value} {ds gs : List (DataW H)} {before : List MemPlace} {tb : TypeId}
    (hsv : s.vars = []) (hW : DataW.Whole enc P f.params.toList s.vars false W args.toList ds gs before)
    (hts : f.params.toList.all (fun t => P.readableRec t && decide (t < P.types.size)) = true) (hrt : f.resultTypes = #[tb]) (htb : P.underlying tb = some .bool)
    (hfn : s.fn H (ds ++ []) = { results := [.lit (.bool true)], args := ds })
    (hc : Calls P n args W fun e w' => e = .returned (.bool true) ∧ Below W.heap.size W w') :
    Calls P n args W fun e W' => ∃ v, e = .returned v ∧ s.post enc P f false true false false W args v W' := by
  refine hc.mono fun e W' ⟨he, hb⟩ => ⟨_, he, ?_⟩
  have hlt : ∀ p ∈ before, p.block < W.heap.size := fun p hp => hW.lt p hp
  have hgs : gs = [] := by
    obtain ⟨p, q, _, hV, _⟩ := hW
    rw [hsv] at hV
    exact (trodVars_none hV).1
  subst hgs
  have hA : DataW.TrodAll enc P W 0 (fun _ => true) true f.params.toList args.toList ds before := by
    obtain ⟨p, q, hA, hV, e, _⟩ := hW
    rw [hsv] at hV
    obtain ⟨_, rfl⟩ := trodVars_none hV
    rw [List.append_nil] at e
    subst e
    exact hA
  refine ⟨ds, [], before, [], before, [], hW, ?_, ?_, ?_, World.keptBut_mono (fun p hp => ⟨hp, .inr (.inl hp)⟩) (hb.frame (· ∈ before)), fun h => by cases h⟩
  · rw [hfn, hrt]
    exact trodAll_cons_mk (shut_bool htb _) trodAll_mk0
  · rw [hfn]
    exact args_stay hl hb hts hA hlt
  · rw [hfn, hsv]
    exact rfl

/-- an argument that is a slice of bytes: what is known of it -/
structure BytesArg (W : World) (v : Value) (d : DataW H) (A : Option Addr) (zs : List Int) (c : Nat) : Prop where
  val : v = .slice A zs.length c
  cap : zs.length ≤ c
  capMax : c ≤ maxLen
  byt : Byt zs
  nil_ : A = none → zs.length = 0 ∧ c = 0
  rds : Rds W W.heap.size A (c8 zs)
  data : zs = [] ∨ ∃ spare : List (DataW H), d = .slice (lits .u8 zs) spare

theorem open_bytes {t e : TypeId} {W : World} {v : Value} {d : DataW H} {ps : List MemPlace} {base : Nat} (ht : P.underlying t = some (.slice e)) (he : P.underlying e = some (.int .u8)) (hc : P.cellsOf e = 1)
    (hval : Value.okWide P W .any base t v) (h : DataW.Trod enc P W 0 (fun _ => true) true t v d ps) : ∃ A zs c, BytesArg W v d A zs c := by
  obtain ⟨a0, len, cap, rfl⟩ := okWide_slice ht hval
  obtain ⟨fuel, hf⟩ := h
  rcases open_ints ht he hc hf with ⟨h1, h2⟩ | ⟨a, len', cap', zs, h1, _, hle, hmax, hlen, h2, hcell, hwf⟩
  · simp only [Value.cells] at h1
    have h1' : Value.slice a0 len cap = .slice none 0 0 := by simpa using h1
    injection h1' with e1 e2 e3
    subst e1 e2 e3
    refine ⟨none, [], 0, rfl, Nat.le_refl _, by unfold maxLen; omega, (fun z hz => by cases hz), (fun _ => ⟨rfl, rfl⟩), Rds.none_, .inl rfl⟩
  · have h1' : Value.slice a0 len cap = .slice (some a) len' cap' := by simpa [Value.cells] using h1
    injection h1' with e1 e2 e3
    subst e1 e2 e3
    simp only [if_true] at hlen
    have hl : (zs.take len).length = len := by rw [List.length_take]; omega
    refine ⟨some a, zs.take len, cap, by rw [hl], by rw [hl]; exact hle, hmax, (fun z hz => bounds_u8 (hwf z (List.mem_of_mem_take hz))), (fun h => by cases h), ?_, .inr ⟨_, congrArg Prod.fst h2⟩⟩
    intro hne
    have hcells : ∀ j u, (c8 (zs.take len))[j]? = some u → W.cell? (a.add j) = some u := by
      intro j u hu
      have hj : j < (zs.take len).length := by
        have := (List.getElem?_eq_some_iff.1 hu).1
        simpa [c8] using this
      rw [c8_get hj] at hu
      have hu' := Option.some.inj hu
      subst hu'
      rw [hcell j (by omega)]
      simp [List.getD, show j < zs.length by omega]
    refine ⟨a, rfl, ?_, hcells⟩
    have hpos : 0 < (zs.take len).length := by
      rcases Nat.eq_zero_or_pos (zs.take len).length with h0 | h0
      · exact absurd (by rw [List.eq_nil_of_length_eq_zero h0]; rfl) hne
      · exact h0
    have := World.block_lt_of_cell? W _ (hcells 0 _ (c8_get hpos))
    rwa [blk_add] at this

/-- the reach of such an argument -/
theorem BytesArg.reach {W : World} {v : Value} {d : DataW H} {A : Option Addr} {zs : List Int} {c : Nat} (h : BytesArg W v d A zs c) {ts : List TypeId} {ds : List (DataW H)}
    (hsz : (DataW.weightsEach P ts ds).all (· ≤ reachBytes) = true) {j : Nat} {t e : TypeId} (ht : ts[j]? = some t) (hd : ds[j]? = some d) (hu : P.underlying t = some (.slice e)) (hb : P.bytesOf e = 1) : zs.length ≤ 140737488351232 := by
  rcases h.data with hn | ⟨spare, hs⟩
  · subst hn
    simp
  · subst hs
    have := sized_slice hsz ht hd hu
    rw [hb, Nat.mul_one] at this
    simp only [lits, List.length_map, reachBytes] at this
    omega

theorem text_reach {ts : List TypeId} {ds : List (DataW H)} (hsz : (DataW.weightsEach P ts ds).all (· ≤ reachBytes) = true) {j : Nat} {t : TypeId} {s : ByteArray} (ht : ts[j]? = some t) (hd : ds[j]? = some (.lit (.string s.data.toList))) : s.size ≤ 140737488351232 := by
  have h := sized_string hsz ht hd
  have e : s.size = s.data.toList.length := by simp
  rw [e]
  exact Nat.le_trans h (by unfold reachBytes; decide)

/-- the second form's bound, and what it says of a part -/
theorem upto_bound {l : List (DataW H)} (h : Rows.uptoSmall H l = true) : Rows.uptoBulkAll l ≤ 1048576 := of_decide_eq_true h
theorem bulk_mem {d : DataW H} : ∀ {l : List (DataW H)}, d ∈ l → Rows.uptoBulk d ≤ Rows.uptoBulkAll l
  | x :: r, h => by
    rw [Rows.uptoBulkAll]
    rcases List.mem_cons.1 h with rfl | h
    · omega
    · have := bulk_mem h; omega
theorem bulk_length : ∀ (l : List (DataW H)), l.length ≤ Rows.uptoBulkAll l
  | [] => by rw [Rows.uptoBulkAll]; exact Nat.le_refl _
  | x :: r => by
    have h1 : 1 ≤ Rows.uptoBulk x := by
      cases x with
      | lit l => cases l <;> simp [Rows.uptoBulk]
      | _ => simp [Rows.uptoBulk]
    have := bulk_length r
    rw [Rows.uptoBulkAll, List.length_cons]
    omega
theorem upto_part {d : DataW H} {l : List (DataW H)} (h : Rows.uptoBulkAll l ≤ 1048576) (hd : d ∈ l) : Rows.uptoBulk d ≤ 1048576 := Nat.le_trans (bulk_mem hd) h
theorem upto_text {s : ByteArray} (h : Rows.uptoBulk (H := H) (.lit (.string s.data.toList)) ≤ 1048576) : s.size ≤ 1048576 := by
  rw [Rows.uptoBulk] at h
  have : s.size = s.data.toList.length := by simp
  omega
theorem BytesArg.bulk {W : World} {v : Value} {d : DataW H} {A : Option Addr} {zs : List Int} {c : Nat} (h : BytesArg W v d A zs c) (hd : Rows.uptoBulk d ≤ 1048576) : zs.length ≤ 1048576 := by
  rcases h.data with hn | ⟨spare, hs⟩
  · subst hn; simp
  · subst hs
    rw [Rows.uptoBulk] at hd
    have h1 := bulk_length (H := H) (lits .u8 zs)
    rw [show (lits (H := H) .u8 zs).length = zs.length by simp [lits]] at h1
    omega

/-- the cells that whole numbers take -/
def cI (zs : List Int) : List Value := zs.map (Value.int .i64)
theorem cI_length (zs : List Int) : (cI zs).length = zs.length := by simp [cI]
theorem cI_get {zs : List Int} {j : Nat} (h : j < zs.length) : (cI zs)[j]? = some (.int .i64 zs[j]) := by simp [cI, h]
def I64 (zs : List Int) : Prop := ∀ z ∈ zs, -9223372036854775808 ≤ z ∧ z ≤ 9223372036854775807

/-- an argument that is a slice of whole numbers: what is known of it -/
structure NumsArg (W : World) (v : Value) (d : DataW H) (A : Option Addr) (zs : List Int) (c : Nat) : Prop where
  val : v = .slice A zs.length c
  cap : zs.length ≤ c
  capMax : c ≤ maxLen
  i64 : I64 zs
  nil_ : A = none → zs.length = 0 ∧ c = 0
  rds : Rds W W.heap.size A (cI zs)
  data : zs = [] ∨ ∃ spare : List (DataW H), d = .slice (lits .i64 zs) spare

theorem open_nums {t e : TypeId} {W : World} {v : Value} {d : DataW H} {ps : List MemPlace} {base : Nat} (ht : P.underlying t = some (.slice e)) (he : P.underlying e = some (.int .i64)) (hc : P.cellsOf e = 1)
    (hval : Value.okWide P W .any base t v) (h : DataW.Trod enc P W 0 (fun _ => true) true t v d ps) : ∃ A zs c, NumsArg W v d A zs c := by
  obtain ⟨a0, len, cap, rfl⟩ := okWide_slice ht hval
  obtain ⟨fuel, hf⟩ := h
  rcases open_ints ht he hc hf with ⟨h1, h2⟩ | ⟨a, len', cap', zs, h1, _, hle, hmax, hlen, h2, hcell, hwf⟩
  · simp only [Value.cells] at h1
    have h1' : Value.slice a0 len cap = .slice none 0 0 := by simpa using h1
    injection h1' with e1 e2 e3
    subst e1 e2 e3
    refine ⟨none, [], 0, rfl, Nat.le_refl _, by unfold maxLen; omega, (fun z hz => by cases hz), (fun _ => ⟨rfl, rfl⟩), Rds.none_, .inl rfl⟩
  · have h1' : Value.slice a0 len cap = .slice (some a) len' cap' := by simpa [Value.cells] using h1
    injection h1' with e1 e2 e3
    subst e1 e2 e3
    simp only [if_true] at hlen
    have hl : (zs.take len).length = len := by rw [List.length_take]; omega
    refine ⟨some a, zs.take len, cap, by rw [hl], by rw [hl]; exact hle, hmax, (fun z hz => bounds_i64 (hwf z (List.mem_of_mem_take hz))), (fun h => by cases h), ?_, .inr ⟨_, congrArg Prod.fst h2⟩⟩
    intro hne
    have hcells : ∀ j u, (cI (zs.take len))[j]? = some u → W.cell? (a.add j) = some u := by
      intro j u hu
      have hj : j < (zs.take len).length := by
        have := (List.getElem?_eq_some_iff.1 hu).1
        simpa [cI] using this
      rw [cI_get hj] at hu
      have hu' := Option.some.inj hu
      subst hu'
      rw [hcell j (by omega)]
      simp [List.getD, show j < zs.length by omega]
    refine ⟨a, rfl, ?_, hcells⟩
    have hpos : 0 < (zs.take len).length := by
      rcases Nat.eq_zero_or_pos (zs.take len).length with h0 | h0
      · exact absurd (by rw [List.eq_nil_of_length_eq_zero h0]; rfl) hne
      · exact h0
    have := World.block_lt_of_cell? W _ (hcells 0 _ (cI_get hpos))
    rwa [blk_add] at this
theorem NumsArg.reach {W : World} {v : Value} {d : DataW H} {A : Option Addr} {zs : List Int} {c : Nat} (h : NumsArg W v d A zs c) {ts : List TypeId} {ds : List (DataW H)}
    (hsz : (DataW.weightsEach P ts ds).all (· ≤ reachBytes) = true) {j : Nat} {t e : TypeId} (ht : ts[j]? = some t) (hd : ds[j]? = some d) (hu : P.underlying t = some (.slice e)) (hb : P.bytesOf e = 8) : zs.length ≤ 17592186043904 := by
  rcases h.data with hn | ⟨spare, hs⟩
  · subst hn
    simp
  · subst hs
    have := sized_slice hsz ht hd hu
    rw [hb] at this
    simp only [lits, List.length_map, reachBytes] at this
    omega
end
end Go.Proofs.Ytnleeffajljodaa
end
