/- The walk over the document's cut. -/
import Derived.Test.YtnpomiidkdnebaaDRSync
import Derived.Test.YtnpomiidkdnebaaAppW
namespace Go.Proofs.Ytnpomiidkdnebaa
open Go.RowKit
set_option linter.unusedVariables false

theorem info3 : (Try.prog.info? 95).map (fun i => (i.zero, i.size, i.bytes)) = some (some (.agg #[.string ⟨#[]⟩, .slice none 0 0, .int .i64 0]), 3, 48) := by kernel_rfl

section
variable {S : Nat → Prop} {x : Nat} {v : Value} {rs : List RFl} {fz : Int} {D : Dsk} {w : World}
theorem cR_one (rs : List RFl) (h : ∀ r ∈ rs, r.v.oneCell' = true) : ∀ u ∈ cR rs, u.oneCell' = true := by
  intro u hu
  obtain ⟨r, hr, hu⟩ := List.mem_flatMap.1 hu
  simp only [List.mem_cons, List.not_mem_nil, or_false] at hu
  rcases hu with rfl | rfl | rfl
  · rfl
  · exact h r hr
  · rfl
theorem own_oneCell {w : World} {B k n : Nat} {e : TypeId} {v : Value} {xs : List Value} (h : w.ownsRow B e k v n xs) : v.oneCell' = true := by
  rcases h.2 with ⟨rfl, _⟩ | ⟨g, cap, cur, rfl, _⟩ <;> rfl
theorem RfAt.one (h : RfAt w S x v rs fz D) : ∀ r ∈ rs, r.v.oneCell' = true := fun r hr => own_oneCell (h.byt r hr)

/-- what is behind a call that lays the files anew -/
def Laid (S : Nat → Prop) (x : Nat) (fz : Int) (D : Dsk) (w w' : World) : Prop := ∃ S' v' rs', RfAt w' S' x v' rs' fz D ∧ Turn S S' w w' ∧ Outs (fun k => k = x) w w' ∧ ∀ k, S k → S' k
/-- the files laid anew -/
theorem RfAt.laid (h : RfAt w S x v rs fz D) {w1 w9 : World} {B0 m : Nat} {u : Value} {rs' : List RFl} (hw1 : Below w.heap.size w w1) (hB : w.heap.size ≤ B0) (hB1 : B0 ≤ w1.heap.size) (h9 : Below B0 w1 w9) (hown : w9.ownsRow B0 95 3 u m (cR rs'))
    (hrs : ∀ r ∈ rs', w.ownsRow 0 5 1 r.v r.f.bs.length (c8 r.f.bs) ∧ ∀ k, r.v.ownBlock = some k → S k) {fs : List Fl} (hf : rs'.map (·.f) = fs) :
    Laid S x fz { D with files := fs } w (w9.setCell ⟨x, 1, none⟩ u) := by
  have hall : Below w.heap.size w w9 := hw1.trans (h9.mono hB)
  have htop : Whole w9 x 83 (rTop v fz D) := h.top.below hall (h.lt _ h.sx)
  have hs9 : ∀ (k : Nat) (p : Addr) (q : Value), (w9.setCell p q).heap.size = w9.heap.size := fun k p q => by simp [World.setCell]
  have hm : m = rs'.length := by
    have := hown.1
    rw [cR_length] at this
    omega
  refine ⟨More S w (w9.setCell ⟨x, 1, none⟩ u), u, rs',
    { top := ?_
      own := ?_
      files := hf
      byt := fun r hr => ?_
      fz := h.fz
      sx := .inl h.sx
      sv := fun k hk => .inr ⟨by have := (ownRow_block hown hk).1; omega, by rw [hs9 0]; exact (ownRow_block hown hk).2.1⟩
      sb := fun r hr k hk => .inl ((hrs r hr).2 k hk)
      lt := fun k hk => by
        rcases hk with hk | hk
        · rw [hs9 0]; exact Nat.lt_of_lt_of_le (h.lt k hk) hall.size
        · exact hk.2 }, ⟨?_, fun k hk => by
      rcases hk with hk | hk
      · exact .inl hk
      · exact .inr hk.1⟩, (Outs.of (S := fun k => k = x) hall).setCell (p := ⟨x, 1, none⟩) (.inl rfl) u, fun k hk => .inl hk⟩
  · have := htop.put 1 u
    have e : (rTop v fz D).setIfInBounds 1 u = rTop u fz { D with files := fs } := by simp [rTop]
    rwa [e] at this
  · have h2 : (w9.setCell ⟨x, 1, none⟩ u).ownsRow B0 95 3 u m (cR rs') := ownRow_block_kept hown fun g hg => Below.heap_setCell _ _ _ _ (ownRow_ne hown hg htop (by decide))
    rw [hm] at h2
    exact ownRow_base h2 (fun g hg => Nat.zero_le _)
  · have h1 := ownRow_block_kept (hrs r hr).1 fun g hg => hall.block g (ownRow_block (hrs r hr).1 hg).2.1
    exact ownRow_block_kept h1 fun g hg => Below.heap_setCell _ _ _ _ (ownRow_ne h1 hg htop (by decide))
  · exact (Outs.of hall).setCell (p := ⟨x, 1, none⟩) (.inl h.sx) u

theorem rowed_drop {A : Option Addr} {c n k : Nat} {xs : List Value} {lim : Nat} (h : Rds w lim A xs) (hc : n ≤ c) (hn : xs.length = n * 3) : Rds w lim (if c = k then A else A.map (·.add (k * 3))) (xs.drop (k * 3)) := by
  intro hne
  have hk : k * 3 < xs.length := by
    rcases Nat.lt_or_ge (k * 3) xs.length with h1 | h1
    · exact h1
    · exact absurd (List.drop_eq_nil_of_le h1) hne
  obtain ⟨ad, rfl, hb, hcell⟩ := h (by rintro rfl; simp at hk)
  rw [if_neg (by omega)]
  refine ⟨ad.add (k * 3), rfl, by rw [blk_add]; exact hb, fun j u hu => ?_⟩
  rw [add_twice]
  exact hcell _ u (by rw [← hu, List.getElem?_drop])

theorem keepS {W w' : World} {a : Addr} {u : Value} {B : Nat} (c1 : W.cell? a = some u) (f1 : W.frozen? a = false) (ha : a.block < B) (hb : Below B W w') : w'.cell? a = some u ∧ w'.frozen? a = false ∧ Below B W w' :=
  ⟨(hb.cell ha).trans c1, (hb.frozen ha).trans f1, hb⟩

set_option maxHeartbeats 4000000 in
set_option maxRecDepth 5000 in
theorem rcut_any (k : Nat) (w : World) (h : RfAt w S x v rs fz D) (hk : k < rs.length) (hsm : rs.length ≤ 1099511627776) :
    Calls Try.prog 73 #[.pointer (some ⟨x, 0, none⟩), .int .i64 k] w fun e w' => e = .returned (.tuple #[]) ∧ Laid S x fz { D with files := D.files.take k ++ D.files.drop (k + 1) } w w' := by
  obtain ⟨i0, hi, hz0, hz1, hz2⟩ := info_parts info3
  obtain ⟨A, c, rfl, hrd, hnc, hcm, hA0, hA⟩ := own_open3 h.own
  have c1 := h.c1
  have f1 := h.fr 1
  have hone := h.one
  have hx := h.lt x h.sx
  obtain ⟨n, hn⟩ : ∃ n, n = rs.length := ⟨_, rfl⟩
  have hlen : (cR rs).length = n * 3 := by rw [cR_length, hn]
  have r1 : Rds w w.heap.size A (cR (rs.take k)) := by rw [cR_take]; exact hrd.take _
  have r2 : Rds w w.heap.size (if c = k + 1 then A else A.map (·.add ((k + 1) * 3))) (cR (rs.drop (k + 1))) := by rw [cR_drop]; exact rowed_drop hrd (by omega) hlen
  have hlaid := fun (w9 : World) (u : Value) (m : Nat) (h9 : Below w.heap.size w w9) (hown : w9.ownsRow w.heap.size 95 3 u m (cR (rs.take k ++ rs.drop (k + 1)))) =>
    h.laid (w1 := w) (rs' := rs.take k ++ rs.drop (k + 1)) (Below.refl _ _) (Nat.le_refl _) (Nat.le_refl _) h9 hown (fun r hr => by
      have hm : r ∈ rs := by
        rcases List.mem_append.1 hr with h | h
        · exact List.mem_of_mem_take h
        · exact List.mem_of_mem_drop h
      exact ⟨h.byt r hm, h.sb r hm⟩) (fs := D.files.take k ++ D.files.drop (k + 1)) (by rw [List.map_append, List.map_take, List.map_drop, h.files])
  have HL := Lib.hid hlaid
  have ho1 : ∀ u ∈ cR (rs.take k), u.oneCell' = true := cR_one _ fun r hr => hone r (List.mem_of_mem_take hr)
  have ho2 : ∀ u ∈ cR (rs.drop (k + 1)), u.oneCell' = true := cR_one _ fun r hr => hone r (List.mem_of_mem_drop hr)
  have hl1 : (cR (rs.take k)).length = k * 3 := by rw [cR_length, List.length_take]; omega
  have hl2 : (cR (rs.drop (k + 1))).length = (n - (k + 1)) * 3 := by rw [cR_length, List.length_drop, hn]
  have hcat : cR (rs.take k ++ rs.drop (k + 1)) = cR (rs.take k) ++ cR (rs.drop (k + 1)) := cR_append _ _
  rw [← hn] at c1 hnc hk hsm
  have HC := Lib.hid hcat
  have HA0 := Lib.hid hA0
  obtain ⟨B, hB⟩ : ∃ B, B = w.heap.size := ⟨_, rfl⟩
  have HB := Lib.hid hB
  have hn63 : (n : Int) ≤ 9223372036854775807 := by omega
  have hcm63 : (c : Int) ≤ 9223372036854775807 := by unfold maxLen at hcm; omega
  have hkc : k ≤ c := by omega
  have hkn0 : (0 : Int) ≤ (k : Int) + 1 := by omega
  have hkn1 : (k : Int) + 1 ≤ n := by omega
  have hkn2 : ((k : Int) + 1).toNat = k + 1 := by omega
  have hw1 : IntKind.i64.wrap ((k : Int) + 1) = (k : Int) + 1 := IntWalk.i64_in _ (by omega)
  have hA1 : A = none → k = 0 ∧ c = 0 := fun e => by
    obtain ⟨h1, h2⟩ := hA0 e
    omega
  have hA2 : (if c = k + 1 then A else A.map (·.add ((k + 1) * 3))) = none → n - (k + 1) = 0 ∧ c - (k + 1) = 0 := fun e => by
    cases A with
    | none => have := (hA0 rfl).1; omega
    | some ad => split at e <;> cases e
  have hb14 : Below w.heap.size w (w.alloc (.cells #[] 95)).drew := ((Below.refl _ w).alloc (Nat.le_refl _) _).drew
  have hown14 : (w.alloc (.cells #[] 95)).drew.ownsRow w.heap.size 95 3 (.slice (some ⟨w.heap.size, 0, none⟩) 0 0) 0 [] := World.ownsRow_made (base := w.heap.size) (e := 95) (size := 3) w #[] 0 (Nat.le_refl _) (by unfold maxLen; omega) rfl
  have hr14 := r1.below hb14
  have hB14 := hb14.size
  have HLE : k * 3 + (n - (k + 1)) * 3 ≤ 0 + 3298534883328 := by omega
  clear hlaid hone hcat h hrd hA hlen hn hB hA0
  go_enter Try.func73, Try.ntmps73
  go_wp2_with fail
  refine wp_region_G 19 (fun w' => w'.cell? ⟨x, 1, none⟩ = some (.slice A n c) ∧ w'.frozen? ⟨x, 1, none⟩ = false ∧ Below w.heap.size w w') (by kernel_rfl) (by kernel_rfl) (keepS c1 f1 hx (Below.refl _ w).drew) (fun hSS hst => ?_)
  refine wpAnyG_take (i := 0) (v := ?_) rfl (by kernel_rfl) hst (by kernel_rfl) (by kernel_rfl) (fun _ _ _ h => h) hSS (Or.inl ⟨by rfl, ?_⟩) (fun hst2 => ?_)
  rotate_left
  · (intro w hSw; (try dsimp only at hSw); go_simp; try (with_reducible rfl))
  clear hst; have hst := hst2; clear hst2
  try simp only [Act.put, List.setIfInBounds_toArray, List.set_cons_zero, List.set_cons_succ]
  refine wpAnyG_take (i := 2) (v := ?_) rfl (by kernel_rfl) hst (by kernel_rfl) (by kernel_rfl) (fun _ _ _ h => h) hSS (Or.inl ⟨by rfl, ?_⟩) (fun hst2 => ?_)
  rotate_left
  · (intro w hSw; (try dsimp only at hSw); go_simp; try (with_reducible rfl))
  clear hst; have hst := hst2; clear hst2
  try simp only [Act.put, List.setIfInBounds_toArray, List.set_cons_zero, List.set_cons_succ]
  refine wpAnyG_take (i := 3) (v := ?_) rfl (by kernel_rfl) hst (by kernel_rfl) (by kernel_rfl) (fun _ _ _ h => h) hSS (Or.inl ⟨by rfl, ?_⟩) (fun hst2 => ?_)
  rotate_left
  · (intro w hSw; (try dsimp only at hSw); go_simp; try (with_reducible rfl))
  clear hst; have hst := hst2; clear hst2
  try simp only [Act.put, List.setIfInBounds_toArray, List.set_cons_zero, List.set_cons_succ]
  refine wpAnyG_take (i := 4) (v := ?_) rfl (by kernel_rfl) hst (by kernel_rfl) (by kernel_rfl) (fun _ _ _ h => h) hSS (Or.inl ⟨by rfl, ?_⟩) (fun hst2 => ?_)
  rotate_left
  · (intro w hSw; (try dsimp only at hSw); go_simp; try (with_reducible rfl))
  clear hst; have hst := hst2; clear hst2
  try simp only [Act.put, List.setIfInBounds_toArray, List.set_cons_zero, List.set_cons_succ]
  refine wpAnyG_take (i := 5) (v := ?_) rfl (by kernel_rfl) hst (by kernel_rfl) (by kernel_rfl) (fun _ _ _ h => h) hSS (Or.inl ⟨by rfl, ?_⟩) (fun hst2 => ?_)
  rotate_left
  · (intro w hSw; (try dsimp only at hSw); go_simp; try (with_reducible rfl))
  clear hst; have hst := hst2; clear hst2
  try simp only [Act.put, List.setIfInBounds_toArray, List.set_cons_zero, List.set_cons_succ]
  refine wpAnyG_take (i := 6) (v := ?_) rfl (by kernel_rfl) hst (by kernel_rfl) (by kernel_rfl) (fun _ _ _ h => h) hSS (Or.inl ⟨by rfl, ?_⟩) (fun hst2 => ?_)
  rotate_left
  · (intro w hSw; (try dsimp only at hSw); go_simp; try (with_reducible rfl))
  clear hst; have hst := hst2; clear hst2
  try simp only [Act.put, List.setIfInBounds_toArray, List.set_cons_zero, List.set_cons_succ]
  refine wpAnyG_take (i := 7) (v := ?_) rfl (by kernel_rfl) hst (by kernel_rfl) (by kernel_rfl) (fun _ _ _ h => h) hSS (Or.inl ⟨by rfl, ?_⟩) (fun hst2 => ?_)
  rotate_left
  · (intro w hSw; (try dsimp only at hSw); go_simp; try (with_reducible rfl))
  clear hst; have hst := hst2; clear hst2
  try simp only [Act.put, List.setIfInBounds_toArray, List.set_cons_zero, List.set_cons_succ]
  refine wpAnyG_take (i := 9) (v := ?_) rfl (by kernel_rfl) hst (by kernel_rfl) (by kernel_rfl) (fun _ _ _ h => h) hSS (Or.inl ⟨by rfl, ?_⟩) (fun hst2 => ?_)
  rotate_left
  · (intro w hSw; (try dsimp only at hSw); go_simp; try (with_reducible rfl))
  clear hst; have hst := hst2; clear hst2
  try simp only [Act.put, List.setIfInBounds_toArray, List.set_cons_zero, List.set_cons_succ]
  refine wpAnyG_take (i := 10) (v := ?_) rfl (by kernel_rfl) hst (by kernel_rfl) (by kernel_rfl) (fun _ _ _ h => h) hSS (Or.inl ⟨by rfl, ?_⟩) (fun hst2 => ?_)
  rotate_left
  · (intro w hSw; (try dsimp only at hSw); go_simp; try (with_reducible rfl))
  clear hst; have hst := hst2; clear hst2
  try simp only [Act.put, List.setIfInBounds_toArray, List.set_cons_zero, List.set_cons_succ]
  refine wpAnyG_take (i := 11) (v := ?_) rfl (by kernel_rfl) hst (by kernel_rfl) (by kernel_rfl) (fun _ _ _ h => h) hSS (Or.inl ⟨by rfl, ?_⟩) (fun hst2 => ?_)
  rotate_left
  · (intro w hSw; (try dsimp only at hSw); go_simp; try (with_reducible rfl))
  clear hst; have hst := hst2; clear hst2
  try simp only [Act.put, List.setIfInBounds_toArray, List.set_cons_zero, List.set_cons_succ]
  refine wpAnyG_take (i := 12) (v := ?_) rfl (by kernel_rfl) hst (by kernel_rfl) (by kernel_rfl) (fun _ _ _ h => h) hSS (Or.inl ⟨by rfl, ?_⟩) (fun hst2 => ?_)
  rotate_left
  · (intro w hSw; (try dsimp only at hSw); go_simp; try (with_reducible rfl))
  clear hst; have hst := hst2; clear hst2
  try simp only [Act.put, List.setIfInBounds_toArray, List.set_cons_zero, List.set_cons_succ]
  refine wpAnyG_take (i := 13) (v := ?_) rfl (by kernel_rfl) hst (by kernel_rfl) (by kernel_rfl) (fun _ _ _ h => h) hSS (Or.inl ⟨by rfl, ?_⟩) (fun hst2 => ?_)
  rotate_left
  · (intro w hSw; (try dsimp only at hSw); go_simp; try (with_reducible rfl))
  clear hst; have hst := hst2; clear hst2
  try simp only [Act.put, List.setIfInBounds_toArray, List.set_cons_zero, List.set_cons_succ]
  refine wpAnyG_take (i := 14) (v := ?_) rfl (by kernel_rfl) hst (by kernel_rfl) (by kernel_rfl) (fun _ _ _ h => h) hSS (Or.inl ⟨by rfl, ?_⟩) (fun hst2 => ?_)
  rotate_left
  · (intro w hSw; (try dsimp only at hSw); go_simp; try (with_reducible rfl))
  clear hst; have hst := hst2; clear hst2
  try simp only [Act.put, List.setIfInBounds_toArray, List.set_cons_zero, List.set_cons_succ]
  refine wpAnyG_take (i := 15) (v := ?_) rfl (by kernel_rfl) hst (by kernel_rfl) (by kernel_rfl) (fun _ _ _ h => h) hSS (Or.inl ⟨by rfl, ?_⟩) (fun hst2 => ?_)
  rotate_left
  · (intro w hSw; (try dsimp only at hSw); go_simp; try (with_reducible rfl))
  clear hst; have hst := hst2; clear hst2
  try simp only [Act.put, List.setIfInBounds_toArray, List.set_cons_zero, List.set_cons_succ]
  refine wpAnyG_one (i := 1) (by kernel_rfl) rfl (by kernel_rfl) hst (fun K hK => ?_)
  go_simp
  refine hK.out _ _ (keepS c1 f1 hx hb14) (fun hSS2 hst2 => ?_)
  clear hst hK K hSS
  have hst := hst2
  have hSS := hSS2
  clear hst2 hSS2
  try simp only [Act.put, List.setIfInBounds_toArray, List.set_cons_zero, List.set_cons_succ]
  refine wpAnyG_one (i := 8) (by kernel_rfl) rfl (by kernel_rfl) hst (fun K hK => ?_)
  refine step_app_wide rfl (.tmp 5) (.tmp 11) 81 rfl 95 i0 _ 3 48 rfl hi hz0 hz1 hz2 rfl (by decide) w.heap.size (.slice (some ⟨w.heap.size, 0, none⟩) 0 0) 0 [] rfl hown14 A k c w.heap.size (cR (rs.take k)) rfl hl1 hr14 hA1 ho1 (by unfold maxLen; omega) (by omega) hB14 ?_
  intro v7 w7 hown7 hg7 hb7 _
  have hb7' := hb14.trans hb7
  refine hK.out _ _ (keepS c1 f1 hx hb7') (fun hSS2 hst2 => ?_)
  clear hst hK K hSS
  have hst := hst2
  have hSS := hSS2
  clear hst2 hSS2
  try simp only [Act.put, List.setIfInBounds_toArray, List.set_cons_zero, List.set_cons_succ]
  have hr7 := r2.below hb7'
  have hB7 := hb7'.size
  clear hg7 hb7 hr14 hown14 hb14 hB14
  refine wpAnyG_one (i := 16) (by kernel_rfl) rfl (by kernel_rfl) hst (fun K hK => ?_)
  refine step_app_wide rfl (.tmp 12) (.tmp 19) 81 rfl 95 i0 _ 3 48 rfl hi hz0 hz1 hz2 rfl (by decide) w.heap.size v7 (0 + k) ([] ++ cR (rs.take k)) rfl hown7 _ (n - (k + 1)) (c - (k + 1)) w.heap.size (cR (rs.drop (k + 1))) rfl hl2 hr7 hA2 ho2 (by unfold maxLen; omega) (by omega) hB7 ?_
  intro v8 w8 hown8 hg8 hb8 _
  have hb8' := hb7'.trans hb8
  have hS8 := keepS c1 f1 hx hb8'
  refine hK.out _ _ hS8 (fun hSS2 hst2 => ?_)
  clear hst hK K hSS
  have hst := hst2
  have hSS := hSS2
  clear hst2 hSS2
  try simp only [Act.put, List.setIfInBounds_toArray, List.set_cons_zero, List.set_cons_succ]
  rw [List.nil_append, ← HC.out, Nat.zero_add] at hown8
  have hfin := HL.out w8 v8 _ hb8' hown8
  have HF := Lib.hid hfin
  obtain ⟨A8, cc8, rfl, _⟩ := own_open3 hown8
  obtain ⟨c8', f8', _⟩ := hS8
  clear hfin hg8 hb8 hb8' hown8 hown7 hb7' hr7 r1 r2 hl1 hl2 ho1 ho2 c1 f1
  refine wpAnyG_take (i := 17) (v := ?_) rfl (by kernel_rfl) hst (by kernel_rfl) (by kernel_rfl) (fun _ _ _ h => h) hSS (Or.inl ⟨by rfl, ?_⟩) (fun hst2 => ?_)
  rotate_left
  · (intro w hSw; (try dsimp only at hSw); go_simp; try (with_reducible rfl))
  clear hst; have hst := hst2; clear hst2
  try simp only [Act.put, List.setIfInBounds_toArray, List.set_cons_zero, List.set_cons_succ]
  refine wpAnyG_take (i := 18) (v := ?_) rfl (by kernel_rfl) hst (by kernel_rfl) (by kernel_rfl) (fun _ _ _ h => h) hSS (Or.inl ⟨by rfl, ?_⟩) (fun hst2 => ?_)
  rotate_left
  · (intro w hSw; (try dsimp only at hSw); go_simp; try (with_reducible rfl))
  clear hst; have hst := hst2; clear hst2
  try simp only [Act.put, List.setIfInBounds_toArray, List.set_cons_zero, List.set_cons_succ]
  refine wpAnyG_last (i := 19) (by kernel_rfl) rfl (by kernel_rfl) (by kernel_rfl) (fun K hK => ?_)
  go_simp
  refine hK.out _ _ ?_
  clear hK K hst hSS
  go_wp2
  all_goals (
    go_returns
    exact ⟨by simp, HF.out⟩)
end
end Go.Proofs.Ytnpomiidkdnebaa
