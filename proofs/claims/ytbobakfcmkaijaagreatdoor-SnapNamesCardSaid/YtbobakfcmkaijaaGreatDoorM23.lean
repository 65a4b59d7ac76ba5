/- Several texts, each a section: SSnp, JSame, DLives, SNames, SInv, SInv2. -/
import Derived.Deep.RegionHeld3
import Derived.Test.YtbobakfcmkaijaaGreatDoorM17
import Derived.Test.YtbobakfcmkaijaaGreatDoorM09
import Derived.Test.YtbobakfcmkaijaaGreatDoorM13
import Derived.Test.YtbobakfcmkaijaaGreatDoorM22
import Derived.StillTailTactics
import Derived.Test.YtbobakfcmkaijaaGreatDoorM11
import Derived.Test.YtbobakfcmkaijaaGreatDoorM05
import Derived.Test.YtbobakfcmkaijaaGreatDoorM08
import Derived.Laws.MakeOwn
import Derived.Test.YtbobakfcmkaijaaGreatDoorM20
section
/- Snapshot and Since. -/
namespace Go.Proofs.YtbobakfcmkaijaaGreatDoor
open Go.RowKit
set_option linter.unusedVariables false

section
variable {w w' w2 wr w0 : World} {S T U S' T' U' : Nat → Prop} {st j d : Nat} {D D' : Dsk} {X : Ck}
set_option maxHeartbeats 3200000 in
set_option maxRecDepth 20000 in
theorem ssnap_any (w : World) (h : SD w S T U st j d D X) (hl : X.sn.bs.length ≤ 140737488355328) :
    Calls Tryz.prog 9 #[.pointer (some ⟨st, 0, none⟩)] w fun e w' => ∃ v, e = .returned (.tuple #[v, .int .u64 X.sn.upto, .bool X.sn.there]) ∧ w'.ownsRow w.heap.size 5 1 v X.sn.bs.length (c8 X.sn.bs) ∧ Below w.heap.size w w' := by
  have hnb := snobodys_no st w h.st.c0
  obtain ⟨A, c, hs⟩ := h.st
  have c5 := hs.c5
  have c6 := hs.c6
  have c7 := hs.c7
  obtain ⟨n, hn⟩ : ∃ n, X.sn.bs.length = n := ⟨_, rfl⟩
  have hcl := dclone_any A n c X.sn.bs w.drew hn (by omega) hs.rds
  rw [hn] at c7 ⊢
  clear h hs hn hl
  go_enter Tryz.func9, Tryz.ntmps9
  go_wp2_with fail
  refine hnb.mono ?_
  rintro e w1 ⟨rfl, hw⟩
  rw [hw]
  clear hw w1 hnb
  go_upto_region 3 with fail
  have hS : ∀ w', Below w.heap.size w w' → w'.cell? ⟨st, 5, none⟩ = some (.bool X.sn.there) ∧ w'.cell? ⟨st, 6, none⟩ = some (.int .u64 X.sn.upto) ∧ w'.cell? ⟨st, 7, none⟩ = some (.slice A n c) ∧ Below w.heap.size w w' := fun w' hb =>
    ⟨by rw [hb.cell (World.block_lt_of_cell? _ _ c5)]; exact c5, by rw [hb.cell (World.block_lt_of_cell? _ _ c6)]; exact c6, by rw [hb.cell (World.block_lt_of_cell? _ _ c7)]; exact c7, hb⟩
  refine wp_region_G 18 (fun w' => w'.cell? ⟨st, 5, none⟩ = some (.bool X.sn.there) ∧ w'.cell? ⟨st, 6, none⟩ = some (.int .u64 X.sn.upto) ∧ w'.cell? ⟨st, 7, none⟩ = some (.slice A n c) ∧ Below w.heap.size w w') (by kernel_rfl) (by kernel_rfl) (hS _ (Below.refl _ _).drew) (fun hSS hst => ?_)
  refine wpAnyG_take (i := 0) (v := ?_) rfl (by kernel_rfl) hst (by kernel_rfl) (by kernel_rfl) (fun _ _ _ h => h) hSS (Or.inl ⟨by rfl, ?_⟩) (fun hst2 => ?_)
  rotate_left
  · (intro w hSw; (try dsimp only at hSw); go_simp; try (with_reducible rfl))
  clear hst; have hst := hst2; clear hst2
  try simp only [Act.put, List.setIfInBounds_toArray, List.set_cons_zero, List.set_cons_succ]
  refine wpAnyG_take (i := 1) (v := ?_) rfl (by kernel_rfl) hst (by kernel_rfl) (by kernel_rfl) (fun _ _ _ h => h) hSS (Or.inl ⟨by rfl, ?_⟩) (fun hst2 => ?_)
  rotate_left
  · (intro w hSw; (try dsimp only at hSw); go_simp; try (with_reducible rfl))
  clear hst; have hst := hst2; clear hst2
  try simp only [Act.put, List.setIfInBounds_toArray, List.set_cons_zero, List.set_cons_succ]
  refine wpAnyG_take (i := 2) (v := ?_) rfl (by kernel_rfl) hst (by kernel_rfl) (by kernel_rfl) (fun _ _ _ h => h) hSS (Or.inl ⟨by rfl, ?_⟩) (fun hst2 => ?_)
  rotate_left
  · (intro w hSw; (try dsimp only at hSw); go_simp; try (with_reducible rfl))
  clear hst; have hst := hst2; clear hst2
  try simp only [Act.put, List.setIfInBounds_toArray, List.set_cons_zero, List.set_cons_succ]
  refine wpAnyG_take (i := 3) (v := ?_) rfl (by kernel_rfl) hst (by kernel_rfl) (by kernel_rfl) (fun _ _ _ h => h) hSS (Or.inl ⟨by rfl, ?_⟩) (fun hst2 => ?_)
  rotate_left
  · (intro w hSw; (try dsimp only at hSw); go_simp; try (with_reducible rfl))
  clear hst; have hst := hst2; clear hst2
  try simp only [Act.put, List.setIfInBounds_toArray, List.set_cons_zero, List.set_cons_succ]
  refine wpAnyG_take (i := 4) (v := ?_) rfl (by kernel_rfl) hst (by kernel_rfl) (by kernel_rfl) (fun _ _ _ h => h) hSS (Or.inl ⟨by rfl, ?_⟩) (fun hst2 => ?_)
  rotate_left
  · (intro w hSw; (try dsimp only at hSw); go_simp; try (with_reducible rfl))
  clear hst; have hst := hst2; clear hst2
  try simp only [Act.put, List.setIfInBounds_toArray, List.set_cons_zero, List.set_cons_succ]
  refine wpAnyG_take (i := 6) (v := ?_) rfl (by kernel_rfl) hst (by kernel_rfl) (by kernel_rfl) (fun _ _ _ h => h) hSS (Or.inl ⟨by rfl, ?_⟩) (fun hst2 => ?_)
  rotate_left
  · (intro w hSw; (try dsimp only at hSw); go_simp; try (with_reducible rfl))
  clear hst; have hst := hst2; clear hst2
  try simp only [Act.put, List.setIfInBounds_toArray, List.set_cons_zero, List.set_cons_succ]
  refine wpAnyG_take (i := 7) (v := ?_) rfl (by kernel_rfl) hst (by kernel_rfl) (by kernel_rfl) (fun _ _ _ h => h) hSS (Or.inl ⟨by rfl, ?_⟩) (fun hst2 => ?_)
  rotate_left
  · (intro w hSw; (try dsimp only at hSw); go_simp; try (with_reducible rfl))
  clear hst; have hst := hst2; clear hst2
  try simp only [Act.put, List.setIfInBounds_toArray, List.set_cons_zero, List.set_cons_succ]
  refine wpAnyG_take (i := 8) (v := ?_) rfl (by kernel_rfl) hst (by kernel_rfl) (by kernel_rfl) (fun _ _ _ h => h) hSS (Or.inl ⟨by rfl, ?_⟩) (fun hst2 => ?_)
  rotate_left
  · (intro w hSw; (try dsimp only at hSw); go_simp; try (with_reducible rfl))
  clear hst; have hst := hst2; clear hst2
  try simp only [Act.put, List.setIfInBounds_toArray, List.set_cons_zero, List.set_cons_succ]
  refine wpAnyG_take (i := 9) (v := ?_) rfl (by kernel_rfl) hst (by kernel_rfl) (by kernel_rfl) (fun _ _ _ h => h) hSS (Or.inl ⟨by rfl, ?_⟩) (fun hst2 => ?_)
  rotate_left
  · (intro w hSw; (try dsimp only at hSw); go_simp; try (with_reducible rfl))
  clear hst; have hst := hst2; clear hst2
  try simp only [Act.put, List.setIfInBounds_toArray, List.set_cons_zero, List.set_cons_succ]
  refine wpAnyG_take (i := 10) (v := ?_) rfl (by kernel_rfl) hst (by kernel_rfl) (by kernel_rfl) (fun _ _ _ h => h) hSS (Or.inl ⟨by rfl, ?_⟩) (fun hst2 => ?_)
  rotate_left
  · (intro w hSw; (try dsimp only at hSw); go_simp; try (with_reducible rfl))
  clear hst; have hst := hst2; clear hst2
  try simp only [Act.put, List.setIfInBounds_toArray, List.set_cons_zero, List.set_cons_succ]
  refine wpAnyG_take (i := 11) (v := ?_) rfl (by kernel_rfl) hst (by kernel_rfl) (by kernel_rfl) (fun _ _ _ h => h) hSS (Or.inl ⟨by rfl, ?_⟩) (fun hst2 => ?_)
  rotate_left
  · (intro w hSw; (try dsimp only at hSw); go_simp; try (with_reducible rfl))
  clear hst; have hst := hst2; clear hst2
  try simp only [Act.put, List.setIfInBounds_toArray, List.set_cons_zero, List.set_cons_succ]
  refine wpAnyG_take (i := 12) (v := ?_) rfl (by kernel_rfl) hst (by kernel_rfl) (by kernel_rfl) (fun _ _ _ h => h) hSS (Or.inl ⟨by rfl, ?_⟩) (fun hst2 => ?_)
  rotate_left
  · (intro w hSw; (try dsimp only at hSw); go_simp; try (with_reducible rfl))
  clear hst; have hst := hst2; clear hst2
  try simp only [Act.put, List.setIfInBounds_toArray, List.set_cons_zero, List.set_cons_succ]
  refine wpAnyG_take (i := 13) (v := ?_) rfl (by kernel_rfl) hst (by kernel_rfl) (by kernel_rfl) (fun _ _ _ h => h) hSS (Or.inl ⟨by rfl, ?_⟩) (fun hst2 => ?_)
  rotate_left
  · (intro w hSw; (try dsimp only at hSw); go_simp; try (with_reducible rfl))
  clear hst; have hst := hst2; clear hst2
  try simp only [Act.put, List.setIfInBounds_toArray, List.set_cons_zero, List.set_cons_succ]
  refine wpAnyG_take (i := 14) (v := ?_) rfl (by kernel_rfl) hst (by kernel_rfl) (by kernel_rfl) (fun _ _ _ h => h) hSS (Or.inl ⟨by rfl, ?_⟩) (fun hst2 => ?_)
  rotate_left
  · (intro w hSw; (try dsimp only at hSw); go_simp; try (with_reducible rfl))
  clear hst; have hst := hst2; clear hst2
  try simp only [Act.put, List.setIfInBounds_toArray, List.set_cons_zero, List.set_cons_succ]
  refine wpAnyG_take (i := 15) (v := ?_) rfl (by kernel_rfl) hst (by kernel_rfl) (by kernel_rfl) (fun _ _ _ h => h) hSS (Or.inl ⟨by rfl, ?_⟩) (fun hst2 => ?_)
  rotate_left
  · (intro w hSw; (try dsimp only at hSw); go_simp; try (with_reducible rfl))
  clear hst; have hst := hst2; clear hst2
  try simp only [Act.put, List.setIfInBounds_toArray, List.set_cons_zero, List.set_cons_succ]
  refine wpAnyG_one (i := 5) (by kernel_rfl) rfl (by kernel_rfl) hst (fun K hK => ?_)
  go_simp
  refine hcl.mono ?_
  rintro e w9 ⟨v9, rfl, hown9, hb9⟩
  have b9 : Below w.heap.size w w9 := ((Below.refl _ w).drew).trans hb9
  refine hK.out _ _ (hS _ b9) (fun hSS2 hst2 => ?_)
  clear hst hK K hSS
  have hst := hst2
  have hSS := hSS2
  clear hst2 hSS2
  try simp only [Act.put, List.setIfInBounds_toArray, List.set_cons_zero, List.set_cons_succ]
  refine wpAnyG_take (i := 16) (v := ?_) rfl (by kernel_rfl) hst (by kernel_rfl) (by kernel_rfl) (fun _ _ _ h => h) hSS (Or.inl ⟨by rfl, ?_⟩) (fun hst2 => ?_)
  rotate_left
  · (intro w hSw; (try dsimp only at hSw); go_simp; try (with_reducible rfl))
  clear hst; have hst := hst2; clear hst2
  try simp only [Act.put, List.setIfInBounds_toArray, List.set_cons_zero, List.set_cons_succ]
  refine wpAnyG_take (i := 17) (v := ?_) rfl (by kernel_rfl) hst (by kernel_rfl) (by kernel_rfl) (fun _ _ _ h => h) hSS (Or.inl ⟨by rfl, ?_⟩) (fun hst2 => ?_)
  rotate_left
  · (intro w hSw; (try dsimp only at hSw); go_simp; try (with_reducible rfl))
  clear hst; have hst := hst2; clear hst2
  try simp only [Act.put, List.setIfInBounds_toArray, List.set_cons_zero, List.set_cons_succ]
  refine wpAnyG_last (i := 18) (by kernel_rfl) rfl (by kernel_rfl) (by kernel_rfl) (fun K hK => ?_)
  go_simp
  refine hK.out _ _ ?_
  have HO := Lib.hid (And.intro hown9 b9)
  clear hown9 hb9 b9 hcl hst hSS hS hK K
  go_wp2
  go_returns
  exact ⟨v9, by simp, HO.out.1, HO.out.2⟩
theorem add_off (g q k : Nat) : (⟨g, q, none⟩ : Addr).add k = ⟨g, q + k, none⟩ := by
  unfold Addr.add
  split <;> simp_all
/-- what Since answers: some records at the end of the journal's -/
structure Tail (w w' : World) (A : Option Addr) (c : Nat) (ys : List RcM) : Prop where
  row : Rds w' w'.heap.size A (cR ys)
  bods : ∀ y ∈ ys, Rds w' w'.heap.size y.A (c8 y.r)
  below : Below w.heap.size w w'
set_option maxHeartbeats 3200000 in
set_option maxRecDepth 20000 in
theorem ssince_any (w : World) (h : SD w S T U st j d D X) (hf : Fits X.J) (hN : (jAll X.J).length ≤ 1099511627776) (hL : ∀ x ∈ X.J.segs, ∀ r ∈ x.recs, r.length ≤ 1099511627776) (h1 : jFirst X.J ≤ X.sn.upto) (h2 : X.sn.upto - jFirst X.J ≤ (jAll X.J).length) (h3 : X.sn.upto ≤ maxNo) :
    Calls Tryz.prog 15 #[.pointer (some ⟨st, 0, none⟩)] w fun e w' => ∃ A c ys, e = .returned (.slice A ys.length c) ∧ ys.map RcM.r = sSince X ∧ Tail w w' A c ys := by
  have hnb := snobodys_no st w h.st.c0
  have c4 := h.st.c4
  have c6 := h.st.c6
  have hall := jall_any w.drew (h.jd.go (Below.refl _ w).drew) hf hN hL
  have hfst := fun W (hb : Below w.heap.size w W) => jfirst_any W (h.jd.go hb)
  have hsub : IntKind.u64.wrap ((X.sn.upto : Int) - (jFirst X.J : Int)) = ((X.sn.upto - jFirst X.J : Nat) : Int) := by
    rw [show ((X.sn.upto : Int) - (jFirst X.J : Int)) = ((X.sn.upto - jFirst X.J : Nat) : Int) by omega]
    exact IntWalk.u64_in _ (by unfold maxNo at h3; omega)
  have HQ := Lib.hid (show sSince X = (jAll X.J).drop (X.sn.upto - jFirst X.J) from rfl)
  obtain ⟨q, hq⟩ : ∃ q, X.sn.upto - jFirst X.J = q := ⟨_, rfl⟩
  rw [hq] at hsub h2 HQ
  have HSUB := Lib.hid hsub
  clear h h1 h3 hq hN hL hf hsub
  go_enter Tryz.func15, Tryz.ntmps15
  go_wp2_with fail
  refine hnb.mono ?_
  rintro e w1 ⟨rfl, hw⟩
  rw [hw]
  clear hw w1 hnb
  go_upto_region 3 with fail
  have hS : ∀ w', Below w.heap.size w w' → w'.cell? ⟨st, 4, none⟩ = some (.pointer (some ⟨j, 0, none⟩)) ∧ w'.cell? ⟨st, 6, none⟩ = some (.int .u64 X.sn.upto) ∧ Below w.heap.size w w' := fun w' hb =>
    ⟨by rw [hb.cell (World.block_lt_of_cell? _ _ c4)]; exact c4, by rw [hb.cell (World.block_lt_of_cell? _ _ c6)]; exact c6, hb⟩
  refine wp_region_G 17 (fun w' => w'.cell? ⟨st, 4, none⟩ = some (.pointer (some ⟨j, 0, none⟩)) ∧ w'.cell? ⟨st, 6, none⟩ = some (.int .u64 X.sn.upto) ∧ Below w.heap.size w w') (by kernel_rfl) (by kernel_rfl) (hS _ (Below.refl _ _).drew) (fun hSS hst => ?_)
  refine wpAnyG_take (i := 0) (v := ?_) rfl (by kernel_rfl) hst (by kernel_rfl) (by kernel_rfl) (fun _ _ _ h => h) hSS (Or.inl ⟨by rfl, ?_⟩) (fun hst2 => ?_)
  rotate_left
  · (intro w hSw; (try dsimp only at hSw); go_simp; try (with_reducible rfl))
  clear hst; have hst := hst2; clear hst2
  try simp only [Act.put, List.setIfInBounds_toArray, List.set_cons_zero, List.set_cons_succ]
  refine wpAnyG_take (i := 1) (v := ?_) rfl (by kernel_rfl) hst (by kernel_rfl) (by kernel_rfl) (fun _ _ _ h => h) hSS (Or.inl ⟨by rfl, ?_⟩) (fun hst2 => ?_)
  rotate_left
  · (intro w hSw; (try dsimp only at hSw); go_simp; try (with_reducible rfl))
  clear hst; have hst := hst2; clear hst2
  try simp only [Act.put, List.setIfInBounds_toArray, List.set_cons_zero, List.set_cons_succ]
  refine wpAnyG_take (i := 2) (v := ?_) rfl (by kernel_rfl) hst (by kernel_rfl) (by kernel_rfl) (fun _ _ _ h => h) hSS (Or.inl ⟨by rfl, ?_⟩) (fun hst2 => ?_)
  rotate_left
  · (intro w hSw; (try dsimp only at hSw); go_simp; try (with_reducible rfl))
  clear hst; have hst := hst2; clear hst2
  try simp only [Act.put, List.setIfInBounds_toArray, List.set_cons_zero, List.set_cons_succ]
  refine wpAnyG_take (i := 3) (v := ?_) rfl (by kernel_rfl) hst (by kernel_rfl) (by kernel_rfl) (fun _ _ _ h => h) hSS (Or.inl ⟨by rfl, ?_⟩) (fun hst2 => ?_)
  rotate_left
  · (intro w hSw; (try dsimp only at hSw); go_simp; try (with_reducible rfl))
  clear hst; have hst := hst2; clear hst2
  try simp only [Act.put, List.setIfInBounds_toArray, List.set_cons_zero, List.set_cons_succ]
  refine wpAnyG_take (i := 5) (v := ?_) rfl (by kernel_rfl) hst (by kernel_rfl) (by kernel_rfl) (fun _ _ _ h => h) hSS (Or.inl ⟨by rfl, ?_⟩) (fun hst2 => ?_)
  rotate_left
  · (intro w hSw; (try dsimp only at hSw); go_simp; try (with_reducible rfl))
  clear hst; have hst := hst2; clear hst2
  try simp only [Act.put, List.setIfInBounds_toArray, List.set_cons_zero, List.set_cons_succ]
  refine wpAnyG_take (i := 6) (v := ?_) rfl (by kernel_rfl) hst (by kernel_rfl) (by kernel_rfl) (fun _ _ _ h => h) hSS (Or.inl ⟨by rfl, ?_⟩) (fun hst2 => ?_)
  rotate_left
  · (intro w hSw; (try dsimp only at hSw); go_simp; try (with_reducible rfl))
  clear hst; have hst := hst2; clear hst2
  try simp only [Act.put, List.setIfInBounds_toArray, List.set_cons_zero, List.set_cons_succ]
  refine wpAnyG_take (i := 7) (v := ?_) rfl (by kernel_rfl) hst (by kernel_rfl) (by kernel_rfl) (fun _ _ _ h => h) hSS (Or.inl ⟨by rfl, ?_⟩) (fun hst2 => ?_)
  rotate_left
  · (intro w hSw; (try dsimp only at hSw); go_simp; try (with_reducible rfl))
  clear hst; have hst := hst2; clear hst2
  try simp only [Act.put, List.setIfInBounds_toArray, List.set_cons_zero, List.set_cons_succ]
  refine wpAnyG_take (i := 8) (v := ?_) rfl (by kernel_rfl) hst (by kernel_rfl) (by kernel_rfl) (fun _ _ _ h => h) hSS (Or.inl ⟨by rfl, ?_⟩) (fun hst2 => ?_)
  rotate_left
  · (intro w hSw; (try dsimp only at hSw); go_simp; try (with_reducible rfl))
  clear hst; have hst := hst2; clear hst2
  try simp only [Act.put, List.setIfInBounds_toArray, List.set_cons_zero, List.set_cons_succ]
  refine wpAnyG_take (i := 9) (v := ?_) rfl (by kernel_rfl) hst (by kernel_rfl) (by kernel_rfl) (fun _ _ _ h => h) hSS (Or.inl ⟨by rfl, ?_⟩) (fun hst2 => ?_)
  rotate_left
  · (intro w hSw; (try dsimp only at hSw); go_simp; try (with_reducible rfl))
  clear hst; have hst := hst2; clear hst2
  try simp only [Act.put, List.setIfInBounds_toArray, List.set_cons_zero, List.set_cons_succ]
  refine wpAnyG_take (i := 10) (v := ?_) rfl (by kernel_rfl) hst (by kernel_rfl) (by kernel_rfl) (fun _ _ _ h => h) hSS (Or.inl ⟨by rfl, ?_⟩) (fun hst2 => ?_)
  rotate_left
  · (intro w hSw; (try dsimp only at hSw); go_simp; try (with_reducible rfl))
  clear hst; have hst := hst2; clear hst2
  try simp only [Act.put, List.setIfInBounds_toArray, List.set_cons_zero, List.set_cons_succ]
  refine wpAnyG_take (i := 11) (v := ?_) rfl (by kernel_rfl) hst (by kernel_rfl) (by kernel_rfl) (fun _ _ _ h => h) hSS (Or.inl ⟨by rfl, ?_⟩) (fun hst2 => ?_)
  rotate_left
  · (intro w hSw; (try dsimp only at hSw); go_simp; try (with_reducible rfl))
  clear hst; have hst := hst2; clear hst2
  try simp only [Act.put, List.setIfInBounds_toArray, List.set_cons_zero, List.set_cons_succ]
  refine wpAnyG_take (i := 12) (v := ?_) rfl (by kernel_rfl) hst (by kernel_rfl) (by kernel_rfl) (fun _ _ _ h => h) hSS (Or.inl ⟨by rfl, ?_⟩) (fun hst2 => ?_)
  rotate_left
  · (intro w hSw; (try dsimp only at hSw); go_simp; try (with_reducible rfl))
  clear hst; have hst := hst2; clear hst2
  try simp only [Act.put, List.setIfInBounds_toArray, List.set_cons_zero, List.set_cons_succ]
  refine wpAnyG_take (i := 13) (v := ?_) rfl (by kernel_rfl) hst (by kernel_rfl) (by kernel_rfl) (fun _ _ _ h => h) hSS (Or.inl ⟨by rfl, ?_⟩) (fun hst2 => ?_)
  rotate_left
  · (intro w hSw; (try dsimp only at hSw); go_simp; try (with_reducible rfl))
  clear hst; have hst := hst2; clear hst2
  try simp only [Act.put, List.setIfInBounds_toArray, List.set_cons_zero, List.set_cons_succ]
  refine wpAnyG_one (i := 4) (by kernel_rfl) rfl (by kernel_rfl) hst (fun K hK => ?_)
  go_simp
  refine hall.mono ?_
  rintro e w9 ⟨v, ys, rfl, hys, hat⟩
  have b9 : Below w.heap.size w w9 := ((Below.refl _ w).drew).trans hat.below
  have hfst9 := hfst w9 b9
  refine hK.out _ _ (hS _ b9) (fun hSS2 hst2 => ?_)
  clear hst hK K hSS
  have hst := hst2
  have hSS := hSS2
  clear hst2 hSS2
  try simp only [Act.put, List.setIfInBounds_toArray, List.set_cons_zero, List.set_cons_succ]
  refine wpAnyG_one (i := 14) (by kernel_rfl) rfl (by kernel_rfl) hst (fun K hK => ?_)
  go_simp
  refine hfst9.mono ?_
  rintro e w10 ⟨rfl, hw10⟩
  rw [hw10]
  refine hK.out _ _ (hS _ b9) (fun hSS2 hst2 => ?_)
  clear hst hK K hSS
  have hst := hst2
  have hSS := hSS2
  clear hst2 hSS2
  try simp only [Act.put, List.setIfInBounds_toArray, List.set_cons_zero, List.set_cons_succ]
  refine wpAnyG_one (i := 15) (by kernel_rfl) rfl (by kernel_rfl) hst (fun K hK => ?_)
  go_simp
  rw [HSUB.out]
  refine hK.out _ _ (hS _ b9) (fun hSS2 hst2 => ?_)
  clear hst hK K hSS
  have hst := hst2
  have hSS := hSS2
  clear hst2 hSS2
  try simp only [Act.put, List.setIfInBounds_toArray, List.set_cons_zero, List.set_cons_succ]
  have hyl : q ≤ ys.length := by
    have := congrArg List.length hys
    rw [List.length_map] at this
    omega
  have HY := Lib.hid hys
  have HA := Lib.hid hat
  have HW := Lib.hid hw10
  rcases hat.row.2 with ⟨rfl, h0⟩ | ⟨g, cap, cur, rfl, _, _, hcap1, _⟩
  · have hq0 : q = 0 := by omega
    subst hq0
    clear hys hat hw10 hfst9 h2 hall hfst
    refine wpAnyG_one (i := 16) (by kernel_rfl) rfl (by kernel_rfl) hst (fun K hK => ?_)
    go_simp
    refine hK.out _ _ (hS _ b9) (fun hSS2 hst2 => ?_)
    clear hst hK K hSS
    have hst := hst2
    have hSS := hSS2
    clear hst2 hSS2
    try simp only [Act.put, List.setIfInBounds_toArray, List.set_cons_zero, List.set_cons_succ]
    refine wpAnyG_last (i := 17) (by kernel_rfl) rfl (by kernel_rfl) (by kernel_rfl) (fun K hK => ?_)
    go_simp
    refine hK.out _ _ ?_
    have HB := Lib.hid b9
    clear hst hSS hS hK K b9
    go_wp2
    go_returns
    have hy0 : ys = [] := List.eq_nil_of_length_eq_zero h0
    refine ⟨none, 0, [], by simp, ?_, ⟨fun hne => absurd rfl hne, (fun y hy => by cases hy), HB.out⟩⟩
    rw [HQ.out, ← HY.out, hy0]
    rfl
  · obtain ⟨n, hn⟩ : ∃ n, ys.length = n := ⟨_, rfl⟩
    rw [hn] at hyl hcap1
    have hq1 : (q : Int) ≤ (n : Int) := by omega
    have hq2 : (0 : Int) ≤ (q : Int) := by omega
    rw [hn]
    have HNN := Lib.hid hn
    clear hn hys hat hw10 hfst9 h2 hall hfst
    by_cases hcq : cap = q
    · refine wpAnyG_one (i := 16) (by kernel_rfl) rfl (by kernel_rfl) hst (fun K hK => ?_)
      go_simp
      refine hK.out _ _ (hS _ b9) (fun hSS2 hst2 => ?_)
      clear hst hK K hSS
      have hst := hst2
      have hSS := hSS2
      clear hst2 hSS2
      try simp only [Act.put, List.setIfInBounds_toArray, List.set_cons_zero, List.set_cons_succ]
      refine wpAnyG_last (i := 17) (by kernel_rfl) rfl (by kernel_rfl) (by kernel_rfl) (fun K hK => ?_)
      go_simp
      refine hK.out _ _ ?_
      have HB := Lib.hid b9
      clear hst hSS hS hK K b9
      go_wp2
      go_returns
      have hd0 : ys.drop q = [] := List.drop_eq_nil_of_le (by rw [HNN.out]; omega)
      refine ⟨some ⟨g, 0, none⟩, cap - q, [], by simp; omega, ?_, ⟨fun hne => absurd rfl hne, (fun y hy => by cases hy), HB.out⟩⟩
      rw [HQ.out, ← HY.out, ← List.map_drop, hd0]
    · refine wpAnyG_one (i := 16) (by kernel_rfl) rfl (by kernel_rfl) hst (fun K hK => ?_)
      go_simp
      refine hK.out _ _ (hS _ b9) (fun hSS2 hst2 => ?_)
      clear hst hK K hSS
      have hst := hst2
      have hSS := hSS2
      clear hst2 hSS2
      try simp only [Act.put, List.setIfInBounds_toArray, List.set_cons_zero, List.set_cons_succ]
      refine wpAnyG_last (i := 17) (by kernel_rfl) rfl (by kernel_rfl) (by kernel_rfl) (fun K hK => ?_)
      go_simp
      refine hK.out _ _ ?_
      have HB := Lib.hid b9
      clear hst hSS hS hK K b9
      go_wp2
      go_returns
      refine ⟨some ⟨g, q, none⟩, cap - q, ys.drop q, by simp [HNN.out], ?_, ⟨fun hne => ?_, fun y hy => ?_, HB.out⟩⟩
      · rw [HQ.out, ← HY.out, List.map_drop]
      · have hrow := HA.out.row
        have hgb := ownRow_block hrow (rfl : Value.ownBlock (.slice (some ⟨g, 0, none⟩) ys.length cap) = some g)
        refine ⟨_, rfl, hgb.2.1, fun k u hk => ?_⟩
        rw [add_off]
        refine (row_cell (i := q + k) hrow rfl ?_).1
        unfold cR at hk ⊢
        rw [List.map_drop, List.getElem?_drop] at hk
        exact hk
      · exact Rds.ofOwn (HA.out.bods y (List.mem_of_mem_drop hy))
end
end Go.Proofs.YtbobakfcmkaijaaGreatDoor
end

section
/- The kit's SameLists of alike lists, and whether a list of numbers is fine. -/
namespace Go.Proofs.YtbobakfcmkaijaaGreatDoor
open Go.RowKit
set_option linter.unusedVariables false

set_option maxHeartbeats 1600000 in
set_option maxRecDepth 5000 in
theorem sameLists_yes (A A' : Option Addr) (xs ys : List RcM) (n m c c' lim : Nat) (w : World) (hn : xs.length = n) (hm : ys.length = m) (hl : n ≤ 9223372036854775807) (he : xs.map RcM.r = ys.map RcM.r) (hlen : ∀ x ∈ xs, x.r.length ≤ 9223372036854775807)
    (hr : Rds w lim A (cR xs)) (hr' : Rds w lim A' (cR ys)) (hx : ∀ x ∈ xs, Rds w lim x.A (c8 x.r)) (hy : ∀ y ∈ ys, Rds w lim y.A (c8 y.r)) :
    Calls Tryz.prog 14 #[.slice A n c, .slice A' m c'] w fun e w' => e = .returned (.bool true) ∧ ∃ k, w' = w.drewN k := by
  have hnm : m = n := by have := congrArg List.length he; simp only [List.length_map] at this; omega
  subst hnm
  have hlb : ((m : Int) != (m : Int)) = false := by simp
  go_enter Tryz.func14, Tryz.ntmps14
  go_wp2
  go_loopw [5] (fun i wr => ∃ k : Nat, k ≤ m ∧ i = .int .i64 k ∧ ∃ n, wr = w.drewN n) (fun i _ => m - (intOf i).toNat)
  case atStart => exact ⟨0, Nat.zero_le _, rfl, 0, rfl⟩
  case round =>
    obtain ⟨k, hk, rfl, n, rfl⟩ := hrel
    by_cases hlt : k < m
    · have h1 : k < xs.length := by omega
      have h2 : k < ys.length := by omega
      obtain ⟨ad, rfl, _, hc0⟩ := hr.at_ (cR_get h1)
      obtain ⟨ad', rfl, _, hc0'⟩ := hr'.at_ (cR_get h2)
      have hf : xs[k].r = ys[k].r := by
        have h := congrArg (fun l => l[k]?) he
        simpa [h1, h2] using h
      have hb := hx _ (List.getElem_mem h1)
      have hb' := hy _ (List.getElem_mem h2)
      have hbl := hlen _ (List.getElem_mem h1)
      unfold RcM.v at hc0 hc0'
      rw [← hf] at hc0' hb'
      generalize xs[k].r = f at *
      generalize xs[k].A = D at *
      generalize ys[k].A = D' at *
      generalize xs[k].c = x at *
      generalize ys[k].c = x' at *
      have hS : ∀ j, Calls Tryz.prog 40 #[.slice D f.length x, .slice D' f.length x'] (w.drewN (n + j)) fun e w' => e = .returned (.bool true) ∧ ∃ q, w' = w.drewN (n + q) := fun j =>
        (sameBytes_yes D D' f f f.length f.length x x' lim (w.drewN (n + j)) rfl rfl hbl rfl (hb.drewN _) (hb'.drewN _)).mono fun e w' ⟨h1, q, h2⟩ => ⟨h1, j + q, by rw [h2, World.drewN_drewN, Nat.add_assoc]⟩
      clear hf
      go_wp2
      go_quiet (first | with_reducible exact hS _)
      go_wp2
      go_roundw
      case rel => exact ⟨k + 1, by omega, by go_num, _, rfl⟩
      case measure => simp [intOf]; omega
    · go_wp2
      go_ret
      exact ⟨rfl, n, rfl⟩

end Go.Proofs.YtbobakfcmkaijaaGreatDoor
end

section
/- The walk over the example that every statement of the layer asks first. -/
namespace Go.Proofs.YtbobakfcmkaijaaGreatDoor
open Go.RowKit
set_option linter.unusedVariables false

theorem made8 (n : Nat) : (madeCells (Value.int .u8 0).cells (n * 1)).toList = c8 (List.replicate n 0) := by
  rw [show (Value.int .u8 0).cells = #[.int .u8 0] from rfl, Nat.mul_one]
  unfold madeCells
  apply List.ext_getElem
  · simp [c8]
  · intro i h1 h2
    simp [c8, Nat.mod_one]

/-- a new slice of n bytes 0 -/
theorem made_run (w : World) (n : Nat) (N : Int) (hN : N = n) (hn : n ≤ 1048576) : ∃ w', (Instr.makeSlice 30 (.int .i64 N) (.int .i64 N)).run Tryz.prog w = .ok (.slice (some ⟨w.heap.size, 0, none⟩) n n) w' ∧ Rds w' w'.heap.size (some ⟨w.heap.size, 0, none⟩) (c8 (List.replicate n 0)) ∧ Below w.heap.size w w' := by
  subst hN
  obtain ⟨i0, hi, hz0, hz1, hz2⟩ := info_parts info8
  obtain ⟨w9, hrun, hown, hgr⟩ := run_make_full (P := Tryz.prog) w w.heap.size 30 5 i0 (.int .u8 0) 1 Tryz.underlying30 hi hz0 hz1 .i64 .i64 n (by rw [hz2]; omega) (by unfold maxLen; omega) (Nat.le_refl _)
  rw [made8] at hown
  exact ⟨w9, hrun, Rds.ofOwn hown, (Below.refl _ _).grown hgr (Nat.le_refl _) (by simp)⟩

def nA : ByteArray := ByteArray.mk #[97]
def z70 : List Int := List.replicate 70 0
def dA1 : Dsk := ⟨100, [⟨[97], [], 0⟩], false, -1, 1⟩
def dA2 : Dsk := ⟨100, [⟨[97], z70, 0⟩], false, -1, 3⟩
def dA3 : Dsk := ⟨100, [⟨[97], z70, 70⟩], false, -1, 4⟩
theorem eA1 : dMake (dNew 100) (lst nA) = (0, dA1) := by rfl
theorem eA2 : dAppend dA1 (lst nA) z70 = (0, dA2) := by kernel_rfl
theorem eA3 : dSync dA2 (lst nA) = (0, dA3) := by kernel_rfl
theorem okA1 : Okd dA1 := by have := okd_make (okd_new 100 (by decide)) (lst nA); rw [eA1] at this; exact this
theorem okA2 : Okd dA2 := by have := okd_append okA1 (lst nA) z70; rw [eA2] at this; exact this
theorem okA3 : Okd dA3 := by have := okd_sync okA2 (lst nA); rw [eA3] at this; exact this

theorem Turn.go {S S' : Nat → Prop} {B : Nat} {w w1 w2 : World} (h : Below B w w1) (hB : B ≤ w.heap.size) (ht : Turn S S' w1 w2) (hS : ∀ k, S k → B ≤ k) : Below B w w2 ∧ ∀ k, S' k → B ≤ k := by
  refine ⟨h.trans (ht.outs.below hS (Nat.le_trans hB h.size)), fun k hk => ?_⟩
  rcases ht.new k hk with e | e
  · exact hS k e
  · exact Nat.le_trans (Nat.le_trans hB h.size) e

end Go.Proofs.YtbobakfcmkaijaaGreatDoor
end

section
/- The worked examples of the chapter on snapshots. -/
namespace Go.Proofs.YtbobakfcmkaijaaGreatDoor
open Go.RowKit
set_option linter.unusedVariables false

theorem Rds.whole5 {w : World} {g : Nat} {t : TypeId} {cs : Array Value} (h : Whole w g t cs) : Rds w w.heap.size (some ⟨g, 0, none⟩) cs.toList := fun _ =>
  ⟨_, rfl, h.lt, fun k u hu => by
    have := h.cell k
    rw [addr_to, Nat.zero_add, this]
    simpa using hu⟩
theorem World.size_alloc5 (w : World) (o : Obj) : (w.alloc o).heap.size = w.heap.size + 1 := by simp
section
variable {w0 w w' : World} {S T U S' T' U' : Nat → Prop} {st j d : Nat} {D D' : Dsk} {X X' : Ck}
/-- Log of a byte that was made just now -/
theorem at6_log1 (z : Int) (hz : 0 ≤ z ∧ z ≤ 255) (h : At6 w0 w S T U st j d D X) (hoff : X.off = false) (hok : Okd D) (hst : D.steps ≤ 1000000) (hf : Fits X.J ∧ X.J.segs.length < 1073741824) {n : Nat} (h1 : (sLog D X [z]).1 = n) (h2 : (sLog D X [z]).2.1 = 0) :
    Calls Tryz.prog 10 #[.pointer (some ⟨st, 0, none⟩), .slice (some ⟨w.heap.size, 0, none⟩) 1 1] (w.alloc (.cells #[.int .u8 z] 5 (1, 2))) fun e w' => e = .returned (.tuple #[.int .u64 n, .int .i64 0]) ∧ ∃ S' T', At6 w0 w' S' T' U st j d (sLog D X [z]).2.2.1 (sLog D X [z]).2.2.2 := by
  have hba : Below w.heap.size w (w.alloc (.cells #[.int .u8 z] 5 (1, 2))) := (Below.refl _ _).alloc (Nat.le_refl _) _
  have h3 := h.go hba
  have hl := h.sd.lt
  have ha := at6_log (some ⟨w.heap.size, 0, none⟩) [z] 1 1 h3 hoff hok (by omega) hf.1 hf.2 rfl (goodM1 z hz).1 (by decide)
    ((Rds.madeF5 w 5 [z] #[.int .u8 z] (1, 2) rfl).more (by simp)) (fun ad e _ => by
      obtain rfl := Option.some.inj e
      exact ⟨fun hh => Nat.lt_irrefl _ (hl _ (.inl hh)), fun hh => Nat.lt_irrefl _ (hl _ (.inr (.inl hh)))⟩)
  rw [h1, h2] at ha
  exact ha
/-- the example's Save -/
theorem at6_save3 (h : At6 w0 w S T U st j d E2 Y2) :
    Calls Tryz.prog 11 #[.pointer (some ⟨st, 0, none⟩), .slice (some ⟨w.heap.size, 0, none⟩) 2 2] (w.alloc (.cells #[.int .u8 65, .int .u8 66] 5 (2, 3))) fun e w' => e = .returned (.int .i64 0) ∧ ∃ S' U', At6 w0 w' S' T U' st j d E3 Y3 := by
  obtain ⟨g1, g2, st2, fr2, rm2, us2, sp2⟩ := e2_facts
  have hba : Below w.heap.size w (w.alloc (.cells #[.int .u8 65, .int .u8 66] 5 (2, 3))) := (Below.refl _ _).alloc (Nat.le_refl _) _
  have h5 := h.go hba
  have hl := h.sd.lt
  have hft2 := st2.fits (by decide)
  have hsv := ssave_any (some ⟨w.heap.size, 0, none⟩) [65, 66] 2 2 _ h5.sd y2_off y2_joff fr2.on st2.inv.ok (by omega) hft2.1 (by rw [y2_segs]; decide) rfl x3_ok.byt (by decide)
    ((Rds.madeF5 w 5 [65, 66] #[.int .u8 65, .int .u8 66] (2, 3) rfl).more (by simp)) (fun ad e _ hh => by
      obtain rfl := Option.some.inj e
      exact Nat.lt_irrefl _ (hl _ hh))
    (by rw [y2_next]; decide) (by rw [y2_upto]; decide) ⟨x3_ok.byt, by show 2 ≤ 1048560; decide, by show Y2.J.next ≤ _; rw [y2_next]; decide⟩
    (fun _ => ⟨s2a, s2b, by rw [s2c]; decide⟩) (fun _ _ => s2d)
  rw [s3e] at hsv
  refine hsv.mono ?_
  rintro e w5 ⟨rfl, S5, U5, hs5, ht5⟩
  exact ⟨rfl, S5, U5, h5.turn hs5 ht5⟩
theorem at6_sync (h : At6 w0 w S T U st j d D X) (hoff : X.off = false) (hr : Room D) (hf : Fits X.J) : Calls Tryz.prog 12 #[.pointer (some ⟨st, 0, none⟩)] w fun e w' => e = .returned (.int .i64 (sSync D X).1) ∧ ∃ S' T', At6 w0 w' S' T' U st j d (sSync D X).2.1 (sSync D X).2.2 :=
  (ssync_any w h.sd hoff hr hf).mono fun e w' ⟨h1, S', T', h2, h3⟩ => ⟨h1, S', T', h.turn h2 h3⟩
/-- a crash: the checkpoint that stood on the disk is let go -/
theorem at6_crash (h : At6 w0 w S T U st j d D X) (Ak : Option Addr) (ks : List Int) (n c : Nat) (hr : Room D) (hok : Okd D) (hn : ks.length = n) (hnl : n ≤ 9223372036854775807) (hk64 : ∀ z ∈ ks, z ≤ 9223372036854775807) (hkr : Rds w0 w0.heap.size Ak (cN ks)) :
    Calls Tryz.prog 13 #[.pointer (some ⟨d, 0, none⟩), .slice Ak n c] w fun e w' => e = .returned (.int .i64 (dCrash D ks).1) ∧ ∃ S', Dk 0 w' S' d (dCrash D ks).2 ∧ Below w0.heap.size w0 w' ∧ ∀ k, S' k → w0.heap.size ≤ k := by
  refine (crash_any Ak ks n c w h.sd.jd.dk hr hok hn hnl hk64 ((hkr.below h.below).more h.below.size) (fun ad e hne hs => ?_)).mono ?_
  · obtain ⟨ad', e', hb, _⟩ := hkr hne
    obtain rfl := Option.some.inj (e.symm.trans e')
    have := h.ge _ (.inl hs)
    omega
  · rintro e w2 ⟨rfl, S', h2, ht⟩
    obtain ⟨h3, h4⟩ := Turn.go h.below (Nat.le_refl _) ht (fun k hk => h.ge k (.inl hk))
    exact ⟨rfl, S', h2, h3, h4⟩
end

set_option maxHeartbeats 12800000 in
set_option maxRecDepth 10000 in
theorem snames_walk (w : World) (hp : Pow w) (hm : MaxL w) : Calls Tryz.prog 3 #[] w fun e w' => e = .returned (.bool true) ∧ Below w.heap.size w w' := by
  have hconv := conv_same5
  have hlv := lives6_any w hp hm
  go_enter Tryz.func3, Tryz.ntmps3
  go_wp2_with fail
  refine hlv.mono ?_
  rintro e w0 ⟨rfl, hb0⟩
  clear hlv
  go_wp2_with fail
  refine (new_any 10000 (by decide) w0).mono ?_
  rintro e w1 ⟨S1, d, rfl, hk1, hb1, hS1⟩
  have hb1' := hb0.trans (hb1.mono hb0.size)
  have hop := at6_open (xs := []) w1 hb1' hk1 (fun k hk => Nat.le_trans hb0.size (hS1 k hk)) hp hm (good6_new 10000 (by decide))
  rw [sDisk_new, sOpened_new] at hop
  clear hk1 hb1 hS1 hb0 hb1'
  go_wp2_with fail
  refine hop.mono ?_
  rintro e w2 ⟨st, j, S2, T2, U2, rfl, h2⟩
  clear hop
  have hsn : Calls Tryz.prog 9 #[.pointer (some ⟨st, 0, none⟩)] w2 fun e w' => ∃ v, e = .returned (.tuple #[v, .int .u64 1, .bool false]) ∧ w'.ownsRow w2.heap.size 5 1 v 0 [] ∧ Below w2.heap.size w2 w' := ssnap_any w2 h2.sd (by decide)
  go_wp2_with fail
  refine hsn.mono ?_
  rintro e w2' ⟨v, rfl, hown, hbn⟩
  obtain ⟨A0, c0, rfl⟩ := row_any hown
  have h2 := h2.go hbn
  clear hsn hown hbn
  obtain ⟨f1, f2, st1, fr1, rm1, us1, sp1⟩ := e1_facts
  obtain ⟨g1, g2, st2, fr2, rm2, us2, sp2⟩ := e2_facts
  go_wp2_with fail
  refine (at6_log1 97 (by decide) h2 rfl (okd_new 10000 (by decide)) (by decide) bareM_fits f2 f1).mono ?_
  rintro e w3 ⟨rfl, S3, T3, h3⟩
  clear h2
  have hft := st1.fits (by decide)
  go_wp2_with fail
  refine (at6_log1 98 (by decide) h3 y1_off st1.inv.ok (by show E1.steps ≤ _; omega) hft g2 g1).mono ?_
  rintro e w4 ⟨rfl, S4, T4, h4⟩
  clear h3 hft
  go_wp2_with fail
  refine (at6_save3 h4).mono ?_
  rintro e w5 ⟨rfl, S5, U5, h5⟩
  clear h4 f1 f2 st1 fr1 rm1 us1 sp1 g1 g2 st2 fr2 rm2 us2 sp2
  have hft3 := fits_one y3_J y3_next (by decide) (by decide) (by decide) (by decide)
  have hft4 := fits_one y4_J y4_next (by decide) (by decide) (by decide) (by decide)
  go_wp2_with fail
  refine (at6_log1 99 (by decide) h5 y3_off e3_ok (by have := e3_steps; omega) ⟨hft3.1, by rw [hft3.2.1]; decide⟩ l4a l4b).mono ?_
  rintro e w6 ⟨rfl, S6, T6, h6⟩
  clear h5
  have hsy := at6_sync h6 y4_off (okd_room inv4.ok (by have := e4_steps; show E4.steps + _ ≤ _; omega)) hft4.1
  rw [show (sSync (sLog E3 Y3 [99]).2.2.1 (sLog E3 Y3 [99]).2.2.2).1 = 0 from s4] at hsy
  clear h6
  go_wp2_with fail
  refine hsy.mono ?_
  rintro e w7 ⟨rfl, S7, T7, h7⟩
  clear hsy
  have hcr := at6_crash (D := E5) (X := Y5) h7 none [] 0 0 (okd_room inv5.ok (by have := e5_steps; omega)) inv5.ok rfl (by decide) (fun z hz => by cases hz) (fun hne => absurd rfl hne)
  rw [c5] at hcr
  clear h7
  go_wp2_with fail
  refine hcr.mono ?_
  rintro e w8 ⟨rfl, S8, hk8, hb8, hS8⟩
  clear hcr
  have hop := at6_open (xs := [x3]) w8 hb8 hk8 hS8 hp hm good6
  clear hk8 hb8 hS8
  go_wp2_with fail
  refine hop.mono ?_
  rintro e w9 ⟨st9, j9, S9, T9, U9, rfl, h9⟩
  clear hop hft3 hft4
  have hsn : Calls Tryz.prog 9 #[.pointer (some ⟨st9, 0, none⟩)] w9 fun e w' => ∃ v, e = .returned (.tuple #[v, .int .u64 3, .bool true]) ∧ w'.ownsRow w9.heap.size 5 1 v 2 (c8 [65, 66]) ∧ Below w9.heap.size w9 w' := ssnap_any w9 h9.sd (by decide)
  go_wp2_with fail
  refine hsn.mono ?_
  rintro e w10 ⟨v9, rfl, hown, hbn⟩
  obtain ⟨A9, c9, rfl⟩ := row_any hown
  have h10 := h9.go hbn
  have hcv : (convert 30 9 (.slice A9 2 c9)).run Tryz.prog w10 = .ok (.string ⟨#[65, 66]⟩) w10 := conv_text w10 30 5 9 Tryz.underlying30 Tryz.underlying5 Tryz.underlying9 (zs := [65, 66]) (Rds.ofOwn hown) c9
  have hJo := fits_one o6J o6n (by decide) (by decide) (by decide) (by decide)
  have hXJ : (sOpened [x3] E6).J = opened lM E6 := by
    show opened lM (sFiles [x3] E6) = _
    rw [sf6]
  have hsc := ssince_any w10 h10.sd (by show Fits (sOpened [x3] E6).J; rw [hXJ]; exact hJo.1) (by show (jAll (sOpened [x3] E6).J).length ≤ _; rw [hXJ, hJo.2.2.1]; decide)
    (by
      show ∀ x ∈ (sOpened [x3] E6).J.segs, _
      rw [hXJ]
      obtain ⟨s, e1, _, e3⟩ := hJo.2.2.2 rfl
      rw [e1]
      intro x hx r hr
      obtain rfl := List.mem_singleton.1 hx
      rw [e3] at hr
      have : r.length = 1 := by
        rcases List.mem_cons.1 hr with e | hr
        · rw [e]; rfl
        · rcases List.mem_cons.1 hr with e | hr
          · rw [e]; rfl
          · rw [List.mem_singleton.1 hr]; rfl
      omega)
    (by show jFirst (sOpened [x3] E6).J ≤ 3; rw [hXJ, o6f]; decide) (by show 3 - jFirst (sOpened [x3] E6).J ≤ (jAll (sOpened [x3] E6).J).length; rw [hXJ, o6f, hJo.2.2.1]; decide) (by show 3 ≤ maxNo; decide)
  rw [show sSince (sOpened [x3] (dCrash E5 []).2) = [[99]] from since6] at hsc
  clear hsn hown hbn h9 hJo
  go_wp2_with fail
  refine hsc.mono ?_
  rintro e w11 ⟨A11, c11, ys, rfl, hys, htl⟩
  have h11 := h10.go htl.below
  have hyl : ys.length = 1 := by
    have := congrArg List.length hys
    simpa using this
  rw [hyl]
  clear hsc hcv h10
  go_wp2_with fail
  have hW1 : Below w11.heap.size w11 ((w11.alloc (.cells #[.int .u8 99] 5 (1, 2))).alloc (.cells #[.slice (some ⟨w11.heap.size, 0, none⟩) 1 1] 30)) :=
    ((Below.refl _ w11).alloc (Nat.le_refl _) _).alloc (by simp) _
  have hra : Rds ((w11.alloc (.cells #[.int .u8 99] 5 (1, 2))).alloc (.cells #[.slice (some ⟨w11.heap.size, 0, none⟩) 1 1] 30)) (w11.heap.size + 2) (some ⟨w11.heap.size, 0, none⟩) (c8 [99]) :=
    ((Rds.madeF5 w11 5 [99] #[.int .u8 99] (1, 2) rfl).alloc (by simp) _).more (by omega)
  have hrw : Rds ((w11.alloc (.cells #[.int .u8 99] 5 (1, 2))).alloc (.cells #[.slice (some ⟨w11.heap.size, 0, none⟩) 1 1] 30)) (w11.heap.size + 2) (some ⟨w11.heap.size + 1, 0, none⟩) (cR [⟨[99], some ⟨w11.heap.size, 0, none⟩, 1⟩]) := by
    have h := Rds.whole5 (Whole.new (w11.alloc (.cells #[.int .u8 99] 5 (1, 2))) 30 #[.slice (some ⟨w11.heap.size, 0, none⟩) 1 1])
    simp only [World.size_alloc5] at h
    exact h
  have hsl := sameLists_yes A11 (some ⟨w11.heap.size + 1, 0, none⟩) ys [⟨[99], some ⟨w11.heap.size, 0, none⟩, 1⟩] 1 1 c11 1 (w11.heap.size + 2) _ hyl rfl (by decide) hys
    (fun x hx => by
      have h2 : x.r ∈ [[99]] := by rw [← hys]; exact List.mem_map_of_mem hx
      rw [List.mem_singleton.1 h2]; decide)
    ((htl.row.below hW1).more (by omega)) hrw (fun x hx => ((htl.bods x hx).below hW1).more (by omega))
    (fun y hy => by
      rw [List.mem_singleton.1 hy]; exact hra)
  have h12 := h11.go hW1
  generalize ((w11.alloc (.cells #[.int .u8 99] 5 (1, 2))).alloc (.cells #[.slice (some ⟨w11.heap.size, 0, none⟩) 1 1] 30)) = wA at *
  clear hW1 hra hrw htl hys h11 hyl
  refine hsl.mono ?_
  rintro e wB ⟨rfl, q, rfl⟩
  have h13 := h12.go (bDrewN (Below.refl _ _) q)
  clear hsl h12
  generalize wA.drewN q = wB at *
  have hnx : Calls Tryz.prog 16 #[.pointer (some ⟨st9, 0, none⟩)] wB fun e w' => e = .returned (.int .u64 4) ∧ w' = wB := by
    have := snext_any wB h13.sd
    rwa [show (sOpened [x3] (dCrash E5 []).2).J.next = 4 by
      show (sOpened [x3] E6).J.next = 4
      rw [hXJ]
      exact o6n] at this
  have HB := Lib.hid h13.below
  clear h13 hXJ
  go_wp2_with fail
  refine hnx.mono ?_
  rintro e wC ⟨rfl, rfl⟩
  clear hnx
  go_wp2
  go_returns
  exact ⟨by simp, HB.out⟩
end Go.Proofs.YtbobakfcmkaijaaGreatDoor
end

section
/- What the journal's calls leave of other files; segments that are dropped. Plain mathematics: no program is named here. -/
namespace Go.Proofs.YtbobakfcmkaijaaGreatDoor
set_option linter.unusedVariables false

section
variable {l : Nm} {D D' D2 : Dsk} {a k m q n : Nat} {ps : List Sg} {s p : Sg} {xs : List Sn} {x y : Sn} {b : List Int} {J : Jn}
theorem make_but (D : Dsk) (f : Nm) : But f D (dMake D f).2 := fun g hg => by
  unfold dMake
  split
  · rfl
  · split
    · rfl
    · rename_i h
      rcases dStep_two D (ins ⟨f, [], 0⟩) with e | ⟨_, e, _⟩
      · rw [e]; rfl
      · rw [e, find_ins (f := ⟨f, [], 0⟩) (by simpa using h), if_neg (Ne.symm hg)]
theorem sync_but (D : Dsk) (f : Nm) : But f D (dSync D f).2 := fun g hg => by
  unfold dSync
  split
  · rfl
  · split
    · rfl
    · rcases dStep_two D (upd f (fun f => { f with sy := f.bs.length })) with e | ⟨_, e, _⟩
      · rw [e]; rfl
      · rw [e, find_upd _ _ _ (fun f => ({ f with sy := f.bs.length } : Fl)) (fun _ => rfl)]
        cases find D.files g with
        | none => rfl
        | some z => simp [hg]
theorem append_but (D : Dsk) (f : Nm) (b : List Int) : But f D (dAppend D f b).2 := fun g hg => by
  unfold dAppend
  split
  · rfl
  · split
    · rfl
    · split
      · rfl
      · obtain ⟨t, u, _, h2, _⟩ := puts_two f (parts b) D
        rw [h2]
        unfold put1
        rw [find_upd _ _ _ (fun f => ({ f with bs := f.bs ++ t } : Fl)) (fun _ => rfl)]
        cases find D.files g with
        | none => rfl
        | some z => simp [hg]
theorem remove_but (D : Dsk) (f : Nm) : But f D (dRemove D f).2 := fun g hg => by
  unfold dRemove
  split
  · rfl
  · split
    · rfl
    · rcases dStep_two D (del f) with e | ⟨_, e, _⟩
      · rw [e]; rfl
      · rw [e, find_del, if_neg (Ne.symm hg)]
/-- all but the journal's segments are as they were -/
def NoSeg (D D' : Dsk) : Prop := ∀ f, (∀ n, f ≠ segN lM n) → find D'.files f = find D.files f
theorem NoSeg.refl (D : Dsk) : NoSeg D D := fun _ _ => rfl
theorem NoSeg.trans (h : NoSeg D D') (k : NoSeg D' D2) : NoSeg D D2 := fun f hf => (k f hf).trans (h f hf)
theorem NoSeg.of (h : D'.files = D.files) : NoSeg D D' := fun f _ => by rw [h]
theorem But.seg (h : But (segN lM n) D D') : NoSeg D D' := fun f hf => h f (hf n)
theorem NoSeg.half (h : NoSeg D D') : find D'.files (halfN lM) = find D.files (halfN lM) := h _ fun n => Ne.symm (seg_ne_half lM n)
theorem NoSeg.snap (h : NoSeg D D') (n : Nat) : find D'.files (snapN lM n) = find D.files (snapN lM n) := h _ fun k => snap_ne_seg lM n k
theorem Snaps.jour (h : Snaps D xs) (hn : NoSeg D D') : Snaps D' xs := h.turn (fun f hf => by
  by_cases e : ∃ n, f = segN lM n
  · exact .inr (.inl e)
  · rw [hn f (fun n hh => e ⟨n, hh⟩)] at hf
    exact .inl hf) hn.snap
theorem jsyncLast_no (D : Dsk) (J : Jn) : NoSeg D (jSyncLast lM D J).2.1 := by
  unfold jSyncLast
  split
  · exact NoSeg.refl D
  · exact (sync_but D _).seg
theorem jsync_no' (D : Dsk) (J : Jn) : NoSeg D (jSync lM D J).2.1 := by
  unfold jSync
  split
  · exact NoSeg.refl D
  · exact jsyncLast_no D J
theorem jnew_no (D : Dsk) (J : Jn) : NoSeg D (jNew lM D J).2.1 := by
  unfold jNew
  split
  · exact (make_but D _).seg
  · exact (make_but D _).seg
theorem jextend_no (D : Dsk) (J : Jn) : NoSeg D (jExtend lM D J).2.1 := by
  unfold jExtend
  split
  · exact NoSeg.refl D
  · split
    · exact NoSeg.refl D
    · split
      · exact (jsyncLast_no D J).trans (jnew_no _ _)
      · exact jsyncLast_no D J
theorem jappend_noseg (D : Dsk) (J : Jn) (b : List Int) : NoSeg D (jAppend lM D J b).2.2.1 := by
  unfold jAppend
  split
  · exact NoSeg.refl D
  · split
    · exact NoSeg.refl D
    · split
      · unfold jPut
        split
        · exact (jextend_no D J).trans (append_but _ _ _).seg
        · exact (jextend_no D J).trans (append_but _ _ _).seg
      · exact jextend_no D J

/-- the first segment goes -/
theorem Lies.drop1 (h : Lies lM D a (p :: ps) s k q) (hs : Srt D.files) (hs' : Srt D'.files) (hf : D'.files = del (segN lM p.num) D.files) : Lies lM D' (a + p.recs.length) ps s k (q - p.recs.length) := by
  have hr := h.rise hs
  have hle := h.le
  have hpn : p.num ≤ maxNo := hle p (by simp)
  rw [List.cons_append, List.map_cons] at hr
  obtain ⟨hr1, hr2⟩ := List.pairwise_cons.1 hr
  have hne : ∀ x ∈ ps ++ [s], segN lM p.num ≠ segN lM x.num := fun x hx e => by
    have h1 := hr1 x.num (List.mem_map_of_mem hx)
    have h2 := segN_inj hpn (hle x (by rw [List.cons_append]; exact List.mem_cons_of_mem _ hx)) e
    omega
  refine ⟨?_, ?_, ?_, fun x hx => h.good x (by rw [List.cons_append]; exact List.mem_cons_of_mem _ hx), fun x hx => ?_, ?_, h.kle⟩
  · refine rise_ext (nos_rise ((srt_iff _).1 hs')) hr2 fun n => ?_
    have e0 : n ∈ jnums lM D ↔ n ∈ p.num :: (ps ++ [s]).map (·.num) := by rw [h.nums]; rfl
    rw [show n ∈ jnums lM D' ↔ _ from nos_mem]
    rw [show n ∈ jnums lM D ↔ _ from nos_mem] at e0
    unfold names at e0 ⊢
    rw [← find_isSome] at e0 ⊢
    rw [hf, find_del]
    constructor
    · rintro ⟨h1, h2⟩
      split at h2
      · cases h2
      · rename_i hne2
        rcases List.mem_cons.1 (e0.1 ⟨h1, h2⟩) with e | e
        · rw [e] at hne2
          exact absurd rfl hne2
        · exact e
    · intro hn
      obtain ⟨h1, h2⟩ := e0.2 (List.mem_cons_of_mem _ hn)
      obtain ⟨x, hx, rfl⟩ := List.mem_map.1 hn
      exact ⟨h1, by rw [if_neg (hne x hx)]; exact h2⟩
  · rw [hf, find_del, if_neg (segN_ne_cut lM p.num)]
    exact h.nocut
  · exact h.chain.2
  · obtain ⟨f, h1, h2⟩ := h.full x (List.mem_cons_of_mem _ hx)
    exact ⟨f, by rw [hf, find_del, if_neg (hne x (by simp [hx]))]; exact h1, h2⟩
  · obtain ⟨f, h1, h2, h3⟩ := h.last
    refine ⟨f, by rw [hf, find_del, if_neg (hne s (by simp))]; exact h1, h2, ?_⟩
    have : cnt (p :: ps) = p.recs.length + cnt ps := by simp [cnt]
    omega
/-- what Drop comes to -/
structure Drop6 (D : Dsk) (a n k q : Nat) (ps : List Sg) (s : Sg) (r : Int × Dsk × List Sg) : Prop where
  room : r.2.1.room = D.room
  used : used r.2.1.files ≤ used D.files
  no : NoSeg D r.2.1
  ok : r.1 = 0 ∨ r.1 = 10
  off : r.1 = 0 → r.2.1.off = false
  lie : ∃ a' ps', a ≤ a' ∧ a' ≤ n ∧ r.2.2 = ps' ++ [s] ∧ Lies lM r.2.1 a' ps' s k (q - (a' - a)) ∧ a' + cnt (ps' ++ [s]) = a + cnt (ps ++ [s]) ∧ flat (ps' ++ [s]) = (flat (ps ++ [s])).drop (a' - a)
theorem drop6 (n : Nat) : ∀ (ps : List Sg) (D : Dsk) (a q : Nat), Lies lM D a ps s k q → Okd D → D.off = false → a ≤ n → Drop6 D a n k q ps s (dropGo lM n (ps ++ [s]) D)
  | [], D, a, q, h, hok, hon, ha => ⟨rfl, Nat.le_refl _, NoSeg.refl D, .inl rfl, fun _ => hon, a, [], Nat.le_refl _, ha, rfl, by rw [Nat.sub_self]; exact h, rfl, by rw [Nat.sub_self]; rfl⟩
  | p :: ps, D, a, q, h, hok, hon, ha => by
    have hst : Drop6 D a n k q (p :: ps) s (0, D, (p :: ps) ++ [s]) := ⟨rfl, Nat.le_refl _, NoSeg.refl D, .inl rfl, fun _ => hon, a, p :: ps, Nat.le_refl _, ha, rfl, by rw [Nat.sub_self]; exact h, rfl, by rw [Nat.sub_self]; rfl⟩
    obtain ⟨b, r, e⟩ : ∃ b r, ps ++ [s] = b :: r := by
      cases ps with
      | nil => exact ⟨s, [], rfl⟩
      | cons b r => exact ⟨b, r ++ [s], rfl⟩
    have hbn : b.num = a + p.recs.length := by
      have hc := h.chain
      rw [List.cons_append, e] at hc
      exact hc.2.1
    have hdg : dropGo lM n (p :: ps ++ [s]) D = if b.num ≤ n then (if (dRemove D (segN lM p.num)).1 = 0 then dropGo lM n (ps ++ [s]) (dRemove D (segN lM p.num)).2 else ((dRemove D (segN lM p.num)).1, (dRemove D (segN lM p.num)).2, p :: ps ++ [s])) else (0, D, p :: ps ++ [s]) := by
      rw [List.cons_append, e]
      rfl
    rw [hdg]
    split
    · rename_i hbn2
      obtain ⟨f, hf, _⟩ := h.full p (by simp)
      have hr2 := remove_two (ask_seg hon okM p.num) hf
      rcases dStep_two D (del (segN lM p.num)) with e1 | ⟨e1, e2, e3, e4, _⟩
      · rw [if_neg (by rw [hr2, e1]; exact ten_ne), hr2, e1]
        exact ⟨rfl, Nat.le_refl _, NoSeg.of rfl, .inr rfl, (fun hh => by cases hh), a, p :: ps, Nat.le_refl _, ha, rfl, by rw [Nat.sub_self]; exact h.same rfl, rfl, by rw [Nat.sub_self]; rfl⟩
      · rw [← hr2] at e1 e2 e3 e4
        rw [if_pos e1]
        have hok' := okd_remove hok (segN lM p.num)
        have hl := h.drop1 hok.srt hok'.srt e2
        have ih := drop6 n ps (dRemove D (segN lM p.num)).2 (a + p.recs.length) (q - p.recs.length) hl hok' (by rw [e3, hon]) (by omega)
        obtain ⟨a', ps', i1, i2, i3, i4, i5, i6⟩ := ih.lie
        refine ⟨ih.room.trans e4, Nat.le_trans ih.used ?_, (remove_but D _).seg.trans ih.no, ih.ok, ih.off, a', ps', by omega, i2, i3, ?_, ?_, ?_⟩
        · rw [e2]
          have := used_del_le hok.srt (segN lM p.num)
          exact this
        · rw [show q - (a' - a) = q - p.recs.length - (a' - (a + p.recs.length)) by omega]
          exact i4
        · rw [i5]
          have : cnt (p :: ps ++ [s]) = p.recs.length + cnt (ps ++ [s]) := by simp [cnt]
          omega
        · rw [i6]
          have : flat (p :: ps ++ [s]) = p.recs ++ flat (ps ++ [s]) := by simp [flat]
          rw [this, List.drop_append, show p.recs.drop (a' - a) = [] from List.drop_eq_nil_of_le (by omega), List.nil_append]
          congr 1
          omega
    · exact hst
end
end Go.Proofs.YtbobakfcmkaijaaGreatDoor
end

section
/- The state of a checkpoint and its disk between calls: Log, Sync, Save. Plain mathematics: no program is named here. -/
namespace Go.Proofs.YtbobakfcmkaijaaGreatDoor
set_option linter.unusedVariables false

section
variable {l : Nm} {D D' D2 : Dsk} {a k m q n : Nat} {ps : List Sg} {s p : Sg} {xs : List Sn} {x y : Sn} {b : List Int} {J : Jn} {X : Ck} {L : List (List Int)}
theorem del_len (l : Nm) (fs : List Fl) : (del l fs).length ≤ fs.length := List.length_filter_le _ _
theorem remove_inv (h : Inv D) (n : Nm) : Inv (dRemove D n).2 := by
  refine ⟨okd_remove h.ok n, ?_, ?_⟩
  all_goals
    unfold dRemove
    split
    · first | exact h.few | exact h.byt
    · split
      · first | exact h.few | exact h.byt
      · first
          | exact step_few h.few (Nat.le_trans (del_len _ _) (Nat.le_succ _))
          | exact step_byt h.byt (fun f hf => h.byt f (mem_del hf))
theorem rename_inv (h : Inv D) (n n' : Nm) : Inv (dRename D n n').2 := by
  refine ⟨okd_rename h.ok n n', ?_, ?_⟩
  all_goals
    unfold dRename
    split
    · first | exact h.few | exact h.byt
    · split
      · first | exact h.few | exact h.byt
      · rename_i f hf
        split
        · first | exact h.few | exact h.byt
        · first
            | exact step_few h.few (by
                unfold mv
                rw [ins_len]
                exact Nat.succ_le_succ (Nat.le_trans (del_len _ _) (del_len _ _)))
            | exact step_byt h.byt (fun g hg => by
                unfold mv at hg
                rcases mem_ins.1 hg with rfl | hg
                · exact h.byt f (find_some hf).1
                · exact h.byt g (mem_del (mem_del hg)))
theorem seq_inv : ∀ (fs : List (Dsk → Int × Dsk)) (D : Dsk), (∀ f ∈ fs, ∀ D, Inv D → Inv (f D).2) → Inv D → Inv (seqD D fs).2
  | [], D, _, h => h
  | f :: fs, D, hf, h => by
    rw [seqD]
    split
    · exact seq_inv fs _ (fun g hg => hf g (by simp [hg])) (hf f (by simp) D h)
    · exact hf f (by simp) D h
theorem put_inv (h : Inv D) (nm : Nm) (hb : Byt b) : Inv (sPut D nm b).2 := by
  unfold sPut
  split
  · refine seq_inv _ _ (fun f hf D hD => ?_) (remove_inv h _)
    simp only [putSteps, List.mem_cons, List.not_mem_nil, or_false] at hf
    rcases hf with rfl | rfl | rfl | rfl
    · exact make_inv hD _
    · exact append_inv hD _ hb
    · exact sync_inv hD _
    · exact rename_inv hD _ _
  · exact remove_inv h _
theorem put_steps (D : Dsk) (nm : Nm) (b : List Int) : (sPut D nm b).2.steps ≤ D.steps + 4 + (b.length + 63) / 64 := by
  have h1 := (steps_remove D (halfN lM)).1
  unfold sPut
  split
  · have := seqD_steps (D := (dRemove D (halfN lM)).2) (nm := nm) (b := b)
    omega
  · omega
theorem dropGo_inv {n : Nat} : ∀ (ss : List Sg) (D : Dsk), Inv D → Inv (dropGo l n ss D).2.1
  | [], D, h => h
  | [a], D, h => h
  | a :: b :: r, D, h => by
    unfold dropGo
    split
    · split
      · exact dropGo_inv (b :: r) _ (remove_inv h _)
      · exact remove_inv h _
    · exact h

/-! ## the state -/
/-- what stands on the disk -/
structure Mid (D : Dsk) (a : Nat) (ps : List Sg) (s : Sg) (q : Nat) (xs : List Sn) (L : List (List Int)) : Prop where
  one : 1 ≤ a
  lie : Lies lM D a ps s (rsz s.recs) q
  ne : s.recs ≠ []
  flt : flat (ps ++ [s]) = L.drop (a - 1)
  sum : a - 1 + cnt (ps ++ [s]) = L.length
  sn : Snaps D xs
  bs : ∀ y ∈ xs, 2 ≤ y.upto ∧ y.bs = [((y.upto - 1 : Nat) : Int)]
  lo : a ≤ (xs.getLastD sn0).upto
  hi : (xs.getLastD sn0).upto ≤ a + q
/-- between calls: all that was logged, how many of it are sure -/
structure St6 (D : Dsk) (X : Ck) (L : List (List Int)) (m : Nat) : Prop where
  inv : Inv D
  on : D.off = false
  xon : X.off = false
  half : find D.files (halfN lM) = none
  st : (Bare lM D ∧ X.J = jnOf [] ∧ L = [] ∧ m = 0 ∧ X.sn = sn0 ∧ Snaps D []) ∨ (∃ a ps s q xs, Mid D a ps s q xs L ∧ X.J = jnA a (ps ++ [s]) ∧ m ≤ a - 1 + q ∧ ((xs = [] ∧ X.sn = sn0) ∨ xs = [X.sn]))
/-- what a crash may fall upon -/
def Lost6 (D : Dsk) (M : List (List Int)) (m n : Nat) : Prop := ∃ xs, Snaps D xs ∧ (∀ y ∈ xs, 2 ≤ y.upto ∧ y.bs = [((y.upto - 1 : Nat) : Int)]) ∧
  ((∃ a ps s k q, 1 ≤ a ∧ Lies lM D a ps s k q ∧ flat (ps ++ [s]) = (M.drop (a - 1)).take (flat (ps ++ [s])).length ∧ a - 1 + (flat (ps ++ [s])).length ≤ n ∧ m ≤ a - 1 + q ∧ a ≤ (xs.getLastD sn0).upto ∧ (xs.getLastD sn0).upto ≤ a + q) ∨ (Bare lM D ∧ m = 0 ∧ xs = []))
theorem drop_same {M : List (List Int)} {n c : Nat} (h : L = M.take n) (hL : L.length = n) (hc : c ≤ n) : L.drop c = (M.drop c).take (L.drop c).length := by
  have e : (L.drop c).length = n - c := by rw [List.length_drop, hL]
  rw [e, h, List.drop_take]
theorem Mid.lost (h : Mid D a ps s q xs L) (hm : m ≤ a - 1 + q) {M : List (List Int)} {n : Nat} (hM : L = M.take n) (hn : L.length = n) : Lost6 D M m n := by
  have h0 := h.sum
  have hfl : (flat (ps ++ [s])).length = cnt (ps ++ [s]) := flat_length _
  refine ⟨xs, h.sn, h.bs, .inl ⟨a, ps, s, _, q, h.one, h.lie, ?_, by omega, hm, h.lo, h.hi⟩⟩
  rw [h.flt]
  exact drop_same hM hn (by omega)
theorem Mid.same (h : Mid D a ps s q xs L) (hf : D'.files = D.files) : Mid D' a ps s q xs L := ⟨h.one, h.lie.same hf, h.ne, h.flt, h.sum, h.sn.same hf, h.bs, h.lo, h.hi⟩
theorem St6.next (h : St6 D X L m) : X.J.next = 1 + L.length := by
  rcases h.st with ⟨_, e, e2, _⟩ | ⟨a, ps, s, q, xs, hm, e, _⟩
  · rw [e, e2]; rfl
  · rw [e, jnA_next]
    have := hm.sum
    have := hm.one
    omega
theorem St6.jon (h : St6 D X L m) : X.J.off = false := by
  rcases h.st with ⟨_, e, _⟩ | ⟨a, ps, s, q, xs, _, e, _⟩ <;> rw [e] <;> rfl
theorem St6.lost (h : St6 D X L m) {M : List (List Int)} {n : Nat} (hM : L = M.take n) (hn : L.length = n) : Lost6 D M m n := by
  rcases h.st with ⟨h1, _, h2, h3, h4, h5⟩ | ⟨a, ps, s, q, xs, hm, _, hq, _⟩
  · exact ⟨[], h5, (fun y hy => by cases hy), .inr ⟨h1, h3, rfl⟩⟩
  · exact hm.lost hq hM hn
theorem St6.less (h : St6 D X L m) {m' : Nat} (hm : m' ≤ m) : St6 D X L m' := by
  refine ⟨h.inv, h.on, h.xon, h.half, ?_⟩
  rcases h.st with ⟨h1, h2, h3, h4, h5⟩ | ⟨a, ps, s, q, xs, h1, h2, h3, h4⟩
  · exact .inl ⟨h1, h2, h3, by omega, h5⟩
  · exact .inr ⟨a, ps, s, q, xs, h1, h2, by omega, h4⟩
theorem St6.upto (h : St6 D X L m) : 1 ≤ X.sn.upto ∧ X.sn.upto ≤ L.length + 1 := by
  rcases h.st with ⟨_, _, h2, _, h4, _⟩ | ⟨a, ps, s, q, xs, hm, _, _, hx⟩
  · rw [h4]; exact ⟨Nat.le_refl _, by show 1 ≤ _; omega⟩
  · have h1 := hm.lo
    have h2 := hm.hi
    have h3 := hm.one
    have h4 := hm.sum
    have h6 : q ≤ cnt (ps ++ [s]) := by
      obtain ⟨f, _, _, h5⟩ := hm.lie.last
      have := whr_le s.recs f.sy
      rw [cnt_snoc]
      omega
    rcases hx with ⟨e1, e2⟩ | e1
    · rw [e2]; exact ⟨Nat.le_refl _, by show 1 ≤ _; omega⟩
    · rw [e1] at h1 h2
      have e3 : ([X.sn].getLastD sn0) = X.sn := rfl
      rw [e3] at h1 h2
      exact ⟨by omega, by omega⟩
end
end Go.Proofs.YtbobakfcmkaijaaGreatDoor
end
