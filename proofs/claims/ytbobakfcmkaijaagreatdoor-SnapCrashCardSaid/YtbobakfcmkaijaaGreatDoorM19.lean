/- Several texts, each a section: SChg, SCho. -/
import Derived.Deep.RegionHeld3
import Derived.Test.YtbobakfcmkaijaaGreatDoorM18
import Derived.Test.YtbobakfcmkaijaaGreatDoorM09
import Derived.Test.YtbobakfcmkaijaaGreatDoorM06
import Derived.Test.YtbobakfcmkaijaaGreatDoorM08
section
/- change: another snapshot in the place of the one that is there. -/
namespace Go.Proofs.YtbobakfcmkaijaaGreatDoor
open Go.RowKit
set_option linter.unusedVariables false

section
variable {w w' w2 wr w0 : World} {S T U S' T' U' Sk V : Nat → Prop} {st j d : Nat} {D D' : Dsk} {X X' : Ck} {A : Option Addr} {c : Nat}
/-- the places of a checkpoint that has other bytes -/
def withA (U : Nat → Prop) (A : Option Addr) : Nat → Prop := fun k => U k ∨ ∃ ad, A = some ad ∧ k = ad.block
/-- another snapshot is put in -/
theorem StAt.turn {off : Bool} {jp : Option Addr} {x nx : Sn} {A' : Option Addr} {c' : Nat} (h : StAt w U st d off jp x A c) (hr : Rds w w.heap.size A' (c8 nx.bs)) (hst : ∀ ad, A' = some ad → ad.block ≠ st ∧ ad.block < w.heap.size) :
    StAt (((w.setCell ⟨st, 5, none⟩ (.bool nx.there)).setCell ⟨st, 6, none⟩ (.int .u64 nx.upto)).setCell ⟨st, 7, none⟩ (.slice A' nx.bs.length c')) (withA U A') st d off jp nx A' c' := by
  have hs : ∀ W : World, ∀ p u, (W.setCell p u).heap.size = W.heap.size := fun W p u => by simp [World.setCell]
  refine ⟨?_, ?_, fun ad e hne => ⟨.inr ⟨ad, e, rfl⟩, (hst ad e).1⟩, .inl h.us, fun k hk => ?_⟩
  · have := ((h.top.put 5 (.bool nx.there)).put 6 (.int .u64 nx.upto)).put 7 (.slice A' nx.bs.length c')
    simpa [topS] using this
  · intro hne
    obtain ⟨ad, e, hlt, hcl⟩ := hr hne
    have hab := (hst ad e).1
    refine ⟨ad, e, by rw [hs, hs, hs]; exact hlt, fun k u hu => ?_⟩
    rw [World.cell?_of_block (Below.heap_setCell _ ⟨st, 7, none⟩ _ _ (by rw [blk_add]; exact hab)), World.cell?_of_block (Below.heap_setCell _ ⟨st, 6, none⟩ _ _ (by rw [blk_add]; exact hab)), World.cell?_of_block (Below.heap_setCell _ ⟨st, 5, none⟩ _ _ (by rw [blk_add]; exact hab))]
    exact hcl k u hu
  · rw [hs, hs, hs]
    rcases hk with hk | ⟨ad, e, rfl⟩
    · exact h.lt k hk
    · exact (hst ad e).2

theorem seqD_okd {nm : Nm} {b : List Int} (h : Okd D) : Okd (seqD D (putSteps nm b)).2 := by
  have h1 : Okd (dMake D (halfN lM)).2 := okd_make h _
  have h2 : Okd (dAppend (dMake D (halfN lM)).2 (halfN lM) b).2 := okd_append h1 _ _
  have h3 : Okd (dSync (dAppend (dMake D (halfN lM)).2 (halfN lM) b).2 (halfN lM)).2 := okd_sync h2 _
  have h4 : Okd (dRename (dSync (dAppend (dMake D (halfN lM)).2 (halfN lM) b).2 (halfN lM)).2 (halfN lM) nm).2 := okd_rename h3 _ _
  unfold putSteps
  simp only [seqD]
  split
  · split
    · split
      · split
        · exact h4
        · exact h4
      · exact h3
    · exact h2
  · exact h1
theorem sput_okd (h : Okd D) (nm : Nm) (b : List Int) : Okd (sPut D nm b).2 := by
  unfold sPut
  split
  · exact seqD_okd (okd_remove h _)
  · exact okd_remove h _
theorem seqD_steps {nm : Nm} {b : List Int} : (seqD D (putSteps nm b)).2.steps ≤ D.steps + 3 + (b.length + 63) / 64 := by
  have h1 := (steps_make D (halfN lM)).1
  have h2 := (steps_append (dMake D (halfN lM)).2 (halfN lM) b).1
  have h3 := (steps_sync (dAppend (dMake D (halfN lM)).2 (halfN lM) b).2 (halfN lM)).1
  have h4 := (steps_rename (dSync (dAppend (dMake D (halfN lM)).2 (halfN lM) b).2 (halfN lM)).2 (halfN lM) nm).1
  unfold putSteps
  simp only [seqD]
  split
  · split
    · split
      · split
        · show (dRename _ _ _).2.steps ≤ _; omega
        · show (dRename _ _ _).2.steps ≤ _; omega
      · show (dSync _ _).2.steps ≤ _; omega
    · show (dAppend _ _ _).2.steps ≤ _; omega
  · show (dMake _ _).2.steps ≤ _; omega
theorem sput_steps (h : Okd D) (nm : Nm) (b : List Int) (hb : b.length ≤ 2000000) : (sPut D nm b).2.steps ≤ D.steps + 50000 := by
  have h1 := (steps_remove D (halfN lM)).1
  unfold sPut
  split
  · have := seqD_steps (D := (dRemove D (halfN lM)).2) (nm := nm) (b := b)
    omega
  · omega
set_option maxHeartbeats 6400000 in
set_option maxRecDepth 20000 in
theorem schange_any (nx : Sn) (A : Option Addr) (n c : Nat) (w0 w : World) (hb0 : Below w0.heap.size w0 w) (h : SD w S T U st j d D X) (hlt0 : ∀ k, S k ∨ T k ∨ U k → k < w0.heap.size) (hA : ∀ ad, A = some ad → w0.heap.size ≤ ad.block ∧ ad.block < w.heap.size)
    (hsk : Sok nx) (hok : Okd D) (hon : D.off = false) (hst : D.steps ≤ 524288000000) (hhf : find D.files (halfN lM) = none) (hno : X.sn.upto ≤ maxNo) (hn : nx.bs.length = n) (hr : Rds w w.heap.size A (c8 nx.bs)) (hA0 : A = none → c = 0) (hne : (sPut D (snapN lM nx.upto) (snB nx)).1 ≠ 8) (hbg : ∀ ad, A = some ad → ad.block ≠ 1 ∧ ad.block ≠ 0) :
    Calls Tryz.prog 33 #[.pointer (some ⟨st, 0, none⟩), .agg #[.bool nx.there, .int .u64 nx.upto, .slice A n c]] w fun e w' => e = .returned (.int .i64 (sChange D X.sn nx).1) ∧ ∃ S' U', SD w' S' T U' st j d (sChange D X.sn nx).2.1 ⟨X.off, X.J, (sChange D X.sn nx).2.2⟩ ∧ TurnS S T U S' T U' w0 w' := by
  obtain ⟨W1, hW1⟩ : ∃ W1, W1 = w.alloc (.cells #[.bool nx.there, .int .u64 nx.upto, .slice A n c] 48) := ⟨_, rfl⟩
  have hb1 : Below w.heap.size w W1 := by rw [hW1]; exact (Below.refl _ w).alloc (Nat.le_refl _) _
  have hw1 : Whole W1 w.heap.size 48 #[.bool nx.there, .int .u64 nx.upto, .slice A n c] := by rw [hW1]; exact Whole.new _ _ _
  have k0 : W1.cell? ⟨w.heap.size, 0, none⟩ = some (.bool nx.there) := hw1.cell 0
  have k1 : W1.cell? ⟨w.heap.size, 1, none⟩ = some (.int .u64 nx.upto) := hw1.cell 1
  have k2 : W1.cell? ⟨w.heap.size, 2, none⟩ = some (.slice A n c) := hw1.cell 2
  have hfr := framed_any nx A n c W1 hn hsk ((hr.below hb1).more hb1.size) hA0
  have H1 := Lib.hid (h.go hb1)
  have HW := Lib.hid hw1
  have HX := Lib.hid hW1
  have HR := Lib.hid hr
  have HB1 := Lib.hid (hb0.trans (hb1.mono hb0.size))
  have HB := Lib.hid hb1
  have hws : w.heap.size < W1.heap.size := hw1.lt
  have hbz := hb0.size
  have hltw : ∀ k, S k ∨ T k ∨ U k → k < w.heap.size := h.lt
  clear hW1 hb1 hw1 h hr hb0
  go_enter Tryz.func33, Tryz.ntmps33
  go_wp2_with fail
  rw [← HX.out]
  refine hfr.mono ?_
  rintro e w2 ⟨g, rfl, hwg, hg, hb2⟩
  have h2 := H1.out.go hb2
  have hw2 := HW.out.go hb2
  have k1 : w2.cell? ⟨w.heap.size, 1, none⟩ = some (.int .u64 nx.upto) := hw2.cell 1
  have hfl := sfile_any nx.upto hsk.no w2 h2.jd.pow h2.st.c2
  have H2 := Lib.hid h2
  have HW2 := Lib.hid hw2
  have HG := Lib.hid (And.intro hwg hg)
  have HB2 := Lib.hid hb2
  clear hfr h2 hw2 hwg hg hb2
  generalize hLL : (snB nx).length = L at *
  go_wp2_with fail
  refine hfl.mono ?_
  rintro e w3 ⟨rfl, hb3⟩
  have h3 := H2.out.go hb3
  have hw3 := HW2.out.go hb3
  have hg3 := HG.out.1.go hb3
  have hlen2 : (snB nx).length ≤ 2000000 := by rw [snB_len]; have := snBody_len nx; have := hsk.len; omega
  have hgn : ∀ k, S k ∨ T k ∨ U k → k < g := fun k hk => by have := hltw k hk; have := HG.out.2; omega
  have hpt := sput_any (snapN lM nx.upto) (by rw [snapN_length]; decide) (snB nx) (some ⟨g, 0, none⟩) L L w3 h3 hok (by omega) hlen2 hon hhf hLL (Nat.le_refl _) (fun e => by cases e) (Rds.ofWhole hg3)
    (fun ad e _ hh => by obtain rfl := Option.some.inj e; exact Nat.lt_irrefl _ (hgn _ hh)) hne
  obtain ⟨r, hrr⟩ : ∃ r, r = sPut D (snapN lM nx.upto) (snB nx) := ⟨_, rfl⟩
  rw [← hrr] at hpt
  have HRR := Lib.hid hrr
  have HW3 := Lib.hid hw3
  have HB13 := Lib.hid (HB2.out.trans (hb3.mono HB2.out.size))
  clear hfl h3 hw3 hg3 hrr hb3 H2 HW2 HB2
  go_wp2_with fail
  refine hpt.mono ?_
  rintro e w4 ⟨rfl, S4, h4, ht4⟩
  have hT4 : TurnS S T U S4 T U w0 w4 := (TurnS.below (HB1.out.trans (HB13.out.mono HB1.out.size))).trans ht4
  by_cases h0 : r.1 = 0
  · obtain ⟨Ao, co, hs4⟩ := h4.st
    have hst4 : st < w4.heap.size := h4.st.lt st hs4.us
    have k5 := hs4.c5
    have k6 := hs4.c6
    have k7 := hs4.c7
    have hws4 : w.heap.size < w4.heap.size := Nat.lt_of_lt_of_le hws (Nat.le_trans HB13.out.size ht4.outs.size)
    have hstw : st < w.heap.size := hltw st (.inr (.inr hs4.us))
    have hw4 : Whole w4 w.heap.size 48 #[.bool nx.there, .int .u64 nx.upto, .slice A n c] := HW3.out.outs ht4.outs (fun hh => Nat.lt_irrefl _ (hltw _ hh))
    have m0 : w4.cell? ⟨w.heap.size, 0, none⟩ = some (.bool nx.there) := hw4.cell 0
    have m1 : w4.cell? ⟨w.heap.size, 1, none⟩ = some (.int .u64 nx.upto) := hw4.cell 1
    have m2 : w4.cell? ⟨w.heap.size, 2, none⟩ = some (.slice A n c) := hw4.cell 2
    obtain ⟨W5, hW5⟩ : ∃ W5, W5 = w4.alloc (.cells #[.bool X.sn.there, .int .u64 X.sn.upto, .slice Ao X.sn.bs.length co] 48) := ⟨_, rfl⟩
    have hb5 : Below w4.heap.size w4 W5 := by rw [hW5]; exact (Below.refl _ w4).alloc (Nat.le_refl _) _
    have ho5 : Whole W5 w4.heap.size 48 #[.bool X.sn.there, .int .u64 X.sn.upto, .slice Ao X.sn.bs.length co] := by rw [hW5]; exact Whole.new _ _ _
    have hs5 := hs4.go hb5
    have n0 : W5.cell? ⟨w.heap.size, 0, none⟩ = some (.bool nx.there) := (hw4.go hb5).cell 0
    have n1 : W5.cell? ⟨w.heap.size, 1, none⟩ = some (.int .u64 nx.upto) := (hw4.go hb5).cell 1
    have n2 : W5.cell? ⟨w.heap.size, 2, none⟩ = some (.slice A n c) := (hw4.go hb5).cell 2
    have j5 := hs5.c5
    have j6 := hs5.c6
    have j7 := hs5.c7
    have f5 := hs5.fz 5
    have f6 := hs5.fz 6
    have f7 := hs5.fz 7
    have hr5 : Rds W5 W5.heap.size A (c8 nx.bs) := by
      have h1 := (HR.out.below HB.out).more HB.out.size
      have h2 := (h1.below HB13.out).more HB13.out.size
      have h3 := h2.outsW ht4.outs (Nat.le_refl _) (fun ad e _ hh => by have := (hA ad e).1; have := hlt0 _ hh; omega)
      exact (h3.below hb5).more hb5.size
    have hsN := hs5.turn (nx := nx) (c' := c) hr5 (fun ad e => by
      have h1 := hA ad e
      have h2 := hlt0 st (.inr (.inr hs4.us))
      have := hb5.size
      exact ⟨by omega, by omega⟩)
    have hn7 : nx.bs.length = n := hn
    rw [hn7] at hsN
    have hO6 : Outs U W5 (((W5.setCell ⟨st, 5, none⟩ (.bool nx.there)).setCell ⟨st, 6, none⟩ (.int .u64 nx.upto)).setCell ⟨st, 7, none⟩ (.slice A n c)) := (((Outs.refl U W5).setCell (.inl hs4.us) _).setCell (.inl hs4.us) _).setCell (.inl hs4.us) _
    obtain ⟨W6, hW6⟩ : ∃ W6, W6 = ((W5.setCell ⟨st, 5, none⟩ (.bool nx.there)).setCell ⟨st, 6, none⟩ (.int .u64 nx.upto)).setCell ⟨st, 7, none⟩ (.slice A n c) := ⟨_, rfl⟩
    rw [← hW6] at hsN hO6
    have h5 := h4.go hb5
    have hUn : ∀ k, U k → k ≠ w4.heap.size := fun k hk e => by have := h4.st.lt k hk; omega
    have ho6 := ho5.outs hO6 (fun hh => hUn _ hh rfl)
    have hw6 := (hw4.go hb5).outs hO6 (fun hh => by have := hltw _ (.inr (.inr hh)); omega)
    have p0 : W6.cell? ⟨w4.heap.size, 0, none⟩ = some (.bool X.sn.there) := ho6.cell 0
    have p1 : W6.cell? ⟨w4.heap.size, 1, none⟩ = some (.int .u64 X.sn.upto) := ho6.cell 1
    have q1 : W6.cell? ⟨w.heap.size, 1, none⟩ = some (.int .u64 nx.upto) := hw6.cell 1
    have hsd6 : SD W6 S4 T (withA U A) st j d r.2 ⟨X.off, X.J, nx⟩ ∧ TurnS S T U S4 T (withA U A) w0 W6 := by
      have hS4 := h4.jd.dk.lt
      have hTl := h4.jd.jo.lt
      have hnA : ∀ ad, A = some ad → ¬ (S4 ad.block ∨ T ad.block) := fun ad e hh => by
        have h1 := hA ad e
        rcases hh with hh | hh
        · rcases ht4.new _ (.inl hh) with e2 | e2
          · have := hlt0 _ e2; omega
          · have := HB13.out.size; have := HB.out.size; omega
        · have := hlt0 _ (.inr (.inl hh)); omega
      have hT5 : TurnS S T U S4 T U w0 W5 := hT4.trans (TurnS.below hb5)
      have hnew : ∀ k, S4 k ∨ T k ∨ withA U A k → (S k ∨ T k ∨ U k) ∨ w0.heap.size ≤ k := fun k hk => by
        rcases hk with hk | hk | hk | ⟨ad, e, rfl⟩
        · exact hT4.new k (.inl hk)
        · exact hT4.new k (.inr (.inl hk))
        · exact hT4.new k (.inr (.inr hk))
        · exact .inr (hA ad e).1
      have hnU : ∀ k, U k → ¬ S4 k ∧ ¬ T k := h4.dis
      refine ⟨⟨⟨h5.jd.dk.outs hO6 (fun k hk hh => (hnU k hh).1 hk), h5.jd.jo.outs hO6 (fun k hk hh => (hnU k hh).2 hk), h5.jd.dis, h5.jd.s0, h5.jd.t0, h5.jd.pow.outs hO6 (fun hh => (h5.e0 _ (.inr (.inr hh))).2 rfl), h5.jd.nm⟩, ⟨A, c, hsN⟩, fun k hk => ?_, h5.mx.outs hO6 (fun hh => (h5.e0 _ (.inr (.inr hh))).1 rfl), fun k hk => ?_⟩, ⟨hT5.outs.trans hO6 (fun k hk => .inl (.inr (.inr hk))), hnew⟩⟩
      · rcases hk with hk | ⟨ad, e, rfl⟩
        · exact h5.dis k hk
        · exact ⟨fun hh => hnA ad e (.inl hh), fun hh => hnA ad e (.inr hh)⟩
      · rcases hk with hk | hk | hk | ⟨ad, e, rfl⟩
        · exact h5.e0 k (.inl hk)
        · exact h5.e0 k (.inr (.inl hk))
        · exact h5.e0 k (.inr (.inr hk))
        · have h1 := (hA ad e).1
          have h2 := H1.out.mx.lt
          have h3 := H1.out.jd.pow.lt
          exact hbg ad e
    have hdsk : W6.cell? ⟨st, 1, none⟩ = some (.pointer (some ⟨d, 0, none⟩)) := hsd6.1.st.c1
    have HX5 := Lib.hid hW5
    have HX6 := Lib.hid hW6
    have HSD := Lib.hid hsd6
    have hee : (r.1 != 0) = false := by simp [h0]
    clear hpt h4 ht4 hT4 hs4 hw4 hb5 ho5 hs5 hr5 hsN hO6 h5 hUn ho6 hw6 hsd6 hW5 hW6
    rw [h0]
    go_upto_region 8 with fail
    rw [← HX5.out]
    clear k5 k6 k7 m0 m1 m2
    go_upto_region 9 with fail
    rw [← HX6.out]
    clear j5 j6 j7 f5 f6 f7 n0 n1 n2
    by_cases hth : X.sn.there = true
    · rw [hth] at p0
      by_cases hup : X.sn.upto = nx.upto
      · have E := Lib.hid (show sChange D X.sn nx = (0, r.2, nx) by unfold sChange; rw [← HRR.out, if_pos h0, if_pos (.inr hup)])
        rw [hup] at p1
        have hq : ((nx.upto : Int) == (nx.upto : Int)) = true := by simp
        go_wp2
        go_returns
        rw [E.out]
        exact ⟨rfl, S4, withA U A, HSD.out.1, HSD.out.2⟩
      · have E := Lib.hid (show sChange D X.sn nx = ((dRemove r.2 (snapN lM X.sn.upto)).1, (dRemove r.2 (snapN lM X.sn.upto)).2, nx) by unfold sChange; rw [← HRR.out, if_pos h0, if_neg (by rw [hth]; simp [hup])])
        have hq : ((X.sn.upto : Int) == (nx.upto : Int)) = false := by simp; omega
        have hst6 : w4.heap.size < W6.heap.size := World.block_lt_of_cell? _ _ p1
        go_upto_region 11 with fail
        have hS6 : ∀ w', Below W6.heap.size W6 w' → w'.cell? ⟨st, 1, none⟩ = some (.pointer (some ⟨d, 0, none⟩)) ∧ w'.cell? ⟨w4.heap.size, 1, none⟩ = some (.int .u64 X.sn.upto) ∧ Below W6.heap.size W6 w' := fun w' hb =>
          ⟨by rw [hb.cell (World.block_lt_of_cell? _ _ hdsk)]; exact hdsk, by rw [hb.cell (World.block_lt_of_cell? _ _ p1)]; exact p1, hb⟩
        refine wp_region_G 8 (fun w' => w'.cell? ⟨st, 1, none⟩ = some (.pointer (some ⟨d, 0, none⟩)) ∧ w'.cell? ⟨w4.heap.size, 1, none⟩ = some (.int .u64 X.sn.upto) ∧ Below W6.heap.size W6 w') (by kernel_rfl) (by kernel_rfl) (hS6 _ (Below.refl _ _).drew) (fun hSS hst => ?_)
        refine wpAnyG_take (i := 0) (v := ?_) rfl (by kernel_rfl) hst (by kernel_rfl) (by kernel_rfl) (fun _ _ _ h => h) hSS (Or.inl ⟨by rfl, ?_⟩) (fun hst2 => ?_)
        rotate_left
        · (intro w hSw; (try dsimp only at hSw); go_simp; try (with_reducible rfl))
        clear hst; have hst := hst2; clear hst2
        try simp only [Act.put, List.setIfInBounds_toArray, List.set_cons_zero, List.set_cons_succ]
        refine wpAnyG_take (i := 1) (v := ?_) rfl (by kernel_rfl) hst (by kernel_rfl) (by kernel_rfl) (fun _ _ _ h => h) hSS (Or.inl ⟨by rfl, ?_⟩) (fun hst2 => ?_)
        rotate_left
        · (intro w hSw; (try dsimp only at hSw); go_simp; try (with_reducible rfl))
        clear hst; have hst := hst2; clear hst2
        try simp only [Act.put, List.setIfInBounds_toArray, List.set_cons_zero, List.set_cons_succ]
        refine wpAnyG_take (i := 2) (v := ?_) rfl (by kernel_rfl) hst (by kernel_rfl) (by kernel_rfl) (fun _ _ _ h => h) hSS (Or.inl ⟨by rfl, ?_⟩) (fun hst2 => ?_)
        rotate_left
        · (intro w hSw; (try dsimp only at hSw); go_simp; try (with_reducible rfl))
        clear hst; have hst := hst2; clear hst2
        try simp only [Act.put, List.setIfInBounds_toArray, List.set_cons_zero, List.set_cons_succ]
        refine wpAnyG_take (i := 3) (v := ?_) rfl (by kernel_rfl) hst (by kernel_rfl) (by kernel_rfl) (fun _ _ _ h => h) hSS (Or.inl ⟨by rfl, ?_⟩) (fun hst2 => ?_)
        rotate_left
        · (intro w hSw; (try dsimp only at hSw); go_simp; try (with_reducible rfl))
        clear hst; have hst := hst2; clear hst2
        try simp only [Act.put, List.setIfInBounds_toArray, List.set_cons_zero, List.set_cons_succ]
        refine wpAnyG_take (i := 4) (v := ?_) rfl (by kernel_rfl) hst (by kernel_rfl) (by kernel_rfl) (fun _ _ _ h => h) hSS (Or.inl ⟨by rfl, ?_⟩) (fun hst2 => ?_)
        rotate_left
        · (intro w hSw; (try dsimp only at hSw); go_simp; try (with_reducible rfl))
        clear hst; have hst := hst2; clear hst2
        try simp only [Act.put, List.setIfInBounds_toArray, List.set_cons_zero, List.set_cons_succ]
        refine wpAnyG_take (i := 5) (v := ?_) rfl (by kernel_rfl) hst (by kernel_rfl) (by kernel_rfl) (fun _ _ _ h => h) hSS (Or.inl ⟨by rfl, ?_⟩) (fun hst2 => ?_)
        rotate_left
        · (intro w hSw; (try dsimp only at hSw); go_simp; try (with_reducible rfl))
        clear hst; have hst := hst2; clear hst2
        try simp only [Act.put, List.setIfInBounds_toArray, List.set_cons_zero, List.set_cons_succ]
        refine wpAnyG_take (i := 6) (v := ?_) rfl (by kernel_rfl) hst (by kernel_rfl) (by kernel_rfl) (fun _ _ _ h => h) hSS (Or.inl ⟨by rfl, ?_⟩) (fun hst2 => ?_)
        rotate_left
        · (intro w hSw; (try dsimp only at hSw); go_simp; try (with_reducible rfl))
        clear hst; have hst := hst2; clear hst2
        try simp only [Act.put, List.setIfInBounds_toArray, List.set_cons_zero, List.set_cons_succ]
        refine wpAnyG_one (i := 7) (by kernel_rfl) rfl (by kernel_rfl) hst (fun K hK => ?_)
        go_simp
        have b0 : Below W6.heap.size W6 W6.drew := (Below.refl _ W6).drew
        have h60 := HSD.out.1.go b0
        refine (sfile_any X.sn.upto hno W6.drew h60.jd.pow h60.st.c2).mono ?_
        rintro e w9 ⟨rfl, hb9⟩
        have b9 : Below W6.heap.size W6 w9 := b0.trans (hb9.mono b0.size)
        refine hK.out _ _ (hS6 _ b9) (fun hSS2 hst2 => ?_)
        clear hst hK K hSS
        have hst := hst2
        have hSS := hSS2
        clear hst2 hSS2
        try simp only [Act.put, List.setIfInBounds_toArray, List.set_cons_zero, List.set_cons_succ]
        have h9 := HSD.out.1.go b9
        have hokr : Okd r.2 := by rw [HRR.out]; exact sput_okd hok _ _
        have hstr : r.2.steps ≤ D.steps + 50000 := by rw [HRR.out]; exact sput_steps hok _ _ hlen2
        have hrm := removed_half w9 (snapN lM X.sn.upto) (snap_size _) h9.jd.dk (okd_room hokr (by omega)) hokr
        refine wpAnyG_pass (i := 8) (by kernel_rfl) rfl (by kernel_rfl) (fun K hK => ?_)
        go_simp
        refine hrm.mono ?_
        rintro e w10 ⟨rfl, S10, hk10, ht10⟩
        have HD := Lib.hid (h9.disk hk10 ht10)
        have HT9 := Lib.hid (HSD.out.2.trans (TurnS.below b9))
        refine hK.out _ _ ?_
        clear hk10 ht10 hrm h9 h60 b0 b9 hb9 hst hK K hSS hS6
        try simp only [Act.put, List.setIfInBounds_toArray, List.set_cons_zero, List.set_cons_succ]
        refine wpAnyG_last (i := 9) (by kernel_rfl) rfl (by kernel_rfl) (by kernel_rfl) (fun K hK => ?_)
        go_simp
        refine hK.out _ _ ?_
        go_wp2
        go_returns
        rw [E.out]
        exact ⟨rfl, S10, withA U A, HD.out.1, HT9.out.trans HD.out.2⟩
    · have hth2 : X.sn.there = false := by simpa using hth
      have E := Lib.hid (show sChange D X.sn nx = (0, r.2, nx) by unfold sChange; rw [← HRR.out, if_pos h0, if_pos (.inl hth2)])
      rw [hth2] at p0
      go_wp2
      go_returns
      rw [E.out]
      exact ⟨rfl, S4, withA U A, HSD.out.1, HSD.out.2⟩
  · have hne0 : (r.1 != 0) = true := by simpa using h0
    have E := Lib.hid (show sChange D X.sn nx = (r.1, r.2, X.sn) by unfold sChange; rw [← HRR.out, if_neg h0])
    have HF := Lib.hid (And.intro h4 hT4)
    clear hpt h4 ht4 hT4
    go_wp2
    go_returns
    rw [E.out]
    exact ⟨by simp, S4, U, HF.out.1, HF.out.2⟩
end
end Go.Proofs.YtbobakfcmkaijaaGreatDoor
end

section
/- choose: the snapshot with the highest number. -/
namespace Go.Proofs.YtbobakfcmkaijaaGreatDoor
open Go.RowKit Go.Shelf
set_option linter.unusedVariables false
attribute [local go_sem] Oper.semAt_some

section
variable {w w' w2 wr w0 : World} {S T U S' T' U' : Nat → Prop} {st d : Nat} {D D' : Dsk} {xs : List Sn} {off : Bool} {jp : Option Addr} {x : Sn} {A : Option Addr} {c n : Nat} {fs : List Nm} {B0 : Nat}
/-- what stands between two names -/
structure ChoI (w W : World) (B0 st n : Nat) (fs : List Nm) (pre : List (Ib n)) : Prop where
  out : Outs (fun _ => False) w W
  b1 : Whole W B0 27 #[.pointer (some ⟨st, 0, none⟩)]
  b2 : Whole W (B0 + 1) 24 #[.int .i64 0]
  no : ∀ y ∈ pre, noMark (fs.getD (n - 1 - y.1) [])
  sz : w.heap.size + 3 ≤ W.heap.size
theorem ChoI.own {W W' : World} {pre : List (Ib n)} (h : ChoI w W B0 st n fs pre) {B : Nat} (hB : w.heap.size ≤ B) {row : Option Nat} (hg : W.grownBy W' row) (hr : ∀ r, row = some r → B ≤ r ∧ ∃ o : Obj, W.heap[r]? = some o ∧ o.isCells = false) : ChoI w W' B0 st n fs pre :=
  ⟨h.out.own hB hg hr, h.b1.own hg hr, h.b2.own hg hr, h.no, Nat.le_trans h.sz hg.size⟩
theorem ChoI.go {W W' : World} {pre : List (Ib n)} (h : ChoI w W B0 st n fs pre) (hb : Below W.heap.size W W') : ChoI w W' B0 st n fs pre :=
  ⟨h.out.trans (Outs.of hb) (fun _ hk => .inl hk), h.b1.go hb, h.b2.go hb, h.no, Nat.le_trans h.sz hb.size⟩
theorem cell_cells {W : World} {p : Addr} {v : Value} (h : W.cell? p = some v) {o : Obj} (ho : W.heap[p.block]? = some o) : o.isCells = true := by
  unfold World.cell? at h
  rw [ho] at h
  cases o <;> first | rfl | (simp at h)
theorem StAt.ownG {W W' : World} (h : StAt W U st d off jp x A c) {B : Nat} {row : Option Nat} (hg : W.grownBy W' row) (hr : ∀ r, row = some r → B ≤ r ∧ ∃ o : Obj, W.heap[r]? = some o ∧ o.isCells = false) : StAt W' U st d off jp x A c := by
  refine ⟨h.top.own hg hr, fun hne => ?_, h.ub, h.us, fun k hk => Nat.lt_of_lt_of_le (h.lt k hk) hg.size⟩
  obtain ⟨ad, e, hlt, hc⟩ := h.rds hne
  refine ⟨ad, e, Nat.lt_of_lt_of_le hlt hg.size, fun k v hk => ?_⟩
  have h1 := hc k v hk
  rw [World.cell?_of_block (hg.block _ (by rw [blk_add]; exact hlt) (fun e2 => ?_))]
  · exact h1
  · obtain ⟨_, o, ho, hf⟩ := hr _ e2.symm
    rw [cell_cells h1 ho] at hf
    cases hf
theorem StP.ownG {W W' : World} (h : StP W U st d off jp x) {B : Nat} {row : Option Nat} (hg : W.grownBy W' row) (hr : ∀ r, row = some r → B ≤ r ∧ ∃ o : Obj, W.heap[r]? = some o ∧ o.isCells = false) : StP W' U st d off jp x := by
  obtain ⟨A, c, h⟩ := h
  exact ⟨A, c, h.ownG hg hr⟩
/-- the places of a checkpoint that has other bytes, where there are any -/
def withB (U : Nat → Prop) (A : Option Addr) (bs : List Int) : Nat → Prop := fun k => U k ∨ ∃ ad, A = some ad ∧ c8 bs ≠ [] ∧ k = ad.block
theorem StAt.turn2 {nx : Sn} {A' : Option Addr} {c' : Nat} (h : StAt w U st d off jp x A c) (hr : Rds w w.heap.size A' (c8 nx.bs)) (hst : ∀ ad, A' = some ad → c8 nx.bs ≠ [] → ad.block ≠ st ∧ ad.block < w.heap.size) :
    StAt (((w.setCell ⟨st, 5, none⟩ (.bool nx.there)).setCell ⟨st, 6, none⟩ (.int .u64 nx.upto)).setCell ⟨st, 7, none⟩ (.slice A' nx.bs.length c')) (withB U A' nx.bs) st d off jp nx A' c' := by
  have hs : ∀ W : World, ∀ p u, (W.setCell p u).heap.size = W.heap.size := fun W p u => by simp [World.setCell]
  refine ⟨?_, ?_, fun ad e hne => ⟨.inr ⟨ad, e, hne, rfl⟩, (hst ad e hne).1⟩, .inl h.us, fun k hk => ?_⟩
  · have := ((h.top.put 5 (.bool nx.there)).put 6 (.int .u64 nx.upto)).put 7 (.slice A' nx.bs.length c')
    simpa [topS] using this
  · intro hne
    obtain ⟨ad, e, hlt, hcl⟩ := hr hne
    have hab := (hst ad e hne).1
    refine ⟨ad, e, by rw [hs, hs, hs]; exact hlt, fun k u hu => ?_⟩
    rw [World.cell?_of_block (Below.heap_setCell _ ⟨st, 7, none⟩ _ _ (by rw [blk_add]; exact hab)), World.cell?_of_block (Below.heap_setCell _ ⟨st, 6, none⟩ _ _ (by rw [blk_add]; exact hab)), World.cell?_of_block (Below.heap_setCell _ ⟨st, 5, none⟩ _ _ (by rw [blk_add]; exact hab))]
    exact hcl k u hu
  · rw [hs, hs, hs]
    rcases hk with hk | ⟨ad, e, hne, rfl⟩
    · exact h.lt k hk
    · exact (hst ad e hne).2
theorem keeps_below {W W' : World} (hb : Below W.heap.size W W') (B : Nat) : KeepsFrom B W W' := ⟨hb.size, fun k o _ hk _ => (hb.block k (Array.getElem?_eq_some_iff.1 hk).1).trans hk⟩
theorem uptoB_end {k : Nat} (hk : k ≤ n) {pre0 : List (Ib n)} {y : Ib n} (h : uptoB n k = pre0 ++ [y]) : ∀ j, j < y.1 → ∃ z ∈ pre0, z.1 = j := by
  have hv := uptoB_vals hk
  rw [h, List.map_append] at hv
  have hl := congrArg List.length hv
  simp at hl
  intro j hj
  have e1 : pre0.map (·.1) = List.range pre0.length := by
    have := congrArg (List.take pre0.length) hv
    rwa [← hl, List.take_range, Nat.min_eq_left (by omega), List.take_append_of_le_length (by simp), List.take_of_length_le (by simp)] at this
  have e2 : y.1 = pre0.length := by
    have := congrArg (fun l : List Nat => l[pre0.length]?) hv
    simpa [List.getElem?_range, ← hl] using this
  have : j ∈ pre0.map (·.1) := by rw [e1]; exact List.mem_range.2 (by omega)
  obtain ⟨z, hz, e⟩ := List.mem_map.1 this
  exact ⟨z, hz, e⟩

set_option maxHeartbeats 6400000 in
set_option maxRecDepth 100000 in
theorem choose_in (fs : List Nm) (A : Option Addr) (n c g : Nat) (w : World) (hs : StP w U st d false none sn0) (hk : Dk 0 w S d D) (hm : MaxL w) (hok : Okd D) (hoff : D.off = false) (hdis : ∀ k, U k → ¬ S k) (hn : fs.length = n) (hA : 0 < n → A = some ⟨g, 0, none⟩) (hnc : n ≤ c) (hn40 : n ≤ 1099511627776)
    (hg : g < w.heap.size) (hgU : ¬ U g) (hc : ∀ j, j < n → w.cell? ⟨g, j, none⟩ = some (.string (strOf (fs.getD j []))))
    (hcls : ∀ k, k < n → (noMark (fs.getD k []) ∧ (fs.getD k []).length ≤ 900) ∨ ∃ y ∈ xs, fs.getD k [] = snapN lM y.upto)
    (hat : ∀ x ∈ xs, x.there = true ∧ Sok x ∧ ∃ f, find D.files (snapN lM x.upto) = some f ∧ f.bs = snB x)
    (hlast : ∀ i y, y ∈ xs → i < n → fs.getD i [] = snapN lM y.upto → (∀ k, i < k → k < n → noMark (fs.getD k [])) → xs.getLastD sn0 = y) (hnone : (∀ k, k < n → noMark (fs.getD k [])) → xs.getLastD sn0 = sn0) :
    CallsIn Fence.wide 9 Tryz.prog 46 #[.pointer (some ⟨st, 0, none⟩), .slice A n c] w fun e w' => e = .returned (.int .i64 0) ∧ ∃ U', StP w' U' st d false none (xs.getLastD sn0) ∧ Outs U w w' ∧ ∀ k, U' k → U k ∨ w.heap.size ≤ k := by
  refine callsIn_of_wp_marks Tryz.func46 rfl trivial ?_ rfl
  simp only [Tryz.ntmps46, List.size_toArray, List.length_cons, List.length_nil, Nat.reduceAdd, Nat.reduceSub, Array.replicate_succ, Array.replicate_zero, List.push_toArray, List.append_toArray, List.nil_append, List.cons_append]
  gi_wp2_with fail
  refine ⟨trivial, ?_⟩
  refine (callsIn_wide.2 (backward_any A n c _)).mono ?_
  rintro e w3 ⟨rfl, hw3⟩
  have hb3 : Below w.heap.size w w3 := by rw [hw3]; exact (((Below.refl _ w).alloc (Nat.le_refl _) _).alloc (by simp) _).alloc (by simp; omega) _
  have hsz3 : w3.heap.size = w.heap.size + 3 := by rw [hw3]; simp
  have x1 : Whole w3 w.heap.size 27 #[.pointer (some ⟨st, 0, none⟩)] := by rw [hw3]; exact ((Whole.new w _ _).alloc _).alloc _
  have x2 : Whole w3 (w.heap.size + 1) 24 #[.int .i64 0] := by
    rw [hw3]
    have := Whole.new (w.alloc (.cells #[.pointer (some ⟨st, 0, none⟩)] 27)) 24 #[.int .i64 0]
    rw [World.size_alloc] at this
    exact this.alloc _
  have x3 : Whole w3 (w.heap.size + 2) 60 #[.slice A n c] := by
    rw [hw3]
    have := Whole.new ((w.alloc (.cells #[.pointer (some ⟨st, 0, none⟩)] 27)).alloc (.cells #[.int .i64 0] 24)) 60 #[.slice A n c]
    rw [World.size_alloc, World.size_alloc] at this
    exact this
  have hlen : ∀ l f, find D.files l = some f → f.bs.length ≤ 1073741824 := fun l f hf => len30 hok l f hf
  have hI0 : ChoI w w3 w.heap.size st n fs [] := ⟨Outs.of hb3, x1, x2, (fun y hy => by cases hy), by omega⟩
  have hc3 : ∀ j, j < n → w3.cell? ⟨g, j, none⟩ = some (.string (strOf (fs.getD j []))) := fun j hj => by rw [hb3.cell (p := ⟨g, j, none⟩) hg]; exact hc j hj
  clear hw3
  gi_wp2_with fail
  have hsize : (w.alloc (.cells #[.pointer (some ⟨st, 0, none⟩)] 27)).heap.size + 1 = w.heap.size + 2 := by simp
  refine wpIn_rangeFunc_ownH (F := Fence.wide) (α := Ib n) rfl (by decide) (gf := 99) (lb := #[.pointer (some ⟨w.heap.size + 2, 0, none⟩)]) (by first | rfl | simp) trivial (enters_of Tryz.func99 (by kernel_rfl) rfl)
    (back_stops 8 (by decide) fs (w.heap.size + 2) g n c A hA hnc hn40 w3 x3 (fun _ => by omega) hc3) (fun h k => ⟨k.1.trans h.1, k.2.trans h.2⟩)
    (fun W l o o' hl _ _ _ => ⟨World.putObj_heap_other (by omega), World.putObj_heap_other (by omega)⟩) (Below.refl _ _) (fun _ => rfl)
    (fun pre W => ChoI w W w.heap.size st n fs pre)
    (fun j pre W => j = .ret ∧ ∃ pre0 x y U', pre = pre0 ++ [x] ∧ (∀ z ∈ pre0, noMark (fs.getD (n - 1 - z.1) [])) ∧ y ∈ xs ∧ fs.getD (n - 1 - x.1) [] = snapN lM y.upto ∧ StP W U' st d false none y ∧ Outs U w W ∧ (∀ k, U' k → U k ∨ w.heap.size ≤ k) ∧ Whole W (w.heap.size + 1) 24 #[.int .i64 0])
    (fun pre X Y row hs hg hr => hs.own hb3.size hg hr)
    (fun j pre X Y row hs hg hr => by
      obtain ⟨h0, pre0, x, y, U', h1, h2, h3, h4, h5, h6, h7, h8⟩ := hs
      exact ⟨h0, pre0, x, y, U', h1, h2, h3, h4, h5.ownG hg hr, h6.own hb3.size hg hr, h7, h8.own hg hr⟩)
    hI0
    (fun x a' W => ∃ tx, tx = strOf (fs.getD (n - 1 - x.1) []) ∧ a' = { tmps := #[.pointer (some ⟨st, 0, none⟩), .slice A n c, .pointer (some ⟨w.heap.size, 0, none⟩), undef, .pointer (some ⟨w.heap.size + 1, 0, none⟩), undef, .string tx, undef, undef, undef, undef, undef, .slice A n c,
      .func (.func 99) #[] #[.pointer (some ⟨w.heap.size + 1 + 1, 0, none⟩)], .int .i64 ((n - 1 - x.1 : Nat) : Int), .string tx, undef, undef, undef, undef, undef, undef, undef, undef, undef, undef, undef, undef, undef, undef, undef, undef, undef, undef, undef, undef, undef, undef, undef, undef, undef, undef, undef, undef, undef, undef, undef, undef, undef, undef], defers := [] })
    (fun x a' _ X Y row hs hg hr => hs)
    ?assign ?body ?done ?stop
  case assign =>
    intro l pre x W K hi hK
    dsimp only [encT6]
    gi_wp2
    exact hK _ _ (KeepsFrom.refl _ _) ⟨rfl, rfl⟩ hi ⟨strOf (fs[n - 1 - x.1]?.getD []), by rw [List.getD_eq_getElem?_getD], rfl⟩
  case body =>
    rintro l pre x a' W hl ⟨r, hrl⟩ hI ⟨tx, htx, rfl⟩ hlt
    have cB : W.cell? ⟨w.heap.size, 0, none⟩ = some (.pointer (some ⟨st, 0, none⟩)) := hI.b1.cell 0
    have hmW := hm.outs hI.out (fun h => h)
    have hsW := hs.outs hI.out (fun _ _ h => h)
    have hkW := hk.outs hI.out (fun _ _ h => h)
    have hin : n - 1 - x.1 < n := by have := x.2; omega
    have hsz := hI.out.size
    have hB2 := hI.sz
    have HTX := Lib.hid htx
    have HI := Lib.hid hI
    have HIN := Lib.hid hin
    clear htx hI hin
    rcases hcls _ HIN.out with ⟨hno, hle⟩ | ⟨y, hy, hye⟩
    · have hnum := snumber_no (st := st) (w := W) tx (by rw [HTX.out, strOf_sz]; omega) hmW (by rw [HTX.out, show (strOf (fs.getD (n - 1 - x.1) [])).data.toList = fs.getD (n - 1 - x.1) [] from lst_strOf _]; exact hno)
      gi_wp2_with fail
      refine ⟨trivial, ?_⟩
      refine (CallsIn.inRound l (callsIn_wide.2 hnum)).mono ?_
      rintro e W' ⟨rfl, hb⟩
      have hI2 := HI.out.go hb
      have hno2 : ∀ z ∈ pre ++ [x], noMark (fs.getD (n - 1 - z.1) []) := fun z hz => by
        rcases List.mem_append.1 hz with hz | hz
        · exact hI2.no z hz
        · obtain rfl := List.mem_singleton.1 hz
          exact hno
      gi_wp2
      exact ⟨keeps_below hb _, ⟨hb.block _ (by omega), hb.block _ (by omega)⟩, (⟨hI2.out, hI2.b1, hI2.b2, hno2, hI2.sz⟩ : ChoI w W' w.heap.size st n fs (pre ++ [x]))⟩
    · rw [hye] at HTX
      have htx := HTX.out
      subst htx
      obtain ⟨hyt, hyok, f, hf, hfb⟩ := hat y hy
      have hnum := snumber_snap (st := st) (w := W) y.upto hyok.no hmW hsW.c2
      have hrd := fun W2 (hb : Below W.heap.size W W2) => read_any (strOf (snapN lM y.upto)) (snap_size _) W2 (hkW.go hb) hlen
      rw [show dRead D (lst (strOf (snapN lM y.upto))) = (snB y, 0) by rw [lst_strOf, read_found hoff (okN_snap _) hf]; simp [byts, hf, hfb]] at hrd
      have c1 := hsW.c1
      have HS := Lib.hid hsW
      have HYE := Lib.hid hye
      clear hye hf hfb
      gi_wp2_with fail
      refine ⟨trivial, ?_⟩
      refine (CallsIn.inRound l (callsIn_wide.2 hnum)).mono ?_
      rintro e W1 ⟨rfl, hb1⟩
      have c11 : W1.cell? ⟨st, 1, none⟩ = some (.pointer (some ⟨d, 0, none⟩)) := (HS.out.go hb1).c1
      have cB1 : W1.cell? ⟨w.heap.size, 0, none⟩ = some (.pointer (some ⟨st, 0, none⟩)) := (HI.out.go hb1).b1.cell 0
      have hrd1 := hrd W1 hb1
      clear hrd hnum
      gi_wp2_with fail
      refine ⟨trivial, ?_⟩
      refine (CallsIn.inRound l (callsIn_wide.2 hrd1)).mono ?_
      rintro e W2 ⟨v, rfl, hown, hb2⟩
      obtain ⟨Av, cv, rfl⟩ := row_any hown
      have hLc : (snB y).length ≤ cv := by
        obtain ⟨g2, c2, e2, _, h3, _⟩ := row_block hown (by rw [snB_len]; omega)
        injection e2 with _ _ e3
        omega
      have hunf := fun (L : Nat) (hL : (snB y).length = L) => unframed_any y hyok Av L cv W2 hL (by omega) (Rds.ofOwn hown)
      obtain ⟨L, hL⟩ : ∃ L, (snB y).length = L := ⟨_, rfl⟩
      have hunf := hunf L hL
      rw [hL]
      have hb12 : Below W.heap.size W W2 := hb1.trans (hb2.mono hb1.size)
      have cB2 : W2.cell? ⟨w.heap.size, 0, none⟩ = some (.pointer (some ⟨st, 0, none⟩)) := (HI.out.go hb12).b1.cell 0
      clear hown hb2 hrd1 hL hLc c1 cB c11 cB1
      have HB12 := Lib.hid hb12
      have HB1 := Lib.hid hb1
      clear hb1 hb12
      gi_wp2_with fail
      refine ⟨trivial, ?_⟩
      refine (CallsIn.inRound l (callsIn_wide.2 hunf)).mono ?_
      rintro e W3 ⟨A3, c3, rfl, hr3, hA3, hb3'⟩
      have hb03 : Below W.heap.size W W3 := HB12.out.trans (hb3'.mono HB12.out.size)
      obtain ⟨W4, hW4⟩ : ∃ W4, W4 = W3.alloc (.cells #[.bool true, .int .u64 y.upto, .slice A3 y.bs.length c3] 48) := ⟨_, rfl⟩
      have hb34 : Below W3.heap.size W3 W4 := by rw [hW4]; exact (Below.refl _ W3).alloc (Nat.le_refl _) _
      have hb04 : Below W.heap.size W W4 := hb03.trans (hb34.mono hb03.size)
      have q4 : Whole W4 W3.heap.size 48 #[.bool true, .int .u64 y.upto, .slice A3 y.bs.length c3] := by rw [hW4]; exact Whole.new _ _ _
      have cB4 : W4.cell? ⟨w.heap.size, 0, none⟩ = some (.pointer (some ⟨st, 0, none⟩)) := (HI.out.go hb04).b1.cell 0
      obtain ⟨A0, c0, cS4⟩ := HS.out.go hb04
      have hz : Whole W4 (w.heap.size + 1) 24 #[.int .i64 0] := (HI.out.go hb04).b2
      have k0 : W4.cell? ⟨W3.heap.size, 0, none⟩ = some (.bool true) := q4.cell 0
      have k1 : W4.cell? ⟨W3.heap.size, 1, none⟩ = some (.int .u64 y.upto) := q4.cell 1
      have k2 : W4.cell? ⟨W3.heap.size, 2, none⟩ = some (.slice A3 y.bs.length c3) := q4.cell 2
      have k5 := cS4.c5
      have k6 := cS4.c6
      have k7 := cS4.c7
      have f5 := cS4.fz 5
      have f6 := cS4.fz 6
      have f7 := cS4.fz 7
      have hz0 : W4.cell? ⟨w.heap.size + 1, 0, none⟩ = some (.int .i64 0) := hz.cell 0
      have hst1 : w.heap.size + 1 ≠ st := by
        have := hs.lt st hs.us
        omega
      have hst2 : st ≠ w.heap.size + 1 := Ne.symm hst1
      have fz1 : W4.frozen? ⟨w.heap.size + 1, 0, none⟩ = false := hz.frozen 0
      have HQ := Lib.hid (And.intro hb34 (And.intro hb04 (And.intro hr3 (And.intro hA3 (And.intro cS4 hz)))))
      have HB3 := Lib.hid hb3'
      subst hW4
      clear hb34 hb03 hb04 q4 hr3 hA3 cS4 hb3' hunf cB2 hz
      gi_wp2
      obtain ⟨hb34, hb04, hr3, hA3, cS4, hz⟩ := HQ.out
      have hsz2 := HB12.out.size
      have hUlt := hs.lt
      have hI := HI.out
      have hsz0 := hI.sz
      have hszW4 := hb04.size
      have h3lt : ∀ ad, A3 = some ad → c8 y.bs ≠ [] → ad.block ≠ st ∧ ad.block < (W3.alloc (.cells #[.bool true, .int .u64 y.upto, .slice A3 y.bs.length c3] 48)).heap.size := fun ad e hne => by
        have h1 := hA3 ad e hne
        obtain ⟨ad', e', h2, _⟩ := hr3 hne
        obtain rfl := Option.some.inj (e.symm.trans e')
        have h3 := hUlt st hs.us
        have h4 := hb34.size
        exact ⟨by omega, by omega⟩
      have hturn := cS4.turn2 (nx := y) (A' := A3) (c' := c3) ((hr3.below hb34).more hb34.size) h3lt
      rw [hyt] at hturn
      have hUn : ∀ k, withB U A3 y.bs k → U k ∨ w.heap.size + 3 ≤ k := fun k hk => by
        rcases hk with hk | ⟨ad, e, hne, rfl⟩
        · exact .inl hk
        · have := hA3 ad e hne
          exact .inr (by omega)
      have hfar : ∀ k, withB U A3 y.bs k → ¬ (k = w.heap.size + 1) := fun k hk e => by
        rcases hUn k hk with h | h
        · have := hUlt k h
          omega
        · omega
      have ho0 : Outs U w W := hI.out.mono fun _ hh => hh.elim
      have ho1 : Outs U w (W3.alloc (.cells #[.bool true, .int .u64 y.upto, .slice A3 y.bs.length c3] 48)) := ho0.trans (Outs.of hb04) (fun _ hk => .inl hk)
      have ho2 := (((ho1.setCell (p := ⟨st, 5, none⟩) (.inl hs.us) (.bool true)).setCell (p := ⟨st, 6, none⟩) (.inl hs.us) (.int .u64 y.upto)).setCell (p := ⟨st, 7, none⟩) (.inl hs.us) (.slice A3 y.bs.length c3)).setCell (p := ⟨w.heap.size + 1, 0, none⟩) (.inr (by show w.heap.size ≤ w.heap.size + 1; omega)) (.int .i64 0)
      refine ⟨((((keeps_below hb04 _).trans ((KeepsOthers.setCell _ _ _).from _)).trans ((KeepsOthers.setCell _ _ _).from _)).trans ((KeepsOthers.setCell _ _ _).from _)).trans ((KeepsOthers.setCell _ _ _).from _), rfl, pre, x, y, withB U A3 y.bs, rfl, hI.no, hy, HYE.out, ⟨A3, c3, ?_⟩, ho2, fun k hk => ?_, ?_⟩
      · exact hturn.outs (V := fun k => k = w.heap.size + 1) ((Outs.refl (fun k => k = w.heap.size + 1) _).setCell (p := ⟨w.heap.size + 1, 0, none⟩) (.inl rfl) _) hfar
      · rcases hUn k hk with h | h
        · exact .inl h
        · exact .inr (by omega)
      · have z1 := ((hz.far (p := ⟨st, 5, none⟩) hst1 (.bool true)).far (p := ⟨st, 6, none⟩) hst1 (.int .u64 y.upto)).far (p := ⟨st, 7, none⟩) hst1 (.slice A3 y.bs.length c3)
        simpa using z1.put 0 (.int .i64 0)
  case done =>
    rintro D' ys W hD rfl hI hK
    have d2 : W.cell? ⟨w.heap.size + 1, 0, none⟩ = some (.int .i64 0) := hI.b2.cell 0
    have df : W.frozen? ⟨w.heap.size + 1, 0, none⟩ = false := hI.b2.frozen 0
    have hx : xs.getLastD sn0 = sn0 := hnone fun k hk => by
      have hv := uptoB_vals (Nat.le_refl n)
      have hm : n - 1 - k ∈ (uptoB n n).map (·.1) := by rw [hv]; exact List.mem_range.2 (by omega)
      obtain ⟨z, hz, e⟩ := List.mem_map.1 hm
      have := hI.no z hz
      rwa [e, show n - 1 - (n - 1 - k) = k by omega] at this
    have HI := Lib.hid hI
    have HXX := Lib.hid hx
    clear hI hx
    gi_wp2
    have hI := HI.out
    have hI1 : Whole (W.setCell ⟨w.heap.size + 1, 0, none⟩ (.int .i64 0)) (w.heap.size + 1) 24 #[.int .i64 0] := by simpa using hI.b2.put 0 (.int .i64 0)
    have hK2 : (W.setCell ⟨w.heap.size + 1, 0, none⟩ (.int .i64 0)).heap[D']? = some (.deferred (some [])) := (KeepsOthers.setCell W ⟨w.heap.size + 1, 0, none⟩ (.int .i64 0)).same D' _ hK rfl
    refine ⟨by simp, .inl ⟨_, _, rfl, run_takeDeferred hK2, ?_⟩⟩
    have hgr := grownBy_putObj' (W.setCell ⟨w.heap.size + 1, 0, none⟩ (.int .i64 0)) D' (.deferred none)
    have hrr : ∀ r, some D' = some r → w3.heap.size ≤ r ∧ ∃ o : Obj, (W.setCell ⟨w.heap.size + 1, 0, none⟩ (.int .i64 0)).heap[r]? = some o ∧ o.isCells = false := fun r e => by cases e; exact ⟨hD, _, hK2, rfl⟩
    have hI2 := hI1.own hgr hrr
    have ho2 : Outs (fun _ => False) w ((W.setCell ⟨w.heap.size + 1, 0, none⟩ (.int .i64 0)).putObj D' (.deferred none)) := (hI.out.setCell (p := ⟨w.heap.size + 1, 0, none⟩) (.inr (by show w.heap.size ≤ w.heap.size + 1; omega)) _).own hb3.size hgr hrr
    have hcell : ((W.setCell ⟨w.heap.size + 1, 0, none⟩ (.int .i64 0)).putObj D' (.deferred none)).cell? ⟨w.heap.size + 1, 0, none⟩ = some (.int .i64 0) := hI2.cell 0
    refine ⟨.int .i64 0, by simp [results, Tryz.results46, go_sem, hcell], rfl, U, ?_, ho2.mono fun _ hh => hh.elim, fun k hk => .inl hk⟩
    rw [HXX.out]
    exact hs.outs ho2 (fun _ _ h => h)
  case stop =>
    rintro D' j pre W hD ⟨k, hk, rfl⟩ ⟨rfl, pre0, x, y, U', e, hno, hy, hye, hst, ho, hn', hz⟩ hK
    have hx : xs.getLastD sn0 = y := hlast (n - 1 - x.1) y hy (by have := x.2; omega) hye fun k' h1 h2 => by
      obtain ⟨z, hz, ez⟩ := uptoB_end hk e (n - 1 - k') (by have := x.2; omega)
      have := hno z hz
      rwa [ez, show n - 1 - (n - 1 - k') = k' by omega] at this
    have HXX := Lib.hid hx
    have HE := Lib.hid e
    clear hx e
    gi_wp2
    refine ⟨by simp, .inl ⟨_, _, rfl, run_takeDeferred hK, ?_⟩⟩
    have hgr := grownBy_putObj' W D' (.deferred none)
    have hrr : ∀ r, some D' = some r → w3.heap.size ≤ r ∧ ∃ o : Obj, W.heap[r]? = some o ∧ o.isCells = false := fun r e => by cases e; exact ⟨hD, _, hK, rfl⟩
    have hI2 := hz.own hgr hrr
    have hcell : (W.putObj D' (.deferred none)).cell? ⟨w.heap.size + 1, 0, none⟩ = some (.int .i64 0) := hI2.cell 0
    refine ⟨.int .i64 0, by simp [results, Tryz.results46, go_sem, hcell], rfl, U', ?_, ho.own hb3.size hgr hrr, hn'⟩
    rw [HXX.out]
    exact hst.ownG hgr hrr
end
end Go.Proofs.YtbobakfcmkaijaaGreatDoor
end
