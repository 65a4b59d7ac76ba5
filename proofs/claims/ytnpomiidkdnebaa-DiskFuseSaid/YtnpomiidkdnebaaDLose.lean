/- A file loses bytes; the program's Crash. -/
import Derived.Test.YtnpomiidkdnebaaDNeg
import Derived.Deep.RegionWith
namespace Go.Proofs.Ytnpomiidkdnebaa
open Go.RowKit Go.Maps Go.WideMaps
set_option linter.unusedVariables false

def goneOf (f : Fl) (k : Int) : Nat := f.bs.length - keptOf f k
theorem kept_le {f : Fl} (h : f.sy ≤ f.bs.length) {k : Int} : keptOf f k ≤ f.bs.length := by
  unfold keptOf
  omega
theorem used_cut {fs : List Fl} (hs : Srt fs) {l : Nm} {f : Fl} (hf : find fs l = some f) (hsy : f.sy ≤ f.bs.length) (k : Int) : used (upd l (fun f => cutTo f k) fs) + goneOf f k = used fs := by
  induction fs with
  | nil => simp [find] at hf
  | cons g r ih =>
    obtain ⟨h1, h2⟩ := List.pairwise_cons.1 hs
    unfold find at hf
    rw [List.find?_cons] at hf
    by_cases hg : g.nm = l
    · have hr : find r l = none := by
        refine List.find?_eq_none.2 fun a ha => ?_
        have := nm_lt_ne (h1 a ha)
        rw [hg] at this
        simpa using this.symm
      rw [show (g.nm == l) = true by simpa using hg] at hf
      obtain rfl := Option.some.inj hf
      have e : upd l (fun f => cutTo f k) (g :: r) = cutTo g k :: r := by
        have := upd_none hr (fun f => cutTo f k)
        unfold upd at this ⊢
        rw [List.map_cons, if_pos hg, this]
      rw [e, used_cons, used_cons]
      have := kept_le hsy (k := k)
      simp only [cutTo, List.length_take, goneOf]
      omega
    · rw [show (g.nm == l) = false by simpa using hg] at hf
      have := ih h2 hf
      have e : upd l (fun f => cutTo f k) (g :: r) = g :: upd l (fun f => cutTo f k) r := by
        unfold upd
        rw [List.map_cons, if_neg hg]
      rw [e, used_cons, used_cons]
      omega

section
variable {S : Nat → Prop} {d mb nn : Nat} {M : DataW Unit} {blk : Nm → Nat} {vs : Nm → Value} {D : Dsk}

set_option maxHeartbeats 2000000 in
set_option maxRecDepth 5000 in
theorem lose_any {l : Nm} {f : Fl} (k : Int) (hk0 : 0 ≤ k) (hk1 : k ≤ 9223372036854775807) (w : World) (h : DkAt w S d mb nn M blk vs D) (hok : Okd D) (hf : find D.files l = some f) :
    Calls Try.prog 44 #[.pointer (some ⟨blk l, 0, none⟩), .int .i64 k] w fun e w' => e = .returned (.int .i64 (goneOf f k)) ∧ ∃ vs', DkAt w' (More S w w') d mb nn M blk vs' { D with files := upd l (fun f => cutTo f k) D.files, room := D.room - goneOf f k } ∧ Turn S (More S w w') w w' := by
  obtain ⟨hmem, hnm⟩ := find_some hf
  have hsy := hok.sy f hmem
  have hkl := kept_le hsy (k := k)
  obtain ⟨hW, hR⟩ := h.fil l f hf
  obtain ⟨A, c, hv, hr, hnc, hcm, hA0⟩ := own_open hR
  have hu := used_cut hok.srt hf hsy k
  have hn30 : f.bs.length ≤ 1073741824 := by
    have h1 := used_del hok.srt hf
    have := hok.fits
    have := hok.room
    omega
  have hgl : goneOf f k ≤ D.room := by
    have := hok.fits
    omega
  have hroom := hok.fits
  have w0 : w.cell? ⟨blk l, 0, none⟩ = some (.slice A f.bs.length c) := by rw [← hv]; exact hW.cell 0
  have w1 : w.cell? ⟨blk l, 1, none⟩ = some (.int .i64 f.sy) := hW.cell 1
  -- what it comes to
  have hfin : ∀ n w2 v, w2.ownsRow w.heap.size 5 1 v (keptOf f k) (c8 (f.bs.take (keptOf f k))) → Below w.heap.size (w.drewN n) w2 →
      w2.cell? ⟨blk l, 0, none⟩ = some (.slice A f.bs.length c) ∧ w2.cell? ⟨blk l, 1, none⟩ = some (.int .i64 f.sy) ∧ w2.frozen? ⟨blk l, 0, none⟩ = false ∧ w2.frozen? ⟨blk l, 1, none⟩ = false ∧
      ∃ vs', DkAt ((w2.setCell ⟨blk l, 0, none⟩ v).setCell ⟨blk l, 1, none⟩ (.int .i64 (keptOf f k))) (More S w ((w2.setCell ⟨blk l, 0, none⟩ v).setCell ⟨blk l, 1, none⟩ (.int .i64 (keptOf f k)))) d mb nn M blk vs' { D with files := upd l (fun f => cutTo f k) D.files, room := D.room - goneOf f k } ∧ Turn S (More S w ((w2.setCell ⟨blk l, 0, none⟩ v).setCell ⟨blk l, 1, none⟩ (.int .i64 (keptOf f k)))) w ((w2.setCell ⟨blk l, 0, none⟩ v).setCell ⟨blk l, 1, none⟩ (.int .i64 (keptOf f k))) := by
    intro n w2 v ho hb
    have hb' : Below w.heap.size w w2 := ⟨hb.os, hb.tape, hb.output, hb.size, hb.block⟩
    have hW2 := hW.below hb' hW.lt
    refine ⟨by rw [← hv]; exact hW2.cell 0, hW2.cell 1, hW2.frozen 0, hW2.frozen 1, (fun x => if x = l then v else vs x), ?_, ⟨?_, more_new⟩⟩
    · have hlen : (f.bs.take (keptOf f k)).length = keptOf f k := by rw [List.length_take]; omega
      refine h.turnFile hf (fun f => cutTo f k) (fun _ => rfl) v _ rfl (by have := hb'.size; simp [World.setCell]; exact this) ?_ ?_ ?_ ?_ (.inr fun g hg => (ownRow_block ho hg).1)
      · intro q hq h1 h2 h3
        rw [Below.heap_setCell _ _ _ _ h2, Below.heap_setCell _ _ _ _ h2]
        exact hb'.block q hq
      · have e : topCells d mb { D with files := upd l (fun f => cutTo f k) D.files, room := D.room - goneOf f k } = topCells d mb D := by
          simp only [topCells, left]
          congr 5
          omega
        rw [e]
        exact ((h.top.below hb' (h.lt _ h.sd)).far (p := ⟨blk l, 0, none⟩) (h.ne_blk hf).symm _).far (p := ⟨blk l, 1, none⟩) (h.ne_blk hf).symm _
      · exact (hW2.put 0 v).put 1 _
      · simp only [cutTo, hlen]
        have hne : ∀ g, v.ownBlock = some g → g ≠ blk l := fun g hg e => by have := (ownRow_block ho hg).1; have := h.blt hf; omega
        refine ownRow_block_kept (ownRow_base ho (fun _ _ => Nat.zero_le _)) fun g hg => ?_
        rw [Below.heap_setCell _ _ _ _ (hne g hg), Below.heap_setCell _ _ _ _ (hne g hg)]
    · exact (((Outs.of hb').setCell (p := ⟨blk l, 0, none⟩) (.inl (h.sb l f hf).1) _).setCell (p := ⟨blk l, 1, none⟩) (.inl (h.sb l f hf).1) _)
  have HF := Lib.hid hfin
  have hcl : ∀ n, Calls Try.prog 45 #[.slice A (keptOf f k : Nat) c] (w.drewN n) _ := fun n => dclone_any A (keptOf f k) c (f.bs.take (keptOf f k)) (w.drewN n) (by rw [List.length_take]; omega) (by omega) (by
    have := hr.take (keptOf f k)
    rw [show c8 (f.bs.take (keptOf f k)) = (c8 f.bs).take (keptOf f k) by simp [c8, List.map_take]]
    exact this)
  have hcl' := Lib.hid hcl
  clear hcl
  have hgo : goneOf f k = f.bs.length - keptOf f k := rfl
  have hke : (keptOf f k : Int) = f.sy + min k ((f.bs.length : Int) - f.sy) := by unfold keptOf; omega
  clear hfin hv hR hr hW hu hroom hgl
  generalize goneOf f k = G at *
  generalize keptOf f k = K at *
  generalize hN : f.bs.length = N at *
  generalize hY : f.sy = Y at *
  generalize blk l = bk at *
  have HK := Lib.hid hke
  have HG := Lib.hid hgo
  have hg2 : (N : Int) - K = G := by omega
  clear hke hgo h hok
  go_enter Try.func44, Try.ntmps44
  go_wp2
  go_region
  rw [← HK.out]
  have hkn : (K : Int) ≤ N := by omega
  have hkc : (K : Int) ≤ c := by omega
  go_wp2_with fail
  refine (hcl'.out 1).mono ?_
  rintro e w2 ⟨v, rfl, ho, hb⟩
  obtain ⟨A', c', rfl, _, _, _, _⟩ := own_open ho
  obtain ⟨p0, p1, q0, q1, hfin⟩ := HF.out 1 w2 _ ho hb
  have HFin := Lib.hid hfin
  clear hfin ho hb hcl' HF
  go_wp2
  go_returns
  exact ⟨by simp, HFin.out⟩
end
end Go.Proofs.Ytnpomiidkdnebaa
