/- The letters in flight, told. -/
import Derived.Test.YtkoalpbognpphaaNTo
import Derived.Maps.AppendAt
namespace Go.Proofs.Ytkoalpbognpphaa
open Go.RowKit Go.Maps
set_option linter.unusedVariables false

theorem infoL : (Try.prog.info? 32).map (fun i => (i.zero, i.size, i.bytes)) = some (some zeroL, 5, 56) := by kernel_rfl
/-- a letter's cells -/
def cL (p : Le × Pl) : List Value := [.int .u64 p.1.num, .int .u64 p.1.first, .int .i64 p.1.frm, .int .i64 p.1.to_, .slice p.2.1 p.1.body.length p.2.2]
/-- letters' cells -/
def cLs (ps : List (Le × Pl)) : List Value := ps.flatMap cL
theorem cLs_length (ps : List (Le × Pl)) : (cLs ps).length = ps.length * 5 := by
  induction ps with
  | nil => rfl
  | cons p ps ih => simp only [cLs, List.flatMap_cons, List.length_append, List.length_cons] at *; rw [ih]; simp [cL]; omega
theorem five_new (w : World) (t : TypeId) (c0 c1 c2 c3 c4 : Value) : ∀ j u, [c0, c1, c2, c3, c4][j]? = some u → (w.alloc (.cells #[c0, c1, c2, c3, c4] t)).cell? ((⟨w.heap.size, 0, none⟩ : Addr).add j) = some u := fun j u hj => by
  have hadd : (⟨w.heap.size, 0, none⟩ : Addr).add j = ⟨w.heap.size, j, none⟩ := by unfold Addr.add; split <;> simp_all
  rw [hadd, (Whole.new w t #[c0, c1, c2, c3, c4]).cell j]
  simpa using hj

/-- what Flight keeps: the letters told so far -/
structure Fl (B : Nat) (w1 wr : World) (v : Value) (ps : List (Le × Pl)) (n : Nat) : Prop where
  row : wr.ownsRow B 32 5 v n (cLs ps)
  len : ps.length = n
  bd : ∀ p ∈ ps, Bd wr (fun i => B ≤ i ∧ v.ownBlock ≠ some i) p.1.body p.2
  below : Below B w1 wr
theorem Fl.go {B : Nat} {w1 wr w2 : World} {v : Value} {ps : List (Le × Pl)} {n : Nat} (h : Fl B w1 wr v ps n) (hB : B ≤ wr.heap.size) (hb : Below wr.heap.size wr w2) : Fl B w1 w2 v ps n :=
  ⟨h.row.kept (grown_of_below hb) (by cases v.ownBlock <;> simp), h.len, fun p hp => (h.bd p hp).outs (T := fun _ => False) (Outs.of hb) (fun _ _ e => e), h.below.trans (hb.mono hB)⟩

theorem Fl.push {B : Nat} {w1 wr w4 w5 : World} {u v : Value} {ps : List (Le × Pl)} {n : Nat} {x : Le} {k' : Pl} {o : Obj} (h : Fl B w1 w4 u ps n) (hr : ∀ g, u.ownBlock = some g → g < wr.heap.size) (hs : wr.heap.size ≤ w4.heap.size) (hB : B ≤ wr.heap.size)
    (hrow : w5.ownsRow B 32 5 v (n + 1) (cLs ps ++ cL (x, k'))) (hg : (w4.alloc o).grownBy w5 u.ownBlock) (hat : v.ownBlock = u.ownBlock ∨ v.ownBlock = some (w4.alloc o).heap.size) (hbd : Bd w4 (fun i => wr.heap.size ≤ i) x.body k') : Fl B w1 w5 v (ps ++ [(x, k')]) (n + 1) := by
  have hout : Outs (fun i => u.ownBlock = some i) w4 w5 := ((Outs.refl _ w4).alloc o).grown hg (fun k hk => .inl hk)
  have hsz : (w4.alloc o).heap.size = w4.heap.size + 1 := by simp
  refine ⟨?_, by simp [h.len], fun p hp => ?_, (h.below.alloc (by omega) o).grown hg (by omega) (fun k hk => (h.row.lt k hk).1)⟩
  · have e : cLs (ps ++ [(x, k')]) = cLs ps ++ cL (x, k') := by simp [cLs]
    rw [e]; exact hrow
  · rcases List.mem_append.1 hp with hp | hp
    · refine ((h.bd p hp).within.outs hout (fun i hi e => hi.1.2 e)).mono fun i hi => ⟨hi.1.1, fun e => ?_⟩
      rcases hat with hat | hat
      · exact hi.1.2 (hat ▸ e)
      · rw [hat] at e
        injection e with e
        have := hi.2
        omega
    · obtain rfl := List.mem_singleton.1 hp
      refine (hbd.within.outs hout (fun i hi e => by have := hr i e; have := hi.1; omega)).mono fun i hi => ⟨by have := hi.1; omega, fun e => ?_⟩
      rcases hat with hat | hat
      · have := hr i (hat ▸ e); have := hi.1; omega
      · rw [hat] at e
        injection e with e
        have := hi.2
        omega

set_option maxHeartbeats 4000000 in
set_option maxRecDepth 100000 in
theorem flight_any {w : World} {S : Nat → Prop} {b mb : Nat} {es : List (Le × Pl)} {sent : Nat} (h : Nt w S b mb es sent) :
    Calls Try.prog 28 #[.pointer (some ⟨b, 0, none⟩)] w fun e w' => ∃ v ps, e = .returned v ∧ ps.map (·.1) = es.map (·.1) ∧ w'.ownsRow w.heap.size 32 5 v es.length (cLs ps) ∧ (∀ p ∈ ps, Bd w' (fun i => w.heap.size ≤ i) p.1.body p.2) ∧ Below w.heap.size w w' := by
  obtain ⟨i0, hi, hz0, hz1, hz2⟩ := info_parts infoL
  have hmost : es.length ≤ 4000 := by have := h.ok.most; simpa using this
  obtain ⟨n, hn⟩ : ∃ n, es.length = n := ⟨_, rfl⟩
  have ct := rising_any h
  rw [hn] at ct hmost
  have CT := Lib.hid ct
  have H := Lib.hid h
  have HN := Lib.hid hn
  clear ct h hn
  go_enter Try.func28, Try.ntmps28
  go_wp2_with fail
  go_at_call 31
  refine (nobodys_any H.out).mono ?_
  rintro e w1 ⟨rfl, hw⟩
  rw [hw]
  clear hw
  go_wp2_with fail
  go_at_call 42
  refine CT.out.mono ?_
  rintro e w1 ⟨v, rfl, hrow, hb1⟩
  have hrd : ∃ A c, v = .slice A n c ∧ Rds w1 w1.heap.size A (cU (nums es)) := by
    rcases hrow.2 with ⟨rfl, h0⟩ | ⟨g, cap, cur, rfl, hBg, hg, h1, h2, h3, h4⟩
    · exact ⟨none, 0, by rw [h0], by rw [List.eq_nil_of_length_eq_zero (HN.out.trans h0)]; exact Rds.nil_⟩
    · exact ⟨_, cap, rfl, Rds.ofOwn hrow⟩
  obtain ⟨A, c, rfl, hrd⟩ := hrd
  have HRD := Lib.hid hrd
  have HN1 := Lib.hid (H.out.go hb1)
  have HB1 := Lib.hid hb1
  have hsz1 := hb1.size
  clear hrow hrd hb1
  go_wp2
  go_loopw [3, 11] (fun v3 vi wr => ∃ (k : Nat) (ps : List (Le × Pl)), vi = .int .i64 k ∧ k ≤ n ∧ ps.map (·.1) = (es.take k).map (·.1) ∧ Fl w1.heap.size w1 wr v3 ps k) (fun _ vi _ => n - (intOf vi).toNat)
  case atStart => exact ⟨0, [], rfl, Nat.zero_le _, rfl, ⟨World.ownsRow_nil _ _ _ _, rfl, fun p hp => (by cases hp), Below.refl _ _⟩⟩
  case round =>
    obtain ⟨k, ps, rfl, hk, hps, hf⟩ := hrel
    have hbr := hf.below
    have hszr := hbr.size
    have HF := Lib.hid hf
    have HPS := Lib.hid hps
    have hnr := HN1.out.go hbr
    by_cases hlt : k < n
    · have hke : k < es.length := by have := HN.out; omega
      obtain ⟨p, hp⟩ : ∃ p, p = es[k] := ⟨_, rfl⟩
      have hmem : p ∈ es := by rw [hp]; exact List.getElem_mem _
      obtain ⟨ad, hAe, hadl, hcell0⟩ := HRD.out.at_ (k := k) (u := .int .u64 p.1.num) (by simp [cU, nums, hke, hp])
      have hcell : wr.cell? (ad.add k) = some (.int .u64 p.1.num) := by rw [hbr.cell (p := ad.add k) (by rw [blk_add]; exact hadl)]; exact hcell0
      have hl := look_run hnr p.1.num (hnr.ok.wf p.1 (List.mem_map_of_mem hmem))
      rw [(hit_some (pick_mem hnr.ok.rise hmem)).1] at hl
      simp only [val] at hl
      have ct := copied_any (hnr.bd p hmem).rds (hnr.ok.len p.1 (List.mem_map_of_mem hmem))
      simp only [val] at ct
      have CT2 := Lib.hid ct
      have hc2 : wr.cell? ⟨b, 2, none⟩ = some (.map (some mb)) := by simpa using hnr.blk.cell 2
      have hpt : (es.take (k + 1)).map (·.1) = (es.take k).map (·.1) ++ [p.1] := by
        rw [List.take_add_one, List.getElem?_eq_getElem hke, List.map_append, hp]
        rfl
      have HPT := Lib.hid hpt
      clear hf hps hnr hcell0 ct hp hpt hmem
      subst hAe
      go_wp2_with fail
      go_at_call 36
      refine CT2.out.mono ?_
      rintro e w4 ⟨k', rfl, hb4, hbd4⟩
      have hf4 := HF.out.go hszr hb4
      have hs4 := hb4.size
      have HB4 := Lib.hid hb4
      have HBD4 := Lib.hid hbd4
      have HF4 := Lib.hid hf4
      have hrow4 := hf4.row
      clear hb4 hbd4 hf4 hcell hl hc2
      go_wp2_with (at_builtin; refine wpList_append_own_at _ rfl _ _ 41 rfl w1.heap.size 32 i0 zeroL 5 56 Try.underlying41 hi hz0 hz1 hz2 rfl (by decide) _ k (cLs ps) rfl (hrow4.alloc _) ⟨w4.heap.size, 0, none⟩ 1 1 (cL (p.1, k')) rfl (by simp [cL]) (five_new _ _ _ _ _ _ _) (by simp [cL, Value.oneCell']) (by unfold maxLen; omega) (by omega) (by simp; omega) ?_; intro v5 w5 hrow5 hg5 _ hat5; go_frame)
      refine ⟨⟨k + 1, ps ++ [(p.1, k')], by simp, by omega, ?_, ?_⟩, by simp only [intOf]; omega⟩
      · rw [List.map_append, HPS.out, HPT.out]; rfl
      · exact HF4.out.push (fun g hg => (HF.out.row.lt g hg).2) HB4.out.size hszr hrow5 hg5 hat5 HBD4.out
    · obtain rfl : k = n := by omega
      clear hf hps
      have hn := HN.out
      have hps2 : ps.map (·.1) = es.map (·.1) := by rw [HPS.out, ← hn, List.take_length]
      have HPS2 := Lib.hid hps2
      have HRW := Lib.hid (ownRow_base HF.out.row (B' := w.heap.size) (fun g hg => by have := (HF.out.row.lt g hg).1; omega))
      have HBL := Lib.hid (HB1.out.trans (hbr.mono hsz1))
      have HBS : Hid (∀ q ∈ ps, Bd wr (fun i => w.heap.size ≤ i) q.1.body q.2) := Lib.hid (fun q hq => (HF.out.bd q hq).mono fun i hi => by have := hi.1; omega)
      clear hps2 hn hbr hnr
      go_wp2
      go_ret
      refine ⟨_, rfl, ps, HPS2.out, ?_, fun q1 q2 q3 hq => HBS.out (q1, q2, q3) hq, HBL.out⟩
      rw [HN.out]
      exact HRW.out
end Go.Proofs.Ytkoalpbognpphaa
