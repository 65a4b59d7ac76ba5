/- A file of the disk turns; the program's Sync. -/
import Derived.Test.YtnpomiidkdnebaaDStep
import Derived.StillTailTactics
namespace Go.Proofs.Ytnpomiidkdnebaa
open Go.RowKit Go.Maps
set_option linter.unusedVariables false

/-- the places, and what is new -/
def More (S : Nat → Prop) (w w' : World) : Nat → Prop := fun k => S k ∨ (w.heap.size ≤ k ∧ k < w'.heap.size)

section
variable {S : Nat → Prop} {d mb nn : Nat} {M : DataW Unit} {blk : Nm → Nat} {vs : Nm → Value} {D : Dsk}
theorem DkAt.ne_blk {w : World} (h : DkAt w S d mb nn M blk vs D) {l : Nm} {f : Fl} (hf : find D.files l = some f) : blk l ≠ d := Whole.ne (h.fil l f hf).1 h.top (by decide)
theorem DkAt.ne_map {w : World} (h : DkAt w S d mb nn M blk vs D) {l : Nm} {f : Fl} (hf : find D.files l = some f) : blk l ≠ mb := Whole.ne_map (h.fil l f hf).1 h.map
theorem DkAt.ne_row {w : World} (h : DkAt w S d mb nn M blk vs D) {l : Nm} {f : Fl} (hf : find D.files l = some f) {g : Nat} (hg : (vs l).ownBlock = some g) : g ≠ d := ownRow_ne (h.fil l f hf).2 hg h.top (by decide)
theorem DkAt.ne_rowm {w : World} (h : DkAt w S d mb nn M blk vs D) {l : Nm} {f : Fl} (hf : find D.files l = some f) {g : Nat} (hg : (vs l).ownBlock = some g) : g ≠ mb := ownRow_ne_map (h.fil l f hf).2 hg h.map
theorem DkAt.ne_rowb {w : World} (h : DkAt w S d mb nn M blk vs D) {l m : Nm} {f f' : Fl} (hf : find D.files l = some f) (hf' : find D.files m = some f') {g : Nat} (hg : (vs l).ownBlock = some g) : g ≠ blk m := ownRow_ne (h.fil l f hf).2 hg (h.fil m f' hf').1 (by decide)
theorem DkAt.top_map {w : World} (h : DkAt w S d mb nn M blk vs D) : d ≠ mb := Whole.ne_map h.top h.map
theorem DkAt.blt {w : World} (h : DkAt w S d mb nn M blk vs D) {l : Nm} {f : Fl} (hf : find D.files l = some f) : blk l < w.heap.size := h.lt _ (h.sb l f hf).1
theorem DkAt.rlt {w : World} (h : DkAt w S d mb nn M blk vs D) {l : Nm} {f : Fl} (hf : find D.files l = some f) {g : Nat} (hg : (vs l).ownBlock = some g) : g < w.heap.size := h.lt _ ((h.sb l f hf).2 g hg)

theorem DkAt.turnFile {w w' : World} (h : DkAt w S d mb nn M blk vs D) {l : Nm} {f : Fl} (hf : find D.files l = some f) (g : Fl → Fl) (hg : ∀ f, (g f).nm = f.nm) (v' : Value) (D' : Dsk) (hfiles : D'.files = upd l g D.files)
    (hsz : w.heap.size ≤ w'.heap.size) (ho : ∀ k, k < w.heap.size → k ≠ d → k ≠ blk l → (vs l).ownBlock ≠ some k → w'.heap[k]? = w.heap[k]?)
    (htop : Whole w' d 54 (topCells d mb D')) (hW : Whole w' (blk l) 69 #[v', .int .i64 (g f).sy]) (hR : w'.ownsRow 0 5 1 v' (g f).bs.length (c8 (g f).bs))
    (hloc : v'.ownBlock = (vs l).ownBlock ∨ ∀ k, v'.ownBlock = some k → w.heap.size ≤ k) :
    DkAt w' (More S w w') d mb nn M blk (fun x => if x = l then v' else vs x) D' := by
  have hfd : ∀ m, find D'.files m = (find D.files m).map (fun f => if m = l then g f else f) := fun m => by rw [hfiles, find_upd _ _ _ _ hg]
  have other : ∀ m f', find D'.files m = some f' → m ≠ l → find D.files m = some f' := by
    intro m f' hm hne
    rw [hfd] at hm
    cases hq : find D.files m with
    | none => rw [hq] at hm; cases hm
    | some q => rw [hq] at hm; simpa [hne] using hm
  have mine : ∀ f', find D'.files l = some f' → f' = g f := by
    intro f' hm
    rw [hfd, hf] at hm
    simpa using hm.symm
  have newlt : ∀ k, v'.ownBlock = some k → k < w'.heap.size := fun k hk => (ownRow_block hR hk).2.1
  refine { top := htop, map := ownsMap_block_kept h.map (ho _ h.map.lt h.top_map.symm (h.ne_map hf).symm (fun e => h.ne_rowm hf e rfl)), key := ?_, fil := ?_, inj := ?_, sd := .inl h.sd, sm := .inl h.sm, sb := ?_, lt := ?_ }
  · intro m z
    rw [h.key, hfd]
    cases find D.files m <;> rfl
  · intro m f' hm
    by_cases e : m = l
    · subst e
      rw [mine f' hm]
      simp only [if_pos]
      exact ⟨hW, hR⟩
    · have hq := other m f' hm e
      simp only [if_neg e]
      have hi := h.inj m l f' f hq hf e
      refine ⟨(ho _ (h.blt hq) (h.ne_blk hq) hi.1 (fun e2 => h.ne_rowb hf hq e2 rfl)).trans (h.fil m f' hq).1, ownRow_block_kept (h.fil m f' hq).2 fun k hk => ho _ (h.rlt hq hk) (h.ne_row hq hk) (h.ne_rowb hq hf hk) (hi.2 k hk)⟩
  · intro m m' f1 f2 h1 h2 hne
    have hd : ∀ m f', find D'.files m = some f' → ∃ q, find D.files m = some q := by
      intro m f' hm
      rw [hfd] at hm
      cases hq : find D.files m with
      | none => rw [hq] at hm; cases hm
      | some q => exact ⟨q, rfl⟩
    obtain ⟨q1, hq1⟩ := hd m f1 h1
    obtain ⟨q2, hq2⟩ := hd m' f2 h2
    have hi := h.inj m m' q1 q2 hq1 hq2 hne
    refine ⟨hi.1, fun k hk => ?_⟩
    by_cases e1 : m = l
    · have e2 : m' ≠ l := fun e => hne (e1.trans e.symm)
      simp only [if_pos e1] at hk
      simp only [if_neg e2]
      intro hk'
      rcases hloc with e | e
      · rw [e, ← e1] at hk
        exact hi.2 k hk hk'
      · have := e k hk
        have := h.rlt hq2 hk'
        omega
    · simp only [if_neg e1] at hk
      by_cases e2 : m' = l
      · simp only [if_pos e2]
        intro hk'
        rcases hloc with e | e
        · rw [e, ← e2] at hk'
          exact hi.2 k hk hk'
        · have := e k hk'
          have := h.rlt hq1 hk
          omega
      · simp only [if_neg e2]
        exact hi.2 k hk
  · intro m f' hm
    by_cases e : m = l
    · subst e
      refine ⟨.inl (h.sb _ f hf).1, fun k hk => ?_⟩
      simp only [if_pos] at hk
      rcases hloc with e | e
      · rw [e] at hk
        exact .inl ((h.sb _ f hf).2 k hk)
      · exact .inr ⟨e k hk, newlt k hk⟩
    · have hq := other m f' hm e
      refine ⟨.inl (h.sb m f' hq).1, fun k hk => ?_⟩
      simp only [if_neg e] at hk
      exact .inl ((h.sb m f' hq).2 k hk)
  · intro k hk
    rcases hk with hk | hk
    · exact Nat.lt_of_lt_of_le (h.lt k hk) hsz
    · exact hk.2
theorem more_new {w w' : World} : ∀ k, More S w w' k → S k ∨ w.heap.size ≤ k := fun k hk => hk.imp id (·.1)

/-- a box of the call's own -/
theorem box_far {w : World} (h : DkAt w S d mb nn M blk vs D) {g : Nat} {t : TypeId} {cs : Array Value} {l : Nm} {f : Fl} (hf : find D.files l = some f) (hb : Whole w g t cs) (ht : t ≠ 69) : blk l ≠ g := Whole.ne (h.fil l f hf).1 hb (fun e => ht e.symm)

def syn (f : Fl) : Fl := { f with sy := f.bs.length }

set_option maxHeartbeats 1000000 in
set_option maxRecDepth 5000 in
theorem sync1_any {l : Nm} {f : Fl} (bx : Nat) (w : World) (h : DkAt w S d mb nn M blk vs D) (hnn : nn ≤ D.steps) (hf : find D.files l = some f) (hbx : Whole w bx 66 #[.pointer (some ⟨blk l, 0, none⟩)]) :
    Calls Try.prog 39 #[.pointer (some ⟨bx, 0, none⟩)] w fun e w2 => e = .returned (.tuple #[]) ∧ ∃ S', Dk 1 w2 S' d { D with files := upd l syn D.files } ∧ Turn S S' w w2 := by
  obtain ⟨hW, hR⟩ := h.fil l f hf
  obtain ⟨A, c, hv, hr, hnc, hcm, hA0⟩ := own_open hR
  have cb : w.cell? ⟨bx, 0, none⟩ = some (.pointer (some ⟨blk l, 0, none⟩)) := hbx.cell 0
  have w0 : w.cell? ⟨blk l, 0, none⟩ = some (vs l) := hW.cell 0
  have w1 : w.cell? ⟨blk l, 1, none⟩ = some (.int .i64 f.sy) := hW.cell 1
  have fz := hW.frozen 1
  have hle : (f.bs.length : Int) ≤ 9223372036854775807 := by unfold maxLen at hcm; omega
  -- what comes of it
  have hfin : ∀ n, ∃ S', Dk 1 ((w.drewN n).setCell ⟨blk l, 1, none⟩ (.int .i64 (f.bs.length : Nat))) S' d { D with files := upd l syn D.files } ∧ Turn S S' w ((w.drewN n).setCell ⟨blk l, 1, none⟩ (.int .i64 (f.bs.length : Nat))) := by
    intro n
    refine ⟨_, ⟨mb, nn, M, blk, _, h.turnFile hf syn (fun _ => rfl) (vs l) _ rfl (by simp [World.setCell]) ?_ ?_ ?_ ?_ (.inl rfl), by show nn ≤ D.steps + 1; omega⟩, ⟨?_, more_new⟩⟩
    · intro k hk h1 h2 h3
      exact Below.heap_setCell _ _ _ _ h2
    · have : topCells d mb { D with files := upd l syn D.files } = topCells d mb D := by
        simp only [topCells, left]
        rw [used_upd _ _ syn (fun _ _ => rfl)]
      rw [this]
      exact (h.top.drewN n).far (p := ⟨blk l, 1, none⟩) (h.ne_blk hf).symm _
    · exact (hW.drewN n).put 1 _
    · exact ownRow_block_kept hR fun k hk => Below.heap_setCell _ _ _ _ (h.ne_rowb hf hf hk)
    · exact ((Outs.refl S w).drewN n).setCell (.inl (h.sb l f hf).1) _
  have HF := Lib.hid hfin
  rw [hv] at w0
  clear hfin hv hr hR hW hbx hnc hA0
  generalize blk l = b at *
  go_enter Try.func39, Try.ntmps39
  go_still_tail 8, (by kernel_rfl)
  go_wp2
  go_returns
  exact ⟨by simp, HF.out 1⟩

theorem Turn.below {w w' : World} (h : Below w.heap.size w w') : Turn S S w w' := ⟨Outs.of h, fun k hk => .inl hk⟩
theorem sync1_enters : ∀ args w, (callFunc 39 args).run Try.prog w = .ok (.enter 39 args) w := enters_of Try.func39 (by kernel_rfl) rfl

/-- what a disk must be for its calls to be told -/
structure Room (D : Dsk) : Prop where
  steps : D.steps + 100 ≤ 1099511627776
  f0 : -1 ≤ D.fuse
  f1 : D.fuse ≤ 9223372036854775807

theorem dSync_err {D : Dsk} {l : Nm} (h : fcode D l ≠ 0) : dSync D l = (fcode D l, D) := by
  unfold dSync
  unfold fcode at h ⊢
  by_cases ha : ask D [l] ≠ 0
  · simp only [if_pos ha]
  · simp only [if_neg ha] at h ⊢
    by_cases hn : (find D.files l).isNone = true
    · simp only [if_pos hn]
    · simp only [if_neg hn] at h
      exact absurd rfl h
theorem fcode_ok {D : Dsk} {l : Nm} (h : fcode D l = 0) : ask D [l] = 0 ∧ ∃ f, find D.files l = some f := by
  unfold fcode at h
  split at h
  · rename_i ha
    exact absurd h ha
  · rename_i ha
    refine ⟨by simpa using ha, ?_⟩
    cases hf : find D.files l with
    | none => rw [hf] at h; cases h
    | some f => exact ⟨f, rfl⟩

set_option maxHeartbeats 1000000 in
theorem sync_any (s : ByteArray) (hs : s.size ≤ 9223372036854775807) (w : World) (h : Dk 0 w S d D) (hr : Room D) :
    Calls Try.prog 12 #[.pointer (some ⟨d, 0, none⟩), .string s] w fun e w' => e = .returned (.int .i64 (dSync D (lst s)).1) ∧ ∃ S', Dk 0 w' S' d (dSync D (lst s)).2 ∧ Turn S S' w w' := by
  obtain ⟨mb, nn, M, blk, vs, h, hnn⟩ := h
  have hcon := find_any s hs w h hnn
  by_cases hc : fcode D (lst s) = 0
  · obtain ⟨ha, f, hf⟩ := fcode_ok hc
    have e1 : fpt D blk (lst s) = .pointer (some ⟨blk (lst s), 0, none⟩) := by simp [fpt, hc]
    have e2 : dSync D (lst s) = dStep D (upd (lst s) syn) := by
      unfold dSync
      rw [if_neg (by simp [ha]), hf]
      rfl
    rw [e1, hc] at hcon
    rw [e2]
    clear e1 e2 hc
    go_enter Try.func12, Try.ntmps12
    go_wp2_with fail
    refine hcon.mono ?_
    rintro e w1 ⟨rfl, hb⟩
    have h1 := h.go hb
    go_wp2_with fail
    have hbx : Whole (w1.alloc (.cells #[.pointer (some ⟨blk (lst s), 0, none⟩)] 66)) w1.heap.size 66 #[.pointer (some ⟨blk (lst s), 0, none⟩)] := Whole.new _ _ _
    have hb2 : Below w.heap.size w (w1.alloc (.cells #[.pointer (some ⟨blk (lst s), 0, none⟩)] 66)) := hb.alloc hb.size _
    have h2 := h1.go ((Below.refl _ w1).alloc (Nat.le_refl _) (.cells #[.pointer (some ⟨blk (lst s), 0, none⟩)] 66))
    have hnS : ¬ S w1.heap.size := fun e => Nat.lt_irrefl _ (h1.lt _ e)
    have hcon2 := step_any 39 #[.pointer (some ⟨w1.heap.size, 0, none⟩)] (upd (lst s) syn) _ h2 hnn (by have := hr.steps; omega) hr.f0 hr.f1 sync1_enters
      (fun w3 h3 ho hsz => sync1_any w1.heap.size w3 h3 hnn hf (hbx.outs ho hnS))
    clear hcon hbx h1 h2
    refine hcon2.mono ?_
    rintro e w2 ⟨rfl, S', hk, ht⟩
    have HK := Lib.hid hk
    have HT := Lib.hid ht
    clear hcon2 hk ht
    go_wp2
    go_returns
    exact ⟨by simp, S', HK.out, (Turn.below hb2).trans HT.out⟩
  · have e1 : fpt D blk (lst s) = .pointer none := by simp [fpt, hc]
    rw [dSync_err hc]
    have hn : (fcode D (lst s) != 0) = true := by simpa using hc
    have hD : Dk 0 w S d D := ⟨mb, nn, M, blk, vs, h, hnn⟩
    rw [e1] at hcon
    generalize fcode D (lst s) = c at *
    clear hc e1 h
    go_enter Try.func12, Try.ntmps12
    go_wp2_with fail
    refine hcon.mono ?_
    rintro e w1 ⟨rfl, hb⟩
    go_wp2
    go_returns
    exact ⟨by simp, S, hD.go (hb.alloc hb.size _), Turn.below (hb.alloc hb.size _)⟩
end
end Go.Proofs.Ytnpomiidkdnebaa
