/- Several texts, each a section: DSync, DMake, DRead, DDel, DRem. -/
import Derived.Test.YtbobakfcmkaijaaGreatDoorM03
import Derived.StillTailTactics
section
/- A file of the disk turns; the program's Sync. -/
namespace Go.Proofs.YtbobakfcmkaijaaGreatDoor
open Go.RowKit Go.Maps
set_option linter.unusedVariables false

/-- the places, and what is new -/
def More (S : Nat → Prop) (w w' : World) : Nat → Prop := fun k => S k ∨ (w.heap.size ≤ k ∧ k < w'.heap.size)

section
variable {S : Nat → Prop} {d mb nn : Nat} {M : DataW Unit} {blk : Nm → Nat} {vs : Nm → Value} {D : Dsk}
theorem DkAt.ne_blk {w : World} (h : DkAt w S d mb nn M blk vs D) {l : Nm} {f : Fl} (hf : find D.files l = some f) : blk l ≠ d := Whole.ne (h.fil l f hf).1 h.top (by decide)
theorem DkAt.ne_map {w : World} (h : DkAt w S d mb nn M blk vs D) {l : Nm} {f : Fl} (hf : find D.files l = some f) : blk l ≠ mb := Whole.ne_map (h.fil l f hf).1 h.map
theorem DkAt.ne_row {w : World} (h : DkAt w S d mb nn M blk vs D) {l : Nm} {f : Fl} (hf : find D.files l = some f) {g : Nat} (hg : (vs l).ownBlock = some g) : g ≠ d := ownRow_ne (h.fil l f hf).2 hg h.top (by decide)
theorem DkAt.ne_rowm {w : World} (h : DkAt w S d mb nn M blk vs D) {l : Nm} {f : Fl} (hf : find D.files l = some f) {g : Nat} (hg : (vs l).ownBlock = some g) : g ≠ mb := ownRow_ne_map (h.fil l f hf).2 hg h.map
theorem DkAt.ne_rowb {w : World} (h : DkAt w S d mb nn M blk vs D) {l m : Nm} {f f' : Fl} (hf : find D.files l = some f) (hf' : find D.files m = some f') {g : Nat} (hg : (vs l).ownBlock = some g) : g ≠ blk m := ownRow_ne (h.fil l f hf).2 hg (h.fil m f' hf').1 (by decide)
theorem DkAt.top_map {w : World} (h : DkAt w S d mb nn M blk vs D) : d ≠ mb := Whole.ne_map h.top h.map
theorem DkAt.blt {w : World} (h : DkAt w S d mb nn M blk vs D) {l : Nm} {f : Fl} (hf : find D.files l = some f) : blk l < w.heap.size := h.lt _ (h.sb l f hf).1
theorem DkAt.rlt {w : World} (h : DkAt w S d mb nn M blk vs D) {l : Nm} {f : Fl} (hf : find D.files l = some f) {g : Nat} (hg : (vs l).ownBlock = some g) : g < w.heap.size := h.lt _ ((h.sb l f hf).2 g hg)

theorem DkAt.turnFile {w w' : World} (h : DkAt w S d mb nn M blk vs D) {l : Nm} {f : Fl} (hf : find D.files l = some f) (g : Fl → Fl) (hg : ∀ f, (g f).nm = f.nm) (v' : Value) (D' : Dsk) (hfiles : D'.files = upd l g D.files)
    (hsz : w.heap.size ≤ w'.heap.size) (ho : ∀ k, k < w.heap.size → k ≠ d → k ≠ blk l → (vs l).ownBlock ≠ some k → w'.heap[k]? = w.heap[k]?)
    (htop : Whole w' d 45 (topCells d mb D')) (hW : Whole w' (blk l) 100 #[v', .int .i64 (g f).sy]) (hR : w'.ownsRow 0 5 1 v' (g f).bs.length (c8 (g f).bs))
    (hloc : v'.ownBlock = (vs l).ownBlock ∨ ∀ k, v'.ownBlock = some k → w.heap.size ≤ k) :
    DkAt w' (More S w w') d mb nn M blk (fun x => if x = l then v' else vs x) D' := by
  have hfd : ∀ m, find D'.files m = (find D.files m).map (fun f => if m = l then g f else f) := fun m => by rw [hfiles, find_upd _ _ _ _ hg]
  have other : ∀ m f', find D'.files m = some f' → m ≠ l → find D.files m = some f' := by
    intro m f' hm hne
    rw [hfd] at hm
    cases hq : find D.files m with
    | none => rw [hq] at hm; cases hm
    | some q => rw [hq] at hm; simpa [hne] using hm
  have mine : ∀ f', find D'.files l = some f' → f' = g f := by
    intro f' hm
    rw [hfd, hf] at hm
    simpa using hm.symm
  have newlt : ∀ k, v'.ownBlock = some k → k < w'.heap.size := fun k hk => (ownRow_block hR hk).2.1
  refine { top := htop, map := ownsMap_block_kept h.map (ho _ h.map.lt h.top_map.symm (h.ne_map hf).symm (fun e => h.ne_rowm hf e rfl)), key := ?_, fil := ?_, inj := ?_, sd := .inl h.sd, sm := .inl h.sm, sb := ?_, lt := ?_ }
  · intro m z
    rw [h.key, hfd]
    cases find D.files m <;> rfl
  · intro m f' hm
    by_cases e : m = l
    · subst e
      rw [mine f' hm]
      simp only [if_pos]
      exact ⟨hW, hR⟩
    · have hq := other m f' hm e
      simp only [if_neg e]
      have hi := h.inj m l f' f hq hf e
      refine ⟨(ho _ (h.blt hq) (h.ne_blk hq) hi.1 (fun e2 => h.ne_rowb hf hq e2 rfl)).trans (h.fil m f' hq).1, ownRow_block_kept (h.fil m f' hq).2 fun k hk => ho _ (h.rlt hq hk) (h.ne_row hq hk) (h.ne_rowb hq hf hk) (hi.2 k hk)⟩
  · intro m m' f1 f2 h1 h2 hne
    have hd : ∀ m f', find D'.files m = some f' → ∃ q, find D.files m = some q := by
      intro m f' hm
      rw [hfd] at hm
      cases hq : find D.files m with
      | none => rw [hq] at hm; cases hm
      | some q => exact ⟨q, rfl⟩
    obtain ⟨q1, hq1⟩ := hd m f1 h1
    obtain ⟨q2, hq2⟩ := hd m' f2 h2
    have hi := h.inj m m' q1 q2 hq1 hq2 hne
    refine ⟨hi.1, fun k hk => ?_⟩
    by_cases e1 : m = l
    · have e2 : m' ≠ l := fun e => hne (e1.trans e.symm)
      simp only [if_pos e1] at hk
      simp only [if_neg e2]
      intro hk'
      rcases hloc with e | e
      · rw [e, ← e1] at hk
        exact hi.2 k hk hk'
      · have := e k hk
        have := h.rlt hq2 hk'
        omega
    · simp only [if_neg e1] at hk
      by_cases e2 : m' = l
      · simp only [if_pos e2]
        intro hk'
        rcases hloc with e | e
        · rw [e, ← e2] at hk'
          exact hi.2 k hk hk'
        · have := e k hk'
          have := h.rlt hq1 hk
          omega
      · simp only [if_neg e2]
        exact hi.2 k hk
  · intro m f' hm
    by_cases e : m = l
    · subst e
      refine ⟨.inl (h.sb _ f hf).1, fun k hk => ?_⟩
      simp only [if_pos] at hk
      rcases hloc with e | e
      · rw [e] at hk
        exact .inl ((h.sb _ f hf).2 k hk)
      · exact .inr ⟨e k hk, newlt k hk⟩
    · have hq := other m f' hm e
      refine ⟨.inl (h.sb m f' hq).1, fun k hk => ?_⟩
      simp only [if_neg e] at hk
      exact .inl ((h.sb m f' hq).2 k hk)
  · intro k hk
    rcases hk with hk | hk
    · exact Nat.lt_of_lt_of_le (h.lt k hk) hsz
    · exact hk.2
theorem more_new {w w' : World} : ∀ k, More S w w' k → S k ∨ w.heap.size ≤ k := fun k hk => hk.imp id (·.1)

/-- a box of the call's own -/
theorem box_far {w : World} (h : DkAt w S d mb nn M blk vs D) {g : Nat} {t : TypeId} {cs : Array Value} {l : Nm} {f : Fl} (hf : find D.files l = some f) (hb : Whole w g t cs) (ht : t ≠ 100) : blk l ≠ g := Whole.ne (h.fil l f hf).1 hb (fun e => ht e.symm)

def syn (f : Fl) : Fl := { f with sy := f.bs.length }

set_option maxHeartbeats 1000000 in
set_option maxRecDepth 5000 in
theorem sync1_any {l : Nm} {f : Fl} (bx : Nat) (w : World) (h : DkAt w S d mb nn M blk vs D) (hnn : nn ≤ D.steps) (hf : find D.files l = some f) (hbx : Whole w bx 69 #[.pointer (some ⟨blk l, 0, none⟩)]) :
    Calls Tryz.prog 110 #[.pointer (some ⟨bx, 0, none⟩)] w fun e w2 => e = .returned (.tuple #[]) ∧ ∃ S', Dk 1 w2 S' d { D with files := upd l syn D.files } ∧ Turn S S' w w2 := by
  obtain ⟨hW, hR⟩ := h.fil l f hf
  obtain ⟨A, c, hv, hr, hnc, hcm, hA0⟩ := own_open hR
  have cb : w.cell? ⟨bx, 0, none⟩ = some (.pointer (some ⟨blk l, 0, none⟩)) := hbx.cell 0
  have w0 : w.cell? ⟨blk l, 0, none⟩ = some (vs l) := hW.cell 0
  have w1 : w.cell? ⟨blk l, 1, none⟩ = some (.int .i64 f.sy) := hW.cell 1
  have fz := hW.frozen 1
  have hle : (f.bs.length : Int) ≤ 9223372036854775807 := by unfold maxLen at hcm; omega
  -- what comes of it
  have hfin : ∀ n, ∃ S', Dk 1 ((w.drewN n).setCell ⟨blk l, 1, none⟩ (.int .i64 (f.bs.length : Nat))) S' d { D with files := upd l syn D.files } ∧ Turn S S' w ((w.drewN n).setCell ⟨blk l, 1, none⟩ (.int .i64 (f.bs.length : Nat))) := by
    intro n
    refine ⟨_, ⟨mb, nn, M, blk, _, h.turnFile hf syn (fun _ => rfl) (vs l) _ rfl (by simp [World.setCell]) ?_ ?_ ?_ ?_ (.inl rfl), by show nn ≤ D.steps + 1; omega⟩, ⟨?_, more_new⟩⟩
    · intro k hk h1 h2 h3
      exact Below.heap_setCell _ _ _ _ h2
    · have : topCells d mb { D with files := upd l syn D.files } = topCells d mb D := by
        simp only [topCells, left]
        rw [used_upd _ _ syn (fun _ _ => rfl)]
      rw [this]
      exact (h.top.drewN n).far (p := ⟨blk l, 1, none⟩) (h.ne_blk hf).symm _
    · exact (hW.drewN n).put 1 _
    · exact ownRow_block_kept hR fun k hk => Below.heap_setCell _ _ _ _ (h.ne_rowb hf hf hk)
    · exact ((Outs.refl S w).drewN n).setCell (.inl (h.sb l f hf).1) _
  have HF := Lib.hid hfin
  rw [hv] at w0
  clear hfin hv hr hR hW hbx hnc hA0
  generalize blk l = b at *
  go_enter Tryz.func110, Tryz.ntmps110
  go_still_tail 8, (by kernel_rfl)
  go_wp2
  go_returns
  exact ⟨by simp, HF.out 1⟩

theorem sync1_enters : ∀ args w, (callFunc 110 args).run Tryz.prog w = .ok (.enter 110 args) w := enters_of Tryz.func110 (by kernel_rfl) rfl

/-- what a disk must be for its calls to be told -/
structure Room (D : Dsk) : Prop where
  steps : D.steps + 100 ≤ 1099511627776
  f0 : -1 ≤ D.fuse
  f1 : D.fuse ≤ 9223372036854775807

theorem dSync_err {D : Dsk} {l : Nm} (h : fcode D l ≠ 0) : dSync D l = (fcode D l, D) := by
  unfold dSync
  unfold fcode at h ⊢
  by_cases ha : ask D [l] ≠ 0
  · simp only [if_pos ha]
  · simp only [if_neg ha] at h ⊢
    by_cases hn : (find D.files l).isNone = true
    · simp only [if_pos hn]
    · simp only [if_neg hn] at h
      exact absurd rfl h
theorem fcode_ok {D : Dsk} {l : Nm} (h : fcode D l = 0) : ask D [l] = 0 ∧ ∃ f, find D.files l = some f := by
  unfold fcode at h
  split at h
  · rename_i ha
    exact absurd h ha
  · rename_i ha
    refine ⟨by simpa using ha, ?_⟩
    cases hf : find D.files l with
    | none => rw [hf] at h; cases h
    | some f => exact ⟨f, rfl⟩

set_option maxHeartbeats 1000000 in
theorem sync_any (s : ByteArray) (hs : s.size ≤ 9223372036854775807) (w : World) (h : Dk 0 w S d D) (hr : Room D) :
    Calls Tryz.prog 87 #[.pointer (some ⟨d, 0, none⟩), .string s] w fun e w' => e = .returned (.int .i64 (dSync D (lst s)).1) ∧ ∃ S', Dk 0 w' S' d (dSync D (lst s)).2 ∧ Turn S S' w w' := by
  obtain ⟨mb, nn, M, blk, vs, h, hnn⟩ := h
  have hcon := find_any s hs w h hnn
  by_cases hc : fcode D (lst s) = 0
  · obtain ⟨ha, f, hf⟩ := fcode_ok hc
    have e1 : fpt D blk (lst s) = .pointer (some ⟨blk (lst s), 0, none⟩) := by simp [fpt, hc]
    have e2 : dSync D (lst s) = dStep D (upd (lst s) syn) := by
      unfold dSync
      rw [if_neg (by simp [ha]), hf]
      rfl
    rw [e1, hc] at hcon
    rw [e2]
    clear e1 e2 hc
    go_enter Tryz.func87, Tryz.ntmps87
    go_wp2_with fail
    refine hcon.mono ?_
    rintro e w1 ⟨rfl, hb⟩
    have h1 := h.go hb
    go_wp2_with fail
    have hbx : Whole (w1.alloc (.cells #[.pointer (some ⟨blk (lst s), 0, none⟩)] 69)) w1.heap.size 69 #[.pointer (some ⟨blk (lst s), 0, none⟩)] := Whole.new _ _ _
    have hb2 : Below w.heap.size w (w1.alloc (.cells #[.pointer (some ⟨blk (lst s), 0, none⟩)] 69)) := hb.alloc hb.size _
    have h2 := h1.go ((Below.refl _ w1).alloc (Nat.le_refl _) (.cells #[.pointer (some ⟨blk (lst s), 0, none⟩)] 69))
    have hnS : ¬ S w1.heap.size := fun e => Nat.lt_irrefl _ (h1.lt _ e)
    have hcon2 := step_any 110 #[.pointer (some ⟨w1.heap.size, 0, none⟩)] (upd (lst s) syn) _ h2 hnn (by have := hr.steps; omega) hr.f0 hr.f1 sync1_enters
      (fun w3 h3 ho hsz => sync1_any w1.heap.size w3 h3 hnn hf (hbx.outs ho hnS))
    clear hcon hbx h1 h2
    refine hcon2.mono ?_
    rintro e w2 ⟨rfl, S', hk, ht⟩
    have HK := Lib.hid hk
    have HT := Lib.hid ht
    clear hcon2 hk ht
    go_wp2
    go_returns
    exact ⟨by simp, S', HK.out, (Turn.below hb2).trans HT.out⟩
  · have e1 : fpt D blk (lst s) = .pointer none := by simp [fpt, hc]
    rw [dSync_err hc]
    have hn : (fcode D (lst s) != 0) = true := by simpa using hc
    have hD : Dk 0 w S d D := ⟨mb, nn, M, blk, vs, h, hnn⟩
    rw [e1] at hcon
    generalize fcode D (lst s) = c at *
    clear hc e1 h
    go_enter Tryz.func87, Tryz.ntmps87
    go_wp2_with fail
    refine hcon.mono ?_
    rintro e w1 ⟨rfl, hb⟩
    go_wp2
    go_returns
    exact ⟨by simp, S, hD.go (hb.alloc hb.size _), Turn.below (hb.alloc hb.size _)⟩
end
end Go.Proofs.YtbobakfcmkaijaaGreatDoor
end

section
/- A file comes to the disk; the program's Make. -/
namespace Go.Proofs.YtbobakfcmkaijaaGreatDoor
open Go.RowKit Go.Maps Go.WideMaps
set_option linter.unusedVariables false

section
variable {S : Nat → Prop} {d mb nn : Nat} {M : DataW Unit} {blk : Nm → Nat} {vs : Nm → Value} {D : Dsk}

theorem keyLit (l : Nm) : WideAt.IsKeyLit (.string l) := by
  first | exact trivial | simp [WideAt.IsKeyLit] | exact ⟨⟩

theorem DkAt.addFile {w w' : World} (h : DkAt w S d mb nn M blk vs D) {l : Nm} (hf : find D.files l = none) (nb n' : Nat) (D' : Dsk) (hfiles : D'.files = ins ⟨l, [], 0⟩ D.files)
    (hsz : w.heap.size ≤ w'.heap.size) (ho : ∀ k, k < w.heap.size → k ≠ mb → w'.heap[k]? = w.heap[k]?) (htc : topCells d mb D' = topCells d mb D) (hnb : w.heap.size ≤ nb) (hnb' : nb < w'.heap.size)
    (hW : Whole w' nb 100 #[.slice none 0 0, .int .i64 0]) (hM : w'.ownsMap Tryz.prog 9 ptrR mb n' (M.put (.string l) (.lit (.int .i64 nb)))) :
    DkAt w' (More S w w') d mb n' (M.put (.string l) (.lit (.int .i64 nb))) (fun x => if x = l then nb else blk x) (fun x => if x = l then .slice none 0 0 else vs x) D' := by
  have hfd : ∀ m, find D'.files m = if l = m then some ⟨l, [], 0⟩ else find D.files m := fun m => by rw [hfiles, find_ins hf]
  have other : ∀ m f', find D'.files m = some f' → m ≠ l → find D.files m = some f' := by
    intro m f' hm hne
    rw [hfd, if_neg (Ne.symm hne)] at hm
    exact hm
  refine { top := by rw [htc]; exact (ho d (h.lt _ h.sd) h.top_map).trans h.top, map := hM, key := ?_, fil := ?_, inj := ?_, sd := .inl h.sd, sm := .inl h.sm, sb := ?_, lt := ?_ }
  · intro m z
    rw [hfd]
    by_cases e : l = m
    · subst e
      rw [atKey_put_same h.map.isMap (keyLit l)]
      simp
    · rw [atKey_put_other (fun e' => e (by injection e' with e'; exact e'.symm)), h.key, if_neg e]
      cases find D.files m <;> simp [Ne.symm e]
  · intro m f' hm
    by_cases e : m = l
    · subst e
      rw [hfd, if_pos rfl] at hm
      obtain rfl := Option.some.inj hm
      simp only [if_pos]
      exact ⟨hW, World.ownsRow_nil w' 0 5 1⟩
    · have hq := other m f' hm e
      simp only [if_neg e]
      exact ⟨(ho _ (h.blt hq) (h.ne_map hq)).trans (h.fil m f' hq).1, ownRow_block_kept (h.fil m f' hq).2 fun k hk => ho _ (h.rlt hq hk) (h.ne_rowm hq hk)⟩
  · intro m m' f1 f2 h1 h2 hne
    by_cases e1 : m = l
    · have e2 : m' ≠ l := fun e => hne (e1.trans e.symm)
      have hq := other m' f2 h2 e2
      simp only [if_pos e1, if_neg e2]
      exact ⟨fun e => by have := h.blt hq; omega, fun k hk => by simp [Value.ownBlock] at hk⟩
    · have hq := other m f1 h1 e1
      by_cases e2 : m' = l
      · simp only [if_neg e1, if_pos e2]
        exact ⟨fun e => by have := h.blt hq; omega, fun k hk hk' => by simp [Value.ownBlock] at hk'⟩
      · simp only [if_neg e1, if_neg e2]
        exact h.inj m m' f1 f2 hq (other m' f2 h2 e2) hne
  · intro m f' hm
    by_cases e : m = l
    · simp only [if_pos e]
      exact ⟨.inr ⟨hnb, hnb'⟩, fun k hk => by simp [Value.ownBlock] at hk⟩
    · have hq := other m f' hm e
      simp only [if_neg e]
      exact ⟨.inl (h.sb m f' hq).1, fun k hk => .inl ((h.sb m f' hq).2 k hk)⟩
  · intro k hk
    rcases hk with hk | hk
    · exact Nat.lt_of_lt_of_le (h.lt k hk) hsz
    · exact hk.2

set_option maxHeartbeats 1000000 in
set_option maxRecDepth 5000 in
theorem make1_any (s : ByteArray) (hs : s.size ≤ maxLen) (b1 b2 : Nat) (w : World) (h : DkAt w S d mb nn M blk vs D) (hnn : nn ≤ D.steps) (hst : D.steps + 100 ≤ 9223372036854775807) (hf : find D.files (lst s) = none)
    (h1 : Whole w b1 23 #[.pointer (some ⟨d, 0, none⟩)]) (h2 : Whole w b2 9 #[.string s]) :
    Calls Tryz.prog 108 #[.pointer (some ⟨b1, 0, none⟩), .pointer (some ⟨b2, 0, none⟩)] w fun e w2 => e = .returned (.tuple #[]) ∧ ∃ S', Dk 1 w2 S' d { D with files := ins ⟨lst s, [], 0⟩ D.files } ∧ Turn S S' w w2 := by
  have c1 : w.cell? ⟨b1, 0, none⟩ = some (.pointer (some ⟨d, 0, none⟩)) := h1.cell 0
  have c2 : w.cell? ⟨b2, 0, none⟩ = some (.string s) := h2.cell 0
  have c5 := h.c5
  have hb : Below w.heap.size w ((w.alloc (.cells #[.slice none 0 0, .int .i64 0] 100)).drew) := ((Below.refl _ w).alloc (Nat.le_refl _) _).drew
  have hW : Whole ((w.alloc (.cells #[.slice none 0 0, .int .i64 0] 100)).drew) w.heap.size 100 #[.slice none 0 0, .int .i64 0] := (Whole.new w _ _).drew
  obtain ⟨w3, hrun, hM, hg⟩ := (h.go hb).map.update lawS Tryz.underlying43 (by unfold maxLen; omega) (keyS s hs) (val := .pointer (some ⟨w.heap.size, 0, none⟩)) (d := .lit (.int .i64 (w.heap.size : Nat))) (ps := []) rfl
  have hd := h.addFile hf (w' := w3) w.heap.size (nn + 1) { D with files := ins ⟨lst s, [], 0⟩ D.files } rfl (Nat.le_trans hb.size hg.size)
    (fun k hk hne => (hg.block k (Nat.lt_of_lt_of_le hk hb.size) (fun e => hne (by injection e))).trans (hb.block k hk))
    (by simp only [topCells, left]; rw [used_ins]; simp) (Nat.le_refl _) (Nat.lt_of_lt_of_le hW.lt hg.size)
    (hW.grown hg (fun e => by injection e with e; have := h.lt _ h.sm; omega)) hM
  have hT : Turn S (More S w w3) w w3 := ⟨((Outs.refl S w).then hb (Nat.le_refl _)).grown hg (fun k hk => by cases hk; exact .inl h.sm), more_new⟩
  have HD := Lib.hid hd
  have HT := Lib.hid hT
  have k1 : (w.alloc (.cells #[.slice none 0 0, .int .i64 0] 100)).cell? ⟨b1, 0, none⟩ = some (.pointer (some ⟨d, 0, none⟩)) := (h1.alloc _).cell 0
  have k2 : (w.alloc (.cells #[.slice none 0 0, .int .i64 0] 100)).cell? ⟨b2, 0, none⟩ = some (.string s) := (h2.alloc _).cell 0
  have k5 : (w.alloc (.cells #[.slice none 0 0, .int .i64 0] 100)).cell? ⟨d, 5, none⟩ = some (.map (some mb)) := (h.top.alloc _).cell 5
  clear hd hT hM hg hW hb
  go_enter Tryz.func108, Tryz.ntmps108
  go_region
  all_goals go_wp2
  all_goals go_returns
  all_goals exact ⟨by simp, _, ⟨mb, _, _, _, _, HD.out, by show nn + 1 ≤ D.steps + 1; omega⟩, HT.out⟩

theorem make1_enters : ∀ args w, (callFunc 108 args).run Tryz.prog w = .ok (.enter 108 args) w := enters_of Tryz.func108 (by kernel_rfl) rfl

theorem one_text' (s : ByteArray) (hs : s.size ≤ 9223372036854775807) (w : World) (b : Nat) (t : TypeId) (h : Whole w b t #[.string s]) : ∀ j, j < ([⟨s, hs⟩] : List Txt).length → w.cell? ⟨b, j, none⟩ = some (encT ([⟨s, hs⟩] : List Txt)[j]!) := by
  intro j hj
  obtain rfl : j = 0 := by simpa using hj
  exact h.cell 0

set_option maxHeartbeats 2000000 in
set_option maxRecDepth 5000 in
theorem make_any (s : ByteArray) (hs : s.size ≤ 9223372036854775807) (w : World) (h : Dk 0 w S d D) (hr : Room D) :
    Calls Tryz.prog 80 #[.pointer (some ⟨d, 0, none⟩), .string s] w fun e w' => e = .returned (.int .i64 (dMake D (lst s)).1) ∧ ∃ S', Dk 0 w' S' d (dMake D (lst s)).2 ∧ Turn S S' w w' := by
  obtain ⟨mb, nn, M, blk, vs, h, hnn⟩ := h
  obtain ⟨W1, hW1⟩ : ∃ W1, W1 = ((w.alloc (.cells #[.pointer (some ⟨d, 0, none⟩)] 23)).alloc (.cells #[.string s] 9)).alloc (.cells #[.string s] 9) := ⟨_, rfl⟩
  have hb : Below w.heap.size w W1 := by rw [hW1]; exact (((Below.refl _ w).alloc (Nat.le_refl _) _).alloc (by simp) _).alloc (by simp; omega) _
  have x1 : Whole W1 w.heap.size 23 #[.pointer (some ⟨d, 0, none⟩)] := by rw [hW1]; exact ((Whole.new w _ _).alloc _).alloc _
  have x2 : Whole W1 (w.heap.size + 1) 9 #[.string s] := by
    rw [hW1]
    have := Whole.new (w.alloc (.cells #[.pointer (some ⟨d, 0, none⟩)] 23)) 9 #[.string s]
    rw [World.size_alloc] at this
    exact this.alloc _
  have x3 : Whole W1 (w.heap.size + 2) 9 #[.string s] := by
    rw [hW1]
    have := Whole.new ((w.alloc (.cells #[.pointer (some ⟨d, 0, none⟩)] 23)).alloc (.cells #[.string s] 9)) 9 #[.string s]
    rw [World.size_alloc, World.size_alloc] at this
    exact this
  have h1 := h.go hb
  have hcon := refusal_any [⟨s, hs⟩] (w.heap.size + 2) 1 1 W1 ⟨mb, nn, M, blk, vs, h1, hnn⟩ rfl (by decide) (one_text' s hs _ _ _ x3)
  have he : ask D ([(⟨s, hs⟩ : Txt)].map (lst ·.1)) = ask D [lst s] := rfl
  rw [he] at hcon
  have hD : Dk 0 w S d D := ⟨mb, nn, M, blk, vs, h, hnn⟩
  have HX := Lib.hid hW1
  clear hW1
  by_cases ha : ask D [lst s] = 0
  · rw [ha] at hcon
    -- the search
    have hlook : ∀ n, (Instr.lookup 43 (.map (some mb)) (.string s) false).run Tryz.prog (W1.drewN n) = .ok (fptr D blk (lst s)) (W1.drewN n) := fun n => look_at (h1.go (bDrewN (Below.refl _ _) n)) s hs
    cases hf : find D.files (lst s) with
    | none =>
      have e1 : dMake D (lst s) = dStep D (ins ⟨lst s, [], 0⟩) := by simp [dMake, ha, hf]
      have e2 : fptr D blk (lst s) = .pointer none := by simp [fptr, hf]
      rw [e1]
      rw [e2] at hlook
      clear e1 e2
      go_enter Tryz.func80, Tryz.ntmps80
      go_wp2_with fail
      rw [← HX.out]
      refine hcon.mono ?_
      rintro e w' ⟨rfl, q, rfl⟩
      have c1 : (W1.drewN q).cell? ⟨w.heap.size, 0, none⟩ = some (.pointer (some ⟨d, 0, none⟩)) := x1.cell 0
      have c2 : (W1.drewN q).cell? ⟨w.heap.size + 1, 0, none⟩ = some (.string s) := x2.cell 0
      have c5 : (W1.drewN q).cell? ⟨d, 5, none⟩ = some (.map (some mb)) := h1.c5
      have hq := h1.go (bDrewN (Below.refl _ W1) q)
      have hlookq : ∀ n, (Instr.lookup 43 (.map (some mb)) (.string s) false).run Tryz.prog ((W1.drewN q).drewN n) = .ok (.pointer none) ((W1.drewN q).drewN n) := fun n => by rw [World.drewN_drewN]; exact hlook _
      have x1q : Whole (W1.drewN q) w.heap.size 23 #[.pointer (some ⟨d, 0, none⟩)] := x1
      have x2q : Whole (W1.drewN q) (w.heap.size + 1) 9 #[.string s] := x2
      have hbq := bDrewN hb q
      clear hcon hlook x1 x2 x3 h1 hb HX
      generalize W1.drewN q = W2 at *
      go_wp2
      go_quiet (fail)
      go_wp2_with fail
      have hcon2 := step_any 108 #[.pointer (some ⟨w.heap.size, 0, none⟩), .pointer (some ⟨w.heap.size + 1, 0, none⟩)] (ins ⟨lst s, [], 0⟩) (W2.drewN nq) (hq.go (bDrewN (Below.refl _ _) nq)) hnn (by have := hr.steps; omega) hr.f0 hr.f1 make1_enters
        (fun w3 h3 ho hsz => make1_any s hs w.heap.size (w.heap.size + 1) w3 h3 hnn (by have := hr.steps; show D.steps + 100 ≤ _; omega) hf ((show Whole (W2.drewN nq) _ _ _ from x1q).outs ho (fun e => Nat.lt_irrefl _ (h.lt _ e))) ((show Whole (W2.drewN nq) _ _ _ from x2q).outs ho (fun e => by have := h.lt _ e; omega)))
      refine hcon2.mono ?_
      rintro e w3 ⟨rfl, S', hk, ht⟩
      have HK := Lib.hid hk
      have HT := Lib.hid ((Turn.below (bDrewN hbq nq)).trans ht)
      clear hcon2 hk ht hq hlookq x1q x2q hbq
      go_wp2
      go_returns
      exact ⟨by simp, S', HK.out, HT.out⟩
    | some f =>
      have e1 : dMake D (lst s) = (7, D) := by simp [dMake, ha, hf]
      have e2 : fptr D blk (lst s) = .pointer (some ⟨blk (lst s), 0, none⟩) := by simp [fptr, hf]
      rw [e1]
      rw [e2] at hlook
      clear e1 e2
      generalize blk (lst s) = bk at *
      go_enter Tryz.func80, Tryz.ntmps80
      go_wp2_with fail
      rw [← HX.out]
      refine hcon.mono ?_
      rintro e w' ⟨rfl, q, rfl⟩
      have c1 : (W1.drewN q).cell? ⟨w.heap.size, 0, none⟩ = some (.pointer (some ⟨d, 0, none⟩)) := x1.cell 0
      have c2 : (W1.drewN q).cell? ⟨w.heap.size + 1, 0, none⟩ = some (.string s) := x2.cell 0
      have c5 : (W1.drewN q).cell? ⟨d, 5, none⟩ = some (.map (some mb)) := h1.c5
      have hlookq : ∀ n, (Instr.lookup 43 (.map (some mb)) (.string s) false).run Tryz.prog ((W1.drewN q).drewN n) = .ok (.pointer (some ⟨bk, 0, none⟩)) ((W1.drewN q).drewN n) := fun n => by rw [World.drewN_drewN]; exact hlook _
      have hbq := bDrewN hb q
      clear hcon hlook x1 x2 x3 h1 hb HX
      generalize W1.drewN q = W2 at *
      go_wp2
      go_quiet (fail)
      go_wp2
      go_returns
      exact ⟨by simp, S, hD.go (bDrewN hbq nq), Turn.below (bDrewN hbq nq)⟩
  · have e1 : dMake D (lst s) = (ask D [lst s], D) := by simp [dMake, ha]
    rw [e1]
    have hn : (ask D [lst s] != 0) = true := by simpa using ha
    generalize ask D [lst s] = c at *
    have HB := Lib.hid hb
    clear hb e1 ha h h1
    go_enter Tryz.func80, Tryz.ntmps80
    go_wp2_with fail
    rw [← HX.out]
    refine hcon.mono ?_
    rintro e w' ⟨rfl, q, rfl⟩
    go_wp2
    go_returns
    exact ⟨by simp, S, hD.go (bDrewN HB.out q), Turn.below (bDrewN HB.out q)⟩
end
end Go.Proofs.YtbobakfcmkaijaaGreatDoor
end

section
/- The program's New, Fuse, Read, Synced. -/
namespace Go.Proofs.YtbobakfcmkaijaaGreatDoor
open Go.RowKit Go.Maps Go.WideMaps
set_option linter.unusedVariables false

set_option maxHeartbeats 1000000 in
set_option maxRecDepth 5000 in
theorem new_any (r : Nat) (hr : r ≤ 1073741824) (w : World) :
    Calls Tryz.prog 7 #[.int .i64 r] w fun e w' => ∃ S d, e = .returned (.tuple #[.pointer (some ⟨d, 0, none⟩), .int .i64 0]) ∧ Dk 0 w' S d (dNew r) ∧ Below w.heap.size w w' ∧ ∀ k, S k → w.heap.size ≤ k := by
  have h1 : ¬ (r : Int) < 0 := by omega
  have h2 : ¬ (1073741824 : Int) < r := by omega
  have hmm := @run_makeMap Tryz.prog
  go_enter Tryz.func7, Tryz.ntmps7
  go_wp2
  go_returns
  have hb : Below w.heap.size w ((w.alloc (.map #[] 0)).alloc (.cells #[.pointer (some ⟨w.heap.size + 1, 0, none⟩), .bool false, .int .i64 r, .int .i64 (-1), .int .i64 0, .map (some w.heap.size)] 45)) := ((Below.refl _ w).alloc (Nat.le_refl _) _).alloc (by simp) _
  refine ⟨fun k => k = w.heap.size ∨ k = w.heap.size + 1, w.heap.size + 1, rfl, ⟨w.heap.size, 0, .map [], fun _ => 0, fun _ => undef, ?_, Nat.zero_le _⟩, hb, fun k hk => by omega⟩
  have hx := Whole.new (w.alloc (.map #[] 0)) 45 #[.pointer (some ⟨w.heap.size + 1, 0, none⟩), .bool false, .int .i64 r, .int .i64 (-1), .int .i64 0, .map (some w.heap.size)]
  rw [World.size_alloc] at hx
  exact
    { top := by
        have : topCells (w.heap.size + 1) w.heap.size (dNew r) = #[.pointer (some ⟨w.heap.size + 1, 0, none⟩), .bool false, .int .i64 r, .int .i64 (-1), .int .i64 0, .map (some w.heap.size)] := by simp [topCells, dNew, left, used]
        rw [this]
        exact hx
      map := (World.ownsMap_made w Tryz.prog 9 ptrR).alloc _
      key := fun l z => rfl
      fil := fun l f hf => by cases hf
      inj := fun l l' f f' hf => by cases hf
      sd := .inr rfl
      sm := .inl rfl
      sb := fun l f hf => by cases hf
      lt := fun k hk => by simp; omega }
theorem new_bad (r : Int) (hr : r < 0 ∨ 1073741824 < r) (w : World) :
    Calls Tryz.prog 7 #[.int .i64 r] w fun e w' => e = .returned (.tuple #[.pointer none, .int .i64 2]) ∧ w' = w := by
  by_cases h1 : r < 0
  · go_enter Tryz.func7, Tryz.ntmps7
    go_wp2
    go_returns
    exact ⟨by simp, rfl⟩
  · have h2 : 1073741824 < r := by omega
    go_enter Tryz.func7, Tryz.ntmps7
    go_wp2
    go_returns
    exact ⟨by simp, rfl⟩

section
variable {S : Nat → Prop} {d mb nn : Nat} {M : DataW Unit} {blk : Nm → Nat} {vs : Nm → Value} {D : Dsk}
theorem fuse_any (n : Int) (w : World) (h : Dk 0 w S d D) :
    Calls Tryz.prog 17 #[.pointer (some ⟨d, 0, none⟩), .int .i64 n] w fun e w' => e = .returned (.int .i64 (dFuse D n).1) ∧ Dk 0 w' S d (dFuse D n).2 ∧ Turn S S w w' := by
  have hcon := refusal_none w h
  cases ho : D.off
  · rw [ho] at hcon
    by_cases hn : n < 0
    · have e : dFuse D n = (2, D) := by simp [dFuse, ho, hn]
      rw [e]
      go_enter Tryz.func17, Tryz.ntmps17
      go_wp2_with (refine hcon.mono ?_; rintro e w' ⟨rfl, rfl⟩)
      go_returns
      exact ⟨by simp, h, Turn.refl _ _⟩
    · have e : dFuse D n = (0, { D with fuse := n }) := by simp [dFuse, ho, hn]
      rw [e]
      obtain ⟨mb, nn, M, blk, vs, h, hnn⟩ := h
      have c3 := h.c3
      have f3 := h.fz 3
      have hh : Dk 0 (w.setCell ⟨d, 3, none⟩ (.int .i64 n)) S d { D with fuse := n } := ⟨mb, nn, M, blk, vs, h.head 3 _ _ rfl (by simp [topCells, left]), hnn⟩
      have ht : Turn S S w (w.setCell ⟨d, 3, none⟩ (.int .i64 n)) := ⟨(Outs.refl _ _).setCell (.inl h.sd) _, fun _ h => .inl h⟩
      have HH := Lib.hid hh
      have HT := Lib.hid ht
      clear hh ht e h
      go_enter Tryz.func17, Tryz.ntmps17
      go_wp2_with (refine hcon.mono ?_; rintro e w' ⟨rfl, rfl⟩)
      go_returns
      exact ⟨by simp, HH.out, HT.out⟩
  · rw [ho] at hcon
    have e : dFuse D n = (10, D) := by simp [dFuse, ho]
    rw [e]
    go_enter Tryz.func17, Tryz.ntmps17
    go_wp2_with (refine hcon.mono ?_; rintro e w' ⟨rfl, rfl⟩)
    go_returns
    exact ⟨by simp, h, Turn.refl _ _⟩

theorem dclone_any (A : Option Addr) (n c : Nat) (xs : List Int) (w : World) (hn : xs.length = n) (hl : n ≤ 140737488355328) (hr : Rds w w.heap.size A (c8 xs)) :
    Calls Tryz.prog 25 #[.slice A n c] w fun e w' => ∃ v, e = .returned v ∧ w'.ownsRow w.heap.size 5 1 v n (c8 xs) ∧ Below w.heap.size w w' := by
  cases A with
  | none =>
    obtain rfl : xs = [] := by
      cases xs with
      | nil => rfl
      | cons x r => obtain ⟨ad, e, _⟩ := hr (by simp [c8]); cases e
    obtain rfl : n = 0 := by simpa using hn.symm
    refine (Tryz.bytes_Clone_nil 0 c w).mono ?_
    rintro e w' ⟨rfl, rfl⟩
    exact ⟨_, rfl, World.ownsRow_nil _ _ _ _, Below.refl _ _⟩
  | some ad =>
    refine (Tryz.bytes_Clone_at ad n c xs w hn hl ?_).mono ?_
    · intro i hi
      have hi' : i < xs.length := by omega
      obtain ⟨ad', e, _, hc⟩ := hr.at_ (c8_get hi')
      obtain rfl := Option.some.inj e
      rw [hc, List.getD_eq_getElem?_getD, List.getElem?_eq_getElem hi']
      rfl
    · rintro e w' ⟨v, rfl, ho, _, hb⟩
      exact ⟨v, rfl, ho, hb⟩

theorem dRead_err {D : Dsk} {l : Nm} (h : fcode D l ≠ 0) : dRead D l = ([], fcode D l) := by
  unfold dRead
  unfold fcode at h ⊢
  by_cases ha : ask D [l] ≠ 0
  · simp only [if_pos ha]
  · simp only [if_neg ha] at h ⊢
    cases hn : find D.files l with
    | none => rfl
    | some f => rw [hn] at h; exact absurd rfl h
theorem dSynced_err {D : Dsk} {l : Nm} (h : fcode D l ≠ 0) : dSynced D l = (0, fcode D l) := by
  unfold dSynced
  unfold fcode at h ⊢
  by_cases ha : ask D [l] ≠ 0
  · simp only [if_pos ha]
  · simp only [if_neg ha] at h ⊢
    cases hn : find D.files l with
    | none => rfl
    | some f => rw [hn] at h; exact absurd rfl h

set_option maxHeartbeats 1000000 in
set_option maxRecDepth 5000 in
theorem read_any (s : ByteArray) (hs : s.size ≤ 9223372036854775807) (w : World) (h : Dk 0 w S d D) (hb30 : ∀ l f, find D.files l = some f → f.bs.length ≤ 1073741824) :
    Calls Tryz.prog 72 #[.pointer (some ⟨d, 0, none⟩), .string s] w fun e w' => ∃ v, e = .returned (.tuple #[v, .int .i64 (dRead D (lst s)).2]) ∧ w'.ownsRow w.heap.size 5 1 v (dRead D (lst s)).1.length (c8 (dRead D (lst s)).1) ∧ Below w.heap.size w w' := by
  obtain ⟨mb, nn, M, blk, vs, h, hnn⟩ := h
  have hcon := find_any s hs w h hnn
  by_cases hc : fcode D (lst s) = 0
  · obtain ⟨ha, f, hf⟩ := fcode_ok hc
    have e1 : fpt D blk (lst s) = .pointer (some ⟨blk (lst s), 0, none⟩) := by simp [fpt, hc]
    have e2 : dRead D (lst s) = (f.bs, 0) := by
      unfold dRead
      rw [if_neg (by simp [ha]), hf]
    rw [e1, hc] at hcon
    rw [e2]
    clear e1 e2 hc
    have hlen := hb30 _ f hf
    obtain ⟨hW, hR⟩ := h.fil _ f hf
    obtain ⟨A, c, hv, hr, hnc, hcm, hA0⟩ := own_open hR
    generalize f.bs = xs at *
    generalize hN : xs.length = N at *
    generalize blk (lst s) = bk at *
    go_enter Tryz.func72, Tryz.ntmps72
    go_wp2_with fail
    refine hcon.mono ?_
    rintro e w1 ⟨rfl, hb⟩
    have w0 : w1.cell? ⟨bk, 0, none⟩ = some (.slice A N c) := by rw [← hv]; exact (hW.below hb hW.lt).cell 0
    have hr1 := (hr.below hb).more hb.size
    have hcl := dclone_any A N c xs w1 hN (by omega) hr1
    clear hW hR hr hr1 hv hcon hA0 hnc hcm h hf
    clear hN
    go_wp2_with fail
    refine hcl.mono ?_
    rintro e w2 ⟨v, rfl, ho, hb2⟩
    have HO := Lib.hid (ownRow_base ho (B' := w.heap.size) (fun g hg => Nat.le_trans hb.size (ownRow_block ho hg).1))
    have HB := Lib.hid (hb.trans (hb2.mono hb.size))
    clear ho hb2 hcl w0
    go_wp2
    go_returns
    exact ⟨v, by simp, HO.out, HB.out⟩
  · have e1 : fpt D blk (lst s) = .pointer none := by simp [fpt, hc]
    rw [dRead_err hc]
    have hn : (fcode D (lst s) != 0) = true := by simpa using hc
    rw [e1] at hcon
    generalize fcode D (lst s) = c at *
    clear hc e1 h
    go_enter Tryz.func72, Tryz.ntmps72
    go_wp2_with fail
    refine hcon.mono ?_
    rintro e w1 ⟨rfl, hb⟩
    go_wp2
    go_returns
    exact ⟨_, by simp, World.ownsRow_nil _ _ _ _, hb⟩

set_option maxHeartbeats 1000000 in
set_option maxRecDepth 5000 in
theorem synced_any (s : ByteArray) (hs : s.size ≤ 9223372036854775807) (w : World) (h : Dk 0 w S d D) :
    Calls Tryz.prog 44 #[.pointer (some ⟨d, 0, none⟩), .string s] w fun e w' => e = .returned (.tuple #[.int .i64 (dSynced D (lst s)).1, .int .i64 (dSynced D (lst s)).2]) ∧ Below w.heap.size w w' := by
  obtain ⟨mb, nn, M, blk, vs, h, hnn⟩ := h
  have hcon := find_any s hs w h hnn
  by_cases hc : fcode D (lst s) = 0
  · obtain ⟨ha, f, hf⟩ := fcode_ok hc
    have e1 : fpt D blk (lst s) = .pointer (some ⟨blk (lst s), 0, none⟩) := by simp [fpt, hc]
    have e2 : dSynced D (lst s) = (f.sy, 0) := by
      unfold dSynced
      rw [if_neg (by simp [ha]), hf]
    rw [e1, hc] at hcon
    rw [e2]
    clear e1 e2 hc
    obtain ⟨hW, hR⟩ := h.fil _ f hf
    generalize f.sy = N at *
    generalize blk (lst s) = bk at *
    go_enter Tryz.func44, Tryz.ntmps44
    go_wp2_with fail
    refine hcon.mono ?_
    rintro e w1 ⟨rfl, hb⟩
    have w0 : w1.cell? ⟨bk, 1, none⟩ = some (.int .i64 N) := (hW.below hb hW.lt).cell 1
    clear hW hR hcon h hf
    go_wp2
    go_returns
    exact ⟨by simp, hb⟩
  · have e1 : fpt D blk (lst s) = .pointer none := by simp [fpt, hc]
    rw [dSynced_err hc]
    have hn : (fcode D (lst s) != 0) = true := by simpa using hc
    rw [e1] at hcon
    generalize fcode D (lst s) = c at *
    clear hc e1 h
    go_enter Tryz.func44, Tryz.ntmps44
    go_wp2_with fail
    refine hcon.mono ?_
    rintro e w1 ⟨rfl, hb⟩
    go_wp2
    go_returns
    exact ⟨by simp, hb⟩
end
end Go.Proofs.YtbobakfcmkaijaaGreatDoor
end

section
/- A file goes from the disk, or gets another name; the program's Remove. -/
namespace Go.Proofs.YtbobakfcmkaijaaGreatDoor
open Go.RowKit Go.Maps Go.WideMaps
set_option linter.unusedVariables false

section
variable {S : Nat → Prop} {d mb nn : Nat} {M : DataW Unit} {blk : Nm → Nat} {vs : Nm → Value} {D : Dsk}

theorem str_ne {l m : Nm} (h : l ≠ m) : (Lit.string l) ≠ .string m := fun e => h (by injection e)

theorem DkAt.dropFile {w w' : World} (h : DkAt w S d mb nn M blk vs D) {l : Nm} (D' : Dsk) (hfiles : D'.files = del l D.files)
    (hsz : w.heap.size ≤ w'.heap.size) (ho : ∀ k, k < w.heap.size → k ≠ d → k ≠ mb → w'.heap[k]? = w.heap[k]?) (htop : Whole w' d 45 (topCells d mb D'))
    (n' : Nat) (hM : w'.ownsMap Tryz.prog 9 ptrR mb n' (M.del (.string l))) :
    DkAt w' S d mb n' (M.del (.string l)) blk vs D' := by
  have hfd : ∀ m, find D'.files m = if l = m then none else find D.files m := fun m => by rw [hfiles, find_del]
  have old : ∀ m f', find D'.files m = some f' → l ≠ m ∧ find D.files m = some f' := by
    intro m f' hm
    rw [hfd] at hm
    by_cases e : l = m
    · rw [if_pos e] at hm; cases hm
    · rw [if_neg e] at hm; exact ⟨e, hm⟩
  refine { top := htop, map := hM, key := ?_, fil := ?_, inj := ?_, sd := h.sd, sm := h.sm, sb := ?_, lt := fun k hk => Nat.lt_of_lt_of_le (h.lt k hk) hsz }
  · intro m z
    rw [hfd]
    by_cases e : l = m
    · subst e
      rw [atKey_del_same, if_pos rfl]
    · rw [atKey_del_other (str_ne (Ne.symm e)), h.key, if_neg e]
  · intro m f' hm
    obtain ⟨hne, hq⟩ := old m f' hm
    exact ⟨(ho _ (h.blt hq) (h.ne_blk hq) (h.ne_map hq)).trans (h.fil m f' hq).1, ownRow_block_kept (h.fil m f' hq).2 fun k hk => ho _ (h.rlt hq hk) (h.ne_row hq hk) (h.ne_rowm hq hk)⟩
  · intro m m' f1 f2 h1 h2 hne
    exact h.inj m m' f1 f2 (old m f1 h1).2 (old m' f2 h2).2 hne
  · intro m f' hm
    exact h.sb m f' (old m f' hm).2

theorem DkAt.moveFile {w w' : World} (h : DkAt w S d mb nn M blk vs D) {l m : Nm} {f : Fl} (hf : find D.files l = some f) (hm : find D.files m = none) (D' : Dsk) (hfiles : D'.files = ins { f with nm := m } (del l D.files))
    (hsz : w.heap.size ≤ w'.heap.size) (ho : ∀ k, k < w.heap.size → k ≠ mb → w'.heap[k]? = w.heap[k]?) (htc : topCells d mb D' = topCells d mb D)
    (n' : Nat) (hM : w'.ownsMap Tryz.prog 9 ptrR mb n' ((M.del (.string l)).put (.string m) (.lit (.int .i64 (blk l))))) :
    DkAt w' S d mb n' ((M.del (.string l)).put (.string m) (.lit (.int .i64 (blk l)))) (fun x => if x = m then blk l else blk x) (fun x => if x = m then vs l else vs x) D' := by
  have hlm : l ≠ m := fun e => by rw [e, hm] at hf; cases hf
  have hdm : find (del l D.files) m = none := by rw [find_del, if_neg hlm, hm]
  have hfd : ∀ x, find D'.files x = if m = x then some { f with nm := m } else if l = x then none else find D.files x := fun x => by
    rw [hfiles, find_ins (f := { f with nm := m }) hdm, find_del]
  have old : ∀ x f', find D'.files x = some f' → x ≠ m → l ≠ x ∧ find D.files x = some f' := by
    intro x f' hx hne
    rw [hfd, if_neg (Ne.symm hne)] at hx
    by_cases e : l = x
    · rw [if_pos e] at hx; cases hx
    · rw [if_neg e] at hx; exact ⟨e, hx⟩
  refine { top := by rw [htc]; exact (ho d (h.lt _ h.sd) h.top_map).trans h.top, map := hM, key := ?_, fil := ?_, inj := ?_, sd := h.sd, sm := h.sm, sb := ?_, lt := fun k hk => Nat.lt_of_lt_of_le (h.lt k hk) hsz }
  · intro x z
    rw [hfd]
    by_cases e : m = x
    · subst e
      rw [atKey_put_same (h.map.isMap.del _) (keyLit m)]
      simp
    · rw [atKey_put_other (str_ne (Ne.symm e)), if_neg e]
      by_cases e2 : l = x
      · subst e2
        rw [atKey_del_same, if_pos rfl]
      · rw [atKey_del_other (str_ne (Ne.symm e2)), h.key, if_neg e2]
        cases find D.files x <;> simp [Ne.symm e]
  · intro x f' hx
    by_cases e : x = m
    · subst e
      rw [hfd, if_pos rfl] at hx
      obtain rfl := Option.some.inj hx
      simp only [if_pos]
      exact ⟨(ho _ (h.blt hf) (h.ne_map hf)).trans (h.fil l f hf).1, ownRow_block_kept (h.fil l f hf).2 fun k hk => ho _ (h.rlt hf hk) (h.ne_rowm hf hk)⟩
    · obtain ⟨hne, hq⟩ := old x f' hx e
      simp only [if_neg e]
      exact ⟨(ho _ (h.blt hq) (h.ne_map hq)).trans (h.fil x f' hq).1, ownRow_block_kept (h.fil x f' hq).2 fun k hk => ho _ (h.rlt hq hk) (h.ne_rowm hq hk)⟩
  · intro x y f1 f2 h1 h2 hne
    by_cases e1 : x = m
    · have e2 : y ≠ m := fun e => hne (e1.trans e.symm)
      obtain ⟨hy, hq⟩ := old y f2 h2 e2
      simp only [if_pos e1, if_neg e2]
      exact h.inj l y f f2 hf hq hy
    · obtain ⟨hx, hq⟩ := old x f1 h1 e1
      by_cases e2 : y = m
      · simp only [if_neg e1, if_pos e2]
        exact h.inj x l f1 f hq hf (Ne.symm hx)
      · simp only [if_neg e1, if_neg e2]
        exact h.inj x y f1 f2 hq (old y f2 h2 e2).2 hne
  · intro x f' hx
    by_cases e : x = m
    · simp only [if_pos e]
      exact h.sb l f hf
    · simp only [if_neg e]
      exact h.sb x f' (old x f' hx e).2

set_option maxHeartbeats 1000000 in
set_option maxRecDepth 5000 in
theorem forget_any (s : ByteArray) (hs : s.size ≤ maxLen) (w : World) (h : DkAt w S d mb nn M blk vs D) (hok : Okd D) :
    Calls Tryz.prog 94 #[.pointer (some ⟨d, 0, none⟩), .string s] w fun e w' => e = .returned (.tuple #[]) ∧ ∃ M', DkAt w' S d mb nn M' blk vs { D with files := del (lst s) D.files } ∧ Outs S w w' := by
  have c5 := h.c5
  have hlook := look_at h s hs
  cases hf : find D.files (lst s) with
  | none =>
    have e2 : fptr D blk (lst s) = .pointer none := by simp [fptr, hf]
    rw [e2] at hlook
    go_enter Tryz.func94, Tryz.ntmps94
    go_wp2
    go_returns
    refine ⟨by simp, M, ?_, Outs.refl _ _⟩
    rw [del_none hf]
    exact h
  | some f =>
    have e2 : fptr D blk (lst s) = .pointer (some ⟨blk (lst s), 0, none⟩) := by simp [fptr, hf]
    rw [e2] at hlook
    obtain ⟨hW, hR⟩ := h.fil _ f hf
    obtain ⟨A, c, hv, hr, hnc, hcm, hA0⟩ := own_open hR
    have w0 : w.cell? ⟨blk (lst s), 0, none⟩ = some (.slice A f.bs.length c) := by rw [← hv]; exact hW.cell 0
    have c2 := h.c2
    have f2 := h.fz 2
    have hu := used_del hok.srt hf
    have hl2 : left D + f.bs.length = left { D with files := del (lst s) D.files } := by simp only [left]; omega
    have hl0 : 0 ≤ left D := by have := hok.fits; simp only [left]; omega
    have hl3 : left D ≤ 1073741824 := by have := hok.room; simp only [left]; omega
    have hn30 : f.bs.length ≤ 1073741824 := by have := hok.fits; have := hok.room; omega
    -- the world behind the room's store
    have hset : DkAt ((w.setCell ⟨d, 2, none⟩ (.int .i64 (left D + f.bs.length))).drew) S d mb nn M blk vs { D with room := D.room + f.bs.length } :=
      (DkAt.head h 2 _ { D with room := D.room + f.bs.length } rfl (by simp only [topCells, left]; simp; omega)).go (bDrewN (Below.refl _ _) 1)
    have k5 := h.c5
    have ho1 : Outs S w ((w.setCell ⟨d, 2, none⟩ (.int .i64 (left D + f.bs.length))).drew) := ((Outs.refl S w).setCell (p := ⟨d, 2, none⟩) (.inl h.sd) _).drew
    have hb1 : ∀ k, k ≠ d → ((w.setCell ⟨d, 2, none⟩ (.int .i64 (left D + f.bs.length))).drew).heap[k]? = w.heap[k]? := fun k hk => Below.heap_setCell _ _ _ _ hk
    have k5 : (w.setCell ⟨d, 2, none⟩ (.int .i64 (left D + f.bs.length))).cell? ⟨d, 5, none⟩ = some (.map (some mb)) := hset.c5
    obtain ⟨w3, hrun, hM, hturn⟩ := hset.map.drop lawS Tryz.underlying43 (keyS s hs) 0
    have hgr := hturn.grown
    have hsz1 : ((w.setCell ⟨d, 2, none⟩ (.int .i64 (left D + f.bs.length))).drew).heap.size = w.heap.size := by simp [World.setCell, World.drew]
    have hfin : DkAt w3 S d mb nn (M.del (.string (lst s))) blk vs { D with files := del (lst s) D.files } := by
      refine h.dropFile _ rfl ?_ ?_ ?_ nn hM
      · exact Nat.le_trans (Nat.le_of_eq hsz1.symm) hgr.size
      · intro k hk h1 h2
        exact (hgr.block k (by omega) (fun e => h2 (by injection e))).trans (hb1 k h1)
      · have := hset.top.grown hgr (fun e => h.top_map (by injection e))
        have e : topCells d mb { D with room := D.room + f.bs.length } = topCells d mb { D with files := del (lst s) D.files } := by
          simp only [topCells, left]
          congr 5
          simp
          omega
        rwa [e] at this
    have hOut : Outs S w w3 := ho1.grown hgr (fun k hk => by cases hk; exact .inl h.sm)
    have HF := Lib.hid hfin
    have HO := Lib.hid hOut
    generalize hbk : blk (lst s) = bk at *
    generalize hN : f.bs.length = N at *
    clear hset hl2 hv hr hR hW hnc hfin hOut hgr hM hturn hb1 ho1 hu
    generalize hLD : left D = L at *
    go_enter Tryz.func94, Tryz.ntmps94
    go_wp2
    go_still_tail 12, (by kernel_rfl)
    change wpList _ _ _ _ _ w.drew
    go_wp2
    go_returns
    exact ⟨by simp, _, HF.out, HO.out⟩
end
end Go.Proofs.YtbobakfcmkaijaaGreatDoor
end

section
/- The program's Remove and Rename. -/
namespace Go.Proofs.YtbobakfcmkaijaaGreatDoor
open Go.RowKit Go.Maps Go.WideMaps
set_option linter.unusedVariables false

theorem okd_burn {D : Dsk} (h : Okd D) : Okd (burn D) :=
  ⟨h.srt, h.nms, h.sy, h.fits, h.room, by have := h.fuse0; simp only [burn]; split <;> omega, by have := h.fuse1; simp only [burn]; split <;> omega⟩

theorem dRemove_err {D : Dsk} {l : Nm} (h : fcode D l ≠ 0) : dRemove D l = (fcode D l, D) := by
  unfold dRemove
  unfold fcode at h ⊢
  by_cases ha : ask D [l] ≠ 0
  · simp only [if_pos ha]
  · simp only [if_neg ha] at h ⊢
    by_cases hn : (find D.files l).isNone = true
    · simp only [if_pos hn]
    · simp only [if_neg hn] at h
      exact absurd rfl h

section
variable {S : Nat → Prop} {d mb nn : Nat} {M : DataW Unit} {blk : Nm → Nat} {vs : Nm → Value} {D : Dsk}

set_option maxHeartbeats 1000000 in
theorem remove1_any (s : ByteArray) (hs : s.size ≤ maxLen) (b1 b2 : Nat) (w : World) (h : DkAt w S d mb nn M blk vs D) (hnn : nn ≤ D.steps) (hok : Okd D)
    (h1 : Whole w b1 23 #[.pointer (some ⟨d, 0, none⟩)]) (h2 : Whole w b2 9 #[.string s]) :
    Calls Tryz.prog 93 #[.pointer (some ⟨b1, 0, none⟩), .pointer (some ⟨b2, 0, none⟩)] w fun e w2 => e = .returned (.tuple #[]) ∧ ∃ S', Dk 1 w2 S' d { D with files := del (lst s) D.files } ∧ Turn S S' w w2 := by
  have c1 : w.cell? ⟨b1, 0, none⟩ = some (.pointer (some ⟨d, 0, none⟩)) := h1.cell 0
  have c2 : w.cell? ⟨b2, 0, none⟩ = some (.string s) := h2.cell 0
  have hcon := forget_any s hs w h hok
  clear h1 h2 h
  go_enter Tryz.func93, Tryz.ntmps93
  go_wp2_with fail
  refine hcon.mono ?_
  rintro e w2 ⟨rfl, M', h2, ho⟩
  have H2 := Lib.hid h2
  have HO := Lib.hid ho
  clear h2 ho hcon
  go_wp2
  go_returns
  exact ⟨by simp, S, ⟨mb, nn, M', blk, vs, H2.out, by show nn ≤ D.steps + 1; omega⟩, ⟨HO.out, fun k hk => .inl hk⟩⟩
theorem remove1_enters : ∀ args w, (callFunc 93 args).run Tryz.prog w = .ok (.enter 93 args) w := enters_of Tryz.func93 (by kernel_rfl) rfl

set_option maxHeartbeats 2000000 in
set_option maxRecDepth 5000 in
theorem remove_any (s : ByteArray) (hs : s.size ≤ 9223372036854775807) (w : World) (h : Dk 0 w S d D) (hr : Room D) (hok : Okd D) :
    Calls Tryz.prog 63 #[.pointer (some ⟨d, 0, none⟩), .string s] w fun e w' => e = .returned (.int .i64 (dRemove D (lst s)).1) ∧ ∃ S', Dk 0 w' S' d (dRemove D (lst s)).2 ∧ Turn S S' w w' := by
  obtain ⟨mb, nn, M, blk, vs, h, hnn⟩ := h
  obtain ⟨W1, hW1⟩ : ∃ W1, W1 = (w.alloc (.cells #[.pointer (some ⟨d, 0, none⟩)] 23)).alloc (.cells #[.string s] 9) := ⟨_, rfl⟩
  have hb : Below w.heap.size w W1 := by rw [hW1]; exact ((Below.refl _ w).alloc (Nat.le_refl _) _).alloc (by simp) _
  have x1 : Whole W1 w.heap.size 23 #[.pointer (some ⟨d, 0, none⟩)] := by rw [hW1]; exact (Whole.new w _ _).alloc _
  have x2 : Whole W1 (w.heap.size + 1) 9 #[.string s] := by
    rw [hW1]
    have := Whole.new (w.alloc (.cells #[.pointer (some ⟨d, 0, none⟩)] 23)) 9 #[.string s]
    rw [World.size_alloc] at this
    exact this
  have h1 := h.go hb
  have hcon := find_any s hs W1 h1 hnn
  have HX := Lib.hid hW1
  clear hW1
  have hD : Dk 0 w S d D := ⟨mb, nn, M, blk, vs, h, hnn⟩
  by_cases hc : fcode D (lst s) = 0
  · obtain ⟨ha, f, hf⟩ := fcode_ok hc
    have e1 : fpt D blk (lst s) = .pointer (some ⟨blk (lst s), 0, none⟩) := by simp [fpt, hc]
    have e2 : dRemove D (lst s) = dStep D (del (lst s)) := by
      unfold dRemove
      rw [if_neg (by simp [ha]), hf]
      rfl
    rw [e1, hc] at hcon
    rw [e2]
    clear e1 e2 hc
    generalize blk (lst s) = bk at hcon
    go_enter Tryz.func63, Tryz.ntmps63
    go_wp2_with fail
    rw [← HX.out]
    refine hcon.mono ?_
    rintro e w1 ⟨rfl, hb1⟩
    have y1 := x1.below hb1 x1.lt
    have y2 := x2.below hb1 x2.lt
    have c1 : w1.cell? ⟨w.heap.size, 0, none⟩ = some (.pointer (some ⟨d, 0, none⟩)) := y1.cell 0
    have hb2 : Below w.heap.size w w1 := hb.trans (hb1.mono hb.size)
    have hcon2 := step_any 93 #[.pointer (some ⟨w.heap.size, 0, none⟩), .pointer (some ⟨w.heap.size + 1, 0, none⟩)] (del (lst s)) w1 (h.go hb2) hnn (by have := hr.steps; omega) hr.f0 hr.f1 remove1_enters
      (fun w3 h3 ho hsz => remove1_any s hs w.heap.size (w.heap.size + 1) w3 h3 hnn (okd_burn hok) (y1.outs ho (fun e => Nat.lt_irrefl _ (h.lt _ e))) (y2.outs ho (fun e => by have := h.lt _ e; omega)))
    clear hcon x1 x2 y1 y2 h1 hb hb1 HX
    go_wp2_with fail
    refine hcon2.mono ?_
    rintro e w3 ⟨rfl, S', hk, ht⟩
    have HK := Lib.hid hk
    have HT := Lib.hid ((Turn.below hb2).trans ht)
    clear hcon2 hk ht hb2
    go_wp2
    go_returns
    exact ⟨by simp, S', HK.out, HT.out⟩
  · have e1 : fpt D blk (lst s) = .pointer none := by simp [fpt, hc]
    rw [dRemove_err hc]
    have hn : (fcode D (lst s) != 0) = true := by simpa using hc
    rw [e1] at hcon
    generalize fcode D (lst s) = c at *
    clear hc e1 h h1
    go_enter Tryz.func63, Tryz.ntmps63
    go_wp2_with fail
    rw [← HX.out]
    refine hcon.mono ?_
    rintro e w1 ⟨rfl, hb1⟩
    have hb2 : Below w.heap.size w w1 := hb.trans (hb1.mono hb.size)
    clear hb hb1 x1 x2 hcon HX
    go_wp2
    go_returns
    exact ⟨by simp, S, hD.go hb2, Turn.below hb2⟩
end
end Go.Proofs.YtbobakfcmkaijaaGreatDoor
end
