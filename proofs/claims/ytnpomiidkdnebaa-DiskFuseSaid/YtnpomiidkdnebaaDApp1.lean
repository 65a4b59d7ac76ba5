/- Bytes come behind a file's end. -/
import Derived.Test.YtnpomiidkdnebaaDSeq
import Derived.Deep.RegionLaw
namespace Go.Proofs.Ytnpomiidkdnebaa
open Go.RowKit Go.Maps Go.WideMaps
set_option linter.unusedVariables false

/-- 'append(s, x...)' to a row of the call's own, x a slice that is nil or not: only the row's own block has turned, or the row is new -/
theorem run_app_at {P : Program} (w : World) (t ty e : TypeId) (i : TypeInfo) (z : Value) (ht : P.underlying t = some (.slice e)) (hi : P.info? e = some i) (hz : i.zero = some z) (hsize : i.size = 1) (hby : i.bytes = 1) (hzs : z.cells.size = 1)
    {B : Nat} {v : Value} {n : Nat} {xs : List Value} (hown : w.ownsRow B e 1 v n xs) {A : Option Addr} {c lim m : Nat} {news : List Value} (hr : Rds w lim A news) (hA : A = none → c = 0) (h1 : ∀ u ∈ news, u.oneCell' = true) (hm : news.length = m)
    (hn : n + m ≤ 140737488355328) (hB : B ≤ w.heap.size) :
    ∃ v' w', (Builtin.append_ #[t, t] ty #[v, .slice A m c]).run P w = .ok v' w' ∧ w'.ownsRow B e 1 v' (n + m) (xs ++ news) ∧ w.grownBy w' v.ownBlock ∧ (v'.ownBlock = v.ownBlock ∨ v'.ownBlock = some w.heap.size) := by
  subst hm
  cases A with
  | none =>
    have hnews : news = [] := by
      cases news with
      | nil => rfl
      | cons u us => obtain ⟨ad, e, _⟩ := hr (by simp); cases e
    subst hnews
    obtain rfl := hA rfl
    exact ⟨v, w, run_append_owned_none (P := P) w B t ty e i 1 ht hi v n xs hown, by simpa using hown, World.grownBy.refl w _, .inl rfl⟩
  | some ad =>
    have hcells : ∀ j u, news[j]? = some u → w.cell? (ad.add j) = some u := fun j u hu => by
      obtain ⟨ad', e, _, hc⟩ := hr.at_ hu
      obtain rfl := Option.some.inj e
      exact hc
    obtain ⟨v', w', hrun, h2, h3, _, h4⟩ := run_append_own_at (P := P) w B t ty e i z 1 1 ht hi hz hsize hby hzs (by decide) v n xs hown ad news.length c news (by simp) hcells h1 (by unfold maxLen; omega) (by omega) hB
    exact ⟨v', w', hrun, h2, h3, h4⟩

/-- an append whose run is known, as a step of a region that draws -/
theorem step_run {P : Program} {w w' : World} {ops : Array Oper} {o : Oper} {a : Act} {K : Act → World → Prop} {Q : Exit → Act → World → Prop} {E : Prop} (hgd : o.guard = none) (s x : Operand) (t : TypeId)
    (ho : o.op = .call { callee := .builtin .append, args := #[s, x], argTypes := #[t, t] }) (v u v' : Value) (hs : a.eval s = v) (hx : a.eval x = u) (hrun : (Builtin.append_ #[t, t] o.type #[v, u]).run P w = .ok v' w')
    (h : K (a.put o.dst v') w') : if Region.wanted o (yielded ops a.tmps) = true then Oper.wp P o a w K Q else E := by
  have hw : Region.wanted o (yielded ops a.tmps) = true := by simp [Region.wanted, hgd]
  rw [if_pos hw]
  unfold Oper.wp
  simp [execOp, ho, resolve, invoke, builtin, hs, hx, hrun, Result.andThen]
  exact h

section
variable {S : Nat → Prop} {d mb nn : Nat} {M : DataW Unit} {blk : Nm → Nat} {vs : Nm → Value} {D : Dsk}

def putb (p : List Int) (f : Fl) : Fl := { f with bs := f.bs ++ p }

set_option maxHeartbeats 2000000 in
set_option maxRecDepth 8000 in
theorem append1_any {l : Nm} {f : Fl} (p : List Int) (Ap : Option Addr) (m c b1 b2 b3 : Nat) (w : World) (h : DkAt w S d mb nn M blk vs D) (hs : Srt D.files) (hf : find D.files l = some f) (hpm : p.length = m) (hm : m ≤ 64) (hlen : f.bs.length ≤ 70368744177664)
    (hL0 : -70368744177664 ≤ left D) (hL1 : left D ≤ 70368744177664)
    (h1 : Whole w b1 66 #[.pointer (some ⟨blk l, 0, none⟩)]) (h2 : Whole w b2 29 #[.slice Ap m c]) (h3 : Whole w b3 23 #[.pointer (some ⟨d, 0, none⟩)]) (hr : Rds w w.heap.size Ap (c8 p)) (hA0 : Ap = none → c = 0)
    (n1 : ¬ S b1) (n2 : ¬ S b2) (n3 : ¬ S b3) :
    Calls Try.prog 38 #[.pointer (some ⟨b1, 0, none⟩), .pointer (some ⟨b2, 0, none⟩), .pointer (some ⟨b3, 0, none⟩)] w fun e w2 => e = .returned (.tuple #[]) ∧ ∃ S' vs', DkAt w2 S' d mb nn M blk vs' { D with files := put1 l p D.files } ∧ Turn S S' w w2 := by
  obtain ⟨hW, hR⟩ := h.fil l f hf
  obtain ⟨i0, hi, hz0, hz1, hz2⟩ := info_parts info8
  have hWd : Whole w.drew (blk l) 69 #[vs l, .int .i64 f.sy] := hW
  have hRd : w.drew.ownsRow 0 5 1 (vs l) f.bs.length (c8 f.bs) := hR
  have hrd : Rds w.drew w.heap.size Ap (c8 p) := hr
  obtain ⟨v', w2, hrun, hR2, hg, hloc⟩ := run_app_at (P := Try.prog) w.drew 29 29 5 i0 (.int .u8 0) Try.underlying29 hi hz0 hz1 hz2 rfl hRd hrd hA0 (c8_one p) (by rw [c8_length, hpm]) (by omega) (Nat.zero_le _)
  obtain ⟨A', c', rfl, hr2, hnc2, _, _⟩ := own_open hR2
  obtain ⟨A, cp, hv, _, hnc, _, _⟩ := own_open hR
  rw [← c8_append] at hR2
  have hg1 : ∀ k, k < w.heap.size → (vs l).ownBlock ≠ some k → w2.heap[k]? = w.heap[k]? := fun k hk hne => hg.block k hk (fun e => hne e.symm)
  have hsz : w.heap.size ≤ w2.heap.size := hg.size
  have hbw : Whole w2 (blk l) 69 #[vs l, .int .i64 f.sy] := (hg1 _ (h.blt hf) (fun e => h.ne_rowb hf hf e rfl)).trans hW
  -- behind the bytes
  have hfile : DkAt (w2.setCell ⟨blk l, 0, none⟩ (.slice A' (f.bs.length + m) c')) (More S w (w2.setCell ⟨blk l, 0, none⟩ (.slice A' (f.bs.length + m) c'))) d mb nn M blk (fun x => if x = l then .slice A' (f.bs.length + m) c' else vs x) { D with files := put1 l p D.files, room := D.room + m } := by
    refine h.turnFile hf (putb p) (fun _ => rfl) _ _ rfl (by simp [World.setCell]; exact hsz) ?_ ?_ ?_ ?_ ?_
    · intro k hk e1 e2 e3
      rw [Below.heap_setCell _ _ _ _ e2]
      exact hg1 k hk e3
    · have e : topCells d mb { D with files := put1 l p D.files, room := D.room + m } = topCells d mb D := by
        simp only [topCells, left]
        rw [used_put1 hs hf, hpm]
        congr 5
        omega
      rw [e]
      exact (show Whole w2 d _ _ from (hg1 _ (h.lt _ h.sd) (fun e => h.ne_row hf e rfl)).trans h.top).far (p := ⟨blk l, 0, none⟩) (h.ne_blk hf).symm _
    · exact hbw.put 0 _
    · refine ownRow_block_kept (w := w2) ?_ fun g hg' => Below.heap_setCell _ _ _ _ (fun e => ?_)
      · simp only [putb, List.length_append, hpm]
        exact hR2
      · rcases hloc with hl | hl
        · rw [hl] at hg'
          exact h.ne_rowb hf hf hg' e
        · rw [hl] at hg'
          injection hg' with hg'
          have := h.blt hf
          have e2 : g = blk l := e
          have e4 : w.drew.heap.size = w.heap.size := rfl
          omega
    · rcases hloc with hl | hl
      · exact .inl hl
      · exact .inr fun k hk => by rw [hl] at hk; injection hk with hk; have e4 : w.drew.heap.size = w.heap.size := rfl; omega
  have hT1 : Turn S (More S w (w2.setCell ⟨blk l, 0, none⟩ (.slice A' (f.bs.length + m) c'))) w (w2.setCell ⟨blk l, 0, none⟩ (.slice A' (f.bs.length + m) c')) := by
    refine ⟨((((Outs.refl S w).drew).grown hg (fun k hk => .inl ((h.sb l f hf).2 k hk))).setCell (p := ⟨blk l, 0, none⟩) (.inl (h.sb l f hf).1) _), more_new⟩
  have hll : left { D with files := put1 l p D.files, room := D.room + m } = left D := by
    simp only [left]
    rw [used_put1 hs hf, hpm]
    omega
  have c1 : w.cell? ⟨b1, 0, none⟩ = some (.pointer (some ⟨blk l, 0, none⟩)) := h1.cell 0
  have c2 : w.cell? ⟨b2, 0, none⟩ = some (.slice Ap m c) := h2.cell 0
  have w0 : w.cell? ⟨blk l, 0, none⟩ = some (.slice A f.bs.length cp) := by rw [← hv]; exact hW.cell 0
  have x0 : w2.cell? ⟨blk l, 0, none⟩ = some (.slice A f.bs.length cp) := by rw [← hv]; exact hbw.cell 0
  have xb1 : w2.cell? ⟨b1, 0, none⟩ = some (.pointer (some ⟨blk l, 0, none⟩)) := (show Whole w2 b1 _ _ from (hg1 _ h1.lt (fun e => n1 ((h.sb l f hf).2 _ e))).trans h1).cell 0
  have xf : w2.frozen? ⟨blk l, 0, none⟩ = false := hbw.frozen 0
  rw [hv] at hrun
  have hT1o := hT1.outs
  have y2 := h2.outs hT1o n2
  have y3 := h3.outs hT1o n3
  generalize hW3 : w2.setCell ⟨blk l, 0, none⟩ (.slice A' (f.bs.length + m) c') = w3 at *
  have d2 : w3.cell? ⟨d, 2, none⟩ = some (.int .i64 (left D)) := by rw [hfile.c2, hll]
  have df : w3.frozen? ⟨d, 2, none⟩ = false := hfile.fz 2
  have z2 : w3.cell? ⟨b2, 0, none⟩ = some (.slice Ap m c) := y2.cell 0
  have z3 : w3.cell? ⟨b3, 0, none⟩ = some (.pointer (some ⟨d, 0, none⟩)) := y3.cell 0
  have hfin : ∃ S' vs', DkAt ((w3.setCell ⟨d, 2, none⟩ (.int .i64 (left D - m))).drew) S' d mb nn M blk vs' { D with files := put1 l p D.files } ∧ Turn S S' w ((w3.setCell ⟨d, 2, none⟩ (.int .i64 (left D - m))).drew) := by
    refine ⟨_, _, (DkAt.roomy (D := { D with files := put1 l p D.files }) (r := D.room + m) hfile _ ?_).go (bDrewN (Below.refl _ _) 1), ⟨(hT1o.setCell (p := ⟨d, 2, none⟩) (.inl h.sd) _).drew, hT1.new⟩⟩
    simp only [left]
    rw [used_put1 hs hf, hpm]
    omega
  have HF := Lib.hid hfin
  have HW3 := Lib.hid hW3
  clear hfin hfile hT1 hT1o y2 y3 hbw hg1 hg hR2 hr2 hrd hRd hWd hW hR hr h1 h2 h3 hv hll hloc hW3 h hf
  generalize f.bs.length = N at *
  generalize left D = LL at *
  generalize blk l = bk at *
  go_enter Try.func38, Try.ntmps38
  go_wp2
  go_region_law (refine step_run rfl (.tmp 7) (.tmp 8) 29 rfl _ _ _ rfl rfl hrun ?_)
  all_goals (
    rw [HW3.out]
    go_wp2
    go_still_tail 9, (by kernel_rfl)
    change wpList _ _ _ _ _ w3.drew
    go_wp2
    go_returns
    exact ⟨by simp, HF.out⟩)
theorem append1_enters : ∀ args w, (callFunc 38 args).run Try.prog w = .ok (.enter 38 args) w := enters_of Try.func38 (by kernel_rfl) rfl
end
end Go.Proofs.Ytnpomiidkdnebaa
