/- A watch goes on. -/
import Derived.Test.YtconfkjchjcjgaaKSet2
namespace Go.Proofs.Ytconfkjchjcjgaa
open Go.RowKit Go.Maps Go.WideMaps
set_option linter.unusedVariables false

theorem infoS : (Try.prog.info? 9).map (fun i => (i.zero, i.size, i.bytes)) = some (some (.string ⟨#[]⟩), 1, 16) := by kernel_rfl
/-- the cells of names -/
def cT (T : List It) : List Value := T.map fun x => .string x.nm
theorem cT_length (T : List It) : (cT T).length = T.length := by simp [cT]
section
variable {w w' : World} {S T : Nat → Prop} {b mb nn : Nat} {M : DataW Unit} {v : Value} {now : Int} {f : Nat → En} {n q : Nat} {L : List It}
theorem Hn.reads (h : Hn w b mb now v f n) (t : Int) : Hn (w.setCell ⟨b, 1, none⟩ (.int .i64 t)) b mb t v f n :=
  { top := by simpa using h.top.put 1 (.int .i64 t)
    row := ownRow_block_kept h.row fun g hg => Below.heap_setCell _ _ _ _ (ownRow_ne h.row hg h.top (by decide))
    max := h.max
    ends := fun k hk => (h.ends k hk).far (p := ⟨b, 1, none⟩) (Whole.ne (h.ends k hk) h.top (by decide)) _
    inj := h.inj
    dis := h.dis }
theorem WtAt.reads (h : WtAt w S b mb nn M v now f n L) {t : Int} (ht : now ≤ t) : WtAt (w.setCell ⟨b, 1, none⟩ (.int .i64 t)) S b mb nn M v t f n L :=
  { h with
    hn := h.hn.reads t
    map := h.map.setCell (Whole.ne_map h.hn.top h.map).symm _
    ats := fun x hx => by have := h.ats x hx; omega
    lt := fun k hk => by simpa [World.setCell] using h.lt k hk }

theorem tickBad_any (h : Wt w S b now L q) {t : Int} (hb : t < 0 ∨ 1048576 < t) :
    Calls Try.prog 15 #[.pointer (some ⟨b, 0, none⟩), .int .i64 t] w fun e w' => e = .returned (.tuple #[.slice none 0 0, .int .i64 2]) ∧ w = w' := by
  obtain ⟨mb, nn, M, v, f, n, h, h1, h2, h3⟩ := h
  have cn := Lib.hid (nobodys_any b w h.c0)
  clear h
  by_cases c1 : t < 0
  · have t1 : decide (t < 0) = true := decide_eq_true c1
    clear hb
    go_enter Try.func15, Try.ntmps15
    go_wp2_with (go_at_call 37; refine cn.out.mono ?_; rintro e w' ⟨rfl, rfl⟩)
    go_returns
    exact ⟨rfl, rfl⟩
  have t1 : decide (t < 0) = false := decide_eq_false c1
  have t2 : decide (1048576 < t) = true := decide_eq_true (by omega)
  clear hb c1
  go_enter Try.func15, Try.ntmps15
  go_wp2_with (go_at_call 37; refine cn.out.mono ?_; rintro e w' ⟨rfl, rfl⟩)
  go_returns
  exact ⟨rfl, rfl⟩

theorem Outs.ofBelow {B : Nat} (h : Below B w w') : Outs (fun k => B ≤ k) w w' :=
  ⟨h.os, h.tape, h.output, h.size, fun k hk hn => h.block k (by omega)⟩
theorem tick_at {B kq : Nat} {w2 : World} (h : WtAt w S b mb nn M v now f n L) (hlt : ∀ k, S k → k < B) (hb : Below B (w.drewN kq) w2) : WtAt w2 S b mb nn M v now f n L := by
  have h1 := h.go (bDrewN (Below.refl _ _) kq)
  exact h1.outs (Outs.ofBelow hb) (fun k hk e => by have := hlt k hk; omega)
theorem WtAt.cr0 {g cap : Nat} (h : WtAt w S b mb nn M (.slice (some ⟨g, 0, none⟩) (n + 1) cap) now f (n + 1) L) : w.cell? ⟨g, 0, none⟩ = some (.pointer (some ⟨(f 0).blk, 0, none⟩)) := by
  obtain ⟨g', cap', e, ha⟩ := h.hn.ha (Nat.succ_pos n)
  injection e with e _ _
  injection e with e
  injection e with e
  subst e
  exact ha.cr (Nat.succ_pos n)
theorem rmv_head {x : It} {L1 : List It} (h : Nod (x :: L1)) : rmv x.nm (x :: L1) = L1 := by
  unfold Nod at h
  rw [List.pairwise_cons] at h
  unfold rmv
  rw [List.filter_cons_of_neg (by simp)]
  exact List.filter_eq_self.2 fun y hy => by simp [Ne.symm (h.1 y hy)]
def sliceLen : Value → Nat
  | .slice _ n _ => n
  | _ => 0
/-- what has been told so far -/
structure TickAt (w0 : World) (S : Nat → Prop) (b : Nat) (t : Int) (L : List It) (q : Nat) (T L1 : List It) (v : Value) (wr : World) : Prop where
  row : wr.ownsRow w0.heap.size 9 1 v T.length (cT T)
  app : T ++ L1 = L
  due : ∀ x ∈ T, x.at_ ≤ t
  wt : Wt wr S b t L1 q
  outs : Outs S w0 wr

set_option maxHeartbeats 8000000 in
set_option maxRecDepth 100000 in
theorem tick_any (h : Wt w S b now L q) (hq : q ≤ 1000000) (hnow : 0 ≤ now ∧ now ≤ 4611686018426000000) {t : Int} (ht : 0 ≤ t ∧ t ≤ 1048576) :
    Calls Try.prog 15 #[.pointer (some ⟨b, 0, none⟩), .int .i64 t] w fun e w' => ∃ v, e = .returned (.tuple #[v, .int .i64 0]) ∧ w'.ownsRow w.heap.size 9 1 v (due (now + t) L).length (cT (due (now + t) L)) ∧ Wt w' S b (now + t) (rest (now + t) L) q ∧ Outs S w w' := by
  obtain ⟨i0, hi, hz0, hz1, hz2⟩ := info_parts infoS
  obtain ⟨mb, nn, M, v, f, n, h, h1, h2, h3⟩ := h
  have cn := Lib.hid (nobodys_any b w h.c0)
  have c1 := h.c1
  have f1 := h.hn.top.frozen 1
  have hw1 := h.reads (show now ≤ now + t by omega)
  have ho1 : Outs S w (w.setCell ⟨b, 1, none⟩ (.int .i64 (now + t))) := (Outs.refl S w).setCell (p := ⟨b, 1, none⟩) (.inl h.sb) _
  have t1 : decide (t < 0) = false := decide_eq_false (by omega)
  have t2 : decide (1048576 < t) = false := decide_eq_false (by omega)
  have HLT := Lib.hid h.lt
  have HST : Hid (TickAt w S b (now + t) L q [] L (.slice none 0 0) (w.setCell ⟨b, 1, none⟩ (.int .i64 (now + t)))) := Lib.hid ⟨⟨rfl, .inl ⟨rfl, rfl⟩⟩, rfl, by simp, ⟨mb, nn, M, v, f, n, hw1, h1, h2, h3⟩, ho1⟩
  clear h hw1 ho1
  go_enter Try.func15, Try.ntmps15
  go_wp2_with (go_at_call 37; refine cn.out.mono ?_; rintro e w' ⟨rfl, rfl⟩)
  generalize w.setCell ⟨b, 1, none⟩ (.int .i64 (now + t)) = w1 at *
  clear c1 f1
  obtain ⟨tt, htt⟩ : ∃ tt, tt = now + t := ⟨_, rfl⟩
  rw [← htt] at HST
  have httB : 0 ≤ tt ∧ tt ≤ 4611686018427387904 := by omega
  have HTT := Lib.hid htt
  clear htt
  go_loopw [6] (fun v wr => ∃ T L1 : List It, TickAt w S b tt L q T L1 v wr) (fun v _ => L.length - sliceLen v)
  case atStart => exact ⟨[], L, HST.out⟩
  case round =>
    obtain ⟨T, L1, hat⟩ := hrel
    have hlen : T.length + L1.length = L.length := by rw [← hat.app, List.length_append]
    have HAT := Lib.hid hat
    obtain ⟨mb, nn, M, v, f, n, hw, k1, k2, k3⟩ := hat.wt
    have c1 := hw.c1
    have c2 := hw.c2
    have hml := hw.hn.max
    obtain ⟨A0, q0, rfl, hr0, hq0, hq1, -⟩ := own_open hat.row
    cases L1 with
    | nil =>
      have hn0 : n = 0 := hw.like.zero.2 rfl
      subst hn0
      obtain ⟨A, c, rfl⟩ := hw.hn.slice
      have hd := due_rest (t := tt) (T := T) (L1 := []) HAT.out.due (.inl rfl)
      rw [HAT.out.app] at hd
      have HD := Lib.hid hd
      clear hat hw hd hr0
      go_wp2
      go_quiet (fail)
      go_wp2
      go_returns
      refine ⟨.slice A0 T.length q0, rfl, ?_, ?_, ?_⟩
      · rw [← HTT.out, HD.out.1]; exact HAT.out.row
      · rw [← HTT.out, HD.out.2]; exact HAT.out.wt.go (bDrewN (Below.refl _ _) _)
      · exact HAT.out.outs.drewN _
    | cons x L1 =>
      obtain ⟨hn0, hx⟩ := hw.like.first hw.hp hw.srt rfl
      obtain ⟨g, cap, rfl, ha⟩ := hw.hn.ha hn0
      have cr := ha.cr hn0
      have e0 := ha.e0 hn0
      have e1 := ha.e1 hn0
      have hxn : (f 0).nm = x.nm := by rw [← hx]; rfl
      have hxa : (f 0).at_ = x.at_ := by rw [← hx]; rfl
      have hats := hw.ats x List.mem_cons_self
      rw [hxn] at e0
      rw [hxa] at e1
      obtain ⟨n, rfl⟩ : ∃ m, n = m + 1 := ⟨n - 1, by omega⟩
      have hn1 : ((0 : Int) < (n + 1 : Nat)) := by omega
      have HW := Lib.hid hw
      have HXN := Lib.hid hxn
      obtain ⟨eb, heb⟩ : ∃ eb, eb = (f 0).blk := ⟨_, rfl⟩
      rw [← heb] at cr e0 e1
      have HEB := Lib.hid heb
      clear hat hw ha hx hxn hxa heb
      obtain ⟨xa, hxa⟩ : ∃ xa, x.at_ = xa := ⟨_, rfl⟩
      rw [hxa] at e1 hats
      have HXA := Lib.hid hxa
      clear hxa
      by_cases hle : xa ≤ tt
      · have tl : decide (xa ≤ tt) = true := decide_eq_true hle
        have hk16 : (T.length + 1) * 16 ≤ 140737488355328 := by have := h3; simp only [List.length_cons] at hlen; omega
        have hTm : T.length + 1 ≤ maxLen := by unfold maxLen; omega
        clear hr0
        go_wp2
        go_quiet (fail)
        have HROW := Lib.hid (ownRow_block_kept HAT.out.row (w' := wr.drewN nq) fun g hg => rfl)
        have hszr := HAT.out.outs.size
        go_wp2_with (at_builtin; go_loud (refine app_one _ rfl (.tmp 47) (.tmp 57) 33 rfl w.heap.size 9 i0 (.string ⟨#[]⟩) 16 Try.underlying33 hi hz0 hz1 hz2 rfl _ T.length _ rfl HROW.out (.string x.nm) rfl rfl hTm hk16 (by simpa using hszr) ?_); intro v' w2 hown2 hb2; obtain ⟨A2, q2, rfl, -⟩ := own_open hown2; have HB2 := Lib.hid hb2; have HW2 := Lib.hid hown2; clear hb2 hown2; have HT2 := Lib.hid (tick_at HW.out HLT.out HB2.out); have c2x := HT2.out.c2; have crx := HT2.out.cr0; rw [← HEB.out] at crx)
        have cf := forget_any HT2.out (k := 0) (Nat.succ_pos n) ⟨k1, k2, k3⟩
        rw [← HEB.out, HXN.out, rmv_head HW.out.nod] at cf
        have CF := Lib.hid cf
        clear cf
        refine CF.out.mono ?_
        rintro e w3 ⟨rfl, hw3, ho3⟩
        have HW3 := Lib.hid hw3
        have HO3 := Lib.hid ho3
        clear hw3 ho3 c2x crx CF
        go_wp2
        have hrow3 : w3.ownsRow w.heap.size 9 1 (.slice A2 (T.length + 1) q2) (T ++ [x]).length (cT (T ++ [x])) := by
          have h2 := HW2.out
          have e : cT (T ++ [x]) = cT T ++ [.string x.nm] := by simp [cT]
          rw [e, List.length_append, List.length_singleton]
          exact ownRow_block_kept h2 fun g' hg' => HO3.out.block g' (ownRow_block h2 hg').2.1 (fun hS => by have := HLT.out g' hS; have := (ownRow_block h2 hg').1; omega)
        refine ⟨⟨T ++ [x], L1, ⟨hrow3, by rw [List.append_assoc]; exact HAT.out.app, fun y hy => ?_, HW3.out, ?_⟩⟩, ?_⟩
        · rcases List.mem_append.1 hy with hy | hy
          · exact HAT.out.due y hy
          · rw [List.mem_singleton.1 hy, HXA.out]; exact hle
        · exact ((HAT.out.outs.drewN nq).then HB2.out (Nat.le_refl _)).same HO3.out
        · show L.length - (T.length + 1) < L.length - T.length
          simp only [List.length_cons] at hlen
          omega
      · have tl : decide (xa ≤ tt) = false := decide_eq_false hle
        have hd := due_rest (t := tt) (T := T) (L1 := x :: L1) HAT.out.due (.inr ⟨x, L1, rfl, by have := HXA.out; omega⟩)
        rw [HAT.out.app] at hd
        have HD := Lib.hid hd
        clear hd hr0
        go_wp2
        go_quiet (fail)
        go_wp2
        go_returns
        refine ⟨.slice A0 T.length q0, rfl, ?_, ?_, ?_⟩
        · rw [← HTT.out, HD.out.1]; exact HAT.out.row
        · rw [← HTT.out, HD.out.2]; exact HAT.out.wt.go (bDrewN (Below.refl _ _) _)
        · exact HAT.out.outs.drewN _
end
end Go.Proofs.Ytconfkjchjcjgaa
