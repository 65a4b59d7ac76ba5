/- Several texts, each a section: NRp, NRs. -/
import Derived.Test.YtnleeffajljodaaM07
section
/- The document's net: a letter put in flight. -/
namespace Go.Proofs.Ytnleeffajljodaa
open Go.RowKit Go.Maps
set_option linter.unusedVariables false

theorem step_grow {P : Program} {w : World} {ops : Array Oper} {o : Oper} {a : Act} {K : Act → World → Prop} {Q : Exit → Act → World → Prop} {E : Prop} (hgd : o.guard = none) (s x : Operand) (t : TypeId)
    (ho : o.op = .call { callee := .builtin .append, args := #[s, x], argTypes := #[t, t] })
    (base : Nat) (e : TypeId) (i : TypeInfo) (z : Value) (size bytes : Nat) (ht : P.underlying t = some (.slice e)) (hi : P.info? e = some i) (hz : i.zero = some z)
    (hsize : i.size = size) (hby : i.bytes = bytes) (hzs : z.cells.size = size) (hsz : 0 < size)
    (v : Value) (n : Nat) (xs : List Value) (hs : a.eval s = v) (hown : w.ownsRow base e size v n xs)
    (ad : Addr) (m c : Nat) (news : List Value) (hx : a.eval x = .slice (some ad) m c) (hl : news.length = m * size) (hnews : ∀ j u, news[j]? = some u → w.cell? (ad.add j) = some u) (h1 : ∀ u ∈ news, u.oneCell' = true)
    (h63 : n + m ≤ maxLen) (hbytes : (n + m) * bytes ≤ 140737488355328) (hbase : base ≤ w.heap.size)
    (h : ∀ v' w', w'.ownsRow base e size v' (n + m) (xs ++ news) → w.grownBy w' v.ownBlock → (v'.ownBlock = v.ownBlock ∨ v'.ownBlock = some w.heap.size) → K (a.put o.dst v') w') : if Region.wanted o (yielded ops a.tmps) = true then Oper.wp P o a w K Q else E := by
  have hw : Region.wanted o (yielded ops a.tmps) = true := by simp [Region.wanted, hgd]
  rw [if_pos hw]
  obtain ⟨v', w', hr, h2, h3, h4, h5⟩ := run_append_own_at (P := P) w base t o.type e i z size bytes ht hi hz hsize hby hzs hsz v n xs hown ad m c news hl hnews h1 h63 hbytes hbase
  unfold Oper.wp execOp
  simp only [ho, resolve, invoke, builtin, Sem.run_bind, Sem.run_pure, Result.andThen_ok, List.map_toArray, List.map_cons, List.map_nil, hs, hx, hr]
  exact h v' w' h2 h3 h5

/-- the letter that is put -/
def putL (x : Le) (last : Nat) : Le := ⟨(last : Int) + 1, if x.first = 0 then (last : Int) + 1 else x.first, x.frm, x.to_, x.body⟩
/-- what is so ahead of the append -/
structure Mp (w0 w : World) (xb gb : Nat) (v : Value) (y : Le) (k : Pl) (last : Nat) : Prop where
  bx : Whole w xb 43 #[v, .int .u64 ((last : Int) + 1)]
  bg : Whole w gb 32 #[.int .u64 y.num, .int .u64 y.first, .int .i64 y.frm, .int .i64 y.to_, .slice k.1 y.body.length k.2]
  outs : Outs (fun i => i = xb) w0 w

set_option maxHeartbeats 4000000 in
set_option maxRecDepth 100000 in
theorem rput_any {w : World} {R Q : Nat → Prop} {xb : Nat} {v : Value} {ps : List (Le × Pl)} {last : Nat} (h : Rn w R xb v ps last) (x : Le) (k : Pl) (hb : Bd w (fun i => Q i ∧ i ≠ xb ∧ v.ownBlock ≠ some i) x.body k) (hl : ps.length ≤ 1048576) (hs : last < 4000) :
    Calls Try.prog 39 #[.pointer (some ⟨xb, 0, none⟩), val x k] w fun e w' => e = .returned (.int .u64 (last + 1 : Nat)) ∧
      ∃ v' R', Rn w' R' xb v' (ps ++ [(putL x last, k)]) (last + 1) ∧ Outs (fun i => i = xb ∨ v.ownBlock = some i) w w' ∧ ∀ i, R' i → R i ∨ Q i ∨ w.heap.size ≤ i := by
  obtain ⟨il, hil, hl0, hl1, hl2⟩ := info_parts infoL
  simp only [val]
  have hlt := h.blk.lt
  have hne : w.heap.size ≠ xb := by omega
  have hw1 := Whole.new w 32 #[.int .u64 x.num, .int .u64 x.first, .int .i64 x.frm, .int .i64 x.to_, .slice k.1 x.body.length k.2]
  have hx1 := h.blk.alloc (.cells #[.int .u64 x.num, .int .u64 x.first, .int .i64 x.frm, .int .i64 x.to_, .slice k.1 x.body.length k.2] 32)
  have ho1 : Outs (fun i => i = xb) w (w.alloc (.cells #[.int .u64 x.num, .int .u64 x.first, .int .i64 x.frm, .int .i64 x.to_, .slice k.1 x.body.length k.2] 32)) := (Outs.refl _ w).alloc _
  have H := Lib.hid h
  have HB := Lib.hid hb
  clear h hb
  go_enter Try.func39, Try.ntmps39
  go_upto_region 1 with fail
  generalize w.alloc (.cells #[.int .u64 x.num, .int .u64 x.first, .int .i64 x.frm, .int .i64 x.to_, .slice k.1 x.body.length k.2] 32) = w1 at hw1 hx1 ho1 ⊢
  obtain ⟨gb, hgb⟩ : ∃ gb, gb = w.heap.size := ⟨_, rfl⟩
  rw [← hgb] at hw1 hne ⊢
  have HGB := Lib.hid hgb
  have c1 : w1.cell? ⟨xb, 1, none⟩ = some (.int .u64 last) := by simpa using hx1.cell 1
  have f1 := hx1.frozen
  have HW1 := Lib.hid hw1
  have HX1 := Lib.hid hx1
  have HO1 := Lib.hid ho1
  clear hgb hw1 hx1 ho1
  go_upto_region 2 with fail
  have e1 : ∀ W : World, W.setCell ⟨xb, 1, none⟩ (.int .u64 ((last : Int) + 1)) = W.setCell ⟨xb, 1, none⟩ (.int .u64 ((last : Int) + 1)) := fun _ => rfl
  have hx2 := HX1.out.put 1 (.int .u64 ((last : Int) + 1))
  have hw2 : Whole (w1.setCell ⟨xb, 1, none⟩ (.int .u64 ((last : Int) + 1))) gb 32 _ := HW1.out.far hne (.int .u64 ((last : Int) + 1))
  have ho2 : Outs (fun i => i = xb) w (w1.setCell ⟨xb, 1, none⟩ (.int .u64 ((last : Int) + 1))) := HO1.out.setCell (p := ⟨xb, 1, none⟩) (.inl rfl) _
  generalize w1.setCell ⟨xb, 1, none⟩ (.int .u64 ((last : Int) + 1)) = w2 at hx2 hw2 ho2 ⊢
  replace hx2 : Whole w2 xb 43 #[v, .int .u64 ((last : Int) + 1)] := hx2
  clear c1 f1 HX1 HW1 HO1 e1
  have c1 : w2.cell? ⟨xb, 1, none⟩ = some (.int .u64 ((last : Int) + 1)) := by simpa using hx2.cell 1
  have f2 := hw2.frozen
  obtain ⟨g0, g1, g2, g3, g4⟩ := cells5 hw2
  have HW2 := Lib.hid hw2
  have HX2 := Lib.hid hx2
  have HO2 := Lib.hid ho2
  clear hx2 hw2 ho2
  go_upto_region 3 with fail
  have hx3 : Whole (w2.setCell ⟨gb, 0, none⟩ (.int .u64 ((last : Int) + 1))) xb 43 _ := HX2.out.far (p := ⟨gb, 0, none⟩) (fun e => hne e.symm) (.int .u64 ((last : Int) + 1))
  have hw3 := HW2.out.put 0 (.int .u64 ((last : Int) + 1))
  have ho3 : Outs (fun i => i = xb) w (w2.setCell ⟨gb, 0, none⟩ (.int .u64 ((last : Int) + 1))) := HO2.out.setCell (p := ⟨gb, 0, none⟩) (.inr (Nat.le_of_eq HGB.out.symm)) _
  generalize w2.setCell ⟨gb, 0, none⟩ (.int .u64 ((last : Int) + 1)) = w3 at hx3 hw3 ho3 ⊢
  replace hw3 : Whole w3 gb 32 #[.int .u64 ((last : Int) + 1), .int .u64 x.first, .int .i64 x.frm, .int .i64 x.to_, .slice k.1 x.body.length k.2] := hw3
  clear c1 f2 HX2 HW2 HO2 g0 g1 g2 g3 g4
  obtain ⟨g0, g1, g2, g3, g4⟩ := cells5 hw3
  have f3 := hw3.frozen
  have HW3 := Lib.hid hw3
  have HX3 := Lib.hid hx3
  have HO3 := Lib.hid ho3
  clear hx3 hw3 ho3
  obtain ⟨F, hF⟩ : ∃ F, F = if x.first = 0 then (last : Int) + 1 else x.first := ⟨_, rfl⟩
  have HF := Lib.hid hF
  clear hF
  by_cases h0 : x.first = 0
  · have e0 : (x.first == 0) = true := by simp [h0]
    have hF : F = (last : Int) + 1 := by rw [HF.out, if_pos h0]
    have hw4 := HW3.out.put 1 (.int .u64 ((last : Int) + 1))
    have hx4 : Whole (w3.setCell ⟨gb, 1, none⟩ (.int .u64 ((last : Int) + 1))) xb 43 _ := HX3.out.far (p := ⟨gb, 1, none⟩) (fun e => hne e.symm) (.int .u64 ((last : Int) + 1))
    have ho4 : Outs (fun i => i = xb) w (w3.setCell ⟨gb, 1, none⟩ (.int .u64 ((last : Int) + 1))) := HO3.out.setCell (p := ⟨gb, 1, none⟩) (.inr (Nat.le_of_eq HGB.out.symm)) _
    have hmp : Mp w (w3.setCell ⟨gb, 1, none⟩ (.int .u64 ((last : Int) + 1))) xb gb v ⟨(last : Int) + 1, F, x.frm, x.to_, x.body⟩ k last := ⟨hx4, by rw [hF]; exact hw4, ho4⟩
    have HMP := Lib.hid hmp
    clear h0 hF hw4 hx4 ho4 hmp
    go_upto_region 5 with fail
    generalize w3.setCell ⟨gb, 1, none⟩ (.int .u64 ((last : Int) + 1)) = W at HMP ⊢
    clear e0 g0 g1 g2 g3 g4 f3 HW3 HX3 HO3
    · skip
      obtain ⟨q0, q1⟩ : W.cell? ⟨xb, 0, none⟩ = some v ∧ W.frozen? ⟨xb, 0, none⟩ = false := ⟨by simpa using HMP.out.bx.cell 0, HMP.out.bx.frozen 0⟩
      obtain ⟨g0, g1, g2, g3, g4⟩ := cells5 HMP.out.bg
      have hgb2 : gb < W.heap.size := HMP.out.bg.lt
      have hvx : ∀ g, v.ownBlock = some g → g ≠ xb := fun g hg => (H.out.rv g hg).2
      have hvg : ∀ g, v.ownBlock = some g → g ≠ gb := fun g hg => by have := (H.out.row.lt g hg).2; have := HGB.out; omega
      have hrow0 : W.ownsRow 0 32 5 v ps.length (cLs ps) := ownRow_block_kept H.out.row fun g hg => HMP.out.outs.block g (H.out.row.lt g hg).2 (hvx g hg)
      have hS5 : ∀ w' T, Outs T W w' → ¬ T xb → ¬ T gb → (w'.cell? ⟨xb, 0, none⟩ = some v ∧ w'.cell? ⟨gb, 0, none⟩ = some (.int .u64 ((last : Int) + 1)) ∧ w'.cell? ⟨gb, 1, none⟩ = some (.int .u64 F) ∧ w'.cell? ⟨gb, 2, none⟩ = some (.int .i64 x.frm) ∧ w'.cell? ⟨gb, 3, none⟩ = some (.int .i64 x.to_) ∧ w'.cell? ⟨gb, 4, none⟩ = some (.slice k.1 x.body.length k.2) ∧ w'.frozen? ⟨xb, 0, none⟩ = false) := fun w' T ho hx hg => by
        have hX := HMP.out.bx.outs ho hx
        have hG := cells5 (HMP.out.bg.outs ho hg)
        exact ⟨by simpa using hX.cell 0, hG.1, hG.2.1, hG.2.2.1, hG.2.2.2.1, hG.2.2.2.2, hX.frozen 0⟩
      have HS5 := Lib.hid hS5
      clear hS5
      refine wp_region_G 8 (fun w' => w'.cell? ⟨xb, 0, none⟩ = some v ∧ w'.cell? ⟨gb, 0, none⟩ = some (.int .u64 ((last : Int) + 1)) ∧ w'.cell? ⟨gb, 1, none⟩ = some (.int .u64 F) ∧ w'.cell? ⟨gb, 2, none⟩ = some (.int .i64 x.frm) ∧ w'.cell? ⟨gb, 3, none⟩ = some (.int .i64 x.to_) ∧ w'.cell? ⟨gb, 4, none⟩ = some (.slice k.1 x.body.length k.2) ∧ w'.frozen? ⟨xb, 0, none⟩ = false) (by kernel_rfl) (by kernel_rfl) (HS5.out _ (fun _ => False) (Outs.refl _ _).drew (fun e => e) (fun e => e)) (fun hSS hst => ?_)
      refine wpAnyG_take (i := 0) (v := ?_) rfl (by kernel_rfl) hst (by kernel_rfl) (by kernel_rfl) (fun _ _ _ h => h) hSS (Or.inl ⟨by rfl, ?_⟩) (fun hst2 => ?_)
      rotate_left
      · (intro w hSw; (try dsimp only at hSw); go_simp; try (with_reducible rfl))
      clear hst; have hst := hst2; clear hst2
      try simp only [Act.put, List.setIfInBounds_toArray, List.set_cons_zero, List.set_cons_succ]
      refine wpAnyG_take (i := 1) (v := ?_) rfl (by kernel_rfl) hst (by kernel_rfl) (by kernel_rfl) (fun _ _ _ h => h) hSS (Or.inl ⟨by rfl, ?_⟩) (fun hst2 => ?_)
      rotate_left
      · (intro w hSw; (try dsimp only at hSw); go_simp; try (with_reducible rfl))
      clear hst; have hst := hst2; clear hst2
      try simp only [Act.put, List.setIfInBounds_toArray, List.set_cons_zero, List.set_cons_succ]
      refine wpAnyG_take (i := 2) (v := ?_) rfl (by kernel_rfl) hst (by kernel_rfl) (by kernel_rfl) (fun _ _ _ h => h) hSS (Or.inl ⟨by rfl, ?_⟩) (fun hst2 => ?_)
      rotate_left
      · (intro w hSw; (try dsimp only at hSw); go_simp; try (with_reducible rfl))
      clear hst; have hst := hst2; clear hst2
      try simp only [Act.put, List.setIfInBounds_toArray, List.set_cons_zero, List.set_cons_succ]
      refine wpAnyG_take (i := 3) (v := ?_) rfl (by kernel_rfl) hst (by kernel_rfl) (by kernel_rfl) (fun _ _ _ h => h) hSS (Or.inl ⟨by rfl, ?_⟩) (fun hst2 => ?_)
      rotate_left
      · (intro w hSw; (try dsimp only at hSw); go_simp; try (with_reducible rfl))
      clear hst; have hst := hst2; clear hst2
      try simp only [Act.put, List.setIfInBounds_toArray, List.set_cons_zero, List.set_cons_succ]
      refine wpAnyG_take (i := 4) (v := ?_) rfl (by kernel_rfl) hst (by kernel_rfl) (by kernel_rfl) (fun _ _ _ h => h) hSS (Or.inl ⟨by rfl, ?_⟩) (fun hst2 => ?_)
      rotate_left
      · (intro w hSw; (try dsimp only at hSw); go_simp; try (with_reducible rfl))
      clear hst; have hst := hst2; clear hst2
      try simp only [Act.put, List.setIfInBounds_toArray, List.set_cons_zero, List.set_cons_succ]
      refine wpAnyG_take (i := 5) (v := ?_) rfl (by kernel_rfl) hst (by kernel_rfl) (by kernel_rfl) (fun _ _ _ h => h) hSS (Or.inl ⟨by rfl, ?_⟩) (fun hst2 => ?_)
      rotate_left
      · (intro w hSw; (try dsimp only at hSw); go_simp; try (with_reducible rfl))
      clear hst; have hst := hst2; clear hst2
      try simp only [Act.put, List.setIfInBounds_toArray, List.set_cons_zero, List.set_cons_succ]
      refine wpAnyG_one (i := 6) (by kernel_rfl) rfl (by kernel_rfl) hst (fun K hK => ?_)
      go_simp
      have ho6 : Outs (fun _ => False) W (W.drew.alloc (.cells #[.int .u64 ((last : Int) + 1), .int .u64 F, .int .i64 x.frm, .int .i64 x.to_, .slice k.1 x.body.length k.2] 32)) := (Outs.refl _ W).drew.alloc _
      refine hK.out _ _ (HS5.out _ (fun _ => False) ho6 (fun e => e) (fun e => e)) (fun hSS2 hst2 => ?_)
      clear hst hK K hSS
      have hst := hst2
      have hSS := hSS2
      clear hst2 hSS2
      try simp only [Act.put, List.setIfInBounds_toArray, List.set_cons_zero, List.set_cons_succ]
      refine wpAnyG_one (i := 7) (by kernel_rfl) rfl (by kernel_rfl) hst (fun K hK => ?_)
      refine step_grow rfl (.tmp 27) (.tmp 29) 41 rfl 0 32 il zeroL 5 56 Try.underlying41 hil hl0 hl1 hl2 rfl (by decide) v ps.length (cLs ps) rfl (hrow0.drew.alloc _) ⟨W.heap.size, 0, none⟩ 1 1 (cL (⟨(last : Int) + 1, F, x.frm, x.to_, x.body⟩, k)) rfl (by simp [cL]) (five_new _ _ _ _ _ _ _) (by simp [cL, Value.oneCell']) (by unfold maxLen; omega) (by omega) (Nat.zero_le _) ?_
      intro v7 w7 hrow7 hg7 hat7
      obtain ⟨A7, c7, rfl, hr7⟩ := row_slice hrow7
      clear hr7
      have ho7 : Outs (fun i => v.ownBlock = some i) W w7 := (ho6.mono (fun _ e => e.elim)).grown hg7 (fun g hg => .inl hg)
      have hS7 := HS5.out _ (fun i => v.ownBlock = some i) ho7 (fun e => hvx _ e rfl) (fun e => hvg _ e rfl)
      have hX7 := HMP.out.bx.outs ho7 (fun e => hvx _ e rfl)
      refine hK.out _ _ hS7 (fun hSS2 hst2 => ?_)
      clear hst hK K hSS
      have hst := hst2
      have hSS := hSS2
      clear hst2 hSS2
      try simp only [Act.put, List.setIfInBounds_toArray, List.set_cons_zero, List.set_cons_succ]
      refine wpAnyG_pass (i := 8) (by kernel_rfl) rfl (by kernel_rfl) (fun K hK => ?_)
      go_simp
      refine hK.out _ _ ?_
      clear hK K
      try simp only [Act.put, List.setIfInBounds_toArray, List.set_cons_zero, List.set_cons_succ]
      refine wpAnyG_pass (i := 9) (by kernel_rfl) rfl (by kernel_rfl) (fun K hK => ?_)
      go_simp
      refine hK.out _ _ ?_
      clear hK K
      try simp only [Act.put, List.setIfInBounds_toArray, List.set_cons_zero, List.set_cons_succ]
      refine wpAnyG_last (i := 10) (by kernel_rfl) rfl (by kernel_rfl) (by kernel_rfl) (fun K hK => ?_)
      obtain ⟨q0, _, _, _, _, _, q1⟩ := hS7
      go_simp
      refine hK.out _ _ ?_
      clear hK K hst hSS
      have hX8 : Whole (w7.setCell ⟨xb, 0, none⟩ (Value.slice A7 (ps.length + 1) c7)) xb 43 #[(Value.slice A7 (ps.length + 1) c7), .int .u64 ((last : Int) + 1)] := hX7.put 0 (Value.slice A7 (ps.length + 1) c7)
      have ho8 : Outs (fun i => i = xb ∨ v.ownBlock = some i) w (w7.setCell ⟨xb, 0, none⟩ (Value.slice A7 (ps.length + 1) c7)) := ((HMP.out.outs.mono (fun i hi => .inl hi)).trans ho7 (fun i hi => .inl (.inr hi))).setCell (p := ⟨xb, 0, none⟩) (.inl (.inl rfl)) (Value.slice A7 (ps.length + 1) c7)
      have hG8 : (w7.setCell ⟨xb, 0, none⟩ (Value.slice A7 (ps.length + 1) c7)).cell? ⟨gb, 0, none⟩ = some (.int .u64 ((last : Int) + 1)) := by
        have := (HMP.out.bg.outs ho7 (fun e => hvg _ e rfl)).far (p := ⟨xb, 0, none⟩) hne (Value.slice A7 (ps.length + 1) c7)
        simpa using this.cell 0
      have hv7 : ∀ g, (Value.slice A7 (ps.length + 1) c7).ownBlock = some g → v.ownBlock = some g ∨ W.heap.size + 1 = g := fun g hg => by
        rcases hat7 with e | e
        · exact .inl (e ▸ hg)
        · rw [e] at hg
          injection hg with hg
          right
          simpa using hg
      have hszW := HMP.out.outs.size
      have hsz7 := ho7.size
      have hsz8 : (w7.setCell ⟨xb, 0, none⟩ (Value.slice A7 (ps.length + 1) c7)).heap.size = w7.heap.size := by simp [World.setCell]
      have hrow8 : (w7.setCell ⟨xb, 0, none⟩ (Value.slice A7 (ps.length + 1) c7)).ownsRow 0 32 5 (Value.slice A7 (ps.length + 1) c7) (ps.length + 1) (cLs ps ++ cL (⟨(last : Int) + 1, F, x.frm, x.to_, x.body⟩, k)) := ownRow_block_kept hrow7 fun g hg => Below.heap_setCell w7 ⟨xb, 0, none⟩ (Value.slice A7 (ps.length + 1) c7) g (fun e => by
        rcases hv7 g hg with e2 | e2
        · exact hvx g e2 e
        · have : g = xb := e
          omega)
      have hpl : putL x last = ⟨(last : Int) + 1, F, x.frm, x.to_, x.body⟩ := by unfold putL; rw [← HF.out]
      have hfin : Rn (w7.setCell ⟨xb, 0, none⟩ (Value.slice A7 (ps.length + 1) c7)) (fun i => R i ∨ (Q i ∧ i < w.heap.size) ∨ (Value.slice A7 (ps.length + 1) c7).ownBlock = some i) xb (Value.slice A7 (ps.length + 1) c7) (ps ++ [(putL x last, k)]) (last + 1) := by
        refine ⟨hX8, ?_, .inl H.out.rx, fun g hg => ⟨.inr (.inr hg), ?_⟩, fun p hp => ?_, fun i hi => ?_⟩
        · rw [hpl, List.length_append]
          have e : cLs (ps ++ [(⟨(last : Int) + 1, F, x.frm, x.to_, x.body⟩, k)]) = cLs ps ++ cL (⟨(last : Int) + 1, F, x.frm, x.to_, x.body⟩, k) := by simp [cLs]
          rw [e]
          exact hrow8
        · rcases hv7 g hg with e2 | e2
          · exact hvx g e2
          · omega
        · rcases List.mem_append.1 hp with hp | hp
          · refine ((H.out.bd p hp).within.outs ho8 (fun i hi e => ?_)).mono fun i hi => ⟨.inl hi.1.1, hi.1.2.1, fun e => ?_⟩
            · rcases e with e | e
              · exact hi.1.2.1 e
              · exact hi.1.2.2 e
            · rcases hv7 i e with e2 | e2
              · exact hi.1.2.2 e2
              · have := hi.2; omega
          · obtain rfl := List.mem_singleton.1 hp
            refine (HB.out.within.outs ho8 (fun i hi e => ?_)).mono fun i hi => ⟨.inr (.inl ⟨hi.1.1, hi.2⟩), hi.1.2.1, fun e => ?_⟩
            · rcases e with e | e
              · exact hi.1.2.1 e
              · exact hi.1.2.2 e
            · rcases hv7 i e with e2 | e2
              · exact hi.1.2.2 e2
              · have := hi.2; omega
        · rw [hsz8]
          rcases hi with hi | hi | hi
          · have := H.out.lt i hi; omega
          · omega
          · exact (hrow7.lt i hi).2
      have HFIN := Lib.hid hfin
      have HO8 := Lib.hid ho8
      have hR8 : ∀ i, (R i ∨ (Q i ∧ i < w.heap.size) ∨ (Value.slice A7 (ps.length + 1) c7).ownBlock = some i) → R i ∨ Q i ∨ w.heap.size ≤ i := fun i hi => by
        rcases hi with hi | hi | hi
        · exact .inl hi
        · exact .inr (.inl hi.1)
        · rcases hv7 i hi with e2 | e2
          · exact .inl (H.out.rv i e2).1
          · right; right; omega
      have HR8 := Lib.hid hR8
      clear hfin ho8 hR8 hX8 hrow8 hrow7 hg7 hat7 hv7 ho7 hX7 ho6 q0 q1 hrow0 hvx hvg g0 g1 g2 g3 g4 hsz8 hpl
      generalize w7.setCell ⟨xb, 0, none⟩ (Value.slice A7 (ps.length + 1) c7) = w8 at HFIN HO8 hG8 ⊢
      go_wp2
      go_ret
      exact ⟨by first | rfl | simp, _, _, HFIN.out, HO8.out, HR8.out⟩
  · have e0 : (x.first == 0) = false := by simp [h0]
    have hF : F = x.first := by rw [HF.out, if_neg h0]
    have hmp : Mp w w3 xb gb v ⟨(last : Int) + 1, F, x.frm, x.to_, x.body⟩ k last := ⟨HX3.out, by rw [hF]; exact HW3.out, HO3.out⟩
    have HMP := Lib.hid hmp
    clear h0 hF hmp
    go_upto_region 5 with fail
    obtain ⟨W, hW⟩ : ∃ W, W = w3 := ⟨_, rfl⟩
    rw [← hW] at HMP ⊢
    clear e0 g0 g1 g2 g3 g4 f3 HW3 HX3 HO3 hW
    · skip
      obtain ⟨q0, q1⟩ : W.cell? ⟨xb, 0, none⟩ = some v ∧ W.frozen? ⟨xb, 0, none⟩ = false := ⟨by simpa using HMP.out.bx.cell 0, HMP.out.bx.frozen 0⟩
      obtain ⟨g0, g1, g2, g3, g4⟩ := cells5 HMP.out.bg
      have hgb2 : gb < W.heap.size := HMP.out.bg.lt
      have hvx : ∀ g, v.ownBlock = some g → g ≠ xb := fun g hg => (H.out.rv g hg).2
      have hvg : ∀ g, v.ownBlock = some g → g ≠ gb := fun g hg => by have := (H.out.row.lt g hg).2; have := HGB.out; omega
      have hrow0 : W.ownsRow 0 32 5 v ps.length (cLs ps) := ownRow_block_kept H.out.row fun g hg => HMP.out.outs.block g (H.out.row.lt g hg).2 (hvx g hg)
      have hS5 : ∀ w' T, Outs T W w' → ¬ T xb → ¬ T gb → (w'.cell? ⟨xb, 0, none⟩ = some v ∧ w'.cell? ⟨gb, 0, none⟩ = some (.int .u64 ((last : Int) + 1)) ∧ w'.cell? ⟨gb, 1, none⟩ = some (.int .u64 F) ∧ w'.cell? ⟨gb, 2, none⟩ = some (.int .i64 x.frm) ∧ w'.cell? ⟨gb, 3, none⟩ = some (.int .i64 x.to_) ∧ w'.cell? ⟨gb, 4, none⟩ = some (.slice k.1 x.body.length k.2) ∧ w'.frozen? ⟨xb, 0, none⟩ = false) := fun w' T ho hx hg => by
        have hX := HMP.out.bx.outs ho hx
        have hG := cells5 (HMP.out.bg.outs ho hg)
        exact ⟨by simpa using hX.cell 0, hG.1, hG.2.1, hG.2.2.1, hG.2.2.2.1, hG.2.2.2.2, hX.frozen 0⟩
      have HS5 := Lib.hid hS5
      clear hS5
      refine wp_region_G 8 (fun w' => w'.cell? ⟨xb, 0, none⟩ = some v ∧ w'.cell? ⟨gb, 0, none⟩ = some (.int .u64 ((last : Int) + 1)) ∧ w'.cell? ⟨gb, 1, none⟩ = some (.int .u64 F) ∧ w'.cell? ⟨gb, 2, none⟩ = some (.int .i64 x.frm) ∧ w'.cell? ⟨gb, 3, none⟩ = some (.int .i64 x.to_) ∧ w'.cell? ⟨gb, 4, none⟩ = some (.slice k.1 x.body.length k.2) ∧ w'.frozen? ⟨xb, 0, none⟩ = false) (by kernel_rfl) (by kernel_rfl) (HS5.out _ (fun _ => False) (Outs.refl _ _).drew (fun e => e) (fun e => e)) (fun hSS hst => ?_)
      refine wpAnyG_take (i := 0) (v := ?_) rfl (by kernel_rfl) hst (by kernel_rfl) (by kernel_rfl) (fun _ _ _ h => h) hSS (Or.inl ⟨by rfl, ?_⟩) (fun hst2 => ?_)
      rotate_left
      · (intro w hSw; (try dsimp only at hSw); go_simp; try (with_reducible rfl))
      clear hst; have hst := hst2; clear hst2
      try simp only [Act.put, List.setIfInBounds_toArray, List.set_cons_zero, List.set_cons_succ]
      refine wpAnyG_take (i := 1) (v := ?_) rfl (by kernel_rfl) hst (by kernel_rfl) (by kernel_rfl) (fun _ _ _ h => h) hSS (Or.inl ⟨by rfl, ?_⟩) (fun hst2 => ?_)
      rotate_left
      · (intro w hSw; (try dsimp only at hSw); go_simp; try (with_reducible rfl))
      clear hst; have hst := hst2; clear hst2
      try simp only [Act.put, List.setIfInBounds_toArray, List.set_cons_zero, List.set_cons_succ]
      refine wpAnyG_take (i := 2) (v := ?_) rfl (by kernel_rfl) hst (by kernel_rfl) (by kernel_rfl) (fun _ _ _ h => h) hSS (Or.inl ⟨by rfl, ?_⟩) (fun hst2 => ?_)
      rotate_left
      · (intro w hSw; (try dsimp only at hSw); go_simp; try (with_reducible rfl))
      clear hst; have hst := hst2; clear hst2
      try simp only [Act.put, List.setIfInBounds_toArray, List.set_cons_zero, List.set_cons_succ]
      refine wpAnyG_take (i := 3) (v := ?_) rfl (by kernel_rfl) hst (by kernel_rfl) (by kernel_rfl) (fun _ _ _ h => h) hSS (Or.inl ⟨by rfl, ?_⟩) (fun hst2 => ?_)
      rotate_left
      · (intro w hSw; (try dsimp only at hSw); go_simp; try (with_reducible rfl))
      clear hst; have hst := hst2; clear hst2
      try simp only [Act.put, List.setIfInBounds_toArray, List.set_cons_zero, List.set_cons_succ]
      refine wpAnyG_take (i := 4) (v := ?_) rfl (by kernel_rfl) hst (by kernel_rfl) (by kernel_rfl) (fun _ _ _ h => h) hSS (Or.inl ⟨by rfl, ?_⟩) (fun hst2 => ?_)
      rotate_left
      · (intro w hSw; (try dsimp only at hSw); go_simp; try (with_reducible rfl))
      clear hst; have hst := hst2; clear hst2
      try simp only [Act.put, List.setIfInBounds_toArray, List.set_cons_zero, List.set_cons_succ]
      refine wpAnyG_take (i := 5) (v := ?_) rfl (by kernel_rfl) hst (by kernel_rfl) (by kernel_rfl) (fun _ _ _ h => h) hSS (Or.inl ⟨by rfl, ?_⟩) (fun hst2 => ?_)
      rotate_left
      · (intro w hSw; (try dsimp only at hSw); go_simp; try (with_reducible rfl))
      clear hst; have hst := hst2; clear hst2
      try simp only [Act.put, List.setIfInBounds_toArray, List.set_cons_zero, List.set_cons_succ]
      refine wpAnyG_one (i := 6) (by kernel_rfl) rfl (by kernel_rfl) hst (fun K hK => ?_)
      go_simp
      have ho6 : Outs (fun _ => False) W (W.drew.alloc (.cells #[.int .u64 ((last : Int) + 1), .int .u64 F, .int .i64 x.frm, .int .i64 x.to_, .slice k.1 x.body.length k.2] 32)) := (Outs.refl _ W).drew.alloc _
      refine hK.out _ _ (HS5.out _ (fun _ => False) ho6 (fun e => e) (fun e => e)) (fun hSS2 hst2 => ?_)
      clear hst hK K hSS
      have hst := hst2
      have hSS := hSS2
      clear hst2 hSS2
      try simp only [Act.put, List.setIfInBounds_toArray, List.set_cons_zero, List.set_cons_succ]
      refine wpAnyG_one (i := 7) (by kernel_rfl) rfl (by kernel_rfl) hst (fun K hK => ?_)
      refine step_grow rfl (.tmp 27) (.tmp 29) 41 rfl 0 32 il zeroL 5 56 Try.underlying41 hil hl0 hl1 hl2 rfl (by decide) v ps.length (cLs ps) rfl (hrow0.drew.alloc _) ⟨W.heap.size, 0, none⟩ 1 1 (cL (⟨(last : Int) + 1, F, x.frm, x.to_, x.body⟩, k)) rfl (by simp [cL]) (five_new _ _ _ _ _ _ _) (by simp [cL, Value.oneCell']) (by unfold maxLen; omega) (by omega) (Nat.zero_le _) ?_
      intro v7 w7 hrow7 hg7 hat7
      obtain ⟨A7, c7, rfl, hr7⟩ := row_slice hrow7
      clear hr7
      have ho7 : Outs (fun i => v.ownBlock = some i) W w7 := (ho6.mono (fun _ e => e.elim)).grown hg7 (fun g hg => .inl hg)
      have hS7 := HS5.out _ (fun i => v.ownBlock = some i) ho7 (fun e => hvx _ e rfl) (fun e => hvg _ e rfl)
      have hX7 := HMP.out.bx.outs ho7 (fun e => hvx _ e rfl)
      refine hK.out _ _ hS7 (fun hSS2 hst2 => ?_)
      clear hst hK K hSS
      have hst := hst2
      have hSS := hSS2
      clear hst2 hSS2
      try simp only [Act.put, List.setIfInBounds_toArray, List.set_cons_zero, List.set_cons_succ]
      refine wpAnyG_pass (i := 8) (by kernel_rfl) rfl (by kernel_rfl) (fun K hK => ?_)
      go_simp
      refine hK.out _ _ ?_
      clear hK K
      try simp only [Act.put, List.setIfInBounds_toArray, List.set_cons_zero, List.set_cons_succ]
      refine wpAnyG_pass (i := 9) (by kernel_rfl) rfl (by kernel_rfl) (fun K hK => ?_)
      go_simp
      refine hK.out _ _ ?_
      clear hK K
      try simp only [Act.put, List.setIfInBounds_toArray, List.set_cons_zero, List.set_cons_succ]
      refine wpAnyG_last (i := 10) (by kernel_rfl) rfl (by kernel_rfl) (by kernel_rfl) (fun K hK => ?_)
      obtain ⟨q0, _, _, _, _, _, q1⟩ := hS7
      go_simp
      refine hK.out _ _ ?_
      clear hK K hst hSS
      have hX8 : Whole (w7.setCell ⟨xb, 0, none⟩ (Value.slice A7 (ps.length + 1) c7)) xb 43 #[(Value.slice A7 (ps.length + 1) c7), .int .u64 ((last : Int) + 1)] := hX7.put 0 (Value.slice A7 (ps.length + 1) c7)
      have ho8 : Outs (fun i => i = xb ∨ v.ownBlock = some i) w (w7.setCell ⟨xb, 0, none⟩ (Value.slice A7 (ps.length + 1) c7)) := ((HMP.out.outs.mono (fun i hi => .inl hi)).trans ho7 (fun i hi => .inl (.inr hi))).setCell (p := ⟨xb, 0, none⟩) (.inl (.inl rfl)) (Value.slice A7 (ps.length + 1) c7)
      have hG8 : (w7.setCell ⟨xb, 0, none⟩ (Value.slice A7 (ps.length + 1) c7)).cell? ⟨gb, 0, none⟩ = some (.int .u64 ((last : Int) + 1)) := by
        have := (HMP.out.bg.outs ho7 (fun e => hvg _ e rfl)).far (p := ⟨xb, 0, none⟩) hne (Value.slice A7 (ps.length + 1) c7)
        simpa using this.cell 0
      have hv7 : ∀ g, (Value.slice A7 (ps.length + 1) c7).ownBlock = some g → v.ownBlock = some g ∨ W.heap.size + 1 = g := fun g hg => by
        rcases hat7 with e | e
        · exact .inl (e ▸ hg)
        · rw [e] at hg
          injection hg with hg
          right
          simpa using hg
      have hszW := HMP.out.outs.size
      have hsz7 := ho7.size
      have hsz8 : (w7.setCell ⟨xb, 0, none⟩ (Value.slice A7 (ps.length + 1) c7)).heap.size = w7.heap.size := by simp [World.setCell]
      have hrow8 : (w7.setCell ⟨xb, 0, none⟩ (Value.slice A7 (ps.length + 1) c7)).ownsRow 0 32 5 (Value.slice A7 (ps.length + 1) c7) (ps.length + 1) (cLs ps ++ cL (⟨(last : Int) + 1, F, x.frm, x.to_, x.body⟩, k)) := ownRow_block_kept hrow7 fun g hg => Below.heap_setCell w7 ⟨xb, 0, none⟩ (Value.slice A7 (ps.length + 1) c7) g (fun e => by
        rcases hv7 g hg with e2 | e2
        · exact hvx g e2 e
        · have : g = xb := e
          omega)
      have hpl : putL x last = ⟨(last : Int) + 1, F, x.frm, x.to_, x.body⟩ := by unfold putL; rw [← HF.out]
      have hfin : Rn (w7.setCell ⟨xb, 0, none⟩ (Value.slice A7 (ps.length + 1) c7)) (fun i => R i ∨ (Q i ∧ i < w.heap.size) ∨ (Value.slice A7 (ps.length + 1) c7).ownBlock = some i) xb (Value.slice A7 (ps.length + 1) c7) (ps ++ [(putL x last, k)]) (last + 1) := by
        refine ⟨hX8, ?_, .inl H.out.rx, fun g hg => ⟨.inr (.inr hg), ?_⟩, fun p hp => ?_, fun i hi => ?_⟩
        · rw [hpl, List.length_append]
          have e : cLs (ps ++ [(⟨(last : Int) + 1, F, x.frm, x.to_, x.body⟩, k)]) = cLs ps ++ cL (⟨(last : Int) + 1, F, x.frm, x.to_, x.body⟩, k) := by simp [cLs]
          rw [e]
          exact hrow8
        · rcases hv7 g hg with e2 | e2
          · exact hvx g e2
          · omega
        · rcases List.mem_append.1 hp with hp | hp
          · refine ((H.out.bd p hp).within.outs ho8 (fun i hi e => ?_)).mono fun i hi => ⟨.inl hi.1.1, hi.1.2.1, fun e => ?_⟩
            · rcases e with e | e
              · exact hi.1.2.1 e
              · exact hi.1.2.2 e
            · rcases hv7 i e with e2 | e2
              · exact hi.1.2.2 e2
              · have := hi.2; omega
          · obtain rfl := List.mem_singleton.1 hp
            refine (HB.out.within.outs ho8 (fun i hi e => ?_)).mono fun i hi => ⟨.inr (.inl ⟨hi.1.1, hi.2⟩), hi.1.2.1, fun e => ?_⟩
            · rcases e with e | e
              · exact hi.1.2.1 e
              · exact hi.1.2.2 e
            · rcases hv7 i e with e2 | e2
              · exact hi.1.2.2 e2
              · have := hi.2; omega
        · rw [hsz8]
          rcases hi with hi | hi | hi
          · have := H.out.lt i hi; omega
          · omega
          · exact (hrow7.lt i hi).2
      have HFIN := Lib.hid hfin
      have HO8 := Lib.hid ho8
      have hR8 : ∀ i, (R i ∨ (Q i ∧ i < w.heap.size) ∨ (Value.slice A7 (ps.length + 1) c7).ownBlock = some i) → R i ∨ Q i ∨ w.heap.size ≤ i := fun i hi => by
        rcases hi with hi | hi | hi
        · exact .inl hi
        · exact .inr (.inl hi.1)
        · rcases hv7 i hi with e2 | e2
          · exact .inl (H.out.rv i e2).1
          · right; right; omega
      have HR8 := Lib.hid hR8
      clear hfin ho8 hR8 hX8 hrow8 hrow7 hg7 hat7 hv7 ho7 hX7 ho6 q0 q1 hrow0 hvx hvg g0 g1 g2 g3 g4 hsz8 hpl
      generalize w7.setCell ⟨xb, 0, none⟩ (Value.slice A7 (ps.length + 1) c7) = w8 at HFIN HO8 hG8 ⊢
      go_wp2
      go_ret
      exact ⟨by first | rfl | simp, _, _, HFIN.out, HO8.out, HR8.out⟩
end Go.Proofs.Ytnleeffajljodaa
end

section
/- The document's net: Send. -/
namespace Go.Proofs.Ytnleeffajljodaa
open Go.RowKit Go.Maps
set_option linter.unusedVariables false

theorem Bd.ofRow {w : World} {B n c : Nat} {A : Option Addr} {bs : List Int} (h : w.ownsRow B 5 1 (.slice A n c) n (c8 bs)) : Bd w (fun i => B ≤ i) bs (A, c) := fun hne => by
  obtain ⟨ad, e, hl, hc⟩ := (Rds.ofOwn h) (by unfold c8; simpa using hne)
  refine ⟨ad, e, ?_, hl, hc⟩
  rcases h.2 with ⟨hv, hn⟩ | ⟨g, cap, cur, hv, hB, hh, _⟩
  · injection hv with hA
    rw [e] at hA
    cases hA
  · injection hv with hA
    rw [e] at hA
    obtain rfl := Option.some.inj hA
    exact hB
theorem empty_own8 (w : World) (e : TypeId) : (w.alloc (.cells #[] e)).ownsRow w.heap.size e 1 (.slice (some ⟨w.heap.size, 0, none⟩) 0 0) 0 [] :=
  ⟨rfl, .inr ⟨w.heap.size, 0, #[], rfl, Nat.le_refl _, heap_alloc_new w _, Nat.le_refl _, by unfold maxLen; omega, rfl, rfl⟩⟩

set_option maxHeartbeats 4000000 in
set_option maxRecDepth 100000 in
theorem rsendBad_any {w : World} {xb : Nat} (f t : Int) (A : Option Addr) (n c : Nat) (hn : n ≤ 9223372036854775807) (hE : sendE f t n ≠ 0) :
    Calls Try.prog 17 #[.pointer (some ⟨xb, 0, none⟩), .int .i64 f, .int .i64 t, .slice A n c] w fun e w' => e = .returned (.tuple #[.int .u64 0, .int .i64 (sendE f t n)]) ∧ w' = w := by
  by_cases a : (f < 0 ∨ 63 < f) ∨ (t < 0 ∨ 63 < t)
  · have he : sendE f t n = 2 := by unfold sendE; rw [if_pos a]
    rw [he]
    clear he hE
    by_cases a1 : f < 0
    · have b1 : decide (f < 0) = true := decide_eq_true a1
      clear a1 a
      go_enter Try.func17, Try.ntmps17
      go_wp2
      go_returns
      exact ⟨by simp, rfl⟩
    by_cases a2 : 63 < f
    · have b1 : decide (f < 0) = false := decide_eq_false a1
      have b2 : decide (63 < f) = true := decide_eq_true a2
      clear a1 a2 a
      go_enter Try.func17, Try.ntmps17
      go_wp2
      go_returns
      exact ⟨by simp, rfl⟩
    by_cases a3 : t < 0
    · have b1 : decide (f < 0) = false := decide_eq_false a1
      have b2 : decide (63 < f) = false := decide_eq_false a2
      have b3 : decide (t < 0) = true := decide_eq_true a3
      clear a1 a2 a3 a
      go_enter Try.func17, Try.ntmps17
      go_wp2
      go_returns
      exact ⟨by simp, rfl⟩
    · have b1 : decide (f < 0) = false := decide_eq_false a1
      have b2 : decide (63 < f) = false := decide_eq_false a2
      have b3 : decide (t < 0) = false := decide_eq_false a3
      have b4 : decide (63 < t) = true := decide_eq_true (by omega)
      clear a1 a2 a3 a
      go_enter Try.func17, Try.ntmps17
      go_wp2
      go_returns
      exact ⟨by simp, rfl⟩
  · have hlong : 16384 < n := by
      unfold sendE at hE
      rw [if_neg a] at hE
      by_cases h : 16384 < n
      · exact h
      · rw [if_neg h] at hE; exact absurd rfl hE
    have he : sendE f t n = 3 := by unfold sendE; rw [if_neg a, if_pos hlong]
    rw [he]
    clear he hE
    have b1 : decide (f < 0) = false := decide_eq_false (by omega)
    have b2 : decide (63 < f) = false := decide_eq_false (by omega)
    have b3 : decide (t < 0) = false := decide_eq_false (by omega)
    have b4 : decide (63 < t) = false := decide_eq_false (by omega)
    have b5 : (16384 : Int) < (n : Int) := by omega
    clear a hlong
    go_enter Try.func17, Try.ntmps17
    go_wp2
    go_returns
    exact ⟨by simp, rfl⟩

set_option maxHeartbeats 4000000 in
set_option maxRecDepth 100000 in
theorem rsend_any {w : World} {R : Nat → Prop} {xb : Nat} {v : Value} {ps : List (Le × Pl)} {last : Nat} (h : Rn w R xb v ps last) (f t : Int) (A : Option Addr) (bs : List Int) (c : Nat) (hE : sendE f t bs.length = 0) (hr : Rds w w.heap.size A (c8 bs)) (hA : A = none → c = 0) (hs : last < 4000) (hm : ps.length < 4000) :
    Calls Try.prog 17 #[.pointer (some ⟨xb, 0, none⟩), .int .i64 f, .int .i64 t, .slice A bs.length c] w fun e w' => e = .returned (.tuple #[.int .u64 (last + 1 : Nat), .int .i64 0]) ∧
      ∃ v' R' k, Rn w' R' xb v' (ps ++ [(⟨(last + 1 : Nat), (last + 1 : Nat), f, t, bs⟩, k)]) (last + 1) ∧ Outs (fun i => i = xb ∨ v.ownBlock = some i) w w' ∧ ∀ i, R' i → R i ∨ w.heap.size ≤ i := by
  obtain ⟨i0, hi, hz0, hz1, hz2⟩ := info_parts info8
  have hno : ¬ ((f < 0 ∨ 63 < f) ∨ (t < 0 ∨ 63 < t)) := fun e => by unfold sendE at hE; rw [if_pos e] at hE; cases hE
  have hn : ¬ 16384 < bs.length := fun e => by unfold sendE at hE; rw [if_neg hno, if_pos e] at hE; cases hE
  have b1 : decide (f < 0) = false := decide_eq_false (by omega)
  have b2 : decide (63 < f) = false := decide_eq_false (by omega)
  have b3 : decide (t < 0) = false := decide_eq_false (by omega)
  have b4 : decide (63 < t) = false := decide_eq_false (by omega)
  have b5 : ¬ (16384 : Int) < (bs.length : Int) := by omega
  have b6 : ¬ (4096 : Int) ≤ (ps.length : Int) := by omega
  obtain ⟨Av, cv, rfl, _⟩ := h.open_
  have c0 : w.cell? ⟨xb, 0, none⟩ = some (.slice Av ps.length cv) := by simpa using h.blk.cell 0
  have hbA : Below w.heap.size w (w.alloc (.cells #[] 5)) := (Below.refl _ _).alloc (Nat.le_refl _) _
  have hown0 := empty_own8 w 5
  have hrd0 := (hr.below hbA)
  have H := Lib.hid h
  clear hE hno h
  go_enter Try.func17, Try.ntmps17
  go_wp2_with (at_builtin; go_loud (refine app_many _ rfl (.tmp 36) (.tmp 37) 29 rfl w.heap.size 5 i0 (.int .u8 0) 1 Try.underlying29 hi hz0 hz1 hz2 rfl _ 0 [] (by simp [Act.eval]) hown0 A bs.length c _ (c8 bs) (by simp [Act.eval]) (by rw [c8_length]) hrd0 hA (c8_one _) (by unfold maxLen; omega) (by omega) (by simp) ?_))
  intro v8 w8 hown8 hb8
  obtain ⟨A8, c8', rfl, hr8⟩ := row_slice hown8
  have hb8' : Below w.heap.size w w8 := hbA.trans hb8
  have hx := H.out.blk.lt
  have hbd8 : Bd w8 (fun i => w.heap.size ≤ i ∧ i ≠ xb ∧ (Value.slice Av ps.length cv).ownBlock ≠ some i) bs (A8, c8') := (Bd.ofRow hown8).mono fun i hi => ⟨hi, by omega, fun e => by have := (H.out.row.lt i e).2; omega⟩
  have ct := rput_any (H.out.go hb8') ⟨0, 0, f, t, bs⟩ (A8, c8') hbd8 (by omega) hs
  simp only [val] at ct
  have CT := Lib.hid ct
  have HB8 := Lib.hid hb8'
  clear ct hown8 hb8 hb8' hbd8 hr8 hown0 hrd0 hbA
  go_wp2_with fail
  refine CT.out.mono ?_
  rintro e w9 ⟨rfl, v', R', hn9, ho9, hR9⟩
  have hp : putL ⟨0, 0, f, t, bs⟩ last = ⟨(last + 1 : Nat), (last + 1 : Nat), f, t, bs⟩ := by unfold putL; simp
  rw [hp] at hn9
  have HN9 := Lib.hid hn9
  have HO9 := Lib.hid ((Outs.of (S := fun i => i = xb ∨ (Value.slice Av ps.length cv).ownBlock = some i) HB8.out).same ho9)
  have HR9 : Hid (∀ i, R' i → R i ∨ w.heap.size ≤ i) := Lib.hid fun i hi => by
    rcases hR9 i hi with e | e | e
    · exact .inl e
    · exact .inr e
    · exact .inr (Nat.le_trans HB8.out.size e)
  clear hn9 ho9 hR9 hp
  go_wp2
  go_returns
  exact ⟨by simp, v', R', (A8, c8'), HN9.out, HO9.out, HR9.out⟩

/-- the document's Double -/
theorem posN_some {ps : List (Le × Pl)} {x : Int} {p : Le × Pl} (h : pick ps x = some p) : ∃ k, ∃ hk : k < ps.length, posI ps x = (k : Int) ∧ ps[k] = p ∧ posN ps x = some k := by
  unfold pick at h
  rw [List.find?_eq_some_iff_getElem] at h
  obtain ⟨h1, k, hk, h2, h3⟩ := h
  have hp : posN ps x = some k := List.findIdx?_eq_some_iff_getElem.2 ⟨hk, by rw [h2]; exact h1, fun j hj => by simpa using h3 j hj⟩
  exact ⟨k, hk, by unfold posI; rw [hp], h2, hp⟩
theorem posN_none {ps : List (Le × Pl)} {x : Int} (h : pick ps x = none) : posI ps x = -1 := by
  have : posN ps x = none := List.findIdx?_eq_none_iff.2 fun p hp => by
    have := List.find?_eq_none.1 h p hp
    simpa using this
  unfold posI
  rw [this]
set_option maxHeartbeats 4000000 in
set_option maxRecDepth 100000 in
theorem rdoubleNo_any {w : World} {R : Nat → Prop} {xb : Nat} {v : Value} {ps : List (Le × Pl)} {last : Nat} (h : Rn w R xb v ps last) (x : Int) (hp : pick ps x = none) (hm : ps.length < 4000) :
    Calls Try.prog 22 #[.pointer (some ⟨xb, 0, none⟩), .int .u64 x] w fun e w' => e = .returned (.tuple #[.int .u64 0, .int .i64 6]) ∧ w' = w := by
  have ct := place_any h x (by omega)
  rw [posN_none hp] at ct
  have CT := Lib.hid ct
  clear ct h
  go_enter Try.func22, Try.ntmps22
  go_wp2_with fail
  refine CT.out.mono ?_
  rintro e w1 ⟨rfl, hw⟩
  rw [hw]
  clear hw
  go_wp2
  go_returns
  exact ⟨by simp, rfl⟩
set_option maxHeartbeats 4000000 in
set_option maxRecDepth 100000 in
theorem rdouble_any {w : World} {R : Nat → Prop} {xb : Nat} {v : Value} {ps : List (Le × Pl)} {last : Nat} (h : Rn w R xb v ps last) (x : Int) {p : Le × Pl} (hp : pick ps x = some p) (hf : p.1.first ≠ 0) (hs : last < 4000) (hm : ps.length < 4000) :
    Calls Try.prog 22 #[.pointer (some ⟨xb, 0, none⟩), .int .u64 x] w fun e w' => e = .returned (.tuple #[.int .u64 (last + 1 : Nat), .int .i64 0]) ∧
      ∃ v' R', Rn w' R' xb v' (ps ++ [({ p.1 with num := (last + 1 : Nat) }, p.2)]) (last + 1) ∧ Outs (fun i => i = xb ∨ v.ownBlock = some i) w w' ∧ ∀ i, R' i → R i ∨ w.heap.size ≤ i := by
  obtain ⟨k, hk, hpos, hpk, _⟩ := posN_some hp
  have ct := place_any h x (by omega)
  rw [hpos] at ct
  have cp := rput_any h p.1 p.2 (h.bd p (by rw [← hpk]; exact List.getElem_mem _)) (by omega) hs
  obtain ⟨A, c, rfl, hr⟩ := h.open_
  have b6 : ¬ (4096 : Int) ≤ (ps.length : Int) := by omega
  have c0 : w.cell? ⟨xb, 0, none⟩ = some (.slice A ps.length c) := by simpa using h.blk.cell 0
  obtain ⟨ad, rfl, _, d0, d1, d2, d3, d4⟩ := at5 hr hk
  rw [hpk] at d0 d1 d2 d3 d4
  simp only [val] at cp
  have CT := Lib.hid ct
  have CP := Lib.hid cp
  have HF := Lib.hid hf
  clear ct cp h hr hpk hpos hf
  go_enter Try.func22, Try.ntmps22
  go_wp2_with fail
  refine CT.out.mono ?_
  rintro e w1 ⟨rfl, hw⟩
  rw [hw]
  clear hw
  go_wp2_with fail
  refine CP.out.mono ?_
  rintro e w9 ⟨rfl, v', R', hn9, ho9, hR9⟩
  have hpl : putL p.1 last = { p.1 with num := (last + 1 : Nat) } := by
    unfold putL
    rw [if_neg HF.out]
    rfl
  rw [hpl] at hn9
  have HN9 := Lib.hid hn9
  have HO9 := Lib.hid ho9
  have HR9 : Hid (∀ i, R' i → R i ∨ w.heap.size ≤ i) := Lib.hid fun i hi => by
    rcases hR9 i hi with e | e | e
    · exact .inl e
    · exact .inl e
    · exact .inr e
  clear hn9 ho9 hR9 hpl
  go_wp2
  go_returns
  exact ⟨by simp, v', R', HN9.out, HO9.out, HR9.out⟩
end Go.Proofs.Ytnleeffajljodaa
end
