/- The program's Rename. -/
import Derived.Test.YtnpomiidkdnebaaDRem
namespace Go.Proofs.Ytnpomiidkdnebaa
open Go.RowKit Go.Maps Go.WideMaps
set_option linter.unusedVariables false

theorem del_comm (l m : Nm) (fs : List Fl) : del l (del m fs) = del m (del l fs) := by
  unfold del
  rw [List.filter_filter, List.filter_filter]
  congr 1
  funext f
  exact Bool.and_comm _ _

section
variable {S : Nat → Prop} {d mb nn : Nat} {M : DataW Unit} {blk : Nm → Nat} {vs : Nm → Value} {D : Dsk}

set_option maxHeartbeats 2000000 in
set_option maxRecDepth 5000 in
theorem rename1_any (s r : ByteArray) (hs : s.size ≤ maxLen) (hr : r.size ≤ maxLen) (b1 b2 b3 b4 : Nat) (w : World) (h : DkAt w S d mb nn M blk vs D) (hnn : nn ≤ D.steps) (hst : D.steps + 100 ≤ 9223372036854775807) (hok : Okd D)
    {f : Fl} (hf : find D.files (lst s) = some f) (hne : lst s ≠ lst r)
    (h1 : Whole w b1 23 #[.pointer (some ⟨d, 0, none⟩)]) (h2 : Whole w b2 9 #[.string r]) (h3 : Whole w b3 9 #[.string s]) (h4 : Whole w b4 66 #[.pointer (some ⟨blk (lst s), 0, none⟩)])
    (n1 : ¬ S b1) (n2 : ¬ S b2) (n3 : ¬ S b3) (n4 : ¬ S b4) :
    Calls Try.prog 46 #[.pointer (some ⟨b1, 0, none⟩), .pointer (some ⟨b2, 0, none⟩), .pointer (some ⟨b3, 0, none⟩), .pointer (some ⟨b4, 0, none⟩)] w fun e w2 => e = .returned (.tuple #[]) ∧ ∃ S', Dk 1 w2 S' d { D with files := mv f (lst s) (lst r) D.files } ∧ Turn S S' w w2 := by
  have c1 : w.cell? ⟨b1, 0, none⟩ = some (.pointer (some ⟨d, 0, none⟩)) := h1.cell 0
  have c2 : w.cell? ⟨b2, 0, none⟩ = some (.string r) := h2.cell 0
  have hcon := forget_any r hr w h hok
  go_enter Try.func46, Try.ntmps46
  go_wp2_with fail
  refine hcon.mono ?_
  rintro e w1 ⟨rfl, M1, k1, ho⟩
  have x1 := h1.outs ho n1
  have x2 := h2.outs ho n2
  have x3 := h3.outs ho n3
  have x4 := h4.outs ho n4
  have k1d : DkAt w1.drew S d mb nn M1 blk vs { D with files := del (lst r) D.files } := k1.go (bDrewN (Below.refl _ _) 1)
  obtain ⟨w2, hrun2, hM2, ht2⟩ := k1d.map.drop lawS Try.underlying52 (keyS s hs) 0
  have hg2 := ht2.grown
  have hM2d : w2.drew.ownsMap Try.prog 9 ptrR mb nn (M1.del (.string (lst s))) := hM2
  obtain ⟨w3, hrun3, hM3, hg3⟩ := hM2d.update lawS Try.underlying52 (by unfold maxLen; omega) (keyS r hr) (val := .pointer (some ⟨blk (lst s), 0, none⟩)) (d := .lit (.int .i64 (blk (lst s) : Nat))) (ps := []) rfl
  have hf1 : find (del (lst r) D.files) (lst s) = some f := by rw [find_del, if_neg (Ne.symm hne), hf]
  have hm1 : find (del (lst r) D.files) (lst r) = none := by rw [find_del, if_pos rfl]
  have hgg : w1.drew.grownBy w3 (some mb) := by
    have h23 : w2.grownBy w3 (some mb) := ⟨hg3.os, hg3.tape, hg3.output, hg3.size, hg3.block⟩
    exact Only.trans hg2 h23
  have hfe : mv f (lst s) (lst r) D.files = ins { f with nm := lst r } (del (lst s) (del (lst r) D.files)) := by rw [mv, del_comm]
  have htc : topCells d mb { D with files := mv f (lst s) (lst r) D.files } = topCells d mb { D with files := del (lst r) D.files } := by
    have hu := used_del (srt_del hok.srt (lst r)) hf1
    have hu2 : used (mv f (lst s) (lst r) D.files) = used (del (lst r) D.files) := by
      rw [hfe, used_ins]
      simp only
      omega
    simp only [topCells, left]
    rw [hu2]
  have hfin := k1.moveFile hf1 hm1 { D with files := mv f (lst s) (lst r) D.files } hfe hgg.size (fun k hk hne => hgg.block k hk (fun e => hne (by injection e))) htc (nn + 1) hM3
  have hO : Outs S w w3 := (ho.same (Outs.refl S w1).drew).grown hgg (fun k hk => by cases hk; exact .inl h.sm)
  have HF := Lib.hid hfin
  have HO := Lib.hid hO
  have d5 : w1.cell? ⟨d, 5, none⟩ = some (.map (some mb)) := k1.c5
  have d1 : w1.cell? ⟨b1, 0, none⟩ = some (.pointer (some ⟨d, 0, none⟩)) := x1.cell 0
  have d3 : w1.cell? ⟨b3, 0, none⟩ = some (.string s) := x3.cell 0
  have O2 : Outs S w1 w2 := ((Outs.refl S w1).drew).grown hg2 (fun k hk => by cases hk; exact .inl h.sm)
  have e1 : w2.cell? ⟨b1, 0, none⟩ = some (.pointer (some ⟨d, 0, none⟩)) := (x1.outs O2 n1).cell 0
  have e2 : w2.cell? ⟨b2, 0, none⟩ = some (.string r) := (x2.outs O2 n2).cell 0
  have e4 : w2.cell? ⟨b4, 0, none⟩ = some (.pointer (some ⟨blk (lst s), 0, none⟩)) := (x4.outs O2 n4).cell 0
  have e5 : w2.cell? ⟨d, 5, none⟩ = some (.map (some mb)) := (k1.top.drew.grown hg2 (fun e => h.top_map (by injection e))).cell 5
  clear hcon h1 h2 h3 h4 htc hfe x1 x2 x3 x4 k1 k1d hM2 ht2 hg2 hM2d hM3 hg3 hgg hfin hO O2 ho h hf1 hm1 hf
  generalize blk (lst s) = bk at *
  go_wp2
  go_still_tail 5, (by kernel_rfl)
  change wpList _ _ _ _ _ w1.drew
  go_wp2
  go_still_tail 6, (by kernel_rfl)
  change wpList _ _ _ _ _ w2.drew
  go_wp2
  go_returns
  exact ⟨by simp, S, ⟨mb, nn + 1, _, _, _, HF.out, by show nn + 1 ≤ D.steps + 1; omega⟩, ⟨HO.out, fun k hk => .inl hk⟩⟩
theorem rename1_enters : ∀ args w, (callFunc 46 args).run Try.prog w = .ok (.enter 46 args) w := enters_of Try.func46 (by kernel_rfl) rfl

theorem two_texts (s r : ByteArray) (hs : s.size ≤ 9223372036854775807) (hr : r.size ≤ 9223372036854775807) (w : World) (b : Nat) (t : TypeId) (h : Whole w b t #[.string s, .string r]) : ∀ j, j < ([⟨s, hs⟩, ⟨r, hr⟩] : List Txt).length → w.cell? ⟨b, j, none⟩ = some (encT ([⟨s, hs⟩, ⟨r, hr⟩] : List Txt)[j]!) := by
  intro j hj
  have hj' : j < 2 := hj
  match j, hj' with
  | 0, _ => exact h.cell 0
  | 1, _ => exact h.cell 1

set_option maxHeartbeats 2000000 in
set_option maxRecDepth 5000 in
theorem rename_any (s r : ByteArray) (hs : s.size ≤ 9223372036854775807) (hsr : r.size ≤ 9223372036854775807) (w : World) (h : Dk 0 w S d D) (hr : Room D) (hok : Okd D) :
    Calls Try.prog 19 #[.pointer (some ⟨d, 0, none⟩), .string s, .string r] w fun e w' => e = .returned (.int .i64 (dRename D (lst s) (lst r)).1) ∧ ∃ S', Dk 0 w' S' d (dRename D (lst s) (lst r)).2 ∧ Turn S S' w w' := by
  obtain ⟨mb, nn, M, blk, vs, h, hnn⟩ := h
  obtain ⟨W1, hW1⟩ : ∃ W1, W1 = (((w.alloc (.cells #[.pointer (some ⟨d, 0, none⟩)] 23)).alloc (.cells #[.string s] 9)).alloc (.cells #[.string r] 9)).alloc (.cells #[.string s, .string r] 9) := ⟨_, rfl⟩
  have hb : Below w.heap.size w W1 := by rw [hW1]; exact ((((Below.refl _ w).alloc (Nat.le_refl _) _).alloc (by simp) _).alloc (by simp; omega) _).alloc (by simp; omega) _
  have hsz1 : W1.heap.size = w.heap.size + 4 := by rw [hW1]; simp
  have x1 : Whole W1 w.heap.size 23 #[.pointer (some ⟨d, 0, none⟩)] := by rw [hW1]; exact (((Whole.new w _ _).alloc _).alloc _).alloc _
  have x2 : Whole W1 (w.heap.size + 1) 9 #[.string s] := by
    rw [hW1]
    have := Whole.new (w.alloc (.cells #[.pointer (some ⟨d, 0, none⟩)] 23)) 9 #[.string s]
    rw [World.size_alloc] at this
    exact (this.alloc _).alloc _
  have x3 : Whole W1 (w.heap.size + 2) 9 #[.string r] := by
    rw [hW1]
    have := Whole.new ((w.alloc (.cells #[.pointer (some ⟨d, 0, none⟩)] 23)).alloc (.cells #[.string s] 9)) 9 #[.string r]
    rw [World.size_alloc, World.size_alloc] at this
    exact this.alloc _
  have x4 : Whole W1 (w.heap.size + 3) 9 #[.string s, .string r] := by
    rw [hW1]
    have := Whole.new (((w.alloc (.cells #[.pointer (some ⟨d, 0, none⟩)] 23)).alloc (.cells #[.string s] 9)).alloc (.cells #[.string r] 9)) 9 #[.string s, .string r]
    rw [World.size_alloc, World.size_alloc, World.size_alloc] at this
    exact this
  have h1 := h.go hb
  have hcon := refusal_any [⟨s, hs⟩, ⟨r, hsr⟩] (w.heap.size + 3) 2 2 W1 ⟨mb, nn, M, blk, vs, h1, hnn⟩ rfl (by decide) (two_texts s r hs hsr _ _ _ x4)
  have he : ask D ([(⟨s, hs⟩ : Txt), ⟨r, hsr⟩].map (lst ·.1)) = ask D [lst s, lst r] := rfl
  rw [he] at hcon
  have hD : Dk 0 w S d D := ⟨mb, nn, M, blk, vs, h, hnn⟩
  have HX := Lib.hid hW1
  clear hW1
  by_cases ha : ask D [lst s, lst r] = 0
  · rw [ha] at hcon
    have hlook : ∀ n, (Instr.lookup 52 (.map (some mb)) (.string s) false).run Try.prog (W1.drewN n) = .ok (fptr D blk (lst s)) (W1.drewN n) := fun n => look_at (h1.go (bDrewN (Below.refl _ _) n)) s hs
    have hlook2 : ∀ n, (Instr.lookup 52 (.map (some mb)) (.string s) false).run Try.prog (((W1.drewN n).alloc (.cells #[.pointer none] 66)).drew) = .ok (fptr D blk (lst s)) (((W1.drewN n).alloc (.cells #[.pointer none] 66)).drew) := fun n =>
      look_at (h1.go (((bDrewN (Below.refl _ _) n).alloc (Nat.le_refl _) _).drew)) s hs
    have hlook1 : ∀ n, (Instr.lookup 52 (.map (some mb)) (.string s) false).run Try.prog ((W1.drewN n).drew) = .ok (fptr D blk (lst s)) ((W1.drewN n).drew) := fun n => look_at (h1.go ((bDrewN (Below.refl _ _) n).drew)) s hs
    cases hf : find D.files (lst s) with
    | none =>
      have e1 : dRename D (lst s) (lst r) = (6, D) := by simp [dRename, ha, hf]
      have e2 : fptr D blk (lst s) = .pointer none := by simp [fptr, hf]
      rw [e1]
      rw [e2] at hlook hlook1 hlook2
      clear e1 e2
      go_enter Try.func19, Try.ntmps19
      go_wp2_with fail
      rw [← HX.out]
      refine hcon.mono ?_
      rintro e w' ⟨rfl, q, rfl⟩
      have l1 := hlook1 q
      have l2 := hlook2 q
      have y1 : Whole (W1.drewN q) w.heap.size 23 #[.pointer (some ⟨d, 0, none⟩)] := x1
      have y2 : Whole (W1.drewN q) (w.heap.size + 1) 9 #[.string s] := x2
      have y3 : Whole (W1.drewN q) (w.heap.size + 2) 9 #[.string r] := x3
      have hq := h1.go (bDrewN (Below.refl _ W1) q)
      have hbq := bDrewN hb q
      have hszq := Lib.hid (show (W1.drewN q).heap.size = w.heap.size + 4 from hsz1)
      clear hcon hlook hlook1 hlook2 x1 x2 x3 x4 h1 hb HX hsz1
      generalize W1.drewN q = W2 at *
      have c1 : W2.cell? ⟨w.heap.size, 0, none⟩ = some (.pointer (some ⟨d, 0, none⟩)) := y1.cell 0
      have c2 : W2.cell? ⟨w.heap.size + 1, 0, none⟩ = some (.string s) := y2.cell 0
      have c3 : W2.cell? ⟨w.heap.size + 2, 0, none⟩ = some (.string r) := y3.cell 0
      have c5 : W2.cell? ⟨d, 5, none⟩ = some (.map (some mb)) := hq.c5
      have k1 : (W2.alloc (.cells #[.pointer none] 66)).cell? ⟨w.heap.size, 0, none⟩ = some (.pointer (some ⟨d, 0, none⟩)) := (y1.alloc _).cell 0
      have k2 : (W2.alloc (.cells #[.pointer none] 66)).cell? ⟨w.heap.size + 1, 0, none⟩ = some (.string s) := (y2.alloc _).cell 0
      have k5 : (W2.alloc (.cells #[.pointer none] 66)).cell? ⟨d, 5, none⟩ = some (.map (some mb)) := (hq.top.alloc _).cell 5
      go_wp2
      go_region
      all_goals go_wp2
      all_goals go_returns
      all_goals exact ⟨by simp, S, hD.go ((hbq.alloc hbq.size _).drew), Turn.below ((hbq.alloc hbq.size _).drew)⟩
    | some f =>
      have e2 : fptr D blk (lst s) = .pointer (some ⟨blk (lst s), 0, none⟩) := by simp [fptr, hf]
      rw [e2] at hlook hlook1 hlook2
      clear e2
      by_cases heq : lst s = lst r
      · have e1 : dRename D (lst s) (lst r) = (0, D) := by
          unfold dRename
          rw [if_neg (by rw [ha]; simp), hf]
          exact if_pos heq
        rw [e1]
        obtain rfl : s = r := lst_inj heq
        clear e1 heq
        generalize blk (lst s) = bk at *
        go_enter Try.func19, Try.ntmps19
        go_wp2_with fail
        rw [← HX.out]
        refine hcon.mono ?_
        rintro e w' ⟨rfl, q, rfl⟩
        have l1 := hlook1 q
        have l2 := hlook2 q
        have y1 : Whole (W1.drewN q) w.heap.size 23 #[.pointer (some ⟨d, 0, none⟩)] := x1
        have y2 : Whole (W1.drewN q) (w.heap.size + 1) 9 #[.string s] := x2
        have y3 : Whole (W1.drewN q) (w.heap.size + 2) 9 #[.string s] := x3
        have hq := h1.go (bDrewN (Below.refl _ W1) q)
        have hbq := bDrewN hb q
        have hszq := Lib.hid (show (W1.drewN q).heap.size = w.heap.size + 4 from hsz1)
        clear hcon hlook hlook1 hlook2 x1 x2 x3 x4 h1 hb HX hsz1
        generalize W1.drewN q = W2 at *
        have c1 : W2.cell? ⟨w.heap.size, 0, none⟩ = some (.pointer (some ⟨d, 0, none⟩)) := y1.cell 0
        have c2 : W2.cell? ⟨w.heap.size + 1, 0, none⟩ = some (.string s) := y2.cell 0
        have c3 : W2.cell? ⟨w.heap.size + 2, 0, none⟩ = some (.string s) := y3.cell 0
        have c5 : W2.cell? ⟨d, 5, none⟩ = some (.map (some mb)) := hq.c5
        have k1 : ∀ v, (W2.alloc (.cells #[v] 66)).cell? ⟨w.heap.size, 0, none⟩ = some (.pointer (some ⟨d, 0, none⟩)) := fun v => (y1.alloc _).cell 0
        have k2 : ∀ v, (W2.alloc (.cells #[v] 66)).cell? ⟨w.heap.size + 1, 0, none⟩ = some (.string s) := fun v => (y2.alloc _).cell 0
        have k5 : ∀ v, (W2.alloc (.cells #[v] 66)).cell? ⟨d, 5, none⟩ = some (.map (some mb)) := fun v => (hq.top.alloc _).cell 5
        have k3 : ∀ v, (W2.alloc (.cells #[v] 66)).cell? ⟨w.heap.size + 2, 0, none⟩ = some (.string s) := fun v => (y3.alloc _).cell 0
        go_wp2
        go_region
        all_goals go_wp2
        all_goals go_returns
        all_goals exact ⟨by simp, S, hD.go ((hbq.alloc hbq.size _).drew), Turn.below ((hbq.alloc hbq.size _).drew)⟩
      · have e1 : dRename D (lst s) (lst r) = dStep D (mv f (lst s) (lst r)) := by
          unfold dRename
          rw [if_neg (by rw [ha]; simp), hf]
          exact if_neg heq
        rw [e1]
        have hq1 : ¬ s.toList = r.toList := fun e => heq (by rw [Lib.toList_data, Lib.toList_data] at e; exact e)
        have hq2 : (s.toList == r.toList) = false := by simpa using hq1
        clear e1
        generalize hbk : blk (lst s) = bk at *
        have HBK := Lib.hid hbk
        have HQ := Lib.hid heq
        clear hbk heq
        go_enter Try.func19, Try.ntmps19
        go_wp2_with fail
        rw [← HX.out]
        refine hcon.mono ?_
        rintro e w' ⟨rfl, q, rfl⟩
        have l1 := hlook1 q
        have l2 := hlook2 q
        have y1 : Whole (W1.drewN q) w.heap.size 23 #[.pointer (some ⟨d, 0, none⟩)] := x1
        have y2 : Whole (W1.drewN q) (w.heap.size + 1) 9 #[.string s] := x2
        have y3 : Whole (W1.drewN q) (w.heap.size + 2) 9 #[.string r] := x3
        have hq := h1.go (bDrewN (Below.refl _ W1) q)
        have hbq := bDrewN hb q
        have hszq := Lib.hid (show (W1.drewN q).heap.size = w.heap.size + 4 from hsz1)
        clear hcon hlook hlook1 hlook2 x1 x2 x3 x4 h1 hb HX hsz1
        generalize W1.drewN q = W2 at *
        have c1 : W2.cell? ⟨w.heap.size, 0, none⟩ = some (.pointer (some ⟨d, 0, none⟩)) := y1.cell 0
        have c2 : W2.cell? ⟨w.heap.size + 1, 0, none⟩ = some (.string s) := y2.cell 0
        have c3 : W2.cell? ⟨w.heap.size + 2, 0, none⟩ = some (.string r) := y3.cell 0
        have c5 : W2.cell? ⟨d, 5, none⟩ = some (.map (some mb)) := hq.c5
        have k1 : ∀ v, (W2.alloc (.cells #[v] 66)).cell? ⟨w.heap.size, 0, none⟩ = some (.pointer (some ⟨d, 0, none⟩)) := fun v => (y1.alloc _).cell 0
        have k2 : ∀ v, (W2.alloc (.cells #[v] 66)).cell? ⟨w.heap.size + 1, 0, none⟩ = some (.string s) := fun v => (y2.alloc _).cell 0
        have k5 : ∀ v, (W2.alloc (.cells #[v] 66)).cell? ⟨d, 5, none⟩ = some (.map (some mb)) := fun v => (hq.top.alloc _).cell 5
        have k3 : ∀ v, (W2.alloc (.cells #[v] 66)).cell? ⟨w.heap.size + 2, 0, none⟩ = some (.string r) := fun v => (y3.alloc _).cell 0
        go_wp2
        go_region
        all_goals go_wp2_with fail
        all_goals (
          have hbx : Below W2.heap.size W2 ((W2.alloc (.cells #[.pointer (some ⟨bk, 0, none⟩)] 66)).drew) := ((Below.refl _ W2).alloc (Nat.le_refl _) _).drew
          have hbw : Below w.heap.size w ((W2.alloc (.cells #[.pointer (some ⟨bk, 0, none⟩)] 66)).drew) := hbq.trans (hbx.mono hbq.size)
          have z1 := y1.below hbx y1.lt
          have z2 := y2.below hbx y2.lt
          have z3 := y3.below hbx y3.lt
          have z4 : Whole ((W2.alloc (.cells #[.pointer (some ⟨bk, 0, none⟩)] 66)).drew) W2.heap.size 66 #[.pointer (some ⟨bk, 0, none⟩)] := (Whole.new W2 _ _).drew
          have n1 : ¬ S w.heap.size := fun e => Nat.lt_irrefl _ (h.lt _ e)
          have n2 : ¬ S (w.heap.size + 2) := fun e => by have := h.lt _ e; omega
          have n3 : ¬ S (w.heap.size + 1) := fun e => by have := h.lt _ e; omega
          have n4 : ¬ S W2.heap.size := fun e => by have := h.lt _ e; have := hszq.out; omega
          have hcon2 := step_any 46 #[.pointer (some ⟨w.heap.size, 0, none⟩), .pointer (some ⟨w.heap.size + 2, 0, none⟩), .pointer (some ⟨w.heap.size + 1, 0, none⟩), .pointer (some ⟨W2.heap.size, 0, none⟩)] (mv f (lst s) (lst r)) _ (hq.go hbx) hnn (by have := hr.steps; omega) hr.f0 hr.f1 rename1_enters
            (fun w3 h3 ho hsz => rename1_any s r hs hsr w.heap.size (w.heap.size + 2) (w.heap.size + 1) W2.heap.size w3 h3 hnn (by have := hr.steps; show D.steps + 100 ≤ _; omega) (okd_burn hok) hf HQ.out (z1.outs ho n1) (z3.outs ho n2) (z2.outs ho n3) (by rw [HBK.out]; exact z4.outs ho n4) n1 n2 n3 n4)
          clear z1 z2 z3 z4 hbx l1 l2 y1 y2 y3 hq
          refine hcon2.mono ?_
          rintro e w3 ⟨rfl, S', hk, ht⟩
          have HK := Lib.hid hk
          have HT := Lib.hid ((Turn.below hbw).trans ht)
          clear hcon2 hk ht hbw hbq
          go_wp2
          go_returns
          exact ⟨by simp, S', HK.out, HT.out⟩)
  · have e1 : dRename D (lst s) (lst r) = (ask D [lst s, lst r], D) := by simp [dRename, ha]
    rw [e1]
    have hn : (ask D [lst s, lst r] != 0) = true := by simpa using ha
    generalize ask D [lst s, lst r] = c at *
    have HB := Lib.hid hb
    clear hb e1 ha h h1
    go_enter Try.func19, Try.ntmps19
    go_wp2_with fail
    rw [← HX.out]
    refine hcon.mono ?_
    rintro e w' ⟨rfl, q, rfl⟩
    go_wp2
    go_returns
    exact ⟨by simp, S, hD.go (bDrewN HB.out q), Turn.below (bDrewN HB.out q)⟩
end
end Go.Proofs.Ytnpomiidkdnebaa
