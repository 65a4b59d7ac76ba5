/- Several texts, each a section: DRen, DNeg, DLose, DCrash, DTurn, DSeq. -/
import Derived.Test.YtbobakfcmkaijaaGreatDoorM04
import Derived.Deep.RegionWith
import Derived.RangeFuncNested
import Derived.RangeFuncBound
import Derived.RangeFuncCalls
import Derived.RangeFuncLeaves
import Derived.Shelf.Abstract
import Derived.Shelf.RegionOpen
import Derived.OwnWalkIn
import Derived.TacticsInMore
import Derived.LoopNIn
import Derived.LoopIn
import Derived.Sort.BigQuietIn
section
/- The program's Rename. -/
namespace Go.Proofs.YtbobakfcmkaijaaGreatDoor
open Go.RowKit Go.Maps Go.WideMaps
set_option linter.unusedVariables false

theorem del_comm (l m : Nm) (fs : List Fl) : del l (del m fs) = del m (del l fs) := by
  unfold del
  rw [List.filter_filter, List.filter_filter]
  congr 1
  funext f
  exact Bool.and_comm _ _

section
variable {S : Nat → Prop} {d mb nn : Nat} {M : DataW Unit} {blk : Nm → Nat} {vs : Nm → Value} {D : Dsk}

set_option maxHeartbeats 2000000 in
set_option maxRecDepth 5000 in
theorem rename1_any (s r : ByteArray) (hs : s.size ≤ maxLen) (hr : r.size ≤ maxLen) (b1 b2 b3 b4 : Nat) (w : World) (h : DkAt w S d mb nn M blk vs D) (hnn : nn ≤ D.steps) (hst : D.steps + 100 ≤ 9223372036854775807) (hok : Okd D)
    {f : Fl} (hf : find D.files (lst s) = some f) (hne : lst s ≠ lst r)
    (h1 : Whole w b1 23 #[.pointer (some ⟨d, 0, none⟩)]) (h2 : Whole w b2 9 #[.string r]) (h3 : Whole w b3 9 #[.string s]) (h4 : Whole w b4 69 #[.pointer (some ⟨blk (lst s), 0, none⟩)])
    (n1 : ¬ S b1) (n2 : ¬ S b2) (n3 : ¬ S b3) (n4 : ¬ S b4) :
    Calls Tryz.prog 113 #[.pointer (some ⟨b1, 0, none⟩), .pointer (some ⟨b2, 0, none⟩), .pointer (some ⟨b3, 0, none⟩), .pointer (some ⟨b4, 0, none⟩)] w fun e w2 => e = .returned (.tuple #[]) ∧ ∃ S', Dk 1 w2 S' d { D with files := mv f (lst s) (lst r) D.files } ∧ Turn S S' w w2 := by
  have c1 : w.cell? ⟨b1, 0, none⟩ = some (.pointer (some ⟨d, 0, none⟩)) := h1.cell 0
  have c2 : w.cell? ⟨b2, 0, none⟩ = some (.string r) := h2.cell 0
  have hcon := forget_any r hr w h hok
  go_enter Tryz.func113, Tryz.ntmps113
  go_wp2_with fail
  refine hcon.mono ?_
  rintro e w1 ⟨rfl, M1, k1, ho⟩
  have x1 := h1.outs ho n1
  have x2 := h2.outs ho n2
  have x3 := h3.outs ho n3
  have x4 := h4.outs ho n4
  have k1d : DkAt w1.drew S d mb nn M1 blk vs { D with files := del (lst r) D.files } := k1.go (bDrewN (Below.refl _ _) 1)
  obtain ⟨w2, hrun2, hM2, ht2⟩ := k1d.map.drop lawS Tryz.underlying43 (keyS s hs) 0
  have hg2 := ht2.grown
  have hM2d : w2.drew.ownsMap Tryz.prog 9 ptrR mb nn (M1.del (.string (lst s))) := hM2
  obtain ⟨w3, hrun3, hM3, hg3⟩ := hM2d.update lawS Tryz.underlying43 (by unfold maxLen; omega) (keyS r hr) (val := .pointer (some ⟨blk (lst s), 0, none⟩)) (d := .lit (.int .i64 (blk (lst s) : Nat))) (ps := []) rfl
  have hf1 : find (del (lst r) D.files) (lst s) = some f := by rw [find_del, if_neg (Ne.symm hne), hf]
  have hm1 : find (del (lst r) D.files) (lst r) = none := by rw [find_del, if_pos rfl]
  have hgg : w1.drew.grownBy w3 (some mb) := by
    have h23 : w2.grownBy w3 (some mb) := ⟨hg3.os, hg3.tape, hg3.output, hg3.size, hg3.block⟩
    exact Only.trans hg2 h23
  have hfe : mv f (lst s) (lst r) D.files = ins { f with nm := lst r } (del (lst s) (del (lst r) D.files)) := by rw [mv, del_comm]
  have htc : topCells d mb { D with files := mv f (lst s) (lst r) D.files } = topCells d mb { D with files := del (lst r) D.files } := by
    have hu := used_del (srt_del hok.srt (lst r)) hf1
    have hu2 : used (mv f (lst s) (lst r) D.files) = used (del (lst r) D.files) := by
      rw [hfe, used_ins]
      simp only
      omega
    simp only [topCells, left]
    rw [hu2]
  have hfin := k1.moveFile hf1 hm1 { D with files := mv f (lst s) (lst r) D.files } hfe hgg.size (fun k hk hne => hgg.block k hk (fun e => hne (by injection e))) htc (nn + 1) hM3
  have hO : Outs S w w3 := (ho.same (Outs.refl S w1).drew).grown hgg (fun k hk => by cases hk; exact .inl h.sm)
  have HF := Lib.hid hfin
  have HO := Lib.hid hO
  have d5 : w1.cell? ⟨d, 5, none⟩ = some (.map (some mb)) := k1.c5
  have d1 : w1.cell? ⟨b1, 0, none⟩ = some (.pointer (some ⟨d, 0, none⟩)) := x1.cell 0
  have d3 : w1.cell? ⟨b3, 0, none⟩ = some (.string s) := x3.cell 0
  have O2 : Outs S w1 w2 := ((Outs.refl S w1).drew).grown hg2 (fun k hk => by cases hk; exact .inl h.sm)
  have e1 : w2.cell? ⟨b1, 0, none⟩ = some (.pointer (some ⟨d, 0, none⟩)) := (x1.outs O2 n1).cell 0
  have e2 : w2.cell? ⟨b2, 0, none⟩ = some (.string r) := (x2.outs O2 n2).cell 0
  have e4 : w2.cell? ⟨b4, 0, none⟩ = some (.pointer (some ⟨blk (lst s), 0, none⟩)) := (x4.outs O2 n4).cell 0
  have e5 : w2.cell? ⟨d, 5, none⟩ = some (.map (some mb)) := (k1.top.drew.grown hg2 (fun e => h.top_map (by injection e))).cell 5
  clear hcon h1 h2 h3 h4 htc hfe x1 x2 x3 x4 k1 k1d hM2 ht2 hg2 hM2d hM3 hg3 hgg hfin hO O2 ho h hf1 hm1 hf
  generalize blk (lst s) = bk at *
  go_wp2
  go_still_tail 5, (by kernel_rfl)
  change wpList _ _ _ _ _ w1.drew
  go_wp2
  go_still_tail 6, (by kernel_rfl)
  change wpList _ _ _ _ _ w2.drew
  go_wp2
  go_returns
  exact ⟨by simp, S, ⟨mb, nn + 1, _, _, _, HF.out, by show nn + 1 ≤ D.steps + 1; omega⟩, ⟨HO.out, fun k hk => .inl hk⟩⟩
theorem rename1_enters : ∀ args w, (callFunc 113 args).run Tryz.prog w = .ok (.enter 113 args) w := enters_of Tryz.func113 (by kernel_rfl) rfl

theorem two_texts (s r : ByteArray) (hs : s.size ≤ 9223372036854775807) (hr : r.size ≤ 9223372036854775807) (w : World) (b : Nat) (t : TypeId) (h : Whole w b t #[.string s, .string r]) : ∀ j, j < ([⟨s, hs⟩, ⟨r, hr⟩] : List Txt).length → w.cell? ⟨b, j, none⟩ = some (encT ([⟨s, hs⟩, ⟨r, hr⟩] : List Txt)[j]!) := by
  intro j hj
  have hj' : j < 2 := hj
  match j, hj' with
  | 0, _ => exact h.cell 0
  | 1, _ => exact h.cell 1

set_option maxHeartbeats 2000000 in
set_option maxRecDepth 5000 in
theorem rename_any (s r : ByteArray) (hs : s.size ≤ 9223372036854775807) (hsr : r.size ≤ 9223372036854775807) (w : World) (h : Dk 0 w S d D) (hr : Room D) (hok : Okd D) :
    Calls Tryz.prog 90 #[.pointer (some ⟨d, 0, none⟩), .string s, .string r] w fun e w' => e = .returned (.int .i64 (dRename D (lst s) (lst r)).1) ∧ ∃ S', Dk 0 w' S' d (dRename D (lst s) (lst r)).2 ∧ Turn S S' w w' := by
  obtain ⟨mb, nn, M, blk, vs, h, hnn⟩ := h
  obtain ⟨W1, hW1⟩ : ∃ W1, W1 = (((w.alloc (.cells #[.pointer (some ⟨d, 0, none⟩)] 23)).alloc (.cells #[.string s] 9)).alloc (.cells #[.string r] 9)).alloc (.cells #[.string s, .string r] 9) := ⟨_, rfl⟩
  have hb : Below w.heap.size w W1 := by rw [hW1]; exact ((((Below.refl _ w).alloc (Nat.le_refl _) _).alloc (by simp) _).alloc (by simp; omega) _).alloc (by simp; omega) _
  have hsz1 : W1.heap.size = w.heap.size + 4 := by rw [hW1]; simp
  have x1 : Whole W1 w.heap.size 23 #[.pointer (some ⟨d, 0, none⟩)] := by rw [hW1]; exact (((Whole.new w _ _).alloc _).alloc _).alloc _
  have x2 : Whole W1 (w.heap.size + 1) 9 #[.string s] := by
    rw [hW1]
    have := Whole.new (w.alloc (.cells #[.pointer (some ⟨d, 0, none⟩)] 23)) 9 #[.string s]
    rw [World.size_alloc] at this
    exact (this.alloc _).alloc _
  have x3 : Whole W1 (w.heap.size + 2) 9 #[.string r] := by
    rw [hW1]
    have := Whole.new ((w.alloc (.cells #[.pointer (some ⟨d, 0, none⟩)] 23)).alloc (.cells #[.string s] 9)) 9 #[.string r]
    rw [World.size_alloc, World.size_alloc] at this
    exact this.alloc _
  have x4 : Whole W1 (w.heap.size + 3) 9 #[.string s, .string r] := by
    rw [hW1]
    have := Whole.new (((w.alloc (.cells #[.pointer (some ⟨d, 0, none⟩)] 23)).alloc (.cells #[.string s] 9)).alloc (.cells #[.string r] 9)) 9 #[.string s, .string r]
    rw [World.size_alloc, World.size_alloc, World.size_alloc] at this
    exact this
  have h1 := h.go hb
  have hcon := refusal_any [⟨s, hs⟩, ⟨r, hsr⟩] (w.heap.size + 3) 2 2 W1 ⟨mb, nn, M, blk, vs, h1, hnn⟩ rfl (by decide) (two_texts s r hs hsr _ _ _ x4)
  have he : ask D ([(⟨s, hs⟩ : Txt), ⟨r, hsr⟩].map (lst ·.1)) = ask D [lst s, lst r] := rfl
  rw [he] at hcon
  have hD : Dk 0 w S d D := ⟨mb, nn, M, blk, vs, h, hnn⟩
  have HX := Lib.hid hW1
  clear hW1
  by_cases ha : ask D [lst s, lst r] = 0
  · rw [ha] at hcon
    have hlook : ∀ n, (Instr.lookup 43 (.map (some mb)) (.string s) false).run Tryz.prog (W1.drewN n) = .ok (fptr D blk (lst s)) (W1.drewN n) := fun n => look_at (h1.go (bDrewN (Below.refl _ _) n)) s hs
    have hlook2 : ∀ n, (Instr.lookup 43 (.map (some mb)) (.string s) false).run Tryz.prog (((W1.drewN n).alloc (.cells #[.pointer none] 69)).drew) = .ok (fptr D blk (lst s)) (((W1.drewN n).alloc (.cells #[.pointer none] 69)).drew) := fun n =>
      look_at (h1.go (((bDrewN (Below.refl _ _) n).alloc (Nat.le_refl _) _).drew)) s hs
    have hlook1 : ∀ n, (Instr.lookup 43 (.map (some mb)) (.string s) false).run Tryz.prog ((W1.drewN n).drew) = .ok (fptr D blk (lst s)) ((W1.drewN n).drew) := fun n => look_at (h1.go ((bDrewN (Below.refl _ _) n).drew)) s hs
    cases hf : find D.files (lst s) with
    | none =>
      have e1 : dRename D (lst s) (lst r) = (6, D) := by simp [dRename, ha, hf]
      have e2 : fptr D blk (lst s) = .pointer none := by simp [fptr, hf]
      rw [e1]
      rw [e2] at hlook hlook1 hlook2
      clear e1 e2
      go_enter Tryz.func90, Tryz.ntmps90
      go_wp2_with fail
      rw [← HX.out]
      refine hcon.mono ?_
      rintro e w' ⟨rfl, q, rfl⟩
      have l1 := hlook1 q
      have l2 := hlook2 q
      have y1 : Whole (W1.drewN q) w.heap.size 23 #[.pointer (some ⟨d, 0, none⟩)] := x1
      have y2 : Whole (W1.drewN q) (w.heap.size + 1) 9 #[.string s] := x2
      have y3 : Whole (W1.drewN q) (w.heap.size + 2) 9 #[.string r] := x3
      have hq := h1.go (bDrewN (Below.refl _ W1) q)
      have hbq := bDrewN hb q
      have hszq := Lib.hid (show (W1.drewN q).heap.size = w.heap.size + 4 from hsz1)
      clear hcon hlook hlook1 hlook2 x1 x2 x3 x4 h1 hb HX hsz1
      generalize W1.drewN q = W2 at *
      have c1 : W2.cell? ⟨w.heap.size, 0, none⟩ = some (.pointer (some ⟨d, 0, none⟩)) := y1.cell 0
      have c2 : W2.cell? ⟨w.heap.size + 1, 0, none⟩ = some (.string s) := y2.cell 0
      have c3 : W2.cell? ⟨w.heap.size + 2, 0, none⟩ = some (.string r) := y3.cell 0
      have c5 : W2.cell? ⟨d, 5, none⟩ = some (.map (some mb)) := hq.c5
      have k1 : (W2.alloc (.cells #[.pointer none] 69)).cell? ⟨w.heap.size, 0, none⟩ = some (.pointer (some ⟨d, 0, none⟩)) := (y1.alloc _).cell 0
      have k2 : (W2.alloc (.cells #[.pointer none] 69)).cell? ⟨w.heap.size + 1, 0, none⟩ = some (.string s) := (y2.alloc _).cell 0
      have k5 : (W2.alloc (.cells #[.pointer none] 69)).cell? ⟨d, 5, none⟩ = some (.map (some mb)) := (hq.top.alloc _).cell 5
      go_wp2
      go_region
      all_goals go_wp2
      all_goals go_returns
      all_goals exact ⟨by simp, S, hD.go ((hbq.alloc hbq.size _).drew), Turn.below ((hbq.alloc hbq.size _).drew)⟩
    | some f =>
      have e2 : fptr D blk (lst s) = .pointer (some ⟨blk (lst s), 0, none⟩) := by simp [fptr, hf]
      rw [e2] at hlook hlook1 hlook2
      clear e2
      by_cases heq : lst s = lst r
      · have e1 : dRename D (lst s) (lst r) = (0, D) := by
          unfold dRename
          rw [if_neg (by rw [ha]; simp), hf]
          exact if_pos heq
        rw [e1]
        obtain rfl : s = r := lst_inj heq
        clear e1 heq
        generalize blk (lst s) = bk at *
        go_enter Tryz.func90, Tryz.ntmps90
        go_wp2_with fail
        rw [← HX.out]
        refine hcon.mono ?_
        rintro e w' ⟨rfl, q, rfl⟩
        have l1 := hlook1 q
        have l2 := hlook2 q
        have y1 : Whole (W1.drewN q) w.heap.size 23 #[.pointer (some ⟨d, 0, none⟩)] := x1
        have y2 : Whole (W1.drewN q) (w.heap.size + 1) 9 #[.string s] := x2
        have y3 : Whole (W1.drewN q) (w.heap.size + 2) 9 #[.string s] := x3
        have hq := h1.go (bDrewN (Below.refl _ W1) q)
        have hbq := bDrewN hb q
        have hszq := Lib.hid (show (W1.drewN q).heap.size = w.heap.size + 4 from hsz1)
        clear hcon hlook hlook1 hlook2 x1 x2 x3 x4 h1 hb HX hsz1
        generalize W1.drewN q = W2 at *
        have c1 : W2.cell? ⟨w.heap.size, 0, none⟩ = some (.pointer (some ⟨d, 0, none⟩)) := y1.cell 0
        have c2 : W2.cell? ⟨w.heap.size + 1, 0, none⟩ = some (.string s) := y2.cell 0
        have c3 : W2.cell? ⟨w.heap.size + 2, 0, none⟩ = some (.string s) := y3.cell 0
        have c5 : W2.cell? ⟨d, 5, none⟩ = some (.map (some mb)) := hq.c5
        have k1 : ∀ v, (W2.alloc (.cells #[v] 69)).cell? ⟨w.heap.size, 0, none⟩ = some (.pointer (some ⟨d, 0, none⟩)) := fun v => (y1.alloc _).cell 0
        have k2 : ∀ v, (W2.alloc (.cells #[v] 69)).cell? ⟨w.heap.size + 1, 0, none⟩ = some (.string s) := fun v => (y2.alloc _).cell 0
        have k5 : ∀ v, (W2.alloc (.cells #[v] 69)).cell? ⟨d, 5, none⟩ = some (.map (some mb)) := fun v => (hq.top.alloc _).cell 5
        have k3 : ∀ v, (W2.alloc (.cells #[v] 69)).cell? ⟨w.heap.size + 2, 0, none⟩ = some (.string s) := fun v => (y3.alloc _).cell 0
        go_wp2
        go_region
        all_goals go_wp2
        all_goals go_returns
        all_goals exact ⟨by simp, S, hD.go ((hbq.alloc hbq.size _).drew), Turn.below ((hbq.alloc hbq.size _).drew)⟩
      · have e1 : dRename D (lst s) (lst r) = dStep D (mv f (lst s) (lst r)) := by
          unfold dRename
          rw [if_neg (by rw [ha]; simp), hf]
          exact if_neg heq
        rw [e1]
        have hq1 : ¬ s.toList = r.toList := fun e => heq (by rw [Lib.toList_data, Lib.toList_data] at e; exact e)
        have hq2 : (s.toList == r.toList) = false := by simpa using hq1
        clear e1
        generalize hbk : blk (lst s) = bk at *
        have HBK := Lib.hid hbk
        have HQ := Lib.hid heq
        clear hbk heq
        go_enter Tryz.func90, Tryz.ntmps90
        go_wp2_with fail
        rw [← HX.out]
        refine hcon.mono ?_
        rintro e w' ⟨rfl, q, rfl⟩
        have l1 := hlook1 q
        have l2 := hlook2 q
        have y1 : Whole (W1.drewN q) w.heap.size 23 #[.pointer (some ⟨d, 0, none⟩)] := x1
        have y2 : Whole (W1.drewN q) (w.heap.size + 1) 9 #[.string s] := x2
        have y3 : Whole (W1.drewN q) (w.heap.size + 2) 9 #[.string r] := x3
        have hq := h1.go (bDrewN (Below.refl _ W1) q)
        have hbq := bDrewN hb q
        have hszq := Lib.hid (show (W1.drewN q).heap.size = w.heap.size + 4 from hsz1)
        clear hcon hlook hlook1 hlook2 x1 x2 x3 x4 h1 hb HX hsz1
        generalize W1.drewN q = W2 at *
        have c1 : W2.cell? ⟨w.heap.size, 0, none⟩ = some (.pointer (some ⟨d, 0, none⟩)) := y1.cell 0
        have c2 : W2.cell? ⟨w.heap.size + 1, 0, none⟩ = some (.string s) := y2.cell 0
        have c3 : W2.cell? ⟨w.heap.size + 2, 0, none⟩ = some (.string r) := y3.cell 0
        have c5 : W2.cell? ⟨d, 5, none⟩ = some (.map (some mb)) := hq.c5
        have k1 : ∀ v, (W2.alloc (.cells #[v] 69)).cell? ⟨w.heap.size, 0, none⟩ = some (.pointer (some ⟨d, 0, none⟩)) := fun v => (y1.alloc _).cell 0
        have k2 : ∀ v, (W2.alloc (.cells #[v] 69)).cell? ⟨w.heap.size + 1, 0, none⟩ = some (.string s) := fun v => (y2.alloc _).cell 0
        have k5 : ∀ v, (W2.alloc (.cells #[v] 69)).cell? ⟨d, 5, none⟩ = some (.map (some mb)) := fun v => (hq.top.alloc _).cell 5
        have k3 : ∀ v, (W2.alloc (.cells #[v] 69)).cell? ⟨w.heap.size + 2, 0, none⟩ = some (.string r) := fun v => (y3.alloc _).cell 0
        go_wp2
        go_region
        all_goals go_wp2_with fail
        all_goals (
          have hbx : Below W2.heap.size W2 ((W2.alloc (.cells #[.pointer (some ⟨bk, 0, none⟩)] 69)).drew) := ((Below.refl _ W2).alloc (Nat.le_refl _) _).drew
          have hbw : Below w.heap.size w ((W2.alloc (.cells #[.pointer (some ⟨bk, 0, none⟩)] 69)).drew) := hbq.trans (hbx.mono hbq.size)
          have z1 := y1.below hbx y1.lt
          have z2 := y2.below hbx y2.lt
          have z3 := y3.below hbx y3.lt
          have z4 : Whole ((W2.alloc (.cells #[.pointer (some ⟨bk, 0, none⟩)] 69)).drew) W2.heap.size 69 #[.pointer (some ⟨bk, 0, none⟩)] := (Whole.new W2 _ _).drew
          have n1 : ¬ S w.heap.size := fun e => Nat.lt_irrefl _ (h.lt _ e)
          have n2 : ¬ S (w.heap.size + 2) := fun e => by have := h.lt _ e; omega
          have n3 : ¬ S (w.heap.size + 1) := fun e => by have := h.lt _ e; omega
          have n4 : ¬ S W2.heap.size := fun e => by have := h.lt _ e; have := hszq.out; omega
          have hcon2 := step_any 113 #[.pointer (some ⟨w.heap.size, 0, none⟩), .pointer (some ⟨w.heap.size + 2, 0, none⟩), .pointer (some ⟨w.heap.size + 1, 0, none⟩), .pointer (some ⟨W2.heap.size, 0, none⟩)] (mv f (lst s) (lst r)) _ (hq.go hbx) hnn (by have := hr.steps; omega) hr.f0 hr.f1 rename1_enters
            (fun w3 h3 ho hsz => rename1_any s r hs hsr w.heap.size (w.heap.size + 2) (w.heap.size + 1) W2.heap.size w3 h3 hnn (by have := hr.steps; show D.steps + 100 ≤ _; omega) (okd_burn hok) hf HQ.out (z1.outs ho n1) (z3.outs ho n2) (z2.outs ho n3) (by rw [HBK.out]; exact z4.outs ho n4) n1 n2 n3 n4)
          clear z1 z2 z3 z4 hbx l1 l2 y1 y2 y3 hq
          refine hcon2.mono ?_
          rintro e w3 ⟨rfl, S', hk, ht⟩
          have HK := Lib.hid hk
          have HT := Lib.hid ((Turn.below hbw).trans ht)
          clear hcon2 hk ht hbw hbq
          go_wp2
          go_returns
          exact ⟨by simp, S', HK.out, HT.out⟩)
  · have e1 : dRename D (lst s) (lst r) = (ask D [lst s, lst r], D) := by simp [dRename, ha]
    rw [e1]
    have hn : (ask D [lst s, lst r] != 0) = true := by simpa using ha
    generalize ask D [lst s, lst r] = c at *
    have HB := Lib.hid hb
    clear hb e1 ha h h1
    go_enter Tryz.func90, Tryz.ntmps90
    go_wp2_with fail
    rw [← HX.out]
    refine hcon.mono ?_
    rintro e w' ⟨rfl, q, rfl⟩
    go_wp2
    go_returns
    exact ⟨by simp, S, hD.go (bDrewN HB.out q), Turn.below (bDrewN HB.out q)⟩
end
end Go.Proofs.YtbobakfcmkaijaaGreatDoor
end

section
/- The program's test of what a crash is to keep; the files' names, rising. -/
namespace Go.Proofs.YtbobakfcmkaijaaGreatDoor
open Go.RowKit Go.Maps Go.WideMaps
set_option linter.unusedVariables false

theorem neg_any (z : Int) (w : World) : Calls Tryz.prog 37 #[.int .i64 z] w fun e w' => e = .returned (.bool (decide (z < 0))) ∧ w' = w := by
  by_cases h : z < 0
  · have h' : decide (z < 0) = true := decide_eq_true h
    rw [h']
    go_enter Tryz.func37, Tryz.ntmps37
    go_wp2
    go_returns
    exact ⟨by simp, rfl⟩
  · have h' : decide (z < 0) = false := decide_eq_false h
    rw [h']
    go_enter Tryz.func37, Tryz.ntmps37
    go_wp2
    go_returns
    exact ⟨by simp, rfl⟩

def cN (zs : List Int) : List Value := zs.map (Value.int .i64)
theorem cN_length (zs : List Int) : (cN zs).length = zs.length := by simp [cN]
theorem cN_get {zs : List Int} {j : Nat} (h : j < zs.length) : (cN zs)[j]? = some (.int .i64 zs[j]) := by simp [cN, h]
def isNeg (z : Int) : Bool := decide (z < 0)

set_option maxHeartbeats 1000000 in
set_option maxRecDepth 5000 in
theorem index_any (A : Option Addr) (zs : List Int) (n c lim : Nat) (w : World) (hn : zs.length = n) (hl : n ≤ 9223372036854775807) (hr : Rds w lim A (cN zs)) :
    Calls Tryz.prog 64 #[.slice A n c, .func (.func 37) #[] #[]] w fun e w' => ∃ i : Int, e = .returned (.int .i64 i) ∧ decide (0 ≤ i) = zs.any isNeg ∧ ∃ k, w' = w.drewN k := by
  have hl' : (n : Int) ≤ 9223372036854775807 := by omega
  have HN := Lib.hid hn
  clear hn
  go_enter Tryz.func64, Tryz.ntmps64
  go_wp2
  go_loopw [8] (fun i wr => ∃ k : Nat, k ≤ n ∧ i = .int .i64 k ∧ (∀ z ∈ zs.take k, isNeg z = false) ∧ ∃ q, wr = w.drewN q) (fun i _ => n - (intOf i).toNat)
  case atStart => exact ⟨0, Nat.zero_le _, rfl, by simp, 0, rfl⟩
  case round =>
    obtain ⟨k, hk, rfl, hall, q, rfl⟩ := hrel
    have HA := Lib.hid hall
    clear hall
    by_cases hlt : k < n
    · have hkl : k < zs.length := by rw [HN.out]; exact hlt
      obtain ⟨ad, rfl, _, hcell⟩ := hr.at_ (cN_get hkl)
      generalize hz : zs[k] = z at *
      have HZ := Lib.hid hz
      clear hz
      go_wp2_with fail
      refine (neg_any z _).mono ?_
      rintro e w1 ⟨rfl, rfl⟩
      cases hd : decide (z < 0)
      · go_wp2
        go_roundw
        case rel =>
          refine ⟨k + 1, by omega, by go_num, ?_, _, rfl⟩
          intro y hy
          rw [List.take_add_one, List.getElem?_eq_getElem hkl] at hy
          rcases List.mem_append.1 hy with hy | hy
          · exact HA.out y hy
          · have : y = z := by rw [← HZ.out]; simpa using hy
            rw [this]
            exact hd
        case measure => simp [intOf]; omega
      · go_wp2
        go_returns
        refine ⟨k, by simp, ?_, _, rfl⟩
        have : zs.any isNeg = true := List.any_eq_true.2 ⟨z, by rw [← HZ.out]; exact List.getElem_mem hkl, hd⟩
        rw [this]
        exact decide_eq_true (by omega)
    · go_wp2
      go_returns
      refine ⟨-1, by simp, ?_, q, rfl⟩
      have h := HA.out
      rw [List.take_of_length_le (by rw [HN.out]; omega)] at h
      have : zs.any isNeg = false := List.any_eq_false.2 (fun z hz => by rw [h z hz]; decide)
      rw [this]
      rfl
theorem anyNeg_any (A : Option Addr) (zs : List Int) (n c lim : Nat) (w : World) (hn : zs.length = n) (hl : n ≤ 9223372036854775807) (hr : Rds w lim A (cN zs)) :
    Calls Tryz.prog 36 #[.slice A n c, .func (.func 37) #[] #[]] w fun e w' => e = .returned (.bool (zs.any isNeg)) ∧ ∃ k, w' = w.drewN k := by
  have hcon := index_any A zs n c lim w hn hl hr
  go_enter Tryz.func36, Tryz.ntmps36
  go_wp2_with fail
  refine hcon.mono ?_
  rintro e w1 ⟨i, rfl, hd, k, rfl⟩
  have HD := Lib.hid hd
  clear hd hcon
  by_cases hi : 0 ≤ i
  · have : zs.any isNeg = true := by rw [← HD.out]; exact decide_eq_true hi
    rw [this] at HD
    go_wp2
    go_returns
    exact ⟨by rw [this]; simp, k, rfl⟩
  · have : zs.any isNeg = false := by rw [← HD.out]; exact decide_eq_false hi
    go_wp2
    go_returns
    exact ⟨by rw [this]; simp; omega, k, rfl⟩

section
variable {S : Nat → Prop} {d mb nn : Nat} {M : DataW Unit} {blk : Nm → Nat} {vs : Nm → Value} {D : Dsk}

theorem names_perm {w : World} (h : DkAt w S d mb nn M blk vs D) (hs : Srt D.files) : (names D).Perm (strKeys M) := by
  have hc : Collected M (fun _ => false) (names D) := by
    refine ⟨?_, fun x => ?_⟩
    · have := (srt_iff D.files).1 hs
      exact this.imp (fun h => nm_lt_ne h)
    · rw [and_iff_left rfl]
      constructor
      · intro hx
        obtain ⟨f, hf, rfl⟩ := List.mem_map.1 hx
        have := find_mem hs hf
        exact has_true_of_atKey (y := .lit (.int .i64 (blk f.nm))) fun z => by rw [h.key, this]
      · intro hx
        cases hf : find D.files x with
        | none =>
          have : has M (.string x) = false := has_false_of_atKey fun z => by rw [h.key, hf]
          rw [this] at hx
          cases hx
        | some f =>
          obtain ⟨hm, rfl⟩ := find_some hf
          exact List.mem_map.2 ⟨f, hm, rfl⟩
  exact hc.perm h.map lawS Tryz.underlying9 (fun _ => rfl)
theorem names_sorted {D : Dsk} (hs : Srt D.files) : (names D).mergeSort leB = names D := by
  refine List.mergeSort_of_pairwise ?_
  refine ((srt_iff D.files).1 hs).imp fun h => ?_
  simp only [leB, decide_eq_true_eq]
  exact List.le_of_lt h

def cS (l : List Nm) : List Value := l.map encStr

theorem rising_any (w : World) (h : DkAt w S d mb nn M blk vs D) (hnn : nn ≤ 1099511627776) (hs : Srt D.files) :
    Calls Tryz.prog 38 #[.pointer (some ⟨d, 0, none⟩)] w fun e w' => ∃ v, e = .returned v ∧ w'.ownsRow w.heap.size 9 1 v (names D).length (cS (names D)) ∧ Below w.heap.size w w' := by
  have c5 := h.c5
  have hz := h.map.size_le
  have hk := callsIn_wide.1 (Tryz.maps_Keys_66 (some mb) w)
  have hso := callsIn_wide.1 (Tryz.slices_Sorted_keys_65_66 mb nn M ptrR w h.map (by unfold maxLen; omega) (by omega))
  go_enter Tryz.func38, Tryz.ntmps38
  go_wp2_with fail
  refine hk.mono ?_
  rintro e w1 ⟨rfl, rfl⟩
  go_wp2_with fail
  refine hso.mono ?_
  rintro e w2 ⟨v, ss, rfl, hp, ho, _, hb⟩
  have hl : ss.length = (names D).length := (hp.trans (names_perm h hs).symm).length_eq
  have hm : ss.mergeSort (fun x y => decide (x ≤ y)) = names D := (mergeSort_of_perm (hp.trans (names_perm h hs).symm)).trans (names_sorted hs)
  rw [hm, hl] at ho
  have hb2 : Below w.heap.size w w2 := ((Below.refl _ w).alloc (Nat.le_refl _) _).trans (hb.mono (by simp))
  have HO := Lib.hid (ownRow_base ho (B' := w.heap.size) (fun g hg => by have := (ownRow_block ho hg).1; simp at this; omega))
  have HB := Lib.hid hb2
  clear ho hb hb2 hm hl hp hso hk
  go_wp2
  go_returns
  exact ⟨v, by simp, HO.out, HB.out⟩
theorem names_on (w : World) (h : Dk 0 w S d D) (hst : D.steps ≤ 1099511627776) (hs : Srt D.files) :
    Calls Tryz.prog 21 #[.pointer (some ⟨d, 0, none⟩)] w fun e w' => ∃ v, e = .returned v ∧ w'.ownsRow w.heap.size 9 1 v (dNames D).length (cS (dNames D)) ∧ Below w.heap.size w w' := by
  have hcon := on_any w h
  obtain ⟨mb, nn, M, blk, vs, h, hnn⟩ := h
  have hri := rising_any w h (by omega) hs
  cases ho : D.off
  · have e : dNames D = names D := by simp [dNames, ho]
    rw [ho] at hcon
    rw [e]
    generalize names D = L at *
    go_enter Tryz.func21, Tryz.ntmps21
    go_wp2_with fail
    refine hcon.mono ?_
    rintro e w1 ⟨rfl, rfl⟩
    go_wp2_with fail
    refine hri.mono ?_
    rintro e w2 ⟨v, rfl, ho, hb⟩
    have HO := Lib.hid ho
    clear ho hri hcon
    go_wp2
    go_returns
    exact ⟨v, by simp, HO.out, hb⟩
  · have e : dNames D = [] := by simp [dNames, ho]
    rw [ho] at hcon
    rw [e]
    go_enter Tryz.func21, Tryz.ntmps21
    go_wp2_with fail
    refine hcon.mono ?_
    rintro e w1 ⟨rfl, rfl⟩
    go_wp2
    go_returns
    exact ⟨_, by simp, World.ownsRow_nil _ _ _ _, Below.refl _ _⟩
theorem names_no (p : Option Addr) (w : World) (h : Nobody w p) :
    Calls Tryz.prog 21 #[.pointer p] w fun e w' => e = .returned (.slice none 0 0) ∧ w' = w := by
  have hcon := on_no p w h
  go_enter Tryz.func21, Tryz.ntmps21
  go_wp2_with fail
  refine hcon.mono ?_
  rintro e w1 ⟨rfl, rfl⟩
  go_wp2
  go_returns
  exact ⟨by simp, rfl⟩
end
end Go.Proofs.YtbobakfcmkaijaaGreatDoor
end

section
/- A file loses bytes; the program's Crash. -/
namespace Go.Proofs.YtbobakfcmkaijaaGreatDoor
open Go.RowKit Go.Maps Go.WideMaps
set_option linter.unusedVariables false

def goneOf (f : Fl) (k : Int) : Nat := f.bs.length - keptOf f k
theorem kept_le {f : Fl} (h : f.sy ≤ f.bs.length) {k : Int} : keptOf f k ≤ f.bs.length := by
  unfold keptOf
  omega
theorem used_cut {fs : List Fl} (hs : Srt fs) {l : Nm} {f : Fl} (hf : find fs l = some f) (hsy : f.sy ≤ f.bs.length) (k : Int) : used (upd l (fun f => cutTo f k) fs) + goneOf f k = used fs := by
  induction fs with
  | nil => simp [find] at hf
  | cons g r ih =>
    obtain ⟨h1, h2⟩ := List.pairwise_cons.1 hs
    unfold find at hf
    rw [List.find?_cons] at hf
    by_cases hg : g.nm = l
    · have hr : find r l = none := by
        refine List.find?_eq_none.2 fun a ha => ?_
        have := nm_lt_ne (h1 a ha)
        rw [hg] at this
        simpa using this.symm
      rw [show (g.nm == l) = true by simpa using hg] at hf
      obtain rfl := Option.some.inj hf
      have e : upd l (fun f => cutTo f k) (g :: r) = cutTo g k :: r := by
        have := upd_none hr (fun f => cutTo f k)
        unfold upd at this ⊢
        rw [List.map_cons, if_pos hg, this]
      rw [e, used_cons, used_cons]
      have := kept_le hsy (k := k)
      simp only [cutTo, List.length_take, goneOf]
      omega
    · rw [show (g.nm == l) = false by simpa using hg] at hf
      have := ih h2 hf
      have e : upd l (fun f => cutTo f k) (g :: r) = g :: upd l (fun f => cutTo f k) r := by
        unfold upd
        rw [List.map_cons, if_neg hg]
      rw [e, used_cons, used_cons]
      omega

section
variable {S : Nat → Prop} {d mb nn : Nat} {M : DataW Unit} {blk : Nm → Nat} {vs : Nm → Value} {D : Dsk}

set_option maxHeartbeats 2000000 in
set_option maxRecDepth 5000 in
theorem lose_any {l : Nm} {f : Fl} (k : Int) (hk0 : 0 ≤ k) (hk1 : k ≤ 9223372036854775807) (w : World) (h : DkAt w S d mb nn M blk vs D) (hok : Okd D) (hf : find D.files l = some f) :
    Calls Tryz.prog 39 #[.pointer (some ⟨blk l, 0, none⟩), .int .i64 k] w fun e w' => e = .returned (.int .i64 (goneOf f k)) ∧ ∃ vs', DkAt w' (More S w w') d mb nn M blk vs' { D with files := upd l (fun f => cutTo f k) D.files, room := D.room - goneOf f k } ∧ Turn S (More S w w') w w' := by
  obtain ⟨hmem, hnm⟩ := find_some hf
  have hsy := hok.sy f hmem
  have hkl := kept_le hsy (k := k)
  obtain ⟨hW, hR⟩ := h.fil l f hf
  obtain ⟨A, c, hv, hr, hnc, hcm, hA0⟩ := own_open hR
  have hu := used_cut hok.srt hf hsy k
  have hn30 : f.bs.length ≤ 1073741824 := by
    have h1 := used_del hok.srt hf
    have := hok.fits
    have := hok.room
    omega
  have hgl : goneOf f k ≤ D.room := by
    have := hok.fits
    omega
  have hroom := hok.fits
  have w0 : w.cell? ⟨blk l, 0, none⟩ = some (.slice A f.bs.length c) := by rw [← hv]; exact hW.cell 0
  have w1 : w.cell? ⟨blk l, 1, none⟩ = some (.int .i64 f.sy) := hW.cell 1
  -- what it comes to
  have hfin : ∀ n w2 v, w2.ownsRow w.heap.size 5 1 v (keptOf f k) (c8 (f.bs.take (keptOf f k))) → Below w.heap.size (w.drewN n) w2 →
      w2.cell? ⟨blk l, 0, none⟩ = some (.slice A f.bs.length c) ∧ w2.cell? ⟨blk l, 1, none⟩ = some (.int .i64 f.sy) ∧ w2.frozen? ⟨blk l, 0, none⟩ = false ∧ w2.frozen? ⟨blk l, 1, none⟩ = false ∧
      ∃ vs', DkAt ((w2.setCell ⟨blk l, 0, none⟩ v).setCell ⟨blk l, 1, none⟩ (.int .i64 (keptOf f k))) (More S w ((w2.setCell ⟨blk l, 0, none⟩ v).setCell ⟨blk l, 1, none⟩ (.int .i64 (keptOf f k)))) d mb nn M blk vs' { D with files := upd l (fun f => cutTo f k) D.files, room := D.room - goneOf f k } ∧ Turn S (More S w ((w2.setCell ⟨blk l, 0, none⟩ v).setCell ⟨blk l, 1, none⟩ (.int .i64 (keptOf f k)))) w ((w2.setCell ⟨blk l, 0, none⟩ v).setCell ⟨blk l, 1, none⟩ (.int .i64 (keptOf f k))) := by
    intro n w2 v ho hb
    have hb' : Below w.heap.size w w2 := ⟨hb.os, hb.tape, hb.output, hb.size, hb.block⟩
    have hW2 := hW.below hb' hW.lt
    refine ⟨by rw [← hv]; exact hW2.cell 0, hW2.cell 1, hW2.frozen 0, hW2.frozen 1, (fun x => if x = l then v else vs x), ?_, ⟨?_, more_new⟩⟩
    · have hlen : (f.bs.take (keptOf f k)).length = keptOf f k := by rw [List.length_take]; omega
      refine h.turnFile hf (fun f => cutTo f k) (fun _ => rfl) v _ rfl (by have := hb'.size; simp [World.setCell]; exact this) ?_ ?_ ?_ ?_ (.inr fun g hg => (ownRow_block ho hg).1)
      · intro q hq h1 h2 h3
        rw [Below.heap_setCell _ _ _ _ h2, Below.heap_setCell _ _ _ _ h2]
        exact hb'.block q hq
      · have e : topCells d mb { D with files := upd l (fun f => cutTo f k) D.files, room := D.room - goneOf f k } = topCells d mb D := by
          simp only [topCells, left]
          congr 5
          omega
        rw [e]
        exact ((h.top.below hb' (h.lt _ h.sd)).far (p := ⟨blk l, 0, none⟩) (h.ne_blk hf).symm _).far (p := ⟨blk l, 1, none⟩) (h.ne_blk hf).symm _
      · exact (hW2.put 0 v).put 1 _
      · simp only [cutTo, hlen]
        have hne : ∀ g, v.ownBlock = some g → g ≠ blk l := fun g hg e => by have := (ownRow_block ho hg).1; have := h.blt hf; omega
        refine ownRow_block_kept (ownRow_base ho (fun _ _ => Nat.zero_le _)) fun g hg => ?_
        rw [Below.heap_setCell _ _ _ _ (hne g hg), Below.heap_setCell _ _ _ _ (hne g hg)]
    · exact (((Outs.of hb').setCell (p := ⟨blk l, 0, none⟩) (.inl (h.sb l f hf).1) _).setCell (p := ⟨blk l, 1, none⟩) (.inl (h.sb l f hf).1) _)
  have HF := Lib.hid hfin
  have hcl : ∀ n, Calls Tryz.prog 25 #[.slice A (keptOf f k : Nat) c] (w.drewN n) _ := fun n => dclone_any A (keptOf f k) c (f.bs.take (keptOf f k)) (w.drewN n) (by rw [List.length_take]; omega) (by omega) (by
    have := hr.take (keptOf f k)
    rw [show c8 (f.bs.take (keptOf f k)) = (c8 f.bs).take (keptOf f k) by simp [c8, List.map_take]]
    exact this)
  have hcl' := Lib.hid hcl
  clear hcl
  have hgo : goneOf f k = f.bs.length - keptOf f k := rfl
  have hke : (keptOf f k : Int) = f.sy + min k ((f.bs.length : Int) - f.sy) := by unfold keptOf; omega
  clear hfin hv hR hr hW hu hroom hgl
  generalize goneOf f k = G at *
  generalize keptOf f k = K at *
  generalize hN : f.bs.length = N at *
  generalize hY : f.sy = Y at *
  generalize blk l = bk at *
  have HK := Lib.hid hke
  have HG := Lib.hid hgo
  have hg2 : (N : Int) - K = G := by omega
  clear hke hgo h hok
  go_enter Tryz.func39, Tryz.ntmps39
  go_wp2
  go_region
  rw [← HK.out]
  have hkn : (K : Int) ≤ N := by omega
  have hkc : (K : Int) ≤ c := by omega
  go_wp2_with fail
  refine (hcl'.out 1).mono ?_
  rintro e w2 ⟨v, rfl, ho, hb⟩
  obtain ⟨A', c', rfl, _, _, _, _⟩ := own_open ho
  obtain ⟨p0, p1, q0, q1, hfin⟩ := HF.out 1 w2 _ ho hb
  have HFin := Lib.hid hfin
  clear hfin ho hb hcl' HF
  go_wp2
  go_returns
  exact ⟨by simp, HFin.out⟩
end
end Go.Proofs.YtbobakfcmkaijaaGreatDoor
end

section
/- The program's Crash. -/
namespace Go.Proofs.YtbobakfcmkaijaaGreatDoor
open Go.RowKit Go.Maps Go.WideMaps
set_option linter.unusedVariables false

theorem Rds.outs {w w' : World} {S : Nat → Prop} {A : Option Addr} {xs : List Value} (hr : Rds w w.heap.size A xs) (ho : Outs S w w') (hn : ∀ ad, A = some ad → xs ≠ [] → ¬ S ad.block) : Rds w' w'.heap.size A xs := by
  intro hne
  obtain ⟨ad, e, hb, hc⟩ := hr hne
  refine ⟨ad, e, Nat.lt_of_lt_of_le hb ho.size, fun j u hu => ?_⟩
  rw [ho.cell (p := ad.add j) (by rw [blk_add]; exact hb) (by rw [blk_add]; exact hn ad e hne)]
  exact hc j u hu

theorem cS_get {l : List Nm} {j : Nat} (h : j < l.length) : (cS l)[j]? = some (encStr l[j]) := by simp [cS, h]

section
variable {S : Nat → Prop} {d mb nn : Nat} {M : DataW Unit} {blk : Nm → Nat} {vs : Nm → Value} {D : Dsk}

/-- the disk's room was told too small: it is told right -/
theorem DkAt.roomy {w : World} {r : Nat} (h : DkAt w S d mb nn M blk vs { D with room := r }) (u : Int) (hu : u = left D) : DkAt (w.setCell ⟨d, 2, none⟩ (.int .i64 u)) S d mb nn M blk vs D :=
  h.head 2 _ D rfl (by simp only [topCells, left, hu]; rfl)

theorem lose_step {l : Nm} {f : Fl} (k : Int) (hk0 : 0 ≤ k) (hk1 : k ≤ 9223372036854775807) (w : World) (h : DkAt w S d mb nn M blk vs D) (hok : Okd D) (hf : find D.files l = some f) :
    Calls Tryz.prog 39 #[.pointer (some ⟨blk l, 0, none⟩), .int .i64 k] w.drew fun e w' => e = .returned (.int .i64 (goneOf f k)) ∧ w'.cell? ⟨d, 2, none⟩ = some (.int .i64 (left D)) ∧ w'.frozen? ⟨d, 2, none⟩ = false ∧
      ∃ S' vs', DkAt (w'.setCell ⟨d, 2, none⟩ (.int .i64 (left D + goneOf f k))) S' d mb nn M blk vs' { D with files := upd l (fun f => cutTo f k) D.files } ∧ Turn S S' w (w'.setCell ⟨d, 2, none⟩ (.int .i64 (left D + goneOf f k))) := by
  obtain ⟨hmem, hnm⟩ := find_some hf
  have hu := used_cut hok.srt hf (hok.sy f hmem) k
  have hfit := hok.fits
  refine (lose_any k hk0 hk1 w.drew (h.go (bDrewN (Below.refl _ _) 1)) hok hf).mono ?_
  rintro e w' ⟨rfl, vs', hd, ht⟩
  have hl : left { D with files := upd l (fun f => cutTo f k) D.files, room := D.room - goneOf f k } = left D := by
    simp only [left]
    omega
  refine ⟨rfl, by rw [hd.c2, hl], hd.fz 2, More S w.drew w', vs', ?_, ?_⟩
  · refine DkAt.roomy (D := { D with files := upd l (fun f => cutTo f k) D.files }) (r := D.room - goneOf f k) hd _ ?_
    simp only [left]
    omega
  · exact ⟨((Outs.refl S w).drew.trans ht.outs (fun i hi => .inl hi)).setCell (p := ⟨d, 2, none⟩) (.inl h.sd) _, ht.new⟩

set_option maxHeartbeats 4000000 in
set_option maxRecDepth 8000 in
theorem crash_any (Ak : Option Addr) (ks : List Int) (n c : Nat) (w : World) (h : Dk 0 w S d D) (hr : Room D) (hok : Okd D) (hn : ks.length = n) (hnl : n ≤ 9223372036854775807) (hk64 : ∀ z ∈ ks, z ≤ 9223372036854775807)
    (hkr : Rds w w.heap.size Ak (cN ks)) (hkS : ∀ ad, Ak = some ad → cN ks ≠ [] → ¬ S ad.block) :
    Calls Tryz.prog 13 #[.pointer (some ⟨d, 0, none⟩), .slice Ak n c] w fun e w' => e = .returned (.int .i64 (dCrash D ks).1) ∧ ∃ S', Dk 0 w' S' d (dCrash D ks).2 ∧ Turn S S' w w' := by
  have hcon := anyNeg_any Ak ks n c w.heap.size w hn hnl hkr
  obtain ⟨mb, nn, M, blk, vs, h, hnn⟩ := h
  have c0 := h.c0
  cases hneg : ks.any isNeg
  · have e1 : dCrash D ks = (0, { D with files := crs D.files ks, off := false, fuse := -1 }) := by
      unfold dCrash
      rw [if_neg (by show ¬ ks.any isNeg = true; rw [hneg]; decide)]
    rw [e1]
    rw [hneg] at hcon
    have hnn0 : ∀ z ∈ ks, 0 ≤ z := by
      intro z hz
      have := List.any_eq_false.1 hneg z hz
      simpa [isNeg] using this
    obtain ⟨N, hN⟩ : ∃ N, N = D.files.length := ⟨_, rfl⟩
    have hNl : (names D).length = N := by rw [hN]; simp [names]
    have HNN := Lib.hid hN
    have hsteps := hr.steps
    clear e1 hneg hN
    go_enter Tryz.func13, Tryz.ntmps13
    go_wp2_with fail
    refine (nobodys_no d w c0).mono ?_
    rintro e w0 ⟨rfl, hw0⟩
    rw [hw0]
    clear hw0 w0
    go_wp2_with fail
    refine hcon.mono ?_
    rintro e w1 ⟨rfl, q, rfl⟩
    have h1 : DkAt (w.drewN q) S d mb nn M blk vs D := h.go (bDrewN (Below.refl _ _) q)
    have hri := rising_any (w.drewN q) h1 (by omega) hok.srt
    rw [hNl] at hri
    go_wp2_with fail
    refine hri.mono ?_
    rintro e w2 ⟨v, rfl, hown, hb⟩
    have hb2 : Below w.heap.size w w2 := ⟨hb.os, hb.tape, hb.output, hb.size, hb.block⟩
    have h2 := h.go hb2
    have hkr2 := (hkr.below hb2).more hb2.size
    obtain ⟨An, cn, rfl, hnr, hNc, hcm, _⟩ := own_open hown
    have hN63 : N ≤ 9223372036854775807 := by unfold maxLen at hcm; omega
    have hnS : ∀ ad, An = some ad → cS (names D) ≠ [] → ¬ S ad.block := by
      intro ad e1 e2 e3
      have hl := h.lt _ e3
      obtain ⟨_, hx⟩ := hnr e2
      subst e1
      have := (ownRow_block hown (g := ad.block) (by
        rcases hown.2 with ⟨hv, _⟩ | ⟨g, cap, cur, hv, _⟩
        · cases hv
        · injection hv with hv
          injection hv with hv
          subst hv
          rfl)).1
      have e4 : (w.drewN q).heap.size = w.heap.size := rfl
      omega
    clear hown hcon hri h1 c0 hkr hb
    go_wp2
    go_loopw [15] (fun i wr => ∃ (k : Nat) (S' : Nat → Prop) (vs' : Nm → Value), k ≤ N ∧ i = .int .i64 k ∧ DkAt wr S' d mb nn M blk vs' { D with files := crsN k D.files ks } ∧ Turn S S' w2 wr) (fun i _ => N - (intOf i).toNat)
    case atStart => exact ⟨0, S, vs, Nat.zero_le _, rfl, by rw [crsN_zero]; exact h2, Turn.refl _ _⟩
    case round =>
      obtain ⟨k, S', vs', hk, rfl, hd, ht⟩ := hrel
      have hkr3 := hkr2.outs ht.outs hkS
      have hnr3 := hnr.outs ht.outs hnS
      by_cases hlt : k < N
      · have hkf : k < D.files.length := by rw [← HNN.out]; exact hlt
        have hkn : k < (names D).length := by rw [hNl]; exact hlt
        obtain ⟨ad, rfl, _, hcell⟩ := hnr3.at_ (cS_get hkn)
        have hnm : (names D)[k] = D.files[k].nm := by simp [names]
        have hcell' : wr.cell? (ad.add k) = some (.string ⟨(D.files[k].nm).toArray⟩) := by rw [hcell, hnm]
        have hfk := crsN_find ks hok.srt hkf
        have hokk := okd_crsN hok k ks
        have hlenN : (⟨(D.files[k].nm).toArray⟩ : ByteArray).size ≤ maxLen := by
          have h1 := (okN_len (hok.nms _ (List.getElem_mem hkf))).2
          have h2 : (⟨(D.files[k].nm).toArray⟩ : ByteArray).size = D.files[k].nm.length := by simp [ByteArray.size]
          unfold maxLen
          omega
        have hlook := look_at (hd.go (bDrewN (Below.refl _ _) 1)) ⟨(D.files[k].nm).toArray⟩ hlenN
        have hlst : lst ⟨(D.files[k].nm).toArray⟩ = D.files[k].nm := by simp [lst]
        have hfp : fptr { D with files := crsN k D.files ks } blk (D.files[k].nm) = .pointer (some ⟨blk D.files[k].nm, 0, none⟩) := by unfold fptr; rw [hfk]
        rw [hlst, hfp] at hlook
        change (Instr.lookup 43 (.map (some mb)) (.string ⟨(D.files[k].nm).toArray⟩) false).run Tryz.prog wr.drew = .ok (.pointer (some ⟨blk D.files[k].nm, 0, none⟩)) wr.drew at hlook
        have hkv : 0 ≤ ks.getD k 0 ∧ ks.getD k 0 ≤ 9223372036854775807 := by
          by_cases e : k < ks.length
          · rw [List.getD_eq_getElem?_getD, List.getElem?_eq_getElem e]
            exact ⟨hnn0 _ (List.getElem_mem e), hk64 _ (List.getElem_mem e)⟩
          · rw [List.getD_eq_getElem?_getD, List.getElem?_eq_none (by omega)]
            decide
        have hlo := lose_step (ks.getD k 0) hkv.1 hkv.2 wr hd hokk hfk
        have hst := crsN_step ks hok.srt hkf
        have c2 := hd.c2
        have c5 := hd.c5
        have hlt2 : k < D.files.length := hkf
        have hL := hokk.fits
        have hR := hok.room
        have hL0 : 0 ≤ left { D with files := crsN k D.files ks } := by simp only [left] at *; omega
        have hL1 : left { D with files := crsN k D.files ks } ≤ 1073741824 := by simp only [left] at *; omega
        have hG1 : goneOf D.files[k] (ks.getD k 0) ≤ 1073741824 := by
          have h1 := used_del hokk.srt hfk
          simp only [goneOf]
          simp only at h1 hL
          omega
        generalize hgf : D.files[k] = fk at *
        clear hfp hkv hlenN hlst hnm hcell hL hR hgf
        generalize left { D with files := crsN k D.files ks } = L at *
        generalize goneOf fk (ks.getD k 0) = G at *
        generalize hNM : (⟨(fk.nm).toArray⟩ : ByteArray) = NM at *
        generalize blk fk.nm = bk at *
        have HST := Lib.hid hst
        have HT := Lib.hid ht
        clear hst hNM ht hd
        by_cases hkk : k < n
        · have hkk' : k < ks.length := by omega
          have hgd : ks.getD k 0 = ks[k] := by rw [List.getD_eq_getElem?_getD, List.getElem?_eq_getElem hkk']; rfl
          obtain ⟨adk, rfl, _, hck⟩ := hkr3.at_ (cN_get hkk')
          rw [hgd] at hlo HST
          generalize ks[k] = kv at *
          go_wp2
          go_region_with (go_at_call 39; refine hlo.mono ?_; rintro e w5 ⟨rfl, d2, g2, S5, vs5, hd5, ht5⟩)
          all_goals (
            have HD5 := Lib.hid hd5
            have HT5 := Lib.hid ht5
            clear hd5 ht5 hlo hlook
            go_wp2
            go_roundw
            case rel => exact ⟨k + 1, S5, vs5, by omega, by go_num, by rw [← HST.out]; exact HD5.out, HT.out.trans HT5.out⟩
            case measure => simp [intOf]; omega)
        · have hgd : ks.getD k 0 = 0 := by rw [List.getD_eq_getElem?_getD, List.getElem?_eq_none (by omega)]; rfl
          rw [hgd] at hlo HST
          go_wp2
          go_region_with (go_at_call 39; refine hlo.mono ?_; rintro e w5 ⟨rfl, d2, g2, S5, vs5, hd5, ht5⟩)
          all_goals (
            have HD5 := Lib.hid hd5
            have HT5 := Lib.hid ht5
            clear hd5 ht5 hlo hlook
            go_wp2
            go_roundw
            case rel => exact ⟨k + 1, S5, vs5, by omega, by go_num, by rw [← HST.out]; exact HD5.out, HT.out.trans HT5.out⟩
            case measure => simp [intOf]; omega)
      · have hkN : k = N := by omega
        have hkN2 : crsN k D.files ks = crs D.files ks := by rw [hkN, HNN.out]; exact crsN_all _ _
        rw [hkN2] at hd
        have c1 := hd.c1
        have c3 := hd.c3
        have f1 := hd.fz 1
        have f3 := hd.fz 3
        have hfin : ∃ S'', Dk 0 ((wr.setCell ⟨d, 1, none⟩ (.bool false)).setCell ⟨d, 3, none⟩ (.int .i64 (-1))) S'' d { D with files := crs D.files ks, off := false, fuse := -1 } ∧ Turn S S'' w ((wr.setCell ⟨d, 1, none⟩ (.bool false)).setCell ⟨d, 3, none⟩ (.int .i64 (-1))) := by
          have e1 := hd.head 1 (.bool false) { D with files := crs D.files ks, off := false } rfl (by simp [topCells, left])
          have e2 := e1.head 3 (.int .i64 (-1)) { D with files := crs D.files ks, off := false, fuse := -1 } rfl (by simp [topCells, left])
          refine ⟨S', ⟨mb, nn, M, blk, vs', e2, hnn⟩, ?_⟩
          have t := (Turn.below (S := S) hb2).trans ht
          have hsd : S d ∨ w.heap.size ≤ d := .inl h.sd
          exact ⟨(t.outs.setCell (p := ⟨d, 1, none⟩) hsd _).setCell (p := ⟨d, 3, none⟩) hsd _, t.new⟩
        have HF := Lib.hid hfin
        clear hfin hd ht hkr3 hnr3 h h2 hkN2
        go_wp2
        go_returns
        exact ⟨by simp, HF.out⟩
  · have e1 : dCrash D ks = (2, D) := by
      unfold dCrash
      rw [if_pos (by show ks.any isNeg = true; exact hneg)]
    rw [e1]
    rw [hneg] at hcon
    have hD : Dk 0 w S d D := ⟨mb, nn, M, blk, vs, h, hnn⟩
    clear e1 hneg h
    go_enter Tryz.func13, Tryz.ntmps13
    go_wp2_with fail
    refine (nobodys_no d w c0).mono ?_
    rintro e w0 ⟨rfl, hw0⟩
    rw [hw0]
    clear hw0 w0
    go_wp2_with fail
    refine hcon.mono ?_
    rintro e w1 ⟨rfl, q, rfl⟩
    go_wp2
    go_returns
    exact ⟨by simp, S, hD.go (bDrewN (Below.refl _ _) q), Turn.below (bDrewN (Below.refl _ _) q)⟩
theorem crash_no (p : Option Addr) (v : Value) (w : World) (h : Nobody w p) :
    Calls Tryz.prog 13 #[.pointer p, v] w fun e w' => e = .returned (.int .i64 1) ∧ w' = w := by
  go_enter Tryz.func13, Tryz.ntmps13
  go_wp2_with (refine (nobodys_yes p w h).mono ?_; rintro e w' ⟨rfl, rfl⟩)
  go_returns
  exact ⟨by simp, rfl⟩
end
end Go.Proofs.YtbobakfcmkaijaaGreatDoor
end

section
/- The program's Turn. -/
namespace Go.Proofs.YtbobakfcmkaijaaGreatDoor
open Go.RowKit Go.Maps Go.WideMaps
set_option linter.unusedVariables false

theorem own_set {w : World} {B n c : Nat} {A : Option Addr} {L : List Int} {i : Nat} (h : w.ownsRow B 5 1 (.slice A n c) n (c8 L)) (hi : i < n) :
    ∃ g x, A = some ⟨g, 0, none⟩ ∧ L[i]? = some x ∧ w.cell? ⟨g, i, none⟩ = some (.int .u8 x) ∧ w.frozen? ⟨g, i, none⟩ = false ∧ ∀ z, (w.setCell ⟨g, i, none⟩ (.int .u8 z)).ownsRow B 5 1 (.slice A n c) n (c8 (L.set i z)) := by
  have hL : L.length = n := by have := h.1; rw [c8_length, Nat.mul_one] at this; exact this
  rcases h.2 with ⟨_, h2⟩ | ⟨g, cap, cur, h1, h2, h3, h4, h5, h6, h7⟩
  · omega
  · injection h1 with hA _ hc
    subst hA
    subst hc
    have hcell := h.cellAt (g := g) i (by omega)
    have hli : i < L.length := by omega
    rw [c8_get hli] at hcell
    refine ⟨g, _, rfl, List.getElem?_eq_getElem hli, hcell, h.frozenAt (g := g) i, fun z => ⟨by rw [c8_length, List.length_set, Nat.mul_one]; exact hL, .inr ⟨g, c, cur.setIfInBounds i (.int .u8 z), rfl, h2, ?_, h4, h5, by simp [h6], ?_⟩⟩⟩
    · exact (show Whole w g 5 cur from h3).put i _
    · rw [Nat.mul_one] at h7 ⊢
      rw [Array.toList_setIfInBounds, List.take_set, h7]
      simp [c8, List.map_set]

theorem modify_set {L : List Int} {i : Nat} {x : Int} (f : Int → Int) (h : L[i]? = some x) : L.modify i f = L.set i (f x) := by
  have hi : i < L.length := (List.getElem?_eq_some_iff.1 h).1
  apply List.ext_getElem?
  intro j
  rw [List.getElem?_modify, List.getElem?_set]
  by_cases e : i = j
  · subst e
    rw [h]
    simp [hi]
  · simp [e]
theorem used_turn {fs : List Fl} {l : Nm} {g : Int → Int} {i : Nat} : used (upd l (fun f => { f with bs := f.bs.modify i g }) fs) = used fs := used_upd fs l _ (fun f _ => by simp)

section
variable {S : Nat → Prop} {d mb nn : Nat} {M : DataW Unit} {blk : Nm → Nat} {vs : Nm → Value} {D : Dsk}

/-- bits turned in a byte -/
def xr (c x : Int) : Int := bits .xor .u8 x c

end
end Go.Proofs.YtbobakfcmkaijaaGreatDoor
end

section
/- The library's cutting of a slice into pieces of 64 bytes, as an iterator. -/
namespace Go.Proofs.YtbobakfcmkaijaaGreatDoor
open Go.RowKit Go.Shelf
set_option linter.unusedVariables false
attribute [local go_sem] Oper.semAt_some

def np (L : Nat) : Nat := (L + 63) / 64
def pl (L k : Nat) : Nat := min 64 (L - 64 * k)
abbrev Ix (L : Nat) := { k : Nat // k < np L }
def encC (ad : Addr) (L : Nat) (x : Ix L) : Array Value := #[.slice (some (ad.add (64 * x.1))) (pl L x.1) (pl L x.1)]
def upto (L k : Nat) : List (Ix L) := (List.range k).filterMap (fun i => if h : i < np L then some ⟨i, h⟩ else none)
theorem upto_succ {L k : Nat} (h : k < np L) : upto L (k + 1) = upto L k ++ [⟨k, h⟩] := by
  unfold upto
  rw [List.range_succ, List.filterMap_append]
  simp [h]
theorem upto_vals {L : Nat} : ∀ {k : Nat}, k ≤ np L → (upto L k).map (·.1) = List.range k
  | 0, _ => rfl
  | k + 1, h => by
    rw [upto_succ (by omega), List.map_append, upto_vals (by omega), List.range_succ]
    rfl
theorem upto_length {L k : Nat} (h : k ≤ np L) : (upto L k).length = k := by
  have := congrArg List.length (upto_vals h)
  simpa using this

/-- what the cutter wants kept: its two boxes -/
def Two (b1 b2 : Nat) (W W' : World) : Prop := W'.heap[b1]? = W.heap[b1]? ∧ W'.heap[b2]? = W.heap[b2]?

set_option maxRecDepth 100000 in
set_option maxHeartbeats 2000000 in
theorem chunk1_in (n : Nat) (hn : 1 ≤ n) (l b1 b2 L c : Nat) (ad : Addr) (A : Option Addr) (hA : 0 < L → A = some ad) (hLc : L ≤ c) (hL : L ≤ 140737488351232) (J Jx : List (Ix L) → World → Prop)
    (hY : ∀ pre x W, J pre W → pre.length < np L → YieldAt Fence.wide (n - 1) Tryz.prog l (encC ad L x) W fun e W' =>
      (e = .returned (.bool true) ∧ J (pre ++ [x]) W' ∧ Two b1 b2 W W') ∨ (e = .returned (.bool false) ∧ Jx (pre ++ [x]) W'))
    (W : World) (h1 : Whole W b1 30 #[.slice A L c]) (h2 : Whole W b2 3 #[.int .i64 64]) (h0 : J [] W) (hJd : ∀ q s W, J s W → J s (W.drewN q)) :
    CallsIn Fence.wide n Tryz.prog 109 #[.func (.yield l) #[] #[], .pointer (some ⟨b1, 0, none⟩), .pointer (some ⟨b2, 0, none⟩)] W fun e W' => (∃ v, e = .returned v) ∧
      ((∃ ys, ys = upto L (np L) ∧ J ys W') ∨ (∃ pre, (∃ k, k ≤ np L ∧ pre = upto L k) ∧ Jx pre W')) := by
  refine callsIn_of_wp Tryz.func109 rfl trivial ?_ rfl
  simp only [Tryz.ntmps109, List.size_toArray, List.length_cons, List.length_nil, Nat.reduceAdd, Nat.reduceSub, Array.replicate_succ, Array.replicate_zero, List.push_toArray, List.append_toArray, List.nil_append, List.cons_append]
  have hN := Lib.hid (show np L = (L + 63) / 64 from rfl)
  gi_wp2
  gi_loopw [4] (fun i wr => ∃ k : Nat, k ≤ np L ∧ i = .int .i64 ((64 * k : Nat) : Int) ∧ J (upto L k) wr ∧ Two b1 b2 W wr) (fun i _ => np L * 64 - (intOf i).toNat)
  case atStart => exact ⟨0, Nat.zero_le _, rfl, h0, rfl, rfl⟩
  case round =>
    obtain ⟨k, hk, rfl, hJs, hnx⟩ := hrel
    have c1 : wr.cell? ⟨b1, 0, none⟩ = some (.slice A L c) := (show Whole wr b1 _ _ from hnx.1.trans h1).cell 0
    have c2 : wr.cell? ⟨b2, 0, none⟩ = some (.int .i64 64) := (show Whole wr b2 _ _ from hnx.2.trans h2).cell 0
    by_cases hlt : k < np L
    · have hY2 := fun W hJ => hY (upto L k) ⟨k, hlt⟩ W hJ (by rw [upto_length hk]; exact hlt)
      dsimp only [encC] at hY2
      have hkL : 64 * k < L := by have := hN.out; omega
      obtain rfl : A = some ad := hA (by omega)
      have hm0 : pl L k = min 64 (L - 64 * k) := rfl
      generalize pl L k = m at *
      obtain ⟨i, hi⟩ : ∃ i, i = 64 * k := ⟨_, rfl⟩
      rw [← hi] at hY2 hkL hm0 ⊢
      have hm1 : 1 ≤ m := by omega
      have hm2 : i + m ≤ L := by omega
      have hm3 : m ≤ 64 := by omega
      have hci : ¬ c = i := by omega
      have hmin : min (64 : Int) ((L - i : Nat) : Int) = m := by omega
      have hto : ((i : Int) + m).toNat - i = m := by omega
      have HM := Lib.hid hm0
      have HI := Lib.hid hi
      clear hm0 hi
      gi_wp2
      gi_quiet (fail)
      obtain ⟨fn, tmps, assign, body, hy, hR⟩ := hY2 (wr.drewN nq) (hJd nq _ _ hJs)
      gi_wp2
      refine hR.mono ?_
      rintro e W3 (⟨rfl, hJ3, hk3⟩ | ⟨rfl, hJx3⟩)
      · have hnx3 : Two b1 b2 W W3 := ⟨hk3.1.trans hnx.1, hk3.2.trans hnx.2⟩
        have c2' : W3.cell? ⟨b2, 0, none⟩ = some (.int .i64 64) := (show Whole W3 b2 _ _ from hnx3.2.trans h2).cell 0
        have hi64 : (i : Int) + 64 ≤ 9223372036854775807 := by omega
        gi_wp2
        go_roundw
        case rel => exact ⟨k + 1, by omega, by have := HI.out; congr 1; omega, by rw [upto_succ hlt]; exact hJ3, hnx3⟩
        case measure => have := HI.out; simp [intOf]; omega
      · gi_wp2
        refine bodyPost_ret (results_none rfl _ _ _) rfl ?_
        exact ⟨⟨_, rfl⟩, .inr ⟨_, ⟨k + 1, by omega, (upto_succ hlt).symm⟩, hJx3⟩⟩
    · obtain rfl : k = np L := by omega
      have hge : ¬ ((64 * np L : Nat) : Int) < L := by have := hN.out; omega
      gi_wp2
      go_end0
      exact ⟨⟨_, rfl⟩, .inl hJs⟩

theorem chunk_any (A : Option Addr) (L c : Nat) (w : World) :
    Calls Tryz.prog 82 #[.slice A L c, .int .i64 64] w fun e w' => e = .returned (.func (.func 109) #[] #[.pointer (some ⟨w.heap.size, 0, none⟩), .pointer (some ⟨w.heap.size + 1, 0, none⟩)]) ∧ w' = (w.alloc (.cells #[.slice A L c] 30)).alloc (.cells #[.int .i64 64] 3) := by
  go_enter Tryz.func82, Tryz.ntmps82
  go_wp2
  go_returns
  exact ⟨by simp, rfl⟩

theorem chunk_stops (n : Nat) (hn : 1 ≤ n) (b1 b2 L c : Nat) (ad : Addr) (A : Option Addr) (hA : 0 < L → A = some ad) (hLc : L ≤ c) (hL : L ≤ 140737488351232) (w : World)
    (h1 : Whole w b1 30 #[.slice A L c]) (h2 : Whole w b2 3 #[.int .i64 64]) :
    SeqStopsK Fence.wide n Tryz.prog 109 #[.pointer (some ⟨b1, 0, none⟩), .pointer (some ⟨b2, 0, none⟩)] (encC ad L) (Two b1 b2) (fun ys => ys = upto L (np L)) (fun pre => ∃ k, k ≤ np L ∧ pre = upto L k) (np L) w := fun l J Jx W hW hJ _ hY h0 =>
  chunk1_in n hn l b1 b2 L c ad A hA hLc hL J Jx hY W (h1.below hW h1.lt) (h2.below hW h2.lt) h0 (fun q s W hs => hJ s W (W.drewN q) none hs ⟨rfl, rfl, rfl, Nat.le_refl _, fun _ _ _ => rfl⟩ (fun r e => by cases e))
end Go.Proofs.YtbobakfcmkaijaaGreatDoor
end
