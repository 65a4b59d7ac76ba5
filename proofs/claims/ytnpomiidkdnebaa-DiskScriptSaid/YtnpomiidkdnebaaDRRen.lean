/- The walk over the document's Rename. -/
import Derived.Test.YtnpomiidkdnebaaDRMake
import Derived.Test.YtnpomiidkdnebaaDRen
namespace Go.Proofs.Ytnpomiidkdnebaa
open Go.RowKit
set_option linter.unusedVariables false

section
variable {S S' : Nat → Prop} {x : Nat} {v : Value} {rs : List RFl} {fz : Int} {D : Dsk} {w : World}

theorem Laid.turn {w' : World} {D' : Dsk} (h : Laid S x fz D' w w') : ∃ S', Rf w' S' x D' ∧ Turn S S' w w' := by
  obtain ⟨S', v', rs', h1, h2, _⟩ := h
  exact ⟨S', ⟨_, _, _, h1⟩, h2⟩

/-- the end of a Rename: the file, cut out, is put among the others -/
theorem mv_none {l m : Nm} {fs : List Fl} {f : Fl} (hf : find fs l = some f) (hne : l ≠ m) (hn : find (del l fs) m = none) : mv f l m fs = ins { f with nm := m } (del l fs) := by
  unfold mv
  rw [del_none hn]

set_option maxHeartbeats 1000000 in
set_option maxRecDepth 5000 in
theorem rrename_any (s r : ByteArray) (hs : s.size ≤ 9223372036854775807) (hr : r.size ≤ 9223372036854775807) (w : World) (h : RfAt w S x v rs fz D) (hok : Okd D) (hro : Room D) (hfew : D.files.length ≤ D.steps) :
    Calls Try.prog 52 #[.pointer (some ⟨x, 0, none⟩), .string s, .string r] w fun e w' => e = .returned (.int .i64 (dRename D (lst s) (lst r)).1) ∧ ∃ S', Rf w' S' x (dRename D (lst s) (lst r)).2 ∧ Turn S S' w w' := by
  have hb0 : Below w.heap.size w (w.alloc (.cells #[.string s, .string r] 9)) := (Below.refl _ w).alloc (Nat.le_refl _) _
  have hk := rasked_any [⟨s, hs⟩, ⟨r, hr⟩] w.heap.size 2 2 _ (h.go hb0) rfl (by decide) (two_texts s r hs hr _ _ _ (Whole.new w _ _))
  have he : ask D ([(⟨s, hs⟩ : Txt), ⟨r, hr⟩].map (lst ·.1)) = ask D [lst s, lst r] := rfl
  rw [he] at hk
  have hb : ∀ q, Below w.heap.size w ((w.alloc (.cells #[.string s, .string r] 9)).drewN q) := fun q => bDrewN hb0 q
  have hq : ∀ q, RfAt ((w.alloc (.cells #[.string s, .string r] 9)).drewN q) S x v rs fz D := fun q => h.go (hb q)
  have hp : ∀ q, _ := fun q => rplace_any s ((w.alloc (.cells #[.string s, .string r] 9)).drewN q) (hq q) hok.srt
  have hT : ∀ q, Turn S S w ((w.alloc (.cells #[.string s, .string r] 9)).drewN q) := fun q => ⟨Outs.of (hb q), fun _ h => .inl h⟩
  clear he
  by_cases ha : ask D [lst s, lst r] = 0
  · rw [ha] at hk
    cases hf : find D.files (lst s) with
    | none =>
      have e1 : dRename D (lst s) (lst r) = (6, D) := by unfold dRename; rw [if_neg (by rw [ha]; simp), hf]
      have e2 : hit D.files (lst s) = false := by unfold hit; rw [hf]; rfl
      rw [e1]
      rw [e2] at hp
      generalize pos D.files (lst s) = k at *
      clear e1 e2 h hf
      go_enter Try.func52, Try.ntmps52
      go_wp2_with fail
      refine hk.mono ?_
      rintro e w1 ⟨rfl, q, rfl⟩
      go_wp2_with fail
      refine (hp q).mono ?_
      rintro e w2 ⟨rfl, rfl⟩
      go_wp2
      go_returns
      exact ⟨by simp, _, ⟨_, _, _, hq q⟩, hT q⟩
    | some f =>
      have e2 : hit D.files (lst s) = true := by unfold hit; rw [hf]; rfl
      rw [e2] at hp
      by_cases hsr : lst s = lst r
      · have e1 : dRename D (lst s) (lst r) = (0, D) := by unfold dRename; rw [if_neg (by rw [ha]; simp), hf]; exact if_pos hsr
        rw [e1]
        have hq2 : s.toList = r.toList := by rw [Lib.toList_data, Lib.toList_data]; exact hsr
        have hq1 : (s.toList == r.toList) = true := by simpa using hq2
        generalize pos D.files (lst s) = k at *
        clear e1 e2 h hf hsr
        go_enter Try.func52, Try.ntmps52
        go_wp2_with fail
        refine hk.mono ?_
        rintro e w1 ⟨rfl, q, rfl⟩
        go_wp2_with fail
        refine (hp q).mono ?_
        rintro e w2 ⟨rfl, rfl⟩
        go_wp2
        go_returns
        exact ⟨by simp, _, ⟨_, _, _, hq q⟩, hT q⟩
      · have e1 : dRename D (lst s) (lst r) = dStep D (mv f (lst s) (lst r)) := by unfold dRename; rw [if_neg (by rw [ha]; simp), hf]; exact if_neg hsr
        rw [e1]
        have hq2 : ¬ s.toList = r.toList := by rw [Lib.toList_data, Lib.toList_data]; exact hsr
        have hq1 : (s.toList == r.toList) = false := by simpa using hq2
        have hst : ∀ q, _ := fun q => rstep_any ((w.alloc (.cells #[.string s, .string r] 9)).drewN q) (hq q) (by have := hro.1; omega) hro.2 hro.3
        by_cases hz : D.fuse = 0
        · have e3 : dStep D (mv f (lst s) (lst r)) = (10, fall D) := if_pos hz
          rw [e3]
          rw [show decide (D.fuse = 0) = true from decide_eq_true hz, if_pos hz] at hst
          generalize pos D.files (lst s) = k at *
          clear e1 e2 e3 h hf hq ha hz hsr
          go_enter Try.func52, Try.ntmps52
          go_wp2_with fail
          refine hk.mono ?_
          rintro e w1 ⟨rfl, q, rfl⟩
          go_wp2_with fail
          refine (hp q).mono ?_
          rintro e w2 ⟨rfl, rfl⟩
          go_wp2_with fail
          refine (hst q).mono ?_
          rintro e w3 ⟨rfl, ⟨fz', h3⟩, hT3⟩
          go_wp2
          go_returns
          exact ⟨by simp, _, ⟨_, _, _, h3⟩, (hT q).trans hT3⟩
        · have e3 : dStep D (mv f (lst s) (lst r)) = (0, { tick D with files := mv f (lst s) (lst r) D.files }) := if_neg hz
          rw [e3]
          rw [show decide (D.fuse = 0) = false from decide_eq_false hz, if_neg hz] at hst
          have hlen := few_len h hro hfew
          have hkl : pos D.files (lst s) < rs.length := by rw [h.len]; exact pos_lt_len hok.srt hf
          obtain ⟨P, hP⟩ : ∃ P, P = pos D.files (lst s) := ⟨_, rfl⟩
          have hdel : D.files.take P ++ D.files.drop (P + 1) = del (lst s) D.files := by rw [hP]; exact del_pos hok.srt hf
          rw [← hP] at hp hkl
          have HP := Lib.hid hP
          have HZ := Lib.hid hf
          have HD := Lib.hid hdel
          have HSR := Lib.hid hsr
          clear e1 e2 e3 h hq ha hz hf hdel hsr hP
          go_enter Try.func52, Try.ntmps52
          go_wp2_with fail
          refine hk.mono ?_
          rintro e w1 ⟨rfl, q, rfl⟩
          go_wp2_with fail
          refine (hp q).mono ?_
          rintro e w2 ⟨rfl, rfl⟩
          go_wp2_with fail
          refine (hst q).mono ?_
          rintro e w3 ⟨rfl, ⟨fz', h3⟩, hT3⟩
          have hT4 := (hT q).trans hT3
          clear hst hp hk hT hT3 hb hb0
          obtain ⟨g, n, c, B, b, rfl, hSg, hn63, hnc, hkn, k0, k1, k2, kf, hrow, hrb, _, _⟩ := h3.upd_at (okd_tick hok) HZ.out HP.out
          have c1 := h3.c1
          have hsz3 := h3.lt
          have hG := fun (o : Obj) => h3.go ((Below.refl w3.heap.size w3).alloc (Nat.le_refl _) o)
          have HG := Lib.hid hG
          have H3 := Lib.hid h3
          clear hG h3
          generalize hLL : f.bs.length = L at *
          generalize (⟨f.nm.toArray⟩ : ByteArray) = nm at *
          generalize hfsy : f.sy = sy at *
          go_wp2_with fail
          have h4 := HG.out (.cells #[.string nm, .slice B L b, .int .i64 sy] 95)
          have hwn : Whole (w3.alloc (.cells #[.string nm, .slice B L b, .int .i64 sy] 95)) w3.heap.size 95 #[.string nm, .slice B L b, .int .i64 sy] := Whole.new _ _ _
          have hsz4 : (w3.alloc (.cells #[.string nm, .slice B L b, .int .i64 sy] 95)).heap.size = w3.heap.size + 1 := by simp
          have hT4' : Turn S S w (w3.alloc (.cells #[.string nm, .slice B L b, .int .i64 sy] 95)) := ⟨hT4.outs.alloc _, hT4.new⟩
          have hrow4 := hrow.alloc (.cells #[.string nm, .slice B L b, .int .i64 sy] 95)
          have hwF : w.heap.size ≤ w3.heap.size := hT4.outs.size
          have hx3 : x < w3.heap.size := hsz3 _ H3.out.sx
          have hrowx : ∀ k, Value.ownBlock (.slice B L b) = some k → k ≠ x := fun k hk => ownRow_ne hrow hk H3.out.top (by decide)
          have hcut := rcut_any (D := tick D) P _ h4 hkl hlen
          rw [show (tick D).files.take P ++ (tick D).files.drop (P + 1) = del (lst s) D.files from HD.out] at hcut
          clear h4 hT4 HG
          generalize w3.alloc (.cells #[.string nm, .slice B L b, .int .i64 sy] 95) = w4 at *
          refine hcut.mono ?_
          rintro e w5 ⟨rfl, S1, v1, rs1, h5, hT5, ho5, hS1⟩
          have hwF1 : Whole w5 w3.heap.size 95 #[.string nm, .slice B L b, .int .i64 sy] := hwn.outs ho5 (by omega)
          have hrow5 : w5.ownsRow 0 5 1 (.slice B L b) L (c8 f.bs) := ownRow_block_kept hrow4 fun k hk => ho5.block _ (ownRow_block hrow4 hk).2.1 (hrowx k hk)
          have hrb5 : ∀ k, Value.ownBlock (.slice B L b) = some k → S1 k := fun k hk => hS1 _ (hrb k hk)
          have hTw5 : Turn S S1 w w5 := hT4'.trans hT5
          have hnF1 : ¬ S1 w3.heap.size := fun hk => by
            rcases hT5.new _ hk with h | h
            · have := hsz3 _ h; omega
            · omega
          have hsrt1 : Srt (del (lst s) D.files) := srt_del hok.srt _
          have hle1 : (del (lst s) D.files).length ≤ D.files.length := List.length_filter_le _ _
          have hlen1 : rs1.length ≤ 1099511627776 := by rw [h5.len]; have := hro.1; simp only; omega
          have hpl := rplace_any (D := { tick D with files := del (lst s) D.files }) r w5 h5 hsrt1
          clear hcut hwn hrow4 hT4' hT5 ho5 hS1
          go_wp2_with fail
          refine hpl.mono ?_
          rintro e w6 ⟨rfl, rfl⟩
          clear hpl
          cases hf2 : find (del (lst s) D.files) (lst r) with
          | none =>
            have hh : hit (del (lst s) D.files) (lst r) = false := by unfold hit; rw [hf2]; rfl
            have hno1 : find (del (lst s) D.files) (lst r) = none := hf2
            have hmv1 : mv f (lst s) (lst r) D.files = ins ⟨lst r, f.bs, f.sy⟩ (del (lst s) D.files) := mv_none HZ.out HSR.out hf2
            rw [hh]
            have hsto : RfAt (w6.setCell ⟨w3.heap.size, 0, none⟩ (.string r)) S1 x _ _ fz' { tick D with files := del (lst s) D.files } := h5.outs (S2 := fun k => k = w3.heap.size) ((Outs.refl (fun k => k = w3.heap.size) _).setCell (p := ⟨w3.heap.size, 0, none⟩) (.inl rfl) _) (fun k hk e => by subst e; exact hnF1 hk)
            have hTs : Turn S S1 w (w6.setCell ⟨w3.heap.size, 0, none⟩ (.string r)) := ⟨hTw5.outs.setCell (p := ⟨w3.heap.size, 0, none⟩) (.inr hwF) _, hTw5.new⟩
            have hrow9 : (w6.setCell ⟨w3.heap.size, 0, none⟩ (.string r)).ownsRow 0 5 1 (.slice B L b) L (c8 f.bs) := ownRow_block_kept hrow5 fun k hk => Below.heap_setCell _ _ _ _ (fun e => hnF1 ((show k = w3.heap.size from e) ▸ hrb5 k hk))
            have hw9 : Whole (w6.setCell ⟨w3.heap.size, 0, none⟩ (.string r)) w3.heap.size 95 #[.string r, .slice B L b, .int .i64 sy] := hwF1.put 0 _
            have hpu := rput_any (D := { tick D with files := del (lst s) D.files }) ⟨lst r, f.bs, f.sy⟩ (.slice B L b) (w6.setCell ⟨w3.heap.size, 0, none⟩ (.string r)) hsto hsrt1 hno1 hlen1 (by rw [hLL]; exact hrow9) hrb5
            rw [lst_back, hfsy] at hpu
            have F0 := hw9.cell 0
            have F1 := hw9.cell 1
            have F2 := hw9.cell 2
            have G0 := hwF1.cell 0
            have G0f := hwF1.frozen 0
            simp only [List.getElem?_toArray, List.getElem?_cons_zero, List.getElem?_cons_succ] at F0 F1 F2 G0
            have HT := Lib.hid hTs
            generalize hW9 : w6.setCell ⟨w3.heap.size, 0, none⟩ (.string r) = w9 at *
            clear hTs hsto hrow9 hw9 h5
            go_wp2_with fail
            refine hpu.mono ?_
            rintro e w10 ⟨rfl, hla⟩
            obtain ⟨S9, hR9, hT9⟩ := hla.turn
            go_wp2
            go_returns
            exact ⟨by simp, S9, by rw [hmv1, hfsy]; exact hR9, HT.out.trans hT9⟩
          | some f2 =>
            have hh : hit (del (lst s) D.files) (lst r) = true := by unfold hit; rw [hf2]; rfl
            rw [hh]
            obtain ⟨P2, hP2⟩ : ∃ P2, P2 = pos (del (lst s) D.files) (lst r) := ⟨_, rfl⟩
            have hk2 : P2 < rs1.length := by rw [h5.len, hP2]; exact pos_lt_len hsrt1 hf2
            have hcut2 := rcut_any (D := { tick D with files := del (lst s) D.files }) P2 w6 h5 hk2 hlen1
            have hdel2 : (del (lst s) D.files).take P2 ++ (del (lst s) D.files).drop (P2 + 1) = del (lst r) (del (lst s) D.files) := by rw [hP2]; exact del_pos hsrt1 hf2
            simp only [hdel2] at hcut2
            rw [← hP2]
            have hx6 : x < w6.heap.size := h5.lt _ h5.sx
            have hrowx5 := hrowx
            clear hP2 hdel2
            go_wp2_with fail
            refine hcut2.mono ?_
            rintro e w7 ⟨rfl, S2, v2, rs2, h7, hT7, ho7, hS2⟩
            have hwF2 : Whole w7 w3.heap.size 95 #[.string nm, .slice B L b, .int .i64 sy] := hwF1.outs ho7 (by omega)
            have hrow7 : w7.ownsRow 0 5 1 (.slice B L b) L (c8 f.bs) := ownRow_block_kept hrow5 fun k hk => ho7.block _ (ownRow_block hrow5 hk).2.1 (hrowx k hk)
            have hrb7 : ∀ k, Value.ownBlock (.slice B L b) = some k → S2 k := fun k hk => hS2 _ (hrb5 k hk)
            have hTw7 : Turn S S2 w w7 := hTw5.trans hT7
            have hnF2 : ¬ S2 w3.heap.size := fun hk => by
              rcases hT7.new _ hk with h | h
              · exact hnF1 h
              · have := hwF1.lt; omega
            have hsrt2 : Srt (del (lst r) (del (lst s) D.files)) := srt_del hsrt1 _
            have hle2 : (del (lst r) (del (lst s) D.files)).length ≤ (del (lst s) D.files).length := List.length_filter_le _ _
            have hlen2 : rs2.length ≤ 1099511627776 := by rw [h7.len]; have := hro.1; simp only; omega
            have hno2 : find (del (lst r) (del (lst s) D.files)) (lst r) = none := by rw [find_del, if_pos rfl]
            have hmv2 : mv f (lst s) (lst r) D.files = ins ⟨lst r, f.bs, f.sy⟩ (del (lst r) (del (lst s) D.files)) := rfl
            clear hcut2 h5 hT7 ho7 hS2 hwF1 hrow5 hrb5 hTw5 hnF1 hsrt1 hle1 hlen1
            have hsto : RfAt (w7.setCell ⟨w3.heap.size, 0, none⟩ (.string r)) S2 x _ _ fz' { tick D with files := del (lst r) (del (lst s) D.files) } := h7.outs (S2 := fun k => k = w3.heap.size) ((Outs.refl (fun k => k = w3.heap.size) _).setCell (p := ⟨w3.heap.size, 0, none⟩) (.inl rfl) _) (fun k hk e => by subst e; exact hnF2 hk)
            have hTs : Turn S S2 w (w7.setCell ⟨w3.heap.size, 0, none⟩ (.string r)) := ⟨hTw7.outs.setCell (p := ⟨w3.heap.size, 0, none⟩) (.inr hwF) _, hTw7.new⟩
            have hrow9 : (w7.setCell ⟨w3.heap.size, 0, none⟩ (.string r)).ownsRow 0 5 1 (.slice B L b) L (c8 f.bs) := ownRow_block_kept hrow7 fun k hk => Below.heap_setCell _ _ _ _ (fun e => hnF2 ((show k = w3.heap.size from e) ▸ hrb7 k hk))
            have hw9 : Whole (w7.setCell ⟨w3.heap.size, 0, none⟩ (.string r)) w3.heap.size 95 #[.string r, .slice B L b, .int .i64 sy] := hwF2.put 0 _
            have hpu := rput_any (D := { tick D with files := del (lst r) (del (lst s) D.files) }) ⟨lst r, f.bs, f.sy⟩ (.slice B L b) (w7.setCell ⟨w3.heap.size, 0, none⟩ (.string r)) hsto hsrt2 hno2 hlen2 (by rw [hLL]; exact hrow9) hrb7
            rw [lst_back, hfsy] at hpu
            have F0 := hw9.cell 0
            have F1 := hw9.cell 1
            have F2 := hw9.cell 2
            have G0 := hwF2.cell 0
            have G0f := hwF2.frozen 0
            simp only [List.getElem?_toArray, List.getElem?_cons_zero, List.getElem?_cons_succ] at F0 F1 F2 G0
            have HT := Lib.hid hTs
            generalize hW9 : w7.setCell ⟨w3.heap.size, 0, none⟩ (.string r) = w9 at *
            clear hTs hsto hrow9 hw9 h7
            go_wp2_with fail
            refine hpu.mono ?_
            rintro e w10 ⟨rfl, hla⟩
            obtain ⟨S9, hR9, hT9⟩ := hla.turn
            go_wp2
            go_returns
            exact ⟨by simp, S9, by rw [hmv2, hfsy]; exact hR9, HT.out.trans hT9⟩
  · have e1 : dRename D (lst s) (lst r) = (ask D [lst s, lst r], D) := by unfold dRename; rw [if_pos ha]
    rw [e1]
    have hn : (ask D [lst s, lst r] != 0) = true := by simpa using ha
    generalize ask D [lst s, lst r] = fc at *
    clear e1 h ha
    go_enter Try.func52, Try.ntmps52
    go_wp2_with fail
    refine hk.mono ?_
    rintro e w1 ⟨rfl, q, rfl⟩
    go_wp2
    go_returns
    exact ⟨by simp, _, ⟨_, _, _, hq q⟩, hT q⟩
end
end Go.Proofs.Ytnpomiidkdnebaa
