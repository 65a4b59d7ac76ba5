/- Several texts, each a section: JReb, JOpen, JInv. -/
import Derived.Test.YtbobakfcmkaijaaGreatDoorM15
import Derived.Test.YtbobakfcmkaijaaGreatDoorM09
section
/- The journal recovered from its files; Open. -/
namespace Go.Proofs.YtbobakfcmkaijaaGreatDoor
open Go.RowKit
set_option linter.unusedVariables false

section
variable {w w' w2 wr : World} {S T S' T' S2 T2 Tk : Nat → Prop} {j d : Nat} {s : ByteArray} {D D' : Dsk} {J J' : Jn}

theorem strOf_inj {a b : Nm} (h : strOf a = strOf b) : a = b := by
  have := congrArg lst h
  rwa [lst_strOf, lst_strOf] at this
/-- is the name among them? -/
theorem contains_any (fs : List Nm) (l : Nm) (n B : Nat) (v : Value) (w : World) (hn : fs.length = n) (hnl : n ≤ 9223372036854775807) (h : w.ownsRow B 9 1 v n (cS fs)) :
    Calls Tryz.prog 129 #[v, .string (strOf l)] w fun e w' => e = .returned (.bool (fs.contains l)) ∧ w' = w := by
  by_cases h0 : n = 0
  · subst h0
    obtain ⟨A, c, rfl⟩ := row_any h
    have := List.eq_nil_of_length_eq_zero hn
    subst this
    exact Tryz.slices_Contains_string_empty A c (strOf l) w
  · obtain ⟨g, c, rfl, hg, _, _⟩ := row_block h (by omega)
    have hc := Tryz.slices_Contains_string g 0 n c (fs.map strOf) (strOf l) w (by rw [List.length_map]; omega) hnl (fun k hk => by
      rw [List.length_map] at hk
      rw [Nat.zero_add, (row_cell (i := k) h hg (cS_get hk)).1]
      rw [List.getD_eq_getElem?_getD, List.getElem?_map, List.getElem?_eq_getElem hk]
      rfl)
    have e : Lib.containsS ((fs.map strOf).take n) (strOf l) = fs.contains l := by
      rw [List.take_of_length_le (by rw [List.length_map]; omega)]
      have h1 := Lib.containsS_iff (fs.map strOf) (strOf l)
      have h2 : strOf l ∈ fs.map strOf ↔ l ∈ fs := by
        rw [List.mem_map]
        constructor
        · rintro ⟨a, ha, e⟩
          rw [← strOf_inj e]
          exact ha
        · intro ha
          exact ⟨l, ha, rfl⟩
      rw [h2] at h1
      rw [Bool.eq_iff_iff, h1]
      simp
    rw [e] at hc
    exact hc

/-! ## what holds behind steps -/
theorem seq_ok {c : Nat} : ∀ (fs : List (Dsk → Int × Dsk)) (D : Dsk), (∀ f ∈ fs, ∀ D, Okd D → Okd (f D).2 ∧ (f D).2.steps ≤ D.steps + c) → Okd D → Okd (seqD D fs).2 ∧ (seqD D fs).2.steps ≤ D.steps + c * fs.length
  | [], D, _, h => ⟨h, by simp [seqD]⟩
  | f :: fs, D, hf, h => by
    obtain ⟨h1, h2⟩ := hf f (by simp) D h
    rw [seqD]
    split
    · obtain ⟨h3, h4⟩ := seq_ok fs (f D).2 (fun g hg => hf g (by simp [hg])) h1
      refine ⟨h3, ?_⟩
      rw [List.length_cons, Nat.mul_succ]
      omega
    · refine ⟨h1, ?_⟩
      rw [List.length_cons, Nat.mul_succ]
      omega
theorem cutD_ok {l : Nm} {ss : List Sg} (h : Okd D) : Okd (cutD l D ss).2 ∧ (cutD l D ss).2.steps ≤ D.steps + 80000000 := by
  unfold cutD
  split
  · refine seq_ok (c := 20000000) _ D (fun f hf D' hD' => ?_) h
    obtain ⟨k, hk, rfl⟩ := List.mem_iff_getElem.1 hf
    refine cut_step_ok ?_ hk hD'
    rw [List.length_take]
    have : (byts D (segN l (lastOf ss).num)).length ≤ 1073741824 := look_len h l (lastOf ss).num
    omega
  · exact ⟨h, by show D.steps ≤ _; omega⟩
theorem rid_ok {l : Nm} (h : Okd D) : Okd (rid l D).2 ∧ (rid l D).2.steps ≤ D.steps + 1 := by
  unfold rid
  split
  · exact ⟨okd_remove h _, (steps_remove D _).1⟩
  · exact ⟨h, by show D.steps ≤ _; omega⟩
theorem dStep_off {t : List Fl → List Fl} (h : (dStep D t).1 = 0) : (dStep D t).2.off = D.off ∧ (dStep D t).2.files = t D.files := by
  unfold dStep at h ⊢
  split
  · rename_i h0
    rw [if_pos h0] at h
    cases h
  · exact ⟨rfl, rfl⟩
theorem dRemove_ok {l : Nm} (h : (dRemove D l).1 = 0) : (dRemove D l).2.off = D.off ∧ (dRemove D l).2.files = del l D.files := by
  unfold dRemove at h ⊢
  split
  · rename_i h0
    rw [if_pos h0] at h
    exact absurd h h0
  · rename_i h0
    rw [if_neg h0] at h
    split
    · rename_i h1
      rw [if_pos h1] at h
      cases h
    · rename_i h1
      rw [if_neg h1] at h
      exact dStep_off h
theorem rid_files {l : Nm} (h : (rid l D).1 = 0) : (rid l D).2.off = D.off ∧ ∀ m, m ≠ cutN l → find (rid l D).2.files m = find D.files m := by
  unfold rid at h ⊢
  split
  · rename_i hh
    rw [if_pos hh] at h
    obtain ⟨h1, h2⟩ := dRemove_ok h
    refine ⟨h1, fun m hm => ?_⟩
    rw [h2, find_del, if_neg (Ne.symm hm)]
  · exact ⟨rfl, fun _ _ => rfl⟩
theorem rid_sub {l : Nm} (h : (rid l D).1 = 0) : ∀ f ∈ (rid l D).2.files, f ∈ D.files := by
  unfold rid at h ⊢
  split
  · rename_i hh
    rw [if_pos hh] at h
    intro f hf
    rw [(dRemove_ok h).2] at hf
    exact mem_del hf
  · exact fun f hf => hf

theorem goOver_len (look : Nat → List Int) : ∀ (ns : List Nat) (nx : Option Nat), (goOver look nx ns).length ≤ ns.length
  | [], nx => by simp [goOver]
  | n :: r, nx => by
    rw [goOver]
    split
    · exact Nat.zero_le _
    · split
      · have := goOver_len look r (some (n + (recsOf (look n)).length))
        simp only [List.length_cons]
        omega
      · simp
theorem rem_ok {l : Nm} {n : Nat} (h : Okd D) : Okd (dRemove D (segN l n)).2 ∧ (dRemove D (segN l n)).2.steps ≤ D.steps + 1 := ⟨okd_remove h _, (steps_remove D _).1⟩
theorem rem_take {l : Nm} {ms : List Nat} {k : Nat} (hk : k < ms.length) {D0 Dk : Dsk} (h : seqD D0 (remSteps l (ms.take k)) = (0, Dk)) : seqD D0 (remSteps l (ms.take (k + 1))) = dRemove Dk (segN l ms[k]) := by
  rw [List.take_add_one, List.getElem?_eq_getElem hk]
  unfold remSteps at h ⊢
  rw [List.map_append]
  show seqD D0 (_ ++ [_]) = _
  rw [seqD_snoc, h, if_pos rfl]
theorem rem_stop {l : Nm} {ms : List Nat} {k : Nat} (hk : k < ms.length) {D0 Dk : Dsk} (h : seqD D0 (remSteps l (ms.take k)) = (0, Dk)) (he : (dRemove Dk (segN l ms[k])).1 ≠ 0) : seqD D0 (remSteps l ms) = dRemove Dk (segN l ms[k]) := by
  have h1 := rem_take hk h
  have h2 := seqD_split (remSteps l (ms.take (k + 1))) (remSteps l (ms.drop (k + 1))) D0
  have h3 : remSteps l (ms.take (k + 1)) ++ remSteps l (ms.drop (k + 1)) = remSteps l ms := by
    unfold remSteps
    rw [← List.map_append, List.take_append_drop]
  rw [h3, h1, if_neg he] at h2
  exact h2
/-- what stands at a removal -/
structure RemAt (w0 wr : World) (S T Sk Tk : Nat → Prop) (j d : Nat) (s : ByteArray) (J : Jn) (D0 Dk : Dsk) (ms : List Nat) (gn off k : Nat) : Prop where
  jd : JD wr Sk Tk j d s Dk J
  turn : TurnJ S T Sk Tk w0 wr
  did : seqD D0 (remSteps s.data.toList (ms.take k)) = (0, Dk)
  ok : Okd Dk
  steps : Dk.steps ≤ D0.steps + k
  cells : ∀ i (h : i < ms.length), wr.cell? ⟨gn, off + i, none⟩ = some (.int .u64 ms[i])
  far : gn < wr.heap.size ∧ ¬ Sk gn ∧ ¬ Tk gn
theorem RemAt.go {w0 : World} {Sk : Nat → Prop} {D0 Dk : Dsk} {ms : List Nat} {gn off k : Nat} (h : RemAt w0 wr S T Sk Tk j d s J D0 Dk ms gn off k) (hb : Below wr.heap.size wr w') : RemAt w0 w' S T Sk Tk j d s J D0 Dk ms gn off k :=
  ⟨h.jd.go hb, h.turn.trans (TurnJ.below hb), h.did, h.ok, h.steps, fun i hi => by rw [hb.cell (p := ⟨gn, off + i, none⟩) h.far.1]; exact h.cells i hi, Nat.lt_of_lt_of_le h.far.1 hb.size, h.far.2⟩
theorem RemAt.next {w0 : World} {Sk Sk' : Nat → Prop} {D0 Dk Dk' : Dsk} {ms : List Nat} {gn off k : Nat} (h : RemAt w0 wr S T Sk Tk j d s J D0 Dk ms gn off k) (hjd : JD w' Sk' Tk j d s Dk' J) (ht : TurnJ Sk Tk Sk' Tk wr w')
    (hdid : seqD D0 (remSteps s.data.toList (ms.take (k + 1))) = (0, Dk')) (hok : Okd Dk') (hst : Dk'.steps ≤ Dk.steps + 1) : RemAt w0 w' S T Sk' Tk j d s J D0 Dk' ms gn off (k + 1) := by
  have hn : ¬ (Sk gn ∨ Tk gn) := fun hh => by rcases hh with hh | hh; exact h.far.2.1 hh; exact h.far.2.2 hh
  refine ⟨hjd, h.turn.trans ht, hdid, hok, by have := h.steps; omega, fun i hi => ?_, Nat.lt_of_lt_of_le h.far.1 ht.outs.size, fun hh => ?_, h.far.2.2⟩
  · rw [ht.outs.cell (p := ⟨gn, off + i, none⟩) h.far.1 hn]
    exact h.cells i hi
  · rcases ht.ns _ hh with e | e
    · exact h.far.2.1 e
    · have := h.far.1; omega

def FBs (D : Dsk) : Prop := ∀ f ∈ D.files, Byt f.bs

set_option maxHeartbeats 6400000 in
set_option maxRecDepth 20000 in
theorem rebuild_any (w : World) (h : JD w S T j d s D (jnOf [])) (hok : Okd D) (hoff : D.off = false) (hst : D.steps ≤ 274877906944) (hfl : D.files.length ≤ 1048576) (hbyt : FBs D) :
    Calls Tryz.prog 105 #[.pointer (some ⟨j, 0, none⟩)] w fun e w' => e = .returned (.int .i64 (jOpen s.data.toList D).1) ∧
      ∃ S' T' J', JD w' S' T' j d s (jOpen s.data.toList D).2 J' ∧ ((jOpen s.data.toList D).1 = 0 → J' = opened s.data.toList D) ∧ TurnJ S T S' T' w w' := by
  have hnm := names_on w h.dk (by omega) hok.srt
  have hdn : dNames D = names D := by simp [dNames, hoff]
  rw [hdn] at hnm
  have hnl : (names D).length ≤ 1048576 := by simpa [names] using hfl
  have c1 : w.cell? ⟨j, 1, none⟩ = some (.pointer (some ⟨d, 0, none⟩)) := by
    obtain ⟨vs, ms, hj, _⟩ := h.jo
    exact hj.c1
  have hsz := nm_size h.nm
  have hq1 : ¬ 9223372036854775807 < s.size + 4 := by omega
  have H := Lib.hid h
  clear h hdn
  go_enter Tryz.func105, Tryz.ntmps105
  go_wp2_with fail
  refine hnm.mono ?_
  rintro e w1 ⟨v, rfl, hown, hb1⟩
  have h1 := H.out.go hb1
  have cn : w1.cell? ⟨j, 2, none⟩ = some (.string s) := by
    obtain ⟨vs, ms, hj, _⟩ := h1.jo
    exact hj.c2
  have hcon := contains_any (names D) (cutN s.data.toList) _ w.heap.size v w1 rfl (by omega) hown
  rw [← cutN_str] at hcon
  obtain ⟨A, c, rfl⟩ := row_any hown
  generalize hN : (names D).length = N at *
  have HN := Lib.hid hN
  have HO := Lib.hid hown
  have HB1 := Lib.hid hb1
  have H1 := Lib.hid h1
  clear hnm hown hb1 h1 hN
  go_wp2_with fail
  refine hcon.mono ?_
  rintro e w2 ⟨rfl, rfl⟩
  clear hcon
  by_cases hh : (names D).contains (cutN s.data.toList) = true
  · have hrid : rid s.data.toList D = dRemove D (cutN s.data.toList) := by
      unfold rid half
      rw [if_pos hh]
    rw [hh]
    have hcs := cut_size H1.out.nm
    have hst1 := jstep_any 63 #[] (strOf (cutN s.data.toList)) _ w2 H1.out remove_enters (does_remove _ (by omega) H1.out.dk (okd_room hok (by omega)) hok)
    rw [← hrid, ← cutN_str] at hst1
    have HRID := Lib.hid hrid
    clear hrid hh
    go_wp2_with fail
    refine hst1.mono ?_
    rintro e w3 ⟨rfl, S1, h3, ht3⟩
    by_cases he : (rid s.data.toList D).1 = 0
    · rw [he, show jEnd (jnOf []) 0 = jnOf [] by simp [jEnd]] at h3
      have HJ := Lib.hid h3
      have HT := Lib.hid ((TurnJ.below HB1.out : TurnJ S T S T w w2).trans ht3)
      have hltS := H.out.dk.lt
      have hltT := H.out.jo.lt
      have hrow : w3.ownsRow w.heap.size 9 1 (.slice A N c) N (cS (names D)) := ownRow_block_kept HO.out fun g hg => by
        have h1 := ownRow_block HO.out hg
        refine ht3.outs.block g h1.2.1 ?_
        rintro (hh | hh)
        · have := hltS g hh; omega
        · have := hltT g hh; omega
      have HOc := Lib.hid hrow
      have HR := Lib.hid he
      have hee : ((rid s.data.toList D).1 != 0) = false := by simp [he]
      clear h3 ht3 hst1 hltS hltT hrow
      rw [he]
      have HD1 := Lib.hid (rid_ok (l := s.data.toList) hok)
      have HF1 := Lib.hid (And.intro (rid_files HR.out) (rid_sub HR.out))
      have E := Lib.hid (show jOpen s.data.toList D = restD s.data.toList (rid s.data.toList D).2 (jnums s.data.toList D) (found s.data.toList (rid s.data.toList D).2 (jnums s.data.toList D)) by unfold jOpen; rw [if_pos HR.out])
      have EO := Lib.hid (show opened s.data.toList D = jnOf (found s.data.toList (rid s.data.toList D).2 (jnums s.data.toList D)) from rfl)
      generalize (rid s.data.toList D).2 = D1 at *
      have hnum := numbers_any A (names D) N c w3 HJ.out HN.out (by omega) ((Rds.ofOwn HOc.out))
      go_wp2_with fail
      refine hnum.mono ?_
      rintro e w4 ⟨v4, rfl, hown4, hb4⟩
      rw [show nos s.data.toList (names D) = jnums s.data.toList D from rfl] at hown4
      have hnsl : (jnums s.data.toList D).length ≤ 1048576 := by
        have h1 : (jnums s.data.toList D).length ≤ (names D).length := List.length_filterMap_le _ _
        have := HN.out
        omega
      have hfile : ∀ m ∈ jnums s.data.toList D, m ≤ maxNo ∧ ∃ f, find D1.files (segN s.data.toList m) = some f := fun m hm => by
        obtain ⟨h1, h2⟩ := nos_mem.1 hm
        refine ⟨h1, ?_⟩
        have h3 : (find D.files (segN s.data.toList m)).isSome := find_isSome.2 h2
        rw [← HF1.out.1.2 _ (segN_ne_cut _ _)] at h3
        exact Option.isSome_iff_exists.1 h3
      obtain ⟨An, cn, rfl⟩ := row_any hown4
      generalize hns : jnums s.data.toList D = ns at *
      generalize hnn : ns.length = n at *
      have hgo := goOver_any An n cn ns w4 (HJ.out.go hb4) hnn (by omega) (ownRow_base hown4 fun _ _ => Nat.zero_le _) HD1.out.1 (by rw [HF1.out.1.1]; exact hoff) (by have := HD1.out.2; omega) hfile (fun f hf => hbyt f (HF1.out.2 f hf))
      have HO4 := Lib.hid hown4
      have HNN := Lib.hid hnn
      have HB4 := Lib.hid hb4
      have HLG := Lib.hid (show (found s.data.toList D1 ns).length ≤ n by rw [← hnn]; exact goOver_len _ _ _)
      have HFI := Lib.hid hfile
      clear hnum hown4 hb4 hnn hns hfile
      generalize found s.data.toList D1 ns = ss at *
      go_wp2_with fail
      refine hgo.mono ?_
      rintro e w5 ⟨rfl, S5, T5, h5, ht5⟩
      have HT45 := Lib.hid ht5
      have HT5 := Lib.hid (HT.out.trans ((TurnJ.below HB4.out : TurnJ S1 T S1 T w3 w4).trans ht5))
      by_cases he5 : (cutD s.data.toList D1 ss).1 = 0
      · have hee5 : ((cutD s.data.toList D1 ss).1 != 0) = false := by simp [he5]
        have E2 := Lib.hid (show restD s.data.toList D1 ns ss = seqD (cutD s.data.toList D1 ss).2 (remSteps s.data.toList (ns.drop ss.length)) by unfold restD; rw [if_pos he5])
        rw [he5, show jEnd (jnOf ss) 0 = jnOf ss by simp [jEnd]] at h5
        rw [he5]
        obtain ⟨hok2, hst2⟩ := cutD_ok (l := s.data.toList) (ss := ss) HD1.out.1
        have HD2 := Lib.hid (And.intro hok2 hst2)
        clear hok2 hst2 hee5 he5
        generalize (cutD s.data.toList D1 ss).2 = D2 at *
        have c5 : ∃ Av cv, w5.cell? ⟨j, 5, none⟩ = some (.slice Av ss.length cv) := by
          obtain ⟨vs, ms, hj, hs⟩ := h5.jo
          obtain ⟨Av, cv, e⟩ := o_any hj.row
          have hl : ms.length = ss.length := by
            have : (jnOf ss).segs.length = ms.length := by rw [hs, List.length_map]
            exact this.symm
          exact ⟨Av, cv, by rw [hj.c5, e, hl]⟩
        obtain ⟨Av, cv, c5⟩ := c5
        have hssl := HLG.out
        by_cases hlen : ss.length = n
        · have E3 := Lib.hid (show seqD D2 (remSteps s.data.toList (ns.drop ss.length)) = (0, D2) by rw [List.drop_eq_nil_of_le (by rw [HNN.out]; omega)]; rfl)
          have hn30 : n ≤ 1048576 := by omega
          have H5 := Lib.hid h5
          have hcn : n ≤ cn := by
            obtain ⟨_, _, e9, _, h9, _, _⟩ := own_open HO4.out
            injection e9 with _ _ e9
            omega
          clear hgo h5 ht5
          rw [hlen] at c5
          clear hlen hssl
          go_wp2
          all_goals (
            go_loopw [47] (fun i wr => i = .int .i64 0 ∧ wr = w5) (fun _ _ => 0)
            case atStart => exact ⟨rfl, rfl⟩
            case round =>
              obtain ⟨rfl, rfl⟩ := hrel
              go_wp2
              go_returns
              rw [E.out, E2.out, E3.out, EO.out]
              exact ⟨by simp, S5, T5, _, H5.out, fun _ => rfl, HT5.out⟩)
        · have hlt : ss.length < n := by omega
          obtain ⟨gn, cn2, hAe, hgn, hcn1, _⟩ := row_block HO4.out (by omega)
          have hA2 : An = some ⟨gn, 0, none⟩ ∧ cn = cn2 := by
            injection hAe with e1 e2 e3
            exact ⟨e1, e3⟩
          obtain ⟨rfl, rfl⟩ := hA2
          have hgb := ownRow_block HO4.out hgn
          have hltS : ∀ k, S1 k → k < w3.heap.size := HJ.out.dk.lt
          have hltT : ∀ k, T k → k < w3.heap.size := HJ.out.jo.lt
          have hgST : ¬ (S1 gn ∨ T gn) := fun hh => by
            rcases hh with hh | hh
            · have := hltS gn hh; omega
            · have := hltT gn hh; omega
          have hms : (ns.drop ss.length).length = n - ss.length := by rw [List.length_drop, HNN.out]
          have hra : RemAt w w5 S T S5 T5 j d s (jnOf ss) D2 D2 (ns.drop ss.length) gn ss.length 0 := by
            refine ⟨h5, HT5.out, rfl, HD2.out.1, by omega, fun i hi => ?_, Nat.lt_of_lt_of_le hgb.2.1 HT45.out.outs.size, fun hh => ?_, fun hh => ?_⟩
            · rw [HT45.out.outs.cell (p := ⟨gn, ss.length + i, none⟩) hgb.2.1 hgST]
              rw [hms] at hi
              have h1 := (row_cell (i := ss.length + i) HO4.out hgn (cU_get (by rw [HNN.out]; omega))).1
              rw [h1, List.getElem_drop]
            · rcases HT45.out.ns _ hh with e | e
              · exact hgST (.inl e)
              · omega
            · rcases HT45.out.nt _ hh with e | e
              · exact hgST (.inr e)
              · omega
          have HRA := Lib.hid hra
          have hcne : ¬ cn = ss.length := by omega
          have hi1 : 0 ≤ (ss.length : Int) ∧ (ss.length : Int) ≤ n := by omega
          have hi2 : ((n : Int) - (ss.length : Int)) = ((n - ss.length : Nat) : Int) := by omega
          have hMS := Lib.hid hms
          clear hgo h5 ht5 hra hAe hgn hgb hltS hltT hgST hms
          generalize hR : n - ss.length = R at *
          go_wp2
          go_loopw [47] (fun i wr => ∃ (k : Nat) (Dk : Dsk) (Sk : Nat → Prop), k ≤ R ∧ i = .int .i64 k ∧ RemAt w wr S T Sk T5 j d s (jnOf ss) D2 Dk (ns.drop ss.length) gn ss.length k) (fun i _ => R - (intOf i).toNat)
          case atStart => exact ⟨0, D2, S5, Nat.zero_le _, rfl, HRA.out⟩
          case round =>
            obtain ⟨k, Dk, Sk, hk, rfl, hat⟩ := hrel
            by_cases hkR : k < R
            · have hkl : k < (ns.drop ss.length).length := by rw [hMS.out]; exact hkR
              obtain ⟨m, hm⟩ : ∃ m, m = (ns.drop ss.length)[k] := ⟨_, rfl⟩
              have hcell := hat.cells k hkl
              rw [← hm] at hcell
              have hmm : m ≤ maxNo := (HFI.out m (by rw [hm]; exact List.drop_subset _ _ (List.getElem_mem hkl))).1
              have hfile := jfile_any m hmm wr hat.jd
              have HAT := Lib.hid hat
              have HM := Lib.hid hm
              have hki : (k : Int) < R := by omega
              have hki2 : (k : Int) ≤ 1048576 := by omega
              clear hat hm
              go_wp2_with fail
              refine hfile.mono ?_
              rintro e w7 ⟨rfl, hb7⟩
              have ha7 := HAT.out.go hb7
              have hsz7 := seg_size ha7.jd.nm m
              have hrm := jstep_any 63 #[] (strOf (segN s.data.toList m)) _ w7 ha7.jd remove_enters (does_remove _ (by omega) ha7.jd.dk (okd_room ha7.ok (by have h1 := ha7.steps; have h2 := HD2.out.2; have h3 := HD1.out.2; omega)) ha7.ok)
              have HA7 := Lib.hid ha7
              clear hfile ha7 hb7 HAT hcell
              go_wp2_with fail
              refine hrm.mono ?_
              rintro e w8 ⟨rfl, S8, h8, ht8⟩
              by_cases he8 : (dRemove Dk (segN s.data.toList m)).1 = 0
              · have hee8 : ((dRemove Dk (segN s.data.toList m)).1 != 0) = false := by simp [he8]
                rw [he8, show jEnd (jnOf ss) 0 = jnOf ss by simp [jEnd]] at h8
                have hnx := HA7.out.next h8 ht8 (by rw [rem_take hkl HA7.out.did, ← HM.out]; exact Prod.ext he8 rfl) (rem_ok HA7.out.ok).1 (rem_ok HA7.out.ok).2
                have HNX := Lib.hid hnx
                generalize dRemove Dk (segN s.data.toList m) = r at *
                clear hrm h8 ht8 hnx he8
                go_wp2
                go_roundw
                case rel => exact ⟨k + 1, r.2, S8, by omega, by go_num, HNX.out⟩
                case measure => simp [intOf]; omega
              · have hee8 : ((dRemove Dk (segN s.data.toList m)).1 != 0) = true := by simpa using he8
                have E3 := Lib.hid (show seqD D2 (remSteps s.data.toList (ns.drop ss.length)) = dRemove Dk (segN s.data.toList m) by rw [HM.out]; exact rem_stop hkl HA7.out.did (by rw [← HM.out]; exact he8))
                have H8 := Lib.hid h8
                have HT8 := Lib.hid (HA7.out.turn.trans ht8)
                have HNE := Lib.hid he8
                generalize dRemove Dk (segN s.data.toList m) = r at *
                clear hrm h8 ht8 he8
                go_wp2
                go_returns
                rw [E.out, E2.out, E3.out]
                exact ⟨by simp, S8, T5, _, H8.out, fun h => absurd h HNE.out, HT8.out⟩
            · have hkR2 : k = R := by omega
              have hdid := hat.did
              rw [hkR2, List.take_of_length_le (by rw [hMS.out]; exact Nat.le_refl _)] at hdid
              have E3 := Lib.hid hdid
              have H8 := Lib.hid hat.jd
              have HT8 := Lib.hid hat.turn
              have hki : ¬ (k : Int) < R := by omega
              clear hat hdid
              go_wp2
              go_returns
              rw [E.out, E2.out, E3.out, EO.out]
              exact ⟨by simp, Sk, T5, _, H8.out, fun _ => rfl, HT8.out⟩
      · have hee5 : ((cutD s.data.toList D1 ss).1 != 0) = true := by simpa using he5
        have E2 := Lib.hid (show restD s.data.toList D1 ns ss = cutD s.data.toList D1 ss by unfold restD; rw [if_neg he5])
        have H5 := Lib.hid h5
        have HNE := Lib.hid he5
        generalize cutD s.data.toList D1 ss = r at *
        clear hgo h5 ht5 he5
        go_wp2
        go_returns
        rw [E.out, E2.out]
        exact ⟨by simp, S5, T5, _, H5.out, fun h => absurd h HNE.out, HT5.out⟩
    · have hee : ((rid s.data.toList D).1 != 0) = true := by simpa using he
      have E := Lib.hid (show jOpen s.data.toList D = rid s.data.toList D by unfold jOpen; rw [if_neg he])
      have H3 := Lib.hid h3
      have HT := Lib.hid ((TurnJ.below HB1.out : TurnJ S T S T w w2).trans ht3)
      have HNE := Lib.hid he
      generalize rid s.data.toList D = r at *
      clear h3 ht3 hst1 he
      go_wp2
      go_returns
      rw [E.out]
      exact ⟨by simp, S1, T, _, H3.out, fun h => absurd h HNE.out, HT.out⟩
  · have hrid : rid s.data.toList D = (0, D) := by
      unfold rid half
      rw [if_neg hh]
    have hh2 : (names D).contains (cutN s.data.toList) = false := by simpa using hh
    rw [hh2]
    obtain ⟨w3, hw3⟩ : ∃ x, x = w2 := ⟨_, rfl⟩
    have he : (rid s.data.toList D).1 = 0 := by rw [hrid]
    have hD : (rid s.data.toList D).2 = D := by rw [hrid]
    obtain ⟨S1, hS1⟩ : ∃ x, x = S := ⟨_, rfl⟩
    have HJ := Lib.hid (show JD w2 S1 T j d s (rid s.data.toList D).2 (jnOf []) by rw [hD, hS1]; exact H1.out)
    have HT := Lib.hid (show TurnJ S T S1 T w w2 by rw [hS1]; exact TurnJ.below HB1.out)
    have HOc := HO
    have HR := Lib.hid he
    clear hrid hh hh2 hw3 w3 hD hS1 he
    have HD1 := Lib.hid (rid_ok (l := s.data.toList) hok)
    have HF1 := Lib.hid (And.intro (rid_files HR.out) (rid_sub HR.out))
    have E := Lib.hid (show jOpen s.data.toList D = restD s.data.toList (rid s.data.toList D).2 (jnums s.data.toList D) (found s.data.toList (rid s.data.toList D).2 (jnums s.data.toList D)) by unfold jOpen; rw [if_pos HR.out])
    have EO := Lib.hid (show opened s.data.toList D = jnOf (found s.data.toList (rid s.data.toList D).2 (jnums s.data.toList D)) from rfl)
    generalize (rid s.data.toList D).2 = D1 at *
    have hnum := numbers_any A (names D) N c w2 HJ.out HN.out (by omega) ((Rds.ofOwn HOc.out))
    go_wp2_with fail
    refine hnum.mono ?_
    rintro e w4 ⟨v4, rfl, hown4, hb4⟩
    rw [show nos s.data.toList (names D) = jnums s.data.toList D from rfl] at hown4
    have hnsl : (jnums s.data.toList D).length ≤ 1048576 := by
      have h1 : (jnums s.data.toList D).length ≤ (names D).length := List.length_filterMap_le _ _
      have := HN.out
      omega
    have hfile : ∀ m ∈ jnums s.data.toList D, m ≤ maxNo ∧ ∃ f, find D1.files (segN s.data.toList m) = some f := fun m hm => by
      obtain ⟨h1, h2⟩ := nos_mem.1 hm
      refine ⟨h1, ?_⟩
      have h3 : (find D.files (segN s.data.toList m)).isSome := find_isSome.2 h2
      rw [← HF1.out.1.2 _ (segN_ne_cut _ _)] at h3
      exact Option.isSome_iff_exists.1 h3
    obtain ⟨An, cn, rfl⟩ := row_any hown4
    generalize hns : jnums s.data.toList D = ns at *
    generalize hnn : ns.length = n at *
    have hgo := goOver_any An n cn ns w4 (HJ.out.go hb4) hnn (by omega) (ownRow_base hown4 fun _ _ => Nat.zero_le _) HD1.out.1 (by rw [HF1.out.1.1]; exact hoff) (by have := HD1.out.2; omega) hfile (fun f hf => hbyt f (HF1.out.2 f hf))
    have HO4 := Lib.hid hown4
    have HNN := Lib.hid hnn
    have HB4 := Lib.hid hb4
    have HLG := Lib.hid (show (found s.data.toList D1 ns).length ≤ n by rw [← hnn]; exact goOver_len _ _ _)
    have HFI := Lib.hid hfile
    clear hnum hown4 hb4 hnn hns hfile
    generalize found s.data.toList D1 ns = ss at *
    go_wp2_with fail
    refine hgo.mono ?_
    rintro e w5 ⟨rfl, S5, T5, h5, ht5⟩
    have HT45 := Lib.hid ht5
    have HT5 := Lib.hid (HT.out.trans ((TurnJ.below HB4.out : TurnJ S1 T S1 T w2 w4).trans ht5))
    by_cases he5 : (cutD s.data.toList D1 ss).1 = 0
    · have hee5 : ((cutD s.data.toList D1 ss).1 != 0) = false := by simp [he5]
      have E2 := Lib.hid (show restD s.data.toList D1 ns ss = seqD (cutD s.data.toList D1 ss).2 (remSteps s.data.toList (ns.drop ss.length)) by unfold restD; rw [if_pos he5])
      rw [he5, show jEnd (jnOf ss) 0 = jnOf ss by simp [jEnd]] at h5
      rw [he5]
      obtain ⟨hok2, hst2⟩ := cutD_ok (l := s.data.toList) (ss := ss) HD1.out.1
      have HD2 := Lib.hid (And.intro hok2 hst2)
      clear hok2 hst2 hee5 he5
      generalize (cutD s.data.toList D1 ss).2 = D2 at *
      have c5 : ∃ Av cv, w5.cell? ⟨j, 5, none⟩ = some (.slice Av ss.length cv) := by
        obtain ⟨vs, ms, hj, hs⟩ := h5.jo
        obtain ⟨Av, cv, e⟩ := o_any hj.row
        have hl : ms.length = ss.length := by
          have : (jnOf ss).segs.length = ms.length := by rw [hs, List.length_map]
          exact this.symm
        exact ⟨Av, cv, by rw [hj.c5, e, hl]⟩
      obtain ⟨Av, cv, c5⟩ := c5
      have hssl := HLG.out
      by_cases hlen : ss.length = n
      · have E3 := Lib.hid (show seqD D2 (remSteps s.data.toList (ns.drop ss.length)) = (0, D2) by rw [List.drop_eq_nil_of_le (by rw [HNN.out]; omega)]; rfl)
        have hn30 : n ≤ 1048576 := by omega
        have H5 := Lib.hid h5
        have hcn : n ≤ cn := by
          obtain ⟨_, _, e9, _, h9, _, _⟩ := own_open HO4.out
          injection e9 with _ _ e9
          omega
        clear hgo h5 ht5
        rw [hlen] at c5
        clear hlen hssl
        go_wp2
        all_goals (
          go_loopw [47] (fun i wr => i = .int .i64 0 ∧ wr = w5) (fun _ _ => 0)
          case atStart => exact ⟨rfl, rfl⟩
          case round =>
            obtain ⟨rfl, rfl⟩ := hrel
            go_wp2
            go_returns
            rw [E.out, E2.out, E3.out, EO.out]
            exact ⟨by simp, S5, T5, _, H5.out, fun _ => rfl, HT5.out⟩)
      · have hlt : ss.length < n := by omega
        obtain ⟨gn, cn2, hAe, hgn, hcn1, _⟩ := row_block HO4.out (by omega)
        have hA2 : An = some ⟨gn, 0, none⟩ ∧ cn = cn2 := by
          injection hAe with e1 e2 e3
          exact ⟨e1, e3⟩
        obtain ⟨rfl, rfl⟩ := hA2
        have hgb := ownRow_block HO4.out hgn
        have hltS : ∀ k, S1 k → k < w2.heap.size := HJ.out.dk.lt
        have hltT : ∀ k, T k → k < w2.heap.size := HJ.out.jo.lt
        have hgST : ¬ (S1 gn ∨ T gn) := fun hh => by
          rcases hh with hh | hh
          · have := hltS gn hh; omega
          · have := hltT gn hh; omega
        have hms : (ns.drop ss.length).length = n - ss.length := by rw [List.length_drop, HNN.out]
        have hra : RemAt w w5 S T S5 T5 j d s (jnOf ss) D2 D2 (ns.drop ss.length) gn ss.length 0 := by
          refine ⟨h5, HT5.out, rfl, HD2.out.1, by omega, fun i hi => ?_, Nat.lt_of_lt_of_le hgb.2.1 HT45.out.outs.size, fun hh => ?_, fun hh => ?_⟩
          · rw [HT45.out.outs.cell (p := ⟨gn, ss.length + i, none⟩) hgb.2.1 hgST]
            rw [hms] at hi
            have h1 := (row_cell (i := ss.length + i) HO4.out hgn (cU_get (by rw [HNN.out]; omega))).1
            rw [h1, List.getElem_drop]
          · rcases HT45.out.ns _ hh with e | e
            · exact hgST (.inl e)
            · omega
          · rcases HT45.out.nt _ hh with e | e
            · exact hgST (.inr e)
            · omega
        have HRA := Lib.hid hra
        have hcne : ¬ cn = ss.length := by omega
        have hi1 : 0 ≤ (ss.length : Int) ∧ (ss.length : Int) ≤ n := by omega
        have hi2 : ((n : Int) - (ss.length : Int)) = ((n - ss.length : Nat) : Int) := by omega
        have hMS := Lib.hid hms
        clear hgo h5 ht5 hra hAe hgn hgb hltS hltT hgST hms
        generalize hR : n - ss.length = R at *
        go_wp2
        go_loopw [47] (fun i wr => ∃ (k : Nat) (Dk : Dsk) (Sk : Nat → Prop), k ≤ R ∧ i = .int .i64 k ∧ RemAt w wr S T Sk T5 j d s (jnOf ss) D2 Dk (ns.drop ss.length) gn ss.length k) (fun i _ => R - (intOf i).toNat)
        case atStart => exact ⟨0, D2, S5, Nat.zero_le _, rfl, HRA.out⟩
        case round =>
          obtain ⟨k, Dk, Sk, hk, rfl, hat⟩ := hrel
          by_cases hkR : k < R
          · have hkl : k < (ns.drop ss.length).length := by rw [hMS.out]; exact hkR
            obtain ⟨m, hm⟩ : ∃ m, m = (ns.drop ss.length)[k] := ⟨_, rfl⟩
            have hcell := hat.cells k hkl
            rw [← hm] at hcell
            have hmm : m ≤ maxNo := (HFI.out m (by rw [hm]; exact List.drop_subset _ _ (List.getElem_mem hkl))).1
            have hfile := jfile_any m hmm wr hat.jd
            have HAT := Lib.hid hat
            have HM := Lib.hid hm
            have hki : (k : Int) < R := by omega
            have hki2 : (k : Int) ≤ 1048576 := by omega
            clear hat hm
            go_wp2_with fail
            refine hfile.mono ?_
            rintro e w7 ⟨rfl, hb7⟩
            have ha7 := HAT.out.go hb7
            have hsz7 := seg_size ha7.jd.nm m
            have hrm := jstep_any 63 #[] (strOf (segN s.data.toList m)) _ w7 ha7.jd remove_enters (does_remove _ (by omega) ha7.jd.dk (okd_room ha7.ok (by have h1 := ha7.steps; have h2 := HD2.out.2; have h3 := HD1.out.2; omega)) ha7.ok)
            have HA7 := Lib.hid ha7
            clear hfile ha7 hb7 HAT hcell
            go_wp2_with fail
            refine hrm.mono ?_
            rintro e w8 ⟨rfl, S8, h8, ht8⟩
            by_cases he8 : (dRemove Dk (segN s.data.toList m)).1 = 0
            · have hee8 : ((dRemove Dk (segN s.data.toList m)).1 != 0) = false := by simp [he8]
              rw [he8, show jEnd (jnOf ss) 0 = jnOf ss by simp [jEnd]] at h8
              have hnx := HA7.out.next h8 ht8 (by rw [rem_take hkl HA7.out.did, ← HM.out]; exact Prod.ext he8 rfl) (rem_ok HA7.out.ok).1 (rem_ok HA7.out.ok).2
              have HNX := Lib.hid hnx
              generalize dRemove Dk (segN s.data.toList m) = r at *
              clear hrm h8 ht8 hnx he8
              go_wp2
              go_roundw
              case rel => exact ⟨k + 1, r.2, S8, by omega, by go_num, HNX.out⟩
              case measure => simp [intOf]; omega
            · have hee8 : ((dRemove Dk (segN s.data.toList m)).1 != 0) = true := by simpa using he8
              have E3 := Lib.hid (show seqD D2 (remSteps s.data.toList (ns.drop ss.length)) = dRemove Dk (segN s.data.toList m) by rw [HM.out]; exact rem_stop hkl HA7.out.did (by rw [← HM.out]; exact he8))
              have H8 := Lib.hid h8
              have HT8 := Lib.hid (HA7.out.turn.trans ht8)
              have HNE := Lib.hid he8
              generalize dRemove Dk (segN s.data.toList m) = r at *
              clear hrm h8 ht8 he8
              go_wp2
              go_returns
              rw [E.out, E2.out, E3.out]
              exact ⟨by simp, S8, T5, _, H8.out, fun h => absurd h HNE.out, HT8.out⟩
          · have hkR2 : k = R := by omega
            have hdid := hat.did
            rw [hkR2, List.take_of_length_le (by rw [hMS.out]; exact Nat.le_refl _)] at hdid
            have E3 := Lib.hid hdid
            have H8 := Lib.hid hat.jd
            have HT8 := Lib.hid hat.turn
            have hki : ¬ (k : Int) < R := by omega
            clear hat hdid
            go_wp2
            go_returns
            rw [E.out, E2.out, E3.out, EO.out]
            exact ⟨by simp, Sk, T5, _, H8.out, fun _ => rfl, HT8.out⟩
    · have hee5 : ((cutD s.data.toList D1 ss).1 != 0) = true := by simpa using he5
      have E2 := Lib.hid (show restD s.data.toList D1 ns ss = cutD s.data.toList D1 ss by unfold restD; rw [if_neg he5])
      have H5 := Lib.hid h5
      have HNE := Lib.hid he5
      generalize cutD s.data.toList D1 ss = r at *
      clear hgo h5 ht5 he5
      go_wp2
      go_returns
      rw [E.out, E2.out]
      exact ⟨by simp, S5, T5, _, H5.out, fun h => absurd h HNE.out, HT5.out⟩
end
end Go.Proofs.YtbobakfcmkaijaaGreatDoor
end

section
/- Open. -/
namespace Go.Proofs.YtbobakfcmkaijaaGreatDoor
open Go.RowKit
set_option linter.unusedVariables false

section
variable {w w' w2 wr : World} {S T S' T' S2 T2 Tk : Nat → Prop} {j d : Nat} {s : ByteArray} {D D' : Dsk} {J J' : Jn}

theorem ask_ne1 (D : Dsk) (l : Nm) : (dSynced D l).2 ≠ 1 := by
  unfold dSynced
  split
  · rcases ask_one D l with e | e | e <;> rw [e] <;> decide
  · split <;> simp
/-- why no journal can be opened -/
theorem unfit_any (w : World) (h : Dk 0 w S d D) (hs : s.size ≤ 9223372036854775807) :
    Calls Tryz.prog 104 #[.pointer (some ⟨d, 0, none⟩), .string s] w fun e w' => e = .returned (.int .i64 (if okJ s.data.toList then (if D.off then 10 else 0) else 2)) ∧ Below w.heap.size w w' := by
  have hsy := synced_any s hs w h
  have hn1 : ((dSynced D (lst s)).2 == 1) = false := by simpa using ask_ne1 D (lst s)
  generalize dSynced D (lst s) = r at *
  have H := Lib.hid h
  clear h
  cases hk : okJ s.data.toList
  · have hm : ∀ W, Calls Tryz.prog 128 #[.string s] W fun e w' => e = .returned (.bool true) ∧ ∃ n, w' = W.drewN n := fun W => by
      have := jmayNot_any s hs W
      rw [hk] at this
      exact this
    clear hk
    go_enter Tryz.func104, Tryz.ntmps104
    go_wp2_with fail
    refine hsy.mono ?_
    rintro e w1 ⟨rfl, hb1⟩
    go_wp2_with fail
    refine (hm w1).mono ?_
    rintro e w2 ⟨rfl, q, rfl⟩
    have HB := Lib.hid (bDrewN hb1 q)
    clear hsy hb1
    go_wp2
    go_returns
    exact ⟨by simp, HB.out⟩
  · have hm : ∀ W, Calls Tryz.prog 128 #[.string s] W fun e w' => e = .returned (.bool false) ∧ ∃ n, w' = W.drewN n := fun W => by
      have := jmayNot_any s hs W
      rw [hk] at this
      exact this
    clear hk
    have hon : ∀ W, Below w.heap.size w W → Calls Tryz.prog 30 #[.pointer (some ⟨d, 0, none⟩)] W fun e w' => e = .returned (.bool (!D.off)) ∧ w' = W := fun W hb => on_any W (H.out.go hb)
    cases ho : D.off
    · rw [ho] at hon
      clear ho
      go_enter Tryz.func104, Tryz.ntmps104
      go_wp2_with fail
      refine hsy.mono ?_
      rintro e w1 ⟨rfl, hb1⟩
      go_wp2_with fail
      refine (hm w1).mono ?_
      rintro e w2 ⟨rfl, q, rfl⟩
      have hb2 := bDrewN hb1 q
      generalize w1.drewN q = w3 at *
      go_wp2_with fail
      refine (hon w3 hb2).mono ?_
      rintro e w4 ⟨rfl, rfl⟩
      have HB := Lib.hid hb2
      clear hsy hb1 hb2 hon
      go_wp2
      go_returns
      exact ⟨by simp, HB.out⟩
    · rw [ho] at hon
      clear ho
      go_enter Tryz.func104, Tryz.ntmps104
      go_wp2_with fail
      refine hsy.mono ?_
      rintro e w1 ⟨rfl, hb1⟩
      go_wp2_with fail
      refine (hm w1).mono ?_
      rintro e w2 ⟨rfl, q, rfl⟩
      have hb2 := bDrewN hb1 q
      generalize w1.drewN q = w3 at *
      go_wp2_with fail
      refine (hon w3 hb2).mono ?_
      rintro e w4 ⟨rfl, rfl⟩
      have HB := Lib.hid hb2
      clear hsy hb1 hb2 hon
      go_wp2
      go_returns
      exact ⟨by simp, HB.out⟩
theorem unfit_no (p : Option Addr) (s : ByteArray) (w : World) (h : Nobody w p) (hl : ∀ d, p = some d → d.block < w.heap.size) :
    Calls Tryz.prog 104 #[.pointer p, .string s] w fun e w' => e = .returned (.int .i64 1) ∧ Below w.heap.size w w' := by
  have hsy := synced_no h hl s
  go_enter Tryz.func104, Tryz.ntmps104
  go_wp2_with fail
  refine hsy.mono ?_
  rintro e w1 ⟨rfl, hb1⟩
  have HB := Lib.hid hb1
  clear hsy hb1
  go_wp2
  go_returns
  exact ⟨by simp, HB.out⟩
theorem jopen_no (p : Option Addr) (s : ByteArray) (w : World) (h : Nobody w p) (hl : ∀ d, p = some d → d.block < w.heap.size) :
    Calls Tryz.prog 75 #[.pointer p, .string s] w fun e w' => e = .returned (.tuple #[.pointer none, .int .i64 1]) ∧ Below w.heap.size w w' := by
  have hu := unfit_no p s w h hl
  go_enter Tryz.func75, Tryz.ntmps75
  go_wp2_with fail
  refine hu.mono ?_
  rintro e w1 ⟨rfl, hb1⟩
  have HB := Lib.hid hb1
  clear hu hb1
  go_wp2
  go_returns
  exact ⟨by simp, HB.out⟩
theorem jopen_bad (w : World) (h : Dk 0 w S d D) (hs : s.size ≤ 9223372036854775807) (hb : okJ s.data.toList = false) :
    Calls Tryz.prog 75 #[.pointer (some ⟨d, 0, none⟩), .string s] w fun e w' => e = .returned (.tuple #[.pointer none, .int .i64 2]) ∧ Below w.heap.size w w' := by
  have hu := unfit_any w h hs
  rw [hb] at hu
  clear hb h
  go_enter Tryz.func75, Tryz.ntmps75
  go_wp2_with fail
  refine hu.mono ?_
  rintro e w1 ⟨rfl, hb1⟩
  have HB := Lib.hid hb1
  clear hu hb1
  go_wp2
  go_returns
  exact ⟨by simp, HB.out⟩

/-- what an opening leaves -/
structure TurnOp (S S' T' : Nat → Prop) (w w' : World) : Prop where
  outs : Outs S w w'
  ns : ∀ k, S' k → S k ∨ w.heap.size ≤ k
  nt : ∀ k, T' k → w.heap.size ≤ k

set_option maxHeartbeats 1600000 in
set_option maxRecDepth 20000 in
theorem jopen_any (w : World) (h : Dk 0 w S d D) (hp : Pow w) (h0 : ¬ S 0) (hk : okJ s.data.toList = true) (hok : Okd D) (hoff : D.off = false) (hst : D.steps ≤ 274877906944) (hfl : D.files.length ≤ 1048576) (hbyt : FBs D) (hgood : (jOpen s.data.toList D).1 = 0) :
    Calls Tryz.prog 75 #[.pointer (some ⟨d, 0, none⟩), .string s] w fun e w' => ∃ j S' T', e = .returned (.tuple #[.pointer (some ⟨j, 0, none⟩), .int .i64 0]) ∧ JD w' S' T' j d s (jOpen s.data.toList D).2 (opened s.data.toList D) ∧ TurnOp S S' T' w w' := by
  have hu := unfit_any (s := s) w h (by have := nm_size hk; omega)
  rw [hk, hoff] at hu
  have H := Lib.hid h
  clear h
  go_enter Tryz.func75, Tryz.ntmps75
  go_wp2_with fail
  refine hu.mono ?_
  rintro e w1 ⟨rfl, hb1⟩
  have h1 := H.out.go hb1
  have hp1 := hp.go hb1
  have hb2 : Below w.heap.size w (w1.alloc (.cells #[.pointer (some ⟨w1.heap.size, 0, none⟩), .pointer (some ⟨d, 0, none⟩), .string s, .bool false, .int .u64 1, .slice none 0 0] 79)) := hb1.alloc hb1.size _
  have hj2 : JD (w1.alloc (.cells #[.pointer (some ⟨w1.heap.size, 0, none⟩), .pointer (some ⟨d, 0, none⟩), .string s, .bool false, .int .u64 1, .slice none 0 0] 79)) S (fun k => k = w1.heap.size) w1.heap.size d s D (jnOf []) := by
    have hp0 := hp1.lt
    refine ⟨H.out.go hb2, ⟨.slice none 0 0, [], ⟨?_, ownsO_nil _ _ 3, (fun m hm => by cases hm), (fun m hm => by cases hm), List.Pairwise.nil, rfl, (fun g hg => by cases hg), (fun m hm => by cases hm), (fun m hm => by cases hm), ?_⟩, rfl⟩, ?_, h0, ?_, hp.go hb2, hk⟩
    · exact Whole.new w1 _ _
    · rintro k rfl
      simp
    · rintro k rfl hs
      exact Nat.lt_irrefl _ (h1.lt _ hs)
    · intro e
      omega
  have hreb := rebuild_any _ hj2 hok hoff hst hfl hbyt
  have HB2 := Lib.hid hb2
  have HB1 := Lib.hid hb1
  rw [hgood] at hreb
  clear hj2 hb2 hu h1 hp1 hb1
  go_wp2_with fail
  refine hreb.mono ?_
  rintro e w3 ⟨rfl, S', T', J', h3, hJ', ht3⟩
  obtain rfl := hJ' (by trivial)
  have H3 := Lib.hid h3
  have hlt := H.out.lt
  have HT : TurnOp S S' T' w w3 := by
    have hs := HB2.out.size
    have h1s := HB1.out.size
    refine ⟨(Outs.of HB2.out : Outs S w _).trans ht3.outs (fun i hi => ?_), fun k hk => ?_, fun k hk => ?_⟩
    · rcases hi with hi | hi
      · exact .inl hi
      · exact .inr (by rw [hi]; exact h1s)
    · rcases ht3.ns k hk with e | e
      · exact .inl e
      · exact .inr (Nat.le_trans hs e)
    · rcases ht3.nt k hk with e | e
      · rw [e]; exact h1s
      · exact Nat.le_trans hs e
  have HT := Lib.hid HT
  clear hreb h3 ht3 hJ' hlt
  go_wp2
  go_returns
  exact ⟨w1.heap.size, S', T', by simp, H3.out, HT.out⟩
end
end Go.Proofs.YtbobakfcmkaijaaGreatDoor
end

section
/- What holds of a journal and of its disk behind every call. -/
namespace Go.Proofs.YtbobakfcmkaijaaGreatDoor
set_option linter.unusedVariables false

/-- what holds of a disk: as ever; no more files than steps; bytes -/
structure Inv (D : Dsk) : Prop where
  ok : Okd D
  few : D.files.length ≤ D.steps
  byt : FBs D

section
variable {l : Nm} {D D' : Dsk} {a k m : Nat} {ps : List Sg} {s : Sg} {L : List (List Int)} {J : Jn} {b : List Int}
theorem ins_len (f : Fl) : ∀ fs : List Fl, (ins f fs).length = fs.length + 1
  | [] => rfl
  | g :: r => by
    unfold ins
    split
    · rfl
    · simp [ins_len f r]
theorem upd_len (l : Nm) (g : Fl → Fl) (fs : List Fl) : (upd l g fs).length = fs.length := by simp [upd]
theorem step_few (h : D.files.length ≤ D.steps) {t : List Fl → List Fl} (ht : (t D.files).length ≤ D.files.length + 1) : (dStep D t).2.files.length ≤ (dStep D t).2.steps := by
  unfold dStep
  split
  · exact h
  · show (t D.files).length ≤ D.steps + 1
    omega
theorem step_byt (h : FBs D) {t : List Fl → List Fl} (ht : ∀ f ∈ t D.files, Byt f.bs) : FBs (dStep D t).2 := by
  unfold dStep
  split
  · exact h
  · exact ht
theorem upd_byt {fs : List Fl} (h : ∀ f ∈ fs, Byt f.bs) (l : Nm) {g : Fl → Fl} (hg : ∀ f, Byt f.bs → Byt (g f).bs) : ∀ f ∈ upd l g fs, Byt f.bs := by
  intro f hf
  obtain ⟨a, ha, e | e⟩ := mem_upd hf
  · rw [e]
    exact hg a (h a ha)
  · rw [e]
    exact h a ha
theorem make_inv (h : Inv D) (n : Nm) : Inv (dMake D n).2 := by
  refine ⟨okd_make h.ok n, ?_, ?_⟩
  all_goals
    unfold dMake
    split
    · first | exact h.few | exact h.byt
    · split
      · first | exact h.few | exact h.byt
      · first
          | exact step_few h.few (by rw [ins_len]; exact Nat.le_refl _)
          | (refine step_byt h.byt fun f hf => ?_
             rcases mem_ins.1 hf with rfl | hf
             · intro z hz
               cases hz
             · exact h.byt f hf)
theorem sync_inv (h : Inv D) (n : Nm) : Inv (dSync D n).2 := by
  refine ⟨okd_sync h.ok n, ?_, ?_⟩
  all_goals
    unfold dSync
    split
    · first | exact h.few | exact h.byt
    · split
      · first | exact h.few | exact h.byt
      · first
          | exact step_few h.few (by rw [upd_len]; exact Nat.le_succ _)
          | exact step_byt h.byt (upd_byt h.byt _ fun _ h => h)
theorem puts_few (l : Nm) : ∀ (qs : List (List Int)) (D : Dsk), D.files.length ≤ D.steps → (puts l D qs).2.files.length ≤ (puts l D qs).2.steps
  | [], D, h => h
  | p :: qs, D, h => by
    unfold puts
    split
    · exact h
    · refine puts_few l qs _ ?_
      show (put1 l p D.files).length ≤ D.steps + 1
      unfold put1
      rw [upd_len]
      omega
theorem puts_byt (l : Nm) : ∀ (qs : List (List Int)) (D : Dsk), FBs D → (∀ q ∈ qs, Byt q) → FBs (puts l D qs).2
  | [], D, h, _ => h
  | p :: qs, D, h, hq => by
    unfold puts
    split
    · exact h
    · refine puts_byt l qs _ ?_ fun q hqq => hq q (by simp [hqq])
      exact upd_byt h _ fun f hf => hf.append (hq p (by simp))
theorem append_inv (h : Inv D) (n : Nm) (hb : Byt b) : Inv (dAppend D n b).2 := by
  refine ⟨okd_append h.ok n b, ?_, ?_⟩
  all_goals
    unfold dAppend
    split
    · first | exact h.few | exact h.byt
    · split
      · first | exact h.few | exact h.byt
      · split
        · first | exact h.few | exact h.byt
        · first
            | exact puts_few n _ D h.few
            | (refine puts_byt n _ D h.byt fun q hq => ?_
               unfold parts at hq
               obtain ⟨i, _, rfl⟩ := List.mem_map.1 hq
               exact (hb.drop _).take _)
theorem syncLast_inv (h : Inv D) : Inv (jSyncLast l D J).2.1 := by
  unfold jSyncLast
  split
  · exact h
  · exact sync_inv h _
theorem extend_inv (h : Inv D) : Inv (jExtend l D J).2.1 := by
  unfold jExtend
  split
  · exact h
  · split
    · exact h
    · split
      · unfold jNew
        split
        · exact make_inv (syncLast_inv h) _
        · exact make_inv (syncLast_inv h) _
      · exact syncLast_inv h
theorem jAppend_inv (h : Inv D) (hb : Goodr b) : Inv (jAppend l D J b).2.2.1 := by
  unfold jAppend
  split
  · exact h
  · split
    · exact h
    · split
      · unfold jPut
        split
        · exact append_inv (extend_inv h) _ (fby_byt (fok_rc hb))
        · exact append_inv (extend_inv h) _ (fby_byt (fok_rc hb))
      · exact extend_inv h
theorem jSync_inv (h : Inv D) : Inv (jSync l D J).2.1 := by
  unfold jSync
  split
  · exact h
  · exact syncLast_inv h
theorem jAppend_steps (h : Okd D) (J : Jn) (b : List Int) : (jAppend l D J b).2.2.1.steps ≤ D.steps + 3 + (b.length + 12) := by
  unfold jAppend
  split
  · show D.steps ≤ _; omega
  · split
    · show D.steps ≤ _; omega
    · obtain ⟨h1, h2⟩ := extend_ok (l := l) (J := J) h
      split
      · unfold jPut
        have h3 := (steps_append (jExtend l D J).2.1 (segN l (jExtend l D J).2.2.last.num) (fby (rcF b))).1
        rw [fby_length] at h3
        have h4 : (rcF b).body.length = b.length := rfl
        rw [h4] at h3
        split
        · show (dAppend _ _ _).2.steps ≤ _; omega
        · show (dAppend _ _ _).2.steps ≤ _; omega
      · show (jExtend l D J).2.1.steps ≤ _; omega
theorem jSync_steps (h : Okd D) (J : Jn) : (jSync l D J).2.1.steps ≤ D.steps + 1 := by
  unfold jSync
  split
  · show D.steps ≤ _; omega
  · exact (syncLast_ok h).2.1
theorem fallen_inv (h : Inv D) {ks : List Int} (hn : ks.any (fun k => decide (k < 0)) = false) : Inv (fallen D ks) := by
  refine ⟨fallen_okd h.ok hn, ?_, ?_⟩
  · show (crs D.files ks).length ≤ D.steps
    have := h.few
    simpa [crs] using this
  · intro f hf
    have hf' : f ∈ crs D.files ks := hf
    obtain ⟨i, hi, rfl⟩ := List.mem_iff_getElem.1 hf'
    simp only [crs, List.getElem_mapIdx]
    exact (h.byt _ (List.getElem_mem (by simpa [crs] using hi))).take _
theorem new_inv (r : Nat) (hr : r ≤ 1073741824) : Inv (dNew r) := ⟨okd_new r hr, Nat.le_refl _, fun f hf => by cases hf⟩
theorem fuse_inv (h : Inv D) {n : Int} (hn : n ≤ 9223372036854775807) : Inv (dFuse D n).2 := by
  refine ⟨okd_fuse h.ok hn, ?_, ?_⟩
  all_goals
    unfold dFuse
    split
    · first | exact h.few | exact h.byt
    · split
      · first | exact h.few | exact h.byt
      · first | exact h.few | exact h.byt

/-! ## a journal fits -/
theorem le_sum5 : ∀ {l : List Nat} {x : Nat}, x ∈ l → x ≤ l.sum
  | y :: l, x, h => by
    rw [List.sum_cons]
    rcases List.mem_cons.1 h with rfl | h
    · omega
    · have := le_sum5 h
      omega
theorem rise_len : ∀ (l : List Nat) (a M : Nat), l.Pairwise (· < ·) → (∀ x ∈ l, a ≤ x ∧ x ≤ M) → l.length ≤ M + 1 - a
  | [], a, M, _, _ => Nat.zero_le _
  | x :: r, a, M, h, hx => by
    obtain ⟨h1, h2⟩ := List.pairwise_cons.1 h
    have := rise_len r (x + 1) M h2 (fun y hy => ⟨h1 y hy, (hx y (by simp [hy])).2⟩)
    have h3 := hx x (by simp)
    rw [List.length_cons]
    omega
theorem Lies.fits (h : Lies l D a ps s (rsz s.recs) m) (hs : Srt D.files) (hc : a + cnt (ps ++ [s]) ≤ 1073741820) : Fits (jnA a (ps ++ [s])) := by
  have hr := h.rise hs
  have hn := h.num
  have hcs := cnt_snoc ps s
  have hmem : ∀ x ∈ ps ++ [s], x.num ≤ s.num := fun x hx => by
    rcases List.mem_append.1 hx with hx | hx
    · exact Nat.le_of_lt (h.below hs x hx)
    · obtain rfl := List.mem_singleton.1 hx
      exact Nat.le_refl _
  have hcm : ∀ x ∈ ps ++ [s], x.recs.length ≤ cnt (ps ++ [s]) := fun x hx => by
    unfold cnt
    exact le_sum5 (List.mem_map_of_mem hx)
  refine ⟨by show a + cnt _ ≤ _; omega, ?_, fun x hx => h.le x hx, fun x hx => by have := hcm x hx; omega, fun x hx => ?_⟩
  · have := rise_len _ 0 s.num hr (fun y hy => by
      obtain ⟨x, hx, rfl⟩ := List.mem_map.1 hy
      exact ⟨Nat.zero_le _, hmem x hx⟩)
    rw [List.length_map] at this
    show (ps ++ [s]).length ≤ _
    omega
  · have h1 : x.size ≤ x.recs.length * 65548 := by
      unfold Sg.size
      have hg := h.good x hx
      generalize x.recs = rs at hg
      induction rs with
      | nil => exact Nat.le_refl _
      | cons r rs ih =>
        have h2 := (hg r (by simp)).2
        have h3 := ih (fun y hy => hg y (by simp [hy]))
        unfold rsz at h3 ⊢
        rw [List.map_cons, List.sum_cons, List.length_cons, Nat.succ_mul]
        omega
    have h2 := hcm x hx
    have h3 : x.recs.length * 65548 ≤ 1073741820 * 65548 := Nat.mul_le_mul_right _ (by omega)
    omega
theorem bare_fits : Fits (jnOf []) := ⟨by decide, by decide, (fun x hx => by cases hx), (fun x hx => by cases hx), (fun x hx => by cases hx)⟩
theorem goOver_mem (look : Nat → List Int) : ∀ (ns : List Nat) (nx : Option Nat), ∀ x ∈ goOver look nx ns, x.num ∈ ns ∧ x.recs = recsOf (look x.num)
  | [], nx, x, hx => by simp [goOver] at hx
  | n :: r, nx, x, hx => by
    rw [goOver] at hx
    split at hx
    · cases hx
    · split at hx
      · rcases List.mem_cons.1 hx with rfl | hx
        · exact ⟨by simp, rfl⟩
        · obtain ⟨h1, h2⟩ := goOver_mem look r _ x hx
          exact ⟨by simp [h1], h2⟩
      · obtain rfl := List.mem_singleton.1 hx
        exact ⟨by simp, rfl⟩
theorem opened_fits (h : Inv D) (hst : D.steps ≤ 1048576) : Fits (opened l D) ∧ ∀ x ∈ (opened l D).segs, ∀ r ∈ x.recs, r.length ≤ 1073741824 := by
  have hD1 : Okd (rid l D).2 := (rid_ok h.ok).1
  have hmem : ∀ x ∈ (opened l D).segs, x.num ≤ maxNo ∧ rsz x.recs ≤ 1073741824 := fun x hx => by
    obtain ⟨h1, h2⟩ := goOver_mem _ _ _ x hx
    refine ⟨(nos_mem.1 h1).1, ?_⟩
    rw [h2]
    exact Nat.le_trans (recsOf_fits _) (look_len hD1 l x.num)
  have hrc : ∀ x ∈ (opened l D).segs, x.recs.length ≤ 1073741824 := fun x hx => Nat.le_trans (rsz_count _) (hmem x hx).2
  have hlen : (opened l D).segs.length ≤ 1048576 := by
    have h1 : (opened l D).segs.length ≤ (jnums l D).length := goOver_len _ _ _
    have h2 : (jnums l D).length ≤ (names D).length := List.length_filterMap_le _ _
    have h3 : (names D).length = D.files.length := by simp [names]
    have := h.few
    omega
  refine ⟨⟨?_, by omega, fun x hx => (hmem x hx).1, hrc, fun x hx => Nat.le_trans (hmem x hx).2 (by decide)⟩, fun x hx r hr => ?_⟩
  · show nextOf (opened l D).segs ≤ _
    unfold nextOf
    split
    · decide
    · rename_i hne
      have hlast : lastOf (opened l D).segs ∈ (opened l D).segs := by
        unfold lastOf
        rw [List.getLastD_eq_getLast?, List.getLast?_eq_some_getLast hne]
        exact List.getLast_mem hne
      have h1 := (hmem _ hlast).1
      have h2 := hrc _ hlast
      unfold maxNo at h1
      omega
  · have h1 := (hmem x hx).2
    have h2 : r.length + 12 ≤ rsz x.recs := by
      unfold rsz
      exact le_sum5 (List.mem_map_of_mem (f := fun r => r.length + 12) hr)
    omega
end
end Go.Proofs.YtbobakfcmkaijaaGreatDoor
end
