/- A name is set for the first time. -/
import Derived.Test.YtconfkjchjcjgaaKSet
namespace Go.Proofs.Ytconfkjchjcjgaa
open Go.RowKit Go.Maps Go.WideMaps
set_option linter.unusedVariables false

theorem keyLit (l : List UInt8) : WideAt.IsKeyLit (.string l) := by
  first | exact trivial | simp [WideAt.IsKeyLit] | exact ⟨⟩
section
variable {w w' : World} {S T : Nat → Prop} {b mb nn : Nat} {M : DataW Unit} {v : Value} {now : Int} {f : Nat → En} {n q : Nat} {L : List It}
theorem Keys.add (h : Keys M f n) (hM : IsMap M) (e : En) (hno : ∀ k, k < n → (f k).nm ≠ e.nm) : Keys (M.put (.string (lst e.nm)) (.lit (.int .i64 e.blk))) (fun k => if k = n then e else f k) (n + 1) := by
  refine ⟨fun k hk z => ?_, fun l z hl => ?_⟩
  · by_cases q : k = n
    · simp only [q, if_true]
      exact atKey_put_same hM (keyLit _) _ _
    · simp only [q, if_false]
      rw [atKey_put_other (str_ne fun x => hno k (by omega) (lst_inj x))]
      exact h.at_ k (by omega) z
  · have hle : l ≠ lst e.nm := fun x => by
      have := hl n (by omega)
      simp only [if_true] at this
      exact this x.symm
    rw [atKey_put_other (str_ne hle)]
    refine h.no l z fun k hk => ?_
    have := hl k (by omega)
    simpa [show k ≠ n by omega] using this
/-- the places of a watch, behind a call -/
def More (S : Nat → Prop) (w w' : World) (k : Nat) : Prop := S k ∨ (w.heap.size ≤ k ∧ k < w'.heap.size)

set_option maxHeartbeats 4000000 in
set_option maxRecDepth 100000 in
theorem setNew_any (h : Wt w S b now L q) {s : ByteArray} (hs : s.size ≤ maxLen) (hsl : s.size ≤ 281474976710656) (hs0 : s.toList.isEmpty = false) (hg : getL L s = none) (hnow : 0 ≤ now ∧ now ≤ 4611686018427387904) {t : Int} (ht : 1 ≤ t ∧ t ≤ 1073741824) (hq : q < 1000000) :
    Calls Try.prog 14 #[.pointer (some ⟨b, 0, none⟩), .string s, .int .i64 t] w fun e w' => e = .returned (.int .i64 0) ∧ Wt w' (More S w w') b now (setL L ⟨s, now + t⟩) (q + 1) ∧ Outs S w w' := by
  obtain ⟨mb, nn, M, v, f, n, h, h1, h2, h3⟩ := h
  have c1 := h.c1
  have c3 := h.c3
  have cn := Lib.hid (nobodys_any b w h.c0)
  have hl := look_none h hs hg
  have t1 : decide (t < 1) = false := decide_eq_false (by omega)
  have t2 : decide (1073741824 < t) = false := decide_eq_false (by omega)
  have ccl := Lib.hid (Try.stringslite_Clone s w hsl)
  have H := Lib.hid h
  clear h
  go_enter Try.func14, Try.ntmps14
  go_wp2_with (go_at_call 37; refine cn.out.mono ?_; rintro e w' ⟨rfl, rfl⟩)
  have cc2 : Calls Try.prog 39 #[.string s] w fun e w' => e = .returned (.string s) ∧ Below w.heap.size w w' := by
    go_enter Try.func39, Try.ntmps39
    go_wp2_with (go_at_call 49; refine ccl.out.mono ?_; rintro e w' ⟨rfl, hb⟩)
    go_ret
    exact ⟨rfl, hb⟩
  go_at_call 39
  refine cc2.mono ?_
  rintro e w1 ⟨rfl, hb1⟩
  have hx1 := Whole.new w1 73 #[.string s, .int .i64 (now + t), .int .i64 0]
  have hbx : Below w.heap.size w (w1.alloc (.cells #[.string s, .int .i64 (now + t), .int .i64 0] 73)) := hb1.alloc hb1.size _
  have hsz2 : (w1.alloc (.cells #[.string s, .int .i64 (now + t), .int .i64 0] 73)).heap.size = w1.heap.size + 1 := by simp
  have HB1 := Lib.hid hb1
  have HX1 := Lib.hid hx1
  have HBX := Lib.hid hbx
  have HZ2 := Lib.hid hsz2
  clear c1 c3 hl hb1 hx1 hbx hsz2 cc2
  go_upto_region 12 with fail
  generalize hw2 : w1.alloc (.cells #[.string s, .int .i64 (now + t), .int .i64 0] 73) = w2 at *
  generalize heb : w1.heap.size = eb at *
  have HEB := Lib.hid heb
  clear hw2 heb
  have hd : Below w2.heap.size w2 w2.drew := bDrewN (Below.refl _ _) 1
  have hwd : Below w.heap.size w w2.drew := HBX.out.trans (hd.mono HBX.out.size)
  have h2' := H.out.go hwd
  have c3 : w2.cell? ⟨b, 3, none⟩ = some (.map (some mb)) := (H.out.go HBX.out).c3
  have e0 : w2.cell? ⟨eb, 0, none⟩ = some (.string s) := by simpa using HX1.out.cell 0
  have hx2 : Whole w2.drew eb 73 #[.string s, .int .i64 (now + t), .int .i64 0] := HX1.out
  obtain ⟨w3, hrun, hM, hg3⟩ := h2'.map.update lawS Try.underlying56 (by unfold maxLen; omega) (keyS s hs) (val := .pointer (some ⟨eb, 0, none⟩)) (d := .lit (.int .i64 eb)) (ps := []) rfl
  have HM := Lib.hid hM
  have HG3 := Lib.hid hg3
  have H2 := Lib.hid h2'
  have HX2 := Lib.hid hx2
  have HWD := Lib.hid hwd
  clear hM hg3 h2' hx2 hwd hd
  go_still_tail 9, (by kernel_rfl)
  change wpList _ _ _ _ _ w2.drew
  clear c3 e0
  go_upto_region 13 with fail
  have h := H2.out
  have hne : ∀ k, k < n → (f k).blk ≠ eb := fun k hk e => by
    have := H.out.lt _ (H.out.se k hk)
    have := HB1.out.size
    have := HEB.out
    omega
  have hbeb : b ≠ eb := fun e => by
    have := H.out.lt _ H.out.sb
    have := HB1.out.size
    have := HEB.out
    omega
  have hmeb : mb ≠ eb := fun e => by
    have := H.out.lt _ H.out.sm
    have := HB1.out.size
    have := HEB.out
    omega
  have hog : Outs (fun k => k = mb) w2.drew w3 := (Outs.refl (fun k => k = mb) _).grown HG3.out (fun k hk => by cases hk; exact .inl rfl)
  have hn3 : Hn w3 b mb now v f n := h.hn.outs hog (fun e => Whole.ne_map h.hn.top h.map e) (fun k hk e => ownRow_ne_map h.hn.row hk h.map e) (fun k hk e => Whole.ne_map (h.hn.ends k hk) h.map e)
  have hx3 : Whole w3 eb 73 #[.string s, .int .i64 (now + t), .int .i64 0] := HX2.out.outs hog (fun e => hmeb e.symm)
  have cp := push_any hn3 h.hp (by omega) ⟨s, now + t, eb⟩ 0 hx3 hne
  unfold hV pE at cp
  have CP := Lib.hid cp
  have HOG := Lib.hid hog
  have HX3 := Lib.hid hx3
  have HNE := Lib.hid hne
  clear h hog hn3 hx3 cp hne hrun
  go_wp2_with fail
  go_at_call 40
  refine CP.out.mono ?_
  rintro e w4 ⟨rfl, v', f2, hn4, hp4, hr4, ho4, hv4⟩
  have HN4 := Lib.hid hn4
  have HP4 := Lib.hid hp4
  have HR4 := Lib.hid hr4
  have HO4 := Lib.hid ho4
  have HV4 := Lib.hid hv4
  clear hn4 hp4 hr4 ho4 hv4 CP
  go_wp2
  go_ret
  have h := H.out
  have hno : ∀ k, k < n → (f k).nm ≠ s := fun k hk e => getL_none hg _ (h.like.to k hk) e
  have hnoL : ∀ y ∈ L, y.nm ≠ s := getL_none hg
  have hset : setL L ⟨s, now + t⟩ = ins ⟨s, now + t⟩ L := by
    unfold setL
    rw [rmv_none hnoL]
  have hsz3 : w.heap.size ≤ w3.heap.size := Nat.le_trans HWD.out.size HOG.out.size
  have heb3 : w.heap.size ≤ eb := by rw [← HEB.out]; exact HB1.out.size
  have hoS : Outs S w w3 := (Outs.of HWD.out).same (HOG.out.mono fun k e => by rw [e]; exact h.sm)
  have hoT : Outs S w w4 := hoS.trans HO4.out fun k hk => by
    rcases hk with e | e | e | ⟨j, hj, e⟩
    · rw [e]; exact .inl h.sb
    · rw [e]; exact .inr heb3
    · exact .inl (h.sv k e)
    · rw [e]; exact .inl (h.se j hj)
  have hmap4 : w4.ownsMap Try.prog 9 ptrR mb (nn + 1) (M.put (.string (lst s)) (.lit (.int .i64 eb))) := ownsMap_block_kept HM.out (HO4.out.block mb HM.out.lt fun hk => by
    rcases hk with e | e | e | ⟨j, hj, e⟩
    · exact Whole.ne_map h.hn.top h.map e.symm
    · exact hmeb e
    · exact ownRow_ne_map h.hn.row e h.map rfl
    · exact Whole.ne_map (h.hn.ends j hj) h.map e.symm)
  have hsz4 := HO4.out.size
  refine ⟨rfl, ⟨mb, nn + 1, _, v', f2, n + 1, { hn := HN4.out, hp := HP4.out, map := hmap4, keys := (h.keys.add h.map.isMap ⟨s, now + t, eb⟩ hno).rea HR4.out, like := ?_, nms := ?_, srt := srt_set h.srt _, nod := nod_set h.nod _, size := ?_, ats := ?_, sb := .inl h.sb, sm := .inl h.sm, sv := ?_, se := ?_, lt := ?_ }, by omega, by omega, by rw [hset, ins_length]; omega⟩, hoT⟩
  · rw [hset]
    exact (h.like.add ⟨s, now + t, eb⟩).rea HR4.out
  · refine nms_rea HR4.out (fun a c ha hc e => ?_) (fun a c ha hc e => ?_)
    · by_cases q1 : a = n <;> by_cases q2 : c = n
      · omega
      · simp only [q1, q2, if_true, if_false] at e
        exact absurd (congrArg En.nm e).symm (hno c (by omega))
      · simp only [q1, q2, if_true, if_false] at e
        exact absurd (congrArg En.nm e) (hno a (by omega))
      · simp only [q1, q2, if_false] at e
        exact h.hn.inj a c (by omega) (by omega) e
    · by_cases q1 : a = n <;> by_cases q2 : c = n
      · omega
      · simp only [q1, q2, if_true, if_false] at e
        exact absurd e.symm (hno c (by omega))
      · simp only [q1, q2, if_true, if_false] at e
        exact absurd e (hno a (by omega))
      · simp only [q1, q2, if_false] at e
        exact h.nms a c (by omega) (by omega) e
  · intro y hy
    rcases mem_set.1 hy with rfl | ⟨hy, _⟩
    · exact hs
    · exact h.size y hy
  · intro y hy
    rcases mem_set.1 hy with rfl | ⟨hy, _⟩
    · exact ⟨by show 0 ≤ now + t; omega, by show now + t ≤ now + 1073741824; omega⟩
    · exact h.ats y hy
  · intro g hg'
    have hlt := (ownRow_block HN4.out.row hg').2.1
    rcases HV4.out g hg' with e | e
    · exact .inl (h.sv g e)
    · exact .inr ⟨by omega, hlt⟩
  · intro j hj
    have hlt := (HN4.out.ends j hj).lt
    obtain ⟨a, ha, e⟩ := HR4.out.to j hj
    by_cases q1 : a = n
    · simp only [q1, if_true] at e
      exact .inr ⟨by rw [e]; exact heb3, hlt⟩
    · simp only [q1, if_false] at e
      exact .inl (by rw [e]; exact h.se a (by omega))
  · intro i hi
    rcases hi with hi | hi
    · exact Nat.lt_of_lt_of_le (h.lt i hi) (by omega)
    · exact hi.2
end
end Go.Proofs.Ytconfkjchjcjgaa
