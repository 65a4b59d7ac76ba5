/- Several texts, each a section: JGo. -/
import Derived.Test.YtbobakfcmkaijaaGreatDoorM14
import Derived.Test.YtbobakfcmkaijaaGreatDoorM07
import Derived.WalkMore
section
/- The program's way over a journal's segments. -/
namespace Go.Proofs.YtbobakfcmkaijaaGreatDoor
open Go.RowKit
set_option linter.unusedVariables false

section
variable {w w' w2 wr : World} {S T S' T' S2 T2 Tk : Nat → Prop} {j d : Nat} {s : ByteArray} {D D' : Dsk} {J J' : Jn}

def lookD (l : Nm) (D : Dsk) (n : Nat) : List Int := byts D (segN l n)
/-- what stands ahead of a number -/
structure GoAt (w0 wr : World) (S T Tk : Nat → Prop) (j d : Nat) (s : ByteArray) (D : Dsk) (ss : List Sg) (A : Option Addr) (n cn : Nat) (ns : List Nat) (vb : Value) (bs : List Int) : Prop where
  jd : JD wr S Tk j d s D (jnOf ss)
  turn : TurnJ S T S Tk w0 wr
  num : wr.ownsRow 0 31 1 (.slice A n cn) n (cU ns)
  byt : wr.ownsRow 0 5 1 vb bs.length (c8 bs)
  far : ∀ g, vb.ownBlock = some g → ¬ S g ∧ ¬ Tk g
theorem look_len (h : Okd D) (l : Nm) (n : Nat) : (lookD l D n).length ≤ 1073741824 := by
  unfold lookD byts
  cases hf : find D.files (segN l n) with
  | none => simp
  | some f => exact len30 h _ f hf
theorem go_fits {look : Nat → List Int} {ns : List Nat} {k nx : Nat} {ss : List Sg} (h : GoIn look ns k nx ss) (hm : ∀ m ∈ ns, m ≤ maxNo) (hl : ∀ m, (look m).length ≤ 1073741824) (hk : k ≤ 1073741824) : Fits (jnOf ss) := by
  have hsz : ∀ x ∈ ss, x.size ≤ 1073741824 := fun x hx => by
    obtain ⟨_, _, h3⟩ := h.mem x hx
    unfold Sg.size
    have := hl x.num
    omega
  have hrc : ∀ x ∈ ss, x.recs.length ≤ 1073741824 := fun x hx => Nat.le_trans (rsz_count _) (hsz x hx)
  refine ⟨?_, by show ss.length ≤ _; rw [h.len]; exact hk, fun x hx => hm _ (h.mem x hx).1, hrc, fun x hx => Nat.le_trans (hsz x hx) (by decide)⟩
  show nextOf ss ≤ _
  unfold nextOf
  split
  · decide
  · rename_i hne
    have hlast : lastOf ss ∈ ss := by
      unfold lastOf
      rw [List.getLastD_eq_getLast?, List.getLast?_eq_some_getLast hne]
      exact List.getLast_mem hne
    have h1 := hm _ (h.mem _ hlast).1
    have h2 := hrc _ hlast
    unfold maxNo at h1
    omega
theorem read_found (hoff : D.off = false) {l : Nm} (hl : okN l = true) {f : Fl} (hf : find D.files l = some f) : dRead D l = (byts D l, 0) := by
  unfold dRead byts
  have ha : ask D [l] = 0 := by simp [ask, hoff, hl]
  rw [if_neg (by simp [ha]), hf]
theorem jnOf_last (p : List Sg) (x : Sg) : (jnOf (p ++ [x])).last = x := lastOf_snoc p x
theorem ab_drew {a : Addr} {v : Value} {B : Nat} (h : w'.cell? a = some v ∧ Below B w w') : w'.drew.cell? a = some v ∧ Below B w w'.drew := ⟨h.1, h.2.drew⟩
theorem ab_below {a : Addr} {v : Value} {B : Nat} (h : w'.cell? a = some v ∧ Below B w w') (hB : B ≤ w.heap.size) (hb : Below w'.heap.size w' w2) : w2.cell? a = some v ∧ Below B w w2 := by
  have hlt := World.block_lt_of_cell? w' _ h.1
  exact ⟨by rw [hb.cell hlt]; exact h.1, h.2.trans (hb.mono (Nat.le_trans hB h.2.size))⟩

/-- within a segment: q of its frames are noted -/
structure InAt (w7 w8 wq : World) (S T7 Tq : Nat → Prop) (j d : Nat) (s : ByteArray) (D : Dsk) (ss : List Sg) (m : Nat) (fs : List Fr) (q : Nat) : Prop where
  jd : JD wq S Tq j d s D ⟨false, m + q, ss ++ [⟨m, (fs.take q).map (·.body)⟩]⟩
  turn : TurnJ S T7 S Tq w7 wq
  still : Still w8 wq
  kind : ∀ k (h : k < q) (h2 : k < fs.length), fs[k].k = 1
theorem in_fits {ss : List Sg} {m q : Nat} {fs : List Fr} (h : Fits (jnOf ss)) (hs : ss.length + 1 ≤ 1073741824) (hm : m ≤ maxNo) (hf : fsz fs ≤ 1073741824) (hq : q ≤ fs.length) : Fits ⟨false, m + q, ss ++ [⟨m, (fs.take q).map (·.body)⟩]⟩ := by
  have hsz : rsz ((fs.take q).map (·.body)) ≤ 1073741824 := by
    rw [fsz_rsz]
    have : fsz fs = fsz (fs.take q) + fsz (fs.drop q) := by rw [← fsz_append, List.take_append_drop]
    omega
  have hql : ((fs.take q).map (·.body)).length ≤ 1073741824 := Nat.le_trans (rsz_count _) hsz
  have hql2 : q ≤ 1073741824 := by
    rw [List.length_map, List.length_take] at hql
    omega
  refine ⟨by unfold maxNo at hm; show m + q ≤ _; omega, by show (ss ++ [_]).length ≤ _; simp; omega, ?_, ?_, ?_⟩
  all_goals
    intro x hx
    rcases List.mem_append.1 hx with hx | hx
  · exact h.nums x hx
  · obtain rfl := List.mem_singleton.1 hx
    exact hm
  · exact h.recs x hx
  · obtain rfl := List.mem_singleton.1 hx
    exact hql
  · exact h.size x hx
  · obtain rfl := List.mem_singleton.1 hx
    exact Nat.le_trans hsz (by decide)
theorem InAt.start {w7 w8 : World} {T7 : Nat → Prop} {ss : List Sg} {m : Nat} {fs : List Fr} (h : JD w7 S T7 j d s D (jBegin (jnOf ss) m)) (hb : Below w7.heap.size w7 w8) : InAt w7 w8 w8 S T7 T7 j d s D ss m fs 0 :=
  ⟨h.go hb, TurnJ.below hb, fun e _ _ _ => StayB.refl e w8, fun k hk => absurd hk (Nat.not_lt_zero _)⟩
theorem InAt.go {w7 w8 wq : World} {T7 Tq : Nat → Prop} {ss : List Sg} {m q : Nat} {fs : List Fr} (h : InAt w7 w8 wq S T7 Tq j d s D ss m fs q) (hb : Below wq.heap.size wq w') : InAt w7 w8 w' S T7 Tq j d s D ss m fs q :=
  ⟨h.jd.go hb, h.turn.trans (TurnJ.below hb), h.still.trans (Still.below hb), h.kind⟩
theorem InAt.next {w7 w8 wq : World} {T7 Tq Tn : Nat → Prop} {ss : List Sg} {m q : Nat} {fs : List Fr} {x : RcM} (h : InAt w7 w8 wq S T7 Tq j d s D ss m fs q) (hq : q < fs.length) (hk : fs[q].k = 1) (hx : x.r = fs[q].body) (hxb : ∀ g, x.v.ownBlock = some g → w7.heap.size ≤ g)
    (hjd : JD w' S Tn j d s D (jNote ⟨false, m + q, ss ++ [⟨m, (fs.take q).map (·.body)⟩]⟩ x.r)) (ho : Outs Tq wq w') (hn : ∀ k, Tn k → Tq k ∨ wq.heap.size ≤ k ∨ x.v.ownBlock = some k) (hst : Still wq w') : InAt w7 w8 w' S T7 Tn j d s D ss m fs (q + 1) := by
  have hsz := h.turn.outs.size
  refine ⟨?_, ⟨h.turn.outs.trans (ho.mono fun k hk => (.inr hk : S k ∨ Tq k)) ?_, fun k hk => .inl hk, ?_⟩, h.still.trans hst, ?_⟩
  · have e : jNote ⟨false, m + q, ss ++ [⟨m, (fs.take q).map (·.body)⟩]⟩ x.r = ⟨false, m + (q + 1), ss ++ [⟨m, (fs.take (q + 1)).map (·.body)⟩]⟩ := by
      unfold jNote
      rw [addRec_snoc, List.take_add_one, List.getElem?_eq_getElem hq, hx, Option.toList_some, List.map_append, Nat.add_assoc]
      rfl
    rw [← e]
    exact hjd
  · rintro k (hk | hk)
    · exact .inl (.inl hk)
    · rcases h.turn.nt k hk with e | e
      · exact .inl (.inr e)
      · exact .inr e
  · intro k hk
    rcases hn k hk with e | e | e
    · exact h.turn.nt k e
    · exact .inr (by omega)
    · exact .inr (hxb k e)
  · intro k hk2 hk3
    rcases Nat.lt_succ_iff_lt_or_eq.1 hk2 with e | e
    · exact h.kind k e hk3
    · subst e
      exact hk

set_option maxHeartbeats 6400000 in
set_option maxRecDepth 20000 in
theorem goOver_any (A : Option Addr) (n cn : Nat) (ns : List Nat) (w : World) (h : JD w S T j d s D (jnOf [])) (hn : ns.length = n) (hn30 : n ≤ 1073741824) (hnum : w.ownsRow 0 31 1 (.slice A n cn) n (cU ns))
    (hok : Okd D) (hoff : D.off = false) (hst : D.steps ≤ 549755813888) (hfile : ∀ m ∈ ns, m ≤ maxNo ∧ ∃ f, find D.files (segN s.data.toList m) = some f) (hbyt : ∀ f ∈ D.files, Byt f.bs) :
    Calls Tryz.prog 131 #[.pointer (some ⟨j, 0, none⟩), .slice A n cn] w fun e w' => e = .returned (.int .i64 (cutD s.data.toList D (found s.data.toList D ns)).1) ∧
      ∃ S' T', JD w' S' T' j d s (cutD s.data.toList D (found s.data.toList D ns)).2 (jEnd (jnOf (found s.data.toList D ns)) (cutD s.data.toList D (found s.data.toList D ns)).1) ∧ TurnJ S T S' T' w w' := by
  have hF : found s.data.toList D ns = goOver (lookD s.data.toList D) none ns := rfl
  rw [hF]
  have HH := Lib.hid h
  have HNU := Lib.hid hnum
  have HN := Lib.hid hn
  have HFI := Lib.hid hfile
  have HBY := Lib.hid hbyt
  have HLL := Lib.hid (look_len hok s.data.toList)
  clear h hnum hn hfile hbyt hF
  go_enter Tryz.func131, Tryz.ntmps131
  go_wp2
  go_step3
  go_wp2
  go_step3
  go_wp2
  go_loopw [16, 5] (fun i v wr => ∃ (k : Nat) (ss : List Sg) (Tk : Nat → Prop) (bs : List Int), k ≤ n ∧ i = .int .i64 k ∧ GoIn (lookD s.data.toList D) ns k (nextOf ss) ss ∧ GoAt w wr S T Tk j d s D ss A n cn ns v bs ∧ (k = 0 → bs = []) ∧ (k ≠ 0 → bs.length = (lastOf ss).size)) (fun i _ _ => n - (intOf i).toNat)
  case atStart =>
    refine ⟨0, [], T, [], Nat.zero_le _, rfl, GoIn.start _ _ _, ⟨HH.out, TurnJ.refl _ _ _, HNU.out, World.ownsRow_nil w _ _ 1, fun g hg => by cases hg⟩, fun _ => rfl, fun h => absurd rfl h⟩
  case round =>
    obtain ⟨k, ss, Tk, bs, hk, rfl, hin, hat, hb0, hb1⟩ := hrel
    obtain ⟨Ab, cb, rfl⟩ := row_any hat.byt
    generalize hLb : bs.length = Lb at *
    have HLb := Lib.hid hLb
    clear hLb
    have HAT := Lib.hid hat
    have HIN := Lib.hid hin
    have HB := Lib.hid (And.intro hb0 hb1)
    clear hb0 hb1
    by_cases hlt : k < n
    · have hkl : k < ns.length := by have := HN.out; omega
      have hn0 : 0 < n := by omega
      obtain ⟨gn, cn2, hAe, hgn, _, _⟩ := row_block hat.num hn0
      have hA2 : A = some ⟨gn, 0, none⟩ ∧ cn = cn2 := by
        injection hAe with e1 e2 e3
        exact ⟨e1, e3⟩
      obtain ⟨rfl, rfl⟩ := hA2
      have hcell := (row_cell (i := k) hat.num hgn (cU_get hkl)).1
      have c4 := hat.jd.next
      have hmm := HFI.out _ (List.getElem_mem hkl)
      have hki : (k : Int) < n := by omega
      have hki2 : (k : Int) ≤ 1073741824 := by omega
      obtain ⟨m, hm⟩ : ∃ m, m = ns[k] := ⟨_, rfl⟩
      rw [← hm] at hcell hmm
      by_cases ho : k ≠ 0 ∧ m ≠ nextOf ss
      · have EF := Lib.hid (hin.other hkl ho.1 (by rw [← hm]; exact ho.2))
        have hk1 : (0 : Int) < k := by have := ho.1; omega
        have hk2 : ((m : Int) == (nextOf ss : Int)) = false := by have := ho.2; simp; omega
        have hk3 : ¬ (m : Int) = (nextOf ss : Int) := by have := ho.2; omega
        have c42 : wr.cell? ⟨j, 4, none⟩ = some (.int .u64 (nextOf ss)) := c4
        clear hat hin hAe hgn c4 ho hmm hm
        have E := Lib.hid (show cutD s.data.toList D ss = (0, D) by
          have hc : isCut s.data.toList D ss = false := by
            unfold isCut
            refine decide_eq_false fun hc => hc.2 ?_
            have hk0 : k ≠ 0 := fun e => by
              have := HIN.out.len
              rw [e] at this
              exact hc.1 (List.eq_nil_of_length_eq_zero this)
            have hlm : lastOf ss ∈ ss := by
              unfold lastOf
              rw [List.getLastD_eq_getLast?, List.getLast?_eq_some_getLast hc.1]
              exact List.getLast_mem hc.1
            exact (HIN.out.mem _ hlm).2.2
          unfold cutD
          rw [hc]
          rfl)
        have hat2 := HAT.out
        by_cases hL : Lb = 0
        · have hLi : (Lb : Int) = 0 := by omega
          clear hat2
          go_wp2
          (try rw [Exit.noGoto_ret])
          go_returns
          rw [EF.out, E.out]
          exact ⟨by simp, S, Tk, by simpa [jEnd] using HAT.out.jd, HAT.out.turn⟩
        · have hLi : ¬ (Lb : Int) = 0 := by omega
          have hk0 : k ≠ 0 := fun e => hL (by rw [← HLb.out, HB.out.1 e]; rfl)
          have hne : ss ≠ [] := fun e => by
            have := HIN.out.len
            rw [e] at this
            exact hk0 this.symm
          obtain ⟨vs, p, m, g, o, c, hj, hsg, hvs, ⟨hgv, hvo⟩, hlast, hpl, _, _⟩ := hat2.jd.jo.last hne
          have c5 : wr.cell? ⟨j, 5, none⟩ = some (.slice (some ⟨g, o, none⟩) (p.length + 1) c) := by rw [hj.c5, hvs]
          have hlastc := jlast_at wr c5 (by have h1 : p.length + 1 = ss.length := hpl; have := HIN.out.len; omega)
          have hms : m.sg = lastOf ss := hlast.symm
          have hc1 := (o_cell (i := p.length * 3 + 1) (a := o + p.length * 3 + 1) hj.row hgv (cG_at p m [] 1 (by decide)) (by omega)).1
          have hc1' : ∀ q, (wr.drewN q).cell? ⟨g, o + p.length * 3 + 1, none⟩ = some (.int .i64 (Lb : Nat)) := fun q => by
            show wr.cell? _ = _
            rw [hc1, HB.out.2 hk0, ← hms]
          clear hat2 hj hsg hvs hgv hvo hlast hms hc1 hpl hL
          go_wp2_with fail
          refine hlastc.mono ?_
          rintro e w4 ⟨rfl, q, rfl⟩
          have hc := hc1' q
          have hb4 : Below wr.heap.size wr (wr.drewN q) := bDrewN (Below.refl _ wr) q
          have H4 := Lib.hid (HAT.out.jd.go hb4)
          have HT4 := Lib.hid (HAT.out.turn.trans (TurnJ.below hb4))
          clear hlastc hc1' hb4
          generalize wr.drewN q = w4 at *
          go_wp2
          (try rw [Exit.noGoto_ret])
          go_returns
          rw [EF.out, E.out]
          exact ⟨by simp, S, Tk, by simpa [jEnd] using H4.out, HT4.out⟩
      · have hgo : k = 0 ∨ ns[k] = nextOf ss := by
          rw [← hm]
          by_cases h0 : k = 0
          · exact .inl h0
          · exact .inr (Decidable.byContradiction fun h => ho ⟨h0, h⟩)
        have HGO := Lib.hid hgo
        have HM := Lib.hid hm
        have hmi : m ∈ ns := by rw [hm]; exact List.getElem_mem hkl
        have hmx := hmm.1
        have c1 : wr.cell? ⟨j, 1, none⟩ = some (.pointer (some ⟨d, 0, none⟩)) := by
          obtain ⟨vs, ms, hj, _⟩ := hat.jd.jo
          exact hj.c1
        rw [← hm] at hgo
        by_cases h0 : k = 0
        · have hk1 : ¬ (0 : Int) < k := by omega
          clear hat hin hAe hgn c4 ho hmm hm hgo h0
          have hread : ∀ W, (W.cell? ⟨j, 1, none⟩ = some (.pointer (some ⟨d, 0, none⟩)) ∧ Below wr.heap.size wr W) → Calls Tryz.prog 72 #[.pointer (some ⟨d, 0, none⟩), .string (strOf (segN s.data.toList m))] W fun e w' => ∃ A6 c6, e = .returned (.tuple #[.slice A6 (lookD s.data.toList D m).length c6, .int .i64 0]) ∧ w'.ownsRow W.heap.size 5 1 (.slice A6 (lookD s.data.toList D m).length c6) (lookD s.data.toList D m).length (c8 (lookD s.data.toList D m)) ∧ Below W.heap.size W w' := fun W hW => by
            have hj := HAT.out.jd.go hW.2
            obtain ⟨f, hf⟩ := HFI.out m hmi
            have hrd := read_any (strOf (segN s.data.toList m)) (by have := seg_size hj.nm m; omega) W hj.dk (len30 hok)
            rw [lst_strOf, read_found hoff (okN_seg hj.nm m) hf.choose_spec] at hrd
            refine hrd.mono ?_
            rintro e w' ⟨v, rfl, hown, hb⟩
            obtain ⟨A6, c6, rfl⟩ := row_any hown
            exact ⟨A6, c6, rfl, hown, hb⟩
          have hfileW : ∀ W, (W.cell? ⟨j, 1, none⟩ = some (.pointer (some ⟨d, 0, none⟩)) ∧ Below wr.heap.size wr W) → Calls Tryz.prog 55 #[.pointer (some ⟨j, 0, none⟩), .int .u64 m] W fun r w' => r = .returned (.string (strOf (segN s.data.toList m))) ∧ Below W.heap.size W w' := fun W hW => jfile_any m hmx W (HAT.out.jd.go hW.2)
          have hLB := Nat.le_refl wr.heap.size
          generalize hbs2 : lookD s.data.toList D m = bs2 at *
          generalize hL2 : bs2.length = L2 at *
          have HBS2 := Lib.hid hbs2
          have HL2 := Lib.hid hL2
          clear hbs2 hL2
          go_wp2_with fail
          have hS0 : wr.cell? ⟨j, 1, none⟩ = some (.pointer (some ⟨d, 0, none⟩)) ∧ Below wr.heap.size wr wr := ⟨c1, Below.refl _ _⟩
          go_region_held3 (fun w' => w'.cell? ⟨j, 1, none⟩ = some (.pointer (some ⟨d, 0, none⟩)) ∧ Below wr.heap.size wr w')
            (first | assumption | exact ab_drew (by assumption) | exact ab_below (by assumption) (by assumption) (by assumption))
            (first
              | (go_at_call 55; refine (hfileW _ (by assumption)).mono ?_; rintro e w5 ⟨rfl, hb5⟩)
              | (go_at_call 72; refine (hread _ (by assumption)).mono ?_; rintro e w6 ⟨A6, c6, rfl, hown6, hb6⟩))
          have hb16 : Below wr.heap.size wr w6 := (by assumption : _ ∧ Below wr.heap.size wr w6).2
          have hJ6 := HAT.out.jd.go hb16
          have hbeg := jbegin_any m w6 hJ6 (by unfold maxNo at hmx; omega) (by show ss.length ≤ _; rw [HIN.out.len]; omega)
          have HB16 := Lib.hid hb16
          have HO6 := Lib.hid hown6
          have HB5 := Lib.hid (And.intro hb5 hb6)
          clear hb5 hb6 hown6 hJ6 hb16 hread hfileW hLB
          go_wp2_with fail
          refine hbeg.mono ?_
          rintro e w7 ⟨rfl, T7, h7, ht7, hst7⟩
          have hby7 := (hst7 5 (by decide) (by decide) (by decide)).own HO6.out
          obtain ⟨_, _, e7, hrd7, hnc7, _, hA7⟩ := own_open hby7
          injection e7 with e71 e72 e73
          subst e71 e73
          have hbz : Byt bs2 := by
            rw [← HBS2.out]
            unfold lookD byts
            cases hf : find D.files (segN s.data.toList m) with
            | none => intro z hz; cases hz
            | some f => exact HBY.out f (find_some hf).1
          have hL230 : L2 ≤ 1073741824 := by rw [← HL2.out, ← HBS2.out]; exact HLL.out m
          have hsc := fscan_any A6 bs2 c6 w7 (by rw [HL2.out]; omega) (by rw [HL2.out]; exact hnc7) hbz hrd7
          rw [HL2.out] at hsc
          have H7 := Lib.hid (And.intro h7 (And.intro ht7 hst7))
          have HBY7 := Lib.hid (And.intro hby7 (And.intro hnc7 hA7))
          clear hbeg h7 ht7 hst7 hby7 hrd7 hbz hA7
          go_wp2_with fail
          refine hsc.mono ?_
          rintro e w8 ⟨A8, c9, rs, rfl, hrs, hrow8, hbd8, hb8⟩
          have hin8 : InAt w7 w8 w8 S T7 T7 j d s D ss m (scn bs2).1 0 := InAt.start H7.out.1 hb8
          have hrl : rs.length = (scn bs2).1.length := by rw [← hrs, List.length_map]
          have HRS := Lib.hid (And.intro hrs (And.intro hrow8 (And.intro hbd8 hb8)))
          have HRL := Lib.hid hrl
          have hrl30 : rs.length ≤ 1073741824 := by
            rw [hrl]
            have h1 := rsz_count ((scn bs2).1.map (·.body))
            rw [fsz_rsz, List.length_map] at h1
            have h2 := scn_fits bs2
            rw [HL2.out] at h2
            omega
          have HI8 := Lib.hid hin8
          clear hsc hrs hrow8 hbd8 hb8 hin8 hrl
          go_wp2
          generalize wr = wo at *
          go_loopw [56] (fun i wq => ∃ (q : Nat) (Tq : Nat → Prop), q ≤ rs.length ∧ i = .int .i64 q ∧ InAt w7 w8 wq S T7 Tq j d s D ss m (scn bs2).1 q) (fun i _ => rs.length - (intOf i).toNat)
          case atStart => exact ⟨0, T7, Nat.zero_le _, rfl, HI8.out⟩
          case round =>
            obtain ⟨q, Tq, hq, rfl, hia⟩ := hrel
            have HIA := Lib.hid hia
            by_cases hql : q < rs.length
            · skip
              have hqf : q < (scn bs2).1.length := by rw [← HRL.out]; exact hql
              obtain ⟨r, hr⟩ : ∃ r, r = rs[q] := ⟨_, rfl⟩
              have hrm : r ∈ rs := by rw [hr]; exact List.getElem_mem hql
              have hrf : r.f = (scn bs2).1[q] := by
                have h1 : (rs.map FR.f)[q]? = (scn bs2).1[q]? := by rw [HRS.out.1]
                rw [List.getElem?_map, List.getElem?_eq_getElem hql, List.getElem?_eq_getElem hqf, ← hr] at h1
                exact Option.some.inj h1
              have hrowq := (hia.still 83 (by decide) (by decide) (by decide)).own HRS.out.2.1
              obtain ⟨gf, c92, hfe, hgf, _, _⟩ := row_block hrowq (by omega)
              have hA8 : A8 = some ⟨gf, 0, none⟩ ∧ c9 = c92 := by
                injection hfe with e1 e2 e3
                exact ⟨e1, e3⟩
              obtain ⟨rfl, rfl⟩ := hA8
              have hk1c := (row_cell (i := q * 2) hrowq hgf (cF_get hql).1).1
              have hk2c := (row_cell (i := q * 2 + 1) hrowq hgf (cF_get hql).2).1
              rw [← hr] at hk1c hk2c
              have hk2d : wr.cell? ⟨gf, q * 2 + 1, none⟩ = some (.slice r.A r.f.body.length r.c) := hk2c
              have hbody := (hia.still 5 (by decide) (by decide) (by decide)).own (HRS.out.2.2.1 r hrm)
              have hxl : r.f.body.length ≤ 1073741824 := by
                have h1 : r.f.body.length ≤ fsz (scn bs2).1 := by
                  rw [hrf]
                  have : fsz (scn bs2).1 = fsz ((scn bs2).1.take q) + fsz ((scn bs2).1.drop q) := by rw [← fsz_append, List.take_append_drop]
                  rw [← List.getElem_cons_drop hqf, fsz_cons] at this
                  omega
                have h2 := scn_fits bs2
                rw [HL2.out] at h2
                omega
              have hqi : (q : Int) < rs.length := by omega
              have hqi2 : (q : Int) ≤ 1073741824 := by omega
              have hbal : Below wr.heap.size wr (wr.alloc (.cells #[.int .u8 r.f.k, .slice r.A r.f.body.length r.c] 83)) := (Below.refl _ wr).alloc (Nat.le_refl _) _
              have hia2 := hia.go hbal
              have hltS := H7.out.1.dk.lt
              have hpw := H7.out.1.pow.lt
              by_cases hkk : r.f.k = 1
              · have hnote := jnote_any ⟨r.f.body, r.A, r.c⟩ _ hia2.jd (ownRow_base (own_below hbody hbal) (fun _ _ => Nat.zero_le _))
                  (fun b hb => by
                    have hge := (ownRow_block hbody hb).1
                    exact ⟨fun hs => by have := hltS b hs; omega, by omega⟩)
                  (in_fits (go_fits HIN.out (fun m hm => (HFI.out m hm).1) HLL.out (by omega)) (by rw [HIN.out.len]; omega) hmx (by have := scn_fits bs2; rw [HL2.out] at this; omega) (by omega)) (by simp) (by show r.f.body.length ≤ _; omega)
                have hxb : ∀ b, (RcM.v ⟨r.f.body, r.A, r.c⟩).ownBlock = some b → w7.heap.size ≤ b := fun b hb => (ownRow_block hbody hb).1
                have HX := Lib.hid (And.intro hxb (And.intro hkk hrf))
                have HI2 := Lib.hid hia2
                rw [hkk] at hk1c hnote
                rw [hkk] at HI2
                clear hia hia2 hbal hbody hrowq hfe hk2c hxb hrf hkk hr
                go_wp2_with fail
                refine hnote.mono ?_
                rintro e w10 ⟨rfl, Tn, hjd, ho, hn, hstl⟩
                have hnx := HI2.out.next (x := ⟨r.f.body, r.A, r.c⟩) hqf (by rw [← HX.out.2.2]; exact HX.out.2.1) (by rw [← HX.out.2.2]) HX.out.1 hjd ho hn hstl
                have HNX := Lib.hid hnx
                clear hnote hjd ho hn hstl hnx
                go_wp2
                go_roundw
                case rel => exact ⟨q + 1, Tn, by omega, by go_num, HNX.out⟩
                case measure => simp [intOf]; omega
              · have hstp := recsOf_stop hqf (fun k hk => hia.kind k hk (by omega)) (by rw [← hrf]; exact hkk)
                rw [HL2.out] at hstp
                have HR1 := Lib.hid hstp.1
                have HNE := Lib.hid hstp.2
                clear hstp
                generalize hkv : r.f.k = kv at *
                have hkv1 : (kv != 1) = true := by simpa using hkk
                obtain ⟨wz, hwz⟩ : ∃ x, x = wr.alloc (.cells #[.int .u8 kv, .slice r.A r.f.body.length r.c] 83) := ⟨_, rfl⟩
                rw [← hwz] at hia2 hbal
                have HZ := Lib.hid hia2
                clear hia hia2 hbal hbody hrowq hfe hk2c hrf hkk hr hkv
                have hjz : JD wz S Tq j d s D (jnOf (ss ++ [⟨m, recsOf bs2⟩])) := by
                  have := HZ.out.jd
                  rw [← HR1.out] at this
                  have e : (⟨false, m + q, ss ++ [⟨m, recsOf bs2⟩]⟩ : Jn) = jnOf (ss ++ [⟨m, recsOf bs2⟩]) := by
                    unfold jnOf
                    rw [nextOf_snoc]
                    have hl : (recsOf bs2).length = q := by
                      rw [HR1.out, List.length_map, List.length_take, ← HRL.out]
                      omega
                    simp only [hl]
                  rw [← e]
                  exact this
                have hzle : rsz (recsOf bs2) ≤ L2 := by have := recsOf_fits bs2; rw [HL2.out] at this; exact this
                have hbyz := (HZ.out.still 5 (by decide) (by decide) (by decide)).own ((StayB.below HRS.out.2.2.2 (Nat.le_refl _)).own HBY7.out.1)
                have hrdz := Rds.ofOwn hbyz
                have hfarz : ∀ ad, A6 = some ad → ¬ S ad.block ∧ ¬ Tq ad.block := fun ad e => by
                  have h1 := ownRow_block HO6.out (g := ad.block) (by rw [e]; rfl)
                  have h2 := HB16.out.size
                  have h3 := HB5.out.1.size
                  have h4 : wo.heap.size ≤ w5.heap.size := h3
                  have h5 := H7.out.2.1.outs.size
                  refine ⟨fun hs => ?_, fun ht => ?_⟩
                  · have := HAT.out.jd.dk.lt _ hs
                    omega
                  · rcases HZ.out.turn.nt _ ht with e2 | e2
                    · rcases H7.out.2.1.nt _ e2 with e3 | e3
                      · have := HAT.out.jd.jo.lt _ e3
                        omega
                      · omega
                    · omega
                have hfz : Fits (jnOf (ss ++ [⟨m, recsOf bs2⟩])) := by
                  have h1 := in_fits (q := q) (fs := (scn bs2).1) (m := m) (go_fits HIN.out (fun m hm => (HFI.out m hm).1) HLL.out (by omega)) (by rw [HIN.out.len]; omega) hmx (by have := scn_fits bs2; rw [HL2.out] at this; omega) (by rw [← HRL.out]; omega)
                  rw [← HR1.out] at h1
                  exact ⟨by have := h1.next; show nextOf _ ≤ _; rw [nextOf_snoc]; have h2 := h1.recs ⟨m, recsOf bs2⟩ (by simp); unfold maxNo at hmx; show m + (recsOf bs2).length ≤ _; have h3 : (recsOf bs2).length ≤ 1073741824 := h2; omega, h1.segs, h1.nums, h1.recs, h1.size⟩
                have hnez : (jnOf (ss ++ [⟨m, recsOf bs2⟩])).segs ≠ [] := by simp [jnOf]
                have hturnz : TurnJ S T S Tq w wz := HAT.out.turn.trans ((TurnJ.below HB16.out : TurnJ S Tk S Tk wo w6).trans (H7.out.2.1.trans HZ.out.turn))
                obtain ⟨vs, p, m', g, o, c, hj, hsg, hvs, ⟨hgv, hvo⟩, hlast, hpl, _, _⟩ := hjz.jo.last hnez
                rw [jnOf_last] at hlast
                have c5 : wz.cell? ⟨j, 5, none⟩ = some (.slice (some ⟨g, o, none⟩) (p.length + 1) c) := by rw [hj.c5, hvs]
                have hpl30 : p.length ≤ 1099511627776 := by have := hfz.segs; omega
                have hlastc := fun W (hW : W.cell? ⟨j, 5, none⟩ = some (.slice (some ⟨g, o, none⟩) (p.length + 1) c)) => jlast_at W hW hpl30
                have hc1 := (o_cell (i := p.length * 3 + 1) (a := o + p.length * 3 + 1) hj.row hgv (cG_at p m' [] 1 (by decide)) (by omega)).1
                have hc1z : wz.cell? ⟨g, o + p.length * 3 + 1, none⟩ = some (.int .i64 (rsz (recsOf bs2) : Nat)) := by
                  rw [hc1]
                  have : m'.sg.size = rsz (recsOf bs2) := by rw [← hlast]; rfl
                  show some (Value.int .i64 (m'.sg.size : Nat)) = _
                  rw [this]
                have hstop : goOver (lookD s.data.toList D) none ns = ss ++ [⟨m, recsOf bs2⟩] := by
                  have h1 := HIN.out.stop hkl HGO.out (by rw [← HM.out, HBS2.out, HL2.out]; exact HNE.out)
                  rw [← HM.out, HBS2.out] at h1
                  exact h1
                have hbyts : byts D (segN s.data.toList m) = bs2 := HBS2.out
                have hcutD : cutD s.data.toList D (ss ++ [⟨m, recsOf bs2⟩]) = seqD D (cutSteps s.data.toList (bs2.take (rsz (recsOf bs2))) m) := by
                  unfold cutD
                  have hc : isCut s.data.toList D (ss ++ [⟨m, recsOf bs2⟩]) = true := by
                    unfold isCut
                    rw [lastOf_snoc]
                    refine decide_eq_true ⟨by simp, ?_⟩
                    show rsz (recsOf bs2) ≠ (byts D (segN s.data.toList m)).length
                    rw [hbyts, HL2.out]
                    exact HNE.out
                  rw [hc, lastOf_snoc, if_pos rfl]
                  show seqD D (cutSteps s.data.toList ((byts D (segN s.data.toList m)).take (rsz (recsOf bs2))) m) = _
                  rw [hbyts]
                have hcut := fun W (hb : Below wz.heap.size wz W) => jcut_any A6 (bs2.take (rsz (recsOf bs2))) (rsz (recsOf bs2)) c6 W (hjz.go hb) hst hok hfz hnez (by rw [List.length_take, HL2.out]; omega) (Nat.le_trans hzle HBY7.out.2.1) (by omega) (fun e => (HBY7.out.2.2 e).2)
                  (((hrdz.below hb).more hb.size).take (rsz (recsOf bs2)) |> fun h => by rw [← c8_take] at h; exact h) (fun ad e _ => hfarz ad e)
                rw [jnOf_last] at hcut
                have hzne := HNE.out
                have ES := Lib.hid (And.intro hstop hcutD)
                have HTZ := Lib.hid hturnz
                generalize hZ : rsz (recsOf bs2) = Z at *
                have HZZ := Lib.hid hZ
                have hzi : (Z : Int) ≤ L2 := by omega
                have hzi2 : ¬ (Z : Int) = (L2 : Int) := by omega
                have hL0 : ¬ (L2 : Int) = 0 := by omega
                have hzi3 : ((Z : Int) == (L2 : Int)) = false := by simp; omega
                have hcapi : (Z : Int) ≤ c6 := by have := HBY7.out.2.1; omega
                clear hjz hstop hbyts hcutD hzne hbyz hrdz hfz hnez hturnz hj hsg hvs hgv hvo hlast hpl hc1 hZ
                go_wp2_with fail
                rw [← hwz]
                refine (hlastc _ c5).mono ?_
                rintro e w10 ⟨rfl, q1, rfl⟩
                have c52 : (wz.drewN q1).cell? ⟨j, 5, none⟩ = some (.slice (some ⟨g, o, none⟩) (p.length + 1) c) := c5
                have hc12 : (wz.drewN q1).cell? ⟨g, o + p.length * 3 + 1, none⟩ = some (.int .i64 (Z : Nat)) := hc1z
                have hbw1 : Below wz.heap.size wz (wz.drewN q1) := bDrewN (Below.refl _ _) q1
                generalize wz.drewN q1 = w10 at *
                go_wp2_with fail
                refine (hlastc _ c52).mono ?_
                rintro e w11 ⟨rfl, q2, rfl⟩
                have hc13 : (w10.drewN q2).cell? ⟨g, o + p.length * 3 + 1, none⟩ = some (.int .i64 (Z : Nat)) := hc12
                have hbw2 : Below wz.heap.size wz (w10.drewN q2) := bDrewN hbw1 q2
                generalize w10.drewN q2 = w11 at *
                have hcut2 := hcut w11 hbw2
                clear hcut hlastc c5 c52 hc1z hc12
                go_wp2_with fail
                refine hcut2.mono ?_
                rintro e w12 ⟨rfl, S12, hjd12, ht12⟩
                have H12 := Lib.hid hjd12
                have HT12 := Lib.hid ((HTZ.out.trans (TurnJ.below hbw2)).trans ht12)
                clear hcut2 hjd12 ht12 hbw1 hbw2
                go_wp2
                (try rw [Exit.noGoto_ret])
                go_returns
                rw [ES.out.1, ES.out.2]
                exact ⟨by simp, S12, Tq, H12.out, HT12.out⟩
            · skip
              have hqe : q = (scn bs2).1.length := by rw [← HRL.out]; omega
              have hr1 : recsOf bs2 = ((scn bs2).1.take q).map (·.body) := by
                rw [hqe, List.take_length]
                exact recsOf_all fun k hk => hia.kind k (by rw [hqe]; exact hk) hk
              have HR1 := Lib.hid hr1
              have HZ := Lib.hid hia
              obtain ⟨wz, hwz⟩ : ∃ x, x = wr := ⟨_, rfl⟩
              rw [← hwz] at HZ
              have hqi : ¬ (q : Int) < rs.length := by omega
              clear hia hr1
              have hjz : JD wz S Tq j d s D (jnOf (ss ++ [⟨m, recsOf bs2⟩])) := by
                have := HZ.out.jd
                rw [← HR1.out] at this
                have e : (⟨false, m + q, ss ++ [⟨m, recsOf bs2⟩]⟩ : Jn) = jnOf (ss ++ [⟨m, recsOf bs2⟩]) := by
                  unfold jnOf
                  rw [nextOf_snoc]
                  have hl : (recsOf bs2).length = q := by
                    rw [HR1.out, List.length_map, List.length_take, ← HRL.out]
                    omega
                  simp only [hl]
                rw [← e]
                exact this
              have hzle : rsz (recsOf bs2) ≤ L2 := by have := recsOf_fits bs2; rw [HL2.out] at this; exact this
              have hbyz := (HZ.out.still 5 (by decide) (by decide) (by decide)).own ((StayB.below HRS.out.2.2.2 (Nat.le_refl _)).own HBY7.out.1)
              have hrdz := Rds.ofOwn hbyz
              have hfarz : ∀ ad, A6 = some ad → ¬ S ad.block ∧ ¬ Tq ad.block := fun ad e => by
                have h1 := ownRow_block HO6.out (g := ad.block) (by rw [e]; rfl)
                have h2 := HB16.out.size
                have h3 := HB5.out.1.size
                have h4 : wo.heap.size ≤ w5.heap.size := h3
                have h5 := H7.out.2.1.outs.size
                refine ⟨fun hs => ?_, fun ht => ?_⟩
                · have := HAT.out.jd.dk.lt _ hs
                  omega
                · rcases HZ.out.turn.nt _ ht with e2 | e2
                  · rcases H7.out.2.1.nt _ e2 with e3 | e3
                    · have := HAT.out.jd.jo.lt _ e3
                      omega
                    · omega
                  · omega
              have hfz : Fits (jnOf (ss ++ [⟨m, recsOf bs2⟩])) := by
                have h1 := in_fits (q := q) (fs := (scn bs2).1) (m := m) (go_fits HIN.out (fun m hm => (HFI.out m hm).1) HLL.out (by omega)) (by rw [HIN.out.len]; omega) hmx (by have := scn_fits bs2; rw [HL2.out] at this; omega) (by rw [← HRL.out]; omega)
                rw [← HR1.out] at h1
                exact ⟨by have := h1.next; show nextOf _ ≤ _; rw [nextOf_snoc]; have h2 := h1.recs ⟨m, recsOf bs2⟩ (by simp); unfold maxNo at hmx; show m + (recsOf bs2).length ≤ _; have h3 : (recsOf bs2).length ≤ 1073741824 := h2; omega, h1.segs, h1.nums, h1.recs, h1.size⟩
              have hnez : (jnOf (ss ++ [⟨m, recsOf bs2⟩])).segs ≠ [] := by simp [jnOf]
              have hturnz : TurnJ S T S Tq w wz := HAT.out.turn.trans ((TurnJ.below HB16.out : TurnJ S Tk S Tk wo w6).trans (H7.out.2.1.trans HZ.out.turn))
              obtain ⟨vs, p, m', g, o, c, hj, hsg, hvs, ⟨hgv, hvo⟩, hlast, hpl, _, _⟩ := hjz.jo.last hnez
              rw [jnOf_last] at hlast
              have c5 : wz.cell? ⟨j, 5, none⟩ = some (.slice (some ⟨g, o, none⟩) (p.length + 1) c) := by rw [hj.c5, hvs]
              have hpl30 : p.length ≤ 1099511627776 := by have := hfz.segs; omega
              have hlastc := fun W (hW : W.cell? ⟨j, 5, none⟩ = some (.slice (some ⟨g, o, none⟩) (p.length + 1) c)) => jlast_at W hW hpl30
              have hc1 := (o_cell (i := p.length * 3 + 1) (a := o + p.length * 3 + 1) hj.row hgv (cG_at p m' [] 1 (by decide)) (by omega)).1
              have hc1z : wz.cell? ⟨g, o + p.length * 3 + 1, none⟩ = some (.int .i64 (rsz (recsOf bs2) : Nat)) := by
                rw [hc1]
                have : m'.sg.size = rsz (recsOf bs2) := by rw [← hlast]; rfl
                show some (Value.int .i64 (m'.sg.size : Nat)) = _
                rw [this]
              generalize hZ : rsz (recsOf bs2) = Z at *
              have HZZ := Lib.hid hZ
              have HJZ := Lib.hid (And.intro hjz hturnz)
              have HBZ := Lib.hid (And.intro hbyz hfarz)
              clear hjz hfz hnez hturnz hj hsg hvs hgv hvo hlast hpl hc1 hZ hbyz hrdz hfarz
              by_cases heq : Z = L2
              · have hzi : (Z : Int) = (L2 : Int) := by omega
                go_wp2_with fail
                rw [← hwz]
                refine (hlastc _ c5).mono ?_
                rintro e w10 ⟨rfl, q1, rfl⟩
                have hc12 : (wz.drewN q1).cell? ⟨g, o + p.length * 3 + 1, none⟩ = some (.int .i64 (Z : Nat)) := hc1z
                have hbw1 : Below wz.heap.size wz (wz.drewN q1) := bDrewN (Below.refl _ _) q1
                have hgin := HIN.out.next hkl HGO.out (by rw [← HM.out, HBS2.out, HL2.out, HZZ.out]; exact heq)
                rw [← HM.out, HBS2.out, show m + (recsOf bs2).length = nextOf (ss ++ [⟨m, recsOf bs2⟩]) by rw [nextOf_snoc]] at hgin
                have hnum2 : (wz.drewN q1).ownsRow 0 31 1 (.slice (some ⟨gn, 0, none⟩) n cn) n (cU ns) :=
                  (HZ.out.still 31 (by decide) (by decide) (by decide)).own ((StayB.below HRS.out.2.2.2 (Nat.le_refl _)).own ((H7.out.2.2 31 (by decide) (by decide) (by decide)).own ((StayB.below HB16.out (Nat.le_refl _)).own HAT.out.num)))
                have hga : GoAt w (wz.drewN q1) S T Tq j d s D (ss ++ [⟨m, recsOf bs2⟩]) (some ⟨gn, 0, none⟩) n cn ns (.slice A6 L2 c6) bs2 := by
                  refine ⟨HJZ.out.1.go hbw1, HJZ.out.2.trans (TurnJ.below hbw1), hnum2, ?_, fun b hb => ?_⟩
                  · rw [HL2.out]
                    exact ownRow_base (own_below HBZ.out.1 hbw1) (fun _ _ => Nat.zero_le _)
                  · cases hA : A6 with
                    | none => rw [hA] at hb; cases hb
                    | some ad =>
                      rw [hA] at hb
                      have : ad.block = b := by simpa [Value.ownBlock] using hb
                      rw [← this]
                      exact HBZ.out.2 ad hA
                have HG := Lib.hid (And.intro hgin hga)
                have HLZ := Lib.hid (show bs2.length = (lastOf (ss ++ [⟨m, recsOf bs2⟩])).size by rw [lastOf_snoc, HL2.out]; show L2 = rsz (recsOf bs2); rw [HZZ.out]; exact heq.symm)
                clear hlastc c5 hc1z hgin hnum2 hga hbw1 heq
                generalize wz.drewN q1 = w10 at *
                go_wp2
                go_roundw
                case rel => exact ⟨k + 1, ss ++ [⟨m, recsOf bs2⟩], Tq, bs2, by omega, by go_num, HG.out.1, HG.out.2, fun h => by omega, fun _ => HLZ.out⟩
                case measure => simp [intOf]; omega
              · have hzi : ¬ (Z : Int) = (L2 : Int) := by omega
                go_wp2_with fail
                rw [← hwz]
                refine (hlastc _ c5).mono ?_
                rintro e w10 ⟨rfl, q1, rfl⟩
                have hbw1 : Below wz.heap.size wz (wz.drewN q1) := bDrewN (Below.refl _ _) q1
                have hc12 : (wz.drewN q1).cell? ⟨g, o + p.length * 3 + 1, none⟩ = some (.int .i64 (Z : Nat)) := hc1z
                have HZ2 := Lib.hid (HZ.out.go hbw1)
                have HNE := Lib.hid (show rsz (recsOf bs2) ≠ L2 by rw [HZZ.out]; exact heq)
                clear hlastc c5 hc1z hbw1 heq HZ HJZ HBZ hwz
                generalize wz.drewN q1 = w10 at *
                clear wz
                obtain ⟨wz, hwz⟩ : ∃ x, x = w10 := ⟨_, rfl⟩
                rw [← hwz] at HZ2
                have HZ := HZ2
                clear HZ2
                have hjz : JD wz S Tq j d s D (jnOf (ss ++ [⟨m, recsOf bs2⟩])) := by
                  have := HZ.out.jd
                  rw [← HR1.out] at this
                  have e : (⟨false, m + q, ss ++ [⟨m, recsOf bs2⟩]⟩ : Jn) = jnOf (ss ++ [⟨m, recsOf bs2⟩]) := by
                    unfold jnOf
                    rw [nextOf_snoc]
                    have hl : (recsOf bs2).length = q := by
                      rw [HR1.out, List.length_map, List.length_take, ← HRL.out]
                      omega
                    simp only [hl]
                  rw [← e]
                  exact this
                have hzle : rsz (recsOf bs2) ≤ L2 := by have := recsOf_fits bs2; rw [HL2.out] at this; exact this
                have hbyz := (HZ.out.still 5 (by decide) (by decide) (by decide)).own ((StayB.below HRS.out.2.2.2 (Nat.le_refl _)).own HBY7.out.1)
                have hrdz := Rds.ofOwn hbyz
                have hfarz : ∀ ad, A6 = some ad → ¬ S ad.block ∧ ¬ Tq ad.block := fun ad e => by
                  have h1 := ownRow_block HO6.out (g := ad.block) (by rw [e]; rfl)
                  have h2 := HB16.out.size
                  have h3 := HB5.out.1.size
                  have h4 : wo.heap.size ≤ w5.heap.size := h3
                  have h5 := H7.out.2.1.outs.size
                  refine ⟨fun hs => ?_, fun ht => ?_⟩
                  · have := HAT.out.jd.dk.lt _ hs
                    omega
                  · rcases HZ.out.turn.nt _ ht with e2 | e2
                    · rcases H7.out.2.1.nt _ e2 with e3 | e3
                      · have := HAT.out.jd.jo.lt _ e3
                        omega
                      · omega
                    · omega
                have hfz : Fits (jnOf (ss ++ [⟨m, recsOf bs2⟩])) := by
                  have h1 := in_fits (q := q) (fs := (scn bs2).1) (m := m) (go_fits HIN.out (fun m hm => (HFI.out m hm).1) HLL.out (by omega)) (by rw [HIN.out.len]; omega) hmx (by have := scn_fits bs2; rw [HL2.out] at this; omega) (by rw [← HRL.out]; omega)
                  rw [← HR1.out] at h1
                  exact ⟨by have := h1.next; show nextOf _ ≤ _; rw [nextOf_snoc]; have h2 := h1.recs ⟨m, recsOf bs2⟩ (by simp); unfold maxNo at hmx; show m + (recsOf bs2).length ≤ _; have h3 : (recsOf bs2).length ≤ 1073741824 := h2; omega, h1.segs, h1.nums, h1.recs, h1.size⟩
                have hnez : (jnOf (ss ++ [⟨m, recsOf bs2⟩])).segs ≠ [] := by simp [jnOf]
                have hturnz : TurnJ S T S Tq w wz := HAT.out.turn.trans ((TurnJ.below HB16.out : TurnJ S Tk S Tk wo w6).trans (H7.out.2.1.trans HZ.out.turn))
                obtain ⟨vs, p, m', g, o, c, hj, hsg, hvs, ⟨hgv, hvo⟩, hlast, hpl, _, _⟩ := hjz.jo.last hnez
                rw [jnOf_last] at hlast
                have c5 : wz.cell? ⟨j, 5, none⟩ = some (.slice (some ⟨g, o, none⟩) (p.length + 1) c) := by rw [hj.c5, hvs]
                have hpl30 : p.length ≤ 1099511627776 := by have := hfz.segs; omega
                have hlastc := fun W (hW : W.cell? ⟨j, 5, none⟩ = some (.slice (some ⟨g, o, none⟩) (p.length + 1) c)) => jlast_at W hW hpl30
                have hc1 := (o_cell (i := p.length * 3 + 1) (a := o + p.length * 3 + 1) hj.row hgv (cG_at p m' [] 1 (by decide)) (by omega)).1
                have hc1z : wz.cell? ⟨g, o + p.length * 3 + 1, none⟩ = some (.int .i64 (rsz (recsOf bs2) : Nat)) := by
                  rw [hc1]
                  have : m'.sg.size = rsz (recsOf bs2) := by rw [← hlast]; rfl
                  show some (Value.int .i64 (m'.sg.size : Nat)) = _
                  rw [this]
                have hstop : goOver (lookD s.data.toList D) none ns = ss ++ [⟨m, recsOf bs2⟩] := by
                  have h1 := HIN.out.stop hkl HGO.out (by rw [← HM.out, HBS2.out, HL2.out]; exact HNE.out)
                  rw [← HM.out, HBS2.out] at h1
                  exact h1
                have hbyts : byts D (segN s.data.toList m) = bs2 := HBS2.out
                have hcutD : cutD s.data.toList D (ss ++ [⟨m, recsOf bs2⟩]) = seqD D (cutSteps s.data.toList (bs2.take (rsz (recsOf bs2))) m) := by
                  unfold cutD
                  have hc : isCut s.data.toList D (ss ++ [⟨m, recsOf bs2⟩]) = true := by
                    unfold isCut
                    rw [lastOf_snoc]
                    refine decide_eq_true ⟨by simp, ?_⟩
                    show rsz (recsOf bs2) ≠ (byts D (segN s.data.toList m)).length
                    rw [hbyts, HL2.out]
                    exact HNE.out
                  rw [hc, lastOf_snoc, if_pos rfl]
                  show seqD D (cutSteps s.data.toList ((byts D (segN s.data.toList m)).take (rsz (recsOf bs2))) m) = _
                  rw [hbyts]
                have hcut := fun W (hb : Below wz.heap.size wz W) => jcut_any A6 (bs2.take (rsz (recsOf bs2))) (rsz (recsOf bs2)) c6 W (hjz.go hb) hst hok hfz hnez (by rw [List.length_take, HL2.out]; omega) (Nat.le_trans hzle HBY7.out.2.1) (by omega) (fun e => (HBY7.out.2.2 e).2)
                  (((hrdz.below hb).more hb.size).take (rsz (recsOf bs2)) |> fun h => by rw [← c8_take] at h; exact h) (fun ad e _ => hfarz ad e)
                rw [jnOf_last] at hcut
                have hzne := HNE.out
                have ES := Lib.hid (And.intro hstop hcutD)
                have HTZ := Lib.hid hturnz
                generalize hZ : rsz (recsOf bs2) = Z at *
                have HZZ := Lib.hid hZ
                have hzi : (Z : Int) ≤ L2 := by omega
                have hzi2 : ¬ (Z : Int) = (L2 : Int) := by omega
                have hL0 : ¬ (L2 : Int) = 0 := by omega
                have hzi3 : ((Z : Int) == (L2 : Int)) = false := by simp; omega
                have hcapi : (Z : Int) ≤ c6 := by have := HBY7.out.2.1; omega
                clear hjz hstop hbyts hcutD hzne hbyz hrdz hfz hnez hturnz hj hsg hvs hgv hvo hlast hpl hc1 hZ
                go_wp2_with fail
                rw [← hwz]
                refine (hlastc _ c5).mono ?_
                rintro e w10 ⟨rfl, q1, rfl⟩
                have c52 : (wz.drewN q1).cell? ⟨j, 5, none⟩ = some (.slice (some ⟨g, o, none⟩) (p.length + 1) c) := c5
                have hc12 : (wz.drewN q1).cell? ⟨g, o + p.length * 3 + 1, none⟩ = some (.int .i64 (Z : Nat)) := hc1z
                have hbw1 : Below wz.heap.size wz (wz.drewN q1) := bDrewN (Below.refl _ _) q1
                generalize wz.drewN q1 = w10 at *
                go_wp2_with fail
                refine (hlastc _ c52).mono ?_
                rintro e w11 ⟨rfl, q2, rfl⟩
                have hc13 : (w10.drewN q2).cell? ⟨g, o + p.length * 3 + 1, none⟩ = some (.int .i64 (Z : Nat)) := hc12
                have hbw2 : Below wz.heap.size wz (w10.drewN q2) := bDrewN hbw1 q2
                generalize w10.drewN q2 = w11 at *
                have hcut2 := hcut w11 hbw2
                clear hcut hlastc c5 c52 hc1z hc12
                go_wp2_with fail
                refine hcut2.mono ?_
                rintro e w12 ⟨rfl, S12, hjd12, ht12⟩
                have H12 := Lib.hid hjd12
                have HT12 := Lib.hid ((HTZ.out.trans (TurnJ.below hbw2)).trans ht12)
                clear hcut2 hjd12 ht12 hbw1 hbw2
                go_wp2
                (try rw [Exit.noGoto_ret])
                go_returns
                rw [ES.out.1, ES.out.2]
                exact ⟨by simp, S12, Tq, H12.out, HT12.out⟩
        · have hk1 : (0 : Int) < k := by omega
          have hmn : m = nextOf ss := by
            rcases hgo with h | h
            · exact absurd h h0
            · exact h
          have c42 : wr.cell? ⟨j, 4, none⟩ = some (.int .u64 m) := by rw [hmn]; exact c4
          clear hat hin hAe hgn c4 ho hmm hm hgo h0 hmn
          have hread : ∀ W, (W.cell? ⟨j, 1, none⟩ = some (.pointer (some ⟨d, 0, none⟩)) ∧ Below wr.heap.size wr W) → Calls Tryz.prog 72 #[.pointer (some ⟨d, 0, none⟩), .string (strOf (segN s.data.toList m))] W fun e w' => ∃ A6 c6, e = .returned (.tuple #[.slice A6 (lookD s.data.toList D m).length c6, .int .i64 0]) ∧ w'.ownsRow W.heap.size 5 1 (.slice A6 (lookD s.data.toList D m).length c6) (lookD s.data.toList D m).length (c8 (lookD s.data.toList D m)) ∧ Below W.heap.size W w' := fun W hW => by
            have hj := HAT.out.jd.go hW.2
            obtain ⟨f, hf⟩ := HFI.out m hmi
            have hrd := read_any (strOf (segN s.data.toList m)) (by have := seg_size hj.nm m; omega) W hj.dk (len30 hok)
            rw [lst_strOf, read_found hoff (okN_seg hj.nm m) hf.choose_spec] at hrd
            refine hrd.mono ?_
            rintro e w' ⟨v, rfl, hown, hb⟩
            obtain ⟨A6, c6, rfl⟩ := row_any hown
            exact ⟨A6, c6, rfl, hown, hb⟩
          have hfileW : ∀ W, (W.cell? ⟨j, 1, none⟩ = some (.pointer (some ⟨d, 0, none⟩)) ∧ Below wr.heap.size wr W) → Calls Tryz.prog 55 #[.pointer (some ⟨j, 0, none⟩), .int .u64 m] W fun r w' => r = .returned (.string (strOf (segN s.data.toList m))) ∧ Below W.heap.size W w' := fun W hW => jfile_any m hmx W (HAT.out.jd.go hW.2)
          have hLB := Nat.le_refl wr.heap.size
          generalize hbs2 : lookD s.data.toList D m = bs2 at *
          generalize hL2 : bs2.length = L2 at *
          have HBS2 := Lib.hid hbs2
          have HL2 := Lib.hid hL2
          clear hbs2 hL2
          go_wp2_with fail
          have hS0 : wr.cell? ⟨j, 1, none⟩ = some (.pointer (some ⟨d, 0, none⟩)) ∧ Below wr.heap.size wr wr := ⟨c1, Below.refl _ _⟩
          go_region_held3 (fun w' => w'.cell? ⟨j, 1, none⟩ = some (.pointer (some ⟨d, 0, none⟩)) ∧ Below wr.heap.size wr w')
            (first | assumption | exact ab_drew (by assumption) | exact ab_below (by assumption) (by assumption) (by assumption))
            (first
              | (go_at_call 55; refine (hfileW _ (by assumption)).mono ?_; rintro e w5 ⟨rfl, hb5⟩)
              | (go_at_call 72; refine (hread _ (by assumption)).mono ?_; rintro e w6 ⟨A6, c6, rfl, hown6, hb6⟩))
          have hb16 : Below wr.heap.size wr w6 := (by assumption : _ ∧ Below wr.heap.size wr w6).2
          have hJ6 := HAT.out.jd.go hb16
          have hbeg := jbegin_any m w6 hJ6 (by unfold maxNo at hmx; omega) (by show ss.length ≤ _; rw [HIN.out.len]; omega)
          have HB16 := Lib.hid hb16
          have HO6 := Lib.hid hown6
          have HB5 := Lib.hid (And.intro hb5 hb6)
          clear hb5 hb6 hown6 hJ6 hb16 hread hfileW hLB
          go_wp2_with fail
          refine hbeg.mono ?_
          rintro e w7 ⟨rfl, T7, h7, ht7, hst7⟩
          have hby7 := (hst7 5 (by decide) (by decide) (by decide)).own HO6.out
          obtain ⟨_, _, e7, hrd7, hnc7, _, hA7⟩ := own_open hby7
          injection e7 with e71 e72 e73
          subst e71 e73
          have hbz : Byt bs2 := by
            rw [← HBS2.out]
            unfold lookD byts
            cases hf : find D.files (segN s.data.toList m) with
            | none => intro z hz; cases hz
            | some f => exact HBY.out f (find_some hf).1
          have hL230 : L2 ≤ 1073741824 := by rw [← HL2.out, ← HBS2.out]; exact HLL.out m
          have hsc := fscan_any A6 bs2 c6 w7 (by rw [HL2.out]; omega) (by rw [HL2.out]; exact hnc7) hbz hrd7
          rw [HL2.out] at hsc
          have H7 := Lib.hid (And.intro h7 (And.intro ht7 hst7))
          have HBY7 := Lib.hid (And.intro hby7 (And.intro hnc7 hA7))
          clear hbeg h7 ht7 hst7 hby7 hrd7 hbz hA7
          go_wp2_with fail
          refine hsc.mono ?_
          rintro e w8 ⟨A8, c9, rs, rfl, hrs, hrow8, hbd8, hb8⟩
          have hin8 : InAt w7 w8 w8 S T7 T7 j d s D ss m (scn bs2).1 0 := InAt.start H7.out.1 hb8
          have hrl : rs.length = (scn bs2).1.length := by rw [← hrs, List.length_map]
          have HRS := Lib.hid (And.intro hrs (And.intro hrow8 (And.intro hbd8 hb8)))
          have HRL := Lib.hid hrl
          have hrl30 : rs.length ≤ 1073741824 := by
            rw [hrl]
            have h1 := rsz_count ((scn bs2).1.map (·.body))
            rw [fsz_rsz, List.length_map] at h1
            have h2 := scn_fits bs2
            rw [HL2.out] at h2
            omega
          have HI8 := Lib.hid hin8
          clear hsc hrs hrow8 hbd8 hb8 hin8 hrl
          go_wp2
          generalize wr = wo at *
          go_loopw [56] (fun i wq => ∃ (q : Nat) (Tq : Nat → Prop), q ≤ rs.length ∧ i = .int .i64 q ∧ InAt w7 w8 wq S T7 Tq j d s D ss m (scn bs2).1 q) (fun i _ => rs.length - (intOf i).toNat)
          case atStart => exact ⟨0, T7, Nat.zero_le _, rfl, HI8.out⟩
          case round =>
            obtain ⟨q, Tq, hq, rfl, hia⟩ := hrel
            have HIA := Lib.hid hia
            by_cases hql : q < rs.length
            · skip
              have hqf : q < (scn bs2).1.length := by rw [← HRL.out]; exact hql
              obtain ⟨r, hr⟩ : ∃ r, r = rs[q] := ⟨_, rfl⟩
              have hrm : r ∈ rs := by rw [hr]; exact List.getElem_mem hql
              have hrf : r.f = (scn bs2).1[q] := by
                have h1 : (rs.map FR.f)[q]? = (scn bs2).1[q]? := by rw [HRS.out.1]
                rw [List.getElem?_map, List.getElem?_eq_getElem hql, List.getElem?_eq_getElem hqf, ← hr] at h1
                exact Option.some.inj h1
              have hrowq := (hia.still 83 (by decide) (by decide) (by decide)).own HRS.out.2.1
              obtain ⟨gf, c92, hfe, hgf, _, _⟩ := row_block hrowq (by omega)
              have hA8 : A8 = some ⟨gf, 0, none⟩ ∧ c9 = c92 := by
                injection hfe with e1 e2 e3
                exact ⟨e1, e3⟩
              obtain ⟨rfl, rfl⟩ := hA8
              have hk1c := (row_cell (i := q * 2) hrowq hgf (cF_get hql).1).1
              have hk2c := (row_cell (i := q * 2 + 1) hrowq hgf (cF_get hql).2).1
              rw [← hr] at hk1c hk2c
              have hk2d : wr.cell? ⟨gf, q * 2 + 1, none⟩ = some (.slice r.A r.f.body.length r.c) := hk2c
              have hbody := (hia.still 5 (by decide) (by decide) (by decide)).own (HRS.out.2.2.1 r hrm)
              have hxl : r.f.body.length ≤ 1073741824 := by
                have h1 : r.f.body.length ≤ fsz (scn bs2).1 := by
                  rw [hrf]
                  have : fsz (scn bs2).1 = fsz ((scn bs2).1.take q) + fsz ((scn bs2).1.drop q) := by rw [← fsz_append, List.take_append_drop]
                  rw [← List.getElem_cons_drop hqf, fsz_cons] at this
                  omega
                have h2 := scn_fits bs2
                rw [HL2.out] at h2
                omega
              have hqi : (q : Int) < rs.length := by omega
              have hqi2 : (q : Int) ≤ 1073741824 := by omega
              have hbal : Below wr.heap.size wr (wr.alloc (.cells #[.int .u8 r.f.k, .slice r.A r.f.body.length r.c] 83)) := (Below.refl _ wr).alloc (Nat.le_refl _) _
              have hia2 := hia.go hbal
              have hltS := H7.out.1.dk.lt
              have hpw := H7.out.1.pow.lt
              by_cases hkk : r.f.k = 1
              · have hnote := jnote_any ⟨r.f.body, r.A, r.c⟩ _ hia2.jd (ownRow_base (own_below hbody hbal) (fun _ _ => Nat.zero_le _))
                  (fun b hb => by
                    have hge := (ownRow_block hbody hb).1
                    exact ⟨fun hs => by have := hltS b hs; omega, by omega⟩)
                  (in_fits (go_fits HIN.out (fun m hm => (HFI.out m hm).1) HLL.out (by omega)) (by rw [HIN.out.len]; omega) hmx (by have := scn_fits bs2; rw [HL2.out] at this; omega) (by omega)) (by simp) (by show r.f.body.length ≤ _; omega)
                have hxb : ∀ b, (RcM.v ⟨r.f.body, r.A, r.c⟩).ownBlock = some b → w7.heap.size ≤ b := fun b hb => (ownRow_block hbody hb).1
                have HX := Lib.hid (And.intro hxb (And.intro hkk hrf))
                have HI2 := Lib.hid hia2
                rw [hkk] at hk1c hnote
                rw [hkk] at HI2
                clear hia hia2 hbal hbody hrowq hfe hk2c hxb hrf hkk hr
                go_wp2_with fail
                refine hnote.mono ?_
                rintro e w10 ⟨rfl, Tn, hjd, ho, hn, hstl⟩
                have hnx := HI2.out.next (x := ⟨r.f.body, r.A, r.c⟩) hqf (by rw [← HX.out.2.2]; exact HX.out.2.1) (by rw [← HX.out.2.2]) HX.out.1 hjd ho hn hstl
                have HNX := Lib.hid hnx
                clear hnote hjd ho hn hstl hnx
                go_wp2
                go_roundw
                case rel => exact ⟨q + 1, Tn, by omega, by go_num, HNX.out⟩
                case measure => simp [intOf]; omega
              · have hstp := recsOf_stop hqf (fun k hk => hia.kind k hk (by omega)) (by rw [← hrf]; exact hkk)
                rw [HL2.out] at hstp
                have HR1 := Lib.hid hstp.1
                have HNE := Lib.hid hstp.2
                clear hstp
                generalize hkv : r.f.k = kv at *
                have hkv1 : (kv != 1) = true := by simpa using hkk
                obtain ⟨wz, hwz⟩ : ∃ x, x = wr.alloc (.cells #[.int .u8 kv, .slice r.A r.f.body.length r.c] 83) := ⟨_, rfl⟩
                rw [← hwz] at hia2 hbal
                have HZ := Lib.hid hia2
                clear hia hia2 hbal hbody hrowq hfe hk2c hrf hkk hr hkv
                have hjz : JD wz S Tq j d s D (jnOf (ss ++ [⟨m, recsOf bs2⟩])) := by
                  have := HZ.out.jd
                  rw [← HR1.out] at this
                  have e : (⟨false, m + q, ss ++ [⟨m, recsOf bs2⟩]⟩ : Jn) = jnOf (ss ++ [⟨m, recsOf bs2⟩]) := by
                    unfold jnOf
                    rw [nextOf_snoc]
                    have hl : (recsOf bs2).length = q := by
                      rw [HR1.out, List.length_map, List.length_take, ← HRL.out]
                      omega
                    simp only [hl]
                  rw [← e]
                  exact this
                have hzle : rsz (recsOf bs2) ≤ L2 := by have := recsOf_fits bs2; rw [HL2.out] at this; exact this
                have hbyz := (HZ.out.still 5 (by decide) (by decide) (by decide)).own ((StayB.below HRS.out.2.2.2 (Nat.le_refl _)).own HBY7.out.1)
                have hrdz := Rds.ofOwn hbyz
                have hfarz : ∀ ad, A6 = some ad → ¬ S ad.block ∧ ¬ Tq ad.block := fun ad e => by
                  have h1 := ownRow_block HO6.out (g := ad.block) (by rw [e]; rfl)
                  have h2 := HB16.out.size
                  have h3 := HB5.out.1.size
                  have h4 : wo.heap.size ≤ w5.heap.size := h3
                  have h5 := H7.out.2.1.outs.size
                  refine ⟨fun hs => ?_, fun ht => ?_⟩
                  · have := HAT.out.jd.dk.lt _ hs
                    omega
                  · rcases HZ.out.turn.nt _ ht with e2 | e2
                    · rcases H7.out.2.1.nt _ e2 with e3 | e3
                      · have := HAT.out.jd.jo.lt _ e3
                        omega
                      · omega
                    · omega
                have hfz : Fits (jnOf (ss ++ [⟨m, recsOf bs2⟩])) := by
                  have h1 := in_fits (q := q) (fs := (scn bs2).1) (m := m) (go_fits HIN.out (fun m hm => (HFI.out m hm).1) HLL.out (by omega)) (by rw [HIN.out.len]; omega) hmx (by have := scn_fits bs2; rw [HL2.out] at this; omega) (by rw [← HRL.out]; omega)
                  rw [← HR1.out] at h1
                  exact ⟨by have := h1.next; show nextOf _ ≤ _; rw [nextOf_snoc]; have h2 := h1.recs ⟨m, recsOf bs2⟩ (by simp); unfold maxNo at hmx; show m + (recsOf bs2).length ≤ _; have h3 : (recsOf bs2).length ≤ 1073741824 := h2; omega, h1.segs, h1.nums, h1.recs, h1.size⟩
                have hnez : (jnOf (ss ++ [⟨m, recsOf bs2⟩])).segs ≠ [] := by simp [jnOf]
                have hturnz : TurnJ S T S Tq w wz := HAT.out.turn.trans ((TurnJ.below HB16.out : TurnJ S Tk S Tk wo w6).trans (H7.out.2.1.trans HZ.out.turn))
                obtain ⟨vs, p, m', g, o, c, hj, hsg, hvs, ⟨hgv, hvo⟩, hlast, hpl, _, _⟩ := hjz.jo.last hnez
                rw [jnOf_last] at hlast
                have c5 : wz.cell? ⟨j, 5, none⟩ = some (.slice (some ⟨g, o, none⟩) (p.length + 1) c) := by rw [hj.c5, hvs]
                have hpl30 : p.length ≤ 1099511627776 := by have := hfz.segs; omega
                have hlastc := fun W (hW : W.cell? ⟨j, 5, none⟩ = some (.slice (some ⟨g, o, none⟩) (p.length + 1) c)) => jlast_at W hW hpl30
                have hc1 := (o_cell (i := p.length * 3 + 1) (a := o + p.length * 3 + 1) hj.row hgv (cG_at p m' [] 1 (by decide)) (by omega)).1
                have hc1z : wz.cell? ⟨g, o + p.length * 3 + 1, none⟩ = some (.int .i64 (rsz (recsOf bs2) : Nat)) := by
                  rw [hc1]
                  have : m'.sg.size = rsz (recsOf bs2) := by rw [← hlast]; rfl
                  show some (Value.int .i64 (m'.sg.size : Nat)) = _
                  rw [this]
                have hstop : goOver (lookD s.data.toList D) none ns = ss ++ [⟨m, recsOf bs2⟩] := by
                  have h1 := HIN.out.stop hkl HGO.out (by rw [← HM.out, HBS2.out, HL2.out]; exact HNE.out)
                  rw [← HM.out, HBS2.out] at h1
                  exact h1
                have hbyts : byts D (segN s.data.toList m) = bs2 := HBS2.out
                have hcutD : cutD s.data.toList D (ss ++ [⟨m, recsOf bs2⟩]) = seqD D (cutSteps s.data.toList (bs2.take (rsz (recsOf bs2))) m) := by
                  unfold cutD
                  have hc : isCut s.data.toList D (ss ++ [⟨m, recsOf bs2⟩]) = true := by
                    unfold isCut
                    rw [lastOf_snoc]
                    refine decide_eq_true ⟨by simp, ?_⟩
                    show rsz (recsOf bs2) ≠ (byts D (segN s.data.toList m)).length
                    rw [hbyts, HL2.out]
                    exact HNE.out
                  rw [hc, lastOf_snoc, if_pos rfl]
                  show seqD D (cutSteps s.data.toList ((byts D (segN s.data.toList m)).take (rsz (recsOf bs2))) m) = _
                  rw [hbyts]
                have hcut := fun W (hb : Below wz.heap.size wz W) => jcut_any A6 (bs2.take (rsz (recsOf bs2))) (rsz (recsOf bs2)) c6 W (hjz.go hb) hst hok hfz hnez (by rw [List.length_take, HL2.out]; omega) (Nat.le_trans hzle HBY7.out.2.1) (by omega) (fun e => (HBY7.out.2.2 e).2)
                  (((hrdz.below hb).more hb.size).take (rsz (recsOf bs2)) |> fun h => by rw [← c8_take] at h; exact h) (fun ad e _ => hfarz ad e)
                rw [jnOf_last] at hcut
                have hzne := HNE.out
                have ES := Lib.hid (And.intro hstop hcutD)
                have HTZ := Lib.hid hturnz
                generalize hZ : rsz (recsOf bs2) = Z at *
                have HZZ := Lib.hid hZ
                have hzi : (Z : Int) ≤ L2 := by omega
                have hzi2 : ¬ (Z : Int) = (L2 : Int) := by omega
                have hL0 : ¬ (L2 : Int) = 0 := by omega
                have hzi3 : ((Z : Int) == (L2 : Int)) = false := by simp; omega
                have hcapi : (Z : Int) ≤ c6 := by have := HBY7.out.2.1; omega
                clear hjz hstop hbyts hcutD hzne hbyz hrdz hfz hnez hturnz hj hsg hvs hgv hvo hlast hpl hc1 hZ
                go_wp2_with fail
                rw [← hwz]
                refine (hlastc _ c5).mono ?_
                rintro e w10 ⟨rfl, q1, rfl⟩
                have c52 : (wz.drewN q1).cell? ⟨j, 5, none⟩ = some (.slice (some ⟨g, o, none⟩) (p.length + 1) c) := c5
                have hc12 : (wz.drewN q1).cell? ⟨g, o + p.length * 3 + 1, none⟩ = some (.int .i64 (Z : Nat)) := hc1z
                have hbw1 : Below wz.heap.size wz (wz.drewN q1) := bDrewN (Below.refl _ _) q1
                generalize wz.drewN q1 = w10 at *
                go_wp2_with fail
                refine (hlastc _ c52).mono ?_
                rintro e w11 ⟨rfl, q2, rfl⟩
                have hc13 : (w10.drewN q2).cell? ⟨g, o + p.length * 3 + 1, none⟩ = some (.int .i64 (Z : Nat)) := hc12
                have hbw2 : Below wz.heap.size wz (w10.drewN q2) := bDrewN hbw1 q2
                generalize w10.drewN q2 = w11 at *
                have hcut2 := hcut w11 hbw2
                clear hcut hlastc c5 c52 hc1z hc12
                go_wp2_with fail
                refine hcut2.mono ?_
                rintro e w12 ⟨rfl, S12, hjd12, ht12⟩
                have H12 := Lib.hid hjd12
                have HT12 := Lib.hid ((HTZ.out.trans (TurnJ.below hbw2)).trans ht12)
                clear hcut2 hjd12 ht12 hbw1 hbw2
                go_wp2
                (try rw [Exit.noGoto_ret])
                go_returns
                rw [ES.out.1, ES.out.2]
                exact ⟨by simp, S12, Tq, H12.out, HT12.out⟩
            · skip
              have hqe : q = (scn bs2).1.length := by rw [← HRL.out]; omega
              have hr1 : recsOf bs2 = ((scn bs2).1.take q).map (·.body) := by
                rw [hqe, List.take_length]
                exact recsOf_all fun k hk => hia.kind k (by rw [hqe]; exact hk) hk
              have HR1 := Lib.hid hr1
              have HZ := Lib.hid hia
              obtain ⟨wz, hwz⟩ : ∃ x, x = wr := ⟨_, rfl⟩
              rw [← hwz] at HZ
              have hqi : ¬ (q : Int) < rs.length := by omega
              clear hia hr1
              have hjz : JD wz S Tq j d s D (jnOf (ss ++ [⟨m, recsOf bs2⟩])) := by
                have := HZ.out.jd
                rw [← HR1.out] at this
                have e : (⟨false, m + q, ss ++ [⟨m, recsOf bs2⟩]⟩ : Jn) = jnOf (ss ++ [⟨m, recsOf bs2⟩]) := by
                  unfold jnOf
                  rw [nextOf_snoc]
                  have hl : (recsOf bs2).length = q := by
                    rw [HR1.out, List.length_map, List.length_take, ← HRL.out]
                    omega
                  simp only [hl]
                rw [← e]
                exact this
              have hzle : rsz (recsOf bs2) ≤ L2 := by have := recsOf_fits bs2; rw [HL2.out] at this; exact this
              have hbyz := (HZ.out.still 5 (by decide) (by decide) (by decide)).own ((StayB.below HRS.out.2.2.2 (Nat.le_refl _)).own HBY7.out.1)
              have hrdz := Rds.ofOwn hbyz
              have hfarz : ∀ ad, A6 = some ad → ¬ S ad.block ∧ ¬ Tq ad.block := fun ad e => by
                have h1 := ownRow_block HO6.out (g := ad.block) (by rw [e]; rfl)
                have h2 := HB16.out.size
                have h3 := HB5.out.1.size
                have h4 : wo.heap.size ≤ w5.heap.size := h3
                have h5 := H7.out.2.1.outs.size
                refine ⟨fun hs => ?_, fun ht => ?_⟩
                · have := HAT.out.jd.dk.lt _ hs
                  omega
                · rcases HZ.out.turn.nt _ ht with e2 | e2
                  · rcases H7.out.2.1.nt _ e2 with e3 | e3
                    · have := HAT.out.jd.jo.lt _ e3
                      omega
                    · omega
                  · omega
              have hfz : Fits (jnOf (ss ++ [⟨m, recsOf bs2⟩])) := by
                have h1 := in_fits (q := q) (fs := (scn bs2).1) (m := m) (go_fits HIN.out (fun m hm => (HFI.out m hm).1) HLL.out (by omega)) (by rw [HIN.out.len]; omega) hmx (by have := scn_fits bs2; rw [HL2.out] at this; omega) (by rw [← HRL.out]; omega)
                rw [← HR1.out] at h1
                exact ⟨by have := h1.next; show nextOf _ ≤ _; rw [nextOf_snoc]; have h2 := h1.recs ⟨m, recsOf bs2⟩ (by simp); unfold maxNo at hmx; show m + (recsOf bs2).length ≤ _; have h3 : (recsOf bs2).length ≤ 1073741824 := h2; omega, h1.segs, h1.nums, h1.recs, h1.size⟩
              have hnez : (jnOf (ss ++ [⟨m, recsOf bs2⟩])).segs ≠ [] := by simp [jnOf]
              have hturnz : TurnJ S T S Tq w wz := HAT.out.turn.trans ((TurnJ.below HB16.out : TurnJ S Tk S Tk wo w6).trans (H7.out.2.1.trans HZ.out.turn))
              obtain ⟨vs, p, m', g, o, c, hj, hsg, hvs, ⟨hgv, hvo⟩, hlast, hpl, _, _⟩ := hjz.jo.last hnez
              rw [jnOf_last] at hlast
              have c5 : wz.cell? ⟨j, 5, none⟩ = some (.slice (some ⟨g, o, none⟩) (p.length + 1) c) := by rw [hj.c5, hvs]
              have hpl30 : p.length ≤ 1099511627776 := by have := hfz.segs; omega
              have hlastc := fun W (hW : W.cell? ⟨j, 5, none⟩ = some (.slice (some ⟨g, o, none⟩) (p.length + 1) c)) => jlast_at W hW hpl30
              have hc1 := (o_cell (i := p.length * 3 + 1) (a := o + p.length * 3 + 1) hj.row hgv (cG_at p m' [] 1 (by decide)) (by omega)).1
              have hc1z : wz.cell? ⟨g, o + p.length * 3 + 1, none⟩ = some (.int .i64 (rsz (recsOf bs2) : Nat)) := by
                rw [hc1]
                have : m'.sg.size = rsz (recsOf bs2) := by rw [← hlast]; rfl
                show some (Value.int .i64 (m'.sg.size : Nat)) = _
                rw [this]
              generalize hZ : rsz (recsOf bs2) = Z at *
              have HZZ := Lib.hid hZ
              have HJZ := Lib.hid (And.intro hjz hturnz)
              have HBZ := Lib.hid (And.intro hbyz hfarz)
              clear hjz hfz hnez hturnz hj hsg hvs hgv hvo hlast hpl hc1 hZ hbyz hrdz hfarz
              by_cases heq : Z = L2
              · have hzi : (Z : Int) = (L2 : Int) := by omega
                go_wp2_with fail
                rw [← hwz]
                refine (hlastc _ c5).mono ?_
                rintro e w10 ⟨rfl, q1, rfl⟩
                have hc12 : (wz.drewN q1).cell? ⟨g, o + p.length * 3 + 1, none⟩ = some (.int .i64 (Z : Nat)) := hc1z
                have hbw1 : Below wz.heap.size wz (wz.drewN q1) := bDrewN (Below.refl _ _) q1
                have hgin := HIN.out.next hkl HGO.out (by rw [← HM.out, HBS2.out, HL2.out, HZZ.out]; exact heq)
                rw [← HM.out, HBS2.out, show m + (recsOf bs2).length = nextOf (ss ++ [⟨m, recsOf bs2⟩]) by rw [nextOf_snoc]] at hgin
                have hnum2 : (wz.drewN q1).ownsRow 0 31 1 (.slice (some ⟨gn, 0, none⟩) n cn) n (cU ns) :=
                  (HZ.out.still 31 (by decide) (by decide) (by decide)).own ((StayB.below HRS.out.2.2.2 (Nat.le_refl _)).own ((H7.out.2.2 31 (by decide) (by decide) (by decide)).own ((StayB.below HB16.out (Nat.le_refl _)).own HAT.out.num)))
                have hga : GoAt w (wz.drewN q1) S T Tq j d s D (ss ++ [⟨m, recsOf bs2⟩]) (some ⟨gn, 0, none⟩) n cn ns (.slice A6 L2 c6) bs2 := by
                  refine ⟨HJZ.out.1.go hbw1, HJZ.out.2.trans (TurnJ.below hbw1), hnum2, ?_, fun b hb => ?_⟩
                  · rw [HL2.out]
                    exact ownRow_base (own_below HBZ.out.1 hbw1) (fun _ _ => Nat.zero_le _)
                  · cases hA : A6 with
                    | none => rw [hA] at hb; cases hb
                    | some ad =>
                      rw [hA] at hb
                      have : ad.block = b := by simpa [Value.ownBlock] using hb
                      rw [← this]
                      exact HBZ.out.2 ad hA
                have HG := Lib.hid (And.intro hgin hga)
                have HLZ := Lib.hid (show bs2.length = (lastOf (ss ++ [⟨m, recsOf bs2⟩])).size by rw [lastOf_snoc, HL2.out]; show L2 = rsz (recsOf bs2); rw [HZZ.out]; exact heq.symm)
                clear hlastc c5 hc1z hgin hnum2 hga hbw1 heq
                generalize wz.drewN q1 = w10 at *
                go_wp2
                go_roundw
                case rel => exact ⟨k + 1, ss ++ [⟨m, recsOf bs2⟩], Tq, bs2, by omega, by go_num, HG.out.1, HG.out.2, fun h => by omega, fun _ => HLZ.out⟩
                case measure => simp [intOf]; omega
              · have hzi : ¬ (Z : Int) = (L2 : Int) := by omega
                go_wp2_with fail
                rw [← hwz]
                refine (hlastc _ c5).mono ?_
                rintro e w10 ⟨rfl, q1, rfl⟩
                have hbw1 : Below wz.heap.size wz (wz.drewN q1) := bDrewN (Below.refl _ _) q1
                have hc12 : (wz.drewN q1).cell? ⟨g, o + p.length * 3 + 1, none⟩ = some (.int .i64 (Z : Nat)) := hc1z
                have HZ2 := Lib.hid (HZ.out.go hbw1)
                have HNE := Lib.hid (show rsz (recsOf bs2) ≠ L2 by rw [HZZ.out]; exact heq)
                clear hlastc c5 hc1z hbw1 heq HZ HJZ HBZ hwz
                generalize wz.drewN q1 = w10 at *
                clear wz
                obtain ⟨wz, hwz⟩ : ∃ x, x = w10 := ⟨_, rfl⟩
                rw [← hwz] at HZ2
                have HZ := HZ2
                clear HZ2
                have hjz : JD wz S Tq j d s D (jnOf (ss ++ [⟨m, recsOf bs2⟩])) := by
                  have := HZ.out.jd
                  rw [← HR1.out] at this
                  have e : (⟨false, m + q, ss ++ [⟨m, recsOf bs2⟩]⟩ : Jn) = jnOf (ss ++ [⟨m, recsOf bs2⟩]) := by
                    unfold jnOf
                    rw [nextOf_snoc]
                    have hl : (recsOf bs2).length = q := by
                      rw [HR1.out, List.length_map, List.length_take, ← HRL.out]
                      omega
                    simp only [hl]
                  rw [← e]
                  exact this
                have hzle : rsz (recsOf bs2) ≤ L2 := by have := recsOf_fits bs2; rw [HL2.out] at this; exact this
                have hbyz := (HZ.out.still 5 (by decide) (by decide) (by decide)).own ((StayB.below HRS.out.2.2.2 (Nat.le_refl _)).own HBY7.out.1)
                have hrdz := Rds.ofOwn hbyz
                have hfarz : ∀ ad, A6 = some ad → ¬ S ad.block ∧ ¬ Tq ad.block := fun ad e => by
                  have h1 := ownRow_block HO6.out (g := ad.block) (by rw [e]; rfl)
                  have h2 := HB16.out.size
                  have h3 := HB5.out.1.size
                  have h4 : wo.heap.size ≤ w5.heap.size := h3
                  have h5 := H7.out.2.1.outs.size
                  refine ⟨fun hs => ?_, fun ht => ?_⟩
                  · have := HAT.out.jd.dk.lt _ hs
                    omega
                  · rcases HZ.out.turn.nt _ ht with e2 | e2
                    · rcases H7.out.2.1.nt _ e2 with e3 | e3
                      · have := HAT.out.jd.jo.lt _ e3
                        omega
                      · omega
                    · omega
                have hfz : Fits (jnOf (ss ++ [⟨m, recsOf bs2⟩])) := by
                  have h1 := in_fits (q := q) (fs := (scn bs2).1) (m := m) (go_fits HIN.out (fun m hm => (HFI.out m hm).1) HLL.out (by omega)) (by rw [HIN.out.len]; omega) hmx (by have := scn_fits bs2; rw [HL2.out] at this; omega) (by rw [← HRL.out]; omega)
                  rw [← HR1.out] at h1
                  exact ⟨by have := h1.next; show nextOf _ ≤ _; rw [nextOf_snoc]; have h2 := h1.recs ⟨m, recsOf bs2⟩ (by simp); unfold maxNo at hmx; show m + (recsOf bs2).length ≤ _; have h3 : (recsOf bs2).length ≤ 1073741824 := h2; omega, h1.segs, h1.nums, h1.recs, h1.size⟩
                have hnez : (jnOf (ss ++ [⟨m, recsOf bs2⟩])).segs ≠ [] := by simp [jnOf]
                have hturnz : TurnJ S T S Tq w wz := HAT.out.turn.trans ((TurnJ.below HB16.out : TurnJ S Tk S Tk wo w6).trans (H7.out.2.1.trans HZ.out.turn))
                obtain ⟨vs, p, m', g, o, c, hj, hsg, hvs, ⟨hgv, hvo⟩, hlast, hpl, _, _⟩ := hjz.jo.last hnez
                rw [jnOf_last] at hlast
                have c5 : wz.cell? ⟨j, 5, none⟩ = some (.slice (some ⟨g, o, none⟩) (p.length + 1) c) := by rw [hj.c5, hvs]
                have hpl30 : p.length ≤ 1099511627776 := by have := hfz.segs; omega
                have hlastc := fun W (hW : W.cell? ⟨j, 5, none⟩ = some (.slice (some ⟨g, o, none⟩) (p.length + 1) c)) => jlast_at W hW hpl30
                have hc1 := (o_cell (i := p.length * 3 + 1) (a := o + p.length * 3 + 1) hj.row hgv (cG_at p m' [] 1 (by decide)) (by omega)).1
                have hc1z : wz.cell? ⟨g, o + p.length * 3 + 1, none⟩ = some (.int .i64 (rsz (recsOf bs2) : Nat)) := by
                  rw [hc1]
                  have : m'.sg.size = rsz (recsOf bs2) := by rw [← hlast]; rfl
                  show some (Value.int .i64 (m'.sg.size : Nat)) = _
                  rw [this]
                have hstop : goOver (lookD s.data.toList D) none ns = ss ++ [⟨m, recsOf bs2⟩] := by
                  have h1 := HIN.out.stop hkl HGO.out (by rw [← HM.out, HBS2.out, HL2.out]; exact HNE.out)
                  rw [← HM.out, HBS2.out] at h1
                  exact h1
                have hbyts : byts D (segN s.data.toList m) = bs2 := HBS2.out
                have hcutD : cutD s.data.toList D (ss ++ [⟨m, recsOf bs2⟩]) = seqD D (cutSteps s.data.toList (bs2.take (rsz (recsOf bs2))) m) := by
                  unfold cutD
                  have hc : isCut s.data.toList D (ss ++ [⟨m, recsOf bs2⟩]) = true := by
                    unfold isCut
                    rw [lastOf_snoc]
                    refine decide_eq_true ⟨by simp, ?_⟩
                    show rsz (recsOf bs2) ≠ (byts D (segN s.data.toList m)).length
                    rw [hbyts, HL2.out]
                    exact HNE.out
                  rw [hc, lastOf_snoc, if_pos rfl]
                  show seqD D (cutSteps s.data.toList ((byts D (segN s.data.toList m)).take (rsz (recsOf bs2))) m) = _
                  rw [hbyts]
                have hcut := fun W (hb : Below wz.heap.size wz W) => jcut_any A6 (bs2.take (rsz (recsOf bs2))) (rsz (recsOf bs2)) c6 W (hjz.go hb) hst hok hfz hnez (by rw [List.length_take, HL2.out]; omega) (Nat.le_trans hzle HBY7.out.2.1) (by omega) (fun e => (HBY7.out.2.2 e).2)
                  (((hrdz.below hb).more hb.size).take (rsz (recsOf bs2)) |> fun h => by rw [← c8_take] at h; exact h) (fun ad e _ => hfarz ad e)
                rw [jnOf_last] at hcut
                have hzne := HNE.out
                have ES := Lib.hid (And.intro hstop hcutD)
                have HTZ := Lib.hid hturnz
                generalize hZ : rsz (recsOf bs2) = Z at *
                have HZZ := Lib.hid hZ
                have hzi : (Z : Int) ≤ L2 := by omega
                have hzi2 : ¬ (Z : Int) = (L2 : Int) := by omega
                have hL0 : ¬ (L2 : Int) = 0 := by omega
                have hzi3 : ((Z : Int) == (L2 : Int)) = false := by simp; omega
                have hcapi : (Z : Int) ≤ c6 := by have := HBY7.out.2.1; omega
                clear hjz hstop hbyts hcutD hzne hbyz hrdz hfz hnez hturnz hj hsg hvs hgv hvo hlast hpl hc1 hZ
                go_wp2_with fail
                rw [← hwz]
                refine (hlastc _ c5).mono ?_
                rintro e w10 ⟨rfl, q1, rfl⟩
                have c52 : (wz.drewN q1).cell? ⟨j, 5, none⟩ = some (.slice (some ⟨g, o, none⟩) (p.length + 1) c) := c5
                have hc12 : (wz.drewN q1).cell? ⟨g, o + p.length * 3 + 1, none⟩ = some (.int .i64 (Z : Nat)) := hc1z
                have hbw1 : Below wz.heap.size wz (wz.drewN q1) := bDrewN (Below.refl _ _) q1
                generalize wz.drewN q1 = w10 at *
                go_wp2_with fail
                refine (hlastc _ c52).mono ?_
                rintro e w11 ⟨rfl, q2, rfl⟩
                have hc13 : (w10.drewN q2).cell? ⟨g, o + p.length * 3 + 1, none⟩ = some (.int .i64 (Z : Nat)) := hc12
                have hbw2 : Below wz.heap.size wz (w10.drewN q2) := bDrewN hbw1 q2
                generalize w10.drewN q2 = w11 at *
                have hcut2 := hcut w11 hbw2
                clear hcut hlastc c5 c52 hc1z hc12
                go_wp2_with fail
                refine hcut2.mono ?_
                rintro e w12 ⟨rfl, S12, hjd12, ht12⟩
                have H12 := Lib.hid hjd12
                have HT12 := Lib.hid ((HTZ.out.trans (TurnJ.below hbw2)).trans ht12)
                clear hcut2 hjd12 ht12 hbw1 hbw2
                go_wp2
                (try rw [Exit.noGoto_ret])
                go_returns
                rw [ES.out.1, ES.out.2]
                exact ⟨by simp, S12, Tq, H12.out, HT12.out⟩
    · have EF := Lib.hid (hin.done (by rw [HN.out]; omega))
      have hki : ¬ (k : Int) < n := by omega
      clear hat hin
      have E := Lib.hid (show cutD s.data.toList D ss = (0, D) by
        have hc : isCut s.data.toList D ss = false := by
          unfold isCut
          refine decide_eq_false fun hc => hc.2 ?_
          have hk0 : k ≠ 0 := fun e => by
            have := HIN.out.len
            rw [e] at this
            exact hc.1 (List.eq_nil_of_length_eq_zero this)
          have hlm : lastOf ss ∈ ss := by
            unfold lastOf
            rw [List.getLastD_eq_getLast?, List.getLast?_eq_some_getLast hc.1]
            exact List.getLast_mem hc.1
          exact (HIN.out.mem _ hlm).2.2
        unfold cutD
        rw [hc]
        rfl)
      have hat2 := HAT.out
      by_cases hL : Lb = 0
      · have hLi : (Lb : Int) = 0 := by omega
        clear hat2
        go_wp2
        (try rw [Exit.noGoto_ret])
        go_returns
        rw [EF.out, E.out]
        exact ⟨by simp, S, Tk, by simpa [jEnd] using HAT.out.jd, HAT.out.turn⟩
      · have hLi : ¬ (Lb : Int) = 0 := by omega
        have hk0 : k ≠ 0 := fun e => hL (by rw [← HLb.out, HB.out.1 e]; rfl)
        have hne : ss ≠ [] := fun e => by
          have := HIN.out.len
          rw [e] at this
          exact hk0 this.symm
        obtain ⟨vs, p, m, g, o, c, hj, hsg, hvs, ⟨hgv, hvo⟩, hlast, hpl, _, _⟩ := hat2.jd.jo.last hne
        have c5 : wr.cell? ⟨j, 5, none⟩ = some (.slice (some ⟨g, o, none⟩) (p.length + 1) c) := by rw [hj.c5, hvs]
        have hlastc := jlast_at wr c5 (by have h1 : p.length + 1 = ss.length := hpl; have := HIN.out.len; omega)
        have hms : m.sg = lastOf ss := hlast.symm
        have hc1 := (o_cell (i := p.length * 3 + 1) (a := o + p.length * 3 + 1) hj.row hgv (cG_at p m [] 1 (by decide)) (by omega)).1
        have hc1' : ∀ q, (wr.drewN q).cell? ⟨g, o + p.length * 3 + 1, none⟩ = some (.int .i64 (Lb : Nat)) := fun q => by
          show wr.cell? _ = _
          rw [hc1, HB.out.2 hk0, ← hms]
        clear hat2 hj hsg hvs hgv hvo hlast hms hc1 hpl hL
        go_wp2_with fail
        refine hlastc.mono ?_
        rintro e w4 ⟨rfl, q, rfl⟩
        have hc := hc1' q
        have hb4 : Below wr.heap.size wr (wr.drewN q) := bDrewN (Below.refl _ wr) q
        have H4 := Lib.hid (HAT.out.jd.go hb4)
        have HT4 := Lib.hid (HAT.out.turn.trans (TurnJ.below hb4))
        clear hlastc hc1' hb4
        generalize wr.drewN q = w4 at *
        go_wp2
        (try rw [Exit.noGoto_ret])
        go_returns
        rw [EF.out, E.out]
        exact ⟨by simp, S, Tk, by simpa [jEnd] using H4.out, HT4.out⟩
end
end Go.Proofs.YtbobakfcmkaijaaGreatDoor
end
