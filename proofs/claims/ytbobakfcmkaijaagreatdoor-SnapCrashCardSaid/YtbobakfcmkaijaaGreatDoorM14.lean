/- Several texts, each a section: JCut. -/
import Derived.Test.YtbobakfcmkaijaaGreatDoorM13
section
/- The journal's cut: a segment made of its records. -/
namespace Go.Proofs.YtbobakfcmkaijaaGreatDoor
open Go.RowKit
set_option linter.unusedVariables false

section
variable {w w' w2 wr : World} {S T S' T' S2 T2 : Nat → Prop} {j d : Nat} {s : ByteArray} {D D' : Dsk} {J J' : Jn}

theorem cut1_enters : ∀ args w, (callFunc 184 args).run Tryz.prog w = .ok (.enter 184 args) w := enters_of Tryz.func184 (by kernel_rfl) rfl
theorem cut2_enters : ∀ args w, (callFunc 185 args).run Tryz.prog w = .ok (.enter 185 args) w := enters_of Tryz.func185 (by kernel_rfl) rfl
theorem cutN_str (s : ByteArray) : s ++ ByteArray.mk #[45, 99, 117, 116] = strOf (cutN s.data.toList) := by
  apply ByteArray.ext
  apply Array.ext'
  simp [strOf, cutN]
theorem cut_size (h : okJ s.data.toList = true) : (strOf (cutN s.data.toList)).size ≤ 12 := by
  have := nm_size h
  rw [strOf_size]
  simp [cutN]
  omega

theorem does_cut1 (l : Nm) (hl : (strOf l).size ≤ 9223372036854775807) (b : List Int) (A : Option Addr) (L c bx : Nat) (h : Dk 0 w S d D) (hr : Room D) (hok : Okd D)
    (hbL : b.length = L) (hLc : L ≤ c) (hL63 : L ≤ 9223372036854775807) (hA0 : A = none → c = 0) (hrd : Rds w w.heap.size A (c8 b)) (hbS : ∀ ad, A = some ad → c8 b ≠ [] → ¬ S ad.block) (hbx : Whole w bx 30 #[.slice A L c]) :
    Does 184 #[.pointer (some ⟨bx, 0, none⟩)] (strOf l) w S d (dAppend D l b) := by
  have hcon := append_any (strOf l) hl b A L c w h hr hok hbL hLc hL63 hA0 hrd hbS
  rw [lst_strOf] at hcon
  have cb : w.cell? ⟨bx, 0, none⟩ = some (.slice A L c) := hbx.cell 0
  unfold Does
  show Calls Tryz.prog 184 #[.pointer (some ⟨d, 0, none⟩), .string (strOf l), .pointer (some ⟨bx, 0, none⟩)] w _
  generalize dAppend D l b = r at *
  clear hrd hbS hbx h hr hok
  go_enter Tryz.func184, Tryz.ntmps184
  go_wp2_with fail
  refine hcon.mono ?_
  rintro e w1 ⟨rfl, S', hk, ht⟩
  have HK := Lib.hid hk
  have HT := Lib.hid ht
  clear hcon hk ht
  go_wp2
  go_returns
  exact ⟨by simp, S', HK.out, HT.out⟩

set_option maxHeartbeats 1600000 in
set_option maxRecDepth 10000 in
theorem does_cut2 (l : Nm) (hl : (strOf l).size ≤ 9223372036854775807) (bx : Nat) (h : JD w S T j d s D J) (hr : Room D) (hok : Okd D) (hf : Fits J) (hne : J.segs ≠ []) (hbx : Whole w bx 46 #[.pointer (some ⟨j, 0, none⟩)]) :
    Does 185 #[.pointer (some ⟨bx, 0, none⟩)] (strOf l) w S d (dRename D l (segN s.data.toList J.last.num)) := by
  have cb : w.cell? ⟨bx, 0, none⟩ = some (.pointer (some ⟨j, 0, none⟩)) := hbx.cell 0
  obtain ⟨vs, p, m, g, o, c, hj, hsg, hvs, ⟨hgv, hvo⟩, hlast, hpl, _, _⟩ := h.jo.last hne
  have c5 : w.cell? ⟨j, 5, none⟩ = some (.slice (some ⟨g, o, none⟩) (p.length + 1) c) := by rw [hj.c5, hvs]
  have hpn : p.length ≤ 1099511627776 := by have := hf.segs; omega
  have hm : m.num ≤ maxNo := hf.nums m.sg (by rw [hsg]; simp)
  have hc0 : w.cell? ⟨g, o + p.length * 3, none⟩ = some (.int .u64 m.num) := (o_cell (i := p.length * 3 + 0) (a := o + p.length * 3) hj.row hgv (cG_at p m [] 0 (by decide)) (by omega)).1
  rw [hlast, show m.sg.num = m.num from rfl]
  unfold Does
  show Calls Tryz.prog 185 #[.pointer (some ⟨d, 0, none⟩), .string (strOf l), .pointer (some ⟨bx, 0, none⟩)] w _
  have hlastc : ∀ W : World, W.cell? ⟨j, 5, none⟩ = some (.slice (some ⟨g, o, none⟩) (p.length + 1) c) → Calls Tryz.prog 56 #[.pointer (some ⟨j, 0, none⟩)] W fun r w' => r = .returned (.pointer (some ⟨g, o + p.length * 3, none⟩)) ∧ ∃ q, w' = W.drewN q := fun W hW => jlast_at W hW hpn
  have H := Lib.hid h
  clear h hj hvs hgv hvo hlast hsg hbx
  go_enter Tryz.func185, Tryz.ntmps185
  go_wp2
  have hgl : g < w.heap.size := World.block_lt_of_cell? w _ hc0
  have hbl : bx < w.heap.size := World.block_lt_of_cell? w _ cb
  have hjl : j < w.heap.size := World.block_lt_of_cell? w _ c5
  have hS : ∀ w', Below w.heap.size w w' → w'.cell? ⟨bx, 0, none⟩ = some (.pointer (some ⟨j, 0, none⟩)) ∧ w'.cell? ⟨g, o + p.length * 3, none⟩ = some (.int .u64 m.num) ∧ Below w.heap.size w w' := fun w' hb =>
    ⟨by rw [hb.cell (p := ⟨bx, 0, none⟩) hbl]; exact cb, by rw [hb.cell (p := ⟨g, o + p.length * 3, none⟩) hgl]; exact hc0, hb⟩
  refine wp_region_G 9 (fun w' => w'.cell? ⟨bx, 0, none⟩ = some (.pointer (some ⟨j, 0, none⟩)) ∧ w'.cell? ⟨g, o + p.length * 3, none⟩ = some (.int .u64 m.num) ∧ Below w.heap.size w w') rfl (by kernel_rfl) (hS _ (Below.refl _ _).drew) (fun hSS hst => ?_)
  refine wpAnyG_take (i := 0) (v := ?_) rfl (by kernel_rfl) hst (by kernel_rfl) (by kernel_rfl) (fun _ _ _ h => h) hSS (Or.inl ⟨by rfl, ?_⟩) (fun hst2 => ?_)
  rotate_left
  · (intro w hSw; (try dsimp only at hSw); go_simp; try (with_reducible rfl))
  clear hst; have hst := hst2; clear hst2
  try simp only [Act.put, List.setIfInBounds_toArray, List.set_cons_zero, List.set_cons_succ]
  refine wpAnyG_take (i := 1) (v := ?_) rfl (by kernel_rfl) hst (by kernel_rfl) (by kernel_rfl) (fun _ _ _ h => h) hSS (Or.inl ⟨by rfl, ?_⟩) (fun hst2 => ?_)
  rotate_left
  · (intro w hSw; (try dsimp only at hSw); go_simp; try (with_reducible rfl))
  clear hst; have hst := hst2; clear hst2
  try simp only [Act.put, List.setIfInBounds_toArray, List.set_cons_zero, List.set_cons_succ]
  refine wpAnyG_take (i := 2) (v := ?_) rfl (by kernel_rfl) hst (by kernel_rfl) (by kernel_rfl) (fun _ _ _ h => h) hSS (Or.inl ⟨by rfl, ?_⟩) (fun hst2 => ?_)
  rotate_left
  · (intro w hSw; (try dsimp only at hSw); go_simp; try (with_reducible rfl))
  clear hst; have hst := hst2; clear hst2
  try simp only [Act.put, List.setIfInBounds_toArray, List.set_cons_zero, List.set_cons_succ]
  refine wpAnyG_take (i := 3) (v := ?_) rfl (by kernel_rfl) hst (by kernel_rfl) (by kernel_rfl) (fun _ _ _ h => h) hSS (Or.inl ⟨by rfl, ?_⟩) (fun hst2 => ?_)
  rotate_left
  · (intro w hSw; (try dsimp only at hSw); go_simp; try (with_reducible rfl))
  clear hst; have hst := hst2; clear hst2
  try simp only [Act.put, List.setIfInBounds_toArray, List.set_cons_zero, List.set_cons_succ]
  refine wpAnyG_one (i := 4) (by kernel_rfl) rfl (by kernel_rfl) hst (fun K hK => ?_)
  go_simp
  have b0 : Below w.heap.size w w.drew := (Below.refl _ w).drew
  refine (hlastc _ (by rw [b0.cell (p := ⟨j, 5, none⟩) hjl]; exact c5)).mono ?_
  rintro r w4 ⟨rfl, q, rfl⟩
  have b4 : Below w.heap.size w (w.drew.drewN q) := bDrewN b0 q
  refine hK.out _ _ (hS _ b4) (fun hSS2 hst2 => ?_)
  clear hst hK K hSS
  have hst := hst2
  have hSS := hSS2
  clear hst2 hSS2
  try simp only [Act.put, List.setIfInBounds_toArray, List.set_cons_zero, List.set_cons_succ]
  clear b0
  generalize w.drew.drewN q = w4 at *
  refine wpAnyG_take (i := 5) (v := ?_) rfl (by kernel_rfl) hst (by kernel_rfl) (by kernel_rfl) (fun _ _ _ h => h) hSS (Or.inl ⟨by rfl, ?_⟩) (fun hst2 => ?_)
  rotate_left
  · (intro w hSw; (try dsimp only at hSw); go_simp; try (with_reducible rfl))
  clear hst; have hst := hst2; clear hst2
  try simp only [Act.put, List.setIfInBounds_toArray, List.set_cons_zero, List.set_cons_succ]
  refine wpAnyG_take (i := 6) (v := ?_) rfl (by kernel_rfl) hst (by kernel_rfl) (by kernel_rfl) (fun _ _ _ h => h) hSS (Or.inl ⟨by rfl, ?_⟩) (fun hst2 => ?_)
  rotate_left
  · (intro w hSw; (try dsimp only at hSw); go_simp; try (with_reducible rfl))
  clear hst; have hst := hst2; clear hst2
  try simp only [Act.put, List.setIfInBounds_toArray, List.set_cons_zero, List.set_cons_succ]
  refine wpAnyG_take (i := 7) (v := ?_) rfl (by kernel_rfl) hst (by kernel_rfl) (by kernel_rfl) (fun _ _ _ h => h) hSS (Or.inl ⟨by rfl, ?_⟩) (fun hst2 => ?_)
  rotate_left
  · (intro w hSw; (try dsimp only at hSw); go_simp; try (with_reducible rfl))
  clear hst; have hst := hst2; clear hst2
  try simp only [Act.put, List.setIfInBounds_toArray, List.set_cons_zero, List.set_cons_succ]
  refine wpAnyG_one (i := 8) (by kernel_rfl) rfl (by kernel_rfl) hst (fun K hK => ?_)
  go_simp
  have h4 := H.out.go b4
  refine (jfile_any m.num hm w4 h4).mono ?_
  rintro r w5 ⟨rfl, hb5⟩
  have b5 : Below w.heap.size w w5 := b4.trans (hb5.mono b4.size)
  refine hK.out _ _ (hS _ b5) (fun hSS2 hst2 => ?_)
  clear hst hK K hSS
  have hst := hst2
  have hSS := hSS2
  clear hst2 hSS2
  try simp only [Act.put, List.setIfInBounds_toArray, List.set_cons_zero, List.set_cons_succ]
  clear h4
  have h5 := H.out.go b5
  have hsz := seg_size h5.nm m.num
  have hren := rename_any (strOf l) (strOf (segN s.data.toList m.num)) hl (by omega) w5 h5.dk hr hok
  rw [lst_strOf, lst_strOf] at hren
  refine wpAnyG_pass (i := 9) (by kernel_rfl) rfl (by kernel_rfl) (fun K hK => ?_)
  go_simp
  refine hren.mono ?_
  rintro r w6 ⟨rfl, S6, hk, ht⟩
  have HK := Lib.hid hk
  have HT := Lib.hid ((Turn.below b5 : Turn S S w w5).trans ht)
  refine hK.out _ _ ?_
  clear hk ht hren h5 hK K hSS hst hS
  try simp only [Act.put, List.setIfInBounds_toArray, List.set_cons_zero, List.set_cons_succ]
  refine wpAnyG_last (i := 10) (by kernel_rfl) rfl (by kernel_rfl) (by kernel_rfl) (fun K hK => ?_)
  go_simp
  refine hK.out _ _ ?_
  go_wp2
  go_returns
  exact ⟨by simp, S6, HK.out, HT.out⟩

def cutFn (B2 B3 : Nat) : Nat → Nat × Array Value
  | 0 => (80, #[])
  | 1 => (184, #[.pointer (some ⟨B3, 0, none⟩)])
  | 2 => (87, #[])
  | _ => (185, #[.pointer (some ⟨B2, 0, none⟩)])
theorem cutFn_enters (B2 B3 k : Nat) : ∀ args w, (callFunc (cutFn B2 B3 k).1 args).run Tryz.prog w = .ok (.enter (cutFn B2 B3 k).1 args) w := by
  match k with
  | 0 => exact make_enters
  | 1 => exact cut1_enters
  | 2 => exact sync_enters
  | _ + 3 => exact cut2_enters
theorem cutSteps_length (l : Nm) (b : List Int) (n : Nat) : (cutSteps l b n).length = 4 := rfl
theorem seqD_snoc : ∀ (fs : List (Dsk → Int × Dsk)) (D : Dsk) (f : Dsk → Int × Dsk), seqD D (fs ++ [f]) = if (seqD D fs).1 = 0 then f (seqD D fs).2 else seqD D fs
  | [], D, f => by
    show (if (f D).1 = 0 then seqD (f D).2 [] else f D) = _
    simp only [seqD, if_true]
    split
    · rename_i h
      exact Prod.ext h.symm rfl
    · rfl
  | g :: fs, D, f => by
    rw [List.cons_append, seqD, seqD]
    by_cases h : (g D).1 = 0
    · rw [if_pos h, if_pos h, seqD_snoc fs]
    · rw [if_neg h, if_neg h, if_neg h]
theorem seqD_split : ∀ (fs gs : List (Dsk → Int × Dsk)) (D : Dsk), seqD D (fs ++ gs) = if (seqD D fs).1 = 0 then seqD (seqD D fs).2 gs else seqD D fs
  | [], gs, D => by simp [seqD]
  | g :: fs, gs, D => by
    rw [List.cons_append, seqD, seqD]
    by_cases h : (g D).1 = 0
    · rw [if_pos h, if_pos h, seqD_split fs]
    · rw [if_neg h, if_neg h, if_neg h]

/-- what stands at a step of the cut -/
structure CutAt (w0 wr : World) (S T : Nat → Prop) (j d : Nat) (s : ByteArray) (J : Jn) (D0 Dk : Dsk) (b : List Int) (A : Option Addr) (L c n k B2 B3 B4 : Nat) (Sk : Nat → Prop) : Prop where
  jd : JD wr Sk T j d s Dk J
  turn : TurnJ S T Sk T w0 wr
  did : seqD D0 ((cutSteps s.data.toList b n).take k) = (0, Dk)
  ok : Okd Dk
  steps : Dk.steps ≤ D0.steps + k * 20000000
  b2 : Whole wr B2 46 #[.pointer (some ⟨j, 0, none⟩)]
  b3 : Whole wr B3 30 #[.slice A L c]
  b4 : Whole wr B4 62 #[.func (.func (cutFn B2 B3 0).1) #[] (cutFn B2 B3 0).2, .func (.func (cutFn B2 B3 1).1) #[] (cutFn B2 B3 1).2, .func (.func (cutFn B2 B3 2).1) #[] (cutFn B2 B3 2).2, .func (.func (cutFn B2 B3 3).1) #[] (cutFn B2 B3 3).2]
  far : ∀ x, (x = B2 ∨ x = B3 ∨ x = B4) → ¬ Sk x ∧ ¬ T x
  rd : Rds wr wr.heap.size A (c8 b)
  rdS : ∀ ad, A = some ad → c8 b ≠ [] → ¬ Sk ad.block ∧ ¬ T ad.block

theorem cut_step_ok {l : Nm} {b : List Int} {n : Nat} (hb : b.length ≤ 1073741824) {k : Nat} (hk : k < (cutSteps l b n).length) {D : Dsk} (h : Okd D) : Okd ((cutSteps l b n)[k] D).2 ∧ ((cutSteps l b n)[k] D).2.steps ≤ D.steps + 20000000 := by
  rw [cutSteps_length] at hk
  match k, hk with
  | 0, _ => exact ⟨okd_make h _, by have := (steps_make D (cutN l)).1; show (dMake _ _).2.steps ≤ _; omega⟩
  | 1, _ => exact ⟨okd_append h _ _, by have := (steps_append D (cutN l) b).1; show (dAppend _ _ _).2.steps ≤ _; omega⟩
  | 2, _ => exact ⟨okd_sync h _, by have := (steps_sync D (cutN l)).1; show (dSync _ _).2.steps ≤ _; omega⟩
  | 3, _ => exact ⟨okd_rename h _ _, by have := (steps_rename D (cutN l) (segN l n)).1; show (dRename _ _ _).2.steps ≤ _; omega⟩
theorem CutAt.does {w0 : World} {D0 Dk : Dsk} {b : List Int} {A : Option Addr} {L c k B2 B3 B4 : Nat} {Sk : Nat → Prop} (h : CutAt w0 wr S T j d s J D0 Dk b A L c J.last.num k B2 B3 B4 Sk) (hst : D0.steps ≤ 549755813888) (hf : Fits J) (hne : J.segs ≠ [])
    (hbL : b.length = L) (hLc : L ≤ c) (hL30 : L ≤ 1073741824) (hA0 : A = none → c = 0) (hk : k < (cutSteps s.data.toList b J.last.num).length) :
    Does (cutFn B2 B3 k).1 (cutFn B2 B3 k).2 (strOf (cutN s.data.toList)) wr Sk d ((cutSteps s.data.toList b J.last.num)[k] Dk) := by
  have hsz := cut_size h.jd.nm
  have hroom : Room Dk := okd_room h.ok (by have := h.steps; rw [cutSteps_length] at hk; omega)
  rw [cutSteps_length] at hk
  match k, hk, h with
  | 0, _, h => exact does_make _ (by omega) h.jd.dk hroom
  | 1, _, h => exact does_cut1 _ (by omega) b A L c B3 h.jd.dk hroom h.ok hbL hLc (by omega) hA0 h.rd (fun ad e hne => (h.rdS ad e hne).1) h.b3
  | 2, _, h => exact does_sync _ (by omega) h.jd.dk hroom
  | 3, _, h => exact does_cut2 _ (by omega) B2 h.jd hroom h.ok hf hne h.b2
theorem CutAt.cell {w0 : World} {D0 Dk : Dsk} {b : List Int} {A : Option Addr} {L c n k B2 B3 B4 : Nat} {Sk : Nat → Prop} (h : CutAt w0 wr S T j d s J D0 Dk b A L c n k B2 B3 B4 Sk) (hk : k < 4) : wr.cell? ⟨B4, k, none⟩ = some (.func (.func (cutFn B2 B3 k).1) #[] (cutFn B2 B3 k).2) := by
  match k, hk, h with
  | 0, _, h => exact h.b4.cell 0
  | 1, _, h => exact h.b4.cell 1
  | 2, _, h => exact h.b4.cell 2
  | 3, _, h => exact h.b4.cell 3
theorem cut_take {l : Nm} {b : List Int} {n k : Nat} (hk : k < (cutSteps l b n).length) {D0 Dk : Dsk} (h : seqD D0 ((cutSteps l b n).take k) = (0, Dk)) : seqD D0 ((cutSteps l b n).take (k + 1)) = (cutSteps l b n)[k] Dk := by
  rw [List.take_add_one, List.getElem?_eq_getElem hk]
  show seqD D0 (_ ++ [_]) = _
  rw [seqD_snoc, h, if_pos rfl]
theorem cut_stop {l : Nm} {b : List Int} {n k : Nat} (hk : k < (cutSteps l b n).length) {D0 Dk : Dsk} (h : seqD D0 ((cutSteps l b n).take k) = (0, Dk)) (he : ((cutSteps l b n)[k] Dk).1 ≠ 0) : seqD D0 (cutSteps l b n) = (cutSteps l b n)[k] Dk := by
  have h1 := cut_take hk h
  have h2 := seqD_split ((cutSteps l b n).take (k + 1)) ((cutSteps l b n).drop (k + 1)) D0
  rw [List.take_append_drop, h1, if_neg he] at h2
  exact h2
/-- a step of the disk's behind another -/
theorem CutAt.next {w0 : World} {D0 Dk Dk' : Dsk} {b : List Int} {A : Option Addr} {L c n k B2 B3 B4 : Nat} {Sk Sk' : Nat → Prop} (h : CutAt w0 wr S T j d s J D0 Dk b A L c n k B2 B3 B4 Sk) (hjd : JD w' Sk' T j d s Dk' J) (ht : TurnJ Sk T Sk' T wr w')
    (hdid : seqD D0 ((cutSteps s.data.toList b n).take (k + 1)) = (0, Dk')) (hok : Okd Dk') (hst : Dk'.steps ≤ Dk.steps + 20000000) : CutAt w0 w' S T j d s J D0 Dk' b A L c n (k + 1) B2 B3 B4 Sk' := by
  have hfar : ∀ x, (x = B2 ∨ x = B3 ∨ x = B4) → ¬ (Sk x ∨ T x) := fun x hx hh => by rcases hh with hh | hh; exact (h.far x hx).1 hh; exact (h.far x hx).2 hh
  refine ⟨hjd, h.turn.trans ht, hdid, hok, by have := h.steps; omega, h.b2.outs ht.outs (hfar _ (.inl rfl)), h.b3.outs ht.outs (hfar _ (.inr (.inl rfl))), h.b4.outs ht.outs (hfar _ (.inr (.inr rfl))), fun x hx => ⟨fun hh => ?_, (h.far x hx).2⟩, ?_, ?_⟩
  · rcases ht.ns x hh with e | e
    · exact (h.far x hx).1 e
    · have : x < wr.heap.size := by
        rcases hx with rfl | rfl | rfl
        · exact h.b2.lt
        · exact h.b3.lt
        · exact h.b4.lt
      omega
  · exact Rds.outsW h.rd ht.outs (Nat.le_refl _) (fun ad e hne hh => by rcases hh with hh | hh; exact (h.rdS ad e hne).1 hh; exact (h.rdS ad e hne).2 hh)
  · intro ad e hne
    refine ⟨fun hh => ?_, (h.rdS ad e hne).2⟩
    rcases ht.ns _ hh with e2 | e2
    · exact (h.rdS ad e hne).1 e2
    · obtain ⟨ad', e3, hlt, _⟩ := h.rd hne
      obtain rfl := Option.some.inj (e.symm.trans e3)
      omega

theorem CutAt.go {w0 : World} {D0 Dk : Dsk} {b : List Int} {A : Option Addr} {L c n k B2 B3 B4 : Nat} {Sk : Nat → Prop} (h : CutAt w0 wr S T j d s J D0 Dk b A L c n k B2 B3 B4 Sk) (hb : Below wr.heap.size wr w') : CutAt w0 w' S T j d s J D0 Dk b A L c n k B2 B3 B4 Sk :=
  ⟨h.jd.go hb, h.turn.trans (TurnJ.below hb), h.did, h.ok, h.steps, h.b2.go hb, h.b3.go hb, h.b4.go hb, h.far, (h.rd.below hb).more hb.size, h.rdS⟩
set_option maxHeartbeats 3200000 in
set_option maxRecDepth 10000 in
theorem jcut_any (A : Option Addr) (b : List Int) (L c : Nat) (w : World) (h : JD w S T j d s D J) (hst : D.steps ≤ 549755813888) (hok : Okd D) (hf : Fits J) (hne : J.segs ≠ [])
    (hbL : b.length = L) (hLc : L ≤ c) (hL30 : L ≤ 1073741824) (hA0 : A = none → c = 0) (hrd : Rds w w.heap.size A (c8 b)) (hbS : ∀ ad, A = some ad → c8 b ≠ [] → ¬ S ad.block ∧ ¬ T ad.block) :
    Calls Tryz.prog 163 #[.pointer (some ⟨j, 0, none⟩), .slice A L c] w fun e w' => e = .returned (.int .i64 (seqD D (cutSteps s.data.toList b J.last.num)).1) ∧ ∃ S', JD w' S' T j d s (seqD D (cutSteps s.data.toList b J.last.num)).2 (jEnd J (seqD D (cutSteps s.data.toList b J.last.num)).1) ∧ TurnJ S T S' T w w' := by
  have H := Lib.hid h
  have HR := Lib.hid hrd
  have HS := Lib.hid hbS
  clear h hrd hbS
  go_enter Tryz.func163, Tryz.ntmps163
  go_wp2
  go_loopw [16] (fun i wr => ∃ (k : Nat) (Dk : Dsk) (Sk : Nat → Prop), k ≤ 4 ∧ i = .int .i64 k ∧ CutAt w wr S T j d s J D Dk b A L c J.last.num k w.heap.size (w.heap.size + 1) (w.heap.size + 1 + 1) Sk) (fun i _ => 4 - (intOf i).toNat)
  case atStart =>
    refine ⟨0, D, S, by decide, rfl, ?_⟩
    have hltS := H.out.dk.lt
    have hltT := H.out.jo.lt
    have hb : Below w.heap.size w (((w.alloc (.cells #[.pointer (some ⟨j, 0, none⟩)] 46)).alloc (.cells #[.slice A L c] 30)).alloc (.cells #[.func (.func 80) #[] #[], .func (.func 184) #[] #[.pointer (some ⟨w.heap.size + 1, 0, none⟩)], .func (.func 87) #[] #[], .func (.func 185) #[] #[.pointer (some ⟨w.heap.size, 0, none⟩)]] 62)) :=
      (((Below.refl _ w).alloc (Nat.le_refl _) _).alloc (by simp) _).alloc (by simp; omega) _
    refine ⟨H.out.go hb, TurnJ.below hb, rfl, hok, by omega, ((Whole.new w _ _).alloc _).alloc _, ?_, ?_, ?_, (HR.out.below hb).more hb.size, HS.out⟩
    · have := (Whole.new (w.alloc (.cells #[.pointer (some ⟨j, 0, none⟩)] 46)) 30 #[.slice A L c]).alloc (.cells #[.func (.func 80) #[] #[], .func (.func 184) #[] #[.pointer (some ⟨w.heap.size + 1, 0, none⟩)], .func (.func 87) #[] #[], .func (.func 185) #[] #[.pointer (some ⟨w.heap.size, 0, none⟩)]] 62)
      simpa using this
    · have := Whole.new ((w.alloc (.cells #[.pointer (some ⟨j, 0, none⟩)] 46)).alloc (.cells #[.slice A L c] 30)) 62 #[.func (.func 80) #[] #[], .func (.func 184) #[] #[.pointer (some ⟨w.heap.size + 1, 0, none⟩)], .func (.func 87) #[] #[], .func (.func 185) #[] #[.pointer (some ⟨w.heap.size, 0, none⟩)]]
      simp only [World.size_alloc] at this
      exact this
    · intro x hx
      have hge : w.heap.size ≤ x := by omega
      exact ⟨fun hh => by have := hltS x hh; omega, fun hh => by have := hltT x hh; omega⟩
  case round =>
    obtain ⟨k, Dk, Sk, hk, rfl, hat⟩ := hrel
    have hbL' : b.length ≤ 1073741824 := by omega
    by_cases hlt : k < 4
    · have hkl : k < (cutSteps s.data.toList b J.last.num).length := hlt
      have hatd := hat.go (Below.refl _ wr).drew
      have hdoes := hatd.does hst hf hne hbL hLc hL30 hA0 hkl
      have hent := cutFn_enters w.heap.size (w.heap.size + 1) k
      have hcell := hat.cell hlt
      have cb := hat.b2.cell 0
      have cn : wr.cell? ⟨j, 2, none⟩ = some (.string s) := by
        obtain ⟨vs, ms, hj, _⟩ := hat.jd.jo
        exact hj.c2
      have hsz := nm_size hat.jd.nm
      have hq1 : ¬ 9223372036854775807 < s.size + 4 := by omega
      have hstep := jstep_any (cutFn w.heap.size (w.heap.size + 1) k).1 (cutFn w.heap.size (w.heap.size + 1) k).2 (strOf (cutN s.data.toList)) _ wr.drew hatd.jd hent hdoes
      rw [← cutN_str] at hstep
      obtain ⟨hok2, hst2⟩ := cut_step_ok (l := s.data.toList) (n := J.last.num) hbL' hkl hat.ok
      have HAT := Lib.hid hatd
      have hki : (k : Int) < 4 := by omega
      have hki0 : (k : Int) ≤ 4 := by omega
      clear hdoes hent hat hatd
      go_wp2
      go_still_tail 7, (by kernel_rfl)
      go_wp2_with fail
      refine hstep.mono ?_
      rintro e w2 ⟨rfl, S2, h2, ht2⟩
      by_cases he : ((cutSteps s.data.toList b J.last.num)[k] Dk).1 = 0
      · rw [he, show jEnd J 0 = J by simp [jEnd]] at h2
        have hnx := HAT.out.next h2 ht2 (by rw [cut_take hkl HAT.out.did]; exact Prod.ext he rfl) hok2 hst2
        have HNX := Lib.hid hnx
        have hee : (((cutSteps s.data.toList b J.last.num)[k] Dk).1 != 0) = false := by simp [he]
        generalize (cutSteps s.data.toList b J.last.num)[k] Dk = r at *
        clear h2 ht2 hnx hstep hok2 hst2
        go_wp2
        go_roundw
        case rel => exact ⟨k + 1, r.2, S2, by omega, by go_num, HNX.out⟩
        case measure => simp [intOf]; omega
      · have E := Lib.hid (cut_stop hkl HAT.out.did he)
        have hee : (((cutSteps s.data.toList b J.last.num)[k] Dk).1 != 0) = true := by simpa using he
        have H2 := Lib.hid h2
        have HT := Lib.hid (HAT.out.turn.trans ht2)
        generalize (cutSteps s.data.toList b J.last.num)[k] Dk = r at *
        clear h2 ht2 hstep hok2 hst2 he
        go_wp2
        go_returns
        rw [E.out]
        exact ⟨by simp, S2, H2.out, HT.out⟩
    · have hk4 : k = 4 := by omega
      have hdid := hat.did
      rw [hk4, show (cutSteps s.data.toList b J.last.num).take 4 = cutSteps s.data.toList b J.last.num from rfl] at hdid
      have E := Lib.hid hdid
      have H2 := Lib.hid hat.jd
      have HT := Lib.hid hat.turn
      have hki : ¬ (k : Int) < 4 := by omega
      clear hat hdid
      go_wp2
      go_returns
      rw [E.out]
      exact ⟨by simp, Sk, by simpa [jEnd] using H2.out, HT.out⟩
end
end Go.Proofs.YtbobakfcmkaijaaGreatDoor
end
