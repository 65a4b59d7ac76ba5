/- What acts make of a disk; the law's step and act, of any kind. -/
import Derived.Test.YtnpomiidkdnebaaDSameD
import Derived.Test.YtnpomiidkdnebaaDOpen
namespace Go.Proofs.Ytnpomiidkdnebaa
open Go.RowKit
set_option linter.unusedVariables false

theorem len_ins (f : Fl) : ∀ fs : List Fl, (ins f fs).length = fs.length + 1
  | [] => rfl
  | g :: r => by
    unfold ins
    split
    · simp
    · simp [len_ins f r]
theorem len_del (l : Nm) (fs : List Fl) : (del l fs).length ≤ fs.length := List.length_filter_le _ _
theorem len_upd (l : Nm) (t : Fl → Fl) (fs : List Fl) : (upd l t fs).length = fs.length := by simp [upd]
/-- no more files come than steps -/
def Few (D D' : Dsk) : Prop := D'.files.length + D.steps ≤ D.files.length + D'.steps
theorem few_step (D : Dsk) (t : List Fl → List Fl) (ht : (t D.files).length ≤ D.files.length + 1) : Few D (dStep D t).2 := by
  unfold Few dStep
  split
  · simp [fall]
  · simp only [tick]; omega
theorem Few.refl (D : Dsk) : Few D D := Nat.le_refl _
theorem few_puts (l : Nm) : ∀ (ps : List (List Int)) (D : Dsk), Few D (puts l D ps).2
  | [], D => Few.refl D
  | p :: ps, D => by
    unfold puts
    split
    · simp [Few, fall]
    · have := few_puts l ps { tick D with files := put1 l p D.files }
      unfold Few at this ⊢
      simp only [put1, len_upd, tick] at this
      simp only [put1]
      simp only [tick]
      omega
theorem few_after (a : Ac) (D : Dsk) : Few D (after a D) := by
  unfold after turned
  split
  · unfold dMake; split; exact Few.refl _; split; exact Few.refl _; exact few_step _ _ (by rw [len_ins]; exact Nat.le_refl _)
  split
  · unfold dAppend; split; exact Few.refl _; split; exact Few.refl _; split; exact Few.refl _; exact few_puts _ _ _
  split
  · unfold dSync; split; exact Few.refl _; split; exact Few.refl _; exact few_step _ _ (by rw [len_upd]; exact Nat.le_succ _)
  split
  · unfold dRename; split; exact Few.refl _; split; exact Few.refl _; split; exact Few.refl _
    refine few_step _ _ ?_
    unfold mv
    rw [len_ins]
    have h1 := len_del (lst a.to) (del (lst a.nm) D.files)
    have h2 := len_del (lst a.nm) D.files
    omega
  split
  · unfold dRemove; split; exact Few.refl _; split; exact Few.refl _; exact few_step _ _ (Nat.le_trans (len_del _ _) (Nat.le_succ _))
  split
  · unfold dFuse; split; exact Few.refl _; split; exact Few.refl _; exact Few.refl _
  split
  · exact Few.refl _
  split
  · unfold dCrash; split; exact Few.refl _; simp [Few, crs]
  split
  · unfold dTurn; split; exact Few.refl _; split; exact Few.refl _; split; exact Few.refl _; simp [Few, len_upd]
  exact Few.refl _
theorem okd_after {a : Ac} {D : Dsk} (h : Okd D) (hn : a.n ≤ 9223372036854775807) : Okd (after a D) := by
  unfold after turned
  split; exact okd_make h _
  split; exact okd_append h _ _
  split; exact okd_sync h _
  split; exact okd_rename h _ _
  split; exact okd_remove h _
  split; exact okd_fuse h hn
  split; exact okd_free h
  split; exact okd_crash h _
  split; exact okd_turn h _ _ _
  exact h
theorem steps_after (a : Ac) (D : Dsk) (hl : a.b.length ≤ 2000) : (after a D).steps ≤ D.steps + 32 ∧ D.steps ≤ (after a D).steps ∧ (after a D).room = D.room := by
  unfold after turned
  split; · have := steps_make D (lst a.nm); omega
  split; · have := steps_append D (lst a.nm) a.b; omega
  split; · have := steps_sync D (lst a.nm); omega
  split; · have := steps_rename D (lst a.nm) (lst a.to); omega
  split; · have := steps_remove D (lst a.nm); omega
  split; · have := steps_fuse D a.n; omega
  split; · exact ⟨Nat.le_add_right _ _, Nat.le_refl _, rfl⟩
  split; · have := steps_crash D a.ks; omega
  split; · have := steps_turn (xr (bits1 a)) D (lst a.nm) a.n; omega
  exact ⟨Nat.le_add_right _ _, Nat.le_refl _, rfl⟩

/-- where a disk is behind i acts -/
structure Beh (i : Nat) (D : Dsk) : Prop where
  ok : Okd D
  few : D.files.length ≤ D.steps
  steps : D.steps ≤ 32 * i
theorem Beh.gd {i : Nat} {D : Dsk} (h : Beh i D) (hi : i ≤ 1000000) : Gd D := ⟨h.ok, okd_room h.ok (by have := h.steps; omega), h.few⟩
theorem Beh.after {i : Nat} {D : Dsk} (h : Beh i D) (a : Ac) (hn : a.n ≤ 9223372036854775807) (hl : a.b.length ≤ 2000) : Beh (i + 1) (after a D) := by
  have h1 := few_after a D
  have h2 := steps_after a D hl
  have h3 := h.few
  have h4 := h.steps
  unfold Few at h1
  exact ⟨okd_after h.ok hn, by omega, by omega⟩
theorem Beh.new (r : Nat) (hr : r ≤ 1073741824) : Beh 0 (dNew r) := ⟨okd_new r hr, Nat.zero_le _, Nat.zero_le _⟩
theorem Beh.more {i j : Nat} {D : Dsk} (h : Beh i D) (hj : i ≤ j) : Beh j D := ⟨h.ok, h.few, by have := h.steps; omega⟩

/-- an act of any kind, at both -/
theorem stepk_any (a : Ac) (d x : Nat) (Dd Dx : Dsk) (S : Nat → Prop) (w : World) (h : Pair S w d x Dd Dx) (hd : Gd Dd) (hx : Gd Dx) (ha : AcOk S w a) :
    Calls Try.prog 24 #[.pointer (some ⟨d, 0, none⟩), .pointer (some ⟨x, 0, none⟩), .agg (acCells a)] w fun e w' => ∃ b, e = .returned (.bool b) ∧ (Dd = Dx → b = true) ∧ At S w d x (after a Dd) (after a Dx) w' := by
  obtain ⟨h1, h2⟩ := pk_range a.kd (n := 11) (by decide)
  have hc : pk a.kd 11 = 0 ∨ pk a.kd 11 = 1 ∨ pk a.kd 11 = 2 ∨ pk a.kd 11 = 3 ∨ pk a.kd 11 = 4 ∨ pk a.kd 11 = 5 ∨ pk a.kd 11 = 6 ∨ pk a.kd 11 = 7 ∨ pk a.kd 11 = 8 ∨ pk a.kd 11 = 9 ∨ pk a.kd 11 = 10 := by omega
  rcases hc with hk | hk | hk | hk | hk | hk | hk | hk | hk | hk | hk
  · exact step0_any a d x Dd Dx S w h hd hx ha hk
  · exact step1_any a d x Dd Dx S w h hd hx ha hk
  · exact step2_any a d x Dd Dx S w h hd hx ha hk
  · exact step3_any a d x Dd Dx S w h hd hx ha hk
  · exact step4_any a d x Dd Dx S w h hd hx ha hk
  · exact step5_any a d x Dd Dx S w h hd hx ha hk
  · exact step6_any a d x Dd Dx S w h hd hx ha hk
  · exact step7_any a d x Dd Dx S w h hd hx ha hk
  · exact step8_any a d x Dd Dx S w h hd hx ha hk
  · exact step9_any a d x Dd Dx S w h hd hx ha hk
  · exact step10_any a d x Dd Dx S w h hd hx ha hk

theorem add_pos (a : Addr) (n r : Nat) : (a.add n).add (r + 1) = ⟨(a.add n).block, (a.add n).off + (r + 1), none⟩ := by
  simp [Addr.add]
/-- an act of the list, as the walk meets it -/
theorem ActsArg.at_ {W : World} {v : Value} {A : Option Addr} {az : List Ac} {c : Nat} (h : ActsArg W v A az c) {k : Nat} (hk : k < az.length) :
    ∃ ad, A = some ad ∧ ad.block < W.heap.size ∧ ∀ W', Below W.heap.size W W' → W'.cell? (ad.add (k * 6)) = some (.int .i64 az[k].kd) ∧ W'.cell? ⟨(ad.add (k * 6)).block, (ad.add (k * 6)).off + 1, none⟩ = some (.string az[k].nm) ∧ W'.cell? ⟨(ad.add (k * 6)).block, (ad.add (k * 6)).off + 2, none⟩ = some (.string az[k].to) ∧
      W'.cell? ⟨(ad.add (k * 6)).block, (ad.add (k * 6)).off + 3, none⟩ = some (.slice az[k].A az[k].L az[k].c) ∧ W'.cell? ⟨(ad.add (k * 6)).block, (ad.add (k * 6)).off + 4, none⟩ = some (.int .i64 az[k].n) ∧ W'.cell? ⟨(ad.add (k * 6)).block, (ad.add (k * 6)).off + 5, none⟩ = some (.slice az[k].Ak az[k].m az[k].ck) := by
  have g := fun r (hr : r < 6) => cA_get (r := r) hk hr
  obtain ⟨ad, e, hb, h0⟩ := h.rds.at_ (g 0 (by decide))
  refine ⟨ad, e, hb, fun W' hW => ?_⟩
  have c : ∀ r (hr : r < 6) u, (acCells az[k])[r]? = some u → W'.cell? (ad.add (k * 6 + r)) = some u := fun r hr u hu => by
    obtain ⟨ad', e', _, hc⟩ := h.rds.at_ ((g r hr).trans hu)
    rw [e] at e'
    obtain rfl := Option.some.inj e'
    rw [hW.cell (p := ad.add (k * 6 + r)) (by rw [blk_add]; exact hb)]
    exact hc
  have s : ∀ r u, r + 1 < 6 → (acCells az[k])[r + 1]? = some u → W'.cell? ⟨(ad.add (k * 6)).block, (ad.add (k * 6)).off + (r + 1), none⟩ = some u := fun r u hr hu => by
    rw [← add_pos, add_twice]
    exact c (r + 1) hr u hu
  exact ⟨c 0 (by decide) _ rfl, s 0 _ (by decide) rfl, s 1 _ (by decide) rfl, s 2 _ (by decide) rfl, s 3 _ (by decide) rfl, s 4 _ (by decide) rfl⟩

theorem AcOk.new {W wr : World} {a : Ac} {S : Nat → Prop} (h : ActIn W a) (hb : Below W.heap.size W wr) (hS : ∀ k, S k → W.heap.size ≤ k) : AcOk S wr a :=
  { h.ok.go hb with
    bS := fun ad e hne hk => by
      obtain ⟨ad', e', hb', _⟩ := h.ok.rd hne
      rw [e] at e'
      obtain rfl := Option.some.inj e'
      have := hS _ hk
      omega
    kS := fun ad e hne hk => by
      obtain ⟨ad', e', hb', _⟩ := h.ok.kr hne
      rw [e] at e'
      obtain rfl := Option.some.inj e'
      have := hS _ hk
      omega }

end Go.Proofs.Ytnpomiidkdnebaa
