/- Several texts, each a section: DApp, DAppW, DOk. -/
import Derived.Test.YtbobakfcmkaijaaGreatDoorM07
section
/- The program's Append. -/
namespace Go.Proofs.YtbobakfcmkaijaaGreatDoor
open Go.RowKit Go.Maps Go.WideMaps Go.Shelf
set_option linter.unusedVariables false
attribute [local go_sem] Oper.semAt_some

theorem puts_snoc (l : Nm) : ∀ (ps : List (List Int)) (D : Dsk) (p : List Int), (puts l D ps).1 = 0 → puts l D (ps ++ [p]) = dStep (puts l D ps).2 (put1 l p)
  | [], D, p, _ => by
    simp only [List.nil_append, puts, dStep]
    rfl
  | q :: ps, D, p, h => by
    rw [List.cons_append]
    unfold puts at h ⊢
    by_cases hf : D.fuse = 0
    · rw [if_pos hf] at h; cases h
    · rw [if_neg hf] at h
      rw [if_neg hf, if_neg hf]
      exact puts_snoc l ps _ p h
theorem puts_stop (l : Nm) : ∀ (ps rs : List (List Int)) (D : Dsk), (puts l D ps).1 ≠ 0 → puts l D (ps ++ rs) = puts l D ps
  | [], rs, D, h => absurd rfl h
  | q :: ps, rs, D, h => by
    rw [List.cons_append]
    unfold puts at h ⊢
    by_cases hf : D.fuse = 0
    · rw [if_pos hf, if_pos hf]
    · rw [if_neg hf] at h
      rw [if_neg hf, if_neg hf]
      exact puts_stop l ps rs _ h

/-- what holds behind the pieces -/
structure Put (l : Nm) (D E : Dsk) (f : Fl) (ps : List (List Int)) : Prop where
  srt : Srt E.files
  fnd : ∃ g, find E.files l = some g ∧ g.bs = f.bs ++ ps.flatten
  used : used E.files = used D.files + ps.flatten.length
  room : E.room = D.room
  steps : E.steps = D.steps + ps.length
  f0 : -1 ≤ E.fuse
  f1 : E.fuse ≤ 9223372036854775807
theorem put1_find {fs : List Fl} {l : Nm} {f : Fl} (h : find fs l = some f) (p : List Int) : find (put1 l p fs) l = some { f with bs := f.bs ++ p } := by
  unfold put1
  rw [find_upd fs l l (fun f => { f with bs := f.bs ++ p }) (fun _ => rfl), h]
  simp
theorem puts_inv (l : Nm) : ∀ (ps : List (List Int)) (D : Dsk) (f : Fl), Srt D.files → find D.files l = some f → -1 ≤ D.fuse → D.fuse ≤ 9223372036854775807 → (puts l D ps).1 = 0 → Put l D (puts l D ps).2 f ps
  | [], D, f, hs, hf, h0, h1, _ => ⟨hs, ⟨f, hf, by simp⟩, by simp [puts], rfl, rfl, h0, h1⟩
  | p :: ps, D, f, hs, hf, h0, h1, h => by
    unfold puts at h ⊢
    by_cases hz : D.fuse = 0
    · rw [if_pos hz] at h; cases h
    · rw [if_neg hz] at h
      rw [if_neg hz]
      have ih := puts_inv l ps { tick D with files := put1 l p D.files } { f with bs := f.bs ++ p } (srt_upd hs l _ (fun _ => rfl)) (put1_find hf p)
        (by simp only [tick]; split <;> omega) (by simp only [tick]; split <;> omega) h
      obtain ⟨g, hg, hb⟩ := ih.fnd
      refine ⟨ih.srt, ⟨g, hg, by rw [hb]; simp⟩, ?_, ih.room, ?_, ih.f0, ih.f1⟩
      · rw [ih.used]
        simp only [used_put1 hs hf, List.flatten_cons, List.length_append]
        omega
      · rw [ih.steps]
        simp only [tick, List.length_cons]
        omega
theorem part_len (b : List Int) (k : Nat) : (part b k).length = pl b.length k := by simp [part, pl]
theorem flat_le (b : List Int) : ∀ (ks : List Nat), ((ks.map (part b)).flatten).length ≤ 64 * ks.length
  | [] => by simp
  | k :: ks => by
    have := flat_le b ks
    have h2 : (part b k).length ≤ 64 := by simp [part]; omega
    simp only [List.map_cons, List.flatten_cons, List.length_append, List.length_cons]
    omega

section
variable {S : Nat → Prop} {d mb nn : Nat} {M : DataW Unit} {blk : Nm → Nat} {vs : Nm → Value} {D : Dsk}

/-- just the disk's own places -/
def Foot (d mb : Nat) (blk : Nm → Nat) (vs : Nm → Value) (D : Dsk) : Nat → Prop := fun k => k = d ∨ k = mb ∨ ∃ l f, find D.files l = some f ∧ (k = blk l ∨ (vs l).ownBlock = some k)
theorem DkAt.foot {w : World} (h : DkAt w S d mb nn M blk vs D) : DkAt w (Foot d mb blk vs D) d mb nn M blk vs D :=
  { top := h.top, map := h.map, key := h.key, fil := h.fil, inj := h.inj, sd := .inl rfl, sm := .inr (.inl rfl)
    sb := fun l f hf => ⟨.inr (.inr ⟨l, f, hf, .inl rfl⟩), fun g hg => .inr (.inr ⟨l, f, hf, .inr hg⟩)⟩
    lt := fun k hk => by
      rcases hk with rfl | rfl | ⟨l, f, hf, rfl | hg⟩
      · exact h.lt _ h.sd
      · exact h.lt _ h.sm
      · exact h.blt hf
      · exact h.rlt hf hg }
theorem DkAt.foot_in {w : World} (h : DkAt w S d mb nn M blk vs D) {k : Nat} (hk : Foot d mb blk vs D k) : S k := by
  rcases hk with rfl | rfl | ⟨l, f, hf, rfl | hg⟩
  · exact h.sd
  · exact h.sm
  · exact (h.sb l f hf).1
  · exact (h.sb l f hf).2 _ hg
theorem DkAt.foot_not {w : World} (h : DkAt w S d mb nn M blk vs D) {b : Nat} {t : TypeId} {cs : Array Value} (hb : Whole w b t cs) (h1 : t ≠ 45) (h2 : t ≠ 100) (h3 : t ≠ 5) : ¬ Foot d mb blk vs D b := by
  rintro (rfl | rfl | ⟨l, f, hf, rfl | hg⟩)
  · exact Whole.ne hb h.top h1 rfl
  · exact Whole.ne_map hb h.map rfl
  · exact Whole.ne hb (h.fil l f hf).1 h2 rfl
  · exact ownRow_ne (h.fil l f hf).2 hg hb (fun e => h3 e.symm) rfl
theorem DkAt.foot_cells {w : World} (h : DkAt w S d mb nn M blk vs D) {k : Nat} (hk : Foot d mb blk vs D k) (hm : k ≠ mb) : ∃ o, w.heap[k]? = some o ∧ o.isCells = true := by
  rcases hk with rfl | rfl | ⟨l, f, hf, rfl | hg⟩
  · exact ⟨_, h.top, rfl⟩
  · exact absurd rfl hm
  · exact ⟨_, (h.fil l f hf).1, rfl⟩
  · obtain ⟨_, _, cs, hh⟩ := ownRow_block (h.fil l f hf).2 hg
    exact ⟨_, hh, rfl⟩
/-- what is no cells turns, from B on -/
theorem DkAt.own {w w' : World} (h : DkAt w (Foot d mb blk vs D) d mb nn M blk vs D) {B : Nat} (hmb : mb < B) {row : Option Nat} (hg : w.grownBy w' row) (hr : ∀ r, row = some r → B ≤ r ∧ ∃ o : Obj, w.heap[r]? = some o ∧ o.isCells = false) : DkAt w' (Foot d mb blk vs D) d mb nn M blk vs D := by
  refine h.outs (S2 := fun k => row = some k) ⟨hg.os, hg.tape, hg.output, hg.size, fun k hk hn => hg.block k hk (fun e => hn e.symm)⟩ (fun k hk e => ?_)
  obtain ⟨h1, o, ho, hc⟩ := hr k e
  obtain ⟨o', ho', hc'⟩ := h.foot_cells hk (by omega)
  rw [ho] at ho'
  injection ho' with ho'
  rw [ho', hc'] at hc
  cases hc
theorem Whole.own {w w' : World} {b : Nat} {t : TypeId} {cs : Array Value} (h : Whole w b t cs) {B : Nat} {row : Option Nat} (hg : w.grownBy w' row) (hr : ∀ r, row = some r → B ≤ r ∧ ∃ o : Obj, w.heap[r]? = some o ∧ o.isCells = false) : Whole w' b t cs := by
  refine h.grown hg (fun e => ?_)
  obtain ⟨_, o, ho, hc⟩ := hr b e.symm
  unfold Whole at h
  rw [h] at ho
  injection ho with ho
  subst ho
  cases hc
theorem Outs.own {w w1 w' : World} (h : Outs S w w1) {B : Nat} (hB : w.heap.size ≤ B) {row : Option Nat} (hg : w1.grownBy w' row) (hr : ∀ r, row = some r → B ≤ r ∧ ∃ o : Obj, w1.heap[r]? = some o ∧ o.isCells = false) : Outs S w w' :=
  h.grown hg (fun k e => .inr (Nat.le_trans hB (hr k e).1))

theorem rds_part {w : World} {lim : Nat} {ad : Addr} {b : List Int} (h : Rds w lim (some ad) (c8 b)) (i m : Nat) : Rds w lim (some (ad.add i)) (c8 ((b.drop i).take m)) := by
  intro hne
  have hb : c8 b ≠ [] := by
    intro e
    have : b = [] := by simpa [c8] using e
    subst this
    simp [c8] at hne
  obtain ⟨ad', e, hl, hc⟩ := h hb
  obtain rfl := Option.some.inj e
  refine ⟨_, rfl, by rw [blk_add]; exact hl, fun j u hu => ?_⟩
  rw [add_twice]
  refine hc _ u ?_
  simp only [c8, List.getElem?_map, List.getElem?_take, List.getElem?_drop] at hu ⊢
  split at hu
  · exact hu
  · cases hu

/-- one piece, by one step -/
theorem stepA {l : Nm} {f : Fl} (p : List Int) (Ap : Option Addr) (m c b1 b2 b3 : Nat) (w : World) (h : DkAt w S d mb nn M blk vs D) (hs : Srt D.files) (hst : D.steps + 1 ≤ 9223372036854775807) (hf0 : -1 ≤ D.fuse) (hf1 : D.fuse ≤ 9223372036854775807)
    (hf : find D.files l = some f) (hpm : p.length = m) (hm : m ≤ 64) (hlen : f.bs.length ≤ 70368744177664) (hL0 : -70368744177664 ≤ left D) (hL1 : left D ≤ 70368744177664)
    (h1 : Whole w b1 69 #[.pointer (some ⟨blk l, 0, none⟩)]) (h2 : Whole w b2 30 #[.slice Ap m c]) (h3 : Whole w b3 23 #[.pointer (some ⟨d, 0, none⟩)]) (hr : Rds w w.heap.size Ap (c8 p)) (hA0 : Ap = none → c = 0)
    (n1 : ¬ S b1) (n2 : ¬ S b2) (n3 : ¬ S b3) (hrS : ∀ ad, Ap = some ad → c8 p ≠ [] → ¬ S ad.block) :
    Calls Tryz.prog 83 #[.pointer (some ⟨d, 0, none⟩), .func (.func 84) #[] #[.pointer (some ⟨b1, 0, none⟩), .pointer (some ⟨b2, 0, none⟩), .pointer (some ⟨b3, 0, none⟩)]] w fun e w' =>
      e = .returned (.int .i64 (dStep D (put1 l p)).1) ∧ ∃ S' vs', DkAt w' S' d mb nn M blk vs' (dStep D (put1 l p)).2 ∧ Turn S S' w w' := by
  refine (step_gen (fun _ mb' nn' M' blk' _ => mb' = mb ∧ nn' = nn ∧ M' = M ∧ blk' = blk) 84 _ (put1 l p) w h (fun _ => ⟨rfl, rfl, rfl, rfl⟩) hst hf0 hf1 append1_enters
    (fun hz w1 h1' ho hsz => (append1_any p Ap m c b1 b2 b3 w1 h1' hs hf hpm hm hlen hL0 hL1 (h1.outs ho n1) (h2.outs ho n2) (h3.outs ho n3) (hr.outs ho hrS) hA0 n1 n2 n3).mono ?_)).mono ?_
  · rintro e w2 ⟨rfl, S', vs', hk, ht⟩
    exact ⟨rfl, S', mb, nn, M, blk, vs', hk, ⟨rfl, rfl, rfl, rfl⟩, ht⟩
  · rintro e w' ⟨rfl, S', mb', nn', M', blk', vs', hk, ⟨rfl, rfl, rfl, rfl⟩, ht⟩
    exact ⟨rfl, S', vs', hk, ht⟩
end
end Go.Proofs.YtbobakfcmkaijaaGreatDoor
end

section
/- The walk over the program's Append. -/
namespace Go.Proofs.YtbobakfcmkaijaaGreatDoor
open Go.RowKit Go.Maps Go.WideMaps Go.Shelf
set_option linter.unusedVariables false
attribute [local go_sem] Oper.semAt_some

section
variable {S : Nat → Prop} {d mb nn : Nat} {M : DataW Unit} {blk : Nm → Nat} {vs : Nm → Value} {D : Dsk}

/-- between two pieces -/
structure AppI (S : Nat → Prop) (d mb nn : Nat) (M : DataW Unit) (blk : Nm → Nat) (E : Dsk) (w W : World) (B0 B1 bk : Nat) (A : Option Addr) (L c : Nat) (res : Int) : Prop where
  dk : ∃ vs', DkAt W (Foot d mb blk vs' E) d mb nn M blk vs' E ∧ ∀ k, Foot d mb blk vs' E k → S k ∨ w.heap.size ≤ k
  out : Outs S w W
  b1 : Whole W B0 23 #[.pointer (some ⟨d, 0, none⟩)]
  b2 : Whole W (B0 + 1) 24 #[.int .i64 res]
  b3 : Whole W B1 69 #[.pointer (some ⟨bk, 0, none⟩)]
  b4 : Whole W (B1 + 1) 30 #[.slice A L c]
  b5 : Whole W (B1 + 1 + 1) 3 #[.int .i64 64]
theorem AppI.own {E : Dsk} {w W W' : World} {B0 B1 bk L c B : Nat} {A : Option Addr} {res : Int} (h : AppI S d mb nn M blk E w W B0 B1 bk A L c res) (hmb : mb < B) (hB : w.heap.size ≤ B) {row : Option Nat} (hg : W.grownBy W' row) (hr : ∀ r, row = some r → B ≤ r ∧ ∃ o : Obj, W.heap[r]? = some o ∧ o.isCells = false) : AppI S d mb nn M blk E w W' B0 B1 bk A L c res := by
  obtain ⟨vs', hd, hf⟩ := h.dk
  exact ⟨⟨vs', hd.own hmb hg hr, hf⟩, h.out.own hB hg hr, h.b1.own hg hr, h.b2.own hg hr, h.b3.own hg hr, h.b4.own hg hr, h.b5.own hg hr⟩
theorem AppI.alloc {E : Dsk} {w W : World} {B0 B1 bk L c : Nat} {A : Option Addr} {res : Int} (h : AppI S d mb nn M blk E w W B0 B1 bk A L c res) (o : Obj) : AppI S d mb nn M blk E w (W.alloc o) B0 B1 bk A L c res := by
  obtain ⟨vs', hd, hf⟩ := h.dk
  exact ⟨⟨vs', hd.go ((Below.refl _ W).alloc (Nat.le_refl _) o), hf⟩, h.out.alloc o, h.b1.alloc o, h.b2.alloc o, h.b3.alloc o, h.b4.alloc o, h.b5.alloc o⟩
theorem AppI.next {E X : Dsk} {S' : Nat → Prop} {vs' vs'' : Nm → Value} {w W W' : World} {B0 B1 bk L c B : Nat} {A : Option Addr} {res : Int} (h : AppI S d mb nn M blk E w W B0 B1 bk A L c res) (hmb : mb < B)
    (hd : DkAt W (Foot d mb blk vs' E) d mb nn M blk vs' E) (hf : ∀ k, Foot d mb blk vs' E k → S k ∨ w.heap.size ≤ k) (hk : DkAt W' S' d mb nn M blk vs'' X) (ht : Turn (Foot d mb blk vs' E) S' W W') :
    AppI S d mb nn M blk X w W' B0 B1 bk A L c res ∧ KeepsFrom B W W' ∧ Two (B1 + 1) (B1 + 1 + 1) W W' := by
  have n1 := hd.foot_not h.b1 (by decide) (by decide) (by decide)
  have n2 := hd.foot_not h.b2 (by decide) (by decide) (by decide)
  have n3 := hd.foot_not h.b3 (by decide) (by decide) (by decide)
  have n4 := hd.foot_not h.b4 (by decide) (by decide) (by decide)
  have n5 := hd.foot_not h.b5 (by decide) (by decide) (by decide)
  refine ⟨⟨⟨vs'', hk.foot, fun k hq => ?_⟩, h.out.trans ht.outs hf, h.b1.outs ht.outs n1, h.b2.outs ht.outs n2, h.b3.outs ht.outs n3, h.b4.outs ht.outs n4, h.b5.outs ht.outs n5⟩, ⟨ht.outs.size, fun k o hB hko hc => ?_⟩, ht.outs.block _ h.b4.lt n4, ht.outs.block _ h.b5.lt n5⟩
  · rcases ht.new k (hk.foot_in hq) with e | e
    · exact hf k e
    · exact .inr (Nat.le_trans h.out.size e)
  · refine (ht.outs.block k (Array.getElem?_eq_some_iff.1 hko).1 (fun e => ?_)).trans hko
    obtain ⟨o', ho', hc'⟩ := hd.foot_cells e (by omega)
    rw [hko] at ho'
    injection ho' with ho'
    rw [ho', hc'] at hc
    cases hc
theorem AppI.put {E : Dsk} {w W : World} {B0 B1 bk L c : Nat} {A : Option Addr} {res : Int} (h : AppI S d mb nn M blk E w W B0 B1 bk A L c res) (hB : w.heap.size ≤ B0) (r : Int) : AppI S d mb nn M blk E w (W.setCell ⟨B0 + 1, 0, none⟩ (.int .i64 r)) B0 B1 bk A L c r := by
  obtain ⟨vs', hd, hf⟩ := h.dk
  have n2 := hd.foot_not h.b2 (by decide) (by decide) (by decide)
  have ho : Outs (fun k => k = B0 + 1) W (W.setCell ⟨B0 + 1, 0, none⟩ (.int .i64 r)) := Outs.setCell (S := fun k => k = B0 + 1) (Outs.refl _ W) (p := ⟨B0 + 1, 0, none⟩) (.inl rfl) _
  refine ⟨⟨vs', hd.outs ho (fun k hk e => n2 (e ▸ hk)), hf⟩, h.out.setCell (.inr (by show w.heap.size ≤ B0 + 1; omega)) _, h.b1.outs ho (by omega), h.b2.put 0 _, h.b3.outs ho (Whole.ne h.b3 h.b2 (by decide)), h.b4.outs ho (Whole.ne h.b4 h.b2 (by decide)), h.b5.outs ho (Whole.ne h.b5 h.b2 (by decide))⟩
theorem parts_vals {b : List Int} {L : Nat} (h : b.length = L) : parts b = (List.range (np L)).map (part b) := by simp only [parts, nparts, np, h]
theorem vals_upto {b : List Int} {L k : Nat} (h : k ≤ np L) : (((upto L k).map (fun x => part b x.1)) : List (List Int)) = (List.range k).map (part b) := by
  have := congrArg (List.map (part b)) (upto_vals h)
  rwa [List.map_map] at this
def vals (b : List Int) {L : Nat} (pre : List (Ix L)) : List (List Int) := pre.map (fun x => part b x.1)

set_option maxRecDepth 100000 in
set_option maxHeartbeats 4000000 in
theorem append_in (s : ByteArray) (hs : s.size ≤ 9223372036854775807) (b : List Int) (A : Option Addr) (L c : Nat) (w : World) (h : DkAt w S d mb nn M blk vs D) (hnn : nn ≤ D.steps) (hr : Room D) (hok : Okd D)
    {f : Fl} (hf : find D.files (lst s) = some f) (hc : fcode D (lst s) = 0) (hbL : b.length = L) (hLc : L ≤ c) (hL40 : L ≤ 1073741824) (hfit : (L : Int) ≤ left D) (hA0 : A = none → c = 0) (hrd : Rds w w.heap.size A (c8 b)) (hbS : ∀ ad, A = some ad → c8 b ≠ [] → ¬ S ad.block) :
    CallsIn Fence.wide 8 Tryz.prog 53 #[.pointer (some ⟨d, 0, none⟩), .string s, .slice A L c] w fun e w' => e = .returned (.int .i64 (puts (lst s) D (parts b)).1) ∧ ∃ S' vs', DkAt w' S' d mb nn M blk vs' (puts (lst s) D (parts b)).2 ∧ Turn S S' w w' := by
  obtain ⟨ad, had⟩ : ∃ ad : Addr, 0 < L → A = some ad := by
    cases A with
    | none =>
      refine ⟨⟨0, 0, none⟩, fun h0 => ?_⟩
      obtain ⟨ad, e, _⟩ := hrd (by intro e; have : b = [] := by simpa [c8] using e
                                   rw [this] at hbL; simp at hbL; omega)
      cases e
    | some ad => exact ⟨ad, fun _ => rfl⟩
  refine callsIn_of_wp_marks Tryz.func53 rfl trivial ?_ rfl
  simp only [Tryz.ntmps53, List.size_toArray, List.length_cons, List.length_nil, Nat.reduceAdd, Nat.reduceSub, Array.replicate_succ, Array.replicate_zero, List.push_toArray, List.append_toArray, List.nil_append, List.cons_append]
  -- the boxes of d and of the result
  obtain ⟨W1, hW1⟩ : ∃ W1, W1 = (w.alloc (.cells #[.pointer (some ⟨d, 0, none⟩)] 23)).alloc (.cells #[.int .i64 0] 24) := ⟨_, rfl⟩
  have hb : Below w.heap.size w W1 := by rw [hW1]; exact ((Below.refl _ w).alloc (Nat.le_refl _) _).alloc (by simp) _
  have x1 : Whole W1 w.heap.size 23 #[.pointer (some ⟨d, 0, none⟩)] := by rw [hW1]; exact (Whole.new w _ _).alloc _
  have x2 : Whole W1 (w.heap.size + 1) 24 #[.int .i64 0] := by
    rw [hW1]
    have := Whole.new (w.alloc (.cells #[.pointer (some ⟨d, 0, none⟩)] 23)) 24 #[.int .i64 0]
    rw [World.size_alloc] at this
    exact this
  have hfi := find_any s hs W1 (h.go hb) hnn
  have e1 : fpt D blk (lst s) = .pointer (some ⟨blk (lst s), 0, none⟩) := by simp [fpt, hc]
  rw [e1, hc] at hfi
  have HX := Lib.hid hW1
  clear hW1 e1
  gi_wp2_with fail
  refine ⟨trivial, ?_⟩
  rw [← HX.out]
  refine (callsIn_wide.2 hfi).mono ?_
  rintro e w1 ⟨rfl, hb1⟩
  have hb2 : Below w.heap.size w w1 := hb.trans (hb1.mono hb.size)
  have y1 := x1.below hb1 x1.lt
  have y2 := x2.below hb1 x2.lt
  have h1 := h.go hb2
  have c1 : w1.cell? ⟨w.heap.size, 0, none⟩ = some (.pointer (some ⟨d, 0, none⟩)) := y1.cell 0
  have hfi' : ¬ left D < (L : Int) := by omega
  generalize hbk : blk (lst s) = bk at *
  have HBK := Lib.hid hbk
  clear hbk hfi x1 x2 hb hb1 HX
  have k1 : (w1.alloc (.cells #[.pointer (some ⟨bk, 0, none⟩)] 69)).cell? ⟨w.heap.size, 0, none⟩ = some (.pointer (some ⟨d, 0, none⟩)) := (y1.alloc _).cell 0
  have k2 : (w1.alloc (.cells #[.pointer (some ⟨bk, 0, none⟩)] 69)).cell? ⟨d, 2, none⟩ = some (.int .i64 (left D)) := (h1.top.alloc _).cell 2
  have hch := chunk_any A L c (w1.alloc (.cells #[.pointer (some ⟨bk, 0, none⟩)] 69))
  gi_wp2_with fail
  refine ⟨trivial, ?_⟩
  refine (callsIn_wide.2 hch).mono ?_
  rintro e w3 ⟨rfl, hw3⟩
  have hsz2 : (w1.alloc (.cells #[.pointer (some ⟨bk, 0, none⟩)] 69)).heap.size = w1.heap.size + 1 := by simp
  have hb3 : Below w.heap.size w w3 := by rw [hw3]; exact ((hb2.alloc hb2.size _).alloc (by have := hb2.size; simp; omega) _).alloc (by have := hb2.size; simp; omega) _
  have hsz3 : w3.heap.size = w1.heap.size + 3 := by rw [hw3]; simp
  have z1 : Whole w3 w.heap.size 23 #[.pointer (some ⟨d, 0, none⟩)] := by rw [hw3]; exact ((y1.alloc _).alloc _).alloc _
  have z2 : Whole w3 (w.heap.size + 1) 24 #[.int .i64 0] := by rw [hw3]; exact ((y2.alloc _).alloc _).alloc _
  have zf : Whole w3 w1.heap.size 69 #[.pointer (some ⟨bk, 0, none⟩)] := by rw [hw3]; exact ((Whole.new w1 _ _).alloc _).alloc _
  have q1 : Whole w3 (w1.heap.size + 1) 30 #[.slice A L c] := by
    rw [hw3]
    have := Whole.new (w1.alloc (.cells #[.pointer (some ⟨bk, 0, none⟩)] 69)) 30 #[.slice A L c]
    rw [World.size_alloc] at this
    exact this.alloc _
  have q2 : Whole w3 (w1.heap.size + 2) 3 #[.int .i64 64] := by
    rw [hw3]
    have := Whole.new ((w1.alloc (.cells #[.pointer (some ⟨bk, 0, none⟩)] 69)).alloc (.cells #[.slice A L c] 30)) 3 #[.int .i64 64]
    rw [World.size_alloc, World.size_alloc] at this
    exact this
  have hw1 : w.heap.size ≤ w1.heap.size := hb2.size
  have hw12 : w.heap.size + 1 < w1.heap.size := y2.lt
  clear hw3 hch k1 k2 c1 y1 y2 h1
  gi_wp2_with fail
  have hI0 : AppI S d mb nn M blk D w w3 w.heap.size w1.heap.size bk A L c 0 :=
    ⟨⟨vs, (h.go hb3).foot, fun k hk => .inl (h.foot_in hk)⟩, Outs.of hb3, z1, z2, zf, q1, q2⟩
  have hmb3 : mb < w3.heap.size := Nat.lt_of_lt_of_le (h.lt _ h.sm) hb3.size
  refine wpIn_rangeFunc_ownH (F := Fence.wide) (α := Ix L) rfl (by decide) (gf := 109) (lb := #[.pointer (some ⟨w1.heap.size + 1, 0, none⟩), .pointer (some ⟨w1.heap.size + 1 + 1, 0, none⟩)]) rfl trivial (enters_of Tryz.func109 (by kernel_rfl) rfl)
    (chunk_stops 7 (by decide) (w1.heap.size + 1) (w1.heap.size + 1 + 1) L c ad A had hLc (by omega) w3 q1 q2) (fun h k => ⟨k.1.trans h.1, k.2.trans h.2⟩)
    (fun W l o o' hl _ _ _ => ⟨World.putObj_heap_other (by omega), World.putObj_heap_other (by omega)⟩) (Below.refl _ _) (fun _ => rfl)
    (fun pre W => (puts (lst s) D (vals b pre)).1 = 0 ∧ AppI S d mb nn M blk (puts (lst s) D (vals b pre)).2 w W w.heap.size w1.heap.size bk A L c 0)
    (fun j pre W => j = .ret ∧ (puts (lst s) D (vals b pre)).1 = 10 ∧ AppI S d mb nn M blk (puts (lst s) D (vals b pre)).2 w W w.heap.size w1.heap.size bk A L c 10)
    (fun pre X Y row hs hg hr => ⟨hs.1, hs.2.own hmb3 hb3.size hg hr⟩)
    (fun j pre X Y row hs hg hr => ⟨hs.1, hs.2.1, hs.2.2.own hmb3 hb3.size hg hr⟩)
    ⟨rfl, hI0⟩
    (fun x a' W => ∃ Bx, Whole W Bx 30 (encC ad L x) ∧ a' = { tmps := #[.pointer (some ⟨d, 0, none⟩), .string s, .slice A L c, .pointer (some ⟨w.heap.size, 0, none⟩), undef, undef, .pointer (some ⟨w.heap.size + 1, 0, none⟩), .pointer (some ⟨w1.heap.size, 0, none⟩), .int .i64 0, .pointer (some ⟨Bx, 0, none⟩), undef,
      .tuple #[.pointer (some ⟨bk, 0, none⟩), .int .i64 0], .pointer (some ⟨d, 0, none⟩), .string s, .tuple #[.pointer (some ⟨bk, 0, none⟩), .int .i64 0], .pointer (some ⟨bk, 0, none⟩), .int .i64 0, .int .i64 0, .bool false, undef, .slice A L c, .int .i64 L, .pointer (some ⟨d, 0, none⟩), .pointer (some ⟨d, 0, none⟩), .pointer (some ⟨d, 2, none⟩), .int .i64 (left D),
      .bool (decide (left D < (L : Int))), .slice A L c, .func (.func 109) #[] #[.pointer (some ⟨w1.heap.size + 1, 0, none⟩), .pointer (some ⟨w1.heap.size + 1 + 1, 0, none⟩)], .slice (some (ad.add (64 * x.1))) (pl L x.1) (pl L x.1), undef, undef, undef, undef, undef, undef], defers := [] })
    (fun x a' _ X Y row hs hg hr => by obtain ⟨Bx, h2, h3⟩ := hs; exact ⟨Bx, h2.own hg hr, h3⟩)
    ?assign ?body ?done ?stop
  case assign =>
    intro l pre x W K hi hK
    dsimp only [encC]
    gi_wp2
    exact hK _ _ ((KeepsOthers.alloc W (.cells #[.slice (some (ad.add (64 * x.1))) (pl L x.1) (pl L x.1)] 30)).from _) ⟨Below.heap_alloc _ _ _ hi.2.b4.lt, Below.heap_alloc _ _ _ hi.2.b5.lt⟩ ⟨hi.1, hi.2.alloc _⟩ ⟨W.heap.size, Whole.new _ _ _, rfl⟩
  case body =>
    rintro l pre x a' W hl ⟨r, hrl⟩ ⟨hp0, hI⟩ ⟨Bx, hbx, rfl⟩ hlt
    obtain ⟨vs', hd, hfo⟩ := hI.dk
    have hP := puts_inv (lst s) (vals b pre) D f hok.srt hf hr.f0 hr.f1 hp0
    obtain ⟨g, hg, hgb⟩ := hP.fnd
    have hpl : (vals b pre).length < np L := by simpa [vals] using hlt
    have hfl : ((vals b pre).flatten).length ≤ 64 * np L := by
      have := flat_le b (pre.map (·.1))
      simp only [List.map_map, List.length_map] at this
      have h2 : (vals b pre).flatten.length ≤ 64 * pre.length := this
      omega
    have hnp : 64 * np L ≤ L + 63 := by simp only [np]; omega
    have hu := hP.used
    have hst1 := hP.steps
    have hro := hP.room
    have hn30 : f.bs.length ≤ 1073741824 := by
      have h1 := used_del hok.srt hf
      have := hok.fits
      have := hok.room
      omega
    have hDr := hok.room
    have hDf := hok.fits
    have hLs := hr.steps
    have hL := hI.b4.lt
    have hA : A = some ad := had (by have := x.2; simp only [np] at this; omega)
    have hrdW : Rds W W.heap.size (some ad) (c8 b) := by rw [← hA]; exact hrd.outs hI.out hbS
    have hrp := rds_part hrdW (64 * x.1) 64
    have hne : ∀ ad', some (ad.add (64 * x.1)) = some ad' → c8 (part b x.1) ≠ [] → ¬ Foot d mb blk vs' (puts (lst s) D (vals b pre)).2 ad'.block := by
      intro ad' e1 e2 e3
      obtain rfl := Option.some.inj e1
      rw [blk_add] at e3
      have hb0 : c8 b ≠ [] := by
        intro e
        have : b = [] := by simpa [c8] using e
        rw [this] at e2
        simp [part, c8] at e2
      obtain ⟨ad', e4, hl4, _⟩ := hrd hb0
      rw [hA] at e4
      obtain rfl := Option.some.inj e4
      rcases hfo _ e3 with e5 | e5
      · exact hbS ad hA hb0 e5
      · omega
    have hsn := puts_snoc (lst s) (vals b pre) D (part b x.1) hp0
    have hvs : vals b (pre ++ [x]) = vals b pre ++ [part b x.1] := by simp [vals]
    rw [← hvs] at hsn
    have hb1' := hI.b1
    have hb3' := hI.b3
    have n1 := hd.foot_not hI.b1 (by decide) (by decide) (by decide)
    have n2 := hd.foot_not hbx (by decide) (by decide) (by decide)
    have n3 := hd.foot_not hI.b3 (by decide) (by decide) (by decide)
    have hcon := stepA (part b x.1) (some (ad.add (64 * x.1))) (pl L x.1) (pl L x.1) w1.heap.size Bx w.heap.size W hd hP.srt (by omega) hP.f0 hP.f1 hg (by rw [part_len, hbL]) (by simp only [pl]; omega) (by rw [hgb, List.length_append]; omega)
      (by simp only [left]; omega) (by simp only [left]; omega) (by rw [HBK.out]; exact hI.b3) hbx hI.b1 hrp (fun e => by cases e) n3 n2 n1 hne
    have c1 : W.cell? ⟨w.heap.size, 0, none⟩ = some (.pointer (some ⟨d, 0, none⟩)) := hI.b1.cell 0
    have c2 : W.cell? ⟨w.heap.size + 1, 0, none⟩ = some (.int .i64 0) := hI.b2.cell 0
    gi_wp2_with fail
    refine ⟨trivial, ?_⟩
    refine (CallsIn.inRound l (callsIn_wide.2 hcon)).mono ?_
    rintro e W' ⟨rfl, S', vs'', hk, ht⟩
    obtain ⟨hI', hkf, htw⟩ := hI.next hmb3 hd hfo hk ht
    by_cases hz : (puts (lst s) D (vals b pre)).2.fuse = 0
    · have e1 : (dStep (puts (lst s) D (vals b pre)).2 (put1 (lst s) (part b x.1))).1 = 10 := by simp [dStep, hz]
      rw [e1]
      have d2 : W'.cell? ⟨w.heap.size + 1, 0, none⟩ = some (.int .i64 0) := hI'.b2.cell 0
      have df : W'.frozen? ⟨w.heap.size + 1, 0, none⟩ = false := hI'.b2.frozen 0
      gi_wp2
      exact ⟨hkf.trans ((KeepsOthers.setCell _ _ _).from _), rfl, by rw [hsn]; exact e1, by rw [hsn]; exact hI'.put (Nat.le_refl _) 10⟩
    · have e1 : (dStep (puts (lst s) D (vals b pre)).2 (put1 (lst s) (part b x.1))).1 = 0 := by simp [dStep, hz]
      rw [e1]
      gi_wp2
      exact ⟨hkf, htw, by rw [hsn]; exact e1, by rw [hsn]; exact hI'⟩
  case done =>
    rintro D' ys W hD rfl ⟨hp, hI⟩ hK
    have hv : vals b (upto L (np L)) = parts b := by rw [parts_vals hbL]; exact vals_upto (Nat.le_refl _)
    rw [hv] at hp hI
    have d2 : W.cell? ⟨w.heap.size + 1, 0, none⟩ = some (.int .i64 0) := hI.b2.cell 0
    have df : W.frozen? ⟨w.heap.size + 1, 0, none⟩ = false := hI.b2.frozen 0
    gi_wp2
    have hK2 : (W.setCell ⟨w.heap.size + 1, 0, none⟩ (.int .i64 0)).heap[D']? = some (.deferred (some [])) := (KeepsOthers.setCell W ⟨w.heap.size + 1, 0, none⟩ (.int .i64 0)).same D' _ hK rfl
    refine ⟨by simp, .inl ⟨_, _, rfl, run_takeDeferred hK2, ?_⟩⟩
    have hI2 := (hI.put (Nat.le_refl _) 0).own hmb3 hb3.size (grownBy_putObj' _ D' (.deferred none)) (fun r e => by cases e; exact ⟨hD, _, hK2, rfl⟩)
    have hcell : ((W.setCell ⟨w.heap.size + 1, 0, none⟩ (.int .i64 0)).putObj D' (.deferred none)).cell? ⟨w.heap.size + 1, 0, none⟩ = some (.int .i64 0) := hI2.b2.cell 0
    obtain ⟨vs', hd, hfo⟩ := hI2.dk
    refine ⟨.int .i64 0, by simp [results, Tryz.results53, go_sem, hcell], by rw [hp], _, vs', hd, ⟨hI2.out, hfo⟩⟩
  case stop =>
    rintro D' j pre W hD ⟨k, hk, rfl⟩ ⟨rfl, hp, hI⟩ hK
    have hv : parts b = vals b (upto L k) ++ ((List.range (np L)).map (part b)).drop k := by
      rw [parts_vals hbL]
      have e : vals b (upto L k) = ((List.range (np L)).map (part b)).take k := by
        rw [show vals b (upto L k) = (List.range k).map (part b) from vals_upto hk, ← List.map_take, List.take_range, Nat.min_eq_left hk]
      rw [e, List.take_append_drop]
    have hpp : puts (lst s) D (parts b) = puts (lst s) D (vals b (upto L k)) := by rw [hv]; exact puts_stop _ _ _ _ (by rw [hp]; decide)
    rw [← hpp] at hp hI
    have d2 : W.cell? ⟨w.heap.size + 1, 0, none⟩ = some (.int .i64 10) := hI.b2.cell 0
    gi_wp2
    refine ⟨by simp, .inl ⟨_, _, rfl, run_takeDeferred hK, ?_⟩⟩
    have hI2 := hI.own hmb3 hb3.size (grownBy_putObj' _ D' (.deferred none)) (fun r e => by cases e; exact ⟨hD, _, hK, rfl⟩)
    have hcell : (W.putObj D' (.deferred none)).cell? ⟨w.heap.size + 1, 0, none⟩ = some (.int .i64 10) := hI2.b2.cell 0
    obtain ⟨vs', hd, hfo⟩ := hI2.dk
    refine ⟨.int .i64 10, by simp [results, Tryz.results53, go_sem, hcell], by rw [hp], _, vs', hd, ⟨hI2.out, hfo⟩⟩

theorem dAppend_err {D : Dsk} {l : Nm} {b : List Int} (h : fcode D l ≠ 0) : dAppend D l b = (fcode D l, D) := by
  unfold dAppend
  unfold fcode at h ⊢
  by_cases ha : ask D [l] ≠ 0
  · simp only [if_pos ha]
  · simp only [if_neg ha] at h ⊢
    by_cases hn : (find D.files l).isNone = true
    · simp only [if_pos hn]
    · simp only [if_neg hn] at h
      exact absurd rfl h

set_option maxRecDepth 100000 in
set_option maxHeartbeats 2000000 in
theorem append_any (s : ByteArray) (hs : s.size ≤ 9223372036854775807) (b : List Int) (A : Option Addr) (L c : Nat) (w : World) (h : Dk 0 w S d D) (hr : Room D) (hok : Okd D)
    (hbL : b.length = L) (hLc : L ≤ c) (hL63 : L ≤ 9223372036854775807) (hA0 : A = none → c = 0) (hrd : Rds w w.heap.size A (c8 b)) (hbS : ∀ ad, A = some ad → c8 b ≠ [] → ¬ S ad.block) :
    Calls Tryz.prog 53 #[.pointer (some ⟨d, 0, none⟩), .string s, .slice A L c] w fun e w' => e = .returned (.int .i64 (dAppend D (lst s) b).1) ∧ ∃ S', Dk 0 w' S' d (dAppend D (lst s) b).2 ∧ Turn S S' w w' := by
  have hD := h
  obtain ⟨mb, nn, M, blk, vs, h, hnn⟩ := h
  have hfi : ∀ W, Below w.heap.size w W → Calls Tryz.prog 69 #[.pointer (some ⟨d, 0, none⟩), .string s] W _ := fun W hb => find_any s hs W (h.go hb) hnn
  by_cases hc : fcode D (lst s) = 0
  · obtain ⟨ha, f, hf⟩ := fcode_ok hc
    by_cases hfit : left D < (L : Int)
    · have e2 : dAppend D (lst s) b = (8, D) := by
        unfold dAppend
        rw [if_neg (by simp [ha]), hf]
        simp only [Option.isNone_some, Bool.false_eq_true, if_false]
        rw [hbL, if_pos hfit]
      rw [e2]
      have hb : Below w.heap.size w ((w.alloc (.cells #[.pointer (some ⟨d, 0, none⟩)] 23)).alloc (.cells #[.int .i64 0] 24)) := ((Below.refl _ w).alloc (Nat.le_refl _) _).alloc (by simp) _
      have hcon := hfi _ hb
      have e1 : fpt D blk (lst s) = .pointer (some ⟨blk (lst s), 0, none⟩) := by simp [fpt, hc]
      rw [e1, hc] at hcon
      have x1 : Whole ((w.alloc (.cells #[.pointer (some ⟨d, 0, none⟩)] 23)).alloc (.cells #[.int .i64 0] 24)) w.heap.size 23 #[.pointer (some ⟨d, 0, none⟩)] := (Whole.new w _ _).alloc _
      have x2 : Whole ((w.alloc (.cells #[.pointer (some ⟨d, 0, none⟩)] 23)).alloc (.cells #[.int .i64 0] 24)) (w.heap.size + 1) 24 #[.int .i64 0] := by
        have := Whole.new (w.alloc (.cells #[.pointer (some ⟨d, 0, none⟩)] 23)) 24 #[.int .i64 0]
        rw [World.size_alloc] at this
        exact this
      have HT := Lib.hid h.top
      clear e1 e2 hfi hf ha hc
      generalize blk (lst s) = bk at hcon
      generalize hWW : (w.alloc (.cells #[.pointer (some ⟨d, 0, none⟩)] 23)).alloc (.cells #[.int .i64 0] 24) = WW at *
      have HWW := Lib.hid hWW
      clear hWW
      go_enter Tryz.func53, Tryz.ntmps53
      go_wp2_with fail
      rw [HWW.out]
      refine hcon.mono ?_
      rintro e w1 ⟨rfl, hb1⟩
      have hb2 : Below w.heap.size w w1 := hb.trans (hb1.mono hb.size)
      have y1 := x1.below hb1 x1.lt
      have y2 := x2.below hb1 x2.lt
      have t1 := HT.out.below hb2 (h.lt _ h.sd)
      have k1 : (w1.alloc (.cells #[.pointer (some ⟨bk, 0, none⟩)] 69)).cell? ⟨w.heap.size, 0, none⟩ = some (.pointer (some ⟨d, 0, none⟩)) := (y1.alloc _).cell 0
      have k2 : (w1.alloc (.cells #[.pointer (some ⟨bk, 0, none⟩)] 69)).cell? ⟨d, 2, none⟩ = some (.int .i64 (left D)) := (t1.alloc _).cell 2
      have k3 : (w1.alloc (.cells #[.pointer (some ⟨bk, 0, none⟩)] 69)).cell? ⟨w.heap.size + 1, 0, none⟩ = some (.int .i64 0) := (y2.alloc _).cell 0
      have k4 : (w1.alloc (.cells #[.pointer (some ⟨bk, 0, none⟩)] 69)).frozen? ⟨w.heap.size + 1, 0, none⟩ = false := (y2.alloc _).frozen 0
      have hb3 : Below w.heap.size w ((w1.alloc (.cells #[.pointer (some ⟨bk, 0, none⟩)] 69)).setCell ⟨w.heap.size + 1, 0, none⟩ (.int .i64 8)) := (hb2.alloc hb2.size _).setCell (p := ⟨w.heap.size + 1, 0, none⟩) (Nat.le_succ _) _
      have hcell : ((w1.alloc (.cells #[.pointer (some ⟨bk, 0, none⟩)] 69)).setCell ⟨w.heap.size + 1, 0, none⟩ (.int .i64 8)).cell? ⟨w.heap.size + 1, 0, none⟩ = some (.int .i64 8) := ((y2.alloc _).put 0 _).cell 0
      have HB := Lib.hid hb3
      clear hb3 x1 x2 y1 y2 t1 hcon hb hb1 hb2 HWW h
      generalize left D = LL at *
      go_wp2
      (try simp only [Exit.inBlock, Exit.then])
      refine bodyPost_ret (by simp [results, Tryz.results53, go_sem, hcell]; try rfl) rfl ?_
      exact ⟨rfl, S, hD.go HB.out, Turn.below HB.out⟩
    · have e2 : dAppend D (lst s) b = puts (lst s) D (parts b) := by
        unfold dAppend
        rw [if_neg (by simp [ha]), hf]
        simp only [Option.isNone_some, Bool.false_eq_true, if_false]
        rw [hbL, if_neg hfit]
      rw [e2]
      have hL40 : L ≤ 1073741824 := by have := hok.room; simp only [left] at hfit; omega
      refine (callsIn_wide.1 (append_in s hs b A L c w h hnn hr hok hf hc hbL hLc hL40 (by omega) hA0 hrd hbS)).mono ?_
      rintro e w' ⟨rfl, S', vs', hk, ht⟩
      refine ⟨rfl, S', ⟨mb, nn, M, blk, vs', hk, ?_⟩, ht⟩
      have hst : ∀ (ps : List (List Int)) (E : Dsk), E.steps ≤ (puts (lst s) E ps).2.steps := by
        intro ps
        induction ps with
        | nil => intro E; exact Nat.le_refl _
        | cons p ps ih =>
          intro E
          unfold puts
          split
          · exact Nat.le_refl _
          · exact Nat.le_trans (by simp only [tick]; omega) (ih _)
      have := hst (parts b) D
      omega
  · have e1 : fpt D blk (lst s) = .pointer none := by simp [fpt, hc]
    rw [dAppend_err hc]
    have hn : (fcode D (lst s) != 0) = true := by simpa using hc
    have hb : Below w.heap.size w ((w.alloc (.cells #[.pointer (some ⟨d, 0, none⟩)] 23)).alloc (.cells #[.int .i64 0] 24)) := ((Below.refl _ w).alloc (Nat.le_refl _) _).alloc (by simp) _
    have hcon := hfi _ hb
    rw [e1] at hcon
    have x2 : Whole ((w.alloc (.cells #[.pointer (some ⟨d, 0, none⟩)] 23)).alloc (.cells #[.int .i64 0] 24)) (w.heap.size + 1) 24 #[.int .i64 0] := by
      have := Whole.new (w.alloc (.cells #[.pointer (some ⟨d, 0, none⟩)] 23)) 24 #[.int .i64 0]
      rw [World.size_alloc] at this
      exact this
    clear hfi e1
    generalize fcode D (lst s) = fc at *
    generalize hWW : (w.alloc (.cells #[.pointer (some ⟨d, 0, none⟩)] 23)).alloc (.cells #[.int .i64 0] 24) = WW at *
    have HWW := Lib.hid hWW
    clear hWW hc h
    go_enter Tryz.func53, Tryz.ntmps53
    go_wp2_with fail
    rw [HWW.out]
    refine hcon.mono ?_
    rintro e w1 ⟨rfl, hb1⟩
    have hb2 : Below w.heap.size w w1 := hb.trans (hb1.mono hb.size)
    have y2 := x2.below hb1 x2.lt
    have k3 : (w1.alloc (.cells #[.pointer none] 69)).cell? ⟨w.heap.size + 1, 0, none⟩ = some (.int .i64 0) := (y2.alloc _).cell 0
    have k4 : (w1.alloc (.cells #[.pointer none] 69)).frozen? ⟨w.heap.size + 1, 0, none⟩ = false := (y2.alloc _).frozen 0
    have hb3 : Below w.heap.size w ((w1.alloc (.cells #[.pointer none] 69)).setCell ⟨w.heap.size + 1, 0, none⟩ (.int .i64 fc)) := (hb2.alloc hb2.size _).setCell (p := ⟨w.heap.size + 1, 0, none⟩) (Nat.le_succ _) _
    have hcell : ((w1.alloc (.cells #[.pointer none] 69)).setCell ⟨w.heap.size + 1, 0, none⟩ (.int .i64 fc)).cell? ⟨w.heap.size + 1, 0, none⟩ = some (.int .i64 fc) := ((y2.alloc _).put 0 _).cell 0
    have HB := Lib.hid hb3
    clear hb3 x2 y2 hcon hb hb1 hb2 HWW
    go_wp2
    (try simp only [Exit.inBlock, Exit.then])
    refine bodyPost_ret (by simp [results, Tryz.results53, go_sem, hcell]; try rfl) rfl ?_
    exact ⟨rfl, S, hD.go HB.out, Turn.below HB.out⟩
end
end Go.Proofs.YtbobakfcmkaijaaGreatDoor
end

section
/- What holds of a disk holds behind every call. -/
namespace Go.Proofs.YtbobakfcmkaijaaGreatDoor
set_option linter.unusedVariables false

theorem ask_okn {D : Dsk} {l : Nm} (h : ask D [l] = 0) : D.off = false ∧ okN l = true := by
  unfold ask at h
  split at h
  · cases h
  · rename_i ho
    split at h
    · rename_i ha
      exact ⟨by simpa using ho, by simpa using ha⟩
    · cases h
theorem ask_okn2 {D : Dsk} {l m : Nm} (h : ask D [l, m] = 0) : D.off = false ∧ okN l = true ∧ okN m = true := by
  unfold ask at h
  split at h
  · cases h
  · rename_i ho
    split at h
    · rename_i ha
      simp at ha
      exact ⟨by simpa using ho, ha.1, ha.2⟩
    · cases h

/-- with other files -/
theorem okd_files {D : Dsk} (h : Okd D) {fs : List Fl} (h1 : Srt fs) (h2 : ∀ f ∈ fs, okN f.nm = true) (h3 : ∀ f ∈ fs, f.sy ≤ f.bs.length) (h4 : used fs ≤ D.room) {fu : Int} {o : Bool} {n : Nat} (h5 : -1 ≤ fu) (h6 : fu ≤ 9223372036854775807) : Okd ⟨D.room, fs, o, fu, n⟩ :=
  ⟨h1, h2, h3, h4, h.room, h5, h6⟩
theorem okd_step {D : Dsk} (h : Okd D) {t : List Fl → List Fl} (h1 : Srt (t D.files)) (h2 : ∀ f ∈ t D.files, okN f.nm = true) (h3 : ∀ f ∈ t D.files, f.sy ≤ f.bs.length) (h4 : used (t D.files) ≤ D.room) : Okd (dStep D t).2 := by
  unfold dStep
  split
  · exact okd_files h h.srt h.nms h.sy h.fits h.fuse0 h.fuse1
  · exact okd_files h h1 h2 h3 h4 (by have := h.fuse0; simp only [tick]; split <;> omega) (by have := h.fuse1; simp only [tick]; split <;> omega)
theorem steps_step (D : Dsk) (t : List Fl → List Fl) : (dStep D t).2.steps ≤ D.steps + 1 ∧ D.steps ≤ (dStep D t).2.steps ∧ (dStep D t).2.room = D.room := by
  unfold dStep
  split
  · exact ⟨by simp [fall], by simp [fall], rfl⟩
  · exact ⟨by simp [tick], by simp [tick], rfl⟩
theorem mem_upd {fs : List Fl} {l : Nm} {g : Fl → Fl} {f : Fl} (h : f ∈ upd l g fs) : ∃ a ∈ fs, f = g a ∨ f = a := by
  obtain ⟨a, ha, rfl⟩ := List.mem_map.1 h
  refine ⟨a, ha, ?_⟩
  split
  · exact .inl rfl
  · exact .inr rfl
theorem mem_del {fs : List Fl} {l : Nm} {f : Fl} (h : f ∈ del l fs) : f ∈ fs := (List.mem_filter.1 h).1
theorem used_del_le {fs : List Fl} (hs : Srt fs) (l : Nm) : used (del l fs) ≤ used fs := by
  cases h : find fs l with
  | none => rw [del_none h]; exact Nat.le_refl _
  | some f => have := used_del hs h; omega

theorem okd_make {D : Dsk} (h : Okd D) (l : Nm) : Okd (dMake D l).2 := by
  unfold dMake
  split
  · exact h
  · rename_i ha
    split
    · exact h
    · rename_i hn
      have hf : find D.files l = none := by simpa using hn
      have ho := (ask_okn (D := D) (l := l) (by simpa using ha)).2
      refine okd_step h (srt_ins h.srt hf) ?_ ?_ (by rw [used_ins]; have := h.fits; simpa using this)
      · intro f hm
        rcases mem_ins.1 hm with rfl | hm
        · exact ho
        · exact h.nms f hm
      · intro f hm
        rcases mem_ins.1 hm with rfl | hm
        · exact Nat.le_refl _
        · exact h.sy f hm
theorem okd_sync {D : Dsk} (h : Okd D) (l : Nm) : Okd (dSync D l).2 := by
  unfold dSync
  split
  · exact h
  · split
    · exact h
    · refine okd_step h (srt_upd h.srt l _ (fun _ => rfl)) ?_ ?_ (by rw [used_upd D.files l (fun f => { f with sy := f.bs.length }) (fun _ _ => rfl)]; exact h.fits)
      · intro f hm
        obtain ⟨a, ha, rfl | rfl⟩ := mem_upd hm
        · exact h.nms a ha
        · exact h.nms f ha
      · intro f hm
        obtain ⟨a, ha, rfl | rfl⟩ := mem_upd hm
        · exact Nat.le_refl _
        · exact h.sy f ha
theorem okd_remove {D : Dsk} (h : Okd D) (l : Nm) : Okd (dRemove D l).2 := by
  unfold dRemove
  split
  · exact h
  · split
    · exact h
    · exact okd_step h (srt_del h.srt l) (fun f hm => h.nms f (mem_del hm)) (fun f hm => h.sy f (mem_del hm)) (Nat.le_trans (used_del_le h.srt l) h.fits)
theorem okd_rename {D : Dsk} (h : Okd D) (l m : Nm) : Okd (dRename D l m).2 := by
  unfold dRename
  split
  · exact h
  · rename_i ha
    have ho := (ask_okn2 (D := D) (l := l) (m := m) (by simpa using ha)).2.2
    cases hf : find D.files l with
    | none => exact h
    | some f =>
      simp only
      split
      · exact h
      · rename_i hne
        have hs1 := srt_del h.srt l
        have hs2 := srt_del hs1 m
        have hm2 : find (del m (del l D.files)) m = none := by rw [find_del, if_pos rfl]
        refine okd_step h (srt_ins (f := { f with nm := m }) hs2 hm2) ?_ ?_ ?_
        · intro a ha
          rcases mem_ins.1 ha with rfl | ha
          · exact ho
          · exact h.nms a (mem_del (mem_del ha))
        · intro a ha
          rcases mem_ins.1 ha with rfl | ha
          · exact h.sy f (find_some hf).1
          · exact h.sy a (mem_del (mem_del ha))
        · rw [mv, used_ins]
          have h1 := used_del h.srt hf
          have h2 := used_del_le hs1 m
          have := h.fits
          simp only
          omega
theorem okd_fuse {D : Dsk} (h : Okd D) {n : Int} (hn : n ≤ 9223372036854775807) : Okd (dFuse D n).2 := by
  unfold dFuse
  split
  · exact h
  · split
    · exact h
    · exact okd_files h h.srt h.nms h.sy h.fits (by omega) hn
theorem okd_free {D : Dsk} (h : Okd D) : Okd (dFree D) := okd_files h h.srt h.nms h.sy h.fits (by omega) (by omega)
theorem okd_crash {D : Dsk} (h : Okd D) (ks : List Int) : Okd (dCrash D ks).2 := by
  unfold dCrash
  split
  · exact h
  · have := okd_crsN h D.files.length ks
    rw [crsN_all] at this
    exact okd_files h this.srt this.nms this.sy this.fits (by omega) (by omega)
theorem okd_turn {D : Dsk} (h : Okd D) (x : Int → Int) (l : Nm) (i : Int) : Okd (dTurn x D l i).2 := by
  unfold dTurn
  split
  · exact h
  · cases hf : find D.files l with
    | none => exact h
    | some f =>
      simp only
      split
      · exact h
      · refine okd_files h (fs := upd l (fun f => { f with bs := f.bs.modify i.toNat x }) D.files) (srt_upd h.srt l _ (fun _ => rfl)) ?_ ?_ (by rw [used_turn]; exact h.fits) h.fuse0 h.fuse1
        · intro f hm
          obtain ⟨a, ha, rfl | rfl⟩ := mem_upd hm
          · exact h.nms a ha
          · exact h.nms f ha
        · intro f hm
          obtain ⟨a, ha, rfl | rfl⟩ := mem_upd hm
          · simpa using h.sy a ha
          · exact h.sy f ha

/-- pieces that fit -/
theorem okd_puts (l : Nm) : ∀ (ps : List (List Int)) (D : Dsk) (f : Fl), Okd D → find D.files l = some f → used D.files + ps.flatten.length ≤ D.room → Okd (puts l D ps).2
  | [], D, f, h, _, _ => h
  | p :: ps, D, f, h, hf, hl => by
    unfold puts
    split
    · exact okd_files h h.srt h.nms h.sy h.fits h.fuse0 h.fuse1
    · simp only [List.flatten_cons, List.length_append] at hl
      refine okd_puts l ps _ { f with bs := f.bs ++ p } ?_ (put1_find hf p) (by simp only [used_put1 h.srt hf]; show _ ≤ D.room; omega)
      refine okd_files (n := D.steps + 1) (o := D.off) (fu := (tick D).fuse) h (fs := put1 l p D.files) (srt_upd h.srt l _ (fun _ => rfl)) ?_ ?_ (by rw [used_put1 h.srt hf]; omega) (by have := h.fuse0; simp only [tick]; split <;> omega) (by have := h.fuse1; simp only [tick]; split <;> omega)
      · intro f hm
        obtain ⟨a, ha, rfl | rfl⟩ := mem_upd hm
        · exact h.nms a ha
        · exact h.nms f ha
      · intro f hm
        obtain ⟨a, ha, rfl | rfl⟩ := mem_upd hm
        · have := h.sy a ha
          simp only [List.length_append]
          omega
        · exact h.sy f ha
theorem parts_flat (b : List Int) : (parts b).flatten = b := by
  have key : ∀ n, ((List.range n).map (part b)).flatten = b.take (64 * n) := by
    intro n
    induction n with
    | zero => simp
    | succ n ih =>
      rw [List.range_succ, List.map_append, List.flatten_append, ih]
      simp only [List.map_cons, List.map_nil, List.flatten_cons, List.flatten_nil, List.append_nil, part]
      rw [show 64 * (n + 1) = 64 * n + 64 by omega, List.take_add]
  unfold parts
  rw [key, List.take_of_length_le (by simp only [nparts]; omega)]
theorem okd_append {D : Dsk} (h : Okd D) (l : Nm) (b : List Int) : Okd (dAppend D l b).2 := by
  unfold dAppend
  split
  · exact h
  · cases hf : find D.files l with
    | none => exact h
    | some f =>
      simp only [Option.isNone_some, Bool.false_eq_true, if_false]
      split
      · exact h
      · rename_i hl
        refine okd_puts l _ D f h hf ?_
        rw [parts_flat]
        simp only [left] at hl
        omega
theorem steps_puts (l : Nm) : ∀ (ps : List (List Int)) (D : Dsk), (puts l D ps).2.steps ≤ D.steps + ps.length ∧ D.steps ≤ (puts l D ps).2.steps ∧ (puts l D ps).2.room = D.room
  | [], D => ⟨by simp [puts], by simp [puts], rfl⟩
  | p :: ps, D => by
    unfold puts
    split
    · exact ⟨by simp [fall], by simp [fall], rfl⟩
    · obtain ⟨h1, h2, h3⟩ := steps_puts l ps { tick D with files := put1 l p D.files }
      refine ⟨?_, ?_, h3⟩
      · simp only [tick, List.length_cons] at h1 ⊢
        omega
      · simp only [tick] at h2 ⊢
        omega
theorem steps_append (D : Dsk) (l : Nm) (b : List Int) : (dAppend D l b).2.steps ≤ D.steps + (b.length + 63) / 64 ∧ D.steps ≤ (dAppend D l b).2.steps ∧ (dAppend D l b).2.room = D.room := by
  unfold dAppend
  split
  · exact ⟨Nat.le_add_right _ _, Nat.le_refl _, rfl⟩
  · split
    · exact ⟨Nat.le_add_right _ _, Nat.le_refl _, rfl⟩
    · split
      · exact ⟨Nat.le_add_right _ _, Nat.le_refl _, rfl⟩
      · have := steps_puts l (parts b) D
        simpa [parts, nparts] using this
theorem steps_make (D : Dsk) (l : Nm) : (dMake D l).2.steps ≤ D.steps + 1 ∧ D.steps ≤ (dMake D l).2.steps ∧ (dMake D l).2.room = D.room := by
  unfold dMake
  split
  · exact ⟨Nat.le_add_right _ _, Nat.le_refl _, rfl⟩
  · split
    · exact ⟨Nat.le_add_right _ _, Nat.le_refl _, rfl⟩
    · exact steps_step D _
theorem steps_sync (D : Dsk) (l : Nm) : (dSync D l).2.steps ≤ D.steps + 1 ∧ D.steps ≤ (dSync D l).2.steps ∧ (dSync D l).2.room = D.room := by
  unfold dSync
  split
  · exact ⟨Nat.le_add_right _ _, Nat.le_refl _, rfl⟩
  · split
    · exact ⟨Nat.le_add_right _ _, Nat.le_refl _, rfl⟩
    · exact steps_step D _
theorem steps_remove (D : Dsk) (l : Nm) : (dRemove D l).2.steps ≤ D.steps + 1 ∧ D.steps ≤ (dRemove D l).2.steps ∧ (dRemove D l).2.room = D.room := by
  unfold dRemove
  split
  · exact ⟨Nat.le_add_right _ _, Nat.le_refl _, rfl⟩
  · split
    · exact ⟨Nat.le_add_right _ _, Nat.le_refl _, rfl⟩
    · exact steps_step D _
theorem steps_rename (D : Dsk) (l m : Nm) : (dRename D l m).2.steps ≤ D.steps + 1 ∧ D.steps ≤ (dRename D l m).2.steps ∧ (dRename D l m).2.room = D.room := by
  unfold dRename
  split
  · exact ⟨Nat.le_add_right _ _, Nat.le_refl _, rfl⟩
  · cases find D.files l with
    | none => exact ⟨Nat.le_add_right _ _, Nat.le_refl _, rfl⟩
    | some f =>
      simp only
      split
      · exact ⟨Nat.le_add_right _ _, Nat.le_refl _, rfl⟩
      · exact steps_step D _
theorem steps_fuse (D : Dsk) (n : Int) : (dFuse D n).2.steps = D.steps ∧ (dFuse D n).2.room = D.room := by
  unfold dFuse
  split
  · exact ⟨rfl, rfl⟩
  · split <;> exact ⟨rfl, rfl⟩
theorem steps_crash (D : Dsk) (ks : List Int) : (dCrash D ks).2.steps = D.steps ∧ (dCrash D ks).2.room = D.room := by
  unfold dCrash
  split <;> exact ⟨rfl, rfl⟩
theorem steps_turn (x : Int → Int) (D : Dsk) (l : Nm) (i : Int) : (dTurn x D l i).2.steps = D.steps ∧ (dTurn x D l i).2.room = D.room := by
  unfold dTurn
  split
  · exact ⟨rfl, rfl⟩
  · cases find D.files l with
    | none => exact ⟨rfl, rfl⟩
    | some f =>
      simp only
      split <;> exact ⟨rfl, rfl⟩
theorem okd_room {D : Dsk} (h : Okd D) (hs : D.steps + 100 ≤ 1099511627776) : Room D := ⟨hs, h.fuse0, h.fuse1⟩
theorem okd_new (r : Nat) (hr : r ≤ 1073741824) : Okd (dNew r) := ⟨List.Pairwise.nil, by simp [dNew], by simp [dNew], by simp [dNew, used], hr, by simp [dNew], by simp [dNew]⟩
theorem len30 {D : Dsk} (h : Okd D) : ∀ l f, find D.files l = some f → f.bs.length ≤ 1073741824 := by
  intro l f hf
  have h1 := used_del h.srt hf
  have := h.fits
  have := h.room
  omega
end Go.Proofs.YtbobakfcmkaijaaGreatDoor
end
