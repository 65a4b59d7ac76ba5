/- The program's Append. -/
import Derived.Test.YtnpomiidkdnebaaDApp1
namespace Go.Proofs.Ytnpomiidkdnebaa
open Go.RowKit Go.Maps Go.WideMaps Go.Shelf
set_option linter.unusedVariables false
attribute [local go_sem] Oper.semAt_some

theorem puts_snoc (l : Nm) : ∀ (ps : List (List Int)) (D : Dsk) (p : List Int), (puts l D ps).1 = 0 → puts l D (ps ++ [p]) = dStep (puts l D ps).2 (put1 l p)
  | [], D, p, _ => by
    simp only [List.nil_append, puts, dStep]
    rfl
  | q :: ps, D, p, h => by
    rw [List.cons_append]
    unfold puts at h ⊢
    by_cases hf : D.fuse = 0
    · rw [if_pos hf] at h; cases h
    · rw [if_neg hf] at h
      rw [if_neg hf, if_neg hf]
      exact puts_snoc l ps _ p h
theorem puts_stop (l : Nm) : ∀ (ps rs : List (List Int)) (D : Dsk), (puts l D ps).1 ≠ 0 → puts l D (ps ++ rs) = puts l D ps
  | [], rs, D, h => absurd rfl h
  | q :: ps, rs, D, h => by
    rw [List.cons_append]
    unfold puts at h ⊢
    by_cases hf : D.fuse = 0
    · rw [if_pos hf, if_pos hf]
    · rw [if_neg hf] at h
      rw [if_neg hf, if_neg hf]
      exact puts_stop l ps rs _ h

/-- what holds behind the pieces -/
structure Put (l : Nm) (D E : Dsk) (f : Fl) (ps : List (List Int)) : Prop where
  srt : Srt E.files
  fnd : ∃ g, find E.files l = some g ∧ g.bs = f.bs ++ ps.flatten
  used : used E.files = used D.files + ps.flatten.length
  room : E.room = D.room
  steps : E.steps = D.steps + ps.length
  f0 : -1 ≤ E.fuse
  f1 : E.fuse ≤ 9223372036854775807
theorem put1_find {fs : List Fl} {l : Nm} {f : Fl} (h : find fs l = some f) (p : List Int) : find (put1 l p fs) l = some { f with bs := f.bs ++ p } := by
  unfold put1
  rw [find_upd fs l l (fun f => { f with bs := f.bs ++ p }) (fun _ => rfl), h]
  simp
theorem puts_inv (l : Nm) : ∀ (ps : List (List Int)) (D : Dsk) (f : Fl), Srt D.files → find D.files l = some f → -1 ≤ D.fuse → D.fuse ≤ 9223372036854775807 → (puts l D ps).1 = 0 → Put l D (puts l D ps).2 f ps
  | [], D, f, hs, hf, h0, h1, _ => ⟨hs, ⟨f, hf, by simp⟩, by simp [puts], rfl, rfl, h0, h1⟩
  | p :: ps, D, f, hs, hf, h0, h1, h => by
    unfold puts at h ⊢
    by_cases hz : D.fuse = 0
    · rw [if_pos hz] at h; cases h
    · rw [if_neg hz] at h
      rw [if_neg hz]
      have ih := puts_inv l ps { tick D with files := put1 l p D.files } { f with bs := f.bs ++ p } (srt_upd hs l _ (fun _ => rfl)) (put1_find hf p)
        (by simp only [tick]; split <;> omega) (by simp only [tick]; split <;> omega) h
      obtain ⟨g, hg, hb⟩ := ih.fnd
      refine ⟨ih.srt, ⟨g, hg, by rw [hb]; simp⟩, ?_, ih.room, ?_, ih.f0, ih.f1⟩
      · rw [ih.used]
        simp only [used_put1 hs hf, List.flatten_cons, List.length_append]
        omega
      · rw [ih.steps]
        simp only [tick, List.length_cons]
        omega
theorem part_len (b : List Int) (k : Nat) : (part b k).length = pl b.length k := by simp [part, pl]
theorem flat_le (b : List Int) : ∀ (ks : List Nat), ((ks.map (part b)).flatten).length ≤ 64 * ks.length
  | [] => by simp
  | k :: ks => by
    have := flat_le b ks
    have h2 : (part b k).length ≤ 64 := by simp [part]; omega
    simp only [List.map_cons, List.flatten_cons, List.length_append, List.length_cons]
    omega

section
variable {S : Nat → Prop} {d mb nn : Nat} {M : DataW Unit} {blk : Nm → Nat} {vs : Nm → Value} {D : Dsk}

/-- just the disk's own places -/
def Foot (d mb : Nat) (blk : Nm → Nat) (vs : Nm → Value) (D : Dsk) : Nat → Prop := fun k => k = d ∨ k = mb ∨ ∃ l f, find D.files l = some f ∧ (k = blk l ∨ (vs l).ownBlock = some k)
theorem DkAt.foot {w : World} (h : DkAt w S d mb nn M blk vs D) : DkAt w (Foot d mb blk vs D) d mb nn M blk vs D :=
  { top := h.top, map := h.map, key := h.key, fil := h.fil, inj := h.inj, sd := .inl rfl, sm := .inr (.inl rfl)
    sb := fun l f hf => ⟨.inr (.inr ⟨l, f, hf, .inl rfl⟩), fun g hg => .inr (.inr ⟨l, f, hf, .inr hg⟩)⟩
    lt := fun k hk => by
      rcases hk with rfl | rfl | ⟨l, f, hf, rfl | hg⟩
      · exact h.lt _ h.sd
      · exact h.lt _ h.sm
      · exact h.blt hf
      · exact h.rlt hf hg }
theorem DkAt.foot_in {w : World} (h : DkAt w S d mb nn M blk vs D) {k : Nat} (hk : Foot d mb blk vs D k) : S k := by
  rcases hk with rfl | rfl | ⟨l, f, hf, rfl | hg⟩
  · exact h.sd
  · exact h.sm
  · exact (h.sb l f hf).1
  · exact (h.sb l f hf).2 _ hg
theorem DkAt.foot_not {w : World} (h : DkAt w S d mb nn M blk vs D) {b : Nat} {t : TypeId} {cs : Array Value} (hb : Whole w b t cs) (h1 : t ≠ 54) (h2 : t ≠ 69) (h3 : t ≠ 5) : ¬ Foot d mb blk vs D b := by
  rintro (rfl | rfl | ⟨l, f, hf, rfl | hg⟩)
  · exact Whole.ne hb h.top h1 rfl
  · exact Whole.ne_map hb h.map rfl
  · exact Whole.ne hb (h.fil l f hf).1 h2 rfl
  · exact ownRow_ne (h.fil l f hf).2 hg hb (fun e => h3 e.symm) rfl
theorem DkAt.foot_cells {w : World} (h : DkAt w S d mb nn M blk vs D) {k : Nat} (hk : Foot d mb blk vs D k) (hm : k ≠ mb) : ∃ o, w.heap[k]? = some o ∧ o.isCells = true := by
  rcases hk with rfl | rfl | ⟨l, f, hf, rfl | hg⟩
  · exact ⟨_, h.top, rfl⟩
  · exact absurd rfl hm
  · exact ⟨_, (h.fil l f hf).1, rfl⟩
  · obtain ⟨_, _, cs, hh⟩ := ownRow_block (h.fil l f hf).2 hg
    exact ⟨_, hh, rfl⟩
/-- what is no cells turns, from B on -/
theorem DkAt.own {w w' : World} (h : DkAt w (Foot d mb blk vs D) d mb nn M blk vs D) {B : Nat} (hmb : mb < B) {row : Option Nat} (hg : w.grownBy w' row) (hr : ∀ r, row = some r → B ≤ r ∧ ∃ o : Obj, w.heap[r]? = some o ∧ o.isCells = false) : DkAt w' (Foot d mb blk vs D) d mb nn M blk vs D := by
  refine h.outs (S2 := fun k => row = some k) ⟨hg.os, hg.tape, hg.output, hg.size, fun k hk hn => hg.block k hk (fun e => hn e.symm)⟩ (fun k hk e => ?_)
  obtain ⟨h1, o, ho, hc⟩ := hr k e
  obtain ⟨o', ho', hc'⟩ := h.foot_cells hk (by omega)
  rw [ho] at ho'
  injection ho' with ho'
  rw [ho', hc'] at hc
  cases hc
theorem Whole.own {w w' : World} {b : Nat} {t : TypeId} {cs : Array Value} (h : Whole w b t cs) {B : Nat} {row : Option Nat} (hg : w.grownBy w' row) (hr : ∀ r, row = some r → B ≤ r ∧ ∃ o : Obj, w.heap[r]? = some o ∧ o.isCells = false) : Whole w' b t cs := by
  refine h.grown hg (fun e => ?_)
  obtain ⟨_, o, ho, hc⟩ := hr b e.symm
  unfold Whole at h
  rw [h] at ho
  injection ho with ho
  subst ho
  cases hc
theorem Outs.own {w w1 w' : World} (h : Outs S w w1) {B : Nat} (hB : w.heap.size ≤ B) {row : Option Nat} (hg : w1.grownBy w' row) (hr : ∀ r, row = some r → B ≤ r ∧ ∃ o : Obj, w1.heap[r]? = some o ∧ o.isCells = false) : Outs S w w' :=
  h.grown hg (fun k e => .inr (Nat.le_trans hB (hr k e).1))

theorem rds_part {w : World} {lim : Nat} {ad : Addr} {b : List Int} (h : Rds w lim (some ad) (c8 b)) (i m : Nat) : Rds w lim (some (ad.add i)) (c8 ((b.drop i).take m)) := by
  intro hne
  have hb : c8 b ≠ [] := by
    intro e
    have : b = [] := by simpa [c8] using e
    subst this
    simp [c8] at hne
  obtain ⟨ad', e, hl, hc⟩ := h hb
  obtain rfl := Option.some.inj e
  refine ⟨_, rfl, by rw [blk_add]; exact hl, fun j u hu => ?_⟩
  rw [add_twice]
  refine hc _ u ?_
  simp only [c8, List.getElem?_map, List.getElem?_take, List.getElem?_drop] at hu ⊢
  split at hu
  · exact hu
  · cases hu

/-- one piece, by one step -/
theorem stepA {l : Nm} {f : Fl} (p : List Int) (Ap : Option Addr) (m c b1 b2 b3 : Nat) (w : World) (h : DkAt w S d mb nn M blk vs D) (hs : Srt D.files) (hst : D.steps + 1 ≤ 9223372036854775807) (hf0 : -1 ≤ D.fuse) (hf1 : D.fuse ≤ 9223372036854775807)
    (hf : find D.files l = some f) (hpm : p.length = m) (hm : m ≤ 64) (hlen : f.bs.length ≤ 70368744177664) (hL0 : -70368744177664 ≤ left D) (hL1 : left D ≤ 70368744177664)
    (h1 : Whole w b1 66 #[.pointer (some ⟨blk l, 0, none⟩)]) (h2 : Whole w b2 29 #[.slice Ap m c]) (h3 : Whole w b3 23 #[.pointer (some ⟨d, 0, none⟩)]) (hr : Rds w w.heap.size Ap (c8 p)) (hA0 : Ap = none → c = 0)
    (n1 : ¬ S b1) (n2 : ¬ S b2) (n3 : ¬ S b3) (hrS : ∀ ad, Ap = some ad → c8 p ≠ [] → ¬ S ad.block) :
    Calls Try.prog 34 #[.pointer (some ⟨d, 0, none⟩), .func (.func 38) #[] #[.pointer (some ⟨b1, 0, none⟩), .pointer (some ⟨b2, 0, none⟩), .pointer (some ⟨b3, 0, none⟩)]] w fun e w' =>
      e = .returned (.int .i64 (dStep D (put1 l p)).1) ∧ ∃ S' vs', DkAt w' S' d mb nn M blk vs' (dStep D (put1 l p)).2 ∧ Turn S S' w w' := by
  refine (step_gen (fun _ mb' nn' M' blk' _ => mb' = mb ∧ nn' = nn ∧ M' = M ∧ blk' = blk) 38 _ (put1 l p) w h (fun _ => ⟨rfl, rfl, rfl, rfl⟩) hst hf0 hf1 append1_enters
    (fun hz w1 h1' ho hsz => (append1_any p Ap m c b1 b2 b3 w1 h1' hs hf hpm hm hlen hL0 hL1 (h1.outs ho n1) (h2.outs ho n2) (h3.outs ho n3) (hr.outs ho hrS) hA0 n1 n2 n3).mono ?_)).mono ?_
  · rintro e w2 ⟨rfl, S', vs', hk, ht⟩
    exact ⟨rfl, S', mb, nn, M, blk, vs', hk, ⟨rfl, rfl, rfl, rfl⟩, ht⟩
  · rintro e w' ⟨rfl, S', mb', nn', M', blk', vs', hk, ⟨rfl, rfl, rfl, rfl⟩, ht⟩
    exact ⟨rfl, S', vs', hk, ht⟩
end
end Go.Proofs.Ytnpomiidkdnebaa
