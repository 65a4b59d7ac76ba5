/- What holds between the acts of NetOnce: without the program. -/
import Derived.Test.YtkoalpbognpphaaNIn
namespace Go.Proofs.Ytkoalpbognpphaa
open Go.RowKit Go.Maps
set_option linter.unusedVariables false

/-- between two acts, k of them done -/
structure Mid7 (k : Nat) (es : List (Le × Pl)) (sent : Nat) (ss : List (Le × Pl)) (ov : List Int) : Prop where
  src : ∀ e ∈ es, ∃ s ∈ ss, s.1.num = e.1.first
  same : ∀ e ∈ es, ∀ s ∈ ss, s.1.num = e.1.first → s.1.frm = e.1.frm ∧ s.1.to_ = e.1.to_ ∧ s.1.body = e.1.body
  sn : ∀ s ∈ ss, s.1.num ≤ sent
  fresh : ∀ e ∈ es, e.1.num ∉ ov
  ovn : ∀ n ∈ ov, n ≤ sent
  en : ∀ e ∈ es, e.1.num ≤ sent ∧ e.1.first ≤ sent
  few : sent ≤ k
  len : es.length ≤ k
  lss : ss.length ≤ k
  lov : ov.length ≤ k
section
variable {k : Nat} {es : List (Le × Pl)} {sent : Nat} {ss : List (Le × Pl)} {ov : List Int}
theorem mid7_zero : Mid7 0 [] 0 [] [] :=
  ⟨fun e he => (by cases he), fun e he => (by cases he), fun e he => (by cases he), fun e he => (by cases he), fun e he => (by cases he), fun e he => (by cases he), Nat.le_refl _, Nat.le_refl _, Nat.le_refl _, Nat.le_refl _⟩
theorem Mid7.step (h : Mid7 k es sent ss ov) : Mid7 (k + 1) es sent ss ov :=
  ⟨h.src, h.same, h.sn, h.fresh, h.ovn, h.en, by have := h.few; omega, by have := h.len; omega, by have := h.lss; omega, by have := h.lov; omega⟩
theorem Mid7.filter (h : Mid7 k es sent ss ov) (f : Le × Pl → Bool) : Mid7 (k + 1) (es.filter f) sent ss ov :=
  ⟨fun e he => h.src e (List.mem_filter.1 he).1, fun e he => h.same e (List.mem_filter.1 he).1, h.sn, fun e he => h.fresh e (List.mem_filter.1 he).1, h.ovn, fun e he => h.en e (List.mem_filter.1 he).1,
    by have := h.few; omega, by have := h.len; have := List.length_filter_le f es; omega, by have := h.lss; omega, by have := h.lov; omega⟩
theorem Mid7.gone (h : Mid7 k es sent ss ov) {x : Int} {p : Le × Pl} (hp : pick es x = some p) : Mid7 (k + 1) (drop es x) sent ss (ov ++ [x]) ∧ x ∉ ov := by
  obtain ⟨_, _, hm, hx⟩ := hit_some hp
  have hf := h.filter (fun q => !decide (q.1.num = x))
  refine ⟨⟨hf.src, hf.same, hf.sn, fun e he hn => ?_, fun n hn => ?_, hf.en, hf.few, hf.len, hf.lss, by have := h.lov; simp; omega⟩, hx ▸ h.fresh p hm⟩
  · rcases List.mem_append.1 hn with hn | hn
    · exact hf.fresh e he hn
    · have := (List.mem_filter.1 he).2
      simp at this hn
      exact this hn
  · rcases List.mem_append.1 hn with hn | hn
    · exact h.ovn n hn
    · obtain rfl := List.mem_singleton.1 hn
      exact hx ▸ (h.en p hm).1
theorem Mid7.put (h : Mid7 k es sent ss ov) (f t : Int) (b : List Int) (kl ks : Pl) :
    Mid7 (k + 1) (es ++ [(⟨(sent + 1 : Nat), (sent + 1 : Nat), f, t, b⟩, kl)]) (sent + 1) (ss ++ [(⟨(sent + 1 : Nat), (sent + 1 : Nat), f, t, b⟩, ks)]) ov := by
  refine ⟨fun e he => ?_, fun e he s hs hn => ?_, fun s hs => ?_, fun e he hn => ?_, fun n hn => ?_, fun e he => ?_, by have := h.few; omega, by have := h.len; simp; omega, by have := h.lss; simp; omega, by have := h.lov; omega⟩
  · rcases List.mem_append.1 he with he | he
    · obtain ⟨s, hs, e⟩ := h.src e he
      exact ⟨s, List.mem_append_left _ hs, e⟩
    · obtain rfl := List.mem_singleton.1 he
      exact ⟨_, List.mem_append_right _ (List.mem_singleton.2 rfl), rfl⟩
  · rcases List.mem_append.1 he with he | he
    · rcases List.mem_append.1 hs with hs | hs
      · exact h.same e he s hs hn
      · obtain rfl := List.mem_singleton.1 hs
        have := (h.en e he).2
        simp only at hn
        omega
    · obtain rfl := List.mem_singleton.1 he
      rcases List.mem_append.1 hs with hs | hs
      · have := h.sn s hs
        simp only at hn
        omega
      · obtain rfl := List.mem_singleton.1 hs
        exact ⟨rfl, rfl, rfl⟩
  · rcases List.mem_append.1 hs with hs | hs
    · have := h.sn s hs; omega
    · obtain rfl := List.mem_singleton.1 hs
      simp
  · rcases List.mem_append.1 he with he | he
    · exact h.fresh e he hn
    · obtain rfl := List.mem_singleton.1 he
      have := h.ovn _ hn
      simp only at this
      omega
  · have := h.ovn n hn; omega
  · rcases List.mem_append.1 he with he | he
    · have := h.en e he; omega
    · obtain rfl := List.mem_singleton.1 he
      simp
theorem Mid7.doubled (h : Mid7 k es sent ss ov) {p : Le × Pl} (hp : p ∈ es) : Mid7 (k + 1) (es ++ [({ p.1 with num := (sent + 1 : Nat) }, p.2)]) (sent + 1) ss ov := by
  refine ⟨fun e he => ?_, fun e he s hs hn => ?_, fun s hs => by have := h.sn s hs; omega, fun e he hn => ?_, fun n hn => by have := h.ovn n hn; omega, fun e he => ?_, by have := h.few; omega, by have := h.len; simp; omega, by have := h.lss; omega, by have := h.lov; omega⟩
  · rcases List.mem_append.1 he with he | he
    · exact h.src e he
    · obtain rfl := List.mem_singleton.1 he
      exact h.src p hp
  · rcases List.mem_append.1 he with he | he
    · exact h.same e he s hs hn
    · obtain rfl := List.mem_singleton.1 he
      exact h.same p hp s hs hn
  · rcases List.mem_append.1 he with he | he
    · exact h.fresh e he hn
    · obtain rfl := List.mem_singleton.1 he
      have := h.ovn _ hn
      simp only at this
      omega
  · rcases List.mem_append.1 he with he | he
    · have := h.en e he; omega
    · obtain rfl := List.mem_singleton.1 he
      have := (h.en p hp).2
      simp only
      omega
end

/-- the net of NetOnce, and its two lists -/
structure On (w0 w : World) (S : Nat → Prop) (b mb : Nat) (es : List (Le × Pl)) (sent : Nat) (v4 v5 : Value) (ss : List (Le × Pl)) (ov : List Int) : Prop where
  nt : Nt w S b mb es sent
  sg : ∀ i, S i → w0.heap.size ≤ i
  row4 : w.ownsRow w0.heap.size 32 5 v4 ss.length (cLs ss)
  row5 : w.ownsRow w0.heap.size 25 1 v5 ov.length (cU ov)
  n4 : ∀ g, v4.ownBlock = some g → ¬ S g
  n5 : ∀ g, v5.ownBlock = some g → ¬ S g
  n45 : ∀ g, v4.ownBlock = some g → v5.ownBlock ≠ some g
  bds : ∀ p ∈ ss, Rds w w0.heap.size p.2.1 (c8 p.1.body) ∧ p.1.body.length ≤ 16777216
  below : Below w0.heap.size w0 w
section
variable {w0 w w' : World} {S S' : Nat → Prop} {b mb : Nat} {es es' : List (Le × Pl)} {sent sent' : Nat} {v4 v5 v : Value} {ss : List (Le × Pl)} {ov : List Int}
theorem On.turn (h : On w0 w S b mb es sent v4 v5 ss ov) (hn : Nt w' S' b mb es' sent') (ht : Turn S S' w w') : On w0 w' S' b mb es' sent' v4 v5 ss ov := by
  have hb : Below w0.heap.size w w' := ht.outs.below h.sg h.below.size
  have hold : ∀ g, S' g → g < w.heap.size → S g := fun g hg hl => by rcases ht.new g hg with e | e; exact e; omega
  refine ⟨hn, fun i hi => ?_, ownRow_block_kept h.row4 fun g hg => ht.outs.block g (h.row4.lt g hg).2 (h.n4 g hg), ownRow_block_kept h.row5 fun g hg => ht.outs.block g (h.row5.lt g hg).2 (h.n5 g hg),
    fun g hg hs => h.n4 g hg (hold g hs (h.row4.lt g hg).2), fun g hg hs => h.n5 g hg (hold g hs (h.row5.lt g hg).2), h.n45, fun p hp => ⟨(h.bds p hp).1.below hb, (h.bds p hp).2⟩, h.below.trans hb⟩
  rcases ht.new i hi with e | e
  · exact h.sg i e
  · exact Nat.le_trans h.below.size e
theorem On.go (h : On w0 w S b mb es sent v4 v5 ss ov) (hb : Below w.heap.size w w') : On w0 w' S b mb es sent v4 v5 ss ov :=
  h.turn (h.nt.go hb) ⟨Outs.of hb, fun k hk => .inl hk⟩
theorem On.push5 (h : On w0 w S b mb es sent v4 v5 ss ov) {o : Obj} {x : Int} (hrow : w'.ownsRow w0.heap.size 25 1 v (ov.length + 1) (cU ov ++ [.int .u64 x])) (hg : (w.alloc o).grownBy w' v5.ownBlock) (hat : v.ownBlock = v5.ownBlock ∨ v.ownBlock = some (w.alloc o).heap.size) :
    On w0 w' S b mb es sent v4 v ss (ov ++ [x]) := by
  have ho : Outs (fun i => v5.ownBlock = some i) w w' := ((Outs.refl _ w).alloc o).grown hg (fun k hk => .inl hk)
  have hsz : (w.alloc o).heap.size = w.heap.size + 1 := by simp
  have hb : Below w0.heap.size w w' := ho.below (fun k hk => (h.row5.lt k hk).1) h.below.size
  have hS : ∀ i, S i → ¬ v5.ownBlock = some i := fun i hi e => h.n5 i e hi
  refine ⟨h.nt.outs ho hS, h.sg, ownRow_block_kept h.row4 fun g hg => ho.block g (h.row4.lt g hg).2 (h.n45 g hg), ?_, h.n4, fun g hg hs => ?_, fun g hg e => ?_, fun p hp => ⟨(h.bds p hp).1.below hb, (h.bds p hp).2⟩, h.below.trans hb⟩
  · have e : cU (ov ++ [x]) = cU ov ++ [.int .u64 x] := by simp [cU]
    rw [e, List.length_append]
    exact hrow
  · rcases hat with hat | hat
    · exact h.n5 g (hat ▸ hg) hs
    · rw [hat] at hg
      injection hg with hg
      have := h.nt.lt g hs
      omega
  · rcases hat with hat | hat
    · exact h.n45 g hg (hat ▸ e)
    · rw [hat] at e
      injection e with e
      have := (h.row4.lt g hg).2
      omega
theorem On.push4 (h : On w0 w S b mb es sent v4 v5 ss ov) {o : Obj} {p : Le × Pl} (hrow : w'.ownsRow w0.heap.size 32 5 v (ss.length + 1) (cLs ss ++ cL p)) (hg : (w.alloc o).grownBy w' v4.ownBlock) (hat : v.ownBlock = v4.ownBlock ∨ v.ownBlock = some (w.alloc o).heap.size)
    (hp : Rds w w0.heap.size p.2.1 (c8 p.1.body) ∧ p.1.body.length ≤ 16777216) : On w0 w' S b mb es sent v v5 (ss ++ [p]) ov := by
  have ho : Outs (fun i => v4.ownBlock = some i) w w' := ((Outs.refl _ w).alloc o).grown hg (fun k hk => .inl hk)
  have hsz : (w.alloc o).heap.size = w.heap.size + 1 := by simp
  have hb : Below w0.heap.size w w' := ho.below (fun k hk => (h.row4.lt k hk).1) h.below.size
  have hS : ∀ i, S i → ¬ v4.ownBlock = some i := fun i hi e => h.n4 i e hi
  refine ⟨h.nt.outs ho hS, h.sg, ?_, ownRow_block_kept h.row5 fun g hg => ho.block g (h.row5.lt g hg).2 (fun e => h.n45 g e hg), fun g hg hs => ?_, h.n5, fun g hg e => ?_, fun q hq => ?_, h.below.trans hb⟩
  · have e : cLs (ss ++ [p]) = cLs ss ++ cL p := by simp [cLs]
    rw [e, List.length_append]
    exact hrow
  · rcases hat with hat | hat
    · exact h.n4 g (hat ▸ hg) hs
    · rw [hat] at hg
      injection hg with hg
      have := h.nt.lt g hs
      omega
  · rcases hat with hat | hat
    · exact h.n45 g (hat ▸ hg) e
    · rw [hat] at hg
      injection hg with hg
      have := (h.row5.lt g e).2
      omega
  · rcases List.mem_append.1 hq with hq | hq
    · exact ⟨(h.bds q hq).1.below hb, (h.bds q hq).2⟩
    · obtain rfl := List.mem_singleton.1 hq
      exact ⟨hp.1.below hb, hp.2⟩
theorem On.rdl (h : On w0 w S b mb es sent v4 v5 ss ov) : ∃ A c, v4 = .slice A ss.length c ∧ Rdl w w.heap.size A ss := by
  obtain ⟨A, c, e, hr⟩ := row_slice h.row4
  exact ⟨A, c, e, hr, fun p hp => ⟨(h.bds p hp).1.more h.below.size, (h.bds p hp).2⟩⟩
end
end Go.Proofs.Ytkoalpbognpphaa
