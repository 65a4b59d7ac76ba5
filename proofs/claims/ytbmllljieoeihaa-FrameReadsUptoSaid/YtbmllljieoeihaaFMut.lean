/- Bytes of the call's own that are written over: what stays. -/
import Derived.Test.YtbmllljieoeihaaFRef4
namespace Go.Proofs.Ytbmllljieoeihaa
open Go.RowKit
set_option linter.unusedVariables false

theorem row_put {w : World} {B g i n : Nat} {v : Value} {L : List Int} {z : Int} {cs : Array Value} (h : w.ownsRow B 5 1 v n (c8 L)) (hg : Whole w g 5 cs) :
    ∃ L', L'.length = L.length ∧ (w.setCell ⟨g, i, none⟩ (.int .u8 z)).ownsRow B 5 1 v n (c8 L') := by
  rcases h.2 with ⟨h1, h2⟩ | ⟨g1, cap, cur, h1, h2, h3, h4, h5, h6, h7⟩
  · exact ⟨L, rfl, h.1, .inl ⟨h1, h2⟩⟩
  · by_cases hgg : g1 = g
    · subst hgg
      have hcur : cur = cs := by
        unfold Whole at hg
        rw [h3] at hg
        simp only [Option.some.injEq, Obj.cells.injEq] at hg
        exact hg.1
      subst hcur
      refine ⟨L.set i z, by simp, ?_, .inr ⟨g1, cap, cur.setIfInBounds i (.int .u8 z), h1, h2, hg.put i _, h4, h5, by simp [h6], ?_⟩⟩
      · have := h.1
        simpa [c8] using this
      · rw [Array.toList_setIfInBounds, List.take_set, h7]
        simp [c8, List.map_set]
    · refine ⟨L, rfl, h.1, .inr ⟨g1, cap, cur, h1, h2, (Below.heap_setCell w ⟨g, i, none⟩ (.int .u8 z) g1 hgg).trans h3, h4, h5, h6, h7⟩⟩

theorem row_put_far {w : World} {B g i k n : Nat} {e t : TypeId} {v u : Value} {xs : List Value} {cs : Array Value} (hne : e ≠ t) (h : w.ownsRow B e k v n xs) (hg : Whole w g t cs) : (w.setCell ⟨g, i, none⟩ u).ownsRow B e k v n xs := by
  refine ⟨h.1, ?_⟩
  rcases h.2 with h2 | ⟨g', cap, cur, h1, h2, h3, h4⟩
  · exact .inl h2
  · refine .inr ⟨g', cap, cur, h1, h2, (Below.heap_setCell w ⟨g, i, none⟩ u g' (fun e => ?_)).trans h3, h4⟩
    subst e
    unfold Whole at hg
    rw [h3] at hg
    simp only [Option.some.injEq, Obj.cells.injEq] at hg
    exact hne hg.2.1

theorem Rds.ofOwn2 {w : World} {B n c : Nat} {A : Option Addr} {rs : List FR} (h : w.ownsRow B 28 2 (.slice A n c) n (cF rs)) : Rds w w.heap.size A (cF rs) := by
  intro hne
  rcases h.2 with ⟨hv, hn⟩ | ⟨g, cap, cur, hv, _, hh, _⟩
  · have := h.1
    rw [hn] at this
    exact absurd (List.eq_nil_of_length_eq_zero (by simpa using this)) hne
  · injection hv with hA
    subst hA
    exact ⟨_, rfl, (Array.getElem?_eq_some_iff.1 hh).1, h.cells (g := g) rfl⟩

/-- what the writing over of bodies leaves -/
structure Mut (w0 w : World) (B V : Nat) (k : Int) (A : Option Addr) (m c : Nat) (rs : List FR) (D : Option Addr) (d : Nat) : Prop where
  var : Whole w V 28 #[.int .u8 k, .slice A m c]
  body : ∃ L : List Int, L.length = m ∧ w.ownsRow B 5 1 (.slice A m c) m (c8 L)
  row : w.ownsRow B 28 2 (.slice D rs.length d) rs.length (cF rs)
  bods : ∀ r ∈ rs, ∃ L : List Int, L.length = r.f.body.length ∧ w.ownsRow B 5 1 (.slice r.A r.f.body.length r.c) r.f.body.length (c8 L)
  below : Below B w0 w

section
variable {w0 w : World} {B V : Nat} {k : Int} {A : Option Addr} {m c : Nat} {rs : List FR} {D : Option Addr} {d : Nat}
theorem Mut.drew (h : Mut w0 w B V k A m c rs D d) : Mut w0 w.drew B V k A m c rs D d := ⟨h.var, h.body, h.row, h.bods, h.below.drew⟩
theorem Mut.drewN (h : Mut w0 w B V k A m c rs D d) (n : Nat) : Mut w0 (w.drewN n) B V k A m c rs D d := ⟨h.var, h.body, h.row, h.bods, below_drewN' h.below n⟩
theorem Mut.at_ (h : Mut w0 w B V k A m c rs D d) {i : Nat} (hi : i < rs.length) :
    ∃ ad, D = some ad ∧ w.cell? (ad.add (i * 2)) = some (.int .u8 rs[i].f.k) ∧ w.cell? ⟨(ad.add (i * 2)).block, (ad.add (i * 2)).off + 1, none⟩ = some (.slice rs[i].A rs[i].f.body.length rs[i].c) := by
  obtain ⟨h0, h1⟩ := cF_get hi
  have hr := Rds.ofOwn2 h.row
  obtain ⟨ad, rfl, hl, hc0⟩ := hr.at_ h0
  obtain ⟨ad', e, _, hc1⟩ := hr.at_ h1
  obtain rfl := Option.some.inj e
  refine ⟨ad, rfl, hc0, ?_⟩
  rw [← add_ne (by decide), add_twice]
  exact hc1
theorem Mut.put (h : Mut w0 w B V k A m c rs D d) {g i : Nat} {cs : Array Value} (hg : Whole w g 5 cs) (hB : B ≤ g) (z : Int) : Mut w0 (w.setCell ⟨g, i, none⟩ (.int .u8 z)) B V k A m c rs D d := by
  refine ⟨h.var.far (p := ⟨g, i, none⟩) (fun e => ?_) _, ?_, row_put_far (by decide) h.row hg, ?_, h.below.setCell (p := ⟨g, i, none⟩) hB _⟩
  · have e' : V = g := e
    subst e'
    have hv := h.var
    unfold Whole at hg hv
    rw [hg] at hv
    simp only [Option.some.injEq, Obj.cells.injEq] at hv
    exact absurd hv.2.1 (by decide)
  · obtain ⟨L, hL, hr⟩ := h.body
    obtain ⟨L', hL', hr'⟩ := row_put (i := i) (z := z) hr hg
    exact ⟨L', by rw [hL', hL], hr'⟩
  · intro r hr
    obtain ⟨L, hL, hrr⟩ := h.bods r hr
    obtain ⟨L', hL', hr'⟩ := row_put (i := i) (z := z) hrr hg
    exact ⟨L', by rw [hL', hL], hr'⟩
end

/-- a byte of a row of the call's own: where it lies -/
theorem byte_at {w : World} {B n c i : Nat} {A : Option Addr} {L : List Int} (h : w.ownsRow B 5 1 (.slice A n c) n (c8 L)) (hi : i < n) :
    ∃ g cs z, A = some ⟨g, 0, none⟩ ∧ B ≤ g ∧ Whole w g 5 cs ∧ w.cell? ⟨g, i, none⟩ = some (.int .u8 z) ∧ w.frozen? ⟨g, i, none⟩ = false := by
  have hL : L.length = n := by have := h.1; rw [c8_length, Nat.mul_one] at this; exact this
  rcases h.2 with ⟨_, h2⟩ | ⟨g, cap, cur, h1, h2, h3, h4⟩
  · omega
  · injection h1 with hA _ hc
    subst hA
    subst hc
    have hcell := h.cellAt (g := g) i (by omega)
    rw [c8_get (by omega)] at hcell
    exact ⟨g, cur, _, rfl, h2, h3, hcell, h.frozenAt (g := g) i⟩

end Go.Proofs.Ytbmllljieoeihaa
