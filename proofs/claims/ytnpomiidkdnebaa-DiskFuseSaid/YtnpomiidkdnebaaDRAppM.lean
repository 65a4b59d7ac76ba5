/- Pieces of an append, as plain mathematics; the world behind a longer file. -/
import Derived.Test.YtnpomiidkdnebaaDRRen
import Derived.Test.YtnpomiidkdnebaaDApp
namespace Go.Proofs.Ytnpomiidkdnebaa
open Go.RowKit
set_option linter.unusedVariables false

theorem pos_upd (l m : Nm) (t : Fl → Fl) (ht : ∀ f, (t f).nm = f.nm) : ∀ fs : List Fl, pos (upd m t fs) l = pos fs l
  | [] => rfl
  | f :: fs => by
    have e : upd m t (f :: fs) = (if f.nm = m then t f else f) :: upd m t fs := rfl
    have hn : (if f.nm = m then t f else f).nm = f.nm := by split <;> simp [ht]
    rw [e, pos_cons, pos_cons, hn, pos_upd l m t ht fs]
theorem okd_put1 {D : Dsk} (h : Okd D) {l : Nm} {f : Fl} (hf : find D.files l = some f) {p : List Int} (hl : used D.files + p.length ≤ D.room) : Okd { tick D with files := put1 l p D.files } := by
  refine okd_files (n := D.steps + 1) (o := D.off) (fu := (tick D).fuse) h (fs := put1 l p D.files) (srt_upd h.srt l _ (fun _ => rfl)) ?_ ?_ (by rw [used_put1 h.srt hf]; omega) (by have := h.fuse0; simp only [tick]; split <;> omega) (by have := h.fuse1; simp only [tick]; split <;> omega)
  · intro f hm
    obtain ⟨a, ha, rfl | rfl⟩ := mem_upd hm
    · exact h.nms a ha
    · exact h.nms f ha
  · intro f hm
    obtain ⟨a, ha, rfl | rfl⟩ := mem_upd hm
    · have := h.sy a ha
      simp only [List.length_append]
      omega
    · exact h.sy f ha
theorem parts_length (b : List Int) : (parts b).length = (b.length + 63) / 64 := by simp [parts, nparts]
theorem parts_drop {b : List Int} {k : Nat} (h : k < (parts b).length) : (parts b).drop k = part b k :: (parts b).drop (k + 1) := by
  rw [List.drop_eq_getElem_cons h]
  congr 1
  simp [parts]

section
variable {S S' : Nat → Prop} {x : Nat} {v : Value} {rs : List RFl} {fz : Int} {D : Dsk} {w : World}
/-- a file's bytes are others, in a world that is behind -/
theorem RfAt.grow_at {g n c : Nat} (h : RfAt w S x (.slice (some ⟨g, 0, none⟩) n c) rs fz D) (hok : Okd D) {l : Nm} {f : Fl} (hf : find D.files l = some f) {P : Nat} (hP : P = pos D.files l) :
    ∀ (w9 : World) (u : Value) (bs : List Int) (S' : Nat → Prop) (t : Fl → Fl), Below w.heap.size w w9 → t f = { f with bs := bs } → w9.ownsRow 0 5 1 u bs.length (c8 bs) → (∀ k, S k → S' k) → (∀ k, S' k → k < w9.heap.size) → (∀ k, u.ownBlock = some k → S' k) →
      ∃ rs', RfAt (w9.setCell ⟨g, P * 3 + 1, none⟩ u) S' x (.slice (some ⟨g, 0, none⟩) n c) rs' fz { D with files := upd l t D.files } := by
  intro w9 u bs S' t hb ht hu hS hS' hub
  obtain ⟨g', n', c', B, b, e, _, _, _, _, _, _, _, _, _, _, _, hset⟩ := (h.go hb).upd_at hok hf hP
  injection e with e1 e2 e3
  injection e1 with e1
  injection e1 with e1
  subst e1 e2 e3
  exact hset u bs S' t ht hu hS hS' hub

/-- where an append stands: k pieces are down -/
def Puts (S : Nat → Prop) (x : Nat) (v : Value) (l : Nm) (b : List Int) (D : Dsk) (w wr : World) (k : Nat) : Prop :=
  ∃ Sk rsk fzk Dk f, RfAt wr Sk x v rsk fzk Dk ∧ Turn S Sk w wr ∧ Okd Dk ∧ find Dk.files l = some f ∧ pos D.files l = pos Dk.files l ∧ puts l D (parts b) = puts l Dk ((parts b).drop k) ∧ used Dk.files + ((parts b).drop k).flatten.length ≤ Dk.room ∧ Dk.steps = D.steps + k
/-- one piece more -/
theorem Puts.more {S' : Nat → Prop} {w9 : World} {rs' : List RFl} {fzk : Int} {Dk : Dsk} {l : Nm} {b : List Int} {k : Nat} {f : Fl} (hok : Okd Dk) (hf : find Dk.files l = some f) (hP : pos D.files l = pos Dk.files l) (hpt : puts l D (parts b) = puts l Dk ((parts b).drop k)) (hu : used Dk.files + ((parts b).drop k).flatten.length ≤ Dk.room) (hst : Dk.steps = D.steps + k)
    (hk : k < (parts b).length) (hz : ¬ Dk.fuse = 0) (h9 : RfAt w9 S' x v rs' fzk { tick Dk with files := upd l (fun f => { f with bs := f.bs ++ part b k }) Dk.files }) (hT : Turn S S' w w9) : Puts S x v l b D w w9 (k + 1) := by
  have hd := parts_drop hk
  rw [hd] at hpt hu
  simp only [List.flatten_cons, List.length_append] at hu
  refine ⟨S', rs', fzk, _, { f with bs := f.bs ++ part b k }, h9, hT, okd_put1 hok hf (by omega), put1_find hf _, ?_, ?_, ?_, ?_⟩
  · rw [hP]
    exact (pos_upd l l (fun f => { f with bs := f.bs ++ part b k }) (fun _ => rfl) Dk.files).symm
  · rw [hpt, puts, if_neg hz]
    rfl
  · have := used_put1 hok.srt hf (part b k)
    show used (put1 l (part b k) Dk.files) + _ ≤ Dk.room
    omega
  · show Dk.steps + 1 = _
    omega
end
end Go.Proofs.Ytnpomiidkdnebaa
