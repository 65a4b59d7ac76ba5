/- The walks over the kit's Own and Kept. -/
import Derived.Test.YtconfkjchjcjgaaBase
import Derived.Laws.CopyOwn
import Derived.Laws.MakeOwn
namespace Go.Proofs.Ytconfkjchjcjgaa
open Go.RowKit
set_option linter.unusedVariables false

theorem own_whole {w : World} {B g n : Nat} {e : TypeId} {xs : List Value} (h : w.ownsRow B e 1 (.slice (some ⟨g, 0, none⟩) n n) n xs) : Whole w g e xs.toArray := by
  rcases h.2 with ⟨h1, _⟩ | ⟨g', cap, cur, h1, _, h2, _, _, h3, h4⟩
  · cases h1
  · injection h1 with ha _ hc
    injection ha with ha
    injection ha with ha
    subst ha
    subst hc
    have : cur = xs.toArray := by
      rw [← h4, Nat.mul_one, List.take_of_length_le (by simp; omega)]
    rw [← this]
    exact h2

theorem made1 (z : Value) (n : Nat) : (madeCells #[z] (n * 1)).toList = List.replicate n z := by
  rw [Nat.mul_one]
  unfold madeCells
  apply List.ext_getElem
  · simp
  · intro i h1 h2
    simp [Nat.mod_one]

theorem c8_set (L : List Int) (k : Nat) (z : Int) : (c8 L).toArray.setIfInBounds k (.int .u8 z) = (c8 (L.set k z)).toArray := by
  simp [c8, List.map_set]

/-- copy(dst, src) into the head of a block known whole, src nil or not, no longer than dst -/
theorem copy_head {P : Program} (w : World) (T e ty : TypeId) (hu : P.underlying T = some (.slice e)) (hs : (P.info? e).map (·.size) = some 1) {g m cap c lim : Nat} {old : List Value} {A : Option Addr} {xs : List Value} {te : TypeId}
    (hw : Whole w g te old.toArray) (hr : Rds w lim A xs) (hle : xs.length ≤ m) (hm : xs.length ≤ old.length) (h1 : ∀ u ∈ xs, u.oneCell' = true) {n : Nat} (hn : n = xs.length) :
    ∃ w', (Builtin.copy_ #[T, T] ty #[.slice (some ⟨g, 0, none⟩) m cap, .slice A n c]).run P w = .ok (.int .i64 n) w' ∧ Whole w' g te (xs ++ old.drop xs.length).toArray ∧ ∀ B w0, Below B w0 w → B ≤ g → Below B w0 w' := by
  subst hn
  have hmin : Nat.min xs.length m = xs.length := Nat.min_eq_left hle
  by_cases h0 : xs = []
  · subst h0
    exact ⟨w, run_copy_none (P := P) w T T ty e _ A m cap 0 c hu hs (Nat.min_eq_left (Nat.zero_le _)), by simpa using hw, fun B w0 hb _ => hb⟩
  · obtain ⟨ad, rfl, _, hsrc⟩ := hr h0
    refine ⟨_, run_copy_row (P := P) w T T ty e g 0 m cap ad xs.length c old.toArray te xs hu hs hw hmin.symm hsrc (by simpa using hm) h1, ?_, fun B w0 hb hB => below_setRow hb hB _⟩
    have := setRow_heap w g _ ((old.toArray.toList.take 0 ++ xs ++ old.toArray.toList.drop (0 + xs.length)).toArray) te (0, 0) hw
    unfold Whole
    rw [this]
    simp

theorem own_reads {w : World} {g : Nat} {zs : List Int} (h : Whole w g 5 (c8 (zs ++ List.replicate 5 222)).toArray) : Rds w w.heap.size (some ⟨g, 0, none⟩) (c8 zs) := by
  intro _
  refine ⟨_, rfl, h.lt, fun j u hu => ?_⟩
  have hadd : (⟨g, 0, none⟩ : Addr).add j = ⟨g, j, none⟩ := by unfold Addr.add; split <;> simp_all
  rw [hadd, h.cell j]
  have hj : j < (c8 zs).length := (List.getElem?_eq_some_iff.1 hu).1
  rw [c8_append]
  simp only [List.getElem?_toArray]
  rw [List.getElem?_append_left hj, hu]
theorem Rds.go {w1 w2 : World} {A : Option Addr} {xs : List Value} (hr : Rds w1 w1.heap.size A xs) (hb : Below w1.heap.size w1 w2) : Rds w2 w2.heap.size A xs := (hr.below hb).more hb.size
theorem Whole.go {w1 w2 : World} {g : Nat} {t : TypeId} {cs : Array Value} (h : Whole w1 g t cs) (hb : Below w1.heap.size w1 w2) : Whole w2 g t cs := h.below hb h.lt
theorem belowGo {B : Nat} {w w1 w2 : World} (h : Below B w w1) (hB : B ≤ w.heap.size) (hb : Below w1.heap.size w1 w2) : Below B w w2 := h.trans (hb.mono (Nat.le_trans hB h.size))
theorem Rds.now {w : World} {A : Option Addr} {xs : List Value} (hr : Rds w w.heap.size A xs) (n : Nat) : Rds (w.drewN n) (w.drewN n).heap.size A xs := hr
end Go.Proofs.Ytconfkjchjcjgaa
