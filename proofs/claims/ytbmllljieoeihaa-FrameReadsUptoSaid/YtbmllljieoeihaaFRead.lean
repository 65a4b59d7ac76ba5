/- The walks over bytes.Clone and the frame's Read. -/
import Derived.Test.YtbmllljieoeihaaFMea
import Derived.Deep.RegionHeld3
import Derived.Lib.SliceRun
namespace Go.Proofs.Ytbmllljieoeihaa
open Go.RowKit
set_option linter.unusedVariables false

set_option maxHeartbeats 800000 in
theorem clone_any (A : Option Addr) (zs : List Int) (n c : Nat) (w : World) (hn : zs.length = n) (hA : A ≠ none) (hl : n ≤ 140737488351232) (hr : Rds w w.heap.size A (c8 zs)) :
    Calls Try.prog 29 #[.slice A n c] w fun e w' => ∃ A' c', e = .returned (.slice A' n c') ∧ w'.ownsRow w.heap.size 5 1 (.slice A' n c') n (c8 zs) ∧ Below w.heap.size w w' := by
  subst hn
  obtain ⟨ad, rfl⟩ := Option.ne_none_iff_exists'.1 hA
  obtain ⟨i0, hi, hz0, hz1, hz2⟩ := info_parts info8
  have hown1 := World.ownsRow_made (base := w.heap.size) (e := 5) (size := 1) w #[] 0 (Nat.le_refl _) (by unfold maxLen; omega) rfl
  have hr1 := hr.alloc (Nat.le_refl _) (.cells #[] 5)
  have heq := fun w => Lib.run_eql_slice_nil (P := Try.prog) w 23 5 (some ad) zs.length c 0 0 Try.underlying23
  clear hA
  go_enter Try.func29, Try.ntmps29
  go_wp2_with (at_builtin; go_loud (refine app_many (w.alloc (.cells #[] 5)) rfl (.tmp 5) (.tmp 6) 23 rfl w.heap.size 5 i0 (.int .u8 0) 1 Try.underlying23 hi hz0 hz1 hz2 rfl _ 0 [] rfl hown1 (some ad) zs.length c w.heap.size (c8 zs) rfl (c8_length zs).symm hr1 (fun h => by cases h) (c8_one zs) (by unfold maxLen; omega) (by omega) (by simp) ?_))
  intro v' w' hown' hb'
  obtain ⟨A', c', rfl, _⟩ := own_open hown'
  go_wp2
  go_ret
  exact ⟨A', c', rfl, hown', ((Below.refl w.heap.size w).alloc (Nat.le_refl _) (.cells #[] 5)).trans hb'⟩

theorem own_other {w w' : World} {B B' : Nat} {e : TypeId} {k n : Nat} {v : Value} {xs : List Value} (h : w.ownsRow B e k v n xs) (hB : B' ≤ B) (hk : ∀ g, B ≤ g → w'.heap[g]? = w.heap[g]?) : w'.ownsRow B' e k v n xs := by
  refine ⟨h.1, ?_⟩
  rcases h.2 with h2 | ⟨g, cap, cur, h1, h2, h3, h4⟩
  · exact .inl h2
  · exact .inr ⟨g, cap, cur, h1, Nat.le_trans hB h2, (hk g h2).trans h3, h4⟩

theorem far_two (w : World) {g g' : Nat} (h : g' ≠ g) (u u' : Value) : ((w.setCell ⟨g, 0, none⟩ u).setCell ⟨g, 1, none⟩ u').heap[g']? = w.heap[g']? :=
  (Below.heap_setCell _ _ _ _ h).trans (Below.heap_setCell _ _ _ _ h)

theorem put_two {w : World} {g : Nat} {t : TypeId} {u u' : Value} (h : ∃ x y, Whole w g t #[x, y]) :
    ((w.setCell ⟨g, 0, none⟩ u).setCell ⟨g, 1, none⟩ u').cell? ⟨g, 0, none⟩ = some u ∧ ((w.setCell ⟨g, 0, none⟩ u).setCell ⟨g, 1, none⟩ u').cell? ⟨g, 1, none⟩ = some u' := by
  obtain ⟨x, y, hw⟩ := h
  have h2 : Whole ((w.setCell ⟨g, 0, none⟩ u).setCell ⟨g, 1, none⟩ u') g t #[u, u'] := by simpa using (hw.put 0 u).put 1 u'
  exact ⟨h2.cell 0, h2.cell 1⟩

/-- what the region of Read keeps to: the first byte, the result's variable, and all that was there -/
theorem held_drew {a : Addr} {v : Value} {B g : Nat} {t : TypeId} {w w' : World} (h : w'.cell? a = some v ∧ (∃ x y, Whole w' g t #[x, y]) ∧ Below B w w') : w'.drew.cell? a = some v ∧ (∃ x y, Whole w'.drew g t #[x, y]) ∧ Below B w w'.drew := ⟨h.1, h.2.1, h.2.2.drew⟩
theorem held_below {a : Addr} {v : Value} {B g : Nat} {t : TypeId} {w w' w2 : World} (h : w'.cell? a = some v ∧ (∃ x y, Whole w' g t #[x, y]) ∧ Below B w w') (hB : B ≤ w.heap.size) (hb : Below w'.heap.size w' w2) : w2.cell? a = some v ∧ (∃ x y, Whole w2 g t #[x, y]) ∧ Below B w w2 :=
  ⟨by rw [hb.cell (World.block_lt_of_cell? _ _ h.1)]; exact h.1, by obtain ⟨x, y, hw⟩ := h.2.1; exact ⟨x, y, hw.go hb⟩, h.2.2.trans (hb.mono (Nat.le_trans hB h.2.2.size))⟩
theorem held_put {a : Addr} {v u u' : Value} {B g : Nat} {t : TypeId} {w w' : World} (h : w'.cell? a = some v ∧ (∃ x y, Whole w' g t #[x, y]) ∧ Below B w w') (ha : a.block < g) (hg : B ≤ g) :
    ((w'.setCell ⟨g, 0, none⟩ u).setCell ⟨g, 1, none⟩ u').cell? a = some v ∧ (∃ x y, Whole ((w'.setCell ⟨g, 0, none⟩ u).setCell ⟨g, 1, none⟩ u') g t #[x, y]) ∧ Below B w ((w'.setCell ⟨g, 0, none⟩ u).setCell ⟨g, 1, none⟩ u') := by
  obtain ⟨h1, ⟨x, y, hw⟩, h2⟩ := h
  have hb : Below g w' ((w'.setCell ⟨g, 0, none⟩ u).setCell ⟨g, 1, none⟩ u') := ((Below.refl g w').setCell (p := ⟨g, 0, none⟩) (Nat.le_refl g) u).setCell (p := ⟨g, 1, none⟩) (Nat.le_refl g) u'
  exact ⟨by rw [hb.cell ha]; exact h1, ⟨u, u', by simpa using (hw.put 0 u).put 1 u'⟩, (h2.setCell (p := ⟨g, 0, none⟩) hg u).setCell (p := ⟨g, 1, none⟩) hg u'⟩
theorem held_facts {a : Addr} {v : Value} {B g : Nat} {t : TypeId} {w w' w2 : World} (h : w'.cell? a = some v ∧ (∃ x y, Whole w' g t #[x, y]) ∧ Below B w w') (hB : B ≤ w.heap.size) (hb : Below w'.heap.size w' w2) :
    w2.frozen? ⟨g, 0, none⟩ = false ∧ w2.frozen? ⟨g, 1, none⟩ = false ∧ ∃ x y, w2.cell? ⟨g, 0, none⟩ = some x ∧ w2.cell? ⟨g, 1, none⟩ = some y := by
  obtain ⟨x, y, h2⟩ := (held_below h hB hb).2.1
  exact ⟨h2.frozen 0, h2.frozen 1, x, y, h2.cell 0, h2.cell 1⟩
theorem rds_held {a : Addr} {v : Value} {g : Nat} {t : TypeId} {w w' : World} {A : Option Addr} {xs : List Value} (hr : Rds w w.heap.size A xs) (h : w'.cell? a = some v ∧ (∃ x y, Whole w' g t #[x, y]) ∧ Below w.heap.size w w') : Rds w' w'.heap.size A xs := (hr.below h.2.2).more h.2.2.size

/-- what Read tells of bytes -/
def frd (b : List Int) : Fr := if (mea b).2 = 0 then fra b else ⟨0, []⟩

set_option maxHeartbeats 1600000 in
theorem fread_any (A : Option Addr) (zs : List Int) (c : Nat) (w : World) (hl : zs.length ≤ 140737492549632) (hc : zs.length ≤ c) (hz : Byt zs) (hr : Rds w w.heap.size A (c8 zs)) :
    Calls Try.prog 11 #[.slice A zs.length c] w fun e w' => ∃ A' c', e = .returned (.tuple #[.agg #[.int .u8 (frd zs).k, .slice A' (frd zs).body.length c'], .int .i64 ((mea zs).1 : Nat), .int .i64 ((mea zs).2 : Nat)]) ∧
      w'.ownsRow w.heap.size 5 1 (.slice A' (frd zs).body.length c') (frd zs).body.length (c8 (frd zs).body) ∧ Below w.heap.size w w' := by
  have hM := measured_any A zs c w.heap.size (w.alloc (.cells #[.int .u8 0, .slice none 0 0] 28)) hl hc hz (hr.alloc (Nat.le_refl _) _)
  by_cases h0 : (mea zs).2 = 0
  · obtain ⟨hn12, hnl⟩ := mea_le h0
    have hnm : (mea zs).1 ≤ 1048588 := by have := mea_ok h0; omega
    rw [show frd zs = fra zs from if_pos h0]
    unfold fra
    rw [h0] at hM ⊢
    have hp : 0 < zs.length := by omega
    obtain ⟨ad, rfl, hadl, hc0⟩ := hr.at_ (c8_get hp)
    have e0 : ad.add 0 = ad := rfl
    rw [e0] at hc0
    rw [show zs.headD 0 = zs[0] by cases zs with | nil => simp at hp | cons z r => rfl]
    generalize zs[0] = k at *
    generalize (mea zs).1 = n at *
    have hr8 := hr.cut0 (n - 12) (show 8 ≠ 0 by decide)
    have hlen : ((zs.drop 8).take (n - 12)).length = n - 12 := by rw [List.length_take, List.length_drop]; omega
    simp only [hlen]
    generalize (zs.drop 8).take (n - 12) = body at *
    have hq1 : 0 ≤ (n : Int) - 4 ∧ (n : Int) - 4 ≤ (c : Int) := by omega
    have hq2 : max ((n : Int) - 4) 0 = (n : Int) - 4 := by omega
    have hq3 : ((n : Int) - 4).toNat = n - 4 := by omega
    have hq4 : (8 : Int) ≤ (n : Int) - 4 := by omega
    have hq5 : n - 4 - 8 = n - 12 := by omega
    clear e0 h0
    by_cases hm : n ≤ 12
    · rw [if_pos (by omega)] at hr8
      obtain rfl : n = 12 := by omega
      clear hq1 hq2 hq3 hq4 hq5
      have hc8 : (8 : Int) ≤ (c : Int) := by omega
      have hcl := fun w1 (h : Rds w1 w1.heap.size (some ad) (c8 body)) => clone_any _ body 0 0 w1 hlen (by simp) (by omega) h
      have HM := Lib.hid hM
      have HZ := Lib.hid hz
      clear hM hz hlen hl
      go_enter Try.func11, Try.ntmps11
      go_wp2_with fail
      refine HM.out.mono ?_
      rintro e w1 ⟨rfl, n1, rfl⟩
      have hb1 : Below w.heap.size w (w.alloc (.cells #[.int .u8 0, .slice none 0 0] 28)) := (Below.refl _ _).alloc (Nat.le_refl _) _
      have hw1 := Whole.new w 28 #[.int .u8 0, .slice none 0 0]
      have hB := Nat.le_refl w.heap.size
      have hS0 : ((w.alloc (.cells #[.int .u8 0, .slice none 0 0] 28)).drewN n1).cell? ad = some (.int .u8 k) ∧ (∃ x y, Whole ((w.alloc (.cells #[.int .u8 0, .slice none 0 0] 28)).drewN n1) w.heap.size 28 #[x, y]) ∧ Below w.heap.size w ((w.alloc (.cells #[.int .u8 0, .slice none 0 0] 28)).drewN n1) :=
        ⟨(hb1.cell hadl).trans hc0, ⟨_, _, hw1⟩, ⟨hb1.os, hb1.tape, hb1.output, hb1.size, hb1.block⟩⟩
      go_wp2_with fail
      generalize (w.alloc (.cells #[.int .u8 0, .slice none 0 0] 28)).drewN n1 = w1 at *
      clear hb1 hw1 HM
      go_region_held3 (fun w' => w'.cell? ad = some (.int .u8 k) ∧ (∃ x y, Whole w' w.heap.size 28 #[x, y]) ∧ Below w.heap.size w w')
        (first | assumption | exact held_drew (by assumption) | exact held_below (by assumption) (by assumption) (by assumption) | exact held_put (by assumption) hadl hB)
        (first | (go_at_call 29; refine (hcl _ (rds_held hr8 (by assumption))).mono ?_; rintro e w5 ⟨A5, c5, rfl, hown, hb5⟩; obtain ⟨hf0, hf1, x0, x1, hg0, hg1⟩ := held_facts (by assumption) hB hb5))
      have hsz : w.heap.size < w1.heap.size := by
        obtain ⟨x, y, hx⟩ := hS0.2.1
        exact hx.lt
      have hfin := own_other hown (w' := (w5.setCell ⟨w.heap.size, 0, none⟩ (.int .u8 k)).setCell ⟨w.heap.size, 1, none⟩ (.slice A5 0 c5)) (Nat.le_of_lt hsz) (fun g hg => far_two w5 (show g ≠ w.heap.size from fun e => Nat.lt_irrefl g (Nat.lt_of_lt_of_le (by rw [e]; exact hsz) hg)) _ _)
      have hbb := (by assumption : _ ∧ _ ∧ Below _ _ _).2.2
      have hwh := (held_below (held_drew hS0) hB hb5).2.1
      have HF := Lib.hid hfin
      have HBB := Lib.hid hbb
      clear hfin hbb hS0 hb5 hown hf0 hf1 hg0 hg1
      obtain ⟨hx0, hx1⟩ := put_two (u := .int .u8 k) (u' := .slice A5 0 c5) hwh
      generalize (w5.setCell ⟨w.heap.size, 0, none⟩ (.int .u8 k)).setCell ⟨w.heap.size, 1, none⟩ (.slice A5 0 c5) = w6 at *
      go_wp2
      (try simp only [Exit.inBlock, Exit.then])
      refine bodyPost_ret (by simp [results, Try.results11, go_sem, hx0, hx1]; try rfl) rfl ?_
      exact ⟨A5, c5, rfl, HF.out, HBB.out⟩
    · rw [if_neg (by omega)] at hr8
      have hq6 : ¬ n - 4 = 8 := by omega
      have hq7 : ¬ n = 12 := by omega
      have hq8 : ¬ (n : Int) - 4 = 8 := by omega
      have hcl := fun w1 (h : Rds w1 w1.heap.size (some ⟨ad.block, ad.off + 8, none⟩) (c8 body)) => clone_any _ body (n - 12) (n - 12) w1 hlen (by simp) (by omega) h
      have HM := Lib.hid hM
      have HZ := Lib.hid hz
      clear hM hz hlen hl
      go_enter Try.func11, Try.ntmps11
      go_wp2_with fail
      refine HM.out.mono ?_
      rintro e w1 ⟨rfl, n1, rfl⟩
      have hb1 : Below w.heap.size w (w.alloc (.cells #[.int .u8 0, .slice none 0 0] 28)) := (Below.refl _ _).alloc (Nat.le_refl _) _
      have hw1 := Whole.new w 28 #[.int .u8 0, .slice none 0 0]
      have hB := Nat.le_refl w.heap.size
      have hS0 : ((w.alloc (.cells #[.int .u8 0, .slice none 0 0] 28)).drewN n1).cell? ad = some (.int .u8 k) ∧ (∃ x y, Whole ((w.alloc (.cells #[.int .u8 0, .slice none 0 0] 28)).drewN n1) w.heap.size 28 #[x, y]) ∧ Below w.heap.size w ((w.alloc (.cells #[.int .u8 0, .slice none 0 0] 28)).drewN n1) :=
        ⟨(hb1.cell hadl).trans hc0, ⟨_, _, hw1⟩, ⟨hb1.os, hb1.tape, hb1.output, hb1.size, hb1.block⟩⟩
      go_wp2_with fail
      generalize (w.alloc (.cells #[.int .u8 0, .slice none 0 0] 28)).drewN n1 = w1 at *
      clear hb1 hw1 HM
      go_region_held3 (fun w' => w'.cell? ad = some (.int .u8 k) ∧ (∃ x y, Whole w' w.heap.size 28 #[x, y]) ∧ Below w.heap.size w w')
        (first | assumption | exact held_drew (by assumption) | exact held_below (by assumption) (by assumption) (by assumption) | exact held_put (by assumption) hadl hB)
        (first | (go_at_call 29; refine (hcl _ (rds_held hr8 (by assumption))).mono ?_; rintro e w5 ⟨A5, c5, rfl, hown, hb5⟩; obtain ⟨hf0, hf1, x0, x1, hg0, hg1⟩ := held_facts (by assumption) hB hb5))
      have hsz : w.heap.size < w1.heap.size := by
        obtain ⟨x, y, hx⟩ := hS0.2.1
        exact hx.lt
      have hfin := own_other hown (w' := (w5.setCell ⟨w.heap.size, 0, none⟩ (.int .u8 k)).setCell ⟨w.heap.size, 1, none⟩ (.slice A5 (n - 12) c5)) (Nat.le_of_lt hsz) (fun g hg => far_two w5 (show g ≠ w.heap.size from fun e => Nat.lt_irrefl g (Nat.lt_of_lt_of_le (by rw [e]; exact hsz) hg)) _ _)
      have hbb := (by assumption : _ ∧ _ ∧ Below _ _ _).2.2
      have hwh := (held_below (held_drew hS0) hB hb5).2.1
      have HF := Lib.hid hfin
      have HBB := Lib.hid hbb
      clear hfin hbb hS0 hb5 hown hf0 hf1 hg0 hg1
      obtain ⟨hx0, hx1⟩ := put_two (u := .int .u8 k) (u' := .slice A5 (n - 12) c5) hwh
      generalize (w5.setCell ⟨w.heap.size, 0, none⟩ (.int .u8 k)).setCell ⟨w.heap.size, 1, none⟩ (.slice A5 (n - 12) c5) = w6 at *
      go_wp2
      (try simp only [Exit.inBlock, Exit.then])
      refine bodyPost_ret (by simp [results, Try.results11, go_sem, hx0, hx1]; try rfl) rfl ?_
      exact ⟨A5, c5, rfl, HF.out, HBB.out⟩
  · have hn := mea_err h0
    rw [show frd zs = ⟨0, []⟩ from if_neg h0]
    generalize mea zs = M at *
    obtain ⟨n, e⟩ := M
    simp only [] at *
    subst hn
    have h0' : ((e : Int) != 0) = true := by simp; omega
    have hb1 : Below w.heap.size w ((w.alloc (.cells #[.int .u8 0, .slice none 0 0] 28))) := (Below.refl _ _).alloc (Nat.le_refl _) _
    go_enter Try.func11, Try.ntmps11
    go_wp2_with fail
    refine hM.mono ?_
    rintro e w1 ⟨rfl, n1, rfl⟩
    go_wp2
    go_returns
    refine ⟨none, 0, rfl, ⟨rfl, .inl ⟨rfl, rfl⟩⟩, ?_⟩
    have hb2 : Below w.heap.size w ((w.alloc (.cells #[.int .u8 0, .slice none 0 0] 28)).drewN n1) := ⟨hb1.os, hb1.tape, hb1.output, hb1.size, hb1.block⟩
    exact (hb2.setCell (p := ⟨w.heap.size, 0, none⟩) (Nat.le_refl w.heap.size) _).setCell (p := ⟨w.heap.size, 1, none⟩) (Nat.le_refl w.heap.size) _

end Go.Proofs.Ytbmllljieoeihaa
