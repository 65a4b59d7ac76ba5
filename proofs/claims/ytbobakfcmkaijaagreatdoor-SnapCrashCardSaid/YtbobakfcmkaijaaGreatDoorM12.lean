/- Several texts, each a section: FRead, FApp, CPick, FLives, FScan, FScan2. -/
import Derived.Test.YtbobakfcmkaijaaGreatDoorM11
import Derived.Deep.RegionHeld3
import Derived.Lib.SliceRun
import Derived.StillTailTactics
import Derived.Laws.AppendOwn
section
/- The walks over bytes.Clone and the frame's Read. -/
namespace Go.Proofs.YtbobakfcmkaijaaGreatDoor
open Go.RowKit
set_option linter.unusedVariables false

set_option maxHeartbeats 800000 in
theorem clone_any (A : Option Addr) (zs : List Int) (n c : Nat) (w : World) (hn : zs.length = n) (hA : A ≠ none) (hl : n ≤ 140737488351232) (hr : Rds w w.heap.size A (c8 zs)) :
    Calls Tryz.prog 25 #[.slice A n c] w fun e w' => ∃ A' c', e = .returned (.slice A' n c') ∧ w'.ownsRow w.heap.size 5 1 (.slice A' n c') n (c8 zs) ∧ Below w.heap.size w w' := by
  subst hn
  obtain ⟨ad, rfl⟩ := Option.ne_none_iff_exists'.1 hA
  obtain ⟨i0, hi, hz0, hz1, hz2⟩ := info_parts info8
  have hown1 := World.ownsRow_made (base := w.heap.size) (e := 5) (size := 1) w #[] 0 (Nat.le_refl _) (by unfold maxLen; omega) rfl
  have hr1 := hr.alloc (Nat.le_refl _) (.cells #[] 5)
  have heq := fun w => Lib.run_eql_slice_nil (P := Tryz.prog) w 30 5 (some ad) zs.length c 0 0 Tryz.underlying30
  clear hA
  go_enter Tryz.func25, Tryz.ntmps25
  go_wp2_with (at_builtin; go_loud (refine app_many (w.alloc (.cells #[] 5)) rfl (.tmp 5) (.tmp 6) 30 rfl w.heap.size 5 i0 (.int .u8 0) 1 Tryz.underlying30 hi hz0 hz1 hz2 rfl _ 0 [] rfl hown1 (some ad) zs.length c w.heap.size (c8 zs) rfl (c8_length zs).symm hr1 (fun h => by cases h) (c8_one zs) (by unfold maxLen; omega) (by omega) (by simp) ?_))
  intro v' w' hown' hb'
  obtain ⟨A', c', rfl, _⟩ := own_open hown'
  go_wp2
  go_ret
  exact ⟨A', c', rfl, hown', ((Below.refl w.heap.size w).alloc (Nat.le_refl _) (.cells #[] 5)).trans hb'⟩

theorem own_other {w w' : World} {B B' : Nat} {e : TypeId} {k n : Nat} {v : Value} {xs : List Value} (h : w.ownsRow B e k v n xs) (hB : B' ≤ B) (hk : ∀ g, B ≤ g → w'.heap[g]? = w.heap[g]?) : w'.ownsRow B' e k v n xs := by
  refine ⟨h.1, ?_⟩
  rcases h.2 with h2 | ⟨g, cap, cur, h1, h2, h3, h4⟩
  · exact .inl h2
  · exact .inr ⟨g, cap, cur, h1, Nat.le_trans hB h2, (hk g h2).trans h3, h4⟩

theorem far_two (w : World) {g g' : Nat} (h : g' ≠ g) (u u' : Value) : ((w.setCell ⟨g, 0, none⟩ u).setCell ⟨g, 1, none⟩ u').heap[g']? = w.heap[g']? :=
  (Below.heap_setCell _ _ _ _ h).trans (Below.heap_setCell _ _ _ _ h)

theorem put_two {w : World} {g : Nat} {t : TypeId} {u u' : Value} (h : ∃ x y, Whole w g t #[x, y]) :
    ((w.setCell ⟨g, 0, none⟩ u).setCell ⟨g, 1, none⟩ u').cell? ⟨g, 0, none⟩ = some u ∧ ((w.setCell ⟨g, 0, none⟩ u).setCell ⟨g, 1, none⟩ u').cell? ⟨g, 1, none⟩ = some u' := by
  obtain ⟨x, y, hw⟩ := h
  have h2 : Whole ((w.setCell ⟨g, 0, none⟩ u).setCell ⟨g, 1, none⟩ u') g t #[u, u'] := by simpa using (hw.put 0 u).put 1 u'
  exact ⟨h2.cell 0, h2.cell 1⟩

/-- what the region of Read keeps to: the first byte, the result's variable, and all that was there -/
theorem held_drew {a : Addr} {v : Value} {B g : Nat} {t : TypeId} {w w' : World} (h : w'.cell? a = some v ∧ (∃ x y, Whole w' g t #[x, y]) ∧ Below B w w') : w'.drew.cell? a = some v ∧ (∃ x y, Whole w'.drew g t #[x, y]) ∧ Below B w w'.drew := ⟨h.1, h.2.1, h.2.2.drew⟩
theorem held_below {a : Addr} {v : Value} {B g : Nat} {t : TypeId} {w w' w2 : World} (h : w'.cell? a = some v ∧ (∃ x y, Whole w' g t #[x, y]) ∧ Below B w w') (hB : B ≤ w.heap.size) (hb : Below w'.heap.size w' w2) : w2.cell? a = some v ∧ (∃ x y, Whole w2 g t #[x, y]) ∧ Below B w w2 :=
  ⟨by rw [hb.cell (World.block_lt_of_cell? _ _ h.1)]; exact h.1, by obtain ⟨x, y, hw⟩ := h.2.1; exact ⟨x, y, hw.go hb⟩, h.2.2.trans (hb.mono (Nat.le_trans hB h.2.2.size))⟩
theorem held_put {a : Addr} {v u u' : Value} {B g : Nat} {t : TypeId} {w w' : World} (h : w'.cell? a = some v ∧ (∃ x y, Whole w' g t #[x, y]) ∧ Below B w w') (ha : a.block < g) (hg : B ≤ g) :
    ((w'.setCell ⟨g, 0, none⟩ u).setCell ⟨g, 1, none⟩ u').cell? a = some v ∧ (∃ x y, Whole ((w'.setCell ⟨g, 0, none⟩ u).setCell ⟨g, 1, none⟩ u') g t #[x, y]) ∧ Below B w ((w'.setCell ⟨g, 0, none⟩ u).setCell ⟨g, 1, none⟩ u') := by
  obtain ⟨h1, ⟨x, y, hw⟩, h2⟩ := h
  have hb : Below g w' ((w'.setCell ⟨g, 0, none⟩ u).setCell ⟨g, 1, none⟩ u') := ((Below.refl g w').setCell (p := ⟨g, 0, none⟩) (Nat.le_refl g) u).setCell (p := ⟨g, 1, none⟩) (Nat.le_refl g) u'
  exact ⟨by rw [hb.cell ha]; exact h1, ⟨u, u', by simpa using (hw.put 0 u).put 1 u'⟩, (h2.setCell (p := ⟨g, 0, none⟩) hg u).setCell (p := ⟨g, 1, none⟩) hg u'⟩
theorem held_facts {a : Addr} {v : Value} {B g : Nat} {t : TypeId} {w w' w2 : World} (h : w'.cell? a = some v ∧ (∃ x y, Whole w' g t #[x, y]) ∧ Below B w w') (hB : B ≤ w.heap.size) (hb : Below w'.heap.size w' w2) :
    w2.frozen? ⟨g, 0, none⟩ = false ∧ w2.frozen? ⟨g, 1, none⟩ = false ∧ ∃ x y, w2.cell? ⟨g, 0, none⟩ = some x ∧ w2.cell? ⟨g, 1, none⟩ = some y := by
  obtain ⟨x, y, h2⟩ := (held_below h hB hb).2.1
  exact ⟨h2.frozen 0, h2.frozen 1, x, y, h2.cell 0, h2.cell 1⟩
theorem rds_held {a : Addr} {v : Value} {g : Nat} {t : TypeId} {w w' : World} {A : Option Addr} {xs : List Value} (hr : Rds w w.heap.size A xs) (h : w'.cell? a = some v ∧ (∃ x y, Whole w' g t #[x, y]) ∧ Below w.heap.size w w') : Rds w' w'.heap.size A xs := (hr.below h.2.2).more h.2.2.size

/-- what Read tells of bytes -/
def frd (b : List Int) : Fr := if (mea b).2 = 0 then fra b else ⟨0, []⟩

set_option maxHeartbeats 1600000 in
theorem fread_any (A : Option Addr) (zs : List Int) (c : Nat) (w : World) (hl : zs.length ≤ 140737492549632) (hc : zs.length ≤ c) (hz : Byt zs) (hr : Rds w w.heap.size A (c8 zs)) :
    Calls Tryz.prog 102 #[.slice A zs.length c] w fun e w' => ∃ A' c', e = .returned (.tuple #[.agg #[.int .u8 (frd zs).k, .slice A' (frd zs).body.length c'], .int .i64 ((mea zs).1 : Nat), .int .i64 ((mea zs).2 : Nat)]) ∧
      w'.ownsRow w.heap.size 5 1 (.slice A' (frd zs).body.length c') (frd zs).body.length (c8 (frd zs).body) ∧ Below w.heap.size w w' := by
  have hM := measured_any A zs c w.heap.size (w.alloc (.cells #[.int .u8 0, .slice none 0 0] 83)) hl hc hz (hr.alloc (Nat.le_refl _) _)
  by_cases h0 : (mea zs).2 = 0
  · obtain ⟨hn12, hnl⟩ := mea_le h0
    have hnm : (mea zs).1 ≤ 1048588 := by have := mea_ok h0; omega
    rw [show frd zs = fra zs from if_pos h0]
    unfold fra
    rw [h0] at hM ⊢
    have hp : 0 < zs.length := by omega
    obtain ⟨ad, rfl, hadl, hc0⟩ := hr.at_ (c8_get hp)
    have e0 : ad.add 0 = ad := rfl
    rw [e0] at hc0
    rw [show zs.headD 0 = zs[0] by cases zs with | nil => simp at hp | cons z r => rfl]
    generalize zs[0] = k at *
    generalize (mea zs).1 = n at *
    have hr8 := hr.cut0 (n - 12) (show 8 ≠ 0 by decide)
    have hlen : ((zs.drop 8).take (n - 12)).length = n - 12 := by rw [List.length_take, List.length_drop]; omega
    simp only [hlen]
    generalize (zs.drop 8).take (n - 12) = body at *
    have hq1 : 0 ≤ (n : Int) - 4 ∧ (n : Int) - 4 ≤ (c : Int) := by omega
    have hq2 : max ((n : Int) - 4) 0 = (n : Int) - 4 := by omega
    have hq3 : ((n : Int) - 4).toNat = n - 4 := by omega
    have hq4 : (8 : Int) ≤ (n : Int) - 4 := by omega
    have hq5 : n - 4 - 8 = n - 12 := by omega
    clear e0 h0
    by_cases hm : n ≤ 12
    · rw [if_pos (by omega)] at hr8
      obtain rfl : n = 12 := by omega
      clear hq1 hq2 hq3 hq4 hq5
      have hc8 : (8 : Int) ≤ (c : Int) := by omega
      have hcl := fun w1 (h : Rds w1 w1.heap.size (some ad) (c8 body)) => clone_any _ body 0 0 w1 hlen (by simp) (by omega) h
      have HM := Lib.hid hM
      have HZ := Lib.hid hz
      clear hM hz hlen hl
      go_enter Tryz.func102, Tryz.ntmps102
      go_wp2_with fail
      refine HM.out.mono ?_
      rintro e w1 ⟨rfl, n1, rfl⟩
      have hb1 : Below w.heap.size w (w.alloc (.cells #[.int .u8 0, .slice none 0 0] 83)) := (Below.refl _ _).alloc (Nat.le_refl _) _
      have hw1 := Whole.new w 83 #[.int .u8 0, .slice none 0 0]
      have hB := Nat.le_refl w.heap.size
      have hS0 : ((w.alloc (.cells #[.int .u8 0, .slice none 0 0] 83)).drewN n1).cell? ad = some (.int .u8 k) ∧ (∃ x y, Whole ((w.alloc (.cells #[.int .u8 0, .slice none 0 0] 83)).drewN n1) w.heap.size 83 #[x, y]) ∧ Below w.heap.size w ((w.alloc (.cells #[.int .u8 0, .slice none 0 0] 83)).drewN n1) :=
        ⟨(hb1.cell hadl).trans hc0, ⟨_, _, hw1⟩, ⟨hb1.os, hb1.tape, hb1.output, hb1.size, hb1.block⟩⟩
      go_wp2_with fail
      generalize (w.alloc (.cells #[.int .u8 0, .slice none 0 0] 83)).drewN n1 = w1 at *
      clear hb1 hw1 HM
      go_region_held3 (fun w' => w'.cell? ad = some (.int .u8 k) ∧ (∃ x y, Whole w' w.heap.size 83 #[x, y]) ∧ Below w.heap.size w w')
        (first | assumption | exact held_drew (by assumption) | exact held_below (by assumption) (by assumption) (by assumption) | exact held_put (by assumption) hadl hB)
        (first | (go_at_call 25; refine (hcl _ (rds_held hr8 (by assumption))).mono ?_; rintro e w5 ⟨A5, c5, rfl, hown, hb5⟩; obtain ⟨hf0, hf1, x0, x1, hg0, hg1⟩ := held_facts (by assumption) hB hb5))
      have hsz : w.heap.size < w1.heap.size := by
        obtain ⟨x, y, hx⟩ := hS0.2.1
        exact hx.lt
      have hfin := own_other hown (w' := (w5.setCell ⟨w.heap.size, 0, none⟩ (.int .u8 k)).setCell ⟨w.heap.size, 1, none⟩ (.slice A5 0 c5)) (Nat.le_of_lt hsz) (fun g hg => far_two w5 (show g ≠ w.heap.size from fun e => Nat.lt_irrefl g (Nat.lt_of_lt_of_le (by rw [e]; exact hsz) hg)) _ _)
      have hbb := (by assumption : _ ∧ _ ∧ Below _ _ _).2.2
      have hwh := (held_below (held_drew hS0) hB hb5).2.1
      have HF := Lib.hid hfin
      have HBB := Lib.hid hbb
      clear hfin hbb hS0 hb5 hown hf0 hf1 hg0 hg1
      obtain ⟨hx0, hx1⟩ := put_two (u := .int .u8 k) (u' := .slice A5 0 c5) hwh
      generalize (w5.setCell ⟨w.heap.size, 0, none⟩ (.int .u8 k)).setCell ⟨w.heap.size, 1, none⟩ (.slice A5 0 c5) = w6 at *
      go_wp2
      (try simp only [Exit.inBlock, Exit.then])
      refine bodyPost_ret (by simp [results, Tryz.results102, go_sem, hx0, hx1]; try rfl) rfl ?_
      exact ⟨A5, c5, rfl, HF.out, HBB.out⟩
    · rw [if_neg (by omega)] at hr8
      have hq6 : ¬ n - 4 = 8 := by omega
      have hq7 : ¬ n = 12 := by omega
      have hq8 : ¬ (n : Int) - 4 = 8 := by omega
      have hcl := fun w1 (h : Rds w1 w1.heap.size (some ⟨ad.block, ad.off + 8, none⟩) (c8 body)) => clone_any _ body (n - 12) (n - 12) w1 hlen (by simp) (by omega) h
      have HM := Lib.hid hM
      have HZ := Lib.hid hz
      clear hM hz hlen hl
      go_enter Tryz.func102, Tryz.ntmps102
      go_wp2_with fail
      refine HM.out.mono ?_
      rintro e w1 ⟨rfl, n1, rfl⟩
      have hb1 : Below w.heap.size w (w.alloc (.cells #[.int .u8 0, .slice none 0 0] 83)) := (Below.refl _ _).alloc (Nat.le_refl _) _
      have hw1 := Whole.new w 83 #[.int .u8 0, .slice none 0 0]
      have hB := Nat.le_refl w.heap.size
      have hS0 : ((w.alloc (.cells #[.int .u8 0, .slice none 0 0] 83)).drewN n1).cell? ad = some (.int .u8 k) ∧ (∃ x y, Whole ((w.alloc (.cells #[.int .u8 0, .slice none 0 0] 83)).drewN n1) w.heap.size 83 #[x, y]) ∧ Below w.heap.size w ((w.alloc (.cells #[.int .u8 0, .slice none 0 0] 83)).drewN n1) :=
        ⟨(hb1.cell hadl).trans hc0, ⟨_, _, hw1⟩, ⟨hb1.os, hb1.tape, hb1.output, hb1.size, hb1.block⟩⟩
      go_wp2_with fail
      generalize (w.alloc (.cells #[.int .u8 0, .slice none 0 0] 83)).drewN n1 = w1 at *
      clear hb1 hw1 HM
      go_region_held3 (fun w' => w'.cell? ad = some (.int .u8 k) ∧ (∃ x y, Whole w' w.heap.size 83 #[x, y]) ∧ Below w.heap.size w w')
        (first | assumption | exact held_drew (by assumption) | exact held_below (by assumption) (by assumption) (by assumption) | exact held_put (by assumption) hadl hB)
        (first | (go_at_call 25; refine (hcl _ (rds_held hr8 (by assumption))).mono ?_; rintro e w5 ⟨A5, c5, rfl, hown, hb5⟩; obtain ⟨hf0, hf1, x0, x1, hg0, hg1⟩ := held_facts (by assumption) hB hb5))
      have hsz : w.heap.size < w1.heap.size := by
        obtain ⟨x, y, hx⟩ := hS0.2.1
        exact hx.lt
      have hfin := own_other hown (w' := (w5.setCell ⟨w.heap.size, 0, none⟩ (.int .u8 k)).setCell ⟨w.heap.size, 1, none⟩ (.slice A5 (n - 12) c5)) (Nat.le_of_lt hsz) (fun g hg => far_two w5 (show g ≠ w.heap.size from fun e => Nat.lt_irrefl g (Nat.lt_of_lt_of_le (by rw [e]; exact hsz) hg)) _ _)
      have hbb := (by assumption : _ ∧ _ ∧ Below _ _ _).2.2
      have hwh := (held_below (held_drew hS0) hB hb5).2.1
      have HF := Lib.hid hfin
      have HBB := Lib.hid hbb
      clear hfin hbb hS0 hb5 hown hf0 hf1 hg0 hg1
      obtain ⟨hx0, hx1⟩ := put_two (u := .int .u8 k) (u' := .slice A5 (n - 12) c5) hwh
      generalize (w5.setCell ⟨w.heap.size, 0, none⟩ (.int .u8 k)).setCell ⟨w.heap.size, 1, none⟩ (.slice A5 (n - 12) c5) = w6 at *
      go_wp2
      (try simp only [Exit.inBlock, Exit.then])
      refine bodyPost_ret (by simp [results, Tryz.results102, go_sem, hx0, hx1]; try rfl) rfl ?_
      exact ⟨A5, c5, rfl, HF.out, HBB.out⟩
  · have hn := mea_err h0
    rw [show frd zs = ⟨0, []⟩ from if_neg h0]
    generalize mea zs = M at *
    obtain ⟨n, e⟩ := M
    simp only [] at *
    subst hn
    have h0' : ((e : Int) != 0) = true := by simp; omega
    have hb1 : Below w.heap.size w ((w.alloc (.cells #[.int .u8 0, .slice none 0 0] 83))) := (Below.refl _ _).alloc (Nat.le_refl _) _
    go_enter Tryz.func102, Tryz.ntmps102
    go_wp2_with fail
    refine hM.mono ?_
    rintro e w1 ⟨rfl, n1, rfl⟩
    go_wp2
    go_returns
    refine ⟨none, 0, rfl, ⟨rfl, .inl ⟨rfl, rfl⟩⟩, ?_⟩
    have hb2 : Below w.heap.size w ((w.alloc (.cells #[.int .u8 0, .slice none 0 0] 83)).drewN n1) := ⟨hb1.os, hb1.tape, hb1.output, hb1.size, hb1.block⟩
    exact (hb2.setCell (p := ⟨w.heap.size, 0, none⟩) (Nat.le_refl w.heap.size) _).setCell (p := ⟨w.heap.size, 1, none⟩) (Nat.le_refl w.heap.size) _

end Go.Proofs.YtbobakfcmkaijaaGreatDoor
end

section
/- The walk over the frame's Append. -/
namespace Go.Proofs.YtbobakfcmkaijaaGreatDoor
open Go.RowKit
set_option linter.unusedVariables false

theorem app_long (A A' : Option Addr) (n c m c' : Nat) (k : Int) (w : World) (hm : 1048576 < m) (hm2 : m ≤ 9223372036854775807) :
    Calls Tryz.prog 50 #[.slice A n c, .agg #[.int .u8 k, .slice A' m c']] w fun e w' => e = .returned (.tuple #[.slice none 0 0, .int .i64 3]) ∧ Below w.heap.size w w' := by
  have hm' : (1048576 : Int) < (m : Int) := by omega
  go_enter Tryz.func50, Tryz.ntmps50
  go_wp2
  go_ret2
  exact ⟨rfl, (Below.refl _ _).alloc (Nat.le_refl _) _⟩

/-- copy(dst, src) into the middle of a block known whole, src nil or not, no longer than dst -/
theorem copy_mid {P : Program} (w : World) (T e ty : TypeId) (hu : P.underlying T = some (.slice e)) (hs : (P.info? e).map (·.size) = some 1) {g off m cap c lim : Nat} {old : List Value} {A : Option Addr} {xs : List Value} {te : TypeId}
    (hw : Whole w g te old.toArray) (hr : Rds w lim A xs) (hle : xs.length ≤ m) (hm : off + xs.length ≤ old.length) (h1 : ∀ u ∈ xs, u.oneCell' = true) {n : Nat} (hn : n = xs.length) (D : Option Addr) (hD : xs ≠ [] → D = some ⟨g, off, none⟩) :
    ∃ w', (Builtin.copy_ #[T, T] ty #[.slice D m cap, .slice A n c]).run P w = .ok (.int .i64 n) w' ∧ Whole w' g te (old.take off ++ (xs ++ old.drop (off + xs.length))).toArray ∧ w.grownBy w' (some g) := by
  subst hn
  have hmin : Nat.min xs.length m = xs.length := Nat.min_eq_left hle
  by_cases h0 : xs = []
  · subst h0
    exact ⟨w, run_copy_none (P := P) w T T ty e _ A m cap 0 c hu hs (Nat.min_eq_left (Nat.zero_le _)), by simpa using hw, Only.refl _ _⟩
  · obtain rfl := hD h0
    obtain ⟨ad, rfl, _, hsrc⟩ := hr h0
    refine ⟨_, run_copy_row (P := P) w T T ty e g off m cap ad xs.length c old.toArray te xs hu hs hw hmin.symm hsrc (by simpa using hm) h1, ?_, ?_⟩
    · have := setRow_heap w g _ ((old.toArray.toList.take off ++ xs ++ old.toArray.toList.drop (off + xs.length)).toArray) te (0, 0) hw
      unfold Whole
      rw [this]
      simp
    · exact ⟨rfl, rfl, rfl, by simp [World.setRow], fun k hk hn => setRow_other w g k _ (fun e => hn (by rw [e]))⟩

theorem lay_mid {P Q R N : List Int} {off n : Nat} (h1 : P.length = off) (h2 : Q.length = n) : (P ++ (Q ++ R)).take off ++ (N ++ (P ++ (Q ++ R)).drop (off + n)) = P ++ (N ++ R) := by
  subst h1 h2
  rw [List.take_left, ← List.drop_drop, List.drop_left, List.drop_left]

theorem addr_add (g off j : Nat) : (⟨g, off, none⟩ : Addr).add j = ⟨g, off + j, none⟩ := by unfold Addr.add; split <;> simp_all

/-- a piece in the middle of a block reads as it stands there -/
theorem Whole.mid {w : World} {g off : Nat} {t : TypeId} {P Q R : List Int} (h : Whole w g t (c8 (P ++ (Q ++ R))).toArray) (ho : P.length = off) : Rds w w.heap.size (some ⟨g, off, none⟩) (c8 Q) := by
  intro _
  refine ⟨_, rfl, h.lt, fun j u hu => ?_⟩
  have hj : j < (c8 Q).length := (List.getElem?_eq_some_iff.1 hu).1
  have hP : (c8 P).length = off := by rw [c8_length, ho]
  rw [addr_add, h.cell, c8_append, c8_append]
  simp only [List.getElem?_toArray]
  rw [List.getElem?_append_right (by omega), hP, show off + j - off = j by omega, List.getElem?_append_left hj, hu]

theorem rep_split (a b : Nat) : List.replicate (a + b) (0 : Int) = List.replicate a 0 ++ List.replicate b 0 := by rw [List.replicate_append_replicate]

set_option maxRecDepth 10000 in
set_option maxHeartbeats 3200000 in
theorem fapp_any (A A' : Option Addr) (zs body : List Int) (c c' m : Nat) (k : Int) (w : World) (hbm : body.length = m) (hl : zs.length ≤ 140737488400000) (hm : m ≤ 1048576) (hk : 0 ≤ k ∧ k ≤ 255) (hz : Byt zs) (hzb : Byt body)
    (hr : Rds w w.heap.size A (c8 zs)) (hr' : Rds w w.heap.size A' (c8 body)) :
    Calls Tryz.prog 50 #[.slice A zs.length c, .agg #[.int .u8 k, .slice A' m c']] w fun e w' =>
      ∃ g, e = .returned (.tuple #[.slice (some ⟨g, 0, none⟩) (zs.length + (m + 12)) (zs.length + (m + 12)), .int .i64 0]) ∧ Whole w' g 5 (c8 (zs ++ fby ⟨k, body⟩)).toArray ∧ w.heap.size ≤ g ∧ Below w.heap.size w w' := by
  obtain ⟨i0, hi, hz0, hz1, hz2⟩ := info_parts info8
  have hsz : (Tryz.prog.info? 5).map (·.size) = some 1 := by rw [hi]; simp [hz1]
  have hm' : ¬ (1048576 : Int) < (m : Int) := by omega
  have hwr : IntKind.u32.wrap (m : Int) = (m : Int) := IntWalk.u32_in _ (by omega)
  have hq1 : (4 : Int) ≤ (m : Int) + 12 := by omega
  have hq2 : (8 : Int) ≤ (m : Int) + 12 := by omega
  have hq3 : 0 ≤ 8 + (m : Int) ∧ 8 + (m : Int) ≤ (m : Int) + 12 := by omega
  have hq4 : max (8 + (m : Int)) 0 = 8 + (m : Int) := by omega
  have hq5 : (8 + (m : Int)).toNat = 8 + m := by omega
  have hq6 : (8 : Int) ≤ 8 + (m : Int) := by omega
  have hq7 : 0 ≤ 8 + (m : Int) + 4 ∧ 8 + (m : Int) + 4 ≤ (m : Int) + 12 := by omega
  have hq8 : max (8 + (m : Int) + 4) 0 = 8 + (m : Int) + 4 := by omega
  have hq9 : (8 + (m : Int) + 4).toNat = 8 + m + 4 := by omega
  have hq10 : 0 ≤ 8 + (m : Int) ∧ 8 + (m : Int) ≤ 8 + (m : Int) + 4 := by omega
  have hadd : ∀ g k, (⟨g, 0, none⟩ : Addr).add k = ⟨g, k, none⟩ := fun g k => by unfold Addr.add; split <;> simp_all
  have hbx : Below w.heap.size w (w.alloc (.cells #[.int .u8 k, .slice A' m c'] 83)) := (Below.refl _ _).alloc (Nat.le_refl _) _
  have hwx := Whole.new w 83 #[.int .u8 k, .slice A' m c']
  go_enter Tryz.func50, Tryz.ntmps50
  go_wp2_with (at_make; go_loud (refine wpList_make_full _ rfl _ _ 30 rfl (w.heap.size + 1) 5 i0 (.int .u8 0) 1 Tryz.underlying30 hi hz0 hz1 .i64 .i64 _ _ (zs.length + (m + 12)) rfl rfl (by omega) (by omega) (by rw [hz2]; omega) (by unfold maxLen; omega) (by simp) ?_))
  intro w1 hown1 hg1
  have hb1 : Below w.heap.size w w1 := hbx.grown hg1 (by simp) (by simp)
  have hx1 : Whole w1 w.heap.size 83 #[.int .u8 k, .slice A' m c'] := hwx.grown hg1 (by simp)
  have hw1 := own_whole hown1
  have hG : w.heap.size ≤ w.heap.size + 1 := by omega
  have hne : w.heap.size ≠ w.heap.size + 1 := by omega
  have e1 : (madeCells #[Value.int .u8 0] (zs.length + (m + 12))).toList = c8 ([] ++ (List.replicate zs.length 0 ++ List.replicate (m + 12) 0)) := by
    have h := made1 (.int .u8 0) (zs.length + (m + 12))
    rw [Nat.mul_one] at h
    rw [h]
    simp [c8]
  rw [e1] at hw1
  clear e1 hown1 hg1
  generalize w.heap.size + 1 = G at *
  have hr1 := hr.below hb1
  obtain ⟨w2, hrun, hw2, hg2⟩ := copy_mid (P := Tryz.prog) w1 30 5 3 Tryz.underlying30 hsz (off := 0) (m := zs.length + (m + 12)) (cap := zs.length + (m + 12)) (c := c) hw1 hr1 (by rw [c8_length]; omega) (by simp [c8]) (c8_one zs) (c8_length zs).symm (some ⟨G, 0, none⟩) (fun _ => rfl)
  have hb2 := hb1.grown hg2 hb1.size (fun k hk => by cases hk; exact hG)
  have hx2 := hx1.grown hg2 (by simp; exact hne)
  rw [c8_length, ← c8_take, ← c8_drop, ← c8_append, ← c8_append, lay_mid (P := []) (off := 0) (n := zs.length) rfl (by simp), List.nil_append] at hw2
  clear hw1 hr1 hx1 hb1 hbx hwx
  have hc1 := hx2.cell 1
  have hc0 := hx2.cell 0
  have hcg : w2.cell? ⟨G, zs.length, none⟩ = some (.int .u8 0) := by
    rw [hw2.cell zs.length]
    simp [c8]
  have hfg := hw2.frozen zs.length
  have hp3 := hw2.put zs.length (.int .u8 k)
  rw [c8_set, show (zs ++ List.replicate (m + 12) (0 : Int)).set zs.length k = zs ++ ([k] ++ (List.replicate 3 0 ++ List.replicate (m + 8) 0)) by
    rw [List.set_append_right _ _ (Nat.le_refl _), Nat.sub_self, show m + 12 = 3 + (m + 8) + 1 by omega, List.replicate_succ, ← List.replicate_append_replicate]
    rfl] at hp3
  have hg3 : w1.grownBy (w2.setCell ⟨G, zs.length, none⟩ (.int .u8 k)) (some G) := Only.put hg2 _ _
  have hb3 : Below w.heap.size w (w2.setCell ⟨G, zs.length, none⟩ (.int .u8 k)) := hb2.setCell (p := ⟨G, zs.length, none⟩) hG _
  have hx3 : Whole (w2.setCell ⟨G, zs.length, none⟩ (.int .u8 k)) w.heap.size 83 #[.int .u8 k, .slice A' m c'] := hx2.far (p := ⟨G, zs.length, none⟩) hne _
  go_wp2
  clear hcg hfg hc0 hc1 hx2 hw2 hg2 hb2
  generalize w2.setCell ⟨G, zs.length, none⟩ (.int .u8 k) = w3 at *
  have hc1 := hx3.cell 1
  go_still_tail 6, (by kernel_rfl)
  change wpList _ _ _ _ _ w3.drew
  go_wp2_with fail
  refine (fput_any G (zs.length + 1) 3 3 m _ w3.drew (by omega) (by omega) (by simp; omega) (by simp; omega) hp3).mono ?_
  rintro e w4 ⟨rfl, hw4, hg4⟩
  have hp4 : Whole w4 G 5 (c8 (zs ++ (hd4 k m ++ (List.replicate 4 0 ++ List.replicate (m + 4) 0)))).toArray := by
    rw [show zs ++ ([k] ++ (List.replicate 3 (0 : Int) ++ List.replicate (m + 8) 0)) = (zs ++ [k]) ++ (List.replicate 3 0 ++ (List.replicate 4 0 ++ List.replicate (m + 4) 0)) by
      rw [← rep_split 4 (m + 4), show 4 + (m + 4) = m + 8 by omega]; simp, lay_mid (by simp) (by simp)] at hw4
    simpa [hd4] using hw4
  have hb4 := hb3.drew.grown hg4 (by have := hb3.size; exact this) (fun q hq => by cases hq; exact hG)
  have hx4 : Whole w4 w.heap.size 83 #[.int .u8 k, .slice A' m c'] := hx3.drew.grown hg4 (by simp; exact hne)
  clear hw4 hg4 hp3 hg3 hb3 hx3 hc1
  have hS := sum_any (some ⟨G, zs.length, none⟩) (hd4 k m) 4 w4.heap.size w4 (by rw [hd4_length]; omega) (hd4_byt hk _) (hp4.mid rfl)
  rw [hd4_length] at hS
  change Calls _ _ _ _ fun e w' => e = .returned (.int .u32 (hsum k m : Nat)) ∧ w' = w4 at hS
  have hsl : hsum k m < 4294967296 := mor_lt _ _
  have HSM := Lib.hid (show mor 0 (hd4 k m) = hsum k m from rfl)
  generalize hSg : hsum k m = S at *
  go_wp2_with fail
  refine hS.mono ?_
  rintro e w5 ⟨rfl, rfl⟩
  rw [show zs ++ (hd4 k m ++ (List.replicate 4 (0 : Int) ++ List.replicate (m + 4) 0)) = (zs ++ hd4 k m) ++ (List.replicate 4 0 ++ (List.replicate m 0 ++ List.replicate 4 0)) by
    rw [← rep_split m 4]; simp] at hp4
  go_wp2_with fail
  refine (fput_any G (zs.length + 4) 4 4 S _ w5 hsl (by omega) (by simp [hd4_length]; omega) (by simp [hd4_length]; omega) hp4).mono ?_
  rintro e w6 ⟨rfl, hw6, hg6⟩
  rw [lay_mid (by simp [hd4_length]) (by simp)] at hw6
  have hb6 := hb4.grown hg6 hb4.size (fun q hq => by cases hq; exact hG)
  have hx6 : Whole w6 w.heap.size 83 #[.int .u8 k, .slice A' m c'] := hx4.grown hg6 (by simp; exact hne)
  clear hp4 hg6 hb4 hx4 hS
  have hc1 := hx6.cell 1
  have hr6 : Rds w6.drew w.heap.size A' (c8 body) := hr'.below hb6.drew
  go_wp2
  go_still_tail 6, (by kernel_rfl)
  change wpList _ _ _ _ _ w6.drew
  have hw6' : Whole w6.drew G 5 (c8 (zs ++ hd4 k m ++ (le 4 S ++ (List.replicate m 0 ++ List.replicate 4 0)))).toArray := hw6
  have hx6' : Whole w6.drew w.heap.size 83 #[.int .u8 k, .slice A' m c'] := hx6
  have hb6' : Below w.heap.size w w6.drew := hb6.drew
  clear hw6 hx6 hb6 hc1
  generalize w6.drew = w7 at *
  rw [show zs ++ hd4 k m ++ (le 4 S ++ (List.replicate m (0 : Int) ++ List.replicate 4 0)) = (zs ++ hd4 k m ++ le 4 S) ++ (List.replicate m 0 ++ List.replicate 4 0) by simp] at hw6'
  obtain ⟨w8, hrun8, hw8, hg8⟩ := copy_mid (P := Tryz.prog) w7 30 5 3 Tryz.underlying30 hsz (off := zs.length + 8) (m := m) (cap := m) (c := c') hw6' hr6 (by rw [c8_length]; omega) (by simp [c8, hd4_length, le_length]; omega) (c8_one body) ((c8_length body).trans hbm).symm (if m = 0 then some ⟨G, zs.length, none⟩ else some ⟨G, zs.length + 8, none⟩) (fun h => if_neg (fun h2 => h (List.eq_nil_of_length_eq_zero (by rw [c8_length, hbm]; exact h2))))
  generalize (if m = 0 then some (⟨G, zs.length, none⟩ : Addr) else some ⟨G, zs.length + 8, none⟩) = D at *
  rw [c8_length, ← c8_take, ← c8_drop, ← c8_append, ← c8_append, lay_mid (by simp [hd4_length, le_length]) (by simp [hbm])] at hw8
  have hb8 := hb6'.grown hg8 hb6'.size (fun q hq => by cases hq; exact hG)
  have hx8 : Whole w8 w.heap.size 83 #[.int .u8 k, .slice A' m c'] := hx6'.grown hg8 (by simp; exact hne)
  go_wp2
  clear hw6' hg8 hb6' hx6' hrun8 hr6
  have hc1 := hx8.cell 1
  have hr8 : Rds w8.drew w.heap.size A' (c8 body) := hr'.below hb8.drew
  have hMo := more_any S A' body c' w.heap.size w8.drew hsl (by omega) hzb hr8
  rw [hbm] at hMo
  have hml := mor_lt S body
  refine wp_region_still_tail 9 (by kernel_rfl) (by kernel_rfl) ?_
  simp only [List.take_succ_cons, List.take_zero, List.drop_succ_cons, List.drop_zero]
  repeat still_step
  still_call hMo
  refine wpStill_nil ?_
  change wpList _ _ _ _ _ w8.drew
  go_wp2_with fail
  have hw9 : Whole w8.drew G 5 (c8 ((zs ++ hd4 k m ++ le 4 S ++ body) ++ (List.replicate 4 0 ++ []))).toArray := by
    have h : Whole w8.drew G 5 (c8 (zs ++ hd4 k m ++ le 4 S ++ (body ++ List.replicate 4 0))).toArray := hw8
    rw [List.append_nil, List.append_assoc _ body]
    exact h
  refine (fput_any G (zs.length + (8 + m)) 4 4 (mor S body) _ w8.drew hml (by omega) (by simp [hd4_length, le_length, hbm]; omega) (by simp [hd4_length, le_length, hbm]; omega) hw9).mono ?_
  rintro e w9 ⟨rfl, hw10, hg9⟩
  rw [lay_mid (by simp [hd4_length, le_length, hbm]; omega) (by simp)] at hw10
  have hb10 := hb8.drew.grown hg9 hb8.drew.size (fun q hq => by cases hq; exact hG)
  rw [show zs ++ hd4 k m ++ le 4 S ++ body ++ (le 4 (mor S body) ++ []) = zs ++ fby ⟨k, body⟩ by
    unfold fby
    simp only [hbm, hSg, List.append_nil, List.append_assoc]] at hw10
  have HW10 := Lib.hid hw10
  clear hw10 hw9 hg9 hw8 hMo hr8 hx8
  go_wp2
  go_ret2
  exact ⟨G, rfl, HW10.out, hG, hb10⟩

end Go.Proofs.YtbobakfcmkaijaaGreatDoor
end

section
/- The walk over the kit's Pick: what it picks lies below what it may pick from. No condition but that the numbers are of their types. -/
namespace Go.Proofs.YtbobakfcmkaijaaGreatDoor
open Go.RowKit Go.Lib
set_option linter.unusedVariables false

theorem pick_any (x n : Int) (w : World) (h1 : 1 ≤ n) (h2 : n ≤ 4611686018427387904) (hx : -9223372036854775808 ≤ x ∧ x ≤ 9223372036854775807) :
    Calls Tryz.prog 18 #[.int .i64 x, .int .i64 n] w fun e w' => (∃ r : Nat, e = .returned (.int .i64 r) ∧ (r : Int) < n) ∧ w' = w := by
  have hx1 := hx.1
  have hx2 := hx.2
  clear hx
  have hm1 : -n < Int.tmod x n := by have := Int.tmod_lt_of_pos (-x) (show 0 < n by omega); rw [Int.neg_tmod] at this; omega
  have hm2 : Int.tmod x n < n := Int.tmod_lt_of_pos x (by omega)
  have hn0 : ¬ n = 0 := by omega
  have hn1 : ¬ n = -1 := by omega
  go_enter Tryz.func18, Tryz.ntmps18
  go_wp2
  go_ret
  have hm3 := Int.emod_nonneg (x.tmod n + n) hn0
  have hm4 := Int.emod_lt_of_pos (x.tmod n + n) (show 0 < n by omega)
  exact ⟨⟨((x.tmod n + n) % n).toNat, by rw [Int.toNat_of_nonneg hm3]; rfl, by rw [Int.toNat_of_nonneg hm3]; exact hm4⟩, rfl⟩

theorem Whole.reads {w : World} {g : Nat} {t : TypeId} {zs : List Int} (h : Whole w g t (c8 zs).toArray) : Rds w w.heap.size (some ⟨g, 0, none⟩) (c8 zs) := by
  intro _
  refine ⟨_, rfl, h.lt, fun j u hu => ?_⟩
  have hadd : (⟨g, 0, none⟩ : Addr).add j = ⟨g, j, none⟩ := by unfold Addr.add; split <;> simp_all
  rw [hadd, h.cell j]
  simpa using hu


end Go.Proofs.YtbobakfcmkaijaaGreatDoor
end

section
/- The walk over the examples that every statement of the layer asks first. -/
namespace Go.Proofs.YtbobakfcmkaijaaGreatDoor
open Go.RowKit
set_option linter.unusedVariables false

theorem fread_len (A : Option Addr) (zs : List Int) (n c : Nat) (w : World) (hn : zs.length = n) (hl : n ≤ 140737492549632) (hc : n ≤ c) (hz : Byt zs) (hr : Rds w w.heap.size A (c8 zs))
    {M E : Nat} {f : Fr} (hM : mea zs = (M, E)) (hf : frd zs = f) :
    Calls Tryz.prog 102 #[.slice A n c] w fun e w' => ∃ A' c', e = .returned (.tuple #[.agg #[.int .u8 f.k, .slice A' f.body.length c'], .int .i64 (M : Nat), .int .i64 (E : Nat)]) ∧
      w'.ownsRow w.heap.size 5 1 (.slice A' f.body.length c') f.body.length (c8 f.body) ∧ Below w.heap.size w w' := by
  subst hn
  have h := fread_any A zs c w hl hc hz hr
  rw [hM, hf] at h
  exact h

theorem fread_at (A : Option Addr) (zs : List Int) (n c : Nat) (w : World) (hn : zs.length = n) (hl : n ≤ 140737492549632) (hc : n ≤ c) (hz : Byt zs) (hr : Rds w w.heap.size A (c8 zs)) :
    Calls Tryz.prog 102 #[.slice A n c] w fun e w' => ∃ A' c', e = .returned (.tuple #[.agg #[.int .u8 (frd zs).k, .slice A' (frd zs).body.length c'], .int .i64 ((mea zs).1 : Nat), .int .i64 ((mea zs).2 : Nat)]) ∧
      w'.ownsRow w.heap.size 5 1 (.slice A' (frd zs).body.length c') (frd zs).body.length (c8 (frd zs).body) ∧ Below w.heap.size w w' := by
  subst hn
  exact fread_any A zs c w hl hc hz hr

theorem frd_fby (f : Fr) (hf : Fok f) (more : List Int) : frd (fby f ++ more) = f := by
  unfold frd
  rw [mea_fby f hf more]
  exact fra_fby f hf more
theorem frd_bad {b : List Int} {M E : Nat} (h : mea b = (M, E)) (hE : E ≠ 0) : frd b = ⟨0, []⟩ := by
  unfold frd
  rw [h]
  exact if_neg hE

def f1 : Fr := ⟨1, []⟩
theorem f1_ok : Fok f1 := ⟨by decide, (fun z hz => by cases hz), by decide⟩
theorem f1_fby : fby f1 = [1, 0, 0, 0, 121, 184, 248, 153, 121, 184, 248, 153] := by decide +kernel

end Go.Proofs.YtbobakfcmkaijaaGreatDoor
end

section
/- The walks over the frame's Scan and Ends. -/
namespace Go.Proofs.YtbobakfcmkaijaaGreatDoor
open Go.RowKit
set_option linter.unusedVariables false

/-- a frame as it lies in memory -/
structure FR where
  f : Fr
  A : Option Addr
  c : Nat
def FR.v (r : FR) : Value := .slice r.A r.f.body.length r.c
/-- the cells that frames take -/
def cF (rs : List FR) : List Value := rs.flatMap fun r => [.int .u8 r.f.k, r.v]

theorem cF_length (rs : List FR) : (cF rs).length = rs.length * 2 := by
  induction rs with
  | nil => rfl
  | cons r rs ih => simp only [cF, List.flatMap_cons, List.length_append, List.length_cons, List.length_nil] at ih ⊢; omega
theorem cF_append (a b : List FR) : cF (a ++ b) = cF a ++ cF b := by simp [cF, List.flatMap_append]
theorem cF_one (rs : List FR) : ∀ u ∈ cF rs, u.oneCell' = true := by
  intro u hu
  obtain ⟨r, _, h⟩ := List.mem_flatMap.1 hu
  simp only [List.mem_cons, List.not_mem_nil, or_false] at h
  rcases h with rfl | rfl <;> rfl
theorem cF_get : ∀ {rs : List FR} {j : Nat} (h : j < rs.length), (cF rs)[j * 2]? = some (.int .u8 rs[j].f.k) ∧ (cF rs)[j * 2 + 1]? = some rs[j].v
  | r :: rs, 0, _ => ⟨rfl, rfl⟩
  | r :: rs, j + 1, h => by
    have ih := cF_get (rs := rs) (j := j) (by simpa using h)
    have e : cF (r :: rs) = [.int .u8 r.f.k, r.v] ++ cF rs := rfl
    rw [e]
    refine ⟨?_, ?_⟩
    · rw [List.getElem?_append_right (by simp; omega), show (j + 1) * 2 - [Value.int .u8 r.f.k, r.v].length = j * 2 by simp; omega]
      exact ih.1
    · rw [List.getElem?_append_right (by simp; omega), show (j + 1) * 2 + 1 - [Value.int .u8 r.f.k, r.v].length = j * 2 + 1 by simp; omega]
      exact ih.2

/-- the bodies of frames of the call's own -/
def Bds (w : World) (B : Nat) (rs : List FR) : Prop := ∀ r ∈ rs, w.ownsRow B 5 1 r.v r.f.body.length (c8 r.f.body)

theorem info28 : (Tryz.prog.info? 83).map (fun i => (i.zero, i.size, i.bytes)) = some (some (.agg #[.int .u8 0, .slice none 0 0]), 2, 32) := by kernel_rfl

/-- a row of one type stands as it did where a row of another type grows -/
theorem own_far {w w' : World} {B B' : Nat} {e e' : TypeId} {k k' n m : Nat} {u v : Value} {xs ys : List Value} (hne : e ≠ e') (h : w.ownsRow B e k u n xs) (hv : w.ownsRow B' e' k' v m ys) (hg : w.grownBy w' v.ownBlock) : w'.ownsRow B e k u n xs := by
  refine ⟨h.1, ?_⟩
  rcases h.2 with h2 | ⟨g, cap, cur, h1, h2, h3, h4⟩
  · exact .inl h2
  · refine .inr ⟨g, cap, cur, h1, h2, (hg.block g (Array.getElem?_eq_some_iff.1 h3).1 (fun hb => ?_)).trans h3, h4⟩
    rcases hv.2 with ⟨hv2, _⟩ | ⟨g', cap', cur', hv1, _, hv3, _⟩
    · rw [hv2] at hb; cases hb
    · rw [hv1] at hb
      have hbb : some g = some g' := hb
      obtain rfl := Option.some.inj hbb
      rw [h3] at hv3
      simp only [Option.some.injEq, Obj.cells.injEq] at hv3
      exact hne hv3.2.1
theorem own_below {w w' : World} {B k n : Nat} {e : TypeId} {u : Value} {xs : List Value} (h : w.ownsRow B e k u n xs) (hb : Below w.heap.size w w') : w'.ownsRow B e k u n xs := by
  refine ⟨h.1, ?_⟩
  rcases h.2 with h2 | ⟨g, cap, cur, h1, h2, h3, h4⟩
  · exact .inl h2
  · exact .inr ⟨g, cap, cur, h1, h2, (hb.block g (Array.getElem?_eq_some_iff.1 h3).1).trans h3, h4⟩
/-- .. and where a variable of another type is written -/
theorem own_put {w : World} {B k n g : Nat} {e t : TypeId} {u x y : Value} {xs : List Value} {cs : Array Value} (hne : e ≠ t) (h : w.ownsRow B e k u n xs) (hw : Whole w g t cs) : ((w.setCell ⟨g, 0, none⟩ x).setCell ⟨g, 1, none⟩ y).ownsRow B e k u n xs := by
  refine ⟨h.1, ?_⟩
  rcases h.2 with h2 | ⟨g', cap, cur, h1, h2, h3, h4⟩
  · exact .inl h2
  · refine .inr ⟨g', cap, cur, h1, h2, (far_two w (fun e => ?_) _ _).trans h3, h4⟩
    subst e
    unfold Whole at hw
    rw [h3] at hw
    simp only [Option.some.injEq, Obj.cells.injEq] at hw
    exact hne hw.2.1
theorem Bds.map {w w' : World} {B : Nat} {rs : List FR} (h : Bds w B rs) (hk : ∀ (r : FR), w.ownsRow B 5 1 r.v r.f.body.length (c8 r.f.body) → w'.ownsRow B 5 1 r.v r.f.body.length (c8 r.f.body)) : Bds w' B rs := fun r hr => hk r (h r hr)

/-- 'append(l, f)' of one frame to a row of the call's own -/
theorem app_frame {P : Program} (w : World) {ops : Array Oper} {rest : List Oper} {o : Oper} {a : Act} {Q : Exit → Act → World → Prop} (hgd : o.guard = none) (s x : Operand) (t : TypeId)
    (ho : o.op = .call { callee := .builtin .append, args := #[s, x], argTypes := #[t, t] })
    (B : Nat) (e : TypeId) (i : TypeInfo) (z : Value) (ht : P.underlying t = some (.slice e)) (hi : P.info? e = some i) (hz : i.zero = some z)
    (hsize : i.size = 2) (hby : i.bytes = 32) (hzs : z.cells.size = 2)
    (v : Value) (n : Nat) (xs : List Value) (hs : a.eval s = v) (hown : w.ownsRow B e 2 v n xs) (u1 u2 : Value) (hx : a.eval x = .slice (some ⟨w.heap.size, 0, none⟩) 1 1) (h1 : u1.oneCell' = true) (h2 : u2.oneCell' = true)
    (hn : n ≤ 1099511627776) (hB : B ≤ w.heap.size)
    (h : ∀ v' w', w'.ownsRow B e 2 v' (n + 1) (xs ++ [u1, u2]) → (w.alloc (.cells #[u1, u2] e)).grownBy w' v.ownBlock → wpList P ops Q rest (a.put o.dst v') w') : wpList P ops Q (o :: rest) a (w.alloc (.cells #[u1, u2] e)) := by
  refine wpList_append_own_at _ hgd s x t ho B e i z 2 32 ht hi hz hsize hby hzs (by decide) v n xs hs (hown.alloc _) ⟨w.heap.size, 0, none⟩ 1 1 [u1, u2] hx rfl (fun j u hu => ?_) (by simp [h1, h2]) (by unfold maxLen; omega) (by omega) (by simp; omega) ?_
  · rw [addr_add, Nat.zero_add, (Whole.new w e #[u1, u2]).cell j]
    simpa using hu
  · intro v' w' hown' hg _ _
    exact h v' w' hown' hg

theorem scn_step {zs : List Int} {n : Nat} (h : (mea (zs.drop n)).2 = 0) : scn (zs.drop n) = (frd (zs.drop n) :: (scn (zs.drop (n + (mea (zs.drop n)).1))).1, (mea (zs.drop n)).1 + (scn (zs.drop (n + (mea (zs.drop n)).1))).2.1, (scn (zs.drop (n + (mea (zs.drop n)).1))).2.2) := by
  conv => lhs; rw [scn_more h]
  rw [List.drop_drop, show frd (zs.drop n) = fra (zs.drop n) from if_pos h]

/-- where a scan stands -/
structure ScanAt (zs : List Int) (w wr : World) (F N : Nat) (rs : List FR) (v : Value) (A2 : Option Addr) (c2 : Nat) : Prop where
  le : N ≤ zs.length
  told : scn zs = (rs.map FR.f ++ (scn (zs.drop N)).1, N + (scn (zs.drop N)).2.1, (scn (zs.drop N)).2.2)
  few : rs.length ≤ N
  low : w.heap.size ≤ F
  var : Whole wr F 83 #[.int .u8 (frd (zs.drop N)).k, .slice A2 (frd (zs.drop N)).body.length c2]
  body : wr.ownsRow w.heap.size 5 1 (.slice A2 (frd (zs.drop N)).body.length c2) (frd (zs.drop N)).body.length (c8 (frd (zs.drop N)).body)
  row : wr.ownsRow (F + 1) 83 2 v rs.length (cF rs)
  bds : Bds wr w.heap.size rs
  below : Below w.heap.size w wr

theorem row_shape {w : World} {B k n : Nat} {e : TypeId} {v : Value} {xs : List Value} (h : w.ownsRow B e k v n xs) : ∃ A c, v = .slice A n c := by
  rcases h.2 with ⟨rfl, rfl⟩ | ⟨g, cap, cur, rfl, _⟩
  · exact ⟨none, 0, rfl⟩
  · exact ⟨_, cap, rfl⟩
theorem own_base {w : World} {B B' k n : Nat} {e : TypeId} {v : Value} {xs : List Value} (h : w.ownsRow B e k v n xs) (hB : B' ≤ B) : w.ownsRow B' e k v n xs := own_other h hB (fun _ _ => rfl)

theorem own_block_ne {w : World} {B k n g : Nat} {e : TypeId} {v : Value} {xs : List Value} (h : w.ownsRow B e k v n xs) (hg : g < B) : some g ≠ v.ownBlock := by
  intro hb
  obtain ⟨h1, _⟩ := h.lt g hb.symm
  omega

/-- all that one more frame does to what a scan keeps -/
theorem ScanAt.next {zs : List Int} {w wr w' w2 : World} {F N S : Nat} {rs : List FR} {v v' : Value} {A2 A5 : Option Addr} {c2 c5 : Nat} (h : ScanAt zs w wr F N rs v A2 c2) (hF : F < wr.heap.size)
    (hE : (mea (zs.drop N)).2 = 0) (hS : (mea (zs.drop N)).1 = S)
    (hrow : w'.ownsRow (F + 1) 83 2 v' (rs.length + 1) (cF rs ++ [.int .u8 (frd (zs.drop N)).k, .slice A2 (frd (zs.drop N)).body.length c2]))
    (hg : (wr.alloc (.cells #[.int .u8 (frd (zs.drop N)).k, .slice A2 (frd (zs.drop N)).body.length c2] 83)).grownBy w' v.ownBlock)
    (hown : w2.ownsRow w'.heap.size 5 1 (.slice A5 (frd (zs.drop (N + S))).body.length c5) (frd (zs.drop (N + S))).body.length (c8 (frd (zs.drop (N + S))).body)) (hb : Below w'.heap.size w' w2) :
    ScanAt zs w ((w2.setCell ⟨F, 0, none⟩ (.int .u8 (frd (zs.drop (N + S))).k)).setCell ⟨F, 1, none⟩ (.slice A5 (frd (zs.drop (N + S))).body.length c5)) F (N + S) (rs ++ [⟨frd (zs.drop N), A2, c2⟩]) v' A5 c5 ∧
    Whole w2 F 83 #[.int .u8 (frd (zs.drop N)).k, .slice A2 (frd (zs.drop N)).body.length c2] := by
  subst hS
  obtain ⟨h12, hSl⟩ := mea_le hE
  rw [List.length_drop] at hSl
  have hst := scn_step hE
  have hw1 := h.below.size
  have hbA : Below w.heap.size w (wr.alloc (.cells #[.int .u8 (frd (zs.drop N)).k, .slice A2 (frd (zs.drop N)).body.length c2] 83)) := h.below.alloc hw1 _
  have hrA := h.row.alloc (.cells #[.int .u8 (frd (zs.drop N)).k, .slice A2 (frd (zs.drop N)).body.length c2] 83)
  have hvA := h.var.alloc (.cells #[.int .u8 (frd (zs.drop N)).k, .slice A2 (frd (zs.drop N)).body.length c2] 83)
  have hv' := hvA.grown hg (own_block_ne hrA (by omega))
  have hv2 := hv'.go hb
  have hb' : Below w.heap.size w w' := hbA.grown hg hbA.size (fun q hq => by have := (hrA.lt q hq).1; have := h.low; omega)
  have hb2 := belowGo hb' (Nat.le_refl _) hb
  have keep : ∀ (u : Value) (n : Nat) (xs : List Value), wr.ownsRow w.heap.size 5 1 u n xs → ∀ x y, ((w2.setCell ⟨F, 0, none⟩ x).setCell ⟨F, 1, none⟩ y).ownsRow w.heap.size 5 1 u n xs := fun u n xs hu x y =>
    own_put (by decide) (own_below (own_far (by decide) (hu.alloc _) hrA hg) hb) hv2
  refine ⟨⟨by omega, ?_, by have := h.few; simp; omega, h.low, ?_, ?_, ?_, ?_, ?_⟩, hv2⟩
  · rw [h.told, hst]
    simp [Nat.add_assoc]
  · simpa using (hv2.put 0 (.int .u8 (frd (zs.drop (N + (mea (zs.drop N)).1))).k)).put 1 (.slice A5 (frd (zs.drop (N + (mea (zs.drop N)).1))).body.length c5)
  · exact own_put (by decide) (own_base hown hb'.size) hv2
  · have h2 := own_below hrow hb
    rw [List.length_append, cF_append]
    exact own_other h2 (Nat.le_refl _) (fun g hg => far_two w2 (by omega) _ _)
  · intro r hr
    rcases List.mem_append.1 hr with hr | hr
    · exact keep _ _ _ (h.bds r hr) _ _
    · simp only [List.mem_cons, List.not_mem_nil, or_false] at hr
      subst hr
      exact keep _ _ _ h.body _ _
  · exact (hb2.setCell (p := ⟨F, 0, none⟩) h.low _).setCell (p := ⟨F, 1, none⟩) h.low _

end Go.Proofs.YtbobakfcmkaijaaGreatDoor
end

section
/- The walk over the frame's Scan. -/
namespace Go.Proofs.YtbobakfcmkaijaaGreatDoor
open Go.RowKit
set_option linter.unusedVariables false

set_option maxRecDepth 10000 in
set_option maxHeartbeats 3200000 in
theorem fscan_any (A : Option Addr) (zs : List Int) (c : Nat) (w : World) (hl : zs.length ≤ 1099511627776) (hc : zs.length ≤ c) (hz : Byt zs) (hr : Rds w w.heap.size A (c8 zs)) :
    Calls Tryz.prog 162 #[.slice A zs.length c] w fun e w' => ∃ A' c' rs, e = .returned (.tuple #[.slice A' rs.length c', .int .i64 ((scn zs).2.1 : Nat), .int .i64 ((scn zs).2.2 : Nat)]) ∧
      rs.map FR.f = (scn zs).1 ∧ w'.ownsRow w.heap.size 83 2 (.slice A' rs.length c') rs.length (cF rs) ∧ Bds w' w.heap.size rs ∧ Below w.heap.size w w' := by
  obtain ⟨i0, hi, hz0, hz1, hz2⟩ := info_parts info28
  have hR0 := fread_any A zs c w (by omega) hc hz hr
  have HZ := Lib.hid hz
  clear hz
  go_enter Tryz.func162, Tryz.ntmps162
  go_wp2_with fail
  refine hR0.mono ?_
  rintro e w1 ⟨A1, c1, rfl, hown1, hb1⟩
  go_wp2
  go_loopw [2, 3, 4, 6] (fun l n e size wr => ∃ (N : Nat) (rs : List FR) (v : Value) (A2 : Option Addr) (c2 : Nat), v = l ∧ n = .int .i64 N ∧ e = .int .i64 ((mea (zs.drop N)).2 : Nat) ∧ size = .int .i64 ((mea (zs.drop N)).1 : Nat) ∧
      ScanAt zs w wr w1.heap.size N rs v A2 c2) (fun _ n _ _ _ => zs.length - (intOf n).toNat)
  case atStart =>
    refine ⟨0, [], .slice none 0 0, A1, c1, rfl, rfl, rfl, rfl, ?_⟩
    exact ⟨by omega, by simp, by simp, hb1.size, Whole.new w1 _ _, own_below hown1 ((Below.refl _ _).alloc (Nat.le_refl _) _), ⟨rfl, .inl ⟨rfl, rfl⟩⟩, (fun r hr => by cases hr), hb1.alloc hb1.size _⟩
  case round =>
    obtain ⟨N, rs, v, A2, c2, rfl, rfl, rfl, rfl, hs⟩ := hrel
    have HS := Lib.hid hs
    have hv0 := hs.var.cell 0
    have hv1 := hs.var.cell 1
    have hle := hs.le
    clear hs hR0 hown1 hb1
    by_cases hE : (mea (zs.drop N)).2 = 0
    · obtain ⟨h12, hSl⟩ := mea_le hE
      rw [List.length_drop] at hSl
      have hst := scn_step hE
      have hp : 0 < zs.length := by omega
      obtain ⟨ad, rfl, _, _⟩ := hr.at_ (c8_get hp)
      have HST := Lib.hid hst
      rw [hE]
      generalize hSg : (mea (zs.drop N)).1 = S at *
      have hf := HS.out.few
      have hrow := HS.out.row
      have hBs : w1.heap.size + 1 ≤ wr.heap.size := HS.out.var.lt
      have hq1 : 0 ≤ (N : Int) + (S : Int) ∧ (N : Int) + (S : Int) ≤ (zs.length : Int) := by omega
      have hq2 : ((N : Int) + (S : Int)).toNat = N + S := by omega
      have hq3 : IntKind.i64.wrap ((N : Int) + (S : Int)) = (N : Int) + (S : Int) := IntWalk.i64_in _ (by omega)
      generalize hfr : frd (zs.drop N) = fr at *
      clear hst
      by_cases hcN : c = N + S
      · have hd := hr.drop (N + S) c (by rw [c8_length]; exact hc)
        rw [if_pos hcN, ← c8_drop] at hd
        have hrd := hd
        have hcN' : N + S = c := hcN.symm
        clear hcN
        have hR := fun w' (hr' : Rds w' w'.heap.size (some ad) (c8 (zs.drop (N + S)))) => fread_at (some ad) (zs.drop (N + S)) 0 0 w' (by rw [List.length_drop]; omega) (by omega) (by omega) (HZ.out.drop _) hr'
        clear hd
        go_wp2_with (at_builtin; go_loud (refine app_frame wr rfl (.tmp 23) (.tmp 25) 194 rfl (w1.heap.size + 1) 83 i0 (.agg #[.int .u8 0, .slice none 0 0]) Tryz.underlying194 hi hz0 hz1 hz2 rfl v rs.length (cF rs) rfl hrow (.int .u8 fr.k) (.slice A2 fr.body.length c2) rfl rfl rfl (by omega) hBs ?_))
        intro v' w' hown' hg'
        have hbN : Below w.heap.size w w' := (HS.out.below.alloc HS.out.below.size _).grown hg' (HS.out.below.alloc HS.out.below.size _).size (fun q hq => by have := ((hrow.alloc (.cells #[.int .u8 fr.k, .slice A2 fr.body.length c2] 83)).lt q hq).1; have := HS.out.low; omega)
        go_wp2_with fail
        refine (hR w' ((hrd.below hbN).more hbN.size)).mono ?_
        rintro e w2 ⟨A5, c5, rfl, hown5, hb5⟩
        subst hfr
        obtain ⟨hnx, hvw⟩ := ScanAt.next HS.out HS.out.var.lt hE hSg hown' hg' hown5 hb5
        have hf0 := hvw.frozen 0
        have hf1 := hvw.frozen 1
        have hx0 := hvw.cell 0
        have hx1 := hvw.cell 1
        have HNX := Lib.hid hnx
        clear hnx hvw hown5 hb5 hown' hg' hbN
        go_wp2
        go_roundw
        case rel =>
          have hnx := HNX.out
          rw [hcN'] at hnx
          exact ⟨c, _, v', A5, c5, rfl, by rw [← hcN']; go_num, rfl, rfl, hnx⟩
        case measure => simp [intOf]; omega
      · have hd := hr.drop (N + S) c (by rw [c8_length]; exact hc)
        rw [if_neg hcN, ← c8_drop] at hd
        have hrd : Rds w w.heap.size (some (ad.add (N + S))) (c8 (zs.drop (N + S))) := hd
        have hR := fun w' (hr' : Rds w' w'.heap.size (some (ad.add (N + S))) (c8 (zs.drop (N + S)))) => fread_at (some (ad.add (N + S))) (zs.drop (N + S)) (zs.length - (N + S)) (c - (N + S)) w' (by rw [List.length_drop]) (by omega) (by omega) (HZ.out.drop _) hr'
        clear hd
        go_wp2_with (at_builtin; go_loud (refine app_frame wr rfl (.tmp 23) (.tmp 25) 194 rfl (w1.heap.size + 1) 83 i0 (.agg #[.int .u8 0, .slice none 0 0]) Tryz.underlying194 hi hz0 hz1 hz2 rfl v rs.length (cF rs) rfl hrow (.int .u8 fr.k) (.slice A2 fr.body.length c2) rfl rfl rfl (by omega) hBs ?_))
        intro v' w' hown' hg'
        have hbN : Below w.heap.size w w' := (HS.out.below.alloc HS.out.below.size _).grown hg' (HS.out.below.alloc HS.out.below.size _).size (fun q hq => by have := ((hrow.alloc (.cells #[.int .u8 fr.k, .slice A2 fr.body.length c2] 83)).lt q hq).1; have := HS.out.low; omega)
        go_wp2_with fail
        refine (hR w' ((hrd.below hbN).more hbN.size)).mono ?_
        rintro e w2 ⟨A5, c5, rfl, hown5, hb5⟩
        subst hfr
        obtain ⟨hnx, hvw⟩ := ScanAt.next HS.out HS.out.var.lt hE hSg hown' hg' hown5 hb5
        have hf0 := hvw.frozen 0
        have hf1 := hvw.frozen 1
        have hx0 := hvw.cell 0
        have hx1 := hvw.cell 1
        have HNX := Lib.hid hnx
        clear hnx hvw hown5 hb5 hown' hg' hbN
        go_wp2
        go_roundw
        case rel => exact ⟨N + S, _, v', A5, c5, rfl, by go_num, rfl, rfl, HNX.out⟩
        case measure => simp [intOf]; omega
    · have hne : (((mea (zs.drop N)).2 : Nat) : Int) ≠ 0 := by omega
      have hend := scn_end hE
      have htold := HS.out.told
      rw [hend, List.append_nil, Nat.add_zero, List.length_drop] at htold
      obtain ⟨A', c', rfl⟩ := row_shape HS.out.row
      have hrow := own_base HS.out.row (Nat.le_trans HS.out.low (Nat.le_succ _))
      have hbd := HS.out.bds
      have hbl := HS.out.below
      have HT := Lib.hid htold
      generalize hEg : (mea (zs.drop N)).2 = E at *
      clear htold hend
      by_cases hN : N = zs.length
      · have hNi : (N : Int) = (zs.length : Int) := by omega
        have ht := HT.out
        rw [if_pos (by omega)] at ht
        have HT2 := Lib.hid ht
        clear ht HT
        go_wp2
        go_returns
        refine ⟨A', c', rs, ?_, by rw [HT2.out], hrow, hbd, hbl⟩
        rw [HT2.out, hN]
        rfl
      · have hNi : ¬ (N : Int) = (zs.length : Int) := by omega
        have ht := HT.out
        rw [if_neg (by omega)] at ht
        have HT2 := Lib.hid ht
        clear ht HT
        go_wp2
        go_returns
        refine ⟨A', c', rs, ?_, by rw [HT2.out], hrow, hbd, hbl⟩
        rw [HT2.out]
        rfl

end Go.Proofs.YtbobakfcmkaijaaGreatDoor
end
