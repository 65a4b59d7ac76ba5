/- slices.AppendSeq, Collect, Sorted over the numbers of a map. -/
import Derived.Test.YtkoalpbognpphaaNKeys
import Derived.Test.YtkoalpbognpphaaNSort
namespace Go.Proofs.Ytkoalpbognpphaa
open Go.RowKit Go.Maps
set_option linter.unusedVariables false

attribute [local go_sem] Oper.semAt_some
theorem info64 : (Try.prog.info? 25).map (fun i => (i.zero, i.size, i.bytes)) = some (some (.int .u64 0), 1, 8) := by kernel_rfl

/-- what AppendSeq keeps: the box and what is collected -/
structure Col (w W : World) (B : Nat) (pre : List Int) : Prop where
  box : ∃ v, Boxed W B 36 v ∧ W.ownsRow w.heap.size 25 1 v pre.length (cU pre)
  below : Below w.heap.size w W
theorem Col.from {w : World} {B : Nat} (hB : B = w.heap.size) : OwnFrom (w.heap.size + 1) (fun pre W => Col w W B pre) := by
  intro pre X Y row h hg hr
  refine ⟨?_, ?_⟩
  · have := holdsRow_own (β := List Int) w.heap.size B 36 25 1 List.length cU (fun _ _ => True) pre X Y row (by obtain ⟨v, h1, h2⟩ := h.box; exact ⟨v, h1, h2, trivial⟩) hg (fun r e => (hr r e).2)
    obtain ⟨v, h1, h2, _⟩ := this
    exact ⟨v, h1, h2⟩
  · exact h.below.grown hg h.below.size (fun k e => by have := (hr k e).1; omega)

set_option maxRecDepth 100000 in
set_option maxHeartbeats 2000000 in
theorem appSeq_in (Bm b nn : Nat) (L : List (Int × Value)) (hr : Ris L) (hL : L.length ≤ 100000) (w : World) (hBm : Bm < w.heap.size)
    (hm : w.cell? ⟨Bm, 0, none⟩ = some (.map (some b))) (hown : w.ownsMap Try.prog 25 selfR b nn (asMap L)) :
    CallsIn Fence.wide 4 Try.prog 51 #[.slice none 0 0, .func (.func 50) #[] #[.pointer (some ⟨Bm, 0, none⟩)]] w fun e w' =>
      ∃ (v : Value) (ss : List Int), e = .returned v ∧ ss.Perm (L.map (·.1)) ∧ w'.ownsRow w.heap.size 25 1 v ss.length (cU ss) ∧ Below w.heap.size w w' := by
  obtain ⟨i0, hi, hz0, hz1, hz2⟩ := info_parts info64
  refine callsIn_of_wp_marks Try.func51 rfl trivial ?_ rfl
  simp only [Try.ntmps51, List.size_toArray, List.length_cons, List.length_nil, Nat.reduceAdd, Nat.reduceSub, Array.replicate_succ, Array.replicate_zero, List.push_toArray, List.append_toArray, List.nil_append, List.cons_append]
  gi_wp2
  have hm1 : (w.alloc (.cells #[.slice none 0 0] 36)).cell? ⟨Bm, 0, none⟩ = some (.map (some b)) := (World.cell?_alloc_lt w _ _ hBm).trans hm
  have hown1 := hown.alloc (.cells #[.slice none 0 0] 36)
  have h0 : Col w (w.alloc (.cells #[.slice none 0 0] 36)) w.heap.size [] := ⟨⟨_, Boxed.new w _ _, World.ownsRow_nil _ _ _ _⟩, (Below.refl _ _).alloc (Nat.le_refl _) _⟩
  have hks := (keys_stops 3 (by decide) Bm b nn L hr (w.alloc (.cells #[.slice none 0 0] 36)) (by simp; omega) hm1 hown1)
  refine wpIn_rangeFunc_ownH (F := Fence.wide) (α := Int) rfl (by decide) (gf := 50) (lb := #[.pointer (some ⟨Bm, 0, none⟩)]) rfl trivial (enters_of Try.func50 (by kernel_rfl) rfl)
    (encs := fun x => #[.int .u64 x]) (Kp := KeepsWalks) hks (fun h k => h.trans k)
    (fun W l o o' _ hl ho hw => KeepsWalks.putObj _ hl hw) (Below.refl _ _) (fun _ => rfl)
    (fun pre W => Col w W w.heap.size pre)
    (fun j pre W => False)
    (by simpa using Col.from (w := w) rfl)
    (fun c pre X Y row hs hg hr => hs)
    h0
    (fun x a' W => a' = { tmps := #[.slice none 0 0, .func (.func 50) #[] #[.pointer (some ⟨Bm, 0, none⟩)], .pointer (some ⟨w.heap.size, 0, none⟩), undef, .slice none 0 0, .int .u64 x, .func (.func 50) #[] #[.pointer (some ⟨Bm, 0, none⟩)], .int .u64 x, undef, undef, undef, undef, undef], defers := [] })
    (fun x a' _ X Y row hs hg hr => hs)
    ?assign ?body ?done ?stop
  case assign =>
    intro l pre x W K hi hK
    gi_wp2
    exact hK _ _ (KeepsFrom.refl _ _) (KeepsWalks.refl _) hi rfl
  case body =>
    rintro l pre x a' W hl ⟨r, hrl⟩ hI rfl hlt
    obtain ⟨v, hbx, hrow⟩ := hI.box
    have hbl := hI.below
    have hc := hbx.cell
    have hsz := hbl.size
    gi_wp2_with (first
      | (gi_at_builtin; refine wpListIn_append_own _ rfl _ _ 36 rfl w.heap.size 25 i0 (.int .u64 0) 1 8 Try.underlying36 hi hz0 hz1 hz2 rfl (by decide) _ _ _ rfl (hrow.alloc _) ⟨W.heap.size, 0, none⟩ 1 1 [.int .u64 x] rfl rfl (one_new _ _ _) (by simp [Value.oneCell']) (by unfold maxLen; omega) (by omega) (by simp; omega) ?_; intro v' w3 hown' hg3 hnil3
         obtain ⟨g', cap', rfl⟩ := ownsRow_succ hown'
         obtain ⟨k1, k2, k3, k4, k5⟩ := Boxed.appended hbx (by decide) hrow hsz (Nat.le_refl _) hown' hg3
         have hc3 := k1.cell
         have hf3 := k1.frozen
         go_frame)
      | gi_in)
    refine ⟨k4.from _, ?_, ⟨⟨_, k2, by simpa [cU] using k3⟩, hbl.trans k5⟩⟩
    exact ⟨k4.size, fun k o hk ho => k4.same k o hk (by cases o <;> simp_all [Obj.isWalk, Obj.isCells])⟩
  case done =>
    rintro D xs W hD hxs hI hK
    obtain ⟨v, hbx, hrow⟩ := hI.box
    have hc := hbx.cell
    gi_wp2
    refine ⟨by simp, .inl ⟨_, _, rfl, run_takeDeferred hK, ?_⟩⟩
    have hI2 := (Col.from (w := w) rfl) xs W _ (some D) hI (grownBy_putObj' W D (.deferred none)) (fun r e => by cases e; exact ⟨by simpa using hD, _, hK, rfl⟩)
    refine ⟨_, results_tmp rfl _ _ _, v, xs, rfl, hxs, ?_, hI2.below⟩
    exact ownsRow_putObj hrow _ hK rfl
  case stop =>
    rintro D c pre W _ _ h _
    exact h.elim

theorem collect_any (Bm b nn : Nat) (L : List (Int × Value)) (hr : Ris L) (hL : L.length ≤ 100000) (w : World) (hBm : Bm < w.heap.size)
    (hm : w.cell? ⟨Bm, 0, none⟩ = some (.map (some b))) (hown : w.ownsMap Try.prog 25 selfR b nn (asMap L)) :
    Calls Try.prog 48 #[.func (.func 50) #[] #[.pointer (some ⟨Bm, 0, none⟩)]] w fun e w' =>
      ∃ (v : Value) (ss : List Int), e = .returned v ∧ ss.Perm (L.map (·.1)) ∧ w'.ownsRow w.heap.size 25 1 v ss.length (cU ss) ∧ Below w.heap.size w w' := by
  have ct := callsIn_wide.1 (appSeq_in Bm b nn L hr hL w hBm hm hown)
  have CT := Lib.hid ct
  clear ct hown hm
  go_enter Try.func48, Try.ntmps48
  go_wp2_with (go_at_call 51; refine CT.out.mono ?_; rintro e w' ⟨v, ss, rfl, h1, h2, h3⟩)
  go_returns
  exact ⟨v, ss, rfl, h1, h2, h3⟩
theorem rise_keys {L : List (Int × Value)} (hr : Ris L) {ss : List Int} (h : ss.Perm (L.map (·.1))) : rise ss = L.map (·.1) := by
  have tr : ∀ a b c : Int, decide (a ≤ b) = true → decide (b ≤ c) = true → decide (a ≤ c) = true := fun a b c h1 h2 => by simp only [decide_eq_true_eq] at *; omega
  have ttl : ∀ a b : Int, (decide (a ≤ b) || decide (b ≤ a)) = true := fun a b => by simp only [Bool.or_eq_true, decide_eq_true_eq]; omega
  refine List.Perm.eq_of_pairwise (le := fun a b => decide (a ≤ b) = true) (fun a b _ _ h1 h2 => ?_) (List.pairwise_mergeSort tr ttl ss) ?_ ((rise_perm ss).trans h)
  · simp only [decide_eq_true_eq] at h1 h2
    omega
  · refine List.pairwise_map.2 (hr.rise.imp ?_)
    intro p q hpq
    simp only [decide_eq_true_eq]
    omega
theorem sorted_any (Bm b nn : Nat) (L : List (Int × Value)) (hr : Ris L) (hL : L.length ≤ 100000) (w : World) (hBm : Bm < w.heap.size)
    (hm : w.cell? ⟨Bm, 0, none⟩ = some (.map (some b))) (hown : w.ownsMap Try.prog 25 selfR b nn (asMap L)) :
    Calls Try.prog 45 #[.func (.func 50) #[] #[.pointer (some ⟨Bm, 0, none⟩)]] w fun e w' =>
      ∃ v, e = .returned v ∧ w'.ownsRow w.heap.size 25 1 v L.length (cU (L.map (·.1))) ∧ Below w.heap.size w w' := by
  have CT := Lib.hid (collect_any Bm b nn L hr hL w hBm hm hown)
  clear hown hm
  go_enter Try.func45, Try.ntmps45
  go_wp2_with fail
  go_at_call 48
  refine CT.out.mono ?_
  rintro e w1 ⟨v, ss, rfl, h1, h2, h3⟩
  have hl : ss.length = L.length := by rw [h1.length_eq, List.length_map]
  rw [hl] at h2
  have H2 := Lib.hid h2
  have H3 := Lib.hid h3
  clear h2 h3
  go_wp2_with fail
  go_at_call 49
  refine (sort_any hl H2.out (by omega)).mono ?_
  rintro e w2 ⟨rfl, h4, h5⟩
  have H4 := Lib.hid h4
  have H5 := Lib.hid h5
  clear h4 h5
  go_wp2
  go_returns
  refine ⟨v, rfl, by rw [← rise_keys hr h1]; exact H4.out, H3.out.grown H5.out H3.out.size (fun k e => (H2.out.lt k e).1)⟩
end Go.Proofs.Ytkoalpbognpphaa
