/- All letters to a node are lost. -/
import Derived.Test.YtkoalpbognpphaaNTo
namespace Go.Proofs.Ytkoalpbognpphaa
open Go.RowKit Go.Maps
set_option linter.unusedVariables false

/-- the letters to other nodes -/
def awayN (es : List (Le × Pl)) (node : Int) : List (Le × Pl) := es.filter fun p => !decide (p.1.to_ = node)
theorem drop_all : ∀ (zs : List Int) (es : List (Le × Pl)), zs.foldl drop es = es.filter (fun p => !decide (p.1.num ∈ zs))
  | [], es => (List.filter_eq_self.2 (fun p _ => by simp)).symm
  | z :: zs, es => by
    rw [List.foldl_cons, drop_all zs]
    unfold drop
    rw [List.filter_filter]
    refine List.filter_congr fun p _ => ?_
    simp only [List.mem_cons]
    by_cases h1 : p.1.num = z <;> by_cases h2 : p.1.num ∈ zs <;> simp [h1, h2]
theorem drop_to {es : List (Le × Pl)} (hr : (es.map (·.1)).Pairwise (fun x y : Le => x.num < y.num)) (node : Int) : (nums (toN es node)).foldl drop es = awayN es node := by
  rw [drop_all]
  unfold awayN
  refine List.filter_congr fun p hp => ?_
  congr 1
  refine decide_eq_decide.2 ⟨fun h => ?_, fun h => ?_⟩
  · obtain ⟨q, hq, e⟩ := List.mem_map.1 h
    obtain ⟨hq1, hq2⟩ := List.mem_filter.1 hq
    have h1 := pick_mem hr hq1
    have h2 := pick_mem hr hp
    have e' : q.1.num = p.1.num := e
    rw [e', h2] at h1
    cases h1
    exact of_decide_eq_true hq2
  · exact List.mem_map.2 ⟨p, List.mem_filter.2 ⟨hp, decide_eq_true h⟩, rfl⟩
theorem foldl_take (zs : List Int) (es : List (Le × Pl)) {k : Nat} (hk : k < zs.length) : (zs.take (k + 1)).foldl drop es = drop ((zs.take k).foldl drop es) zs[k] := by
  rw [List.take_add_one, List.getElem?_eq_getElem hk, List.foldl_append]
  rfl

set_option maxHeartbeats 4000000 in
set_option maxRecDepth 100000 in
theorem clear_any {w : World} {S : Nat → Prop} {b mb : Nat} {es : List (Le × Pl)} {sent : Nat} (h : Nt w S b mb es sent) (node : Int) :
    Calls Try.prog 23 #[.pointer (some ⟨b, 0, none⟩), .int .i64 node] w fun e w' => e = .returned (.tuple #[]) ∧ Nt w' S b mb (awayN es node) sent ∧ Outs (fun i => i = b ∨ i = mb) w w' := by
  have hmlt := h.map.lt
  have hwf : ∀ x ∈ nums (toN es node), 0 ≤ x ∧ x ≤ 18446744073709551615 := fun x hx => by
    obtain ⟨p, hp, rfl⟩ := List.mem_map.1 hx
    exact h.ok.wf p.1 (List.mem_map_of_mem (List.mem_filter.1 hp).1)
  have hfin := drop_to h.ok.rise node
  obtain ⟨zs, hzs⟩ : ∃ zs, zs = nums (toN es node) := ⟨_, rfl⟩
  have hlz : (toN es node).length = zs.length := by rw [hzs]; simp [nums]
  have hmost : zs.length ≤ 100000 := by
    have h1 := h.ok.most
    have h2 : (toN es node).length ≤ es.length := List.length_filter_le ..
    simp at h1
    omega
  have ct := to_any h node
  rw [← hzs, hlz] at ct
  rw [← hzs] at hwf hfin
  have CT := Lib.hid ct
  have H := Lib.hid h
  have HWF := Lib.hid hwf
  have HFIN := Lib.hid hfin
  clear ct h hwf hfin hzs hlz
  go_enter Try.func23, Try.ntmps23
  go_wp2_with fail
  go_at_call 13
  refine CT.out.mono ?_
  rintro e w1 ⟨v, m, rfl, hm, hrow, hb1⟩
  subst hm
  have hn1 := H.out.go hb1
  obtain ⟨n, hn⟩ : ∃ n, n = zs.length := ⟨_, rfl⟩
  rw [← hn] at hrow hmost
  have hrd : ∃ A c, v = .slice A n c ∧ Rds w1 w1.heap.size A (cU zs) ∧ ∀ ad, A = some ad → w.heap.size ≤ ad.block := by
    rcases hrow.2 with ⟨rfl, h0⟩ | ⟨g, cap, cur, rfl, hBg, hg, h1, h2, h3, h4⟩
    · exact ⟨none, 0, by rw [h0], by rw [List.eq_nil_of_length_eq_zero (hn.symm.trans h0)]; exact Rds.nil_, fun ad e => by cases e⟩
    · exact ⟨_, cap, rfl, Rds.ofOwn hrow, fun ad e => by cases e; exact hBg⟩
  obtain ⟨A, c, rfl, hrd, hA⟩ := hrd
  have HRD := Lib.hid hrd
  have HN1 := Lib.hid hn1
  have HB1 := Lib.hid hb1
  have HN := Lib.hid hn
  have HAA := Lib.hid hA
  clear hrow hrd hn1 hb1 hn hA
  go_wp2
  go_loopw [10] (fun vi wr => ∃ k : Nat, vi = .int .i64 k ∧ k ≤ n ∧ Nt wr S b mb ((zs.take k).foldl drop es) sent ∧ Outs (fun i => i = mb) w1 wr) (fun vi _ => n - (intOf vi).toNat)
  case atStart => exact ⟨0, rfl, Nat.zero_le _, HN1.out, Outs.refl _ _⟩
  case round =>
    obtain ⟨k, rfl, hk, hnt, ho⟩ := hrel
    have HNT := Lib.hid hnt
    have HO := Lib.hid ho
    by_cases hlt : k < n
    · have hkz : k < zs.length := by have := HN.out; omega
      obtain ⟨ad, hAe, hadl, hcell0⟩ := HRD.out.at_ (k := k) (u := .int .u64 zs[k]) (by simp [cU, hkz])
      have hcell : wr.cell? (ad.add k) = some (.int .u64 zs[k]) := by
        rw [ho.cell (p := ad.add k) (by rw [blk_add]; exact hadl) (by rw [blk_add]; have := HAA.out ad hAe; omega)]
        exact hcell0
      have hft := foldl_take zs es hkz
      have hxr := HWF.out zs[k] (List.getElem_mem _)
      generalize zs[k] = x at hcell hft hxr
      have HFT := Lib.hid hft
      have hc2 : wr.cell? ⟨b, 2, none⟩ = some (.map (some mb)) := by simpa using hnt.blk.cell 2
      have hm2 := hnt.map
      clear hnt ho hcell0 hft
      subst hAe
      go_wp2_with (at_delete; refine wpList_delete_own _ rfl _ _ 55 25 rfl 32 keyed64 Try.underlying55 selfR mb sent (asMap (ents ((zs.take k).foldl drop es))) rfl hm2 _ _ rfl (key_u64 hxr) ?_; intro w3 hm3 ht3; go_frame)
      obtain ⟨hn3, ho3⟩ := HNT.out.dropped hm3 ht3
      rw [← HFT.out] at hn3
      go_roundw
      case rel => exact ⟨k + 1, by go_num, by omega, hn3, HO.out.same ho3⟩
      case measure => first | (simp [intOf]; done) | (simp [intOf]; omega)
    · obtain rfl : k = n := by omega
      clear hnt ho
      go_wp2
      go_end0
      refine ⟨rfl, ?_, (Outs.of HB1.out).same (HO.out.mono (fun i e => .inr e))⟩
      have := HNT.out
      rwa [List.take_of_length_le (by have := HN.out; omega), HFIN.out] at this
end Go.Proofs.Ytkoalpbognpphaa
