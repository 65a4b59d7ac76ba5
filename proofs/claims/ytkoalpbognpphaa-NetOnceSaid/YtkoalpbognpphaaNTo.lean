/- The numbers of the letters to a node. -/
import Derived.Test.YtkoalpbognpphaaNIdx
namespace Go.Proofs.Ytkoalpbognpphaa
open Go.RowKit Go.Maps
set_option linter.unusedVariables false

set_option maxRecDepth 100000 in
theorem idxNil_any (w : World) (fv : Value) : Calls Try.prog 47 #[.slice none 0 0, fv] w fun e w' => e = .returned (.int .i64 (-1)) ∧ w' = w := by
  go_enter Try.func47, Try.ntmps47
  go_wp2
  go_loopw [8] (fun vi wr => vi = .int .i64 0 ∧ wr = w) (fun vi _ => 0)
  case atStart => exact ⟨rfl, rfl⟩
  case round =>
    obtain ⟨rfl, rfl⟩ := hrel
    go_wp2
    go_returns
    exact ⟨rfl, rfl⟩
set_option maxRecDepth 100000 in
theorem delNil_any (w : World) (fv : Value) : Calls Try.prog 43 #[.slice none 0 0, fv] w fun e w' => e = .returned (.slice none 0 0) ∧ w' = w := by
  go_enter Try.func43, Try.ntmps43
  go_wp2_with (go_at_call 47; refine (idxNil_any _ _).mono ?_; rintro e w' ⟨rfl, rfl⟩)
  go_ret
  exact ⟨rfl, rfl⟩

/-! ### the numbers as a list -/
/-- the letters to a node -/
def toN (es : List (Le × Pl)) (node : Int) : List (Le × Pl) := es.filter fun p => decide (p.1.to_ = node)
theorem pick_mem : ∀ {es : List (Le × Pl)}, (es.map (·.1)).Pairwise (fun x y : Le => x.num < y.num) → ∀ {p : Le × Pl}, p ∈ es → pick es p.1.num = some p
  | [], _, _, h => by cases h
  | q :: es, hr, p, h => by
    unfold pick
    rw [List.find?_cons]
    rcases List.mem_cons.1 h with rfl | h
    · simp
    · have h1 : q.1.num < p.1.num := (List.pairwise_cons.1 hr).1 p.1 (List.mem_map_of_mem h)
      rw [decide_eq_false (by omega)]
      exact pick_mem (List.pairwise_cons.1 hr).2 h
theorem known_nums {w : World} {S : Nat → Prop} {b mb : Nat} {es : List (Le × Pl)} {sent : Nat} (h : Nt w S b mb es sent) : Known es (nums es) := fun x hx => by
  obtain ⟨p, hp, rfl⟩ := List.mem_map.1 hx
  exact ⟨h.ok.wf p.1 (List.mem_map_of_mem hp), p, pick_mem h.ok.rise hp⟩
theorem keep_nums {es : List (Le × Pl)} (hr : (es.map (·.1)).Pairwise (fun x y : Le => x.num < y.num)) (node : Int) : keepN es node (nums es) = nums (toN es node) := by
  unfold keepN nums toN
  rw [List.filter_map]
  congr 1
  refine List.filter_congr fun p hp => ?_
  show (!pdn es node p.1.num) = _
  unfold pdn toOf
  rw [pick_mem hr hp]
  simp

set_option maxHeartbeats 4000000 in
set_option maxRecDepth 100000 in
theorem those_any {w : World} {S : Nat → Prop} {b mb : Nat} {es : List (Le × Pl)} {sent : Nat} (h : Nt w S b mb es sent) (node : Int) :
    Calls Try.prog 37 #[.pointer (some ⟨b, 0, none⟩), .func (.func 38) #[.int .i64 node] #[]] w fun e w' => ∃ v m, e = .returned v ∧ m = (toN es node).length ∧ w'.ownsRow w.heap.size 25 1 v m (cU (nums (toN es node))) ∧ Below w.heap.size w w' := by
  have hB : Below w.heap.size w ((w.alloc (.cells #[.pointer (some ⟨b, 0, none⟩)] 23)).alloc (.cells #[.func (.func 38) #[.int .i64 node] #[]] 66)) := ((Below.refl _ _).alloc (Nat.le_refl _) _).alloc (by simp) _
  have hx1 : Whole ((w.alloc (.cells #[.pointer (some ⟨b, 0, none⟩)] 23)).alloc (.cells #[.func (.func 38) #[.int .i64 node] #[]] 66)) w.heap.size 23 #[.pointer (some ⟨b, 0, none⟩)] := (Whole.new w _ _).alloc _
  have hx2 := Whole.new (w.alloc (.cells #[.pointer (some ⟨b, 0, none⟩)] 23)) 66 #[.func (.func 38) #[.int .i64 node] #[]]
  rw [World.size_alloc] at hx2
  have hpd : Pd ((w.alloc (.cells #[.pointer (some ⟨b, 0, none⟩)] 23)).alloc (.cells #[.func (.func 38) #[.int .i64 node] #[]] 66)) S b mb es sent (w.heap.size + 1) w.heap.size node := ⟨h.go hB, hx2, hx1⟩
  have hkn := keep_nums h.ok.rise node
  have hkw := known_nums h
  have HPD := Lib.hid hpd
  have HB := Lib.hid hB
  have HKN := Lib.hid hkn
  have HKW := Lib.hid hkw
  have HLT := Lib.hid h.lt
  have hlen : es.length ≤ 100000 := by have := h.ok.most; simp at this; omega
  clear h hB hx1 hx2 hpd hkn hkw
  go_enter Try.func37, Try.ntmps37
  go_upto_region 1 with fail
  generalize (w.alloc (.cells #[.pointer (some ⟨b, 0, none⟩)] 23)).alloc (.cells #[.func (.func 38) #[.int .i64 node] #[]] 66) = w1 at HPD HB ⊢
  have c1 : w1.cell? ⟨w.heap.size, 0, none⟩ = some (.pointer (some ⟨b, 0, none⟩)) := by simpa using HPD.out.box.cell 0
  go_wp2_with fail
  go_at_call 42
  refine (rising_any HPD.out.net).mono ?_
  rintro e w2 ⟨v, rfl, hrow, hb2⟩
  have HP2 := Lib.hid (HPD.out.go hb2)
  have HB2 := Lib.hid (HB.out.trans (hb2.mono HB.out.size))
  have hl : (nums es).length = es.length := by simp [nums]
  have hsz := HB.out.size
  have hbx := HPD.out.ask.lt
  rcases hrow.2 with ⟨rfl, h0⟩ | ⟨g, cap, cur, rfl, hBg, hg, h1, h2, h3, h4⟩
  · have he : es = [] := List.eq_nil_of_length_eq_zero h0
    have HE := Lib.hid he
    clear hb2 he h0 hrow
    go_wp2_with fail
    go_at_call 43
    refine (delNil_any _ _).mono ?_
    rintro e w3 ⟨rfl, hw⟩
    rw [hw]
    go_wp2
    go_ret
    refine ⟨_, 0, rfl, by rw [HE.out]; rfl, by rw [HE.out]; exact World.ownsRow_nil _ _ _ _, HB2.out⟩
  · have hsr : SR w2 g cap es.length w2 (nums es).toArray := by
      refine ⟨Only.refl w2 g, by simp [hl], cur, hg, by omega, h1, fun j hj => ?_⟩
      have e : (cur.toList.take (es.length * 1))[j]? = (cU (nums es))[j]? := by rw [h4]
      rw [List.getElem?_take_of_lt (by omega), Array.getElem?_toList] at e
      rw [e]
      have : j < (nums es).length := by rw [hl]; exact hj
      simp [cU, this]
    have ct := delF_any (B := w.heap.size) hl hlen h1 h2 HKW.out hsr HP2.out (by omega) (fun e => by have := HLT.out g e; omega) (by omega) (by omega)
    have CT := Lib.hid ct
    clear hb2 hrow ct hsr
    go_wp2_with fail
    go_at_call 43
    refine CT.out.mono ?_
    rintro e w3 ⟨m, rfl, hm, hrow, hp3, hg3⟩
    rw [HKN.out] at hm hrow
    have HROW := Lib.hid hrow
    have HM := Lib.hid hm
    have HG3 := Lib.hid hg3
    clear hm hrow hp3 hg3
    go_wp2
    go_ret
    exact ⟨_, m, rfl, by rw [HM.out]; simp [nums], HROW.out, HB2.out.grown HG3.out HB2.out.size (fun k e => by cases e; omega)⟩

set_option maxRecDepth 100000 in
theorem to_any {w : World} {S : Nat → Prop} {b mb : Nat} {es : List (Le × Pl)} {sent : Nat} (h : Nt w S b mb es sent) (node : Int) :
    Calls Try.prog 13 #[.pointer (some ⟨b, 0, none⟩), .int .i64 node] w fun e w' => ∃ v m, e = .returned v ∧ m = (toN es node).length ∧ w'.ownsRow w.heap.size 25 1 v m (cU (nums (toN es node))) ∧ Below w.heap.size w w' := by
  have CT := Lib.hid (those_any h node)
  have H := Lib.hid h
  clear h
  go_enter Try.func13, Try.ntmps13
  go_wp2_with fail
  go_at_call 31
  refine (nobodys_any H.out).mono ?_
  rintro e w1 ⟨rfl, hw⟩
  rw [hw]
  clear hw
  go_wp2_with fail
  go_at_call 37
  refine CT.out.mono ?_
  rintro e w2 ⟨v, m, rfl, hm, hrow, hb⟩
  have HM := Lib.hid hm
  have HROW := Lib.hid hrow
  have HB := Lib.hid hb
  clear hm hrow hb
  go_wp2
  go_ret
  exact ⟨v, m, rfl, HM.out, HROW.out, HB.out⟩
end Go.Proofs.Ytkoalpbognpphaa
