/- The walks over the document's Make and Remove. -/
import Derived.Test.YtnpomiidkdnebaaDRPut
namespace Go.Proofs.Ytnpomiidkdnebaa
open Go.RowKit
set_option linter.unusedVariables false

theorem lst_back (s : ByteArray) : (⟨(lst s).toArray⟩ : ByteArray) = s := by
  apply ByteArray.ext
  simp [lst]

section
variable {S S' : Nat → Prop} {x : Nat} {v : Value} {rs : List RFl} {fz : Int} {D : Dsk} {w : World}

theorem few_len (h : RfAt w S x v rs fz D) (hro : Room D) (hfew : D.files.length ≤ D.steps) : rs.length ≤ 1099511627776 := by
  rw [h.len]
  have := hro.1
  omega

set_option maxHeartbeats 1000000 in
set_option maxRecDepth 5000 in
theorem rmake_any (s : ByteArray) (hs : s.size ≤ 9223372036854775807) (w : World) (h : RfAt w S x v rs fz D) (hok : Okd D) (hro : Room D) (hfew : D.files.length ≤ D.steps) :
    Calls Try.prog 49 #[.pointer (some ⟨x, 0, none⟩), .string s] w fun e w' => e = .returned (.int .i64 (dMake D (lst s)).1) ∧ ∃ S', Rf w' S' x (dMake D (lst s)).2 ∧ Turn S S' w w' := by
  obtain ⟨hk, hp⟩ := rhalf s hs w h hok
  have hb : ∀ q, Below w.heap.size w ((w.alloc (.cells #[.string s] 9)).drewN q) := fun q => bDrewN ((Below.refl _ w).alloc (Nat.le_refl _) _) q
  have hq : ∀ q, RfAt ((w.alloc (.cells #[.string s] 9)).drewN q) S x v rs fz D := fun q => h.go (hb q)
  have hT : ∀ q, Turn S S w ((w.alloc (.cells #[.string s] 9)).drewN q) := fun q => ⟨Outs.of (hb q), fun _ h => .inl h⟩
  by_cases ha : ask D [lst s] = 0
  · rw [ha] at hk
    cases hf : find D.files (lst s) with
    | some f =>
      have e1 : dMake D (lst s) = (7, D) := by unfold dMake; rw [if_neg (by rw [ha]; simp), hf]; rfl
      have e2 : hit D.files (lst s) = true := by unfold hit; rw [hf]; rfl
      rw [e1]
      rw [e2] at hp
      generalize pos D.files (lst s) = k at *
      clear e1 e2 h hf
      go_enter Try.func49, Try.ntmps49
      go_wp2_with fail
      refine hk.mono ?_
      rintro e w1 ⟨rfl, q, rfl⟩
      go_wp2_with fail
      refine (hp q).mono ?_
      rintro e w2 ⟨rfl, rfl⟩
      go_wp2
      go_returns
      exact ⟨by simp, _, ⟨_, _, _, hq q⟩, hT q⟩
    | none =>
      have e1 : dMake D (lst s) = dStep D (ins ⟨lst s, [], 0⟩) := by unfold dMake; rw [if_neg (by rw [ha]; simp), hf]; rfl
      have e2 : hit D.files (lst s) = false := by unfold hit; rw [hf]; rfl
      rw [e1]
      rw [e2] at hp
      have hst : ∀ q, _ := fun q => rstep_any ((w.alloc (.cells #[.string s] 9)).drewN q) (hq q) (by have := hro.1; omega) hro.2 hro.3
      by_cases hz : D.fuse = 0
      · have e3 : dStep D (ins ⟨lst s, [], 0⟩) = (10, fall D) := if_pos hz
        rw [e3]
        rw [show decide (D.fuse = 0) = true from decide_eq_true hz, if_pos hz] at hst
        generalize pos D.files (lst s) = k at *
        clear e1 e2 e3 h hf hq ha hz
        go_enter Try.func49, Try.ntmps49
        go_wp2_with fail
        refine hk.mono ?_
        rintro e w1 ⟨rfl, q, rfl⟩
        go_wp2_with fail
        refine (hp q).mono ?_
        rintro e w2 ⟨rfl, rfl⟩
        go_wp2_with fail
        refine (hst q).mono ?_
        rintro e w3 ⟨rfl, ⟨fz', h3⟩, hT3⟩
        go_wp2
        go_returns
        exact ⟨by simp, _, ⟨_, _, _, h3⟩, (hT q).trans hT3⟩
      · have e3 : dStep D (ins ⟨lst s, [], 0⟩) = (0, { tick D with files := ins ⟨lst s, [], 0⟩ D.files }) := if_neg hz
        rw [e3]
        rw [show decide (D.fuse = 0) = false from decide_eq_false hz, if_neg hz] at hst
        have hlen := few_len h hro hfew
        have hpu := fun (w3 : World) (fz' : Int) (h3 : RfAt w3 S x v rs fz' (tick D)) => rput_any (D := tick D) ⟨lst s, [], 0⟩ (.slice none 0 0) w3 h3 hok.srt hf hlen (World.ownsRow_nil _ _ _ _) (fun k hk => by cases hk)
        have hback := lst_back s
        simp only [hback] at hpu
        have HPU := Lib.hid hpu
        generalize pos D.files (lst s) = k at *
        clear e1 e2 e3 h hq ha hz hf hpu hback
        go_enter Try.func49, Try.ntmps49
        go_wp2_with fail
        refine hk.mono ?_
        rintro e w1 ⟨rfl, q, rfl⟩
        go_wp2_with fail
        refine (hp q).mono ?_
        rintro e w2 ⟨rfl, rfl⟩
        go_wp2_with fail
        refine (hst q).mono ?_
        rintro e w3 ⟨rfl, ⟨fz', h3⟩, hT3⟩
        have hT4 := (hT q).trans hT3
        have hpu := HPU.out w3 fz' h3
        clear hst hp hk hT hT3 hb
        go_wp2_with fail
        refine hpu.mono ?_
        rintro e w4 ⟨rfl, S', v', rs', h4, hT5, _⟩
        go_wp2
        go_returns
        exact ⟨by simp, S', ⟨_, _, _, h4⟩, hT4.trans hT5⟩
  · have e1 : dMake D (lst s) = (ask D [lst s], D) := by unfold dMake; rw [if_pos ha]
    rw [e1]
    have hn : (ask D [lst s] != 0) = true := by simpa using ha
    generalize ask D [lst s] = fc at *
    clear e1 h ha
    go_enter Try.func49, Try.ntmps49
    go_wp2_with fail
    refine hk.mono ?_
    rintro e w1 ⟨rfl, q, rfl⟩
    go_wp2
    go_returns
    exact ⟨by simp, _, ⟨_, _, _, hq q⟩, hT q⟩

set_option maxHeartbeats 1000000 in
set_option maxRecDepth 5000 in
theorem rremove_any (s : ByteArray) (hs : s.size ≤ 9223372036854775807) (w : World) (h : RfAt w S x v rs fz D) (hok : Okd D) (hro : Room D) (hfew : D.files.length ≤ D.steps) :
    Calls Try.prog 53 #[.pointer (some ⟨x, 0, none⟩), .string s] w fun e w' => e = .returned (.int .i64 (dRemove D (lst s)).1) ∧ ∃ S', Rf w' S' x (dRemove D (lst s)).2 ∧ Turn S S' w w' := by
  obtain ⟨hk, hp⟩ := rhalf s hs w h hok
  have hb : ∀ q, Below w.heap.size w ((w.alloc (.cells #[.string s] 9)).drewN q) := fun q => bDrewN ((Below.refl _ w).alloc (Nat.le_refl _) _) q
  have hq : ∀ q, RfAt ((w.alloc (.cells #[.string s] 9)).drewN q) S x v rs fz D := fun q => h.go (hb q)
  have hT : ∀ q, Turn S S w ((w.alloc (.cells #[.string s] 9)).drewN q) := fun q => ⟨Outs.of (hb q), fun _ h => .inl h⟩
  by_cases ha : ask D [lst s] = 0
  · rw [ha] at hk
    cases hf : find D.files (lst s) with
    | none =>
      have e1 : dRemove D (lst s) = (6, D) := by unfold dRemove; rw [if_neg (by rw [ha]; simp), hf]; rfl
      have e2 : hit D.files (lst s) = false := by unfold hit; rw [hf]; rfl
      rw [e1]
      rw [e2] at hp
      generalize pos D.files (lst s) = k at *
      clear e1 e2 h hf
      go_enter Try.func53, Try.ntmps53
      go_wp2_with fail
      refine hk.mono ?_
      rintro e w1 ⟨rfl, q, rfl⟩
      go_wp2_with fail
      refine (hp q).mono ?_
      rintro e w2 ⟨rfl, rfl⟩
      go_wp2
      go_returns
      exact ⟨by simp, _, ⟨_, _, _, hq q⟩, hT q⟩
    | some f =>
      have e1 : dRemove D (lst s) = dStep D (del (lst s)) := by unfold dRemove; rw [if_neg (by rw [ha]; simp), hf]; rfl
      have e2 : hit D.files (lst s) = true := by unfold hit; rw [hf]; rfl
      rw [e1]
      rw [e2] at hp
      have hst : ∀ q, _ := fun q => rstep_any ((w.alloc (.cells #[.string s] 9)).drewN q) (hq q) (by have := hro.1; omega) hro.2 hro.3
      by_cases hz : D.fuse = 0
      · have e3 : dStep D (del (lst s)) = (10, fall D) := if_pos hz
        rw [e3]
        rw [show decide (D.fuse = 0) = true from decide_eq_true hz, if_pos hz] at hst
        generalize pos D.files (lst s) = k at *
        clear e1 e2 e3 h hf hq ha hz
        go_enter Try.func53, Try.ntmps53
        go_wp2_with fail
        refine hk.mono ?_
        rintro e w1 ⟨rfl, q, rfl⟩
        go_wp2_with fail
        refine (hp q).mono ?_
        rintro e w2 ⟨rfl, rfl⟩
        go_wp2_with fail
        refine (hst q).mono ?_
        rintro e w3 ⟨rfl, ⟨fz', h3⟩, hT3⟩
        go_wp2
        go_returns
        exact ⟨by simp, _, ⟨_, _, _, h3⟩, (hT q).trans hT3⟩
      · have e3 : dStep D (del (lst s)) = (0, { tick D with files := del (lst s) D.files }) := if_neg hz
        rw [e3]
        rw [show decide (D.fuse = 0) = false from decide_eq_false hz, if_neg hz] at hst
        have hlen := few_len h hro hfew
        have hkl : pos D.files (lst s) < rs.length := by rw [h.len]; exact pos_lt_len hok.srt hf
        have hpu := fun (w3 : World) (fz' : Int) (h3 : RfAt w3 S x v rs fz' (tick D)) => rcut_any (D := tick D) (pos D.files (lst s)) w3 h3 hkl hlen
        have hdel : (tick D).files.take (pos D.files (lst s)) ++ (tick D).files.drop (pos D.files (lst s) + 1) = del (lst s) D.files := del_pos hok.srt hf
        rw [hdel] at hpu
        have HPU := Lib.hid hpu
        generalize pos D.files (lst s) = k at *
        clear e1 e2 e3 h hq ha hz hf hpu hdel
        go_enter Try.func53, Try.ntmps53
        go_wp2_with fail
        refine hk.mono ?_
        rintro e w1 ⟨rfl, q, rfl⟩
        go_wp2_with fail
        refine (hp q).mono ?_
        rintro e w2 ⟨rfl, rfl⟩
        go_wp2_with fail
        refine (hst q).mono ?_
        rintro e w3 ⟨rfl, ⟨fz', h3⟩, hT3⟩
        have hT4 := (hT q).trans hT3
        have hpu := HPU.out w3 fz' h3
        clear hst hp hk hT hT3 hb
        go_wp2_with fail
        refine hpu.mono ?_
        rintro e w4 ⟨rfl, S', v', rs', h4, hT5, _⟩
        go_wp2
        go_returns
        exact ⟨by simp, S', ⟨_, _, _, h4⟩, hT4.trans hT5⟩
  · have e1 : dRemove D (lst s) = (ask D [lst s], D) := by unfold dRemove; rw [if_pos ha]
    rw [e1]
    have hn : (ask D [lst s] != 0) = true := by simpa using ha
    generalize ask D [lst s] = fc at *
    clear e1 h ha
    go_enter Try.func53, Try.ntmps53
    go_wp2_with fail
    refine hk.mono ?_
    rintro e w1 ⟨rfl, q, rfl⟩
    go_wp2
    go_returns
    exact ⟨by simp, _, ⟨_, _, _, hq q⟩, hT q⟩
end
end Go.Proofs.Ytnpomiidkdnebaa
