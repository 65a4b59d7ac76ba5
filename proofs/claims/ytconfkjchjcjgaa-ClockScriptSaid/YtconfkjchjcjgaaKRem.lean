/- Remove of a heap, and Push. -/
import Derived.Test.YtconfkjchjcjgaaKPop
namespace Go.Proofs.Ytconfkjchjcjgaa
open Go.RowKit
set_option linter.unusedVariables false
/-- all but the one at i -/
structure Less1 (f f' : Nat → En) (n i : Nat) : Prop where
  to : ∀ k, k < n → ∃ j, j < n + 1 ∧ j ≠ i ∧ f' k = f j
  of : ∀ j, j < n + 1 → j ≠ i → ∃ k, k < n ∧ f' k = f j
section
variable {w w' : World} {b mb : Nat} {now : Int} {g cap : Nat} {f : Nat → En} {N n : Nat} {v : Value}
theorem less1_last (f : Nat → En) (n : Nat) : Less1 f f n n := ⟨fun k hk => ⟨k, by omega, by omega, rfl⟩, fun j hj hne => ⟨j, by omega, rfl⟩⟩
theorem less1_swp {i : Nat} {f2 : Nat → En} (hi : i < n) (hr : Rea (swp f i n) f2 n) : Less1 f f2 n i := by
  refine ⟨fun k hk => ?_, fun j hj hne => ?_⟩
  · obtain ⟨j, hj, e⟩ := hr.to k hk
    by_cases h1 : j = i
    · subst h1
      exact ⟨n, by omega, by omega, by rw [e, swp_i]⟩
    · exact ⟨j, by omega, h1, by rw [e, swp_far f h1 (by omega)]⟩
  · by_cases h1 : j = n
    · subst h1
      obtain ⟨k, hk, e⟩ := hr.of i hi
      exact ⟨k, hk, by rw [← e, swp_i]⟩
    · obtain ⟨k, hk, e⟩ := hr.of j (by omega)
      exact ⟨k, hk, by rw [← e, swp_far f hne h1]⟩
theorem Rea.hs {g N : Nat} {f f' : Nat → En} {n : Nat} (hr : Rea f f' n) (hn : n ≤ N) {k : Nat} (h : Hs g f' N k) : Hs g f N k := Hs.rea hr hn h

set_option maxHeartbeats 8000000 in
set_option maxRecDepth 100000 in
theorem remove_any (h : Ha w b mb now g cap f (n + 1)) {i : Nat} (hi : i < n + 1) (hp : Hp ltE f (n + 1)) :
    Calls Try.prog 50 #[hV b, .int .i64 i] w fun e w' => (∃ x, e = .returned x) ∧ ∃ f', Ha w' b mb now g cap f' n ∧ Hp ltE f' n ∧ Less1 f f' n i ∧ Outs (fun k => k = b ∨ Hs g f (n + 1) k) w w' ∧ ∃ p : Nat, Whole w' (f i).blk 73 (eCells (f i) p) := by
  have hme := meth_len h.c2
  have hm := h.max
  have H := Lib.hid h
  have HP := Lib.hid hp
  unfold hV
  clear h hp
  by_cases hin : i = n
  · subst hin
    have t1 : ((i : Int) + 1 - 1 != (i : Int)) = false := by simp
    have cp := popE_any H.out
    have CP := Lib.hid cp
    have hmp := meth_pop ⟨b, 2, none⟩ w
    clear cp
    go_enter Try.func50, Try.ntmps50
    go_wp2_with (go_at_call 92; refine (len_any _ _ _ _).mono ?_; rintro e w' ⟨rfl, rfl⟩)
    refine CP.out.mono ?_
    rintro e w1 ⟨rfl, ha1, ho1⟩
    have HA1 := Lib.hid ha1
    have HO1 := Lib.hid ho1
    clear ha1 ho1 hme hmp
    go_wp2
    go_ret
    refine ⟨⟨_, rfl⟩, f, HA1.out, HP.out.less (Nat.le_succ _), less1_last f i, HO1.out.mono (fun k hk => hk.elim .inl fun e => .inr (.inl e)), i, ?_⟩
    exact (H.out.ends i hi).outs HO1.out fun e => e.elim (H.out.eb hi) (H.out.eg hi)
  · have hin' : i < n := by omega
    have t1 : ((n : Int) + 1 - 1 != (i : Int)) = true := by simp; omega
    have t0 : (n : Int) + 1 - 1 = (n : Int) := by omega
    have T0 := Lib.hid t0
    have cs := Lib.hid (swap_any H.out (i := i) (j := n) hi (by omega) hin)
    have hms := meth_swap H.out.c2
    clear t0
    go_enter Try.func50, Try.ntmps50
    go_wp2_with (go_at_call 92; refine (len_any _ _ _ _).mono ?_; rintro e w' ⟨rfl, rfl⟩)
    refine cs.out.mono ?_
    rintro e w1 ⟨rfl, ha1, ho1⟩
    have HA1 := Lib.hid ha1
    have HO1 := Lib.hid ho1
    have cd := down_any ha1 (Nat.le_succ n) hin' (HP.out.cut ltE_ord hin')
    unfold hV at cd
    have CD := Lib.hid cd
    clear ha1 ho1 cd hms hme
    go_wp2_with fail
    go_at_call 47
    refine CD.out.mono ?_
    rintro e w2 ⟨r, f2, rfl, hat, hr⟩
    rcases hr with ⟨rfl, hp2⟩ | ⟨rfl, hu2⟩
    · obtain ⟨w3, hw3⟩ : ∃ w3, w3 = w2 := ⟨_, rfl⟩
      subst hw3
      obtain ⟨f3, hf3⟩ : ∃ f3, f3 = f2 := ⟨_, rfl⟩
      subst hf3
      have HAT := Lib.hid hat
      have HPF := Lib.hid hp2
      clear hat hp2
      have CP := Lib.hid (popE_any HAT.out.ha)
      have hmp := meth_pop ⟨b, 2, none⟩ w3
      go_wp2_with fail
      refine CP.out.mono ?_
      rintro e w4 ⟨rfl, ha4, ho4⟩
      have HA4 := Lib.hid ha4
      have HO4 := Lib.hid ho4
      clear ha4 ho4 hmp
      go_wp2
      go_ret
      have hr2 := HAT.out.rea
      have hfn : f3 n = f i := by rw [hr2.far n (Nat.le_refl _), swp_j]
      have hre : Rea f f3 (n + 1) := (Rea.swp f hi (by omega)).trans (hr2.more (Nat.le_succ _))
      have ho : Outs (fun k => k = b ∨ Hs g f (n + 1) k) w w3 := (HO1.out.mono (fun k hk => .inr hk)).trans HAT.out.outs (fun k hk => .inl (.inr (Hs.rea (Rea.swp f hi (by omega)) (Nat.le_refl _) hk)))
      refine ⟨⟨_, rfl⟩, f3, HA4.out, HPF.out, less1_swp hin' hr2, ho.trans HO4.out (fun k hk => .inl (hk.elim .inl fun e => .inr (.inl e))), n, ?_⟩
      have hx := HAT.out.ha.ends n (by omega)
      rw [hfn] at hx
      have hne1 := HAT.out.ha.eb (show n < n + 1 by omega)
      have hne2 := HAT.out.ha.eg (show n < n + 1 by omega)
      rw [hfn] at hne1 hne2
      exact hx.outs HO4.out fun e => e.elim hne1 hne2
    · have cu := up_any hat.ha (Nat.le_succ n) hin' hu2
      unfold hV at cu
      have CU := Lib.hid cu
      have HAT0 := Lib.hid hat
      clear cu hat hu2
      go_wp2_with fail
      go_at_call 48
      refine CU.out.mono ?_
      rintro e w3 ⟨rfl, f3, hat3, hp3⟩
      have HAT : Hid (UpAt w1 b mb now g cap (swp f i n) (n + 1) n w3 f3) := Lib.hid ⟨hat3.ha, HAT0.out.rea.trans hat3.rea, HAT0.out.outs.trans hat3.outs (fun k hk => .inl (Hs.rea HAT0.out.rea (Nat.le_succ n) hk))⟩
      have HPF := Lib.hid hp3
      clear hat3 hp3
      have CP := Lib.hid (popE_any HAT.out.ha)
      have hmp := meth_pop ⟨b, 2, none⟩ w3
      go_wp2_with fail
      refine CP.out.mono ?_
      rintro e w4 ⟨rfl, ha4, ho4⟩
      have HA4 := Lib.hid ha4
      have HO4 := Lib.hid ho4
      clear ha4 ho4 hmp
      go_wp2
      go_ret
      have hr2 := HAT.out.rea
      have hfn : f3 n = f i := by rw [hr2.far n (Nat.le_refl _), swp_j]
      have hre : Rea f f3 (n + 1) := (Rea.swp f hi (by omega)).trans (hr2.more (Nat.le_succ _))
      have ho : Outs (fun k => k = b ∨ Hs g f (n + 1) k) w w3 := (HO1.out.mono (fun k hk => .inr hk)).trans HAT.out.outs (fun k hk => .inl (.inr (Hs.rea (Rea.swp f hi (by omega)) (Nat.le_refl _) hk)))
      refine ⟨⟨_, rfl⟩, f3, HA4.out, HPF.out, less1_swp hin' hr2, ho.trans HO4.out (fun k hk => .inl (hk.elim .inl fun e => .inr (.inl e))), n, ?_⟩
      have hx := HAT.out.ha.ends n (by omega)
      rw [hfn] at hx
      have hne1 := HAT.out.ha.eb (show n < n + 1 by omega)
      have hne2 := HAT.out.ha.eg (show n < n + 1 by omega)
      rw [hfn] at hne1 hne2
      exact hx.outs HO4.out fun e => e.elim hne1 hne2

set_option maxHeartbeats 4000000 in
set_option maxRecDepth 100000 in
/-- heap.Push -/
theorem push_any (h : Hn w b mb now v f n) (hp : Hp ltE f n) (hm : n < 1073741824) (e : En) (p0 : Int) (he : Whole w e.blk 73 #[.string e.nm, .int .i64 e.at_, .int .i64 p0]) (hd : ∀ k, k < n → (f k).blk ≠ e.blk) :
    Calls Try.prog 40 #[hV b, .iface 71 (pE e)] w fun x w' => x = .returned (.tuple #[]) ∧
      ∃ v' f', Hn w' b mb now v' f' (n + 1) ∧ Hp ltE f' (n + 1) ∧ Rea (fun k => if k = n then e else f k) f' (n + 1) ∧ Outs (fun k => k = b ∨ k = e.blk ∨ v.ownBlock = some k ∨ ∃ q, q < n ∧ k = (f q).blk) w w' ∧ ∀ g, v'.ownBlock = some g → v.ownBlock = some g ∨ w.heap.size ≤ g := by
  have cp := Lib.hid (pushE_any h hm e p0 he hd)
  have hmp := meth_push ⟨b, 2, none⟩ w
  have hu := hp.up e
  have HU := Lib.hid hu
  have hzz := h.row
  clear h hp he hd hu
  unfold hV
  go_enter Try.func40, Try.ntmps40
  go_wp2_with fail
  refine cp.out.mono ?_
  rintro x w1 ⟨rfl, v1, hn1, ho1, hv1⟩
  obtain ⟨g, cap, rfl, ha1⟩ := hn1.ha (Nat.succ_pos n)
  have HO1 := Lib.hid ho1
  have HV1 := Lib.hid hv1
  have HA1 := Lib.hid ha1
  have hml := meth_len ha1.c2
  have cu := up_any ha1 (Nat.le_refl _) (j := n) (by omega) HU.out
  unfold hV at cu
  have CU := Lib.hid cu
  clear hn1 ha1 cu ho1 hv1 hmp
  have HZ := Lib.hid hzz
  clear hzz
  go_wp2_with (go_at_call 92; refine (len_any _ _ _ _).mono ?_; rintro e w' ⟨rfl, rfl⟩)
  refine CU.out.mono ?_
  rintro x w2 ⟨rfl, f2, hat2, hp2⟩
  have HAT := Lib.hid hat2
  have HP2 := Lib.hid hp2
  clear hat2 hp2 hml
  go_wp2
  go_end0
  refine ⟨rfl, _, f2, HAT.out.ha.hn, HP2.out, HAT.out.rea, ?_, HV1.out⟩
  refine (HO1.out.mono (fun k hk => ?_)).trans HAT.out.outs (fun k hk => ?_)
  · rcases hk with hk | hk | hk
    · exact .inl hk
    · exact .inr (.inl hk)
    · exact .inr (.inr (.inl hk))
  · rcases hk with hk | ⟨q, hq, hk⟩
    · rcases HV1.out g (by simp [Value.ownBlock]) with e | e
      · exact .inl (.inr (.inr (.inl (by rw [hk]; exact e))))
      · exact .inr (by omega)
    · by_cases hqn : q = n
      · simp only [hqn, if_true] at hk
        exact .inl (.inr (.inl hk))
      · simp only [hqn, if_false] at hk
        exact .inl (.inr (.inr (.inr ⟨q, by omega, hk⟩)))
end
end Go.Proofs.Ytconfkjchjcjgaa
