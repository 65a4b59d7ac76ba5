/- Push and Pop of a watch's ends. -/
import Derived.Test.YtconfkjchjcjgaaKUp
import Derived.Maps.AppendAt
import Derived.Deep.Cut
namespace Go.Proofs.Ytconfkjchjcjgaa
open Go.RowKit
set_option linter.unusedVariables false

theorem infoPE : (Try.prog.info? 71).map (fun i => (i.zero, i.size, i.bytes)) = some (some (.pointer none), 1, 8) := by kernel_rfl
theorem assert_end (v : Value) (w : World) : (Instr.typeAssert (.iface 71 v) 20 71 false).run Try.prog w = .ok v w := by kernel_rfl
def ptrs (f : Nat → En) (n : Nat) : List Value := (List.range n).map fun k => pE (f k)
theorem ptrs_length (f : Nat → En) (n : Nat) : (ptrs f n).length = n := by simp [ptrs]
theorem ptrs_get (f : Nat → En) {n k : Nat} (h : k < n) : (ptrs f n)[k]? = some (pE (f k)) := by simp [ptrs, h]
theorem ptrs_snoc (f : Nat → En) (n : Nat) (e : En) : ptrs f n ++ [pE e] = ptrs (fun k => if k = n then e else f k) (n + 1) := by
  apply List.ext_getElem?
  intro k
  by_cases h : k < n
  · rw [List.getElem?_append_left (by rw [ptrs_length]; exact h), ptrs_get f h, ptrs_get _ (by omega)]
    simp [show k ≠ n by omega]
  · by_cases h2 : k = n
    · subst h2
      rw [List.getElem?_append_right (by rw [ptrs_length]; exact Nat.le_refl _), ptrs_length, ptrs_get _ (by omega)]
      simp
    · rw [List.getElem?_eq_none (by rw [List.length_append, ptrs_length]; simp; omega), List.getElem?_eq_none (by rw [ptrs_length]; omega)]

/-- the watch at b, its ends' row v, of n ends: a heap that may be nil -/
structure Hn (w : World) (b mb : Nat) (now : Int) (v : Value) (f : Nat → En) (n : Nat) : Prop where
  top : Whole w b 58 #[.pointer (some ⟨b, 0, none⟩), .int .i64 now, v, .map (some mb)]
  row : w.ownsRow 0 71 1 v n (ptrs f n)
  max : n ≤ 1073741824
  ends : ∀ k, k < n → Whole w (f k).blk 73 (eCells (f k) k)
  inj : ∀ j k, j < n → k < n → f j = f k → j = k
  dis : ∀ j k, j < n → k < n → (f j).blk = (f k).blk → f j = f k

section
variable {w w' : World} {b mb : Nat} {now : Int} {g cap : Nat} {f : Nat → En} {N n : Nat} {v : Value}
theorem Ha.hn (h : Ha w b mb now g cap f N) : Hn w b mb now (.slice (some ⟨g, 0, none⟩) N cap) f N := by
  refine ⟨h.top, ?_, h.max, h.ends, h.inj, h.dis⟩
  obtain ⟨cur, hw, h1, h2⟩ := h.row
  refine ⟨by rw [ptrs_length]; omega, .inr ⟨g, cap, cur, rfl, Nat.zero_le _, hw, h.le, h.cmax, by omega, ?_⟩⟩
  apply List.ext_getElem?
  intro k
  by_cases hk : k < N
  · rw [List.getElem?_take_of_lt (by omega), ptrs_get f hk, ← h2 k hk]
    simp
  · rw [List.getElem?_eq_none (by simp; omega), List.getElem?_eq_none (by rw [ptrs_length]; omega)]
theorem Hn.ha (h : Hn w b mb now v f n) (h0 : 0 < n) : ∃ g cap, v = .slice (some ⟨g, 0, none⟩) n cap ∧ Ha w b mb now g cap f n := by
  rcases h.row.2 with ⟨_, e⟩ | ⟨g, cap, cur, rfl, _, hw, h1, h2, h3, h4⟩
  · omega
  · refine ⟨g, cap, rfl, ⟨h.top, ⟨cur, hw, by omega, fun k hk => ?_⟩, h1, h.max, h2, h.ends, h.inj, h.dis⟩⟩
    rw [← ptrs_get f hk, ← h4, List.getElem?_take_of_lt (by omega)]
    simp
theorem Hn.outs (h : Hn w b mb now v f n) {T : Nat → Prop} (ho : Outs T w w') (hb : ¬ T b) (hv : ∀ k, v.ownBlock = some k → ¬ T k) (hn : ∀ k, k < n → ¬ T (f k).blk) : Hn w' b mb now v f n :=
  { top := h.top.outs ho hb
    row := ownRow_block_kept h.row fun g hg => ho.block g (ownRow_block h.row hg).2.1 (hv g hg)
    max := h.max
    ends := fun k hk => (h.ends k hk).outs ho (hn k hk)
    inj := h.inj
    dis := h.dis }
theorem Hn.slice (h : Hn w b mb now v f n) : ∃ A c, v = .slice A n c := by
  rcases h.row.2 with ⟨e1, e⟩ | ⟨g, cap, cur, rfl, _⟩
  · subst e; exact ⟨none, 0, e1⟩
  · exact ⟨_, _, rfl⟩

theorem top_grown {w1 w2 : World} {x y : Value} {A : Option Addr} {c : Nat} {o : Obj} {xs : List Value} (ht : Whole w1 b 58 #[x, y, .slice A n c, .map (some mb)]) (hr : w1.ownsRow 0 71 1 (.slice A n c) n xs)
    (hg : (w1.alloc o).grownBy w2 (Value.slice A n c).ownBlock) : Whole w2 b 58 #[x, y, .slice A n c, .map (some mb)] :=
  (ht.alloc o).grown hg fun q => ownRow_ne hr q.symm ht (by decide) rfl
theorem cell_top {w1 w2 : World} {x y : Value} {A : Option Addr} {c : Nat} {o : Obj} {xs : List Value} (ht : Whole w1 b 58 #[x, y, .slice A n c, .map (some mb)]) (hr : w1.ownsRow 0 71 1 (.slice A n c) n xs)
    (hg : (w1.alloc o).grownBy w2 (Value.slice A n c).ownBlock) : w2.cell? ⟨b, 2, none⟩ = some (.slice A n c) := by simpa using (top_grown ht hr hg).cell 2
theorem froz_top {w1 w2 : World} {x y : Value} {A : Option Addr} {c : Nat} {o : Obj} {xs : List Value} (ht : Whole w1 b 58 #[x, y, .slice A n c, .map (some mb)]) (hr : w1.ownsRow 0 71 1 (.slice A n c) n xs)
    (hg : (w1.alloc o).grownBy w2 (Value.slice A n c).ownBlock) : w2.frozen? ⟨b, 2, none⟩ = false := (top_grown ht hr hg).frozen 2
set_option maxHeartbeats 4000000 in
set_option maxRecDepth 100000 in
theorem pushE_any (h : Hn w b mb now v f n) (hm : n < 1073741824) (e : En) (p0 : Int) (he : Whole w e.blk 73 #[.string e.nm, .int .i64 e.at_, .int .i64 p0]) (hd : ∀ k, k < n → (f k).blk ≠ e.blk) :
    Calls Try.prog 100 #[.pointer (some ⟨b, 2, none⟩), .iface 71 (pE e)] w fun x w' => x = .returned (.tuple #[]) ∧
      ∃ v', Hn w' b mb now v' (fun k => if k = n then e else f k) (n + 1) ∧ Outs (fun k => k = b ∨ k = e.blk ∨ v.ownBlock = some k) w w' ∧ ∀ g, v'.ownBlock = some g → v.ownBlock = some g ∨ w.heap.size ≤ g := by
  obtain ⟨i0, hi, hz0, hz1, hz2⟩ := info_parts infoPE
  have H := Lib.hid h
  have HE := Lib.hid he
  have HD := Lib.hid hd
  have hc2 : w.cell? ⟨b, 2, none⟩ = some v := by simpa using h.top.cell 2
  obtain ⟨A, c, rfl⟩ := h.slice
  have e2 : w.cell? ⟨e.blk, 2, none⟩ = some (.int .i64 p0) := by simpa using he.cell 2
  have f2 := he.frozen 2
  have hbe : b ≠ e.blk := Whole.ne h.top he (by decide)
  have hrow1 : (w.setCell ⟨e.blk, 2, none⟩ (.int .i64 n)).ownsRow 0 71 1 (.slice A n c) n (ptrs f n) := ownRow_block_kept h.row fun g hg => Below.heap_setCell _ _ _ _ (ownRow_ne h.row hg he (by decide))
  have htop1 := h.top.far (p := ⟨e.blk, 2, none⟩) hbe (.int .i64 n)
  have he1 := he.put 2 (.int .i64 n)
  have hends1 : ∀ k, k < n → Whole (w.setCell ⟨e.blk, 2, none⟩ (.int .i64 n)) (f k).blk 73 (eCells (f k) k) := fun k hk => (h.ends k hk).far (p := ⟨e.blk, 2, none⟩) (hd k hk) _
  have ho1 : Outs (fun k => k = b ∨ k = e.blk ∨ (Value.slice A n c).ownBlock = some k) w (w.setCell ⟨e.blk, 2, none⟩ (.int .i64 n)) := (Outs.refl _ w).setCell (p := ⟨e.blk, 2, none⟩) (.inl (.inr (.inl rfl))) _
  have hsz1 : w.heap.size = (w.setCell ⟨e.blk, 2, none⟩ (.int .i64 n)).heap.size := by simp [World.setCell]
  have HR1 := Lib.hid hrow1
  have HT1 := Lib.hid htop1
  have HE1 := Lib.hid he1
  have HS1 := Lib.hid hends1
  have HO1 := Lib.hid ho1
  have HZ1 := Lib.hid hsz1
  clear h he hd hrow1 htop1 he1 hends1 ho1 hsz1
  unfold pE
  have hta := assert_end (.pointer (some ⟨e.blk, 0, none⟩)) w
  go_enter Try.func100, Try.ntmps100
  go_upto_region 2 with fail
  generalize w.setCell ⟨e.blk, 2, none⟩ (.int .i64 n) = w1 at *
  clear hc2 e2 f2
  have hc2 : w1.cell? ⟨b, 2, none⟩ = some (.slice A n c) := by simpa using HT1.out.cell 2
  go_wp2_with (at_builtin; go_loud (refine wpList_append_own_at _ rfl (.tmp 17) (.tmp 19) 55 rfl 0 71 i0 (.pointer none) 1 8 Try.underlying55 hi hz0 hz1 hz2 rfl (by decide) (.slice A n c) n (ptrs f n) rfl (HR1.out.alloc _) ⟨w1.heap.size, 0, none⟩ 1 1 [.pointer (some ⟨e.blk, 0, none⟩)] rfl rfl (one_new w1 _ _) (by simp [Value.oneCell']) (by unfold maxLen; omega) (by omega) (by omega) ?_); intro v' w2 hown2 hg2 _ hat2; obtain ⟨A2, q2, rfl, -⟩ := own_open hown2; have HAT2 := Lib.hid hat2; have HG2 := Lib.hid hg2; have HW2 := Lib.hid hown2; clear hat2 hg2 hown2; have c2 := cell_top HT1.out HR1.out HG2.out; have f2 := froz_top HT1.out HR1.out HG2.out)
  have hbL := HT1.out.lt
  have heL := HE1.out.lt
  have hgb : some b ≠ (Value.slice A n c).ownBlock := fun q => ownRow_ne HR1.out q.symm HT1.out (by decide) rfl
  have hge : some e.blk ≠ (Value.slice A n c).ownBlock := fun q => ownRow_ne HR1.out q.symm HE1.out (by decide) rfl
  have htop2 := (HT1.out.alloc (.cells #[.pointer (some ⟨e.blk, 0, none⟩)] 71)).grown HG2.out hgb
  have he2 := (HE1.out.alloc (.cells #[.pointer (some ⟨e.blk, 0, none⟩)] 71)).grown HG2.out hge
  have hends2 : ∀ k, k < n → Whole w2 (f k).blk 73 (eCells (f k) k) := fun k hk =>
    ((HS1.out k hk).alloc (.cells #[.pointer (some ⟨e.blk, 0, none⟩)] 71)).grown HG2.out (fun q => ownRow_ne HR1.out q.symm (HS1.out k hk) (by decide) rfl)
  have ho2 : Outs (fun k => k = b ∨ k = e.blk ∨ (Value.slice A n c).ownBlock = some k) w w2 :=
    (HO1.out.alloc (.cells #[.pointer (some ⟨e.blk, 0, none⟩)] 71)).grown HG2.out (fun k hk => .inl (.inr (.inr hk)))
  have HT2 := Lib.hid htop2
  have HE2 := Lib.hid he2
  have HS2 := Lib.hid hends2
  have HO2 := Lib.hid ho2
  clear htop2 he2 hends2 ho2 hc2 hgb hge c2 f2
  go_end0
  have hz1 := HZ1.out
  have hsn := ptrs_snoc f n e
  refine ⟨rfl, .slice A2 (n + 1) q2, ⟨HT2.out.put 2 _, ?_, by omega, fun k hk => ?_, fun j k hj hk q => ?_, fun j k hj hk q => ?_⟩, HO2.out.setCell (p := ⟨b, 2, none⟩) (.inl (.inl rfl)) _, fun g hg => ?_⟩
  · have hw2 := HW2.out
    rw [show ptrs f n ++ [Value.pointer (some ⟨e.blk, 0, none⟩)] = ptrs f n ++ [pE e] from rfl, hsn] at hw2
    exact ownRow_block_kept hw2 fun g hg => Below.heap_setCell _ _ _ _ (ownRow_ne hw2 hg HT2.out (by decide))
  · by_cases hkn : k = n
    · subst hkn
      rw [if_pos rfl]
      exact HE2.out.far (p := ⟨b, 2, none⟩) (Ne.symm hbe) _
    · rw [if_neg hkn]
      exact (HS2.out k (by omega)).far (p := ⟨b, 2, none⟩) (Whole.ne (HS2.out k (by omega)) HT2.out (by decide)) _
  · by_cases h1 : j = n <;> by_cases h2 : k = n
    · omega
    · simp only [h1, h2, if_true, if_false] at q
      exact absurd (congrArg En.blk q).symm (HD.out k (by omega))
    · simp only [h1, h2, if_true, if_false] at q
      exact absurd (congrArg En.blk q) (HD.out j (by omega))
    · simp only [h1, h2, if_false] at q
      exact H.out.inj j k (by omega) (by omega) q
  · by_cases h1 : j = n <;> by_cases h2 : k = n
    · rw [h1, h2]
    · simp only [h1, h2, if_true, if_false] at q
      exact absurd q.symm (HD.out k (by omega))
    · simp only [h1, h2, if_true, if_false] at q
      exact absurd q (HD.out j (by omega))
    · simp only [h1, h2, if_false] at q ⊢
      exact H.out.dis j k (by omega) (by omega) q
  · rcases HAT2.out with q | q
    · exact .inl (by rw [← q]; exact hg)
    · rw [q] at hg
      have := Option.some.inj hg
      exact .inr (by simp at this; omega)
end
end Go.Proofs.Ytconfkjchjcjgaa
