/- Pop of a watch's ends; Fix and Remove of a heap. -/
import Derived.Test.YtconfkjchjcjgaaKPush
namespace Go.Proofs.Ytconfkjchjcjgaa
open Go.RowKit
set_option linter.unusedVariables false
section
variable {w w' : World} {b mb : Nat} {now : Int} {g cap : Nat} {f : Nat → En} {N n : Nat} {v : Value}

set_option maxHeartbeats 4000000 in
set_option maxRecDepth 100000 in
theorem popE_any (h : Ha w b mb now g cap f (n + 1)) :
    Calls Try.prog 99 #[.pointer (some ⟨b, 2, none⟩)] w fun x w' => x = .returned (.iface 71 (pE (f n))) ∧ Ha w' b mb now g cap f n ∧ Outs (fun k => k = b ∨ k = g) w w' := by
  have H := Lib.hid h
  obtain ⟨cur, hcur, hcs, hck⟩ := h.row
  have hm := h.max
  have hle := h.le
  have hcm := h.cmax
  have hgb := h.gb
  have c2 := h.c2
  have cn := h.cr (show n < n + 1 by omega)
  have fn := hcur.frozen n
  have hcur1 := hcur.put n (.pointer none)
  have htop1 := h.top.far (p := ⟨g, n, none⟩) (Ne.symm hgb) (.pointer none)
  have ho1 : Outs (fun k => k = b ∨ k = g) w (w.setCell ⟨g, n, none⟩ (.pointer none)) := (Outs.refl (fun k => k = b ∨ k = g) w).setCell (p := ⟨g, n, none⟩) (.inl (.inr rfl)) _
  unfold maxLen at hcm
  have HC := Lib.hid hcur1
  have HT := Lib.hid htop1
  have HO := Lib.hid ho1
  have HCK := Lib.hid hck
  have HCS := Lib.hid hcs
  unfold pE
  clear h hcur hcur1 htop1 ho1 hck hcs
  go_enter Try.func99, Try.ntmps99
  go_upto_region 4 with fail
  generalize w.setCell ⟨g, n, none⟩ (.pointer none) = w1 at *
  clear c2 cn fn
  have c2 : w1.cell? ⟨b, 2, none⟩ = some (.slice (some ⟨g, 0, none⟩) (n + 1) cap) := by simpa using HT.out.cell 2
  have f2 := HT.out.frozen 2
  go_wp2
  go_ret
  have hT : Outs (fun k => k = b ∨ k = g) w (w1.setCell ⟨b, 2, none⟩ (.slice (some ⟨g, 0, none⟩) n cap)) := HO.out.setCell (p := ⟨b, 2, none⟩) (.inl (.inl rfl)) _
  refine ⟨rfl, { top := HT.out.put 2 _, row := ?_, le := by omega, max := by omega, cmax := H.out.cmax, ends := fun k hk => ?_, inj := fun j k hj hk => H.out.inj j k (by omega) (by omega), dis := fun j k hj hk => H.out.dis j k (by omega) (by omega) }, hT⟩
  · refine ⟨_, HC.out.far (p := ⟨b, 2, none⟩) hgb _, by simp [HCS.out], fun k hk => ?_⟩
    rw [← HCK.out k (by omega)]
    simp [show n ≠ k by omega]
  · refine (H.out.ends k (by omega)).outs hT fun e => ?_
    rcases e with e | e
    · exact H.out.eb (show k < n + 1 by omega) e
    · exact H.out.eg (show k < n + 1 by omega) e

set_option maxHeartbeats 4000000 in
set_option maxRecDepth 100000 in
theorem fix_any (h : Ha w b mb now g cap f n) {i : Nat} (hi : i < n) (hu : Hole ltE f n i) :
    Calls Try.prog 38 #[hV b, .int .i64 i] w fun e w' => e = .returned (.tuple #[]) ∧ ∃ f', UpAt w b mb now g cap f n n w' f' ∧ Hp ltE f' n := by
  have hme := meth_len h.c2
  have cd := Lib.hid (down_any h (Nat.le_refl n) hi hu)
  have hm := h.max
  have H := Lib.hid h
  unfold hV at cd ⊢
  clear h hu
  go_enter Try.func38, Try.ntmps38
  go_wp2_with (go_at_call 92; refine (len_any _ _ _ _).mono ?_; rintro e w' ⟨rfl, rfl⟩)
  go_at_call 47
  refine cd.out.mono ?_
  rintro e w1 ⟨r, f1, rfl, hat, hr⟩
  have HAT := Lib.hid hat
  have HR := Lib.hid hr
  clear hat hr hme
  rcases HR.out with ⟨rfl, hp⟩ | ⟨rfl, hup⟩
  · have HP := Lib.hid hp
    clear hp
    go_wp2
    go_end0
    exact ⟨rfl, f1, HAT.out, HP.out⟩
  · have cu := up_any HAT.out.ha (Nat.le_refl n) hi hup
    unfold hV at cu
    have CU := Lib.hid cu
    clear hup cu
    go_wp2_with fail
    go_at_call 48
    refine CU.out.mono ?_
    rintro e w2 ⟨rfl, f2, hat2, hp⟩
    have HAT2 := Lib.hid hat2
    have HP := Lib.hid hp
    clear hat2 hp
    go_wp2
    go_end0
    exact ⟨rfl, f2, ⟨HAT2.out.ha, HAT.out.rea.trans HAT2.out.rea, HAT.out.outs.trans HAT2.out.outs (fun k hk => .inl (Hs.rea HAT.out.rea (Nat.le_refl n) hk))⟩, HP.out⟩
end
end Go.Proofs.Ytconfkjchjcjgaa
