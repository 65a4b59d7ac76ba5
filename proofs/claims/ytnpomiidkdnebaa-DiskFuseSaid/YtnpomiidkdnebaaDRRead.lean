/- The walks over the document's Read and Names. -/
import Derived.Test.YtnpomiidkdnebaaDRApp
import Derived.Test.YtnpomiidkdnebaaDNeg
namespace Go.Proofs.Ytnpomiidkdnebaa
open Go.RowKit
set_option linter.unusedVariables false

section
variable {S S' : Nat → Prop} {x : Nat} {v : Value} {rs : List RFl} {fz : Int} {D : Dsk} {w : World}

set_option maxHeartbeats 2000000 in
set_option maxRecDepth 5000 in
theorem rread_any (s : ByteArray) (hs : s.size ≤ 9223372036854775807) (w : World) (h : RfAt w S x v rs fz D) (hok : Okd D) :
    Calls Try.prog 59 #[.pointer (some ⟨x, 0, none⟩), .string s] w fun e w' => ∃ v, e = .returned (.tuple #[v, .int .i64 (dRead D (lst s)).2]) ∧ w'.ownsRow w.heap.size 5 1 v (dRead D (lst s)).1.length (c8 (dRead D (lst s)).1) ∧ Below w.heap.size w w' := by
  obtain ⟨i0, hi, hz0, hz1, hz2⟩ := info_parts info8
  obtain ⟨hk, hp⟩ := rhalf s hs w h hok
  have hb : ∀ q, Below w.heap.size w ((w.alloc (.cells #[.string s] 9)).drewN q) := fun q => bDrewN ((Below.refl _ w).alloc (Nat.le_refl _) _) q
  have hq : ∀ q, RfAt ((w.alloc (.cells #[.string s] 9)).drewN q) S x v rs fz D := fun q => h.go (hb q)
  by_cases ha : ask D [lst s] = 0
  · rw [ha] at hk
    cases hf : find D.files (lst s) with
    | none =>
      have e1 : dRead D (lst s) = ([], 6) := by unfold dRead; rw [if_neg (by rw [ha]; simp), hf]
      have e2 : hit D.files (lst s) = false := by unfold hit; rw [hf]; rfl
      rw [e1]
      rw [e2] at hp
      generalize pos D.files (lst s) = k at *
      clear e1 e2 h hf
      go_enter Try.func59, Try.ntmps59
      go_wp2_with fail
      refine hk.mono ?_
      rintro e w1 ⟨rfl, q, rfl⟩
      go_wp2_with fail
      refine (hp q).mono ?_
      rintro e w2 ⟨rfl, rfl⟩
      go_wp2
      go_returns
      exact ⟨_, by simp, World.ownsRow_nil _ _ _ _, hb q⟩
    | some f =>
      have e1 : dRead D (lst s) = (f.bs, 0) := by unfold dRead; rw [if_neg (by rw [ha]; simp), hf]
      have e2 : hit D.files (lst s) = true := by unfold hit; rw [hf]; rfl
      rw [e1]
      rw [e2] at hp
      obtain ⟨P, hP⟩ : ∃ P, P = pos D.files (lst s) := ⟨_, rfl⟩
      have hl30 := len30 hok _ _ hf
      have hat := fun q => (hq q).upd_at hok hf hP
      rw [← hP] at hp
      have HAT := Lib.hid hat
      have HQ := Lib.hid hq
      clear e1 e2 h hf ha hat hq hP
      go_enter Try.func59, Try.ntmps59
      go_wp2_with fail
      refine hk.mono ?_
      rintro e w1 ⟨rfl, q, rfl⟩
      go_wp2_with fail
      refine (hp q).mono ?_
      rintro e w2 ⟨rfl, rfl⟩
      obtain ⟨g, n, cn, B, bb, rfl, hSg, hn63, hnc, hkn, _, k1, _, kf, hrow, _, _, _⟩ := HAT.out q
      have c1 := (HQ.out q).c1
      obtain ⟨B', bb', e, hrdB, hLb, hbm, hB0⟩ := own_open hrow
      injection e with e1 e2 e3
      subst e1 e3
      have hbq := hb q
      have hPn : (P : Int) < n := by omega
      have hsz := hbq.size
      clear hk hp hb HAT HQ kf
      generalize hLf : f.bs.length = Lf at *
      generalize (w.alloc (.cells #[.string s] 9)).drewN q = W at *
      have hown : (W.alloc (.cells #[] 5)).ownsRow w.heap.size 5 1 (.slice (some ⟨W.heap.size, 0, none⟩) 0 0) 0 [] := World.ownsRow_made (base := w.heap.size) (e := 5) (size := 1) W #[] 0 hsz (by unfold maxLen; omega) rfl
      have d1 := (World.cell?_alloc_lt W (.cells #[] 5) _ (World.block_lt_of_cell? W _ c1)).trans c1
      have d2 := (World.cell?_alloc_lt W (.cells #[] 5) _ (World.block_lt_of_cell? W _ k1)).trans k1
      go_wp2_with (at_builtin; go_loud (refine app_many _ rfl (.tmp 24) (.tmp 32) 29 rfl w.heap.size 5 i0 (.int .u8 0) 1 Try.underlying29 hi hz0 hz1 hz2 rfl _ 0 [] (by simp [Act.eval]) hown B Lf bb W.heap.size (c8 f.bs) (by simp [Act.eval]) (by rw [c8_length, hLf]) (hrdB.alloc (Nat.le_refl _) _) (fun h => (hB0 h).2) (c8_one _) (by unfold maxLen; omega) (by omega) (by simp; omega) ?_))
      intro v9 w9 hown9 hb9
      have hbf : Below w.heap.size w w9 := (hbq.alloc hsz _).trans hb9
      go_wp2
      go_returns
      exact ⟨v9, by simp, hLf.symm ▸ hown9, hbf⟩
  · have e1 : dRead D (lst s) = ([], ask D [lst s]) := by unfold dRead; rw [if_pos ha]
    rw [e1]
    have hn : (ask D [lst s] != 0) = true := by simpa using ha
    generalize ask D [lst s] = fc at *
    clear e1 h ha
    go_enter Try.func59, Try.ntmps59
    go_wp2_with fail
    refine hk.mono ?_
    rintro e w1 ⟨rfl, q, rfl⟩
    go_wp2
    go_returns
    exact ⟨_, by simp, World.ownsRow_nil _ _ _ _, hb q⟩

theorem infoT : (Try.prog.info? 9).map (fun i => (i.zero, i.size, i.bytes)) = some (some (.string ⟨#[]⟩), 1, 16) := by kernel_rfl
theorem cS_length (l : List Nm) : (cS l).length = l.length := by simp [cS]
theorem cS_append (a b : List Nm) : cS (a ++ b) = cS a ++ cS b := by simp [cS]

set_option maxHeartbeats 2000000 in
set_option maxRecDepth 5000 in
theorem rnames_any (w : World) (h : RfAt w S x v rs fz D) (hsm : rs.length ≤ 1099511627776) :
    Calls Try.prog 60 #[.pointer (some ⟨x, 0, none⟩)] w fun e w' => ∃ v, e = .returned v ∧ w'.ownsRow w.heap.size 9 1 v (dNames D).length (cS (dNames D)) ∧ Below w.heap.size w w' := by
  obtain ⟨i0, hi, hz0, hz1, hz2⟩ := info_parts infoT
  have c1 := h.c1
  have c4 := h.c4
  have hx := h.lt _ h.sx
  obtain ⟨A, c, rfl, hc63, hnc, hcm, hA⟩ := rowed h.own
  have hlen := h.len
  have hnm : ∀ k (hk : k < rs.length), D.files[k]? = some rs[k].f := fun k hk => h.nm hk
  obtain ⟨n, hn⟩ : ∃ n, n = rs.length := ⟨_, rfl⟩
  rw [← hn] at c1 hnc hc63 hsm
  have HA := Lib.hid hA
  have HN := Lib.hid hn
  have HL := Lib.hid hlen
  have HF := Lib.hid hnm
  clear hn hlen hA hnm
  cases ho : D.off
  · have e1 : dNames D = names D := by simp [dNames, ho]
    rw [e1]
    rw [ho] at c4
    have hS : ∀ w', Below w.heap.size w w' → w'.cell? ⟨x, 1, none⟩ = some (.slice A n c) ∧ w'.cell? ⟨x, 4, none⟩ = some (.bool false) := fun w' hb => ⟨(hb.cell hx).trans c1, (hb.cell hx).trans c4⟩
    have HS := Lib.hid hS
    clear h ho e1 hS
    go_enter Try.func60, Try.ntmps60
    go_wp2
    go_loopw [3, 4] (fun o i wr => ∃ k : Nat, k ≤ n ∧ i = .int .i64 k ∧ wr.ownsRow w.heap.size 9 1 o k (cS ((names D).take k)) ∧ Below w.heap.size w wr) (fun _ i _ => n - (intOf i).toNat)
    case atStart => exact ⟨0, Nat.zero_le _, rfl, World.ownsRow_nil _ _ _ _, Below.refl _ _⟩
    case round =>
      obtain ⟨k, hk, rfl, hown, hb⟩ := hrel
      obtain ⟨c1', c4'⟩ := HS.out _ hb
      by_cases hlt : k < n
      · have hkr : k < rs.length := by rw [← HN.out]; exact hlt
        obtain ⟨g, rfl, hgo, k0, _, _, _⟩ := HA.out k hkr
        have hg : g < w.heap.size := World.block_lt_of_cell? w _ k0
        have k0' := (hb.cell (p := ⟨g, k * 3, none⟩) hg).trans k0
        have hnk : (names D).take (k + 1) = (names D).take k ++ [rs[k].f.nm] := by
          rw [List.take_add_one]
          congr 1
          unfold names
          rw [List.getElem?_map, HF.out k hkr]
          rfl
        have HNK := Lib.hid hnk
        clear hnk k0
        generalize rs[k].f.nm = l at *
        have hsz := hb.size
        go_wp2_with (at_builtin; go_loud (refine app_one _ rfl (.tmp 21) (.tmp 30) 40 rfl w.heap.size 9 i0 (.string ⟨#[]⟩) 16 Try.underlying40 hi hz0 hz1 hz2 rfl _ k (cS ((names D).take k)) rfl hown (.string ⟨l.toArray⟩) rfl rfl (by unfold maxLen; omega) (by omega) hsz ?_))
        intro v9 w9 hown9 hb9
        have hb9' := hb.trans hb9
        have hown9' : w9.ownsRow w.heap.size 9 1 v9 (k + 1) (cS ((names D).take (k + 1))) := by rw [HNK.out, cS_append]; exact hown9
        have HO := Lib.hid hown9'
        clear hown9 hown hown9'
        go_wp2
        go_roundw
        case rel => exact ⟨k + 1, by omega, by go_num, HO.out, hb9'⟩
        case measure => simp [intOf]; omega
      · have hkn : k = n := by omega
        subst hkn
        have hall : (names D).take k = names D := List.take_of_length_le (by unfold names; rw [List.length_map, ← HL.out, HN.out]; exact Nat.le_refl _)
        have hlk : k = (names D).length := by unfold names; rw [List.length_map, ← HL.out, HN.out]
        rw [hall] at hown
        have HO := Lib.hid (show wr.ownsRow w.heap.size 9 1 _ (names D).length (cS (names D)) from hlk ▸ hown)
        clear hall hlk hown
        go_wp2
        go_returns
        exact ⟨_, by simp, HO.out, hb⟩
  · have e1 : dNames D = [] := by simp [dNames, ho]
    rw [e1]
    rw [ho] at c4
    clear h ho e1
    go_enter Try.func60, Try.ntmps60
    go_wp2
    go_loop [3, 4] (fun o i => o = .slice none 0 0 ∧ i = .int .i64 0) (fun o i => 0)
    case atStart => exact ⟨rfl, rfl⟩
    case round =>
      obtain ⟨rfl, rfl⟩ := hrel
      go_wp2
      all_goals (
        go_returns
        exact ⟨_, by simp, World.ownsRow_nil _ _ _ _, Below.refl _ _⟩)
end
end Go.Proofs.Ytnpomiidkdnebaa
