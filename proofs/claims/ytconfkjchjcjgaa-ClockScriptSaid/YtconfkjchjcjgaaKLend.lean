/- A course is small; it is laid into memory of its own. -/
import Derived.Test.YtconfkjchjcjgaaKLives
import Derived.Maps.AppendAt
namespace Go.Proofs.Ytconfkjchjcjgaa
open Go.RowKit
set_option linter.unusedVariables false

theorem own_far {w w' : World} {B B' : Nat} {e e' : TypeId} {k k' n m : Nat} {u v : Value} {xs ys : List Value} (hne : e ≠ e') (h : w.ownsRow B e k u n xs) (hv : w.ownsRow B' e' k' v m ys) (hg : w.grownBy w' v.ownBlock) : w'.ownsRow B e k u n xs := by
  refine ⟨h.1, ?_⟩
  rcases h.2 with h2 | ⟨g, cap, cur, h1, h2, h3, h4⟩
  · exact .inl h2
  · refine .inr ⟨g, cap, cur, h1, h2, (hg.block g (Array.getElem?_eq_some_iff.1 h3).1 (fun hb => ?_)).trans h3, h4⟩
    rcases hv.2 with ⟨hv2, _⟩ | ⟨g', cap', cur', hv1, _, hv3, _⟩
    · rw [hv2] at hb; cases hb
    · rw [hv1] at hb
      have hbb : some g = some g' := hb
      obtain rfl := Option.some.inj hbb
      rw [h3] at hv3
      simp only [Option.some.injEq, Obj.cells.injEq] at hv3
      exact hne hv3.2.1
theorem own_below {w w' : World} {B k n : Nat} {e : TypeId} {u : Value} {xs : List Value} (h : w.ownsRow B e k u n xs) (hb : Below w.heap.size w w') : w'.ownsRow B e k u n xs := by
  refine ⟨h.1, ?_⟩
  rcases h.2 with h2 | ⟨g, cap, cur, h1, h2, h3, h4⟩
  · exact .inl h2
  · exact .inr ⟨g, cap, cur, h1, h2, (hb.block g (Array.getElem?_eq_some_iff.1 h3).1).trans h3, h4⟩
theorem app_oneg {P : Program} (w : World) {ops : Array Oper} {rest : List Oper} {o : Oper} {a : Act} {Q : Exit → Act → World → Prop} (hgd : o.guard = none) (s x : Operand) (t : TypeId)
    (ho : o.op = .call { callee := .builtin .append, args := #[s, x], argTypes := #[t, t] })
    (B : Nat) (e : TypeId) (i : TypeInfo) (z : Value) (bytes : Nat) (ht : P.underlying t = some (.slice e)) (hi : P.info? e = some i) (hz : i.zero = some z)
    (hsize : i.size = 1) (hby : i.bytes = bytes) (hzs : z.cells.size = 1)
    (v : Value) (n : Nat) (xs : List Value) (hs : a.eval s = v) (hown : w.ownsRow B e 1 v n xs) (u : Value) (hx : a.eval x = .slice (some ⟨w.heap.size, 0, none⟩) 1 1) (h1 : u.oneCell' = true)
    (hn : n + 1 ≤ maxLen) (hbytes : (n + 1) * bytes ≤ 140737488355328) (hB : B ≤ w.heap.size)
    (h : ∀ v' w', w'.ownsRow B e 1 v' (n + 1) (xs ++ [u]) → (w.alloc (.cells #[u] e)).grownBy w' v.ownBlock → wpList P ops Q rest (a.put o.dst v') w') : wpList P ops Q (o :: rest) a (w.alloc (.cells #[u] e)) := by
  refine wpList_append_own_at _ hgd s x t ho B e i z 1 bytes ht hi hz hsize hby hzs (by decide) v n xs hs (hown.alloc _) ⟨w.heap.size, 0, none⟩ 1 1 [u] hx rfl (one_new w e u) (by simpa using h1) hn hbytes (by simp; omega) ?_
  intro v' w' hown' hg _ _
  exact h v' w' hown' hg


/-- is a course gone through? -/
def smallB (rs : List Ro) : Bool := rs.all (fun r => decide (r.xs.length ≤ 64)) && decide (rs.length ≤ 200)
theorem smallB_iff {rs : List Ro} : smallB rs = true ↔ (∀ r ∈ rs, r.xs.length ≤ 64) ∧ rs.length ≤ 200 := by
  unfold smallB
  simp
set_option maxHeartbeats 2000000 in
set_option maxRecDepth 100000 in
theorem small_any {A : Option Addr} {rs : List Ro} {n c lim : Nat} (w : World) (hn : rs.length = n) (hm : n ≤ 140737488351232) (hC : Course w lim A rs) :
    Calls Try.prog 20 #[.slice A n c] w fun e w' => e = .returned (.bool (smallB rs)) ∧ w = w' := by
  have HN := Lib.hid hn
  clear hn
  go_enter Try.func20, Try.ntmps20
  go_wp2
  go_loop [3] (fun i => ∃ k : Nat, k ≤ n ∧ i = .int .i64 k ∧ ∀ j (hj : j < rs.length), j < k → rs[j].xs.length ≤ 64) (fun i => n - (intOf i).toNat)
  case atStart => exact ⟨0, by omega, rfl, fun j _ hj => absurd hj (Nat.not_lt_zero j)⟩
  case round =>
    obtain ⟨k, hk, rfl, hno⟩ := hrel
    have HNO := Lib.hid hno
    clear hno
    by_cases hlt : k < n
    · have hkx : k < rs.length := by have := HN.out; omega
      obtain ⟨ad, hA, hlad, hcell⟩ := hC.rows.at_ (ro_get hkx)
      have hlen := hC.len rs[k] (List.getElem_mem _)
      have HC := Lib.hid hC
      obtain ⟨L, hL⟩ : ∃ L, rs[k].xs.length = L := ⟨_, rfl⟩
      rw [hL] at hcell hlen
      have HL := Lib.hid hL
      clear hC hL
      subst hA
      by_cases h64 : L ≤ 64
      · have t1 : decide ((64 : Int) < (L : Int)) = false := decide_eq_false (by omega)
        go_wp2
        go_round
        case rel =>
          refine ⟨k + 1, by omega, by go_num, fun j hj hjk => ?_⟩
          rcases Nat.lt_or_ge j k with q | q
          · exact HNO.out j hj q
          · obtain rfl : j = k := by omega
            rw [HL.out]; exact h64
        case measure => simp [intOf]; omega
      · have t1 : decide ((64 : Int) < (L : Int)) = true := decide_eq_true (by omega)
        have hf : smallB rs = false := by
          cases e : smallB rs
          · rfl
          · have := (smallB_iff.1 e).1 rs[k] (List.getElem_mem _)
            rw [HL.out] at this
            omega
        have HF := Lib.hid hf
        clear hf
        go_wp2
        go_ret
        exact ⟨by rw [HF.out]; rfl, rfl⟩
    · have HS : Hid (smallB rs = decide ((n : Int) ≤ 200)) := Lib.hid (by
        have hall : ∀ r ∈ rs, r.xs.length ≤ 64 := fun r hr => by
          obtain ⟨j, hj, rfl⟩ := List.getElem_of_mem hr
          exact HNO.out j hj (by have := HN.out; omega)
        unfold smallB
        rw [show rs.all (fun r => decide (r.xs.length ≤ 64)) = true from List.all_eq_true.2 fun r hr => decide_eq_true (hall r hr), Bool.true_and, HN.out]
        exact decide_eq_decide.2 (by omega))
      go_wp2
      go_ret
      exact ⟨by rw [HS.out]; rfl, rfl⟩

theorem infoRow : (Try.prog.info? 61).map (fun i => (i.zero, i.size, i.bytes)) = some (some (.slice none 0 0), 1, 24) := by kernel_rfl
/-- rows of the call's own -/
def Owned (B : Nat) (w : World) (rs : List Ro) : Prop := ∀ r ∈ rs, w.ownsRow B 3 1 r.v r.xs.length (cI r.xs)
theorem cI_one (xs : List Int) : ∀ u ∈ cI xs, u.oneCell' = true := by
  intro u hu
  obtain ⟨_, _, rfl⟩ := List.mem_map.1 hu
  rfl
theorem lend_kept {wr w2 : World} {B n : Nat} {e : TypeId} {v : Value} {xs : List Value} {o : Obj} (h : wr.ownsRow B e 1 v n xs) (hb : Below wr.heap.size (wr.alloc o) w2) : w2.ownsRow B e 1 v n xs :=
  ownRow_block_kept h fun g hg => by
    have hlt := (ownRow_block h hg).2.1
    rw [hb.block g hlt]
    exact Below.heap_alloc wr o g hlt
theorem lend_base {w2 : World} {B B' n : Nat} {e : TypeId} {v : Value} {xs : List Value} (h : w2.ownsRow B e 1 v n xs) (hb : B' ≤ B) : w2.ownsRow B' e 1 v n xs := ownRow_base h fun g hg => Nat.le_trans hb (ownRow_block h hg).1
theorem lend_below {w wr w2 w3 : World} {n : Nat} {e : TypeId} {v : Value} {xs : List Value} {o o' : Obj} (h : Below w.heap.size w wr) (hb : Below wr.heap.size (wr.alloc o) w2) (hg : (w2.alloc o').grownBy w3 v.ownBlock) (hr : w2.ownsRow w.heap.size e 1 v n xs) : Below w.heap.size w w3 := by
  have h2 : Below w.heap.size w w2 := (h.alloc h.size o).trans (hb.mono h.size)
  have h3 := h2.alloc h2.size o'
  exact h3.grown hg h3.size fun k hk => (ownRow_block hr hk).1
set_option maxHeartbeats 4000000 in
set_option maxRecDepth 100000 in
theorem lend_any {A : Option Addr} {rs : List Ro} {n c : Nat} (w : World) (hn : rs.length = n) (hm : n ≤ 200) (h64 : ∀ r ∈ rs, r.xs.length ≤ 64) (hC : Course w w.heap.size A rs) :
    Calls Try.prog 21 #[.slice A n c] w fun e w' => ∃ A' c' rs', e = .returned (.slice A' n c') ∧ rs'.length = n ∧ rs'.map Ro.xs = rs.map Ro.xs ∧ Course w' w'.heap.size A' rs' ∧ Below w.heap.size w w' := by
  obtain ⟨i0, hi, hz0, hz1, hz2⟩ := info_parts infoI
  obtain ⟨j0, hj, hy0, hy1, hy2⟩ := info_parts infoRow
  have HN := Lib.hid hn
  have H64 := Lib.hid h64
  clear hn h64
  go_enter Try.func21, Try.ntmps21
  go_wp2
  go_loopw [3, 4] (fun v i wr => ∃ (k : Nat) (rs' : List Ro), k ≤ n ∧ i = .int .i64 k ∧ rs'.length = k ∧ rs'.map Ro.xs = (rs.take k).map Ro.xs ∧ wr.ownsRow w.heap.size 61 1 v k (rs'.map Ro.v) ∧ Owned w.heap.size wr rs' ∧ Below w.heap.size w wr) (fun _ i _ => n - (intOf i).toNat)
  case atStart => exact ⟨0, [], by omega, rfl, rfl, by simp, ⟨rfl, .inl ⟨rfl, rfl⟩⟩, fun r hr => (by cases hr), Below.refl _ _⟩
  case round =>
    obtain ⟨k, rs', hk, rfl, hl', hx', hown, hrs', hbk⟩ := hrel
    have HL' := Lib.hid hl'
    have HX' := Lib.hid hx'
    have HRS := Lib.hid hrs'
    by_cases hlt : k < n
    · have hkx : k < rs.length := by have := HN.out; omega
      have hC' := hC.below hbk
      obtain ⟨ad, hA, hlad, hcell⟩ := hC'.rows.at_ (ro_get hkx)
      have hxs := hC'.each rs[k] (List.getElem_mem _)
      have hlen := H64.out rs[k] (List.getElem_mem _)
      have hnil := hC'.nil_ rs[k] (List.getElem_mem _)
      have HK := Lib.hid (show (rs.take (k + 1)).map Ro.xs = (rs.take k).map Ro.xs ++ [rs[k].xs] by rw [List.take_succ_eq_append_getElem hkx, List.map_append]; rfl)
      generalize hx : rs[k] = x at *
      clear hx hl' hx' hrs'
      have HC := Lib.hid hC
      clear hC hC'
      subst hA
      have HXS := Lib.hid hxs
      have HOWN := Lib.hid hown
      obtain ⟨A0, q0, rfl, -⟩ := own_open hown
      obtain ⟨L, hL⟩ : ∃ L, x.xs.length = L := ⟨_, rfl⟩
      rw [hL] at hcell hlen
      have HL := Lib.hid hL
      clear hL hxs hown
      have HA0 := Lib.hid hnil
      clear hnil
      have hrow0 : (wr.alloc (.cells #[] 3)).ownsRow wr.heap.size 3 1 (.slice (some ⟨wr.heap.size, 0, none⟩) 0 0) 0 [] := World.ownsRow_made wr #[] 0 (Nat.le_refl _) (Nat.zero_le _) rfl
      have hcell2 : (wr.alloc (.cells #[] 3)).cell? (ad.add k) = some (.slice x.A L x.c) := by
        rw [World.cell?_alloc_lt _ _ _ (by rw [blk_add]; have := hbk.size; omega)]
        exact hcell
      have HR0 := Lib.hid hrow0
      clear hrow0
      go_wp2_with (first
        | (at_builtin; refine app_many _ rfl (.tmp 12) (.tmp 16) 61 rfl wr.heap.size 3 i0 (.int .i64 0) 8 Try.underlying61 hi hz0 hz1 hz2 rfl _ 0 [] rfl HR0.out x.A L x.c _ (cI x.xs) rfl (by rw [cI_length]; exact HL.out.symm) ((HXS.out.more hbk.size).alloc (Nat.le_refl _) _) HA0.out (cI_one _) (by unfold maxLen; omega) (by omega) (by simp) ?_; intro v2 w2 hown2 hb2; rw [Nat.zero_add, List.nil_append] at hown2; obtain ⟨A2, q2, rfl, -⟩ := own_open hown2; have HB2 := Lib.hid hb2; have HW2 := Lib.hid hown2; have HO2 := Lib.hid (lend_kept HOWN.out hb2); clear hb2 hown2)
        | (at_builtin; go_loud (refine app_oneg _ rfl (.tmp 11) (.tmp 18) 28 rfl w.heap.size 61 j0 (.slice none 0 0) 24 Try.underlying28 hj hy0 hy1 hy2 rfl (.slice A0 k q0) k _ rfl HO2.out (.slice A2 L q2) rfl rfl (by unfold maxLen; omega) (by omega) (by have := hbk.size; have := HB2.out.size; simp at this; omega) ?_); intro v3 w3 hown3 hg3))
      have hb3 : Below w.heap.size w w3 := lend_below hbk HB2.out hg3 HO2.out
      have hrx : w3.ownsRow w.heap.size 3 1 (.slice A2 L q2) L (cI x.xs) := own_far (by decide) ((lend_base HW2.out hbk.size).alloc _) (HO2.out.alloc _) hg3
      have hrs3 : Owned w.heap.size w3 rs' := fun r hr => own_far (by decide) ((lend_kept (HRS.out r hr) HB2.out).alloc _) (HO2.out.alloc _) hg3
      refine ⟨⟨k + 1, rs' ++ [⟨A2, x.xs, q2⟩], by omega, by go_num, by simp [HL'.out], ?_, ?_, fun r hr => ?_, hb3⟩, by simp [intOf]; omega⟩
      · rw [HK.out, List.map_append, HX'.out]
        rfl
      · rw [List.map_append]
        have e : ([⟨A2, x.xs, q2⟩] : List Ro).map Ro.v = [.slice A2 L q2] := by simp [Ro.v, HL.out]
        rw [e]
        exact hown3
      · rcases List.mem_append.1 hr with hr | hr
        · exact hrs3 r hr
        · rw [List.mem_singleton.1 hr]
          show w3.ownsRow w.heap.size 3 1 (.slice A2 x.xs.length q2) x.xs.length (cI x.xs)
          rw [HL.out]
          exact hrx
    · obtain rfl : k = n := by omega
      have hx := HX'.out
      rw [List.take_of_length_le (by rw [HN.out]; exact Nat.le_refl _)] at hx
      have HXX := Lib.hid hx
      obtain ⟨A0, q0, rfl, hrd, -⟩ := own_open hown
      have HRD := Lib.hid hrd
      clear hx hrd hown hrs' hx' hl'
      go_wp2
      go_ret
      refine ⟨A0, q0, rs', rfl, HL'.out, HXX.out, ⟨HRD.out, fun r hr => ?_, ?_, ?_, fun r hr e => ?_⟩, hbk⟩
      · exact Rds.ofOwn (HRS.out r hr)
      · intro r hr
        obtain ⟨r0, hr0, e⟩ := List.mem_map.1 (show r.xs ∈ rs.map Ro.xs by rw [← HXX.out]; exact List.mem_map_of_mem hr)
        rw [← e]
        exact hC.i64 r0 hr0
      · intro r hr
        obtain ⟨r0, hr0, e⟩ := List.mem_map.1 (show r.xs ∈ rs.map Ro.xs by rw [← HXX.out]; exact List.mem_map_of_mem hr)
        rw [← e]
        exact hC.len r0 hr0
      · have h1 := (HRS.out r hr).2
        unfold Ro.v at h1
        rcases h1 with ⟨h1, _⟩ | ⟨g, cap, cur, h1, _⟩
        · injection h1
        · injection h1 with h1
          rw [e] at h1
          cases h1
end Go.Proofs.Ytconfkjchjcjgaa
