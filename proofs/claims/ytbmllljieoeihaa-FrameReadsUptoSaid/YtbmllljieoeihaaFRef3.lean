/- The walk over the document's own Scan of frames. -/
import Derived.Test.YtbmllljieoeihaaFRef2
import Derived.Test.YtbmllljieoeihaaFScan
namespace Go.Proofs.Ytbmllljieoeihaa
open Go.RowKit
set_option linter.unusedVariables false

theorem refread_at (A : Option Addr) (zs : List Int) (n c : Nat) (w : World) (hn : zs.length = n) (hl : n ≤ 140737492549632) (hc : n ≤ c) (hz : Byt zs) (hr : Rds w w.heap.size A (c8 zs)) :
    Calls Try.prog 17 #[.slice A n c] w fun e w' => ∃ A' c', e = .returned (.tuple #[.agg #[.int .u8 (frd zs).k, .slice A' (frd zs).body.length c'], .int .i64 ((mea zs).1 : Nat), .int .i64 ((mea zs).2 : Nat)]) ∧
      w'.ownsRow w.heap.size 5 1 (.slice A' (frd zs).body.length c') (frd zs).body.length (c8 (frd zs).body) ∧ Below w.heap.size w w' := by
  subst hn
  exact refread_any A zs c w hl hc hz hr

/-- where the document's scan stands -/
structure RScanAt (zs : List Int) (w wr : World) (N : Nat) (rs : List FR) (v : Value) : Prop where
  le : N ≤ zs.length
  told : scn zs = (rs.map FR.f ++ (scn (zs.drop N)).1, N + (scn (zs.drop N)).2.1, (scn (zs.drop N)).2.2)
  few : rs.length ≤ N
  row : wr.ownsRow w.heap.size 28 2 v rs.length (cF rs)
  bds : Bds wr w.heap.size rs
  below : Below w.heap.size w wr

theorem RScanAt.next {zs : List Int} {w wr w' w2 : World} {N S : Nat} {rs : List FR} {v v' : Value} {A5 : Option Addr} {c5 : Nat} {o : Obj} (h : RScanAt zs w wr N rs v)
    (hE : (mea (zs.drop N)).2 = 0) (hS : (mea (zs.drop N)).1 = S)
    (hown : w2.ownsRow wr.heap.size 5 1 (.slice A5 (frd (zs.drop N)).body.length c5) (frd (zs.drop N)).body.length (c8 (frd (zs.drop N)).body)) (hb : Below wr.heap.size wr w2)
    (hrow : w'.ownsRow w.heap.size 28 2 v' (rs.length + 1) (cF rs ++ [.int .u8 (frd (zs.drop N)).k, .slice A5 (frd (zs.drop N)).body.length c5]))
    (hg : ((w2.alloc o).alloc (.cells #[.int .u8 (frd (zs.drop N)).k, .slice A5 (frd (zs.drop N)).body.length c5] 28)).grownBy w' v.ownBlock) :
    RScanAt zs w w' (N + S) (rs ++ [⟨frd (zs.drop N), A5, c5⟩]) v' := by
  subst hS
  obtain ⟨h12, hSl⟩ := mea_le hE
  rw [List.length_drop] at hSl
  have hst := scn_step hE
  have hw1 := h.below.size
  have hb2 := belowGo h.below (Nat.le_refl _) hb
  have hrA := ((own_below h.row hb).alloc o).alloc (.cells #[.int .u8 (frd (zs.drop N)).k, .slice A5 (frd (zs.drop N)).body.length c5] 28)
  have hbA : Below w.heap.size w ((w2.alloc o).alloc (.cells #[.int .u8 (frd (zs.drop N)).k, .slice A5 (frd (zs.drop N)).body.length c5] 28)) := (hb2.alloc hb2.size _).alloc (hb2.alloc hb2.size _).size _
  have keep : ∀ (u : Value) (n : Nat) (xs : List Value), w2.ownsRow w.heap.size 5 1 u n xs → w'.ownsRow w.heap.size 5 1 u n xs := fun u n xs hu =>
    own_far (by decide) ((hu.alloc _).alloc _) hrA hg
  refine ⟨by omega, ?_, by have := h.few; simp; omega, ?_, ?_, hbA.grown hg hbA.size (fun q hq => (hrA.lt q hq).1)⟩
  · rw [h.told, hst]
    simp [Nat.add_assoc]
  · rw [List.length_append, cF_append]
    exact hrow
  · intro r hr
    rcases List.mem_append.1 hr with hr | hr
    · exact keep _ _ _ (own_below (h.bds r hr) hb)
    · simp only [List.mem_cons, List.not_mem_nil, or_false] at hr
      subst hr
      exact keep _ _ _ (own_base hown hw1)

set_option maxHeartbeats 3200000 in
theorem refscan_any (A : Option Addr) (zs : List Int) (c : Nat) (w : World) (hl : zs.length ≤ 1099511627776) (hc : zs.length ≤ c) (hz : Byt zs) (hr : Rds w w.heap.size A (c8 zs)) :
    Calls Try.prog 18 #[.slice A zs.length c] w fun e w' => ∃ A' c' rs, e = .returned (.tuple #[.slice A' rs.length c', .int .i64 ((scn zs).2.1 : Nat), .int .i64 ((scn zs).2.2 : Nat)]) ∧
      rs.map FR.f = (scn zs).1 ∧ w'.ownsRow w.heap.size 28 2 (.slice A' rs.length c') rs.length (cF rs) ∧ Bds w' w.heap.size rs ∧ Below w.heap.size w w' := by
  obtain ⟨i0, hi, hz0, hz1, hz2⟩ := info_parts info28
  have HZ := Lib.hid hz
  clear hz
  go_enter Try.func18, Try.ntmps18
  go_wp2
  go_loopw [5, 6] (fun l n wr => ∃ (N : Nat) (rs : List FR) (v : Value), v = l ∧ n = .int .i64 N ∧ RScanAt zs w wr N rs v) (fun _ n _ => zs.length - (intOf n).toNat)
  case atStart => exact ⟨0, [], .slice none 0 0, rfl, rfl, by omega, by simp, by simp, ⟨rfl, .inl ⟨rfl, rfl⟩⟩, (fun r hr => by cases hr), Below.refl _ _⟩
  case round =>
    obtain ⟨N, rs, v, rfl, rfl, hs⟩ := hrel
    have HS := Lib.hid hs
    have hle := hs.le
    clear hs
    by_cases hlt : N < zs.length
    · obtain ⟨ad, rfl, _, _⟩ := hr.at_ (c8_get (show 0 < zs.length by omega))
      have hcN : ¬ c = N := by omega
      have hNc : (N : Int) ≤ (c : Int) := by omega
      have hd := hr.drop N c (by rw [c8_length]; exact hc)
      rw [if_neg hcN, ← c8_drop] at hd
      have hrd : Rds wr wr.heap.size (some (ad.add N)) (c8 (zs.drop N)) := ((show Rds w w.heap.size (some (ad.add N)) (c8 (zs.drop N)) from hd).below HS.out.below).more HS.out.below.size
      have hR := refread_at (some (ad.add N)) (zs.drop N) (zs.length - N) (c - N) wr (by rw [List.length_drop]) (by omega) (by omega) (HZ.out.drop _) hrd
      clear hd
      by_cases hE : (mea (zs.drop N)).2 = 0
      · obtain ⟨h12, hSl⟩ := mea_le hE
        rw [List.length_drop] at hSl
        rw [hE] at hR
        have HE := Lib.hid hE
        generalize hSg : (mea (zs.drop N)).1 = S at *
        have HSG := Lib.hid hSg
        generalize hfr : frd (zs.drop N) = fr at *
        have hf := HS.out.few
        have hrow := HS.out.row
        have hBs := HS.out.below.size
        clear hE hSg
        go_wp2_with fail
        refine hR.mono ?_
        rintro e w2 ⟨A5, c5, rfl, hown5, hb5⟩
        have hrow2 := (own_below hrow hb5).alloc (.cells #[.int .u8 fr.k, .slice A5 fr.body.length c5] 28)
        have hBs2 : w.heap.size ≤ (w2.alloc (.cells #[.int .u8 fr.k, .slice A5 fr.body.length c5] 28)).heap.size := by have := hb5.size; simp; omega
        clear hR hrd
        go_wp2_with (at_builtin; go_loud (refine app_frame (w2.alloc (.cells #[.int .u8 fr.k, .slice A5 fr.body.length c5] 28)) rfl (.tmp 27) (.tmp 29) 31 rfl w.heap.size 28 i0 (.agg #[.int .u8 0, .slice none 0 0]) Try.underlying31 hi hz0 hz1 hz2 rfl v rs.length (cF rs) rfl hrow2 (.int .u8 fr.k) (.slice A5 fr.body.length c5) (by simp [Act.eval, Act.put]) rfl rfl (by omega) hBs2 ?_))
        intro v' w' hown' hg'
        subst hfr
        have hnx := RScanAt.next HS.out HE.out HSG.out hown5 hb5 hown' hg'
        have HNX := Lib.hid hnx
        clear hnx hown' hg' hown5 hb5 hrow2 hBs2
        go_wp2
        go_roundw
        case rel => exact ⟨N + S, _, v', rfl, by go_num, HNX.out⟩
        case measure => simp [intOf] <;> omega
      · have hend := scn_end hE
        have ht := HS.out.told
        rw [hend, List.append_nil, Nat.add_zero, List.length_drop, if_neg (by omega)] at ht
        have hne : (((mea (zs.drop N)).2 : Nat) : Int) ≠ 0 := by omega
        have HT := Lib.hid ht
        obtain ⟨A', c', rfl⟩ := row_shape HS.out.row
        generalize hEg : (mea (zs.drop N)).2 = E at *
        clear ht hend hE
        go_wp2_with fail
        refine hR.mono ?_
        rintro e w2 ⟨A5, c5, rfl, _, hb5⟩
        have hrow := (own_below HS.out.row hb5).alloc (.cells #[.int .u8 (frd (zs.drop N)).k, .slice A5 (frd (zs.drop N)).body.length c5] 28)
        have hbd : Bds (w2.alloc (.cells #[.int .u8 (frd (zs.drop N)).k, .slice A5 (frd (zs.drop N)).body.length c5] 28)) w.heap.size rs := fun r hr => (own_below (HS.out.bds r hr) hb5).alloc _
        have hbl := belowGo HS.out.below (Nat.le_refl _) hb5
        clear hR hrd hb5
        go_wp2
        go_returns
        exact ⟨A', c', rs, by rw [HT.out]; rfl, by rw [HT.out], hrow, hbd, hbl.alloc hbl.size _⟩
    · obtain rfl : N = zs.length := by omega
      have ht := HS.out.told
      rw [List.drop_length, scn_nil, List.append_nil, Nat.add_zero] at ht
      have HT := Lib.hid ht
      obtain ⟨A', c', rfl⟩ := row_shape HS.out.row
      have hrow := HS.out.row
      have hbd := HS.out.bds
      have hbl := HS.out.below
      clear ht
      go_wp2
      go_returns
      exact ⟨A', c', rs, by rw [HT.out]; rfl, by rw [HT.out], hrow, hbd, hbl⟩

end Go.Proofs.Ytbmllljieoeihaa
