/- Any record is framed as the document says: of any kind and body, behind any bytes. No condition. -/
import Derived.Test.YtbmllljieoeihaaFRef
import Derived.Test.YtbmllljieoeihaaFLives
import Derived.Test.YtbmllljieoeihaaSame
import Derived.Test.YtbmllljieoeihaaEnd
namespace Go.Proofs.Ytbmllljieoeihaa
open Go.RowKit
set_option linter.unusedVariables false

theorem own_len (A : Option Addr) (zs : List Int) (n c : Nat) (w : World) (hn : zs.length = n) (hl : n ≤ 140737488351232) (hr : Rds w w.heap.size A (c8 zs)) :
    Calls Try.prog 13 #[.slice A n c] w fun e w' =>
      ∃ g, e = .returned (.slice (some ⟨g, 0, none⟩) n (n + 5)) ∧ Whole w' g 5 (c8 (zs ++ List.replicate 5 222)).toArray ∧ w.heap.size ≤ g ∧ Below w.heap.size w w' := by
  subst hn
  exact own_any A zs c w hl hr
theorem kept_len (A : Option Addr) (zs : List Int) (n c g lim : Nat) (w : World) (hn : zs.length = n) (hl : n ≤ 140737488351232) (hr : Rds w lim A (c8 zs)) (hw : Whole w g 5 (c8 (zs ++ List.replicate 5 222)).toArray) :
    Calls Try.prog 16 #[.slice (some ⟨g, 0, none⟩) n (n + 5), .slice A n c] w fun e w' => e = .returned (.bool true) ∧ ∃ n, w' = w.drewN n := by
  subst hn
  exact kept_any A zs c g lim w hl hr hw
theorem fapp_len (A A' : Option Addr) (zs body : List Int) (c c' n m : Nat) (k : Int) (w : World) (hn : zs.length = n) (hbm : body.length = m) (hl : n ≤ 140737488400000) (hm : m ≤ 1048576) (hk : 0 ≤ k ∧ k ≤ 255) (hz : Byt zs) (hzb : Byt body)
    (hr : Rds w w.heap.size A (c8 zs)) (hr' : Rds w w.heap.size A' (c8 body)) :
    Calls Try.prog 10 #[.slice A n c, .agg #[.int .u8 k, .slice A' m c']] w fun e w' =>
      ∃ g, e = .returned (.tuple #[.slice (some ⟨g, 0, none⟩) (n + (m + 12)) (n + (m + 12)), .int .i64 0]) ∧ Whole w' g 5 (c8 (zs ++ fby ⟨k, body⟩)).toArray ∧ w.heap.size ≤ g ∧ Below w.heap.size w w' := by
  subst hn
  exact fapp_any A A' zs body c c' m k w hbm hl hm hk hz hzb hr hr'

set_option maxHeartbeats 1600000 in
theorem fwrites_walk (A : Option Addr) (zs : List Int) (c : Nat) (k : Int) (A' : Option Addr) (ys : List Int) (c' : Nat) (w : World) (hk : 0 ≤ k ∧ k ≤ 255) (hl : zs.length ≤ 140737488351232) (hl' : ys.length ≤ 140737488351232)
    (hz : Byt zs) (hy : Byt ys) (hA : A = none → zs.length = 0 ∧ c = 0) (hA' : A' = none → ys.length = 0 ∧ c' = 0) (hr : Rds w w.heap.size A (c8 zs)) (hr' : Rds w w.heap.size A' (c8 ys)) :
    Calls Try.prog 4 #[.slice A zs.length c, .int .u8 k, .slice A' ys.length c'] w fun e w' => e = .returned (.bool true) ∧ Below w.heap.size w w' := by
  have HK := Lib.hid hk
  have HZ := Lib.hid hz
  have HY := Lib.hid hy
  have HA := Lib.hid hA
  have HA' := Lib.hid hA'
  clear hz hy hA hA' hk
  generalize hn : zs.length = n at *
  generalize hm : ys.length = m at *
  go_enter Try.func4, Try.ntmps4
  go_wp2_with fail
  refine (flives_any _).mono ?_
  rintro e w1 ⟨rfl, hb1⟩
  have hr1 := hr.go hb1
  have hr1' := hr'.go hb1
  go_wp2_with fail
  refine (own_len A zs n c w1 hn hl hr1).mono ?_
  rintro e w2 ⟨g2, rfl, hw2, hg2, hb2⟩
  have hr2 := hr1.go hb2
  have hr2' := hr1'.go hb2
  have hbb2 := belowGo hb1 (Nat.le_refl _) hb2
  go_wp2_with fail
  refine (own_len A' ys m c' w2 hm hl' hr2').mono ?_
  rintro e w3 ⟨g3, rfl, hw3, hg3, hb3⟩
  have hr3 := hr2.go hb3
  have hr3' := hr2'.go hb3
  have hw23 := hw2.go hb3
  have hbb3 := belowGo hbb2 (Nat.le_refl _) hb3
  clear hr1 hr1' hr2 hr2' hb1 hb2 hb3 hbb2 hw2 hr hr' hg2 hg3
  by_cases hbig : 1048576 < m
  · go_wp2_with fail
    refine (app_long (some ⟨g2, 0, none⟩) (some ⟨g3, 0, none⟩) n (n + 5) m (m + 5) k w3 hbig (by omega)).mono ?_
    rintro e w4 ⟨rfl, hb4⟩
    have hr4 := hr3.go hb4
    have hr4' := hr3'.go hb4
    have hw24 := hw23.go hb4
    have hw34 := hw3.go hb4
    have hbb4 := belowGo hbb3 (Nat.le_refl _) hb4
    clear hr3 hr3' hw23 hw3 hbb3 hb4
    go_wp2_with fail
    refine (ref_long A A' n c m c' k w4 hbig (by omega)).mono ?_
    rintro e w5 ⟨rfl, hb5⟩
    have hr5 := hr4.go hb5
    have hr5' := hr4'.go hb5
    have hw25 := hw24.go hb5
    have hw35 := hw34.go hb5
    have hbb5 := belowGo hbb4 (Nat.le_refl _) hb5
    clear hr4 hr4' hw24 hw34 hbb4 hb5
    go_wp2_with fail
    refine (sameBytes_yes none none [] [] 0 0 0 0 w5.heap.size w5 rfl rfl (by omega) rfl Rds.nil_ Rds.nil_).mono ?_
    rintro e w6 ⟨rfl, n6, rfl⟩
    go_wp2_with fail
    refine (kept_len A zs n c g2 w5.heap.size (w5.drewN n6) hn hl (hr5.drewN n6) (hw25.drewN n6)).mono ?_
    rintro e w7 ⟨rfl, n7, rfl⟩
    go_wp2_with fail
    refine (kept_len A' ys m c' g3 w5.heap.size (w5.drewN (n6 + n7)) hm hl' (hr5'.drewN _) (hw35.drewN _)).mono ?_
    rintro e w8 ⟨rfl, n8, rfl⟩
    go_wp2
    go_ret
    exact ⟨rfl, by first | exact below_drewN hbb5 _ | exact below_drewN (below_drewN hbb5 _) _⟩
  · go_wp2_with fail
    refine (fapp_len (some ⟨g2, 0, none⟩) (some ⟨g3, 0, none⟩) zs ys (n + 5) (m + 5) n m k w3 hn hm (by omega) (by omega) HK.out HZ.out HY.out (own_reads hw23) (own_reads hw3)).mono ?_
    rintro e w4 ⟨g4, rfl, hw4, hg4, hb4⟩
    have hr4 := hr3.go hb4
    have hr4' := hr3'.go hb4
    have hw24 := hw23.go hb4
    have hw34 := hw3.go hb4
    have hbb4 := belowGo hbb3 (Nat.le_refl _) hb4
    clear hr3 hr3' hw23 hw3 hbb3 hb4
    go_wp2_with fail
    refine (refapp_any A A' zs ys c c' n m k w4 hn hm hl (by omega) HK.out HZ.out HY.out (fun h => (HA.out h).2) (fun h => (HA'.out h).2) hr4 hr4').mono ?_
    rintro e w5 ⟨D, d, rfl, hrd, hb5⟩
    have hr5 := hr4.go hb5
    have hr5' := hr4'.go hb5
    have hw25 := hw24.go hb5
    have hw35 := hw34.go hb5
    have hx5 := hw4.reads.go hb5
    have hbb5 := belowGo hbb4 (Nat.le_refl _) hb5
    have hlen : (zs ++ fby ⟨k, ys⟩).length = n + (m + 12) := by
      rw [List.length_append, fby_length, hn]
      simp only [hm]
    clear hr4 hr4' hw24 hw34 hbb4 hb5 hw4 hg4
    go_wp2_with fail
    refine (sameBytes_yes (some ⟨g4, 0, none⟩) D (zs ++ fby ⟨k, ys⟩) (zs ++ fby ⟨k, ys⟩) (n + (m + 12)) (n + (m + 12)) (n + (m + 12)) d w5.heap.size w5 hlen hlen (by omega) rfl hx5 hrd).mono ?_
    rintro e w6 ⟨rfl, n6, rfl⟩
    go_wp2_with fail
    refine (kept_len A zs n c g2 w5.heap.size (w5.drewN n6) hn hl (hr5.drewN n6) (hw25.drewN n6)).mono ?_
    rintro e w7 ⟨rfl, n7, rfl⟩
    go_wp2_with fail
    refine (kept_len A' ys m c' g3 w5.heap.size (w5.drewN (n6 + n7)) hm hl' (hr5'.drewN _) (hw35.drewN _)).mono ?_
    rintro e w8 ⟨rfl, n8, rfl⟩
    go_wp2
    go_ret
    exact ⟨rfl, by first | exact below_drewN hbb5 _ | exact below_drewN (below_drewN hbb5 _) _⟩

open Go.ChangeShapes Go.WideShapes Go.ChangeAt
set_option maxRecDepth 100000 in
theorem fwrites_lifted (os : Os) (started : os.Started) (H : Type) (enc : TypeId × Value → H) :
    ReturnsInHanded {} Try.checked os 4 .any (Rows.frameWritesSpec.pre6 enc Try.prog Try.f4 Rows.frameWritesRow.domain false) (Rows.frameWritesSpec.post enc Try.prog Try.f4 false true false false) := by
  refine returnsInHanded_of_change_sized (C := Try.checked) own started (by kernel_rfl) Try.func4
    (ChangeSpec.witness6 (enc := enc) (C := Try.checked) false ⟨#[], #[.slice none 0 0, .int .u8 0, .slice none 0 0], []⟩ 8 (by kernel_rfl) (by kernel_rfl) (by kernel_rfl) (by kernel_rfl)) ?_
  intro W base args ds gs before hval0 hW _ hsz0 _
  have hsz : (DataW.weightsEach Try.prog (Try.f4.params.toList ++ Rows.frameWritesSpec.plain.varTypes Try.prog) (ds ++ gs)).all (· ≤ reachBytes) = true := hsz0
  have hval : ∀ (j : Nat) t v, Try.f4.params[j]? = some t → args[j]? = some v → Value.okWide Try.prog W .any base t v := hval0
  have hW' := hW
  obtain ⟨p, q, hA0, hV, rfl, _, _⟩ := hW
  have hA : DataW.TrodAll enc Try.prog W 0 (fun _ => true) true Try.f4.params.toList args.toList ds p := hA0
  rw [Try.params4] at hA hval hsz
  obtain ⟨v0, vs0, d0, ds0, p0, q0, hargs, rfl, rfl, h0, r0⟩ := trodAll_cons hA
  obtain ⟨v1, vs1, d1, ds1, p1, q1, rfl, rfl, rfl, h1, r1⟩ := trodAll_cons r0
  obtain ⟨v2, vs2, d2, ds2, p2, q2, rfl, rfl, rfl, h2, r2⟩ := trodAll_cons r1
  obtain ⟨rfl, rfl, rfl⟩ := trodAll_nil r2
  obtain rfl : args = #[v0, v1, v2] := by cases args; simp_all
  obtain ⟨A0, zs0, c0, hb0⟩ := open_bytes Try.underlying23 Try.underlying5 cells8 (hval 0 23 v0 rfl rfl) h0
  have hl0 := hb0.reach hsz (j := 0) (t := 23) (e := 5) rfl rfl Try.underlying23 bytes8
  obtain rfl := hb0.val
  obtain ⟨a1, rfl, rfl, rfl, w1⟩ := open_int Try.underlying5 (hval 1 5 v1 rfl rfl) h1
  have b1 := bounds_u8 w1
  obtain ⟨A2, zs2, c2, hb2⟩ := open_bytes Try.underlying23 Try.underlying5 cells8 (hval 2 23 v2 rfl rfl) h2
  have hl2 := hb2.reach hsz (j := 2) (t := 23) (e := 5) rfl rfl Try.underlying23 bytes8
  obtain rfl := hb2.val
  exact law_close laid rfl hW' (by kernel_rfl) rfl Try.underlying4 rfl (fwrites_walk A0 zs0 c0 a1 A2 zs2 c2 W b1 hl0 hl2 hb0.byt hb2.byt hb0.nil_ hb2.nil_ hb0.rds hb2.rds)

theorem frameWrites_holds : Rows.FrameWritesSaid :=
  OpenClaim.holds_of_wide 4 Try.f4 rfl rfl rfl rfl rfl rfl rfl ⟨rfl, rfl, rfl, rfl, rfl⟩ rfl rfl rfl rfl rfl (by kernel_rfl) Try.func4 (by kernel_rfl)
    (of_decide_eq_true (by kernel_rfl)) (by unfold Func.isWrapper; first | (rw [if_pos (by decide +kernel)]; kernel_rfl) | (rw [if_neg (by decide +kernel)]; exact ⟨rfl, rfl⟩))
    (fun os started H enc _ => fwrites_lifted os started H enc)

#print axioms frameWrites_holds

end Go.Proofs.Ytbmllljieoeihaa
