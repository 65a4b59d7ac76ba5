/- The statement on disks that are not there: a disk that is nil, or that nobody made, refuses every call. -/
import Derived.Test.YtnpomiidkdnebaaDNo
import Derived.Test.YtnpomiidkdnebaaDLives
import Derived.Test.YtnpomiidkdnebaaEnd
namespace Go.Proofs.Ytnpomiidkdnebaa
open Go.RowKit
set_option linter.unusedVariables false

def zeroDisk : Array Value := #[.pointer none, .bool false, .int .i64 0, .int .i64 0, .int .i64 0, .map none]

set_option maxHeartbeats 4000000 in
set_option maxRecDepth 8000 in
theorem nil_walk (s : ByteArray) (A : Option Addr) (L c : Nat) (i : Int) (w : World) : Calls Try.prog 5 #[.string s, .slice A L c, .int .i64 i] w fun e w' => e = .returned (.bool true) ∧ Below w.heap.size w w' := by
  go_enter Try.func5, Try.ntmps5
  go_wp2_with fail
  have hb0 : Below w.heap.size w ((w.alloc (.cells zeroDisk 54)).alloc (.cells #[.pointer none, .pointer (some ⟨w.heap.size, 0, none⟩)] 23)) := ((Below.refl _ _).alloc (Nat.le_refl _) _).alloc (by simp) _
  have hw0 : Whole ((w.alloc (.cells zeroDisk 54)).alloc (.cells #[.pointer none, .pointer (some ⟨w.heap.size, 0, none⟩)] 23)) w.heap.size 54 zeroDisk := (Whole.new _ _ _).alloc _
  have hw1 : Whole ((w.alloc (.cells zeroDisk 54)).alloc (.cells #[.pointer none, .pointer (some ⟨w.heap.size, 0, none⟩)] 23)) (w.heap.size + 1) 23 #[.pointer none, .pointer (some ⟨w.heap.size, 0, none⟩)] := by
    have := Whole.new (w.alloc (.cells zeroDisk 54)) 23 #[.pointer none, .pointer (some ⟨w.heap.size, 0, none⟩)]
    simpa using this
  change Below _ _ ((w.alloc (.cells #[.pointer none, .bool false, .int .i64 0, .int .i64 0, .int .i64 0, .map none] 54)).alloc (.cells #[.pointer none, .pointer (some ⟨w.heap.size, 0, none⟩)] 23)) at hb0
  change Whole ((w.alloc (.cells #[.pointer none, .bool false, .int .i64 0, .int .i64 0, .int .i64 0, .map none] 54)).alloc (.cells #[.pointer none, .pointer (some ⟨w.heap.size, 0, none⟩)] 23)) _ _ _ at hw0
  change Whole ((w.alloc (.cells #[.pointer none, .bool false, .int .i64 0, .int .i64 0, .int .i64 0, .map none] 54)).alloc (.cells #[.pointer none, .pointer (some ⟨w.heap.size, 0, none⟩)] 23)) _ _ _ at hw1
  generalize ((w.alloc (.cells #[.pointer none, .bool false, .int .i64 0, .int .i64 0, .int .i64 0, .map none] 54)).alloc (.cells #[.pointer none, .pointer (some ⟨w.heap.size, 0, none⟩)] 23)) = W at *
  go_loopw [8] (fun i wr => ∃ k : Nat, k ≤ 2 ∧ i = .int .i64 k ∧ Below w.heap.size w wr ∧ Whole wr w.heap.size 54 zeroDisk ∧ Whole wr (w.heap.size + 1) 23 #[.pointer none, .pointer (some ⟨w.heap.size, 0, none⟩)]) (fun i _ => 2 - (intOf i).toNat)
  case atStart => exact ⟨0, by omega, rfl, hb0, hw0, hw1⟩
  case round =>
    obtain ⟨k, hk, rfl, Bwr, Wwr, Lwr⟩ := hrel
    by_cases hlt : k < 2
    · obtain ⟨p, hp, Hwr, Hlwr⟩ : ∃ p, wr.cell? ⟨w.heap.size + 1, k, none⟩ = some (.pointer p) ∧ Nobody wr p ∧ ∀ d, p = some d → d.block < wr.heap.size := by
        have hk2 : k = 0 ∨ k = 1 := by omega
        rcases hk2 with rfl | rfl
        · exact ⟨none, Lwr.cell 0, .inl rfl, fun d e => by cases e⟩
        · exact ⟨some ⟨w.heap.size, 0, none⟩, Lwr.cell 1, .inr ⟨w.heap.size, rfl, Wwr.cell 0⟩, fun d e => by cases e; exact Wwr.lt⟩
      have hklt : (k : Int) < 2 := by omega
      clear hb0 hw0 hw1
      go_wp2_with fail
      refine (read_no Hwr Hlwr s).mono ?_
      rintro e v1 ⟨rfl, hb⟩
      have Hv1 := Hwr.below Hlwr hb
      have Hlv1 : ∀ d, p = some d → d.block < v1.heap.size := fun d e => Nat.lt_of_lt_of_le (Hlwr d e) hb.size
      have Wv1 := Wwr.below hb Wwr.lt
      have Lv1 := Lwr.below hb Lwr.lt
      have Bv1 := Bwr.trans (hb.mono Bwr.size)
      clear hb Hwr Hlwr Wwr Lwr Bwr
      go_wp2_with fail
      refine (synced_no Hv1 Hlv1 s).mono ?_
      rintro e v2 ⟨rfl, hb⟩
      have Hv2 := Hv1.below Hlv1 hb
      have Hlv2 : ∀ d, p = some d → d.block < v2.heap.size := fun d e => Nat.lt_of_lt_of_le (Hlv1 d e) hb.size
      have Wv2 := Wv1.below hb Wv1.lt
      have Lv2 := Lv1.below hb Lv1.lt
      have Bv2 := Bv1.trans (hb.mono Bv1.size)
      clear hb Hv1 Hlv1 Wv1 Lv1 Bv1
      go_wp2_with fail
      refine (make_no Hv2 Hlv2 s).mono ?_
      rintro e v3 ⟨rfl, hb⟩
      have Hv3 := Hv2.below Hlv2 hb
      have Hlv3 : ∀ d, p = some d → d.block < v3.heap.size := fun d e => Nat.lt_of_lt_of_le (Hlv2 d e) hb.size
      have Wv3 := Wv2.below hb Wv2.lt
      have Lv3 := Lv2.below hb Lv2.lt
      have Bv3 := Bv2.trans (hb.mono Bv2.size)
      clear hb Hv2 Hlv2 Wv2 Lv2 Bv2
      go_wp2_with fail
      refine (append_no Hv3 Hlv3 s (.slice A L c)).mono ?_
      rintro e v4 ⟨rfl, hb⟩
      have Hv4 := Hv3.below Hlv3 hb
      have Hlv4 : ∀ d, p = some d → d.block < v4.heap.size := fun d e => Nat.lt_of_lt_of_le (Hlv3 d e) hb.size
      have Wv4 := Wv3.below hb Wv3.lt
      have Lv4 := Lv3.below hb Lv3.lt
      have Bv4 := Bv3.trans (hb.mono Bv3.size)
      clear hb Hv3 Hlv3 Wv3 Lv3 Bv3
      go_wp2_with fail
      refine (sync_no Hv4 Hlv4 s).mono ?_
      rintro e v5 ⟨rfl, hb⟩
      have Hv5 := Hv4.below Hlv4 hb
      have Hlv5 : ∀ d, p = some d → d.block < v5.heap.size := fun d e => Nat.lt_of_lt_of_le (Hlv4 d e) hb.size
      have Wv5 := Wv4.below hb Wv4.lt
      have Lv5 := Lv4.below hb Lv4.lt
      have Bv5 := Bv4.trans (hb.mono Bv4.size)
      clear hb Hv4 Hlv4 Wv4 Lv4 Bv4
      go_wp2_with fail
      refine (rename_no Hv5 Hlv5 s s).mono ?_
      rintro e v6 ⟨rfl, hb⟩
      have Hv6 := Hv5.below Hlv5 hb
      have Hlv6 : ∀ d, p = some d → d.block < v6.heap.size := fun d e => Nat.lt_of_lt_of_le (Hlv5 d e) hb.size
      have Wv6 := Wv5.below hb Wv5.lt
      have Lv6 := Lv5.below hb Lv5.lt
      have Bv6 := Bv5.trans (hb.mono Bv5.size)
      clear hb Hv5 Hlv5 Wv5 Lv5 Bv5
      go_wp2_with fail
      refine (remove_no Hv6 Hlv6 s).mono ?_
      rintro e v7 ⟨rfl, hb⟩
      have Hv7 := Hv6.below Hlv6 hb
      have Hlv7 : ∀ d, p = some d → d.block < v7.heap.size := fun d e => Nat.lt_of_lt_of_le (Hlv6 d e) hb.size
      have Wv7 := Wv6.below hb Wv6.lt
      have Lv7 := Lv6.below hb Lv6.lt
      have Bv7 := Bv6.trans (hb.mono Bv6.size)
      clear hb Hv6 Hlv6 Wv6 Lv6 Bv6
      go_wp2_with fail
      refine (fuse_no Hv7 Hlv7 i).mono ?_
      rintro e v8 ⟨rfl, hv8⟩
      rw [hv8]
      clear hv8 v8
      go_wp2_with fail
      refine (free_no p _ Hv7).mono ?_
      rintro e v9 ⟨rfl, hv9⟩
      rw [hv9]
      clear hv9 v9
      go_wp2_with fail
      have hba : Below w.heap.size w (v7.alloc (.cells #[.int .i64 i] 3)) := Bv7.alloc Bv7.size _
      have Ba' := (Below.refl _ v7).alloc (Nat.le_refl _) (.cells #[.int .i64 i] 3)
      have Hc := Hv7.below Hlv7 Ba'
      have Hlc : ∀ d, p = some d → d.block < (v7.alloc (.cells #[.int .i64 i] 3)).heap.size := fun d e => Nat.lt_of_lt_of_le (Hlv7 d e) Ba'.size
      have Wc := Wv7.below Ba' Wv7.lt
      have Lc := Lv7.below Ba' Lv7.lt
      generalize v7.alloc (.cells #[.int .i64 i] 3) = va at *
      have Hva := Hc
      have Hlva := Hlc
      have Wva := Wc
      have Lva := Lc
      have Bva := hba
      clear Hc Hlc Wc Lc hba Ba'
      refine (crash_no p _ _ Hva).mono ?_
      rintro e v10 ⟨rfl, hv10⟩
      rw [hv10]
      clear hv10 v10
      go_wp2_with fail
      refine (turn_no p _ _ _ _ Hva).mono ?_
      rintro e v11 ⟨rfl, hv11⟩
      rw [hv11]
      clear hv11 v11
      go_wp2_with fail
      refine (names_no p _ Hva).mono ?_
      rintro e v12 ⟨rfl, hv12⟩
      rw [hv12]
      clear hv12 v12
      go_wp2_with fail
      refine (on_no p _ Hva).mono ?_
      rintro e v13 ⟨rfl, hv13⟩
      rw [hv13]
      clear hv13 v13
      go_wp2_with fail
      refine (left_no p _ Hva).mono ?_
      rintro e v14 ⟨rfl, hv14⟩
      rw [hv14]
      clear hv14 v14
      go_wp2_with fail
      refine (steps_no p _ Hva).mono ?_
      rintro e v15 ⟨rfl, hv15⟩
      rw [hv15]
      clear hv15 v15
      go_wp2
      go_roundw
      case rel => exact ⟨k + 1, by omega, by go_num, Bva, Wva, Lva⟩
      case measure => simp [intOf]; omega
    · obtain rfl : k = 2 := by omega
      go_wp2_with fail
      refine (lives_any wr).mono ?_
      rintro e w9 ⟨rfl, hb9⟩
      have hbf := Bwr.trans (hb9.mono Bwr.size)
      clear hb9 Bwr hb0 hw0 hw1 Wwr Lwr
      go_wp2
      go_returns
      exact ⟨by simp, hbf⟩

open Go.ChangeShapes Go.WideShapes Go.ChangeAt
set_option maxRecDepth 100000 in
theorem dnil_lifted (os : Os) (started : os.Started) (H : Type) (enc : TypeId × Value → H) :
    ReturnsInHanded {} Try.checked os 5 .any (Rows.diskNilSpec.pre6 enc Try.prog Try.f5 Rows.diskNilRow.domain false) (Rows.diskNilSpec.post enc Try.prog Try.f5 false true false false) := by
  refine returnsInHanded_of_change_sized (C := Try.checked) own started (by kernel_rfl) Try.func5
    (ChangeSpec.witness6 (enc := enc) (C := Try.checked) false ⟨#[], #[.string ⟨#[]⟩, .slice none 0 0, .int .i64 0], []⟩ 8 (by kernel_rfl) (by kernel_rfl) (by kernel_rfl) (by kernel_rfl)) ?_
  intro W base args ds gs before hval0 hW _ hsz0 _
  have hsz : (DataW.weightsEach Try.prog (Try.f5.params.toList ++ Rows.diskNilSpec.plain.varTypes Try.prog) (ds ++ gs)).all (· ≤ reachBytes) = true := hsz0
  have hval : ∀ (j : Nat) t v, Try.f5.params[j]? = some t → args[j]? = some v → Value.okWide Try.prog W .any base t v := hval0
  have hW' := hW
  obtain ⟨p, q, hA0, hV, rfl, _, _⟩ := hW
  have hA : DataW.TrodAll enc Try.prog W 0 (fun _ => true) true Try.f5.params.toList args.toList ds p := hA0
  rw [Try.params5] at hA hval hsz
  obtain ⟨v0, vs0, d0, ds0, p0, q0, hargs, rfl, rfl, h0, r0⟩ := trodAll_cons hA
  obtain ⟨v1, vs1, d1, ds1, p1, q1, rfl, rfl, rfl, h1, r1⟩ := trodAll_cons r0
  obtain ⟨v2, vs2, d2, ds2, p2, q2, rfl, rfl, rfl, h2, r2⟩ := trodAll_cons r1
  obtain ⟨rfl, rfl, rfl⟩ := trodAll_nil r2
  obtain rfl : args = #[v0, v1, v2] := by cases args; simp_all
  obtain ⟨s0, rfl, rfl, rfl, ws0⟩ := Go.ChangeMaps.open_string Try.underlying9 (hval 0 9 v0 rfl rfl) h0
  have hs0 : s0.size ≤ 140737488351232 := text_reach hsz (j := 0) (t := 9) rfl rfl
  obtain ⟨A1, zs1, c1, hb1⟩ := open_bytes Try.underlying29 Try.underlying5 cells8 (hval 1 29 v1 rfl rfl) h1
  have hl1 := hb1.reach hsz (j := 1) (t := 29) (e := 5) rfl rfl Try.underlying29 bytes8
  obtain rfl := hb1.val
  obtain ⟨a2, rfl, rfl, rfl, w2⟩ := open_int Try.underlying3 (hval 2 3 v2 rfl rfl) h2
  have b2 := bounds_i64 w2
  exact law_close laid rfl hW' (by kernel_rfl) rfl Try.underlying4 rfl (nil_walk s0 A1 zs1.length c1 a2 W)

theorem diskNil_holds : Rows.DiskNilSaid :=
  OpenClaim.holds_of_wide 5 Try.f5 rfl rfl rfl rfl rfl rfl rfl ⟨rfl, rfl, rfl, rfl, rfl⟩ rfl rfl rfl rfl rfl (by kernel_rfl) Try.func5 (by kernel_rfl)
    (of_decide_eq_true (by kernel_rfl)) (by unfold Func.isWrapper; first | (rw [if_pos (by decide +kernel)]; kernel_rfl) | (rw [if_neg (by decide +kernel)]; exact ⟨rfl, rfl⟩))
    (fun os started H enc _ => dnil_lifted os started H enc)

#print axioms diskNil_holds
end Go.Proofs.Ytnpomiidkdnebaa
