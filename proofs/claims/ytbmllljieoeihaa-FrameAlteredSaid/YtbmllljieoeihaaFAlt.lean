/- Bits turned within 32 side by side of a frame are always seen: for any frame, any place, any bits, any bytes behind. No condition. -/
import Derived.Test.YtbmllljieoeihaaFOpen
import Derived.Test.YtbmllljieoeihaaSame
import Derived.Test.YtbmllljieoeihaaCPick
import Derived.Test.YtbmllljieoeihaaFLives
import Derived.Test.YtbmllljieoeihaaBig
namespace Go.Proofs.Ytbmllljieoeihaa
open Go.RowKit Go.Lib
set_option linter.unusedVariables false

theorem tns_stop (r X i : Nat) {L : List Int} (h : 8 * L.length ≤ r + i) : ∀ n, i ≤ n → tns r X n L = tns r X i L
  | 0, hn => by obtain rfl : i = 0 := by omega
                rfl
  | n + 1, hn => by
    by_cases hi : i = n + 1
    · rw [hi]
    · rw [tns, if_neg (fun hc => by omega), tns_stop r X i h n (by omega)]
theorem brs_stop {r X i n m : Nat} (h : 8 * m ≤ r + i) (hn : i ≤ n) : brs r X n m = brs r X i m := by
  unfold brs
  rw [show min n (8 * m - r) = min i (8 * m - r) by omega]
theorem brs_in {r X i m : Nat} (h : r + i ≤ 8 * m) : brs r X i m = X % 2 ^ i := by
  unfold brs
  rw [show min i (8 * m - r) = i by omega]

/-- the end: what Read must tell -/
theorem alt_end (f : Fr) (hf : Fok f) {r X : Nat} (hX : X < 4294967296) (more : List Int) :
    (brs r X 32 (f.body.length + 12) ≠ 0 → mea (tns r X 32 (fby f) ++ more) = (0, 5) ∧ frd (tns r X 32 (fby f) ++ more) = ⟨0, []⟩) ∧
    (brs r X 32 (f.body.length + 12) = 0 → mea (tns r X 32 (fby f) ++ more) = (f.body.length + 12, 0) ∧ frd (tns r X 32 (fby f) ++ more) = f) := by
  refine ⟨fun h => ?_, fun h => ?_⟩
  · have hm := mea_turned f hf hX h more
    exact ⟨hm, frd_bad hm (by decide)⟩
  · rw [tns_none r X 32 (fby_length f) h]
    exact ⟨mea_fby f hf more, frd_fby f hf more⟩

set_option maxHeartbeats 3200000 in
set_option maxRecDepth 1000000 in
theorem falt_walk (k : Int) (A : Option Addr) (zs : List Int) (c : Nat) (at_ x : Int) (A' : Option Addr) (ys : List Int) (c' : Nat) (w : World) (hk : 0 ≤ k ∧ k ≤ 255) (hat : -9223372036854775808 ≤ at_ ∧ at_ ≤ 9223372036854775807) (hx : 0 ≤ x ∧ x ≤ 4294967295)
    (hz : Byt zs) (hr : Rds w w.heap.size A (c8 zs)) (hzl : zs.length ≤ 140737488351232) (hly : ys.length ≤ 140737488351232) (hy : Byt ys) (hA' : A' = none → ys.length = 0 ∧ c' = 0) (hr' : Rds w w.heap.size A' (c8 ys)) :
    Calls Try.prog 7 #[.int .u8 k, .slice A zs.length c, .int .i64 at_, .int .u32 x, .slice A' ys.length c'] w fun e w' => e = .returned (.bool true) ∧ Below w.heap.size w w' := by
  obtain ⟨X, rfl⟩ : ∃ X : Nat, x = X := ⟨x.toNat, by omega⟩
  have hX : X < 4294967296 := by omega
  have HK := Lib.hid hk
  have HZ := Lib.hid hz
  have HY := Lib.hid hy
  have HA := Lib.hid hA'
  have HAT := Lib.hid hat
  obtain ⟨i0, hi, hz0, hz1, hz2⟩ := info_parts info8
  clear hx hz hA' hat hy hk
  go_enter Try.func7, Try.ntmps7
  go_wp2_with fail
  refine (flives_any _).mono ?_
  rintro e w1 ⟨rfl, hb1⟩
  have hr1 := hr.go hb1
  by_cases h3 : 3000 < zs.length
  · have h3' : (3000 : Int) < (zs.length : Int) := by omega
    go_wp2
    go_ret
    exact ⟨rfl, hb1⟩
  · have h3' : ¬ (3000 : Int) < (zs.length : Int) := by omega
    have hfok : Fok ⟨k, zs⟩ := ⟨HK.out, HZ.out, by show zs.length ≤ 1048576; omega⟩
    have hF := fapp_any none A [] zs 0 c zs.length k w1 rfl (by simp) (by omega) HK.out (fun z hz => by cases hz) HZ.out Rds.nil_ hr1
    rw [List.nil_append] at hF
    have hfl := fby_length ⟨k, zs⟩
    have hend := fun r => alt_end ⟨k, zs⟩ hfok (r := r) hX ys
    have HFB := Lib.hid (fby_byt hfok)
    have HFL := Lib.hid hfl
    have HEND := Lib.hid hend
    simp only [] at hfl
    clear hfl hend
    generalize hm : zs.length = m at *
    generalize fby ⟨k, zs⟩ = F at *
    go_wp2_with fail
    refine hF.mono ?_
    rintro e w2 ⟨gb, rfl, hw2, hgb, hb2⟩
    go_wp2_with fail
    refine (pick_any at_ (8 * ((m : Int) + 12)) w2 (by omega) (by omega) HAT.out).mono ?_
    rintro e w3 ⟨⟨r, rfl, hr8⟩, rfl⟩
    have hFl : F.length = m + 12 := HFL.out
    have hown1 := World.ownsRow_made (base := w3.heap.size) (e := 5) (size := 1) w3 #[] 0 (Nat.le_refl _) (by unfold maxLen; omega) rfl
    have hrb := hw2.reads.alloc (Nat.le_refl _) (.cells #[] 5)
    go_wp2_with (at_builtin; go_loud (refine app_many (w3.alloc (.cells #[] 5)) rfl (.tmp 39) (.tmp 40) 23 rfl w3.heap.size 5 i0 (.int .u8 0) 1 Try.underlying23 hi hz0 hz1 hz2 rfl _ 0 [] rfl hown1 (some ⟨gb, 0, none⟩) (m + 12) (m + 12) w3.heap.size (c8 F) rfl (by rw [c8_length, hFl]) hrb (fun h => by cases h) (c8_one F) (by unfold maxLen; omega) (by omega) (by simp) ?_))
    intro v4 w4 hown4 hb4'
    have hb3 := belowGo hb1 (Nat.le_refl _) hb2
    have hb4 : Below w.heap.size w w4 := hb3.trans ((((Below.refl w3.heap.size w3).alloc (Nat.le_refl _) (.cells #[] 5)).trans hb4').mono hb3.size)
    have hg3 : w.heap.size ≤ w3.heap.size := hb3.size
    have HR := Lib.hid hr
    have HR' := Lib.hid hr'
    rcases hown4.2 with ⟨hv, hn⟩ | ⟨g, cap, cur, hv, hg, _⟩
    · exact absurd hn (by omega)
    · subst hv
      have HO4 := Lib.hid hown4
      have HB4 := Lib.hid hb4
      clear hown1 hrb hb4' hb4 hown4 hb3 hb2 hb1 hr1 hF hw2 hr hr'
      go_wp2
      go_loopw [14, 16] (fun t q wr => ∃ (i : Nat) (tb : Bool), i ≤ 32 ∧ r + i ≤ 8 * (m + 12) ∧ q = .int .i64 i ∧ t = .bool tb ∧ tb = decide (brs r X i (m + 12) ≠ 0) ∧ wr.ownsRow w3.heap.size 5 1 (.slice (some ⟨g, 0, none⟩) (m + 12) cap) (m + 12) (c8 (tns r X i F)) ∧ Below w.heap.size w wr) (fun _ q _ => 32 - (RowKit.intOf q).toNat)
      case atStart =>
        refine ⟨0, false, by omega, by omega, rfl, rfl, ?_, HO4.out, HB4.out⟩
        simp [brs, Nat.mod_one]
      case round =>
        obtain ⟨i, tb, hi32, hri, rfl, rfl, htb, hown, hb⟩ := hrel
        have HTB := Lib.hid htb
        have HOW := Lib.hid hown
        have HB := Lib.hid hb
        clear htb hown hb
        have hm2 := bit_key X i hX
        have HL := Lib.hid (show (tns r X i F).length = m + 12 by rw [tns_length, hFl])
        by_cases hend : i < 32 ∧ r + i < 8 * (m + 12)
        · obtain ⟨hlt, hin⟩ := hend
          have hin' : (r : Int) + (i : Int) < 8 * ((m : Int) + 12) := by omega
          have HBT := Lib.hid (mod_bit X i)
          have HB1 := Lib.hid (brs_in (X := X) hri)
          have HB2 := Lib.hid (brs_in (r := r) (X := X) (i := i + 1) (m := m + 12) (by omega))
          have HTS := Lib.hid (show tns r X (i + 1) F = if X / 2 ^ i % 2 = 1 ∧ r + i < 8 * F.length then turn (tns r X i F) (r + i) else tns r X i F from rfl)
          rcases Nat.mod_two_eq_zero_or_one (X / 2 ^ i) with hbit | hbit
          · rw [hbit] at hm2
            have HBIT := Lib.hid hbit
            clear hbit
            go_wp2_with (simp only [hm2])
            go_roundw
            case rel =>
              have h := HBT.out
              rw [if_neg (by rw [HBIT.out]; decide), Nat.xor_zero] at h
              have hts := HTS.out
              rw [if_neg (fun hc => by have := HBIT.out; omega)] at hts
              exact ⟨i + 1, tb, by omega, by omega, by go_num, rfl, by rw [HB2.out, h, ← HB1.out]; exact HTB.out, by rw [hts]; exact HOW.out, HB.out⟩
            case measure => simp [RowKit.intOf] <;> omega
          · rw [hbit] at hm2
            have HBIT := Lib.hid hbit
            clear hbit
            have hLB := tns_byt r X i HFB.out
            have hp : r + i < 8 * (tns r X i F).length := by rw [HL.out]; exact hin
            have hpl : (r + i) / 8 < (tns r X i F).length := by omega
            have hgd : (tns r X i F).getD ((r + i) / 8) 0 = (tns r X i F)[(r + i) / 8] := by simp [List.getD, hpl]
            have hby := hLB _ (List.getElem_mem hpl)
            have hcell := HOW.out.cellAt ((r + i) / 8) (by rw [← HL.out]; omega)
            rw [c8_get hpl] at hcell
            have hfr := HOW.out.frozenAt ((r + i) / 8)
            have HTN := Lib.hid (show turn (tns r X i F) (r + i) = (tns r X i F).set ((r + i) / 8) (((((tns r X i F)[(r + i) / 8]).toNat ^^^ 2 ^ ((r + i) % 8) : Nat)) : Int) by unfold turn; rw [hgd])
            have hts := HTS.out
            rw [if_pos ⟨HBIT.out, by rw [hFl]; exact hin⟩] at hts
            have HTS2 := Lib.hid hts
            clear hts HTS hLB
            generalize (tns r X i F)[(r + i) / 8] = o at *
            obtain ⟨O, rfl⟩ : ∃ O : Nat, o = O := ⟨o.toNat, by omega⟩
            clear hgd hpl hp
            go_wp2_with (simp only [hm2])
            have hk8 : (r + i) % 8 < 8 := Nat.mod_lt _ (by decide)
            have hval := bit_val O ((r + i) % 8) (by omega) hk8
            rw [hval]
            have htn := HTN.out
            rw [Int.toNat_natCast] at htn
            have hst := (HOW.out.stored ((r + i) / 8) (.int .u8 ((O ^^^ 2 ^ ((r + i) % 8) : Nat) : Int))).1
            rw [show (c8 (tns r X i F)).set ((r + i) / 8) (.int .u8 ((O ^^^ 2 ^ ((r + i) % 8) : Nat) : Int)) = c8 (tns r X (i + 1) F) by rw [HTS2.out, htn]; simp [c8, List.map_set]] at hst
            go_roundw
            case rel =>
              refine ⟨i + 1, true, by omega, by omega, by go_num, rfl, ?_, hst, HB.out.setCell (show w.heap.size ≤ g by omega) _⟩
              have : X % 2 ^ (i + 1) ≠ 0 := by
                have := Nat.mod_pow_succ (x := X) (b := 2) (k := i)
                rw [HBIT.out, Nat.mul_one] at this
                have h2 : 0 < 2 ^ i := Nat.pow_pos (by decide)
                omega
              rw [HB2.out]
              exact (decide_eq_true this).symm
            case measure => simp [RowKit.intOf] <;> omega
        · have hstop : tns r X 32 F = tns r X i F ∧ brs r X 32 (m + 12) = brs r X i (m + 12) := by
            rcases (show i = 32 ∨ 8 * (m + 12) ≤ r + i by omega) with rfl | h
            · exact ⟨rfl, rfl⟩
            · exact ⟨tns_stop r X i (by rw [hFl]; exact h) 32 hi32, brs_stop h hi32⟩
          have hlen5 : (tns r X i F ++ ys).length = m + 12 + ys.length := by rw [List.length_append, HL.out]
          have hbyt5 : Byt (tns r X i F ++ ys) := (tns_byt r X i HFB.out).append HY.out
          have HB5 := Lib.hid hbyt5
          have HR5 := Lib.hid (show Rds wr wr.heap.size A' (c8 ys) from (HR'.out.below HB.out).more HB.out.size)
          have hB5 : w3.heap.size ≤ wr.heap.size := by
            have := (HOW.out.lt g rfl).2
            omega
          clear hbyt5 hm2
          have hcase : i < 32 ∧ 8 * (m + 12) ≤ r + i ∨ i = 32 := by omega
          clear hend
          rcases hcase with ⟨hlt, hout⟩ | rfl
          · have hout' : ¬ (r : Int) + (i : Int) < 8 * ((m : Int) + 12) := by omega
            have hlt' : (i : Int) < 32 := by omega
            rcases Bool.eq_false_or_eq_true tb with htb | htb
            · subst htb
              have hbr : brs r X i (m + 12) ≠ 0 := of_decide_eq_true HTB.out.symm
              have he := (HEND.out r).1
              rw [hstop.1, hstop.2] at he
              have HM := Lib.hid (he hbr).1
              have HFR := Lib.hid (he hbr).2
              clear he hstop hbr
              go_wp2_with (at_builtin; go_loud (refine app_big wr rfl (.tmp 82) (.tmp 83) 23 rfl w3.heap.size 5 i0 (.int .u8 0) Try.underlying23 hi hz0 hz1 hz2 rfl (.slice (some ⟨g, 0, none⟩) (m + 12) cap) (m + 12) (c8 (tns r X i F)) rfl HOW.out A' ys.length c' wr.heap.size (c8 ys) rfl (c8_length ys).symm HR5.out (fun h => (HA.out h).2) (c8_one ys) (by omega) (by omega) hB5 ?_))
              intro v5 w5 hown5 hb5
              obtain ⟨A5, c5, rfl, hrd5, hc5, _, _⟩ := own_open hown5
              rw [← c8_append] at hrd5
              have hRd := fread_len A5 (tns r X i F ++ ys) (m + 12 + ys.length) c5 w5 hlen5 (by omega) hc5 HB5.out hrd5 HM.out HFR.out
              have hbw5 : Below w.heap.size w w5 := HB.out.trans (hb5.mono hg3)
              clear hown5 hb5 hrd5
              go_wp2_with fail
              refine hRd.mono ?_
              rintro e w6 ⟨A6, c6, rfl, _, hb6⟩
              have hbw6 := belowGo hbw5 (Nat.le_refl _) hb6
              clear hb6 hbw5 hRd
              simp only [List.length_nil]
              go_wp2
              go_ret
              exact ⟨rfl, hbw6.alloc hbw6.size _⟩
            · subst htb
              have hbr : brs r X i (m + 12) = 0 := by
                exact Classical.not_not.1 (of_decide_eq_false HTB.out.symm)
              have he := (HEND.out r).2
              rw [hstop.1, hstop.2] at he
              have HM := Lib.hid (he hbr).1
              have HFR := Lib.hid (he hbr).2
              clear he hstop hbr
              go_wp2_with (at_builtin; go_loud (refine app_big wr rfl (.tmp 82) (.tmp 83) 23 rfl w3.heap.size 5 i0 (.int .u8 0) Try.underlying23 hi hz0 hz1 hz2 rfl (.slice (some ⟨g, 0, none⟩) (m + 12) cap) (m + 12) (c8 (tns r X i F)) rfl HOW.out A' ys.length c' wr.heap.size (c8 ys) rfl (c8_length ys).symm HR5.out (fun h => (HA.out h).2) (c8_one ys) (by omega) (by omega) hB5 ?_))
              intro v5 w5 hown5 hb5
              obtain ⟨A5, c5, rfl, hrd5, hc5, _, _⟩ := own_open hown5
              rw [← c8_append] at hrd5
              have hRd := fread_len A5 (tns r X i F ++ ys) (m + 12 + ys.length) c5 w5 hlen5 (by omega) hc5 HB5.out hrd5 HM.out HFR.out
              have hbw5 : Below w.heap.size w w5 := HB.out.trans (hb5.mono hg3)
              clear hown5 hb5 hrd5
              simp only [hm] at hRd
              go_wp2_with fail
              refine hRd.mono ?_
              rintro e w6 ⟨A6, c6, rfl, hown6, hb6⟩
              have hbw6 := belowGo hbw5 (Nat.le_refl _) hb6
              have hbw7 := hbw6.alloc hbw6.size (.cells #[.int .u8 k, .slice A6 m c6] 28)
              have hsa := (Rds.ofOwn hown6).alloc (Nat.le_refl _) (.cells #[.int .u8 k, .slice A6 m c6] 28)
              have hsb := ((HR.out.below hbw6).more hbw6.size).alloc (Nat.le_refl _) (.cells #[.int .u8 k, .slice A6 m c6] 28)
              have hS := sameBytes_yes A6 A zs zs m m c6 c w6.heap.size (w6.alloc (.cells #[.int .u8 k, .slice A6 m c6] 28)) hm hm (by omega) rfl hsa hsb
              have hkk : (k == k) = true := by simp
              clear hown6 hb6 hsa hsb hbw5 hbw6 hRd
              go_wp2_with fail
              refine hS.mono ?_
              rintro e w7 ⟨rfl, q, rfl⟩
              go_wp2
              go_ret
              exact ⟨rfl, below_drewN hbw7 q⟩
          · rcases Bool.eq_false_or_eq_true tb with htb | htb
            · subst htb
              have hbr : brs r X 32 (m + 12) ≠ 0 := of_decide_eq_true HTB.out.symm
              have he := (HEND.out r).1
              rw [hstop.1, hstop.2] at he
              have HM := Lib.hid (he hbr).1
              have HFR := Lib.hid (he hbr).2
              clear he hstop hbr
              go_wp2_with (at_builtin; go_loud (refine app_big wr rfl (.tmp 82) (.tmp 83) 23 rfl w3.heap.size 5 i0 (.int .u8 0) Try.underlying23 hi hz0 hz1 hz2 rfl (.slice (some ⟨g, 0, none⟩) (m + 12) cap) (m + 12) (c8 (tns r X 32 F)) rfl HOW.out A' ys.length c' wr.heap.size (c8 ys) rfl (c8_length ys).symm HR5.out (fun h => (HA.out h).2) (c8_one ys) (by omega) (by omega) hB5 ?_))
              intro v5 w5 hown5 hb5
              obtain ⟨A5, c5, rfl, hrd5, hc5, _, _⟩ := own_open hown5
              rw [← c8_append] at hrd5
              have hRd := fread_len A5 (tns r X 32 F ++ ys) (m + 12 + ys.length) c5 w5 hlen5 (by omega) hc5 HB5.out hrd5 HM.out HFR.out
              have hbw5 : Below w.heap.size w w5 := HB.out.trans (hb5.mono hg3)
              clear hown5 hb5 hrd5
              go_wp2_with fail
              refine hRd.mono ?_
              rintro e w6 ⟨A6, c6, rfl, _, hb6⟩
              have hbw6 := belowGo hbw5 (Nat.le_refl _) hb6
              clear hb6 hbw5 hRd
              simp only [List.length_nil]
              go_wp2
              go_ret
              exact ⟨rfl, hbw6.alloc hbw6.size _⟩
            · subst htb
              have hbr : brs r X 32 (m + 12) = 0 := by
                exact Classical.not_not.1 (of_decide_eq_false HTB.out.symm)
              have he := (HEND.out r).2
              rw [hstop.1, hstop.2] at he
              have HM := Lib.hid (he hbr).1
              have HFR := Lib.hid (he hbr).2
              clear he hstop hbr
              go_wp2_with (at_builtin; go_loud (refine app_big wr rfl (.tmp 82) (.tmp 83) 23 rfl w3.heap.size 5 i0 (.int .u8 0) Try.underlying23 hi hz0 hz1 hz2 rfl (.slice (some ⟨g, 0, none⟩) (m + 12) cap) (m + 12) (c8 (tns r X 32 F)) rfl HOW.out A' ys.length c' wr.heap.size (c8 ys) rfl (c8_length ys).symm HR5.out (fun h => (HA.out h).2) (c8_one ys) (by omega) (by omega) hB5 ?_))
              intro v5 w5 hown5 hb5
              obtain ⟨A5, c5, rfl, hrd5, hc5, _, _⟩ := own_open hown5
              rw [← c8_append] at hrd5
              have hRd := fread_len A5 (tns r X 32 F ++ ys) (m + 12 + ys.length) c5 w5 hlen5 (by omega) hc5 HB5.out hrd5 HM.out HFR.out
              have hbw5 : Below w.heap.size w w5 := HB.out.trans (hb5.mono hg3)
              clear hown5 hb5 hrd5
              simp only [hm] at hRd
              go_wp2_with fail
              refine hRd.mono ?_
              rintro e w6 ⟨A6, c6, rfl, hown6, hb6⟩
              have hbw6 := belowGo hbw5 (Nat.le_refl _) hb6
              have hbw7 := hbw6.alloc hbw6.size (.cells #[.int .u8 k, .slice A6 m c6] 28)
              have hsa := (Rds.ofOwn hown6).alloc (Nat.le_refl _) (.cells #[.int .u8 k, .slice A6 m c6] 28)
              have hsb := ((HR.out.below hbw6).more hbw6.size).alloc (Nat.le_refl _) (.cells #[.int .u8 k, .slice A6 m c6] 28)
              have hS := sameBytes_yes A6 A zs zs m m c6 c w6.heap.size (w6.alloc (.cells #[.int .u8 k, .slice A6 m c6] 28)) hm hm (by omega) rfl hsa hsb
              have hkk : (k == k) = true := by simp
              clear hown6 hb6 hsa hsb hbw5 hbw6 hRd
              go_wp2_with fail
              refine hS.mono ?_
              rintro e w7 ⟨rfl, q, rfl⟩
              go_wp2
              go_ret
              exact ⟨rfl, below_drewN hbw7 q⟩

open Go.ChangeShapes Go.WideShapes Go.ChangeAt
set_option maxRecDepth 100000 in
theorem falt_lifted (os : Os) (started : os.Started) (H : Type) (enc : TypeId × Value → H) :
    ReturnsInHanded {} Try.checked os 7 .any (Rows.frameAlteredSpec.pre6 enc Try.prog Try.f7 Rows.frameAlteredRow.domain false) (Rows.frameAlteredSpec.post enc Try.prog Try.f7 false true false false) := by
  refine returnsInHanded_of_change_sized (C := Try.checked) own started (by kernel_rfl) Try.func7
    (ChangeSpec.witness6 (enc := enc) (C := Try.checked) false ⟨#[], #[.int .u8 0, .slice none 0 0, .int .i64 0, .int .u32 0, .slice none 0 0], []⟩ 8 (by kernel_rfl) (by kernel_rfl) (by kernel_rfl) (by kernel_rfl)) ?_
  intro W base args ds gs before hval0 hW _ hsz0 _
  have hsz : (DataW.weightsEach Try.prog (Try.f7.params.toList ++ Rows.frameAlteredSpec.plain.varTypes Try.prog) (ds ++ gs)).all (· ≤ reachBytes) = true := hsz0
  have hval : ∀ (j : Nat) t v, Try.f7.params[j]? = some t → args[j]? = some v → Value.okWide Try.prog W .any base t v := hval0
  have hW' := hW
  obtain ⟨p, q, hA0, hV, rfl, _, _⟩ := hW
  have hA : DataW.TrodAll enc Try.prog W 0 (fun _ => true) true Try.f7.params.toList args.toList ds p := hA0
  rw [Try.params7] at hA hval hsz
  obtain ⟨v0, vs0, d0, ds0, p0, q0, hargs, rfl, rfl, h0, r0⟩ := trodAll_cons hA
  obtain ⟨v1, vs1, d1, ds1, p1, q1, rfl, rfl, rfl, h1, r1⟩ := trodAll_cons r0
  obtain ⟨v2, vs2, d2, ds2, p2, q2, rfl, rfl, rfl, h2, r2⟩ := trodAll_cons r1
  obtain ⟨v3, vs3, d3, ds3, p3, q3, rfl, rfl, rfl, h3, r3⟩ := trodAll_cons r2
  obtain ⟨v4, vs4, d4, ds4, p4, q4, rfl, rfl, rfl, h4, r4⟩ := trodAll_cons r3
  obtain ⟨rfl, rfl, rfl⟩ := trodAll_nil r4
  obtain rfl : args = #[v0, v1, v2, v3, v4] := by cases args; simp_all
  obtain ⟨a0, rfl, rfl, rfl, w0⟩ := open_int Try.underlying5 (hval 0 5 v0 rfl rfl) h0
  have b0 := bounds_u8 w0
  obtain ⟨A1, zs1, c1, hb1⟩ := open_bytes Try.underlying23 Try.underlying5 cells8 (hval 1 23 v1 rfl rfl) h1
  have hl1 := hb1.reach hsz (j := 1) (t := 23) (e := 5) rfl rfl Try.underlying23 bytes8
  obtain rfl := hb1.val
  obtain ⟨a2, rfl, rfl, rfl, w2⟩ := open_int Try.underlying3 (hval 2 3 v2 rfl rfl) h2
  have b2 := bounds_i64 w2
  obtain ⟨a3, rfl, rfl, rfl, w3⟩ := open_int Try.underlying46 (hval 3 46 v3 rfl rfl) h3
  have b3 := bounds_u32 w3
  obtain ⟨A4, zs4, c4, hb4⟩ := open_bytes Try.underlying23 Try.underlying5 cells8 (hval 4 23 v4 rfl rfl) h4
  have hl4 := hb4.reach hsz (j := 4) (t := 23) (e := 5) rfl rfl Try.underlying23 bytes8
  obtain rfl := hb4.val
  exact law_close laid rfl hW' (by kernel_rfl) rfl Try.underlying4 rfl (falt_walk a0 A1 zs1 c1 a2 a3 A4 zs4 c4 W b0 b2 b3 hb1.byt hb1.rds hl1 hl4 hb4.byt hb4.nil_ hb4.rds)

theorem frameAltered_holds : Rows.FrameAlteredSaid :=
  OpenClaim.holds_of_wide 7 Try.f7 rfl rfl rfl rfl rfl rfl rfl ⟨rfl, rfl, rfl, rfl, rfl⟩ rfl rfl rfl rfl rfl (by kernel_rfl) Try.func7 (by kernel_rfl)
    (of_decide_eq_true (by kernel_rfl)) (by unfold Func.isWrapper; first | (rw [if_pos (by decide +kernel)]; kernel_rfl) | (rw [if_neg (by decide +kernel)]; exact ⟨rfl, rfl⟩))
    (fun os started H enc _ => falt_lifted os started H enc)

#print axioms frameAltered_holds

end Go.Proofs.Ytbmllljieoeihaa
