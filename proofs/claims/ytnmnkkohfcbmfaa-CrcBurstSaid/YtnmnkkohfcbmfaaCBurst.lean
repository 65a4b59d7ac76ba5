/- Bits turned within 32 side by side are always seen: for all bytes, any place, any bits. No condition. -/
import Derived.Test.YtnmnkkohfcbmfaaCChanged
namespace Go.Proofs.Ytnmnkkohfcbmfaa
open Go.RowKit Go.Lib
set_option linter.unusedVariables false

theorem its_one (k i : Nat) (h : i ≤ k) : its k (2 ^ i) = its (k - i) 1 := by
  have h1 := its_pow i 0
  rw [Nat.zero_add, Nat.pow_zero] at h1
  rw [← h1, ← its_add, show i + (k - i) = k by omega]

/-- The bit p of the bytes turned. -/
def turn (L : List Int) (p : Nat) : List Int := L.set (p / 8) (((L.getD (p / 8) 0).toNat ^^^ 2 ^ (p % 8) : Nat) : Int)

theorem turn_length (L : List Int) (p : Nat) : (turn L p).length = L.length := by unfold turn; simp

theorem turn_range {L : List Int} (hL : Byt L) {p : Nat} (hp : p < 8 * L.length) : (L.getD (p / 8) 0).toNat ^^^ 2 ^ (p % 8) < 256 := by
  have hlt : p / 8 < L.length := by omega
  have h := hL _ (List.getElem_mem hlt)
  have hg : L.getD (p / 8) 0 = L[p / 8] := by simp [List.getD, hlt]
  have h2 : 2 ^ (p % 8) < 2 ^ 8 := Nat.pow_lt_pow_right (by decide) (by omega)
  rw [hg]
  exact Nat.xor_lt_two_pow (n := 8) (by omega) h2

theorem turn_byt {L : List Int} (hL : Byt L) {p : Nat} (hp : p < 8 * L.length) : Byt (turn L p) := by
  have h := turn_range hL hp
  intro z hz
  rcases List.mem_or_eq_of_mem_set hz with hz | hz
  · exact hL z hz
  · subst hz
    omega

theorem turn_mor {L : List Int} (hL : Byt L) {r i : Nat} (hp : r + i < 8 * L.length) : mor 0 (turn L (r + i)) = mor 0 L ^^^ its (8 * L.length - r) (2 ^ i) := by
  have h := turn_range hL hp
  unfold turn
  rw [mor_set hL _ (by omega) (by omega), Int.toNat_natCast, xor_cancel, its_one 8 ((r + i) % 8) (by omega), ← its_add, its_one (8 * L.length - r) i (by omega)]
  congr 2
  omega

theorem mod_bit (s n : Nat) : s % 2 ^ (n + 1) = s % 2 ^ n ^^^ (if s / 2 ^ n % 2 = 1 then 2 ^ n else 0) := by
  rw [← part_pow, ← part_pow]
  rfl

theorem bit_val (O k : Nat) (hO : O < 256) (hk : k < 8) : bits .xor .u8 (O : Int) (2 ^ k % 256) = ((O ^^^ 2 ^ k : Nat) : Int) := by
  have h2 : 2 ^ k < 2 ^ 8 := Nat.pow_lt_pow_right (by decide) hk
  have e : (2 : Int) ^ k = ((2 ^ k : Nat) : Int) := by simp
  rw [e]
  generalize 2 ^ k = m at *
  rw [show (m : Int) % 256 = m by omega, u8_xor_nat _ _ (by omega) (by omega)]

theorem burst_end {M T k : Nat} (hM : M < 4294967296) (hT : T < 4294967296) : (((M ^^^ its k T : Nat) : Int) != (M : Int)) = decide (T ≠ 0) := by
  by_cases h : T = 0
  · subst h
    rw [its_zero, Nat.xor_zero]
    simp
  · have h1 : M ^^^ its k T ≠ M := by
      intro e
      have e2 := xor_cancel M (its k T)
      rw [e, Nat.xor_self] at e2
      exact h (its_inj k hT e2.symm)
    have h2 : ((M ^^^ its k T : Nat) : Int) ≠ (M : Int) := by omega
    rw [decide_eq_true h]
    simpa using h2

set_option maxHeartbeats 3200000 in
set_option maxRecDepth 1000000 in
theorem burst_walk (A : Option Addr) (zs : List Int) (c : Nat) (at_ x : Int) (w : World) (hat : -9223372036854775808 ≤ at_ ∧ at_ ≤ 9223372036854775807) (hx : 0 ≤ x ∧ x ≤ 4294967295)
    (hl : zs.length ≤ 140737488351232) (hz : Byt zs) (hA : A = none → zs.length = 0 ∧ c = 0) (hc : zs.length ≤ c) (hr : Rds w w.heap.size A (c8 zs)) :
    Calls Try.prog 8 #[.slice A zs.length c, .int .i64 at_, .int .u32 x] w fun e w' => e = .returned (.bool true) ∧ Below w.heap.size w w' := by
  obtain ⟨X, rfl⟩ : ∃ X : Nat, x = X := ⟨x.toNat, by omega⟩
  have hX : X < 4294967296 := by omega
  have hB := Nat.le_refl w.heap.size
  have HZ := Lib.hid hz
  have HA := Lib.hid hA
  have HAT := Lib.hid hat
  obtain ⟨i0, hi, hz0, hz1, hz2⟩ := info_parts info8
  clear hx hz hA hat
  go_enter Try.func8, Try.ntmps8
  go_wp2_with fail
  refine (clives_any _).mono ?_
  rintro e w1 ⟨rfl, hb1⟩
  have hr1 := hr.go hb1
  by_cases h0 : zs.length = 0
  · have h0' : (zs.length : Int) = 0 := by omega
    go_wp2
    go_ret
    exact ⟨rfl, hb1⟩
  · have h0' : ¬ (zs.length : Int) = 0 := by omega
    by_cases h10 : 10000 < zs.length
    · have h10' : (10000 : Int) < (zs.length : Int) := by omega
      go_wp2
      go_ret
      exact ⟨rfl, hb1⟩
    · have h10' : ¬ (10000 : Int) < (zs.length : Int) := by omega
      have hq : ((zs.length : Int) == 0) = false := by simpa using h0'
      have hown1 := World.ownsRow_made (base := w1.heap.size) (e := 5) (size := 1) w1 #[] 0 (Nat.le_refl _) (by unfold maxLen; omega) rfl
      have hr1' := hr1.alloc (Nat.le_refl _) (.cells #[] 5)
      go_wp2_with (at_builtin; go_loud (refine app_many (w1.alloc (.cells #[] 5)) rfl (.tmp 21) (.tmp 22) 27 rfl w1.heap.size 5 i0 (.int .u8 0) 1 Try.underlying27 hi hz0 hz1 hz2 rfl _ 0 [] rfl hown1 A zs.length c w1.heap.size (c8 zs) rfl (c8_length zs).symm hr1' (fun h => (HA.out h).2) (c8_one zs) (by unfold maxLen; omega) (by omega) (by simp) ?_))
      intro v3 w3 hown3 hb3'
      have hb3 : Below w.heap.size w w3 := hb1.trans ((((Below.refl w1.heap.size w1).alloc (Nat.le_refl _) (.cells #[] 5)).trans hb3').mono hb1.size)
      have hr3 := hr1'.below hb3'
      have hg2 : w.heap.size ≤ w1.heap.size := hb1.size
      rcases hown3.2 with ⟨hv, hn⟩ | ⟨g, cap, cur, hv, hg, _⟩
      · exact absurd (by simpa using hn) h0
      · subst hv
        have h8 : (1 : Int) ≤ 8 * (zs.length : Int) := by omega
        clear hr1 hr1' hown1 hb3' hb1 hr
        have HO3 := Lib.hid hown3
        clear hown3
        go_wp2_with fail
        refine (pick_any at_ (8 * (zs.length : Int)) w3 h8 (by omega) HAT.out).mono ?_
        rintro e w2 ⟨⟨r, rfl, hr8⟩, rfl⟩
        go_wp2_with fail
        have hml := mor_lt 0 zs
        have HB0 := Lib.hid hb3
        have HR0 := Lib.hid hr3
        have hs0 : w1.heap.size ≤ w2.heap.size := by
          have := HO3.out.2
          have h2 := hb3.size
          rcases this with ⟨h, _⟩ | ⟨g', cap', cur', h, hg', hh, _⟩
          · cases h
          · have := (Array.getElem?_eq_some_iff.1 hh).1
            omega
        clear hb3 hr3
        go_loopw [9, 10] (fun t q wr => ∃ (i : Nat) (L : List Int) (tb : Bool), i ≤ 32 ∧ q = .int .i64 i ∧ t = .bool tb ∧ tb = decide (X % 2 ^ i ≠ 0) ∧ L.length = zs.length ∧ Byt L ∧ mor 0 L = mor 0 zs ^^^ its (8 * zs.length - r) (X % 2 ^ i) ∧ wr.ownsRow w1.heap.size 5 1 (.slice (some ⟨g, 0, none⟩) zs.length cap) zs.length (c8 L) ∧ Rds wr w1.heap.size A (c8 zs) ∧ Below w.heap.size w wr) (fun _ q _ => 32 - (RowKit.intOf q).toNat)
        case atStart =>
          refine ⟨0, zs, false, by omega, rfl, rfl, ?_, rfl, HZ.out, ?_, HO3.out, HR0.out, HB0.out⟩
          · simp [Nat.mod_one]
          · rw [Nat.pow_zero, Nat.mod_one, its_zero, Nat.xor_zero]
        case round =>
          obtain ⟨i, L, tb, hi32, rfl, rfl, htb, hL, hLb, hmo, hown, hrr, hb⟩ := hrel
          have HTB := Lib.hid htb
          have HL := Lib.hid hL
          have HLB := Lib.hid hLb
          have HMO := Lib.hid hmo
          have HOW := Lib.hid hown
          have HRR := Lib.hid hrr
          have HB := Lib.hid hb
          clear htb hL hLb hmo hown hrr hb
          have hm := bit_key X i hX
          by_cases hend : i < 32 ∧ r + i < 8 * zs.length
          · obtain ⟨hlt, hin⟩ := hend
            have hin' : (r : Int) + (i : Int) < 8 * (zs.length : Int) := by omega
            have HBT := Lib.hid (mod_bit X i)
            rcases Nat.mod_two_eq_zero_or_one (X / 2 ^ i) with hbit | hbit
            · rw [hbit] at hm
              have HBIT := Lib.hid hbit
              clear hbit
              go_wp2_with (simp only [hm])
              go_roundw
              case rel =>
                have h := HBT.out
                rw [if_neg (by rw [HBIT.out]; decide), Nat.xor_zero] at h
                exact ⟨i + 1, L, tb, by omega, by go_num, rfl, by rw [h]; exact HTB.out, HL.out, HLB.out, by rw [h]; exact HMO.out, HOW.out, HRR.out, HB.out⟩
              case measure => simp [RowKit.intOf] <;> omega
            · rw [hbit] at hm
              have HBIT := Lib.hid hbit
              clear hbit
              have hp : r + i < 8 * L.length := by rw [HL.out]; exact hin
              have hpl : (r + i) / 8 < L.length := by omega
              have hgd : L.getD ((r + i) / 8) 0 = L[(r + i) / 8] := by simp [List.getD, hpl]
              have hby := HLB.out _ (List.getElem_mem hpl)
              have hcell := HOW.out.cellAt ((r + i) / 8) (by rw [← HL.out]; omega)
              rw [c8_get hpl] at hcell
              have hfr := HOW.out.frozenAt ((r + i) / 8)
              have HTN := Lib.hid (show turn L (r + i) = L.set ((r + i) / 8) ((((L[(r + i) / 8]).toNat ^^^ 2 ^ ((r + i) % 8) : Nat)) : Int) by unfold turn; rw [hgd])
              generalize L[(r + i) / 8] = o at *
              obtain ⟨O, rfl⟩ : ∃ O : Nat, o = O := ⟨o.toNat, by omega⟩
              clear hgd hpl hp
              go_wp2_with (simp only [hm])
              have hk8 : (r + i) % 8 < 8 := Nat.mod_lt _ (by decide)
              have hval := bit_val O ((r + i) % 8) (by omega) hk8
              rw [hval]
              have htn := HTN.out
              rw [Int.toNat_natCast] at htn
              have hst := (HOW.out.stored ((r + i) / 8) (.int .u8 ((O ^^^ 2 ^ ((r + i) % 8) : Nat) : Int))).1
              rw [show (c8 L).set ((r + i) / 8) (.int .u8 ((O ^^^ 2 ^ ((r + i) % 8) : Nat) : Int)) = c8 (turn L (r + i)) by rw [htn]; simp [c8, List.map_set]] at hst
              go_roundw
              case rel =>
                have h := HBT.out
                rw [if_pos HBIT.out] at h
                have hp : r + i < 8 * L.length := by rw [HL.out]; exact hin
                refine ⟨i + 1, turn L (r + i), true, by omega, by go_num, rfl, ?_, by rw [turn_length]; exact HL.out, turn_byt HLB.out hp, ?_, hst, ?_, ?_⟩
                · have : X % 2 ^ (i + 1) ≠ 0 := by
                    have := Nat.mod_pow_succ (x := X) (b := 2) (k := i)
                    rw [HBIT.out, Nat.mul_one] at this
                    have h2 : 0 < 2 ^ i := Nat.pow_pos (by decide)
                    omega
                  exact (decide_eq_true this).symm
                · rw [turn_mor HLB.out hp, HMO.out, Nat.xor_assoc, HL.out, ← its_xor, ← h]
                · exact HRR.out.below ((Below.refl w1.heap.size wr).setCell (p := ⟨g, (r + i) / 8, none⟩) hg _)
                · exact HB.out.setCell (show w.heap.size ≤ g by omega) _
              case measure => simp [RowKit.intOf] <;> omega
          · have hT : X % 2 ^ i < 4294967296 := Nat.lt_of_le_of_lt (Nat.mod_le _ _) hX
            have hcmp : (((mor 0 L : Nat) : Int) != ((mor 0 zs : Nat) : Int)) = tb := by rw [HMO.out, burst_end hml hT, HTB.out]
            have htt : (tb == tb) = true := by simp
            have hs1 := sum_len (some ⟨g, 0, none⟩) L zs.length cap _ wr HL.out (by omega) HLB.out (Rds.ofOwn HOW.out)
            have hs2 := sum_any A zs c _ wr (by omega) HZ.out HRR.out
            generalize mor 0 L = ML at *
            generalize mor 0 zs = MZ at *
            have HS1 := Lib.hid hs1
            have HS2 := Lib.hid hs2
            clear hs1 hs2 hml hm
            rcases (show i < 32 ∧ 8 * zs.length ≤ r + i ∨ i = 32 by omega) with ⟨hlt, hout⟩ | rfl
            · have hout' : ¬ (r : Int) + (i : Int) < 8 * (zs.length : Int) := by omega
              clear hend
              go_wp2_with fail
              refine HS1.out.mono ?_
              rintro e w5 ⟨rfl, rfl⟩
              go_wp2_with fail
              refine HS2.out.mono ?_
              rintro e w6 ⟨rfl, rfl⟩
              go_wp2
              go_ret
              exact ⟨rfl, HB.out⟩
            · clear hend
              go_wp2_with fail
              refine HS1.out.mono ?_
              rintro e w5 ⟨rfl, rfl⟩
              go_wp2_with fail
              refine HS2.out.mono ?_
              rintro e w6 ⟨rfl, rfl⟩
              go_wp2
              go_ret
              exact ⟨rfl, HB.out⟩

open Go.ChangeShapes Go.WideShapes Go.ChangeAt
set_option maxRecDepth 100000 in
theorem cburst_lifted (os : Os) (started : os.Started) (H : Type) (enc : TypeId × Value → H) :
    ReturnsInHanded {} Try.checked os 8 .any (Rows.crcBurstSpec.pre6 enc Try.prog Try.f8 Rows.crcBurstRow.domain false) (Rows.crcBurstSpec.post enc Try.prog Try.f8 false true false false) := by
  refine returnsInHanded_of_change_sized (C := Try.checked) own started (by kernel_rfl) Try.func8
    (ChangeSpec.witness6 (enc := enc) (C := Try.checked) false ⟨#[], #[.slice none 0 0, .int .i64 0, .int .u32 0], []⟩ 8 (by kernel_rfl) (by kernel_rfl) (by kernel_rfl) (by kernel_rfl)) ?_
  intro W base args ds gs before hval0 hW _ hsz0 _
  have hsz : (DataW.weightsEach Try.prog (Try.f8.params.toList ++ Rows.crcBurstSpec.plain.varTypes Try.prog) (ds ++ gs)).all (· ≤ reachBytes) = true := hsz0
  have hval : ∀ (j : Nat) t v, Try.f8.params[j]? = some t → args[j]? = some v → Value.okWide Try.prog W .any base t v := hval0
  have hW' := hW
  obtain ⟨p, q, hA0, hV, rfl, _, _⟩ := hW
  have hA : DataW.TrodAll enc Try.prog W 0 (fun _ => true) true Try.f8.params.toList args.toList ds p := hA0
  rw [Try.params8] at hA hval hsz
  obtain ⟨v0, vs0, d0, ds0, p0, q0, hargs, rfl, rfl, h0, r0⟩ := trodAll_cons hA
  obtain ⟨v1, vs1, d1, ds1, p1, q1, rfl, rfl, rfl, h1, r1⟩ := trodAll_cons r0
  obtain ⟨v2, vs2, d2, ds2, p2, q2, rfl, rfl, rfl, h2, r2⟩ := trodAll_cons r1
  obtain ⟨rfl, rfl, rfl⟩ := trodAll_nil r2
  obtain rfl : args = #[v0, v1, v2] := by cases args; simp_all
  obtain ⟨A0, zs0, c0, hb0⟩ := open_bytes Try.underlying27 Try.underlying5 cells8 (hval 0 27 v0 rfl rfl) h0
  have hl0 := hb0.reach hsz (j := 0) (t := 27) (e := 5) rfl rfl Try.underlying27 bytes8
  obtain rfl := hb0.val
  obtain ⟨a1, rfl, rfl, rfl, w1⟩ := open_int Try.underlying3 (hval 1 3 v1 rfl rfl) h1
  have b1 := bounds_i64 w1
  obtain ⟨a2, rfl, rfl, rfl, w2⟩ := open_int Try.underlying22 (hval 2 22 v2 rfl rfl) h2
  have b2 := bounds_u32 w2
  exact law_close laid rfl hW' (by kernel_rfl) rfl Try.underlying4 rfl (burst_walk A0 zs0 c0 a1 a2 W b1 b2 hl0 hb0.byt hb0.nil_ hb0.cap hb0.rds)

theorem crcBurst_holds : Rows.CrcBurstSaid :=
  OpenClaim.holds_of_wide 8 Try.f8 rfl rfl rfl rfl rfl rfl rfl ⟨rfl, rfl, rfl, rfl, rfl⟩ rfl rfl rfl rfl rfl (by kernel_rfl) Try.func8 (by kernel_rfl)
    (of_decide_eq_true (by kernel_rfl)) (by unfold Func.isWrapper; first | (rw [if_pos (by decide +kernel)]; kernel_rfl) | (rw [if_neg (by decide +kernel)]; exact ⟨rfl, rfl⟩))
    (fun os started H enc _ => cburst_lifted os started H enc)

#print axioms crcBurst_holds

end Go.Proofs.Ytnmnkkohfcbmfaa
