/- The statement on a reader's calls: over any bytes and any calls it does, call by call, what the document says. No condition. -/
import Derived.Test.YtihndehmagfidaaLives
import Derived.Test.YtihndehmagfidaaKit
import Derived.Test.YtihndehmagfidaaRefRd2
import Derived.Test.YtihndehmagfidaaEnd
namespace Go.Proofs.Ytihndehmagfidaa
open Go.RowKit
set_option linter.unusedVariables false

theorem cellsN : Try.prog.cellsOf 3 = 1 := by kernel_rfl
theorem bytesN : Try.prog.bytesOf 3 = 8 := by kernel_rfl

/-- a number of 0 to 6 out of any one, as the kit reckons it -/
def pick7 (x : Int) : Int := (x.tmod 7 + 7) % 7
theorem pick7_range (x : Int) : 0 ≤ pick7 x ∧ pick7 x ≤ 6 := by
  have h1 := Int.tmod_lt_of_pos x (show (0 : Int) < 7 by decide)
  have h2 := Int.lt_tmod_of_pos x (show (0 : Int) < 7 by decide)
  unfold pick7
  omega
theorem tmod_small (x n : Int) (hn : 0 < n) : -n < x.tmod n ∧ x.tmod n < n := ⟨Int.lt_tmod_of_pos x hn, Int.tmod_lt_of_pos x hn⟩

theorem pick_any (x : Int) (w : World) (hx : -9223372036854775808 ≤ x ∧ x ≤ 9223372036854775807) : Calls Try.prog 29 #[.int .i64 x, .int .i64 7] w fun e w' => e = .returned (.int .i64 (pick7 x)) ∧ w' = w := by
  have h := tmod_small x 7 (by decide)
  go_enter Try.func29, Try.ntmps29
  go_wp2
  go_ret
  exact ⟨rfl, rfl⟩

theorem same_any {w : World} {B g g2 c c' : Nat} {A A' : Option Addr} {zs : List Int} {k e : Int} (h : RD w g A' c' zs k e) (h2 : RR w B g2 A c zs k e) :
    Calls Try.prog 42 #[.pointer (some ⟨g, 0, none⟩), .pointer (some ⟨g2, 0, none⟩)] w fun r w' => r = .returned (.bool true) ∧ ∃ n, w' = w.drewN n := by
  have HE := Lib.hid h.ers
  have HP := fun n => Lib.hid (at_made (h.drewN n))
  have h1 := h2.c1
  have h3 := h2.c2
  have he : (e == e) = true := by simp
  have hk : (k == k) = true := by simp
  clear h h2
  go_enter Try.func42, Try.ntmps42
  go_wp2_with fail
  go_quiet ((first | (go_at_call 18; exact Calls.quiet_of_same (HE.out _)) | (go_at_call 20; exact Calls.quiet_of_same (HP _).out)))
  go_wp2
  go_ret
  exact ⟨rfl, _, rfl⟩
theorem truth_le {k : Nat} {zs : List Int} (hk : k ≤ zs.length) : k + (truth (zs.drop k)).2.1 ≤ zs.length := by
  rcases Nat.lt_or_ge k zs.length with h | h
  · rw [List.drop_eq_getElem_cons h]
    show k + (if 1 < zs[k] then (false, 0, 5) else (zs[k] == 1, 1, 0) : Bool × Nat × Int).2.1 ≤ _
    by_cases h1 : 1 < zs[k]
    · rw [if_pos h1]; exact hk
    · rw [if_neg h1]; exact h
  · rw [List.drop_eq_nil_of_le h]
    simpa [truth] using hk
theorem textOf_le {k : Nat} {zs : List Int} (hk : k ≤ zs.length) (hz : Byt (zs.drop k)) : k + (textOf (zs.drop k)).2.1 ≤ zs.length := by
  obtain ⟨⟨X, n, E, hn, hX0, _, hnl, _, hE0, _⟩, _⟩ := num_ok 65536 (zs.drop k) hz (by omega)
  rw [List.length_drop] at hnl
  unfold textOf
  rw [hn]
  simp only [Int.toNat_natCast, List.length_drop]
  by_cases hE : E = 0
  · rw [if_pos hE]
    by_cases hs : ((zs.length - k - n : Nat) : Int) < X
    · rw [if_pos hs]; exact hk
    · rw [if_neg hs]
      show k + (n + X.toNat) ≤ _
      omega
  · rw [if_neg hE]; exact hk
theorem rInt_stop {w : World} {B g c : Nat} {A : Option Addr} {zs : List Int} {p e : Int} (he : (e != 0) = true) (h : RR w B g A c zs p e) : Calls Try.prog 32 #[.pointer (some ⟨g, 0, none⟩)] w fun r w' => r = .returned (.int .i64 0) ∧ w' = w :=
  rInt_of (X := 0) (by omega) (by omega) (rUint_stop he h)

set_option maxRecDepth 1000000 in
set_option maxHeartbeats 12800000 in
theorem script_walk (A : Option Addr) (zs : List Int) (c : Nat) (A2 : Option Addr) (xs : List Int) (c2 : Nat) (w : World) (hl : zs.length ≤ 140737488351232) (hc : zs.length ≤ c) (hcm : c ≤ maxLen) (hz : Byt zs) (hA : A = none → zs.length = 0 ∧ c = 0) (hr : Rds w w.heap.size A (c8 zs))
    (hl2 : xs.length ≤ 17592186043904) (hx : I64 xs) (hr2 : Rds w w.heap.size A2 (cI xs)) :
    Calls Try.prog 6 #[.slice A zs.length c, .slice A2 xs.length c2] w fun e w' => e = .returned (.bool true) ∧ Below w.heap.size w w' := by
  obtain ⟨i0, hi, hz0, hz1, hz2⟩ := info_parts info8
  have HA := Lib.hid hA
  clear hA
  have hB := Nat.le_refl w.heap.size
  by_cases h200 : 200 < xs.length
  · go_enter Try.func6, Try.ntmps6
    go_wp2_with fail
    refine (lives_any _).mono ?_
    rintro e w1 ⟨rfl, hb1⟩
    go_wp2
    go_ret
    exact ⟨rfl, hb1⟩
  · go_enter Try.func6, Try.ntmps6
    go_wp2_with fail
    refine (lives_any _).mono ?_
    rintro e w1 ⟨rfl, hb1⟩
    have hr1 := hr.go hb1
    have hown1 := World.ownsRow_made (base := w1.heap.size) (e := 5) (size := 1) w1 #[] 0 (Nat.le_refl _) (by unfold maxLen; omega) rfl
    have hr1' := hr1.alloc (Nat.le_refl _) (.cells #[] 5)
    go_wp2_with (at_builtin; go_loud (refine app_many (w1.alloc (.cells #[] 5)) rfl (.tmp 15) (.tmp 16) 23 rfl w1.heap.size 5 i0 (.int .u8 0) 1 Try.underlying23 hi hz0 hz1 hz2 rfl _ 0 [] rfl hown1 A zs.length c w1.heap.size (c8 zs) rfl (c8_length zs).symm hr1' (fun h => (HA.out h).2) (c8_one zs) (by unfold maxLen; omega) (by omega) (by simp) ?_))
    intro v2 w2 hown2 hb2
    have hb3 := hb1.trans ((((Below.refl w1.heap.size w1).alloc (Nat.le_refl _) (.cells #[] 5)).trans hb2).mono hb1.size)
    obtain ⟨A3, c3, rfl, hr3, hc3, _, hn3⟩ := own_open hown2
    clear hb1 hr1 hown1 hr1' hb2 hown2
    have HN3 := Lib.hid hn3
    clear hn3
    go_wp2_with fail
    refine (new_any A3 zs c3 w2 (by omega) hc3 HN3.out hz hr3).mono ?_
    rintro e w4 ⟨g, A', c', rfl, hg1, hg2, hrd, hb4'⟩
    have hb4 := belowGo hb3 hB hb4'
    have hgw : w.heap.size ≤ g := Nat.le_trans hb3.size hg1
    clear hb3 hb4' hr3
    go_wp2_with fail
    have hrr : RR (w4.alloc (.cells #[.slice A zs.length c, .int .i64 0, .int .i64 0] 45)) w.heap.size w4.heap.size A c zs 0 0 :=
      ⟨Whole.new _ _ _, (hr.below hb4).alloc hb4.size _, ⟨hc, hl, hcm, hz⟩, hb4.size⟩
    have hrd' : RD (w4.alloc (.cells #[.slice A zs.length c, .int .i64 0, .int .i64 0] 45)) g A' c' zs 0 0 := hrd.below ((Below.refl w4.heap.size w4).alloc (Nat.le_refl _) _) hrd.1.lt
    have hb5 := hb4.alloc hb4.size (.cells #[.slice A zs.length c, .int .i64 0, .int .i64 0] 45)
    have hgg : g < w4.heap.size := hg2
    generalize hg2n : w4.heap.size = g2 at *
    have HG := Lib.hid hg2n
    clear hg2n
    generalize w4.alloc (.cells #[.slice A zs.length c, .int .i64 0, .int .i64 0] 45) = w5 at *
    clear hrd hb4 hg1 hg2
    have HRR : Hid (RR w5 w.heap.size g2 A c zs 0 0) := Lib.hid hrr
    have HRD : Hid (RD w5 g A' c' zs 0 0) := Lib.hid hrd'
    clear hrr hrd'
    have hg2w : w.heap.size ≤ g2 := by omega
    have hne : g2 ≠ g := by omega
    have HR2 := Lib.hid hr2
    clear hr2 hr
    go_loopw [7] (fun i wr => ∃ (n k : Nat) (E : Int), n ≤ xs.length ∧ i = .int .i64 n ∧ k ≤ zs.length ∧ RD wr g A' c' zs k E ∧ RR wr w.heap.size g2 A c zs k E ∧ Below w.heap.size w wr) (fun i _ => xs.length - (intOf i).toNat)
    case atStart => exact ⟨0, 0, 0, Nat.zero_le _, rfl, Nat.zero_le _, HRD.out, HRR.out, hb5⟩
    case round =>
      obtain ⟨n, k, E, hn, rfl, hk, hrd, hrr, hbl⟩ := hrel
      by_cases hlt : n < xs.length
      · obtain ⟨ad, rfl, _, hcell⟩ := (HR2.out.below hbl).at_ (cI_get hlt)
        have hxx := hx xs[n] (List.getElem_mem hlt)
        generalize xs[n] = x at *
        have ht16 := tmod_small x 16 (by decide)
        clear HRR HRD hb5
        have HRd := Lib.hid hrd
        have HRr := Lib.hid hrr
        clear hrd hrr
        go_wp2_with fail
        refine (pick_any x _ hxx).mono ?_
        rintro e w1 ⟨rfl, rfl⟩
        have hp := pick7_range x
        generalize pick7 x = p at *
        have hp7 : p = 0 ∨ p = 1 ∨ p = 2 ∨ p = 3 ∨ p = 4 ∨ p = 5 ∨ p = 6 := by omega
        clear hp
        obtain ⟨X, m, E1, hnum, hX0, hX1, hml, _, hE0, _⟩ := (num_ok 18446744073709551615 (zs.drop k) (hz.drop k) (by omega)).1
        rw [List.length_drop] at hml
        have hdec : dec 0 0 (zs.drop k) = (X, (m : Int), E1) := by
          obtain ⟨Y, m', E', hd, hY0, hY1, _, _, hE0', _⟩ := dec_ok (zs.drop k) 0 0 (by omega) (by omega) (by decide) (hz.drop k)
          rw [num_dec hd] at hnum
          rw [hd]
          by_cases h : E' = 0
          · subst h
            rw [if_pos rfl, if_neg (by omega)] at hnum
            exact hnum
          · obtain ⟨rfl, rfl⟩ := hE0' h
            rw [if_neg h] at hnum
            exact hnum
        have HNum := Lib.hid hnum
        have HDec := Lib.hid hdec
        clear hnum hdec
        by_cases hE : E = 0
        · subst hE
          rcases hp7 with rfl | rfl | rfl | rfl | rfl | rfl | rfl
          · go_wp2_with fail
            refine (uint_go HRd.out hk HNum.out (by omega)).mono ?_
            rintro e w1 ⟨rfl, hrd1, hg1⟩
            have hrr1 := HRr.out.other hg1 hne hgw
            have HRd1 := Lib.hid hrd1
            have HRr1 := Lib.hid hrr1
            clear hrd1 hrr1
            go_wp2_with fail
            refine (rUint_go HRr1.out hk HDec.out (by omega)).mono ?_
            rintro e w2 ⟨rfl, hrr2, hg2⟩
            have hrd2 := HRd1.out.other hg2 hgg
            have HRd2 := Lib.hid hrd2
            have HRr2 := Lib.hid hrr2
            clear hrd2 hrr2
            have hb2 := (hbl.grown hg1 hbl.size (fun j hj => by cases hj; exact hgw)).grown hg2 (Nat.le_trans hbl.size hg1.size) (fun j hj => by cases hj; exact hg2w)
            go_wp2_with fail
            refine (same_any HRd2.out HRr2.out).mono ?_
            rintro e w3 ⟨rfl, n3, rfl⟩
            go_wp2
            go_roundw
            case rel => exact ⟨n + 1, k + m, E1, by omega, by go_num, by omega, HRd2.out.drewN n3, HRr2.out.drewN n3, below_drewN hb2 n3⟩
            case measure => simp [intOf]; omega
          · go_wp2_with fail
            refine (int_go HRd.out hk HNum.out (by omega) hX0 hX1).mono ?_
            rintro e w1 ⟨rfl, hrd1, hg1⟩
            have hrr1 := HRr.out.other hg1 hne hgw
            have HRd1 := Lib.hid hrd1
            have HRr1 := Lib.hid hrr1
            clear hrd1 hrr1
            go_wp2_with fail
            refine (rInt_of hX0 hX1 (rUint_go HRr1.out hk HDec.out (by omega))).mono ?_
            rintro e w2 ⟨rfl, hrr2, hg2⟩
            have hrd2 := HRd1.out.other hg2 hgg
            have HRd2 := Lib.hid hrd2
            have HRr2 := Lib.hid hrr2
            clear hrd2 hrr2
            have hb2 := (hbl.grown hg1 hbl.size (fun j hj => by cases hj; exact hgw)).grown hg2 (Nat.le_trans hbl.size hg1.size) (fun j hj => by cases hj; exact hg2w)
            go_wp2_with fail
            refine (same_any HRd2.out HRr2.out).mono ?_
            rintro e w3 ⟨rfl, n3, rfl⟩
            go_wp2
            go_roundw
            case rel => exact ⟨n + 1, k + m, E1, by omega, by go_num, by omega, HRd2.out.drewN n3, HRr2.out.drewN n3, below_drewN hb2 n3⟩
            case measure => simp [intOf]; omega
          · go_wp2_with fail
            refine (bool_go HRd.out hk).mono ?_
            rintro e w1 ⟨rfl, hrd1, hg1⟩
            have hrr1 := HRr.out.other hg1 hne hgw
            have HRd1 := Lib.hid hrd1
            have HRr1 := Lib.hid hrr1
            clear hrd1 hrr1
            go_wp2_with fail
            refine (rBool_go HRr1.out hk).mono ?_
            rintro e w2 ⟨rfl, hrr2, hg2⟩
            have hrd2 := HRd1.out.other hg2 hgg
            have HRd2 := Lib.hid hrd2
            have HRr2 := Lib.hid hrr2
            clear hrd2 hrr2
            have hb2 := (hbl.grown hg1 hbl.size (fun j hj => by cases hj; exact hgw)).grown hg2 (Nat.le_trans hbl.size hg1.size) (fun j hj => by cases hj; exact hg2w)
            go_wp2_with fail
            refine (same_any HRd2.out HRr2.out).mono ?_
            rintro e w3 ⟨rfl, n3, rfl⟩
            go_wp2
            go_roundw
            case rel => exact ⟨n + 1, _, _, by omega, by go_num, truth_le hk, HRd2.out.drewN n3, HRr2.out.drewN n3, below_drewN hb2 n3⟩
            case measure => simp [intOf]; omega
          · go_wp2_with fail
            refine (text_go HRd.out hk).mono ?_
            rintro e w1 ⟨rfl, hrd1, hg1⟩
            have hrr1 := HRr.out.other hg1 hne hgw
            have HRd1 := Lib.hid hrd1
            have HRr1 := Lib.hid hrr1
            clear hrd1 hrr1
            go_wp2_with fail
            refine (rText_go HRr1.out hk).mono ?_
            rintro e w2 ⟨rfl, hrr2, hg2⟩
            have hrd2 := HRd1.out.other hg2 hgg
            have HRd2 := Lib.hid hrd2
            have HRr2 := Lib.hid hrr2
            clear hrd2 hrr2
            have hb2 := (hbl.grown hg1 hbl.size (fun j hj => by cases hj; exact hgw)).grown hg2 (Nat.le_trans hbl.size hg1.size) (fun j hj => by cases hj; exact hg2w)
            go_wp2_with fail
            refine (same_any HRd2.out HRr2.out).mono ?_
            rintro e w3 ⟨rfl, n3, rfl⟩
            go_wp2
            go_roundw
            case rel => exact ⟨n + 1, _, _, by omega, by go_num, textOf_le hk (hz.drop k), HRd2.out.drewN n3, HRr2.out.drewN n3, below_drewN hb2 n3⟩
            case measure => simp [intOf]; omega
          · by_cases hx0 : x < 0
            · go_wp2_with fail
              refine (count_neg HRd.out x hx0).mono ?_
              rintro e w1 ⟨rfl, hrd1, hg1⟩
              have hrr1 := HRr.out.other hg1 hne hgw
              have HRd1 := Lib.hid hrd1
              have HRr1 := Lib.hid hrr1
              clear hrd1 hrr1
              go_wp2_with fail
              refine (rCount_neg HRr1.out x hx0).mono ?_
              rintro e w2 ⟨rfl, hrr2, hg2⟩
              have hrd2 := HRd1.out.other hg2 hgg
              have HRd2 := Lib.hid hrd2
              have HRr2 := Lib.hid hrr2
              clear hrd2 hrr2
              have hb2 := (hbl.grown hg1 hbl.size (fun j hj => by cases hj; exact hgw)).grown hg2 (Nat.le_trans hbl.size hg1.size) (fun j hj => by cases hj; exact hg2w)
              go_wp2_with fail
              refine (same_any HRd2.out HRr2.out).mono ?_
              rintro e w3 ⟨rfl, n3, rfl⟩
              go_wp2
              go_roundw
              case rel => exact ⟨n + 1, k, 2, by omega, by go_num, hk, HRd2.out.drewN n3, HRr2.out.drewN n3, below_drewN hb2 n3⟩
              case measure => simp [intOf]; omega
            · obtain ⟨⟨X2, m2, E2, hnum2, hX20, _, hml2, _, hE20, _⟩, hX22⟩ := num_ok x (zs.drop k) (hz.drop k) (by omega)
              rw [List.length_drop] at hml2
              rw [hnum2] at hX22
              simp only at hX22
              have HNum2 := Lib.hid hnum2
              clear hnum2
              go_wp2_with fail
              refine (count_go HRd.out hk x (by omega) hxx.2 HNum2.out hX20 hX22 (by omega)).mono ?_
              rintro e w1 ⟨rfl, hrd1, hg1⟩
              have hrr1 := HRr.out.other hg1 hne hgw
              have HRd1 := Lib.hid hrd1
              have HRr1 := Lib.hid hrr1
              clear hrd1 hrr1
              go_wp2_with fail
              refine (rCount_go HRr1.out hk x (by omega) hxx.2 HNum2.out).mono ?_
              rintro e w2 ⟨rfl, hrr2, hg2⟩
              have hrd2 := HRd1.out.other hg2 hgg
              have HRd2 := Lib.hid hrd2
              have HRr2 := Lib.hid hrr2
              clear hrd2 hrr2
              have hb2 := (hbl.grown hg1 hbl.size (fun j hj => by cases hj; exact hgw)).grown hg2 (Nat.le_trans hbl.size hg1.size) (fun j hj => by cases hj; exact hg2w)
              go_wp2_with fail
              refine (same_any HRd2.out HRr2.out).mono ?_
              rintro e w3 ⟨rfl, n3, rfl⟩
              go_wp2
              go_roundw
              case rel => exact ⟨n + 1, k + m2, E2, by omega, by go_num, by omega, HRd2.out.drewN n3, HRr2.out.drewN n3, below_drewN hb2 n3⟩
              case measure => simp [intOf]; omega
          · go_wp2_with fail
            refine (fail_go HRd.out (x.tmod 16)).mono ?_
            rintro e w1 ⟨rfl, hrd1, hg1⟩
            have hrr1 := HRr.out.other hg1 hne hgw
            have HRd1 := Lib.hid hrd1
            have HRr1 := Lib.hid hrr1
            clear hrd1 hrr1
            go_wp2_with fail
            refine (rFail_go HRr1.out (x.tmod 16)).mono ?_
            rintro e w2 ⟨rfl, hrr2, hg2⟩
            have hrd2 := HRd1.out.other hg2 hgg
            have HRd2 := Lib.hid hrd2
            have HRr2 := Lib.hid hrr2
            clear hrd2 hrr2
            have hb2 := (hbl.grown hg1 hbl.size (fun j hj => by cases hj; exact hgw)).grown hg2 (Nat.le_trans hbl.size hg1.size) (fun j hj => by cases hj; exact hg2w)
            go_wp2_with fail
            refine (same_any HRd2.out HRr2.out).mono ?_
            rintro e w3 ⟨rfl, n3, rfl⟩
            go_wp2
            go_roundw
            case rel => exact ⟨n + 1, k, x.tmod 16, by omega, by go_num, hk, HRd2.out.drewN n3, HRr2.out.drewN n3, below_drewN hb2 n3⟩
            case measure => simp [intOf]; omega
          · go_wp2_with fail
            refine (done_go HRd.out hk).mono ?_
            rintro e w1 ⟨rfl, hrd1, hg1⟩
            have hrr1 := HRr.out.other hg1 hne hgw
            have HRd1 := Lib.hid hrd1
            have HRr1 := Lib.hid hrr1
            clear hrd1 hrr1
            go_wp2_with fail
            refine (rDone_go HRr1.out hk).mono ?_
            rintro e w2 ⟨rfl, hrr2, hg2⟩
            have hrd2 := HRd1.out.other hg2 hgg
            have HRd2 := Lib.hid hrd2
            have HRr2 := Lib.hid hrr2
            clear hrd2 hrr2
            have hb2 := (hbl.grown hg1 hbl.size (fun j hj => by cases hj; exact hgw)).grown hg2 (Nat.le_trans hbl.size hg1.size) (fun j hj => by cases hj; exact hg2w)
            go_wp2_with fail
            refine (same_any HRd2.out HRr2.out).mono ?_
            rintro e w3 ⟨rfl, n3, rfl⟩
            go_wp2
            go_roundw
            case rel => exact ⟨n + 1, k, _, by omega, by go_num, hk, HRd2.out.drewN n3, HRr2.out.drewN n3, below_drewN hb2 n3⟩
            case measure => simp [intOf]; omega
        · have he1 : (E != 0) = true := by simpa using hE
          have he2 : (E == 0) = false := by simpa using hE
          have HS : Hid (Stp w1 (some ⟨g, 0, none⟩) true) := Lib.hid (HRd.out.ers.off hE)
          have HE := Lib.hid hE
          clear hE
          rcases hp7 with rfl | rfl | rfl | rfl | rfl | rfl | rfl
          · go_wp2_with fail
            refine (uint_stop HS.out).mono ?_
            rintro e w2 ⟨rfl, rfl⟩
            go_wp2_with fail
            refine (rUint_stop he1 HRr.out).mono ?_
            rintro e w3 ⟨rfl, rfl⟩
            go_wp2_with fail
            refine (same_any HRd.out HRr.out).mono ?_
            rintro e w4 ⟨rfl, n3, rfl⟩
            go_wp2
            go_roundw
            case rel => exact ⟨n + 1, k, E, by omega, by go_num, hk, HRd.out.drewN n3, HRr.out.drewN n3, below_drewN hbl n3⟩
            case measure => simp [intOf]; omega
          · go_wp2_with fail
            refine (int_stop HS.out).mono ?_
            rintro e w2 ⟨rfl, rfl⟩
            go_wp2_with fail
            refine (rInt_stop he1 HRr.out).mono ?_
            rintro e w3 ⟨rfl, rfl⟩
            go_wp2_with fail
            refine (same_any HRd.out HRr.out).mono ?_
            rintro e w4 ⟨rfl, n3, rfl⟩
            go_wp2
            go_roundw
            case rel => exact ⟨n + 1, k, E, by omega, by go_num, hk, HRd.out.drewN n3, HRr.out.drewN n3, below_drewN hbl n3⟩
            case measure => simp [intOf]; omega
          · go_wp2_with fail
            refine (bool_stop HS.out).mono ?_
            rintro e w2 ⟨rfl, rfl⟩
            go_wp2_with fail
            refine (rBool_stop he1 HRr.out).mono ?_
            rintro e w3 ⟨rfl, rfl⟩
            go_wp2_with fail
            refine (same_any HRd.out HRr.out).mono ?_
            rintro e w4 ⟨rfl, n3, rfl⟩
            go_wp2
            go_roundw
            case rel => exact ⟨n + 1, k, E, by omega, by go_num, hk, HRd.out.drewN n3, HRr.out.drewN n3, below_drewN hbl n3⟩
            case measure => simp [intOf]; omega
          · go_wp2_with fail
            refine (text_stop HS.out).mono ?_
            rintro e w2 ⟨rfl, rfl⟩
            go_wp2_with fail
            refine (rText_stop he1 HRr.out).mono ?_
            rintro e w3 ⟨rfl, rfl⟩
            go_wp2_with fail
            refine (same_any HRd.out HRr.out).mono ?_
            rintro e w4 ⟨rfl, n3, rfl⟩
            go_wp2
            go_roundw
            case rel => exact ⟨n + 1, k, E, by omega, by go_num, hk, HRd.out.drewN n3, HRr.out.drewN n3, below_drewN hbl n3⟩
            case measure => simp [intOf]; omega
          · go_wp2_with fail
            refine (count_stop HS.out x).mono ?_
            rintro e w2 ⟨rfl, rfl⟩
            go_wp2_with fail
            refine (rCount_stop he1 HRr.out x).mono ?_
            rintro e w3 ⟨rfl, rfl⟩
            go_wp2_with fail
            refine (same_any HRd.out HRr.out).mono ?_
            rintro e w4 ⟨rfl, n3, rfl⟩
            go_wp2
            go_roundw
            case rel => exact ⟨n + 1, k, E, by omega, by go_num, hk, HRd.out.drewN n3, HRr.out.drewN n3, below_drewN hbl n3⟩
            case measure => simp [intOf]; omega
          · go_wp2_with fail
            refine (fail_stop HS.out (x.tmod 16)).mono ?_
            rintro e w2 ⟨rfl, rfl⟩
            go_wp2_with fail
            refine (rFail_stop he2 HRr.out (x.tmod 16)).mono ?_
            rintro e w3 ⟨rfl, rfl⟩
            go_wp2_with fail
            refine (same_any HRd.out HRr.out).mono ?_
            rintro e w4 ⟨rfl, n3, rfl⟩
            go_wp2
            go_roundw
            case rel => exact ⟨n + 1, k, E, by omega, by go_num, hk, HRd.out.drewN n3, HRr.out.drewN n3, below_drewN hbl n3⟩
            case measure => simp [intOf]; omega
          · go_wp2_with fail
            refine (done_stop HE.out HRd.out.ers).mono ?_
            rintro e w2 ⟨rfl, n1, rfl⟩
            go_wp2_with fail
            refine (rDone_stop he2 (HRr.out.drewN n1) hk).mono ?_
            rintro e w3 ⟨rfl, n2, rfl⟩
            go_wp2_with fail
            refine (same_any (HRd.out.drewN (n1 + n2)) (HRr.out.drewN (n1 + n2))).mono ?_
            rintro e w4 ⟨rfl, n3, rfl⟩
            go_wp2
            go_roundw
            case rel => exact ⟨n + 1, k, E, by omega, by go_num, hk, HRd.out.drewN (n1 + n2 + n3), HRr.out.drewN (n1 + n2 + n3), below_drewN hbl (n1 + n2 + n3)⟩
            case measure => simp [intOf]; omega
      · go_wp2
        go_ret
        exact ⟨rfl, hbl⟩

open Go.ChangeShapes Go.WideShapes Go.ChangeAt
set_option maxRecDepth 100000 in
theorem script_lifted (os : Os) (started : os.Started) (H : Type) (enc : TypeId × Value → H) :
    ReturnsInHanded {} Try.checked os 6 .any (Rows.wireScriptSpec.pre6 enc Try.prog Try.f6 Rows.wireScriptRow.domain false) (Rows.wireScriptSpec.post enc Try.prog Try.f6 false true false false) := by
  refine returnsInHanded_of_change_sized (C := Try.checked) own started (by kernel_rfl) Try.func6
    (ChangeSpec.witness6 (enc := enc) (C := Try.checked) false ⟨#[], #[.slice none 0 0, .slice none 0 0], []⟩ 8 (by kernel_rfl) (by kernel_rfl) (by kernel_rfl) (by kernel_rfl)) ?_
  intro W base args ds gs before hval0 hW _ hsz0 _
  have hsz : (DataW.weightsEach Try.prog (Try.f6.params.toList ++ Rows.wireScriptSpec.plain.varTypes Try.prog) (ds ++ gs)).all (· ≤ reachBytes) = true := hsz0
  have hval : ∀ (j : Nat) t v, Try.f6.params[j]? = some t → args[j]? = some v → Value.okWide Try.prog W .any base t v := hval0
  have hW' := hW
  obtain ⟨p, q, hA0, hV, rfl, _, _⟩ := hW
  have hA : DataW.TrodAll enc Try.prog W 0 (fun _ => true) true Try.f6.params.toList args.toList ds p := hA0
  rw [Try.params6] at hA hval hsz
  obtain ⟨v0, vs0, d0, ds0, p0, q0, hargs, rfl, rfl, h0, r0⟩ := trodAll_cons hA
  obtain ⟨v1, vs1, d1, ds1, p1, q1, rfl, rfl, rfl, h1, r1⟩ := trodAll_cons r0
  obtain ⟨rfl, rfl, rfl⟩ := trodAll_nil r1
  obtain rfl : args = #[v0, v1] := by cases args; simp_all
  obtain ⟨A0, zs0, c0, hb0⟩ := open_bytes Try.underlying23 Try.underlying5 cells8 (hval 0 23 v0 rfl rfl) h0
  have hl0 := hb0.reach hsz (j := 0) (t := 23) (e := 5) rfl rfl Try.underlying23 bytes8
  obtain rfl := hb0.val
  obtain ⟨A1, zs1, c1, hn1⟩ := open_nums Try.underlying42 Try.underlying3 cellsN (hval 1 42 v1 rfl rfl) h1
  have hl1 := hn1.reach hsz (j := 1) (t := 42) (e := 3) rfl rfl Try.underlying42 bytesN
  obtain rfl := hn1.val
  exact law_close laid rfl hW' (by kernel_rfl) rfl Try.underlying4 rfl (script_walk A0 zs0 c0 A1 zs1 c1 W hl0 hb0.cap hb0.capMax hb0.byt hb0.nil_ hb0.rds hl1 hn1.i64 hn1.rds)

theorem wireScript_holds : Rows.WireScriptSaid :=
  OpenClaim.holds_of_wide 6 Try.f6 rfl rfl rfl rfl rfl rfl rfl ⟨rfl, rfl, rfl, rfl, rfl⟩ rfl rfl rfl rfl rfl (by kernel_rfl) Try.func6 (by kernel_rfl)
    (of_decide_eq_true (by kernel_rfl)) (by unfold Func.isWrapper; first | (rw [if_pos (by decide +kernel)]; kernel_rfl) | (rw [if_neg (by decide +kernel)]; exact ⟨rfl, rfl⟩))
    (fun os started H enc _ => script_lifted os started H enc)

#print axioms wireScript_holds
end Go.Proofs.Ytihndehmagfidaa
