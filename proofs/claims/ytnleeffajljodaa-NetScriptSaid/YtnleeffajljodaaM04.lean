/- Several texts, each a section: NPdq, NSort, NSameU, NMap, DFrame, NObj, NNew, NFind. -/
import Derived.Test.YtnleeffajljodaaM01
import Derived.Test.YtnleeffajljodaaM02
import Derived.Test.YtnleeffajljodaaM03
import Derived.Deep.DeepCutAuto
import Derived.Maps.OwnSet
import Derived.Maps.Range
import Derived.Sort.KeysCollected
import Derived.Handy
import Derived.Lib.Builder
import Derived.Carry
import Derived.Deep.Cut
import Derived.Maps.OwnOps
import Derived.OwnWalk
import Derived.Maps.RangeWalk
section
/- slices.pdqsortOrdered over uint64: it sorts. -/
namespace Go.Proofs.Ytnleeffajljodaa
open Go.RowKit Go.Sort
set_option linter.unusedVariables false

set_option maxHeartbeats 32000000 in
set_option maxRecDepth 1000000 in
theorem pdq_all : ∀ (K g c N : Nat) (d : Array Int) (w : World) (h : SR w g c N w d) (cap a b l : Nat) (hK : b - a < K) (hab : a ≤ b) (hb : b ≤ N) (hN : N < 4611686018427387904) (hl : l < 4611686018427387904) (hB : Sort.Below ltInt a b d),
    Calls Try.prog 52 #[.slice (some ⟨g, 0, none⟩) N cap, .int .i64 a, .int .i64 b, .int .i64 l] w fun e w' => e = .returned (.tuple #[]) ∧ ∃ d', SR w g c N w' d' ∧ PermIn a b d d' ∧ SortedIn ltInt a b d' := by
  intro K
  induction K with
  | zero => intro _ _ _ _ _ _ _ _ _ _ hK; omega
  | succ K ih =>
    intro g c N d w h cap a b l hK hab hb hN hl hB
    have IH := Lib.hid ih
    have HS := Lib.hid h
    have HB := Lib.hid hB
    clear ih h hB
    go_enter Try.func52, Try.ntmps52
    go_wp2
    go_loopg [1, 2, 3, 8, 9] (b - a) (fun M s1 s2 s3 s8 s9 wr => ∃ (a' b' l' : Nat) (wb wp : Bool) (dk : Array Int), s1 = .int .i64 a' ∧ s2 = .int .i64 b' ∧ s3 = .int .i64 l' ∧ s8 = .bool wb ∧ s9 = .bool wp ∧
      a' ≤ b' ∧ b' ≤ N ∧ b' - a' ≤ M ∧ b' - a' ≤ b - a ∧ l' ≤ l ∧ SR w g c N wr dk ∧ Sort.Below ltInt a' b' dk ∧ Fin' a b d a' b' dk)
    case atStart => exact ⟨a, b, l, true, true, d, rfl, rfl, rfl, rfl, rfl, hab, hb, Nat.le_refl _, Nat.le_refl _, Nat.le_refl _, HS.out, HB.out, Fin'.refl⟩
    case round =>
      obtain ⟨a', b', l', wb, wp, dk, rfl, rfl, rfl, rfl, rfl, hab', hb', hM, hM2, hl', hs, hBk, hF⟩ := hrel
      have HK := Lib.hid hs
      have HBk := Lib.hid hBk
      have HF := Lib.hid hF
      have hdsz : dk.size = N := hs.len
      have HDS := Lib.hid hdsz
      clear hs hBk hF hdsz
      by_cases h12 : b' - a' ≤ 12
      · have h12z : (b' : Int) - (a' : Int) ≤ 12 := by omega
        go_wp2_with fail
        go_at_call 54
        refine (ins_any HK.out.now cap a' b' hab' hb' hN).mono ?_
        rintro e w1 ⟨rfl, h1⟩
        have H1 := Lib.hid (HK.out.trans h1)
        clear h1
        go_wp2
        go_returns
        have hh := insertionSort_holds (lt := ltInt) swo_ltInt dk a' b' hab' (by rw [HDS.out]; exact hb')
        exact ⟨rfl, _, H1.out, HF.out _ hh.1 hh.2⟩
      · have h12z : ¬ (b' : Int) - (a' : Int) ≤ 12 := by omega
        by_cases hl0 : l' = 0
        · have hl0z : (l' : Int) = 0 := by omega
          go_wp2_with fail
          go_at_call 55
          refine (heap_any HK.out.now cap a' b' (by omega) hb' hN).mono ?_
          rintro e w1 ⟨rfl, h1⟩
          have H1 := Lib.hid (HK.out.trans h1)
          clear h1
          go_wp2
          go_returns
          have hh := heapSort_holds (lt := ltInt) swo_ltInt dk a' b' hab' (by rw [HDS.out]; exact hb')
          exact ⟨rfl, _, H1.out, HF.out _ hh.1 hh.2⟩
        · have hl0z : ¬ (l' : Int) = 0 := by omega
          go_upto_if 35 with fail
          go_cut [3] (fun s3 wc => ∃ (l2 : Nat) (d1 : Array Int), s3 = .int .i64 l2 ∧ l2 ≤ l' ∧ SR w g c N wc d1 ∧ PermIn a' b' dk d1)
          case first =>
            cases wb
            · go_wp2_with fail
              go_at_call 56
              refine (break_any HK.out.now cap a' b' (by omega) hb' hN).mono ?_
              rintro e w1 ⟨rfl, d1, h1, p1⟩
              have H1 := Lib.hid (HK.out.trans h1)
              have P1 := Lib.hid p1
              clear h1 p1
              go_wp2_with fail
              go_meet
              case rel => exact ⟨l' - 1, d1, by congr 1; omega, by omega, H1.out, P1.out⟩
            · go_wp2_with fail
              go_meet
              case rel => exact ⟨l', dk, rfl, Nat.le_refl _, HK.out, permIn_refl _ _ _⟩
          case rest =>
            obtain ⟨l2, d1, rfl, hl2, h1, p1⟩ := hcut
            have H1 := Lib.hid h1
            have P1 := Lib.hid p1
            clear h1 p1
            go_upto_if 50 with (go_at_call 57; refine (choose_any H1.out.now cap a' b' (by omega) hb' hN).mono ?_; rintro e w2 ⟨⟨p, k, hp1, hp2, rfl⟩, hg2⟩)
            have H2 := Lib.hid (H1.out.grown hg2)
            clear hg2 H1
            go_cut [11, 12] (fun s11 s12 wc => ∃ (p2 : Nat) (k2 : Int) (d2 : Array Int), s11 = .int .i64 p2 ∧ s12 = .int .i64 k2 ∧ a' ≤ p2 ∧ p2 < b' ∧ SR w g c N wc d2 ∧ PermIn a' b' dk d2)
            case first =>
              by_cases hk2 : k = 2
              · subst hk2
                go_wp2_with fail
                go_at_call 58
                refine (rev_any H2.out.now cap a' b' (by omega) hb' hN).mono ?_
                rintro e w3 ⟨rfl, d2, h3, p3⟩
                have H3 := Lib.hid (H2.out.trans h3)
                have P3 := Lib.hid (permIn_trans _ _ _ a' b' P1.out p3)
                clear h3 p3
                go_wp2_with fail
                go_meet
                case rel => exact ⟨b' - 1 - (p - a'), 1, d2, by congr 1; omega, rfl, by omega, by omega, H3.out, P3.out⟩
              · have hkb : (k == 2) = false := by simpa using hk2
                go_wp2_with fail
                go_meet
                case rel => exact ⟨p, k, d1, rfl, rfl, hp1, hp2, H2.out, P1.out⟩
            case rest =>
              clear H2 P1 hp1 hp2
              obtain ⟨p2, k2, d2, rfl, rfl, hp1, hp2, h2, p1⟩ := hcut
              have H2 := Lib.hid h2
              have P2 := Lib.hid p1
              clear h2 p1
              go_upto_region 15 with fail
              go_cut [68] (fun s68 wx => (∃ t : Bool, s68 = .bool t) ∧ wx = wc)
              case first =>
                cases wb <;> cases wp <;> cases hk1 : (k2 == (1 : Int)) <;>
                  (go_wp2_with fail
                   go_meet
                   exact ⟨⟨_, rfl⟩, rfl⟩)
              case rest =>
                obtain ⟨⟨t, rfl⟩, rfl⟩ := hcut
                go_upto_if 68 with fail
                go_cut [] (fun wx => ∃ d3, SR w g c N wx d3 ∧ PermIn a' b' dk d3)
                case first =>
                  cases t
                  · go_wp2_with fail
                    go_meet
                    exact ⟨d2, H2.out, P2.out⟩
                  · go_wp2_with fail
                    go_at_call 59
                    refine (pins_any H2.out.now cap a' b' (by omega) hb' hN).mono ?_
                    rintro e w3 ⟨rfl, h3⟩
                    have hh := partialInsertionSort_holds (lt := ltInt) swo_ltInt d2 a' b' (by omega) (by rw [H2.out.len]; exact hb') (HBk.out.perm (by rw [HDS.out]; exact hb') P2.out)
                    have H3 := Lib.hid (H2.out.trans h3)
                    have P3 := Lib.hid (permIn_trans _ _ _ a' b' P2.out hh.1)
                    have S3 := Lib.hid hh.2
                    clear h3 hh
                    cases ht : (partialInsertionSort ltInt d2 a' b').2
                    · go_wp2_with fail
                      go_meet
                      exact ⟨_, H3.out, P3.out⟩
                    · go_wp2_with fail
                      go_returns
                      exact ⟨rfl, _, H3.out, HF.out _ P3.out (S3.out ht)⟩
                case rest =>
                  clear H2 P2
                  obtain ⟨d3, h3, p3⟩ := hcut
                  obtain ⟨G, hG, hcw, hfw⟩ := h3.names
                  have HG := Lib.hid hG
                  have H3 := Lib.hid h3
                  have P3 := Lib.hid p3
                  have hds3 : d3.size = N := h3.len
                  have HD3 := Lib.hid hds3
                  clear h3 p3 hG hds3
                  have hB3 := HBk.out.perm (d' := d3) (by rw [HDS.out]; exact hb') P3.out
                  have HB3 := Lib.hid hB3
                  clear hB3
                  go_upto_region 17 with fail
                  go_cut [87] (fun s87 wx => ∃ t : Bool, s87 = .bool t ∧ (t = true → 0 < a' ∧ ltInt d3[a' - 1]! d3[p2]! = false) ∧ SR w g c N wx d3)
                  case first =>
                    by_cases ha0 : 0 < a'
                    · have j0 : a' - 1 < N := by omega
                      have j1 : p2 < N := by omega
                      go_quiet (first | (go_at_call 60; refine Calls.quiet_of_same (less_any _ _ _)))
                      go_wp2_with fail
                      go_meet
                      exact ⟨_, rfl, fun ht => ⟨ha0, by rw [← HG.out, ← HG.out]; simpa using ht⟩, H3.out.drewN nq⟩
                    · have ha0z : decide ((0 : Int) < (a' : Int)) = false := decide_eq_false (by omega)
                      go_quiet (first | (go_at_call 60; refine Calls.quiet_of_same (less_any _ _ _)))
                      go_wp2_with fail
                      go_meet
                      exact ⟨false, rfl, fun ht => by simp at ht, H3.out.drewN nq⟩
                  case rest =>
                    clear H3 hcw hfw
                    obtain ⟨t, rfl, ht, h3⟩ := hcut
                    have H3 := Lib.hid h3
                    have HT := Lib.hid ht
                    clear h3 ht
                    cases t
                    · go_wp2_with fail
                      go_at_call 62
                      refine (part_any H3.out.now cap a' b' p2 hp1 hp2 hb' hN).mono ?_
                      rintro e w4 ⟨m, al, d4, rfl, h4, p4, hm1, hm2, hlo, hhi⟩
                      have H4 := Lib.hid (H3.out.trans h4)
                      have hs4 : d4.size = N := h4.len
                      have hpt : Parted a' m b' d4[m]! d4 := ⟨hm1, hm2, by omega, fun k k1 k2 => lt_t.1 (hlo k k1 k2), rfl, fun k k1 k2 => lt_f.1 (hhi k k1 k2)⟩
                      have P4 := Lib.hid (permIn_trans _ _ _ a' b' P3.out p4)
                      have hB4 := HB3.out.perm (d' := d4) (by rw [HD3.out]; exact hb') p4
                      have HPT := Lib.hid hpt
                      have HB4 := Lib.hid hB4
                      clear h4 hs4 hpt p4 hlo hhi hB4
                      by_cases hlr : m - a' < b' - m
                      · have hlrz : (m : Int) - (a' : Int) < (b' : Int) - (m : Int) := by omega
                        go_wp2_with fail
                        go_at_call 52
                        refine (IH.out _ _ _ _ _ H4.out.now cap a' m l2 (by omega) hm1 (by omega) hN (by omega) (HB4.out.mono (by omega))).mono ?_
                        rintro e w5 ⟨rfl, d5, h5, p5, s5⟩
                        have H5 := Lib.hid (H4.out.trans h5)
                        have hz := HPT.out.thenRight P4.out p5 s5
                        have HZ := Lib.hid hz
                        clear h5 p5 s5 hz
                        go_wp2
                        go_roundg (b' - (m + 1))
                        case measure => omega
                        case rel => exact ⟨m + 1, b', l2, _, al, d5, by go_num, rfl, rfl, rfl, rfl, by omega, hb', Nat.le_refl _, by omega, by omega, H5.out, HZ.out.1, HF.out.comp HZ.out.2⟩
                      · have hlrz : ¬ (m : Int) - (a' : Int) < (b' : Int) - (m : Int) := by omega
                        have ct := IH.out _ _ _ _ _ H4.out.now cap (m + 1) b' l2 (by omega) (by omega) hb' hN (by omega) (.inr fun i i1 i2 => by rw [Nat.add_sub_cancel]; exact lt_f.2 (HPT.out.right i (by omega) i2))
                        rw [show ((m + 1 : Nat) : Int) = (m : Int) + 1 by omega] at ct
                        have CT := Lib.hid ct
                        clear ct
                        go_wp2_with fail
                        go_at_call 52
                        refine CT.out.mono ?_
                        rintro e w5 ⟨rfl, d5, h5, p5, s5⟩
                        have H5 := Lib.hid (H4.out.trans h5)
                        have hz := HPT.out.thenLeft P4.out HB4.out p5 s5
                        have HZ := Lib.hid hz
                        clear h5 p5 s5 hz
                        go_wp2
                        go_roundg (m - a')
                        case measure => omega
                        case rel => exact ⟨a', m, l2, _, al, d5, rfl, rfl, rfl, rfl, rfl, hm1, by omega, Nat.le_refl _, by omega, by omega, H5.out, HZ.out.1, HF.out.comp HZ.out.2⟩
                    · obtain ⟨ha0, hnl⟩ := HT.out rfl
                      have HNL := Lib.hid hnl
                      clear hnl
                      go_wp2_with fail
                      go_at_call 61
                      refine (partE_any H3.out.now cap a' b' p2 hp1 hp2 hb' hN).mono ?_
                      rintro e w4 ⟨m, d4, rfl, h4, p4, hm1, hm2, hlo, hhi⟩
                      have H4 := Lib.hid (H3.out.trans h4)
                      have hge : ∀ k, a' ≤ k → k < b' → d3[p2]! ≤ d3[k]! := fun k k1 k2 => by
                        rcases HB3.out with e | e
                        · omega
                        · exact Int.le_trans (lt_f.1 HNL.out) (lt_f.1 (e k k1 k2))
                      have hz := equals (x := d3[p2]!) (d0 := dk) hm1 hm2 (by have := h4.len; omega) (permIn_trans _ _ _ a' b' P3.out p4) (permIn_all d3 d4 a' b' (d3[p2]! ≤ ·) (by rw [HD3.out]; exact hb') p4 hge)
                        (fun k k1 k2 => lt_f.1 (hlo k k1 k2)) (fun k k1 k2 => lt_t.1 (hhi k k1 k2))
                      have HZ := Lib.hid hz
                      clear h4 p4 hlo hhi hge hz
                      go_wp2
                      go_roundg (b' - m)
                      case measure => omega
                      case rel => exact ⟨m, b', l2, wb, wp, d4, rfl, rfl, rfl, rfl, rfl, hm2, hb', Nat.le_refl _, by omega, by omega, H4.out, HZ.out.1, HF.out.comp HZ.out.2⟩
end Go.Proofs.Ytnleeffajljodaa
end

section
/- slices.Sort over []uint64: the numbers, rising. -/
namespace Go.Proofs.Ytnleeffajljodaa
open Go.RowKit Go.Sort
set_option linter.unusedVariables false

/-- numbers as cells -/
def cU (zs : List Int) : List Value := zs.map (Value.int .u64)
theorem cU_length (zs : List Int) : (cU zs).length = zs.length := by simp [cU]
/-- the numbers, rising -/
def rise (zs : List Int) : List Int := zs.mergeSort fun x y => decide (x ≤ y)
theorem rise_perm (zs : List Int) : (rise zs).Perm zs := List.mergeSort_perm ..
theorem rise_length (zs : List Int) : (rise zs).length = zs.length := (rise_perm zs).length_eq
theorem len_bits : ∀ (n : Nat), Lib.bitLen n ≤ 64 := by
  intro n
  have : ∀ f x, Lib.bitLenAux f x ≤ f := by
    intro f
    induction f with
    | zero => intro x; simp [Lib.bitLenAux]
    | succ f ih =>
      intro x
      simp only [Lib.bitLenAux]
      split
      · omega
      · have := ih (x / 2); omega
  exact this 64 n

set_option maxHeartbeats 1000000 in
set_option maxRecDepth 100000 in
theorem insNil_any (w : World) : Calls Try.prog 54 #[.slice none 0 0, .int .i64 0, .int .i64 0] w fun e w' => e = .returned (.tuple #[]) ∧ w' = w := by
  go_enter Try.func54, Try.ntmps54
  go_wp2
  go_loopw [6] (fun vi wr => vi = .int .i64 1 ∧ wr = w) (fun vi _ => 0)
  case atStart => exact ⟨rfl, rfl⟩
  case round =>
    obtain ⟨rfl, rfl⟩ := hrel
    go_wp2
    go_end0
    exact ⟨rfl, rfl⟩
set_option maxHeartbeats 1000000 in
set_option maxRecDepth 100000 in
theorem pdqNil_any (w : World) (l : Int) : Calls Try.prog 52 #[.slice none 0 0, .int .i64 0, .int .i64 0, .int .i64 l] w fun e w' => e = .returned (.tuple #[]) ∧ w' = w := by
  go_enter Try.func52, Try.ntmps52
  go_wp2
  go_loopw [1, 2, 3, 8, 9] (fun v1 v2 v3 v8 v9 wr => v1 = .int .i64 0 ∧ v2 = .int .i64 0 ∧ wr = w) (fun _ _ _ _ _ _ => 0)
  case atStart => exact ⟨rfl, rfl, rfl⟩
  case round =>
    obtain ⟨rfl, rfl, rfl⟩ := hrel
    go_wp2_with fail
    go_at_call 54
    refine (insNil_any _).mono ?_
    rintro e w1 ⟨rfl, rfl⟩
    go_wp2
    go_returns
    exact ⟨rfl, rfl⟩

set_option maxHeartbeats 2000000 in
set_option maxRecDepth 100000 in
theorem sortNil_any (w : World) : Calls Try.prog 49 #[.slice none 0 0] w fun e w' => e = .returned (.tuple #[]) ∧ w' = w := by
  go_enter Try.func49, Try.ntmps49
  go_wp2_with (first
    | (go_at_call 53; refine (Try.bits_Len _ _ (by omega) (by omega)).mono ?_; rintro e w' ⟨rfl, rfl⟩)
    | (go_at_call 52; refine (pdqNil_any _ _).mono ?_; rintro e w' ⟨rfl, rfl⟩))
  go_returns
  exact ⟨rfl, rfl⟩

set_option maxHeartbeats 2000000 in
set_option maxRecDepth 100000 in
theorem sortRow_any {g c n : Nat} {zs : List Int} {w : World} (hn : zs.length = n) (h : SR w g c n w zs.toArray) (cap : Nat) (hN : n < 4611686018427387904) :
    Calls Try.prog 49 #[.slice (some ⟨g, 0, none⟩) n cap] w fun e w' => e = .returned (.tuple #[]) ∧ SR w g c n w' (rise zs).toArray := by
  have hsz : zs.toArray.size = n := by simpa using hn
  have HS := Lib.hid h
  clear h
  have hbits := len_bits n
  obtain ⟨bl, hbl⟩ : ∃ bl, Lib.bitLen n = bl := ⟨_, rfl⟩
  rw [hbl] at hbits
  have HN := Lib.hid hn
  have HSZ := Lib.hid hsz
  clear hn hsz
  have hwn : IntKind.u64.wrap (n : Int) = (n : Int) := by rw [IntKind.wrap_u64]; omega
  go_enter Try.func49, Try.ntmps49
  go_wp2_with (go_at_call 53; refine (Try.bits_Len _ _ (by omega) (by omega)).mono ?_; rintro e w' ⟨rfl, rfl⟩; simp only [Int.toNat_natCast]; rw [hbl])
  go_at_call 52
  refine (pdq_all (n + 1) _ _ _ _ _ HS.out cap 0 n bl (by omega) (Nat.zero_le _) (Nat.le_refl _) hN (by omega) (.inl rfl)).mono ?_
  rintro e w5 ⟨rfl, d5, h5, p5, s5⟩
  have he : d5.toList = rise zs := by
    have := sorted_unique_holds (lt := ltInt) swo_ltInt (fun x y h1 h2 => by have := lt_f.1 h1; have := lt_f.1 h2; omega) zs.toArray d5 (by rw [HSZ.out]; exact p5) (by rw [HSZ.out]; exact s5)
    rw [this]
    unfold rise
    congr 1
    funext x y
    unfold ltInt
    by_cases e : x ≤ y
    · simp [e]
    · simp [e]; omega
  have H5 := Lib.hid h5
  have HE := Lib.hid he
  clear h5 p5 s5 he
  go_wp2
  go_returns
  exact ⟨rfl, by rw [← HE.out]; exact H5.out⟩

theorem sort_any {B : Nat} {v : Value} {zs : List Int} {n : Nat} (hn : zs.length = n) {w : World} (h : w.ownsRow B 25 1 v n (cU zs)) (hN : n < 4611686018427387904) :
    Calls Try.prog 49 #[v] w fun e w' => e = .returned (.tuple #[]) ∧ w'.ownsRow B 25 1 v n (cU (rise zs)) ∧ w.grownBy w' v.ownBlock := by
  subst hn
  rcases h.2 with ⟨rfl, h0⟩ | ⟨g, cap, cur, rfl, hB, hg, h1, h2, h3, h4⟩
  · obtain rfl : zs = [] := List.eq_nil_of_length_eq_zero h0
    refine (sortNil_any w).mono ?_
    rintro e w' ⟨rfl, rfl⟩
    exact ⟨rfl, by simpa [rise] using h, World.grownBy.refl _ _⟩
  · have hsr : SR w g cap zs.length w zs.toArray := by
      refine ⟨Only.refl w g, by simp, cur, hg, by omega, h1, fun j hj => ?_⟩
      have e : (cur.toList.take (zs.length * 1))[j]? = (cU zs)[j]? := by rw [h4]
      rw [List.getElem?_take_of_lt (by omega), Array.getElem?_toList] at e
      rw [e]
      simp [cU, hj]
    refine (sortRow_any rfl hsr cap hN).mono ?_
    rintro e w' ⟨rfl, h5⟩
    obtain ⟨cur', g1, g2, g3, g4⟩ := h5.row
    have hl : (cU (rise zs)).length = zs.length := by rw [cU_length, rise_length]
    refine ⟨rfl, ⟨by rw [hl, Nat.mul_one], .inr ⟨g, cap, cur', rfl, hB, g1, h1, h2, by omega, ?_⟩⟩, by simpa [Value.ownBlock] using h5.gr⟩
    refine List.ext_getElem? fun j => ?_
    rcases Nat.lt_or_ge j zs.length with hj | hj
    · rw [List.getElem?_take_of_lt (by omega), Array.getElem?_toList, g4 j hj]
      have : j < (rise zs).length := by rw [rise_length]; exact hj
      simp [cU, this]
    · rw [List.getElem?_eq_none (by simp; omega), List.getElem?_eq_none (by omega)]
end Go.Proofs.Ytnleeffajljodaa
end

section
/- The walk over the kit's SameNumbers. -/
namespace Go.Proofs.Ytnleeffajljodaa
open Go.RowKit
set_option linter.unusedVariables false

theorem cU_get {zs : List Int} {k : Nat} (h : k < zs.length) : (cU zs)[k]? = some (.int .u64 zs[k]) := by
  unfold cU
  rw [List.getElem?_map, List.getElem?_eq_getElem h]
  rfl
/-- two lists of bytes, told apart -/
def sameU (a b : List Int) : Bool := decide (a = b)

set_option maxHeartbeats 800000 in
theorem sameNums_any (A A' : Option Addr) (xs ys : List Int) (c c' lim : Nat) (w : World) (hl : xs.length ≤ 9223372036854775807) (hl' : ys.length ≤ 9223372036854775807) (hr : Rds w lim A (cU xs)) (hr' : Rds w lim A' (cU ys)) :
    Calls Try.prog 12 #[.slice A xs.length c, .slice A' ys.length c'] w fun e w' => e = .returned (.bool (sameU xs ys)) ∧ ∃ n, w' = w.drewN n := by
  by_cases hlen : xs.length = ys.length
  · have hlb : ((xs.length : Int) != (ys.length : Int)) = false := by simp [hlen]
    have HL := Lib.hid hlen
    clear hlen
    go_enter Try.func12, Try.ntmps12
    go_wp2
    go_loopw [5] (fun i wr => ∃ k : Nat, k ≤ xs.length ∧ i = .int .i64 k ∧ (∀ j, j < k → xs[j]? = ys[j]?) ∧ ∃ n, wr = w.drewN n) (fun i _ => xs.length - (intOf i).toNat)
    case atStart => exact ⟨0, Nat.zero_le _, rfl, fun j hj => absurd hj (by omega), 0, rfl⟩
    case round =>
      obtain ⟨k, hk, rfl, hsame, n, rfl⟩ := hrel
      have HS := Lib.hid hsame
      clear hsame
      by_cases hlt : k < xs.length
      · have hlt' : k < ys.length := by have := HL.out; omega
        obtain ⟨ad, rfl, _, hcell⟩ := hr.at_ (cU_get hlt)
        obtain ⟨ad', rfl, _, hcell'⟩ := hr'.at_ (cU_get hlt')
        generalize hx : xs[k] = x at *
        generalize hy : ys[k] = y at *
        have HX := Lib.hid hx
        have HY := Lib.hid hy
        clear hx hy
        go_wp2
        go_quiet (fail)
        go_wp2
        · have hne : (x != y) = true := by assumption
          have hf : sameU xs ys = false := by
            refine decide_eq_false fun e => ?_
            have h1 : xs[k]? = ys[k]? := by rw [e]
            rw [List.getElem?_eq_getElem hlt, List.getElem?_eq_getElem hlt', HX.out, HY.out] at h1
            simp at hne
            exact hne (Option.some.inj h1)
          go_ret
          exact ⟨by rw [hf]; rfl, _, World.drewN_drewN ..⟩
        · have heq : (x != y) = false := by assumption
          go_roundw
          case rel =>
            refine ⟨k + 1, by omega, by go_num, fun j hj => ?_, _, rfl⟩
            rcases Nat.lt_or_ge j k with h | h
            · exact HS.out j h
            · obtain rfl : j = k := by omega
              simp at heq
              rw [List.getElem?_eq_getElem hlt, List.getElem?_eq_getElem hlt', HX.out, HY.out, heq]
          case measure => simp [intOf]; omega
      · have ht : sameU xs ys = true := by
          refine decide_eq_true (List.ext_getElem? fun j => ?_)
          rcases Nat.lt_or_ge j k with h | h
          · exact HS.out j h
          · have := HL.out
            rw [List.getElem?_eq_none (by omega), List.getElem?_eq_none (by omega)]
        have HT := Lib.hid ht
        clear ht
        go_wp2
        go_ret
        exact ⟨by rw [HT.out]; rfl, n, rfl⟩
  · have hlb : ((xs.length : Int) != (ys.length : Int)) = true := by simp; omega
    have hf : sameU xs ys = false := decide_eq_false fun e => hlen (by rw [e])
    have HF := Lib.hid hf
    clear hf
    go_enter Try.func12, Try.ntmps12
    go_wp2
    go_ret
    exact ⟨by rw [HF.out]; rfl, 0, rfl⟩
end Go.Proofs.Ytnleeffajljodaa
end

section
/- A map by rising number as a list. -/
namespace Go.Proofs.Ytnleeffajljodaa
open Go.RowKit Go.Maps
set_option linter.unusedVariables false

/-- a map's reading: each value stands for itself -/
def selfR (v : Value) : Option (DataW Value × List MemPlace) := some (.held v, [])
def en (p : Int × Value) : Lit × DataW Value := (.int .u64 p.1, .held p.2)
/-- the entries as a map -/
def asMap (l : List (Int × Value)) : DataW Value := .map (l.map en)
/-- numbers of 64 bits, rising -/
structure Ris (l : List (Int × Value)) : Prop where
  rise : l.Pairwise (fun p q => p.1 < q.1)
  wf : ∀ p ∈ l, 0 ≤ p.1 ∧ p.1 ≤ 18446744073709551615

theorem same_int (a b : Int) : (Lit.int .u64 a).sameKey (.int .u64 b) = decide (a = b) := by
  by_cases h : a = b
  · subst h
    rw [decide_eq_true rfl]
    exact WideAt.sameKey_self trivial
  · rw [decide_eq_false h]
    exact Maps.sameKey_ne (fun e => h (by cases e; rfl))
theorem key_u64 {a : Int} (h : 0 ≤ a ∧ a ≤ 18446744073709551615) : keyOf Try.prog 25 (.int .u64 a) = some (.int .u64 a) := by
  refine keyOf_int_mk Try.underlying25 ?_
  simp [Lit.wf, IntKind.min, IntKind.max, IntKind.signed, IntKind.bits]
  omega
theorem keyed64 : Keyed Try.prog 25 := int_keyed Try.underlying25

theorem has_map (l : List (Int × Value)) (k : Int) : Maps.has (asMap l) (.int .u64 k) = l.any (fun p => decide (p.1 = k)) := by
  unfold asMap
  rw [Maps.has_eq, List.any_map]
  congr 1
  funext p
  exact same_int p.1 k
theorem size_map (l : List (Int × Value)) : Maps.size (asMap l) = l.length := by
  unfold asMap
  rw [Maps.size_eq, List.length_map]
theorem at_map (l : List (Int × Value)) (k : Int) (z : DataW Value) : (asMap l).atKey (.int .u64 k) z = match l.find? (fun p => decide (p.1 = k)) with | some p => .held p.2 | none => z := by
  have : ((fun p : Lit × DataW Value => p.1.sameKey (.int .u64 k)) ∘ en) = (fun p : Int × Value => decide (p.1 = k)) := by
    funext p
    exact same_int p.1 k
  unfold asMap
  simp only [DataW.atKey, List.find?_map, this]
  cases l.find? (fun p => decide (p.1 = k)) <;> rfl
theorem del_map (l : List (Int × Value)) (k : Int) : (asMap l).del (.int .u64 k) = asMap (l.filter (fun p => !decide (p.1 = k))) := by
  unfold asMap
  rw [DataW.del_eq]
  congr 1
  unfold ChangeMaps.delKey
  rw [List.filter_map]
  congr 1
  refine List.filter_congr fun p _ => ?_
  show (!(Lit.int .u64 p.1).sameKey (.int .u64 k)) = _
  rw [same_int]
theorem insert_last (x : Lit × DataW Value) : ∀ l : List (Lit × DataW Value), (∀ p ∈ l, x.1.before p.1 = false) → DataW.insert x l = l ++ [x]
  | [], _ => rfl
  | y :: r, h => by
    unfold DataW.insert
    rw [h y (by simp)]
    simp only [Bool.false_eq_true, if_false, List.cons_append]
    rw [insert_last x r (fun p hp => h p (by simp [hp]))]
theorem put_map (l : List (Int × Value)) (k : Int) (v : Value) (h : ∀ p ∈ l, p.1 < k) : (asMap l).put (.int .u64 k) (.held v) = asMap (l ++ [(k, v)]) := by
  unfold asMap
  rw [DataW.put_eq]
  congr 1
  unfold ChangeMaps.putKey
  have hf : (l.map en).filter (ChangeMaps.notKey (.int .u64 k)) = l.map en := by
    refine List.filter_eq_self.2 fun p hp => ?_
    obtain ⟨q, hq, rfl⟩ := List.mem_map.1 hp
    show (!(Lit.int .u64 q.1).sameKey (.int .u64 k)) = true
    rw [same_int, decide_eq_false (by have := h q hq; omega)]
    rfl
  rw [hf, insert_last, List.map_append]
  · rfl
  · intro p hp
    obtain ⟨q, hq, rfl⟩ := List.mem_map.1 hp
    have := h q hq
    simp only [en, Lit.before, decide_eq_false_iff_not]
    omega
theorem Ris.last {l : List (Int × Value)} (h : Ris l) {k : Int} (v : Value) (hk : ∀ p ∈ l, p.1 < k) (hw : 0 ≤ k ∧ k ≤ 18446744073709551615) : Ris (l ++ [(k, v)]) := by
  refine ⟨List.pairwise_append.2 ⟨h.rise, List.pairwise_singleton _ _, fun p hp q hq => ?_⟩, fun p hp => ?_⟩
  · obtain rfl := List.mem_singleton.1 hq
    exact hk p hp
  · rcases List.mem_append.1 hp with hp | hp
    · exact h.wf p hp
    · obtain rfl := List.mem_singleton.1 hp
      exact hw
theorem Ris.filter {l : List (Int × Value)} (h : Ris l) (f : Int × Value → Bool) : Ris (l.filter f) := ⟨h.rise.filter f, fun p hp => h.wf p (List.mem_filter.1 hp).1⟩
theorem Ris.nodup {l : List (Int × Value)} (h : Ris l) : (l.map (·.1)).Nodup := by
  refine List.pairwise_map.2 (h.rise.imp ?_)
  intro p q hpq e
  omega
theorem Ris.nil : Ris [] := ⟨List.Pairwise.nil, fun p hp => by cases hp⟩
end Go.Proofs.Ytnleeffajljodaa
end

section
/- What a call leaves as it was: all but the blocks S, and but for what is new. No program is named here. -/
namespace Go.Proofs.Ytnleeffajljodaa
open Go.RowKit
set_option linter.unusedVariables false

theorem bDrewN {B : Nat} {a w : World} (h : Below B a w) (n : Nat) : Below B a (w.drewN n) := ⟨h.os, h.tape, h.output, h.size, h.block⟩
structure Outs (S : Nat → Prop) (w w' : World) : Prop where
  os : w'.os = w.os
  tape : w'.tape = w.tape
  output : w'.output = w.output
  size : w.heap.size ≤ w'.heap.size
  block : ∀ k, k < w.heap.size → ¬ S k → w'.heap[k]? = w.heap[k]?

section
variable {S S' : Nat → Prop} {w w' a b c : World}
theorem Outs.refl (S : Nat → Prop) (w : World) : Outs S w w := ⟨rfl, rfl, rfl, Nat.le_refl _, fun _ _ _ => rfl⟩
theorem Outs.trans (h : Outs S a b) (k : Outs S' b c) (hs : ∀ i, S' i → S i ∨ a.heap.size ≤ i) : Outs S a c :=
  ⟨k.os.trans h.os, k.tape.trans h.tape, k.output.trans h.output, Nat.le_trans h.size k.size, fun i hi hn => (k.block i (Nat.lt_of_lt_of_le hi h.size) (fun e => by rcases hs i e with e | e; exact hn e; omega)).trans (h.block i hi hn)⟩
theorem Outs.same (h : Outs S a b) (k : Outs S b c) : Outs S a c := h.trans k fun _ hi => .inl hi
theorem Outs.drewN (h : Outs S a b) (n : Nat) : Outs S a (b.drewN n) := ⟨h.os, h.tape, h.output, h.size, h.block⟩
theorem Outs.drew (h : Outs S a b) : Outs S a b.drew := ⟨h.os, h.tape, h.output, h.size, h.block⟩
theorem Outs.alloc (h : Outs S a b) (o : Obj) : Outs S a (b.alloc o) :=
  ⟨h.os, h.tape, h.output, by have := h.size; simp; omega, fun k hk hn => (Below.heap_alloc b o k (Nat.lt_of_lt_of_le hk h.size)).trans (h.block k hk hn)⟩
theorem Outs.setCell (h : Outs S a b) {p : Addr} (hp : S p.block ∨ a.heap.size ≤ p.block) (u : Value) : Outs S a (b.setCell p u) :=
  ⟨h.os, h.tape, h.output, by have := h.size; simp [World.setCell]; exact this, fun k hk hn => (Below.heap_setCell b p u k (fun e => by rcases hp with hp | hp; exact hn (e ▸ hp); omega)).trans (h.block k hk hn)⟩
theorem Outs.grown (h : Outs S a b) {row : Option Nat} (hg : b.grownBy c row) (hr : ∀ k, row = some k → S k ∨ a.heap.size ≤ k) : Outs S a c :=
  ⟨hg.os.trans h.os, hg.tape.trans h.tape, hg.output.trans h.output, Nat.le_trans h.size hg.size, fun k hk hn => (hg.block k (Nat.lt_of_lt_of_le hk h.size) (fun e => by rcases hr k e.symm with e | e; exact hn e; omega)).trans (h.block k hk hn)⟩
theorem Outs.then (h : Outs S a b) {B : Nat} (hb : Below B b c) (hB : a.heap.size ≤ B) : Outs S a c :=
  ⟨hb.os.trans h.os, hb.tape.trans h.tape, hb.output.trans h.output, Nat.le_trans h.size hb.size, fun k hk hn => (hb.block k (by omega)).trans (h.block k hk hn)⟩
theorem Outs.of (hb : Below w.heap.size w w') : Outs S w w' := (Outs.refl S w).then hb (Nat.le_refl _)
theorem Outs.below (h : Outs S w w') {B : Nat} (hS : ∀ k, S k → B ≤ k) (hB : B ≤ w.heap.size) : Below B w w' :=
  ⟨h.os, h.tape, h.output, h.size, fun k hk => h.block k (by omega) (fun e => by have := hS k e; omega)⟩
theorem Outs.mono (h : Outs S w w') (hs : ∀ k, S k → S' k) : Outs S' w w' := ⟨h.os, h.tape, h.output, h.size, fun k hk hn => h.block k hk (fun e => hn (hs k e))⟩
theorem Outs.cell (h : Outs S w w') {p : Addr} (hp : p.block < w.heap.size) (hn : ¬ S p.block) : w'.cell? p = w.cell? p := World.cell?_of_block (h.block _ hp hn)
theorem Whole.outs {g : Nat} {t : TypeId} {cs : Array Value} (hw : Whole w g t cs) (h : Outs S w w') (hn : ¬ S g) : Whole w' g t cs := (h.block g hw.lt hn).trans hw
theorem turned_outs {H : Type} {b : Nat} (h : w.mapTurned w' b) (hS : S b) : Outs S w w' := by
  have := h.grown
  exact (Outs.refl S w).grown this (fun k hk => by cases hk; exact .inl hS)
end

/-- what a call makes of the places -/
structure Turn (S S' : Nat → Prop) (w w' : World) : Prop where
  outs : Outs S w w'
  new : ∀ k, S' k → S k ∨ w.heap.size ≤ k

section
variable {S S' S2 : Nat → Prop} {w w' : World}
theorem Turn.refl (S : Nat → Prop) (w : World) : Turn S S w w := ⟨Outs.refl S w, fun _ h => .inl h⟩
theorem Turn.trans {a b c : World} (h : Turn S S' a b) (k : Turn S' S2 b c) : Turn S S2 a c :=
  ⟨h.outs.trans k.outs h.new, fun i hi => by
    rcases k.new i hi with e | e
    · exact h.new i e
    · exact .inr (Nat.le_trans h.outs.size e)⟩
theorem Turn.below {w w' : World} (h : Below w.heap.size w w') : Turn S S w w' := ⟨Outs.of h, fun k hk => .inl hk⟩
end

/-- two blocks of other types, or of other cells, are two -/
theorem Whole.ne {w : World} {g k : Nat} {t u : TypeId} {cs ds : Array Value} (h : Whole w g t cs) (h' : Whole w k u ds) (hne : t ≠ u) : g ≠ k := by
  rintro rfl
  unfold Whole at h h'
  rw [h] at h'
  injection h' with h'
  injection h' with _ h'
  exact hne h'
theorem Whole.ne_map {H : Type} {P : Program} {w : World} {g : Nat} {t : TypeId} {cs : Array Value} (h : Whole w g t cs) {k : TypeId} {R : Value → Option (DataW H × List MemPlace)} {b n : Nat} {D : DataW H} (h' : w.ownsMap P k R b n D) : g ≠ b := by
  rintro rfl
  obtain ⟨es, cl, h', _⟩ := h'
  unfold Whole at h
  rw [h] at h'
  cases h'
/-- a row's block holds cells of its type -/
theorem ownRow_block {w : World} {B : Nat} {e : TypeId} {size : Nat} {v : Value} {n : Nat} {xs : List Value} (h : w.ownsRow B e size v n xs) {g : Nat} (hg : v.ownBlock = some g) : B ≤ g ∧ g < w.heap.size ∧ ∃ cs, w.heap[g]? = some (.cells cs e (0, 0)) := by
  rcases h.2 with ⟨rfl, _⟩ | ⟨g', cap, cur, rfl, hb, hh, _⟩
  · cases hg
  · obtain rfl : g' = g := by simpa [Value.ownBlock] using hg
    exact ⟨hb, (Array.getElem?_eq_some_iff.1 hh).1, _, hh⟩
theorem ownRow_ne {w : World} {B : Nat} {e : TypeId} {size : Nat} {v : Value} {n : Nat} {xs : List Value} (h : w.ownsRow B e size v n xs) {g k : Nat} (hg : v.ownBlock = some g) {t : TypeId} {cs : Array Value} (h' : Whole w k t cs) (hne : e ≠ t) : g ≠ k := by
  obtain ⟨_, _, ds, hh⟩ := ownRow_block h hg
  exact Whole.ne (cs := ds) hh h' hne
theorem ownRow_ne_map {H : Type} {P : Program} {w : World} {B : Nat} {e : TypeId} {size : Nat} {v : Value} {n : Nat} {xs : List Value} (h : w.ownsRow B e size v n xs) {g : Nat} (hg : v.ownBlock = some g) {k : TypeId} {R : Value → Option (DataW H × List MemPlace)} {b m : Nat} {D : DataW H} (h' : w.ownsMap P k R b m D) : g ≠ b := by
  obtain ⟨_, _, ds, hh⟩ := ownRow_block h hg
  exact Whole.ne_map (cs := ds) hh h'
/-- a row stands where its block stands -/
theorem ownRow_block_kept {w w' : World} {B : Nat} {e : TypeId} {size : Nat} {v : Value} {n : Nat} {xs : List Value} (h : w.ownsRow B e size v n xs) (hk : ∀ g, v.ownBlock = some g → w'.heap[g]? = w.heap[g]?) : w'.ownsRow B e size v n xs := by
  rcases h.2 with ⟨rfl, hn⟩ | ⟨g, cap, cur, rfl, hb, hh, r⟩
  · exact ⟨h.1, .inl ⟨rfl, hn⟩⟩
  · exact ⟨h.1, .inr ⟨g, cap, cur, rfl, hb, (hk g (by simp [Value.ownBlock])).trans hh, r⟩⟩
theorem ownRow_base {w : World} {B B' : Nat} {e : TypeId} {size : Nat} {v : Value} {n : Nat} {xs : List Value} (h : w.ownsRow B e size v n xs) (hk : ∀ g, v.ownBlock = some g → B' ≤ g) : w.ownsRow B' e size v n xs := by
  rcases h.2 with ⟨rfl, hn⟩ | ⟨g, cap, cur, rfl, hb, hh, r⟩
  · exact ⟨h.1, .inl ⟨rfl, hn⟩⟩
  · exact ⟨h.1, .inr ⟨g, cap, cur, rfl, hk g (by simp [Value.ownBlock]), hh, r⟩⟩
theorem ownsMap_block_kept {H : Type} {P : Program} {w w' : World} {k : TypeId} {R : Value → Option (DataW H × List MemPlace)} {b n : Nat} {D : DataW H} (h : w.ownsMap P k R b n D) (hk : w'.heap[b]? = w.heap[b]?) : w'.ownsMap P k R b n D := by
  obtain ⟨es, cl, h1, r⟩ := h
  exact ⟨es, cl, hk.trans h1, r⟩
end Go.Proofs.Ytnleeffajljodaa
end

section
/- A net in memory. -/
namespace Go.Proofs.Ytnleeffajljodaa
open Go.RowKit Go.Maps
set_option linter.unusedVariables false

/-- a letter -/
structure Le where
  num : Int
  first : Int
  frm : Int
  to_ : Int
  body : List Int
deriving DecidableEq
/-- where a body lies -/
abbrev Pl := Option Addr × Nat
def val (x : Le) (k : Pl) : Value := .agg #[.int .u64 x.num, .int .u64 x.first, .int .i64 x.frm, .int .i64 x.to_, .slice k.1 x.body.length k.2]
def le0 : Le := ⟨0, 0, 0, 0, []⟩
def zeroL : Value := .agg #[.int .u64 0, .int .u64 0, .int .i64 0, .int .i64 0, .slice none 0 0]
theorem zeroL_val : zeroL = val le0 (none, 0) := rfl
def ents (es : List (Le × Pl)) : List (Int × Value) := es.map fun p => (p.1.num, val p.1 p.2)
/-- a body's bytes at a place of S -/
def Bd (w : World) (S : Nat → Prop) (bs : List Int) (k : Pl) : Prop := bs ≠ [] → ∃ ad, k.1 = some ad ∧ S ad.block ∧ ad.block < w.heap.size ∧ ∀ j u, (c8 bs)[j]? = some u → w.cell? (ad.add j) = some u
/-- what holds of letters in flight, so many numbers given -/
structure Okf (sent : Nat) (fl : List Le) : Prop where
  rise : fl.Pairwise (fun x y => x.num < y.num)
  num : ∀ x ∈ fl, 1 ≤ x.num ∧ x.num ≤ sent
  first : ∀ x ∈ fl, 1 ≤ x.first ∧ x.first ≤ x.num
  frm : ∀ x ∈ fl, 0 ≤ x.frm ∧ x.frm ≤ 63
  to_ : ∀ x ∈ fl, 0 ≤ x.to_ ∧ x.to_ ≤ 63
  len : ∀ x ∈ fl, x.body.length ≤ 16384
  most : fl.length ≤ 4000
  few : sent ≤ 4000

/-- the net at block b, its map at mb -/
structure Nt (w : World) (S : Nat → Prop) (b mb : Nat) (es : List (Le × Pl)) (sent : Nat) : Prop where
  blk : Whole w b 57 #[.pointer (some ⟨b, 0, none⟩), .int .u64 sent, .map (some mb)]
  map : w.ownsMap Try.prog 25 selfR mb sent (asMap (ents es))
  sb : S b
  sm : S mb
  bd : ∀ p ∈ es, Bd w (fun i => S i ∧ i ≠ b ∧ i ≠ mb) p.1.body p.2
  ok : Okf sent (es.map (·.1))
  lt : ∀ i, S i → i < w.heap.size

section
variable {w w' : World} {S S' T : Nat → Prop} {b mb : Nat} {es : List (Le × Pl)} {sent : Nat}
theorem Bd.rds {bs : List Int} {k : Pl} (h : Bd w S bs k) : Rds w w.heap.size k.1 (c8 bs) := fun hne => by
  obtain ⟨ad, h1, _, h3, h4⟩ := h (fun e => hne (by rw [e]; rfl))
  exact ⟨ad, h1, h3, h4⟩
theorem Bd.mono {bs : List Int} {k : Pl} (h : Bd w S bs k) (hs : ∀ i, S i → S' i) : Bd w S' bs k := fun hne => by
  obtain ⟨ad, h1, h2, r⟩ := h hne
  exact ⟨ad, h1, hs _ h2, r⟩
theorem Bd.within {bs : List Int} {k : Pl} (h : Bd w S bs k) : Bd w (fun i => S i ∧ i < w.heap.size) bs k := fun hne => by
  obtain ⟨ad, h1, h2, h3, h4⟩ := h hne
  exact ⟨ad, h1, ⟨h2, h3⟩, h3, h4⟩
theorem Bd.outs {bs : List Int} {k : Pl} (h : Bd w S bs k) (ho : Outs T w w') (hn : ∀ i, S i → ¬ T i) : Bd w' S bs k := fun hne => by
  obtain ⟨ad, h1, h2, h3, h4⟩ := h hne
  refine ⟨ad, h1, h2, Nat.lt_of_lt_of_le h3 ho.size, fun j u hj => ?_⟩
  rw [ho.cell (p := ad.add j) (by rw [blk_add]; exact h3) (by rw [blk_add]; exact hn _ h2)]
  exact h4 j u hj
/-- the net stands where nothing of it turns -/
theorem Nt.outs (h : Nt w S b mb es sent) (ho : Outs T w w') (hn : ∀ i, S i → ¬ T i) : Nt w' S b mb es sent :=
  ⟨h.blk.outs ho (hn _ h.sb), ownsMap_block_kept h.map (ho.block mb h.map.lt (hn _ h.sm)), h.sb, h.sm, fun p hp => (h.bd p hp).outs ho (fun i hi => hn i hi.1), h.ok, fun i hi => Nat.lt_of_lt_of_le (h.lt i hi) ho.size⟩
theorem Nt.go (h : Nt w S b mb es sent) (hb : Below w.heap.size w w') : Nt w' S b mb es sent := h.outs (T := fun _ => False) (Outs.of hb) (fun _ _ e => e)
theorem Nt.drewN (h : Nt w S b mb es sent) (n : Nat) : Nt (w.drewN n) S b mb es sent := h.go (bDrewN (Below.refl _ _) n)
theorem Okf.wf {fl : List Le} (h : Okf sent fl) : ∀ x ∈ fl, 0 ≤ x.num ∧ x.num ≤ 18446744073709551615 := fun x hx => by
  have := h.num x hx
  have := h.few
  omega
theorem Nt.ris (h : Nt w S b mb es sent) : Ris (ents es) := by
  refine ⟨?_, fun p hp => ?_⟩
  · have h1 := List.pairwise_map.1 h.ok.rise
    exact List.pairwise_map.2 h1
  · obtain ⟨q, hq, rfl⟩ := List.mem_map.1 hp
    exact h.ok.wf q.1 (List.mem_map_of_mem hq)
theorem ents_find (es : List (Le × Pl)) (k : Int) : (ents es).find? (fun p => decide (p.1 = k)) = (es.find? (fun p => decide (p.1.num = k))).map (fun p => (p.1.num, val p.1 p.2)) := by
  unfold ents
  rw [List.find?_map]
  rfl
theorem ents_any (es : List (Le × Pl)) (k : Int) : (ents es).any (fun p => decide (p.1 = k)) = (es.find? (fun p => decide (p.1.num = k))).isSome := by
  unfold ents
  rw [List.any_map]
  induction es with
  | nil => rfl
  | cons x r ih =>
    simp only [List.any_cons, List.find?_cons, Function.comp]
    cases decide (x.1.num = k) <;> simp [ih]
end

/-- a letter stored in a box -/
def put5 (w : World) (b : Nat) (c0 c1 c2 c3 c4 : Value) : World := ((((w.setCell ⟨b, 0, none⟩ c0).setCell ⟨b, 1, none⟩ c1).setCell ⟨b, 2, none⟩ c2).setCell ⟨b, 3, none⟩ c3).setCell ⟨b, 4, none⟩ c4
theorem put5_whole {w : World} {b : Nat} {t : TypeId} {a0 a1 a2 a3 a4 : Value} (h : Whole w b t #[a0, a1, a2, a3, a4]) (c0 c1 c2 c3 c4 : Value) : Whole (put5 w b c0 c1 c2 c3 c4) b t #[c0, c1, c2, c3, c4] :=
  ((((h.put 0 c0).put 1 c1).put 2 c2).put 3 c3).put 4 c4
theorem put5_below {B : Nat} {a w : World} {b : Nat} (h : Below B a w) (hb : B ≤ b) (c0 c1 c2 c3 c4 : Value) : Below B a (put5 w b c0 c1 c2 c3 c4) :=
  ((((h.setCell (p := ⟨b, 0, none⟩) hb c0).setCell (p := ⟨b, 1, none⟩) hb c1).setCell (p := ⟨b, 2, none⟩) hb c2).setCell (p := ⟨b, 3, none⟩) hb c3).setCell (p := ⟨b, 4, none⟩) hb c4
theorem outs_put (w : World) (b i : Nat) (v : Value) : Outs (fun k => k = b) w (w.setCell ⟨b, i, none⟩ v) := Outs.setCell (S := fun k => k = b) (p := ⟨b, i, none⟩) (Outs.refl _ w) (.inl rfl) v
theorem put5_outs (w : World) (b : Nat) (c0 c1 c2 c3 c4 : Value) : Outs (fun k => k = b) w (put5 w b c0 c1 c2 c3 c4) :=
  ((((outs_put w b 0 c0).same (outs_put _ b 1 c1)).same (outs_put _ b 2 c2)).same (outs_put _ b 3 c3)).same (outs_put _ b 4 c4)
/-- the five cells of a box -/
theorem cells5 {w : World} {b : Nat} {t : TypeId} {c0 c1 c2 c3 c4 : Value} (h : Whole w b t #[c0, c1, c2, c3, c4]) : w.cell? ⟨b, 0, none⟩ = some c0 ∧ w.cell? ⟨b, 1, none⟩ = some c1 ∧ w.cell? ⟨b, 2, none⟩ = some c2 ∧ w.cell? ⟨b, 3, none⟩ = some c3 ∧ w.cell? ⟨b, 4, none⟩ = some c4 :=
  ⟨by simpa using h.cell 0, by simpa using h.cell 1, by simpa using h.cell 2, by simpa using h.cell 3, by simpa using h.cell 4⟩
theorem zero_letter (w : World) : (zeroValue 32).run Try.prog w = .ok zeroL w := Try.zeroValue32 w

theorem infoNet : (Try.prog.info? 57).isSome = true := by kernel_rfl
theorem nneq_same (d : Nat) (w : World) : (binOp .neq 23 (.pointer (some ⟨d, 0, none⟩)) (.pointer (some ⟨d, 0, none⟩))).run Try.prog w = .ok (.bool false) w := by
  obtain ⟨j, hj⟩ := Option.isSome_iff_exists.1 infoNet
  exact Go.Lib.run_neq_ptr_same (P := Try.prog) w _ Try.underlying23 hj
theorem nneq_nil (d : Nat) (w : World) : (binOp .neq 23 (.pointer none) (.pointer (some ⟨d, 0, none⟩))).run Try.prog w = .ok (.bool true) w := by
  have h : ∀ k : Nat, (Op.equalIn (k + 1) 23 (.pointer none) (.pointer (some ⟨d, 0, none⟩))).run Try.prog w = .ok false w := fun k => by
    simp [Op.equalIn, run_underlying Try.underlying23]
  simp only [binOp]
  simp [Op.equal, Op.maxDepth, h 9999]
set_option maxHeartbeats 1000000 in
set_option maxRecDepth 100000 in
theorem nobodys_any {w : World} {S : Nat → Prop} {b mb : Nat} {es : List (Le × Pl)} {sent : Nat} (h : Nt w S b mb es sent) :
    Calls Try.prog 31 #[.pointer (some ⟨b, 0, none⟩)] w fun e w' => e = .returned (.bool false) ∧ w' = w := by
  have hc := h.blk.cell 0
  simp only [List.getElem?_toArray, List.getElem?_cons_zero] at hc
  clear h
  go_enter Try.func31, Try.ntmps31
  have hq := nneq_same b w
  go_wp2
  go_ret
  exact ⟨by simp, rfl⟩
theorem nobodysNil_any (w : World) : Calls Try.prog 31 #[.pointer none] w fun e w' => e = .returned (.bool true) ∧ w' = w := by
  go_enter Try.func31, Try.ntmps31
  go_wp2
  go_ret
  exact ⟨rfl, rfl⟩
set_option maxRecDepth 100000 in
theorem nobodysZero_any {w : World} {b : Nat} {x : Int} {m : Value} (h : Whole w b 57 #[.pointer none, .int .u64 x, m]) : Calls Try.prog 31 #[.pointer (some ⟨b, 0, none⟩)] w fun e w' => e = .returned (.bool true) ∧ w' = w := by
  have hc := h.cell 0
  simp only [List.getElem?_toArray, List.getElem?_cons_zero] at hc
  clear h
  have hq := nneq_nil b w
  go_enter Try.func31, Try.ntmps31
  go_wp2
  go_ret
  exact ⟨by simp, rfl⟩
theorem mayNot_any (x : Int) (w : World) : Calls Try.prog 32 #[.int .i64 x] w fun e w' => e = .returned (.bool (decide (x < 0) || decide (63 < x))) ∧ w' = w := by
  go_enter Try.func32, Try.ntmps32
  by_cases h : x < 0
  · go_wp2
    go_ret
    exact ⟨by simp [h], rfl⟩
  · have h' : decide (x < 0) = false := decide_eq_false h
    go_wp2
    go_ret
    exact ⟨by simp, rfl⟩
end Go.Proofs.Ytnleeffajljodaa
end

section
/- A new net; what a net that nobody made answers. -/
namespace Go.Proofs.Ytnleeffajljodaa
open Go.RowKit Go.Maps
set_option linter.unusedVariables false

theorem okf_nil : Okf 0 [] := ⟨List.Pairwise.nil, by simp, by simp, by simp, by simp, by simp, by simp, by omega⟩
/-- the places of a new net -/
def Two (m b : Nat) (k : Nat) : Prop := k = m ∨ k = b

set_option maxRecDepth 100000 in
theorem new_any (w : World) : Calls Try.prog 8 #[] w fun e w' => e = .returned (.pointer (some ⟨w.heap.size + 1, 0, none⟩)) ∧ Nt w' (Two w.heap.size (w.heap.size + 1)) (w.heap.size + 1) w.heap.size [] 0 ∧ Below w.heap.size w w' := by
  have hm := World.ownsMap_made (H := Value) w Try.prog 25 selfR
  have hmm := @run_makeMap Try.prog
  go_enter Try.func8, Try.ntmps8
  go_wp2
  go_ret
  have hw := Whole.new (w.alloc (.map #[] 0)) 57 #[.pointer (some ⟨w.heap.size + 1, 0, none⟩), .int .u64 0, .map (some w.heap.size)]
  rw [World.size_alloc] at hw
  exact ⟨rfl, ⟨hw, hm.alloc _, .inr rfl, .inl rfl, by simp, okf_nil, fun i hi => by unfold Two at hi; simp; omega⟩, ((Below.refl _ _).alloc (Nat.le_refl _) _).alloc (by simp) _⟩

theorem sendNil_any (f t : Int) (v : Value) (w : World) : Calls Try.prog 9 #[.pointer none, .int .i64 f, .int .i64 t, v] w fun e w' => e = .returned (.tuple #[.int .u64 0, .int .i64 1]) ∧ w' = w := by
  go_enter Try.func9, Try.ntmps9
  go_wp2_with (go_at_call 31; refine (nobodysNil_any _).mono ?_; rintro e w' ⟨rfl, rfl⟩)
  go_returns
  exact ⟨rfl, rfl⟩
set_option maxRecDepth 100000 in
theorem sendZero_any (f t : Int) (v : Value) {w : World} {b : Nat} {x : Int} {m : Value} (h : Whole w b 57 #[.pointer none, .int .u64 x, m]) : Calls Try.prog 9 #[.pointer (some ⟨b, 0, none⟩), .int .i64 f, .int .i64 t, v] w fun e w' => e = .returned (.tuple #[.int .u64 0, .int .i64 1]) ∧ w' = w := by
  have H := Lib.hid h
  clear h
  go_enter Try.func9, Try.ntmps9
  go_wp2_with (go_at_call 31; refine (nobodysZero_any H.out).mono ?_; rintro e w' ⟨rfl, rfl⟩)
  go_returns
  exact ⟨rfl, rfl⟩
/-- a net that is not there, or that nobody made -/
def Nob (w : World) (p : Option Addr) : Prop := p = none ∨ ∃ (b : Nat) (x : Int) (m : Value), p = some ⟨b, 0, none⟩ ∧ Whole w b 57 #[.pointer none, .int .u64 x, m]
theorem Nob.below {w w' : World} {p : Option Addr} (h : Nob w p) (hb : Below w.heap.size w w') : Nob w' p := by
  rcases h with h | ⟨b, x, m, h1, h2⟩
  · exact .inl h
  · exact .inr ⟨b, x, m, h1, h2.below hb h2.lt⟩
theorem nob_any {w : World} {p : Option Addr} (h : Nob w p) : Calls Try.prog 31 #[.pointer p] w fun e w' => e = .returned (.bool true) ∧ w' = w := by
  rcases h with rfl | ⟨b, x, m, rfl, h⟩
  · exact nobodysNil_any w
  · exact nobodysZero_any h
theorem nobSend_any (f t : Int) (v : Value) {w : World} {p : Option Addr} (h : Nob w p) : Calls Try.prog 9 #[.pointer p, .int .i64 f, .int .i64 t, v] w fun e w' => e = .returned (.tuple #[.int .u64 0, .int .i64 1]) ∧ w' = w := by
  rcases h with rfl | ⟨b, x, m, rfl, h⟩
  · exact sendNil_any f t v w
  · exact sendZero_any f t v h
set_option maxRecDepth 100000 in
theorem nobFind_any (x : Int) {w : World} {p : Option Addr} (h : Nob w p) : Calls Try.prog 35 #[.pointer p, .int .u64 x] w fun e w' => e = .returned (.tuple #[zeroL, .int .i64 1]) ∧ Below w.heap.size w w' := by
  have h1 : Nob (w.alloc (.cells #[.int .u64 0, .int .u64 0, .int .i64 0, .int .i64 0, .slice none 0 0] 32)) p := h.below ((Below.refl _ _).alloc (Nat.le_refl _) _)
  have H := Lib.hid h1
  clear h h1
  go_enter Try.func35, Try.ntmps35
  go_wp2_with (go_at_call 31; refine (nob_any H.out).mono ?_; rintro e w' ⟨rfl, rfl⟩)
  go_returns
  exact ⟨rfl, (Below.refl _ _).alloc (Nat.le_refl _) _⟩
/-- an empty letter in a new box -/
def newL (w : World) : World := w.alloc (.cells #[.int .u64 0, .int .u64 0, .int .i64 0, .int .i64 0, .slice none 0 0] 32)
theorem newL_whole (w : World) : Whole (newL w) w.heap.size 32 #[.int .u64 0, .int .u64 0, .int .i64 0, .int .i64 0, .slice none 0 0] := Whole.new w _ _
theorem newL_below (w : World) : Below w.heap.size w (newL w) := (Below.refl _ _).alloc (Nat.le_refl _) _
theorem newL_size (w : World) : (newL w).heap.size = w.heap.size + 1 := by simp [newL]

set_option maxHeartbeats 2000000 in
set_option maxRecDepth 100000 in
theorem nobDeliver_any (x : Int) {w : World} {p : Option Addr} (h : Nob w p) : Calls Try.prog 11 #[.pointer p, .int .u64 x] w fun e w' => e = .returned (.tuple #[zeroL, .int .i64 1]) ∧ Below w.heap.size w w' := by
  have H := Lib.hid (h.below (newL_below w))
  have HB := Lib.hid (newL_below w)
  have HWB := Lib.hid (newL_whole w)
  have HSZ := Lib.hid (newL_size w)
  clear h
  go_enter Try.func11, Try.ntmps11
  go_wp2_with fail
  go_at_call 35
  refine (nobFind_any (w := newL w) x H.out).mono ?_
  rintro e w1 ⟨rfl, hb⟩
  simp only [zeroL]
  have hw1 := HWB.out.below hb HWB.out.lt
  have HB1 := Lib.hid (HB.out.trans (hb.mono (by have := HSZ.out; omega)))
  obtain ⟨c0, c1, c2, c3, c4⟩ := cells5 hw1
  have f0 := hw1.frozen
  have hlt := hw1.lt
  have HW1 := Lib.hid hw1
  clear hb hw1
  go_upto_region 3 with fail
  have hw2 := HW1.out.alloc (.cells #[.int .u64 0, .int .u64 0, .int .i64 0, .int .i64 0, .slice none 0 0] 32)
  have hb2 := HB1.out.alloc HB1.out.size (.cells #[.int .u64 0, .int .u64 0, .int .i64 0, .int .i64 0, .slice none 0 0] 32)
  generalize w1.alloc (.cells #[.int .u64 0, .int .u64 0, .int .i64 0, .int .i64 0, .slice none 0 0] 32) = w2 at hw2 hb2 ⊢
  clear c0 c1 c2 c3 c4 f0 hlt
  obtain ⟨c0, c1, c2, c3, c4⟩ := cells5 hw2
  have f0 := hw2.frozen
  have HW2 := Lib.hid hw2
  have HB2 := Lib.hid hb2
  clear hw2 hb2
  go_wp2
  have hx := put5_whole HW2.out (.int .u64 0) (.int .u64 0) (.int .i64 0) (.int .i64 0) (.slice none 0 0)
  have hbx : Below w.heap.size w (put5 w2 w.heap.size (.int .u64 0) (.int .u64 0) (.int .i64 0) (.int .i64 0) (.slice none 0 0)) := put5_below HB2.out (Nat.le_refl _) _ _ _ _ _
  change bodyPost _ _ _ _ _ (put5 w2 w.heap.size (.int .u64 0) (.int .u64 0) (.int .i64 0) (.int .i64 0) (.slice none 0 0))
  generalize put5 w2 w.heap.size (.int .u64 0) (.int .u64 0) (.int .i64 0) (.int .i64 0) (.slice none 0 0) = W at hx hbx ⊢
  clear c0 c1 c2 c3 c4 f0
  obtain ⟨c0, c1, c2, c3, c4⟩ := cells5 hx
  refine bodyPost_ret (by simp [results, Try.results11, go_sem, c0, c1, c2, c3, c4]; try rfl) rfl ?_
  exact ⟨rfl, hbx⟩
end Go.Proofs.Ytnleeffajljodaa
end

section
/- Finding a letter, copying one, putting one in flight. -/
namespace Go.Proofs.Ytnleeffajljodaa
open Go.RowKit Go.Maps
set_option linter.unusedVariables false

section
variable {w w' : World} {S S' T : Nat → Prop} {b mb : Nat} {es : List (Le × Pl)} {sent : Nat}
/-- the letter of that number -/
def pick (es : List (Le × Pl)) (x : Int) : Option (Le × Pl) := es.find? fun p => decide (p.1.num = x)
def hitV (es : List (Le × Pl)) (x : Int) : Value := match pick es x with | some p => val p.1 p.2 | none => zeroL
def hitE (es : List (Le × Pl)) (x : Int) : Int := match pick es x with | some _ => 0 | none => 6
theorem look_at {v : Value} {ps : List MemPlace} {x : Int} (h : selfR v = some ((asMap (ents es)).atKey (.int .u64 x) (.held zeroL), ps)) : v = hitV es x := by
  rw [at_map, ents_find] at h
  unfold hitV pick
  unfold selfR at h
  cases hp : es.find? (fun p => decide (p.1.num = x)) with
  | none =>
    rw [hp] at h
    have h2 : v = zeroL ∧ ps = [] := by simpa using h
    exact h2.1
  | some p =>
    rw [hp] at h
    have h2 : v = val p.1 p.2 ∧ ps = [] := by simpa using h
    exact h2.1
theorem look_has (x : Int) : Maps.has (asMap (ents es)) (.int .u64 x) = (pick es x).isSome := by rw [has_map, ents_any]; rfl
end

set_option maxHeartbeats 2000000 in
set_option maxRecDepth 100000 in
theorem find_any {w : World} {S : Nat → Prop} {b mb : Nat} {es : List (Le × Pl)} {sent : Nat} (h : Nt w S b mb es sent) (x : Int) (hx : 0 ≤ x ∧ x ≤ 18446744073709551615) :
    Calls Try.prog 35 #[.pointer (some ⟨b, 0, none⟩), .int .u64 x] w fun e w' => e = .returned (.tuple #[hitV es x, .int .i64 (hitE es x)]) ∧ Below w.heap.size w w' := by
  have h1 := h.go (newL_below w)
  have HB := Lib.hid (newL_below w)
  have HWB := Lib.hid (newL_whole w)
  have HSZ := Lib.hid (newL_size w)
  have H1 := Lib.hid h1
  clear h h1
  go_enter Try.func35, Try.ntmps35
  go_wp2_with fail
  go_at_call 31
  refine (nobodys_any (w := newL w) H1.out).mono ?_
  rintro e w1 ⟨rfl, hw⟩
  have e1 : w1 = newL w := hw
  clear hw
  rw [← e1] at H1 HB HWB HSZ
  clear e1
  have hc := H1.out.blk.cell 2
  have hm := H1.out.map
  simp only [List.getElem?_toArray, List.getElem?_cons_zero, List.getElem?_cons_succ] at hc
  obtain ⟨c0, c1, c2, c3, c4⟩ := cells5 HWB.out
  have f0 := HWB.out.frozen
  cases hp : pick es x with
  | none =>
    have hV : hitV es x = zeroL := by unfold hitV; rw [hp]
    have hE : hitE es x = 6 := by unfold hitE; rw [hp]
    have hh : Maps.has (asMap (ents es)) (.int .u64 x) = false := by rw [look_has, hp]; rfl
    go_upto_region 5 with (at_lookup; refine wpList_lookup_own_ok _ rfl _ _ 55 rfl 25 32 keyed64 Try.underlying55 selfR (zero_letter _) (.held zeroL) [] rfl mb sent (asMap (ents es)) rfl hm _ _ rfl (key_u64 hx) ?_; intro v ps hv; obtain rfl := look_at hv; rw [hV, hh]; simp only [zeroL]; go_frame)
    have hw2 := HWB.out.alloc (.cells #[.int .u64 0, .int .u64 0, .int .i64 0, .int .i64 0, .slice none 0 0] 32)
    have hc2 := Whole.new w1 32 #[.int .u64 0, .int .u64 0, .int .i64 0, .int .i64 0, .slice none 0 0]
    have hb2 := HB.out.alloc HB.out.size (.cells #[.int .u64 0, .int .u64 0, .int .i64 0, .int .i64 0, .slice none 0 0] 32)
    generalize w1.alloc (.cells #[.int .u64 0, .int .u64 0, .int .i64 0, .int .i64 0, .slice none 0 0] 32) = w2 at hw2 hc2 hb2 ⊢
    clear c0 c1 c2 c3 c4 f0 hm hc
    obtain ⟨c0, c1, c2, c3, c4⟩ := cells5 hw2
    obtain ⟨d0, d1, d2, d3, d4⟩ := cells5 hc2
    have f0 := hw2.frozen
    have HW2 := Lib.hid hw2
    have HB2 := Lib.hid hb2
    clear hw2 hb2 hc2
    go_wp2
    have hx := put5_whole HW2.out (.int .u64 0) (.int .u64 0) (.int .i64 0) (.int .i64 0) (.slice none 0 0)
    have hbx : Below w.heap.size w (put5 w2 w.heap.size (.int .u64 0) (.int .u64 0) (.int .i64 0) (.int .i64 0) (.slice none 0 0)) := put5_below HB2.out (Nat.le_refl _) _ _ _ _ _
    change bodyPost _ _ _ _ _ (put5 w2 w.heap.size (.int .u64 0) (.int .u64 0) (.int .i64 0) (.int .i64 0) (.slice none 0 0))
    generalize put5 w2 w.heap.size (.int .u64 0) (.int .u64 0) (.int .i64 0) (.int .i64 0) (.slice none 0 0) = W at hx hbx ⊢
    clear c0 c1 c2 c3 c4 f0 d0 d1 d2 d3 d4
    obtain ⟨c0, c1, c2, c3, c4⟩ := cells5 hx
    refine bodyPost_ret (by simp [results, Try.results35, go_sem, c0, c1, c2, c3, c4]; try rfl) rfl ?_
    rw [hV, hE]
    exact ⟨rfl, hbx⟩
  | some p =>
    have hV : hitV es x = val p.1 p.2 := by unfold hitV; rw [hp]
    have hE : hitE es x = 0 := by unfold hitE; rw [hp]
    have hh : Maps.has (asMap (ents es)) (.int .u64 x) = true := by rw [look_has, hp]; rfl
    go_upto_region 6 with (at_lookup; refine wpList_lookup_own_ok _ rfl _ _ 55 rfl 25 32 keyed64 Try.underlying55 selfR (zero_letter _) (.held zeroL) [] rfl mb sent (asMap (ents es)) rfl hm _ _ rfl (key_u64 hx) ?_; intro v ps hv; obtain rfl := look_at hv; rw [hV, hh]; simp only [val]; go_frame)
    have hw2 := HWB.out.alloc (.cells #[.int .u64 p.1.num, .int .u64 p.1.first, .int .i64 p.1.frm, .int .i64 p.1.to_, .slice p.2.1 p.1.body.length p.2.2] 32)
    have hc2 := Whole.new w1 32 #[.int .u64 p.1.num, .int .u64 p.1.first, .int .i64 p.1.frm, .int .i64 p.1.to_, .slice p.2.1 p.1.body.length p.2.2]
    have hb2 := HB.out.alloc HB.out.size (.cells #[.int .u64 p.1.num, .int .u64 p.1.first, .int .i64 p.1.frm, .int .i64 p.1.to_, .slice p.2.1 p.1.body.length p.2.2] 32)
    generalize w1.alloc (.cells #[.int .u64 p.1.num, .int .u64 p.1.first, .int .i64 p.1.frm, .int .i64 p.1.to_, .slice p.2.1 p.1.body.length p.2.2] 32) = w2 at hw2 hc2 hb2 ⊢
    clear c0 c1 c2 c3 c4 f0 hm hc
    obtain ⟨c0, c1, c2, c3, c4⟩ := cells5 hw2
    obtain ⟨d0, d1, d2, d3, d4⟩ := cells5 hc2
    have f0 := hw2.frozen
    have HW2 := Lib.hid hw2
    have HB2 := Lib.hid hb2
    clear hw2 hb2 hc2
    go_wp2
    have hx := put5_whole HW2.out (.int .u64 p.1.num) (.int .u64 p.1.first) (.int .i64 p.1.frm) (.int .i64 p.1.to_) (.slice p.2.1 p.1.body.length p.2.2)
    have hbx : Below w.heap.size w (put5 w2 w.heap.size (.int .u64 p.1.num) (.int .u64 p.1.first) (.int .i64 p.1.frm) (.int .i64 p.1.to_) (.slice p.2.1 p.1.body.length p.2.2)) := put5_below HB2.out (Nat.le_refl _) _ _ _ _ _
    change bodyPost _ _ _ _ _ (put5 w2 w.heap.size (.int .u64 p.1.num) (.int .u64 p.1.first) (.int .i64 p.1.frm) (.int .i64 p.1.to_) (.slice p.2.1 p.1.body.length p.2.2))
    generalize put5 w2 w.heap.size (.int .u64 p.1.num) (.int .u64 p.1.first) (.int .i64 p.1.frm) (.int .i64 p.1.to_) (.slice p.2.1 p.1.body.length p.2.2) = W at hx hbx ⊢
    clear c0 c1 c2 c3 c4 f0 d0 d1 d2 d3 d4
    obtain ⟨c0, c1, c2, c3, c4⟩ := cells5 hx
    refine bodyPost_ret (by simp [results, Try.results35, go_sem, c0, c1, c2, c3, c4]; try rfl) rfl ?_
    rw [hV, hE]
    exact ⟨rfl, hbx⟩
end Go.Proofs.Ytnleeffajljodaa
end
