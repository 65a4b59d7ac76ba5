/- The law's in and was. -/
import Derived.Test.YtkoalpbognpphaaNSameU
import Derived.Test.YtkoalpbognpphaaNLives
namespace Go.Proofs.Ytkoalpbognpphaa
open Go.RowKit Go.Maps
set_option linter.unusedVariables false

set_option maxHeartbeats 1000000 in
set_option maxRecDepth 100000 in
theorem in_any (A : Option Addr) (xs : List Int) (n c lim : Nat) (x : Int) (w : World) (hn : xs.length = n) (hl : n ≤ 9223372036854775806) (hr : Rds w lim A (cU xs)) :
    Calls Try.prog 29 #[.slice A n c, .int .u64 x] w fun e w' => e = .returned (.bool (decide (x ∈ xs))) ∧ w' = w := by
  have HN := Lib.hid hn
  clear hn
  go_enter Try.func29, Try.ntmps29
  go_wp2
  go_loopw [5] (fun i wr => ∃ k : Nat, k ≤ n ∧ i = .int .i64 k ∧ (∀ j, j < k → xs[j]? ≠ some x) ∧ wr = w) (fun i _ => n - (intOf i).toNat)
  case atStart => exact ⟨0, Nat.zero_le _, rfl, fun j hj => absurd hj (by omega), rfl⟩
  case round =>
    obtain ⟨k, hk, rfl, hno, rfl⟩ := hrel
    have HNO := Lib.hid hno
    clear hno
    by_cases hlt : k < n
    · have hke : k < xs.length := by have := HN.out; omega
      obtain ⟨ad, rfl, _, hcell⟩ := hr.at_ (cU_get hke)
      obtain ⟨y, hy⟩ : ∃ y, y = xs[k] := ⟨_, rfl⟩
      rw [← hy] at hcell
      have HY := Lib.hid hy
      clear hy
      by_cases hxy : y = x
      · have hm : decide (x ∈ xs) = true := decide_eq_true (by rw [← hxy, HY.out]; exact List.getElem_mem _)
        have HM := Lib.hid hm
        have hb : (y == x) = true := by simp [hxy]
        clear hm hxy
        go_wp2
        go_ret
        exact ⟨by rw [HM.out]; rfl, rfl⟩
      · have HXY := Lib.hid hxy
        have hb : (y == x) = false := by simp [hxy]
        clear hxy
        go_wp2
        go_roundw
        case rel =>
          refine ⟨k + 1, by omega, by go_num, fun j hj => ?_, by trivial⟩
          rcases Nat.lt_or_ge j k with h | h
          · exact HNO.out j h
          · obtain rfl : j = k := by omega
            rw [List.getElem?_eq_getElem hke, ← HY.out]
            exact fun e => HXY.out (Option.some.inj e)
        case measure => simp [intOf]; omega
    · have hm : decide (x ∈ xs) = false := decide_eq_false fun hx => by
        obtain ⟨j, hj, e⟩ := List.getElem_of_mem hx
        have := HN.out
        exact HNO.out j (by omega) (by rw [List.getElem?_eq_getElem hj, e])
      have HM := Lib.hid hm
      clear hm
      go_wp2
      go_ret
      exact ⟨by rw [HM.out]; rfl, rfl⟩

/-- letters that can be read, and their bodies -/
structure Rdl (w : World) (lim : Nat) (A : Option Addr) (ps : List (Le × Pl)) : Prop where
  cells : Rds w lim A (cLs ps)
  bods : ∀ p ∈ ps, Rds w lim p.2.1 (c8 p.1.body) ∧ p.1.body.length ≤ 16777216
theorem Rdl.below {w w' : World} {lim : Nat} {A : Option Addr} {ps : List (Le × Pl)} (h : Rdl w lim A ps) (hb : Below lim w w') : Rdl w' lim A ps :=
  ⟨h.cells.below hb, fun p hp => ⟨(h.bods p hp).1.below hb, (h.bods p hp).2⟩⟩

set_option maxHeartbeats 4000000 in
set_option maxRecDepth 100000 in
theorem was_yes (A : Option Addr) (ps : List (Le × Pl)) (n c : Nat) (x : Le) (kx : Pl) (w : World) (hn : ps.length = n) (hl : n ≤ 1048576) (hr : Rdl w w.heap.size A ps) (hx : Rds w w.heap.size kx.1 (c8 x.body)) (hxl : x.body.length ≤ 16777216)
    (hone : ∃ p ∈ ps, p.1.num = x.first) (hall : ∀ p ∈ ps, p.1.num = x.first → p.1.frm = x.frm ∧ p.1.to_ = x.to_ ∧ p.1.body = x.body) :
    Calls Try.prog 30 #[.slice A n c, val x kx] w fun e w' => e = .returned (.bool true) ∧ Below w.heap.size w w' := by
  simp only [val]
  have hba : Below w.heap.size w (w.alloc (.cells #[.int .u64 x.num, .int .u64 x.first, .int .i64 x.frm, .int .i64 x.to_, .slice kx.1 x.body.length kx.2] 32)) := (Below.refl _ _).alloc (Nat.le_refl _) _
  have hwa := Whole.new w 32 #[.int .u64 x.num, .int .u64 x.first, .int .i64 x.frm, .int .i64 x.to_, .slice kx.1 x.body.length kx.2]
  have HN := Lib.hid hn
  have HR := Lib.hid hr
  have HX := Lib.hid hx
  have HONE := Lib.hid hone
  have HALL := Lib.hid hall
  have HBA := Lib.hid hba
  have HWA := Lib.hid hwa
  clear hn hr hx hone hall hba hwa
  go_enter Try.func30, Try.ntmps30
  go_upto_region 1 with fail
  generalize (w.alloc (.cells #[.int .u64 x.num, .int .u64 x.first, .int .i64 x.frm, .int .i64 x.to_, .slice kx.1 x.body.length kx.2] 32)) = w1 at HBA HWA ⊢
  go_wp2
  go_loopw [5, 6] (fun i v6 wr => ∃ k : Nat, k ≤ n ∧ i = .int .i64 k ∧ (∀ j (h : j < ps.length), j < k → ps[j].1.num ≠ x.first) ∧ Below w.heap.size w wr ∧ Whole wr w.heap.size 32 #[.int .u64 x.num, .int .u64 x.first, .int .i64 x.frm, .int .i64 x.to_, .slice kx.1 x.body.length kx.2]) (fun i _ _ => n - (intOf i).toNat)
  case atStart => exact ⟨0, Nat.zero_le _, rfl, fun j h hj => absurd hj (by omega), HBA.out, HWA.out⟩
  case round =>
    obtain ⟨k, hk, rfl, hno, hb, hw⟩ := hrel
    have HNO := Lib.hid hno
    clear hno
    by_cases hlt : k < n
    · have hke : k < ps.length := by have := HN.out; omega
      have hsz := hb.size
      have hrk := HR.out.below hb
      obtain ⟨ad, rfl, _, d0, d1, d2, d3, d4⟩ := at5 hrk.cells hke
      obtain ⟨hby, hbyl⟩ := hrk.bods _ (List.getElem_mem hke)
      have hal := HALL.out _ (List.getElem_mem hke)
      obtain ⟨y, hy⟩ : ∃ y, y = ps[k] := ⟨_, rfl⟩
      rw [← hy] at d0 d1 d2 d3 d4 hby hbyl hal
      have HY := Lib.hid hy
      have HAL := Lib.hid hal
      have hbn : Below wr.heap.size wr (wr.alloc (.cells #[.int .u64 y.1.num, .int .u64 y.1.first, .int .i64 y.1.frm, .int .i64 y.1.to_, .slice y.2.1 y.1.body.length y.2.2] 32)) := (Below.refl _ _).alloc (Nat.le_refl _) _
      have hwn := Whole.new wr 32 #[.int .u64 y.1.num, .int .u64 y.1.first, .int .i64 y.1.frm, .int .i64 y.1.to_, .slice y.2.1 y.1.body.length y.2.2]
      have HWN := Lib.hid hwn
      have HWX := Lib.hid (hw.below hbn hw.lt)
      have HBX := Lib.hid (hb.trans (hbn.mono hsz))
      have HBY := Lib.hid ((hby.more hsz).below hbn)
      have HBXX := Lib.hid (((HX.out.below hb).more hsz).below hbn)
      clear hy hal hbn hwn hrk hw hb hby
      go_upto_region 5 with fail
      generalize (wr.alloc (.cells #[.int .u64 y.1.num, .int .u64 y.1.first, .int .i64 y.1.frm, .int .i64 y.1.to_, .slice y.2.1 y.1.body.length y.2.2] 32)) = w2 at HWN HWX HBX HBY HBXX ⊢
      clear d0 d1 d2 d3 d4
      obtain ⟨c0, c1, c2, c3, c4⟩ := cells5 HWX.out
      obtain ⟨d0, d1, d2, d3, d4⟩ := cells5 HWN.out
      by_cases heq : y.1.num = x.first
      · obtain ⟨g1, g2, g3⟩ := HAL.out heq
        have e0 : (y.1.num == x.first) = true := by simp [heq]
        have e1 : (y.1.frm == x.frm) = true := by simp [g1]
        have e2 : (y.1.to_ == x.to_) = true := by simp [g2]
        have e3 : same8 y.1.body x.body = true := decide_eq_true g3
        have ct := sameBytes_any y.2.1 kx.1 y.1.body x.body y.2.2 kx.2 wr.heap.size w2 (by omega) (by omega) HBY.out HBXX.out
        rw [e3] at ct
        have CT := Lib.hid ct
        clear heq g1 g2 g3 e3 ct
        go_wp2_with fail
        refine CT.out.mono ?_
        rintro e w3 ⟨rfl, m, rfl⟩
        go_wp2
        go_ret
        exact ⟨rfl, bDrewN HBX.out m⟩
      · have HEQ := Lib.hid heq
        have e0 : (y.1.num == x.first) = false := by simp [heq]
        clear heq
        go_wp2
        go_roundw
        case rel =>
          refine ⟨k + 1, by omega, by go_num, fun j h hj => ?_, HBX.out, HWX.out⟩
          rcases Nat.lt_or_ge j k with h1 | h1
          · exact HNO.out j h h1
          · obtain rfl : j = k := by omega
            rw [← HY.out]
            exact HEQ.out
        case measure => simp [intOf]; omega
    · exfalso
      obtain ⟨p, hp, e⟩ := HONE.out
      obtain ⟨j, hj, rfl⟩ := List.getElem_of_mem hp
      have := HN.out
      exact HNO.out j hj (by omega) e
end Go.Proofs.Ytkoalpbognpphaa
