/- Several texts, each a section: NLives, NIn, NOnM, NRf, Held. -/
import Derived.Test.YtnleeffajljodaaM06
import Derived.Test.YtnleeffajljodaaM05
import Derived.Lib.SlBytesConst
import Derived.Test.YtnleeffajljodaaM04
import Derived.Maps.AppendAt
import Derived.OrdersHeld
import Derived.StillTail
import Derived.Deep.RegionHeld
section
/- The walk over the example that every statement of the layer asks first. -/
namespace Go.Proofs.Ytnleeffajljodaa
open Go.RowKit Go.Maps
set_option linter.unusedVariables false

theorem conv_same5 (w : World) (C : Array Value) (n c : Nat) : (convert 29 29 (.slice (some ⟨w.heap.size, 0, none⟩) n c)).run Try.prog (w.alloc (.cells C 5)) = .ok (.slice (some ⟨w.heap.size, 0, none⟩) n c) (w.alloc (.cells C 5 (C.size, C.size + 1))) :=
  Lib.run_convert_bytes_const w 29 5 C n c Try.underlying29 Try.underlying5
theorem Rds.madeF5 (w : World) (t : TypeId) (zs : List Int) (cs : Array Value) (fr : Nat × Nat) (h : cs.toList = c8 zs) : Rds (w.alloc (.cells cs t fr)) (w.heap.size + 1) (some ⟨w.heap.size, 0, none⟩) (c8 zs) := by
  intro _
  refine ⟨_, rfl, by simp, fun j u hu => ?_⟩
  have hadd : (⟨w.heap.size, 0, none⟩ : Addr).add j = ⟨w.heap.size, j, none⟩ := by unfold Addr.add; split <;> simp_all
  rw [hadd, cell_of_row _ _ j cs t fr (heap_alloc_new w _), ← hu, ← h]
  simp

/-- a net that was made behind w0 -/
structure At7 (w0 w : World) (b mb : Nat) (es : List (Le × Pl)) (sent : Nat) : Prop where
  nt : ∃ S : Nat → Prop, Nt w S b mb es sent ∧ ∀ k, S k → w0.heap.size ≤ k
  below : Below w0.heap.size w0 w
section
variable {w0 w w' : World} {b mb : Nat} {es : List (Le × Pl)} {sent : Nat}
theorem At7.go (h : At7 w0 w b mb es sent) (hb : Below w.heap.size w w') : At7 w0 w' b mb es sent := by
  obtain ⟨⟨S, h1, h2⟩, h3⟩ := h
  exact ⟨⟨S, h1.go hb, h2⟩, h3.trans (hb.mono h3.size)⟩
theorem at_new (h : Below w0.heap.size w0 w) : Calls Try.prog 8 #[] w fun e w' => ∃ b mb, e = .returned (.pointer (some ⟨b, 0, none⟩)) ∧ At7 w0 w' b mb [] 0 ∧ w.heap.size ≤ b ∧ b < w'.heap.size := by
  refine (new_any w).mono ?_
  rintro e w' ⟨rfl, hn, hb⟩
  exact ⟨_, _, rfl, ⟨⟨_, hn, fun k hk => by have := h.size; rcases hk with rfl | rfl <;> omega⟩, h.trans (hb.mono h.size)⟩, by omega, hn.blk.lt⟩
theorem at_send (h : At7 w0 w b mb es sent) (f t : Int) (A : Option Addr) (bs : List Int) (n c : Nat) (hbn : bs.length = n) (hE : sendE f t n = 0) (hr : Rds w w.heap.size A (c8 bs)) (hs : sent < 4000) (hm : es.length < 4000) :
    Calls Try.prog 9 #[.pointer (some ⟨b, 0, none⟩), .int .i64 f, .int .i64 t, .slice A n c] w fun e w' => e = .returned (.tuple #[.int .u64 (sent + 1 : Nat), .int .i64 0]) ∧
      ∃ k, At7 w0 w' b mb (es ++ [(⟨(sent + 1 : Nat), (sent + 1 : Nat), f, t, bs⟩, k)]) (sent + 1) := by
  obtain ⟨⟨S, h1, h2⟩, h3⟩ := h
  refine (send_any h1 f t A bs n c hbn hE hr hs hm).mono ?_
  rintro e w' ⟨rfl, S', k, hn, ht⟩
  refine ⟨rfl, k, ⟨S', hn, fun k hk => ?_⟩, h3.trans (ht.outs.below h2 h3.size)⟩
  rcases ht.new k hk with e | e
  · exact h2 k e
  · exact Nat.le_trans h3.size e
theorem At7.outs {es' : List (Le × Pl)} {sent' : Nat} {S : Nat → Prop} (h1 : Nt w S b mb es sent) (h2 : ∀ k, S k → w0.heap.size ≤ k) (h3 : Below w0.heap.size w0 w) (hn : Nt w' S b mb es' sent') (ho : Outs (fun i => i = b ∨ i = mb) w w') : At7 w0 w' b mb es' sent' :=
  ⟨⟨S, hn, h2⟩, h3.trans (ho.below (fun k hk => by rcases hk with rfl | rfl; exact h2 _ h1.sb; exact h2 _ h1.sm) h3.size)⟩
theorem at_double (h : At7 w0 w b mb es sent) (x : Int) (hx : 0 ≤ x ∧ x ≤ 18446744073709551615) {p : Le × Pl} (hp : pick es x = some p) (hs : sent < 4000) (hm : es.length < 4000) :
    Calls Try.prog 10 #[.pointer (some ⟨b, 0, none⟩), .int .u64 x] w fun e w' => e = .returned (.tuple #[.int .u64 (sent + 1 : Nat), .int .i64 0]) ∧ At7 w0 w' b mb (es ++ [({ p.1 with num := (sent + 1 : Nat) }, p.2)]) (sent + 1) := by
  obtain ⟨⟨S, h1, h2⟩, h3⟩ := h
  refine (double_any h1 x hx hp hs hm).mono ?_
  rintro e w' ⟨rfl, hn, ho⟩
  exact ⟨rfl, At7.outs h1 h2 h3 hn ho⟩
theorem at_doubleNo (h : At7 w0 w b mb es sent) (x : Int) (hx : 0 ≤ x ∧ x ≤ 18446744073709551615) (hp : pick es x = none) :
    Calls Try.prog 10 #[.pointer (some ⟨b, 0, none⟩), .int .u64 x] w fun e w' => e = .returned (.tuple #[.int .u64 0, .int .i64 6]) ∧ At7 w0 w' b mb es sent := by
  obtain ⟨⟨S, h1, h2⟩, h3⟩ := id h
  refine (doubleNo_any h1 x hx hp).mono ?_
  rintro e w' ⟨rfl, hb⟩
  exact ⟨rfl, h.go hb⟩
theorem at_lose (h : At7 w0 w b mb es sent) (x : Int) (hx : 0 ≤ x ∧ x ≤ 18446744073709551615) {p : Le × Pl} (hp : pick es x = some p) :
    Calls Try.prog 14 #[.pointer (some ⟨b, 0, none⟩), .int .u64 x] w fun e w' => e = .returned (.int .i64 0) ∧ At7 w0 w' b mb (drop es x) sent := by
  obtain ⟨⟨S, h1, h2⟩, h3⟩ := h
  refine (lose_any h1 x hx hp).mono ?_
  rintro e w' ⟨rfl, hn, ho⟩
  exact ⟨rfl, At7.outs h1 h2 h3 hn ho⟩
theorem at_loseNo (h : At7 w0 w b mb es sent) (x : Int) (hx : 0 ≤ x ∧ x ≤ 18446744073709551615) (hp : pick es x = none) :
    Calls Try.prog 14 #[.pointer (some ⟨b, 0, none⟩), .int .u64 x] w fun e w' => e = .returned (.int .i64 6) ∧ At7 w0 w' b mb es sent := by
  obtain ⟨⟨S, h1, h2⟩, h3⟩ := id h
  refine (loseNo_any h1 x hx hp).mono ?_
  rintro e w' ⟨rfl, hb⟩
  exact ⟨rfl, h.go hb⟩
theorem at_deliver (h : At7 w0 w b mb es sent) (x : Int) (hx : 0 ≤ x ∧ x ≤ 18446744073709551615) {p : Le × Pl} (hp : pick es x = some p) :
    Calls Try.prog 11 #[.pointer (some ⟨b, 0, none⟩), .int .u64 x] w fun e w' => ∃ k : Pl, e = .returned (.tuple #[val p.1 k, .int .i64 0]) ∧ At7 w0 w' b mb (drop es x) sent ∧ Bd w' (fun i => w.heap.size ≤ i) p.1.body k := by
  obtain ⟨⟨S, h1, h2⟩, h3⟩ := h
  refine (deliver_any h1 x hx hp).mono ?_
  rintro e w' ⟨k, rfl, hn, ho, hbd⟩
  exact ⟨k, rfl, At7.outs h1 h2 h3 hn ho, hbd⟩
theorem at_deliverNo (h : At7 w0 w b mb es sent) (x : Int) (hx : 0 ≤ x ∧ x ≤ 18446744073709551615) (hp : pick es x = none) :
    Calls Try.prog 11 #[.pointer (some ⟨b, 0, none⟩), .int .u64 x] w fun e w' => e = .returned (.tuple #[zeroL, .int .i64 6]) ∧ At7 w0 w' b mb es sent := by
  obtain ⟨⟨S, h1, h2⟩, h3⟩ := id h
  refine (deliverNo_any h1 x hx hp).mono ?_
  rintro e w' ⟨rfl, hb⟩
  exact ⟨rfl, h.go hb⟩
theorem at_clear (h : At7 w0 w b mb es sent) (node : Int) :
    Calls Try.prog 23 #[.pointer (some ⟨b, 0, none⟩), .int .i64 node] w fun e w' => e = .returned (.tuple #[]) ∧ At7 w0 w' b mb (awayN es node) sent := by
  obtain ⟨⟨S, h1, h2⟩, h3⟩ := h
  refine (clear_any h1 node).mono ?_
  rintro e w' ⟨rfl, hn, ho⟩
  exact ⟨rfl, At7.outs h1 h2 h3 hn ho⟩
theorem at_flight (h : At7 w0 w b mb es sent) :
    Calls Try.prog 28 #[.pointer (some ⟨b, 0, none⟩)] w fun e w' => ∃ A c n ps, e = .returned (.slice A n c) ∧ n = es.length ∧ ps.map (·.1) = es.map (·.1) ∧ Rds w' w'.heap.size A (cLs ps) ∧ (∀ p ∈ ps, Bd w' (fun i => w.heap.size ≤ i) p.1.body p.2) ∧ At7 w0 w' b mb es sent ∧ Below w.heap.size w w' := by
  obtain ⟨⟨S, h1, h2⟩, h3⟩ := id h
  refine (flight_any h1).mono ?_
  rintro e w' ⟨v, ps, rfl, hps, hrow, hbd, hb⟩
  obtain ⟨A, c, rfl, hr⟩ := row_slice hrow
  exact ⟨A, c, es.length, ps, rfl, rfl, hps, hr, hbd, h.go hb, hb⟩
theorem at_to (h : At7 w0 w b mb es sent) (node : Int) :
    Calls Try.prog 13 #[.pointer (some ⟨b, 0, none⟩), .int .i64 node] w fun e w' => ∃ A c n, e = .returned (.slice A n c) ∧ n = (nums (toN es node)).length ∧ Rds w' w'.heap.size A (cU (nums (toN es node))) ∧ At7 w0 w' b mb es sent ∧ Below w.heap.size w w' := by
  obtain ⟨⟨S, h1, h2⟩, h3⟩ := id h
  refine (to_any h1 node).mono ?_
  rintro e w' ⟨v, m, rfl, rfl, hrow, hb⟩
  obtain ⟨A, c, rfl, hr⟩ := row_slice hrow
  exact ⟨A, c, _, rfl, by simp [nums], hr, h.go hb, hb⟩
theorem At7.ok (h : At7 w0 w b mb es sent) : Okf sent (es.map (·.1)) := by
  obtain ⟨⟨S, h1, h2⟩, h3⟩ := h
  exact h1.ok
end

set_option maxHeartbeats 4000000 in
set_option maxRecDepth 100000 in
theorem lives_any (w : World) : Calls Try.prog 7 #[] w fun e w' => e = .returned (.bool true) ∧ Below w.heap.size w w' := by
  go_enter Try.func7, Try.ntmps7
  go_wp2_with fail
  refine (at_new (w0 := w) (Below.refl _ _)).mono ?_
  rintro e w1 ⟨b, mb, rfl, h1, -, -⟩
  have H1 := Lib.hid (h1.go ((Below.refl _ _).alloc (Nat.le_refl _) (.cells #[.int .u8 97] 5 (1, 2))))
  have R1 := Lib.hid (Rds.madeF5 w1 5 [97] #[.int .u8 97] (1, 2) rfl)
  have cv := conv_same5 w1 #[.int .u8 97] 1 1
  clear h1
  go_wp2_with fail
  have hs := at_send H1.out 0 1 (some ⟨w1.heap.size, 0, none⟩) [97] 1 1 rfl (by decide) (by simpa using R1.out) (by omega) (by decide)
  refine hs.mono ?_
  rintro e w2 ⟨rfl, k1, h2⟩
  have H2 := Lib.hid (h2.go ((Below.refl _ _).alloc (Nat.le_refl _) (.cells #[.int .u8 98] 5 (1, 2))))
  have R2 := Lib.hid (Rds.madeF5 w2 5 [98] #[.int .u8 98] (1, 2) rfl)
  have cv := conv_same5 w2 #[.int .u8 98] 1 1
  clear h2 hs
  go_wp2_with fail
  have hs := at_send H2.out 1 0 (some ⟨w2.heap.size, 0, none⟩) [98] 1 1 rfl (by decide) (by simpa using R2.out) (by omega) (by simp)
  refine hs.mono ?_
  rintro e w3 ⟨rfl, k2, h3⟩
  have H3 := Lib.hid h3
  clear h3 hs
  go_wp2_with fail
  have hs := at_double H3.out 1 (by omega) (p := (⟨1, 1, 0, 1, [97]⟩, k1)) (by rfl) (by omega) (by simp)
  refine hs.mono ?_
  rintro e w4 ⟨rfl, h4⟩
  have H4 := Lib.hid h4
  clear h4 hs
  go_wp2_with fail
  refine (at_flight H4.out).mono ?_
  rintro e w5 ⟨A, c, n, ps, rfl, hn, hps, hr, -, h5, -⟩
  obtain rfl : n = 3 := hn
  have hlen : ps.length = 3 := by have := congrArg List.length hps; simpa using this
  have hp2 : ps[2].1 = ⟨3, 1, 0, 1, [97]⟩ := by
    have h := congrArg (fun l => l[2]?) hps
    simpa [hlen] using h
  obtain ⟨ad, rfl, hlt, hc0, hc1, -, -, -⟩ := at5 hr (k := 2) (by omega)
  rw [hp2] at hc0 hc1
  have e10 : ad.add (2 * 5) = ⟨ad.block, ad.off + 10, none⟩ := addr_off (by decide)
  rw [e10] at hc0 hc1
  have HB := Lib.hid h5.below
  clear h5 hps hr hp2 hlen e10
  go_wp2
  go_ret
  exact ⟨rfl, HB.out⟩
end Go.Proofs.Ytnleeffajljodaa
end

section
/- The law's in and was. -/
namespace Go.Proofs.Ytnleeffajljodaa
open Go.RowKit Go.Maps
set_option linter.unusedVariables false

set_option maxHeartbeats 1000000 in
set_option maxRecDepth 100000 in
theorem in_any (A : Option Addr) (xs : List Int) (n c lim : Nat) (x : Int) (w : World) (hn : xs.length = n) (hl : n ≤ 9223372036854775806) (hr : Rds w lim A (cU xs)) :
    Calls Try.prog 29 #[.slice A n c, .int .u64 x] w fun e w' => e = .returned (.bool (decide (x ∈ xs))) ∧ w' = w := by
  have HN := Lib.hid hn
  clear hn
  go_enter Try.func29, Try.ntmps29
  go_wp2
  go_loopw [5] (fun i wr => ∃ k : Nat, k ≤ n ∧ i = .int .i64 k ∧ (∀ j, j < k → xs[j]? ≠ some x) ∧ wr = w) (fun i _ => n - (intOf i).toNat)
  case atStart => exact ⟨0, Nat.zero_le _, rfl, fun j hj => absurd hj (by omega), rfl⟩
  case round =>
    obtain ⟨k, hk, rfl, hno, rfl⟩ := hrel
    have HNO := Lib.hid hno
    clear hno
    by_cases hlt : k < n
    · have hke : k < xs.length := by have := HN.out; omega
      obtain ⟨ad, rfl, _, hcell⟩ := hr.at_ (cU_get hke)
      obtain ⟨y, hy⟩ : ∃ y, y = xs[k] := ⟨_, rfl⟩
      rw [← hy] at hcell
      have HY := Lib.hid hy
      clear hy
      by_cases hxy : y = x
      · have hm : decide (x ∈ xs) = true := decide_eq_true (by rw [← hxy, HY.out]; exact List.getElem_mem _)
        have HM := Lib.hid hm
        have hb : (y == x) = true := by simp [hxy]
        clear hm hxy
        go_wp2
        go_ret
        exact ⟨by rw [HM.out]; rfl, rfl⟩
      · have HXY := Lib.hid hxy
        have hb : (y == x) = false := by simp [hxy]
        clear hxy
        go_wp2
        go_roundw
        case rel =>
          refine ⟨k + 1, by omega, by go_num, fun j hj => ?_, by trivial⟩
          rcases Nat.lt_or_ge j k with h | h
          · exact HNO.out j h
          · obtain rfl : j = k := by omega
            rw [List.getElem?_eq_getElem hke, ← HY.out]
            exact fun e => HXY.out (Option.some.inj e)
        case measure => simp [intOf]; omega
    · have hm : decide (x ∈ xs) = false := decide_eq_false fun hx => by
        obtain ⟨j, hj, e⟩ := List.getElem_of_mem hx
        have := HN.out
        exact HNO.out j (by omega) (by rw [List.getElem?_eq_getElem hj, e])
      have HM := Lib.hid hm
      clear hm
      go_wp2
      go_ret
      exact ⟨by rw [HM.out]; rfl, rfl⟩

/-- letters that can be read, and their bodies -/
structure Rdl (w : World) (lim : Nat) (A : Option Addr) (ps : List (Le × Pl)) : Prop where
  cells : Rds w lim A (cLs ps)
  bods : ∀ p ∈ ps, Rds w lim p.2.1 (c8 p.1.body) ∧ p.1.body.length ≤ 16777216
theorem Rdl.below {w w' : World} {lim : Nat} {A : Option Addr} {ps : List (Le × Pl)} (h : Rdl w lim A ps) (hb : Below lim w w') : Rdl w' lim A ps :=
  ⟨h.cells.below hb, fun p hp => ⟨(h.bods p hp).1.below hb, (h.bods p hp).2⟩⟩

set_option maxHeartbeats 4000000 in
set_option maxRecDepth 100000 in
theorem was_yes (A : Option Addr) (ps : List (Le × Pl)) (n c : Nat) (x : Le) (kx : Pl) (w : World) (hn : ps.length = n) (hl : n ≤ 1048576) (hr : Rdl w w.heap.size A ps) (hx : Rds w w.heap.size kx.1 (c8 x.body)) (hxl : x.body.length ≤ 16777216)
    (hone : ∃ p ∈ ps, p.1.num = x.first) (hall : ∀ p ∈ ps, p.1.num = x.first → p.1.frm = x.frm ∧ p.1.to_ = x.to_ ∧ p.1.body = x.body) :
    Calls Try.prog 30 #[.slice A n c, val x kx] w fun e w' => e = .returned (.bool true) ∧ Below w.heap.size w w' := by
  simp only [val]
  have hba : Below w.heap.size w (w.alloc (.cells #[.int .u64 x.num, .int .u64 x.first, .int .i64 x.frm, .int .i64 x.to_, .slice kx.1 x.body.length kx.2] 32)) := (Below.refl _ _).alloc (Nat.le_refl _) _
  have hwa := Whole.new w 32 #[.int .u64 x.num, .int .u64 x.first, .int .i64 x.frm, .int .i64 x.to_, .slice kx.1 x.body.length kx.2]
  have HN := Lib.hid hn
  have HR := Lib.hid hr
  have HX := Lib.hid hx
  have HONE := Lib.hid hone
  have HALL := Lib.hid hall
  have HBA := Lib.hid hba
  have HWA := Lib.hid hwa
  clear hn hr hx hone hall hba hwa
  go_enter Try.func30, Try.ntmps30
  go_upto_region 1 with fail
  generalize (w.alloc (.cells #[.int .u64 x.num, .int .u64 x.first, .int .i64 x.frm, .int .i64 x.to_, .slice kx.1 x.body.length kx.2] 32)) = w1 at HBA HWA ⊢
  go_wp2
  go_loopw [5, 6] (fun i v6 wr => ∃ k : Nat, k ≤ n ∧ i = .int .i64 k ∧ (∀ j (h : j < ps.length), j < k → ps[j].1.num ≠ x.first) ∧ Below w.heap.size w wr ∧ Whole wr w.heap.size 32 #[.int .u64 x.num, .int .u64 x.first, .int .i64 x.frm, .int .i64 x.to_, .slice kx.1 x.body.length kx.2]) (fun i _ _ => n - (intOf i).toNat)
  case atStart => exact ⟨0, Nat.zero_le _, rfl, fun j h hj => absurd hj (by omega), HBA.out, HWA.out⟩
  case round =>
    obtain ⟨k, hk, rfl, hno, hb, hw⟩ := hrel
    have HNO := Lib.hid hno
    clear hno
    by_cases hlt : k < n
    · have hke : k < ps.length := by have := HN.out; omega
      have hsz := hb.size
      have hrk := HR.out.below hb
      obtain ⟨ad, rfl, _, d0, d1, d2, d3, d4⟩ := at5 hrk.cells hke
      obtain ⟨hby, hbyl⟩ := hrk.bods _ (List.getElem_mem hke)
      have hal := HALL.out _ (List.getElem_mem hke)
      obtain ⟨y, hy⟩ : ∃ y, y = ps[k] := ⟨_, rfl⟩
      rw [← hy] at d0 d1 d2 d3 d4 hby hbyl hal
      have HY := Lib.hid hy
      have HAL := Lib.hid hal
      have hbn : Below wr.heap.size wr (wr.alloc (.cells #[.int .u64 y.1.num, .int .u64 y.1.first, .int .i64 y.1.frm, .int .i64 y.1.to_, .slice y.2.1 y.1.body.length y.2.2] 32)) := (Below.refl _ _).alloc (Nat.le_refl _) _
      have hwn := Whole.new wr 32 #[.int .u64 y.1.num, .int .u64 y.1.first, .int .i64 y.1.frm, .int .i64 y.1.to_, .slice y.2.1 y.1.body.length y.2.2]
      have HWN := Lib.hid hwn
      have HWX := Lib.hid (hw.below hbn hw.lt)
      have HBX := Lib.hid (hb.trans (hbn.mono hsz))
      have HBY := Lib.hid ((hby.more hsz).below hbn)
      have HBXX := Lib.hid (((HX.out.below hb).more hsz).below hbn)
      clear hy hal hbn hwn hrk hw hb hby
      go_upto_region 5 with fail
      generalize (wr.alloc (.cells #[.int .u64 y.1.num, .int .u64 y.1.first, .int .i64 y.1.frm, .int .i64 y.1.to_, .slice y.2.1 y.1.body.length y.2.2] 32)) = w2 at HWN HWX HBX HBY HBXX ⊢
      clear d0 d1 d2 d3 d4
      obtain ⟨c0, c1, c2, c3, c4⟩ := cells5 HWX.out
      obtain ⟨d0, d1, d2, d3, d4⟩ := cells5 HWN.out
      by_cases heq : y.1.num = x.first
      · obtain ⟨g1, g2, g3⟩ := HAL.out heq
        have e0 : (y.1.num == x.first) = true := by simp [heq]
        have e1 : (y.1.frm == x.frm) = true := by simp [g1]
        have e2 : (y.1.to_ == x.to_) = true := by simp [g2]
        have e3 : same8 y.1.body x.body = true := decide_eq_true g3
        have ct := sameBytes_any y.2.1 kx.1 y.1.body x.body y.2.2 kx.2 wr.heap.size w2 (by omega) (by omega) HBY.out HBXX.out
        rw [e3] at ct
        have CT := Lib.hid ct
        clear heq g1 g2 g3 e3 ct
        go_wp2_with fail
        refine CT.out.mono ?_
        rintro e w3 ⟨rfl, m, rfl⟩
        go_wp2
        go_ret
        exact ⟨rfl, bDrewN HBX.out m⟩
      · have HEQ := Lib.hid heq
        have e0 : (y.1.num == x.first) = false := by simp [heq]
        clear heq
        go_wp2
        go_roundw
        case rel =>
          refine ⟨k + 1, by omega, by go_num, fun j h hj => ?_, HBX.out, HWX.out⟩
          rcases Nat.lt_or_ge j k with h1 | h1
          · exact HNO.out j h h1
          · obtain rfl : j = k := by omega
            rw [← HY.out]
            exact HEQ.out
        case measure => simp [intOf]; omega
    · exfalso
      obtain ⟨p, hp, e⟩ := HONE.out
      obtain ⟨j, hj, rfl⟩ := List.getElem_of_mem hp
      have := HN.out
      exact HNO.out j hj (by omega) e
end Go.Proofs.Ytnleeffajljodaa
end

section
/- What holds between the acts of NetOnce: without the program. -/
namespace Go.Proofs.Ytnleeffajljodaa
open Go.RowKit Go.Maps
set_option linter.unusedVariables false

/-- between two acts, k of them done -/
structure Mid7 (k : Nat) (es : List (Le × Pl)) (sent : Nat) (ss : List (Le × Pl)) (ov : List Int) : Prop where
  src : ∀ e ∈ es, ∃ s ∈ ss, s.1.num = e.1.first
  same : ∀ e ∈ es, ∀ s ∈ ss, s.1.num = e.1.first → s.1.frm = e.1.frm ∧ s.1.to_ = e.1.to_ ∧ s.1.body = e.1.body
  sn : ∀ s ∈ ss, s.1.num ≤ sent
  fresh : ∀ e ∈ es, e.1.num ∉ ov
  ovn : ∀ n ∈ ov, n ≤ sent
  en : ∀ e ∈ es, e.1.num ≤ sent ∧ e.1.first ≤ sent
  few : sent ≤ k
  len : es.length ≤ k
  lss : ss.length ≤ k
  lov : ov.length ≤ k
section
variable {k : Nat} {es : List (Le × Pl)} {sent : Nat} {ss : List (Le × Pl)} {ov : List Int}
theorem mid7_zero : Mid7 0 [] 0 [] [] :=
  ⟨fun e he => (by cases he), fun e he => (by cases he), fun e he => (by cases he), fun e he => (by cases he), fun e he => (by cases he), fun e he => (by cases he), Nat.le_refl _, Nat.le_refl _, Nat.le_refl _, Nat.le_refl _⟩
theorem Mid7.step (h : Mid7 k es sent ss ov) : Mid7 (k + 1) es sent ss ov :=
  ⟨h.src, h.same, h.sn, h.fresh, h.ovn, h.en, by have := h.few; omega, by have := h.len; omega, by have := h.lss; omega, by have := h.lov; omega⟩
theorem Mid7.filter (h : Mid7 k es sent ss ov) (f : Le × Pl → Bool) : Mid7 (k + 1) (es.filter f) sent ss ov :=
  ⟨fun e he => h.src e (List.mem_filter.1 he).1, fun e he => h.same e (List.mem_filter.1 he).1, h.sn, fun e he => h.fresh e (List.mem_filter.1 he).1, h.ovn, fun e he => h.en e (List.mem_filter.1 he).1,
    by have := h.few; omega, by have := h.len; have := List.length_filter_le f es; omega, by have := h.lss; omega, by have := h.lov; omega⟩
theorem Mid7.gone (h : Mid7 k es sent ss ov) {x : Int} {p : Le × Pl} (hp : pick es x = some p) : Mid7 (k + 1) (drop es x) sent ss (ov ++ [x]) ∧ x ∉ ov := by
  obtain ⟨_, _, hm, hx⟩ := hit_some hp
  have hf := h.filter (fun q => !decide (q.1.num = x))
  refine ⟨⟨hf.src, hf.same, hf.sn, fun e he hn => ?_, fun n hn => ?_, hf.en, hf.few, hf.len, hf.lss, by have := h.lov; simp; omega⟩, hx ▸ h.fresh p hm⟩
  · rcases List.mem_append.1 hn with hn | hn
    · exact hf.fresh e he hn
    · have := (List.mem_filter.1 he).2
      simp at this hn
      exact this hn
  · rcases List.mem_append.1 hn with hn | hn
    · exact h.ovn n hn
    · obtain rfl := List.mem_singleton.1 hn
      exact hx ▸ (h.en p hm).1
theorem Mid7.put (h : Mid7 k es sent ss ov) (f t : Int) (b : List Int) (kl ks : Pl) :
    Mid7 (k + 1) (es ++ [(⟨(sent + 1 : Nat), (sent + 1 : Nat), f, t, b⟩, kl)]) (sent + 1) (ss ++ [(⟨(sent + 1 : Nat), (sent + 1 : Nat), f, t, b⟩, ks)]) ov := by
  refine ⟨fun e he => ?_, fun e he s hs hn => ?_, fun s hs => ?_, fun e he hn => ?_, fun n hn => ?_, fun e he => ?_, by have := h.few; omega, by have := h.len; simp; omega, by have := h.lss; simp; omega, by have := h.lov; omega⟩
  · rcases List.mem_append.1 he with he | he
    · obtain ⟨s, hs, e⟩ := h.src e he
      exact ⟨s, List.mem_append_left _ hs, e⟩
    · obtain rfl := List.mem_singleton.1 he
      exact ⟨_, List.mem_append_right _ (List.mem_singleton.2 rfl), rfl⟩
  · rcases List.mem_append.1 he with he | he
    · rcases List.mem_append.1 hs with hs | hs
      · exact h.same e he s hs hn
      · obtain rfl := List.mem_singleton.1 hs
        have := (h.en e he).2
        simp only at hn
        omega
    · obtain rfl := List.mem_singleton.1 he
      rcases List.mem_append.1 hs with hs | hs
      · have := h.sn s hs
        simp only at hn
        omega
      · obtain rfl := List.mem_singleton.1 hs
        exact ⟨rfl, rfl, rfl⟩
  · rcases List.mem_append.1 hs with hs | hs
    · have := h.sn s hs; omega
    · obtain rfl := List.mem_singleton.1 hs
      simp
  · rcases List.mem_append.1 he with he | he
    · exact h.fresh e he hn
    · obtain rfl := List.mem_singleton.1 he
      have := h.ovn _ hn
      simp only at this
      omega
  · have := h.ovn n hn; omega
  · rcases List.mem_append.1 he with he | he
    · have := h.en e he; omega
    · obtain rfl := List.mem_singleton.1 he
      simp
theorem Mid7.doubled (h : Mid7 k es sent ss ov) {p : Le × Pl} (hp : p ∈ es) : Mid7 (k + 1) (es ++ [({ p.1 with num := (sent + 1 : Nat) }, p.2)]) (sent + 1) ss ov := by
  refine ⟨fun e he => ?_, fun e he s hs hn => ?_, fun s hs => by have := h.sn s hs; omega, fun e he hn => ?_, fun n hn => by have := h.ovn n hn; omega, fun e he => ?_, by have := h.few; omega, by have := h.len; simp; omega, by have := h.lss; omega, by have := h.lov; omega⟩
  · rcases List.mem_append.1 he with he | he
    · exact h.src e he
    · obtain rfl := List.mem_singleton.1 he
      exact h.src p hp
  · rcases List.mem_append.1 he with he | he
    · exact h.same e he s hs hn
    · obtain rfl := List.mem_singleton.1 he
      exact h.same p hp s hs hn
  · rcases List.mem_append.1 he with he | he
    · exact h.fresh e he hn
    · obtain rfl := List.mem_singleton.1 he
      have := h.ovn _ hn
      simp only at this
      omega
  · rcases List.mem_append.1 he with he | he
    · have := h.en e he; omega
    · obtain rfl := List.mem_singleton.1 he
      have := (h.en p hp).2
      simp only
      omega
end

/-- the net of NetOnce, and its two lists -/
structure On (w0 w : World) (S : Nat → Prop) (b mb : Nat) (es : List (Le × Pl)) (sent : Nat) (v4 v5 : Value) (ss : List (Le × Pl)) (ov : List Int) : Prop where
  nt : Nt w S b mb es sent
  sg : ∀ i, S i → w0.heap.size ≤ i
  row4 : w.ownsRow w0.heap.size 32 5 v4 ss.length (cLs ss)
  row5 : w.ownsRow w0.heap.size 25 1 v5 ov.length (cU ov)
  n4 : ∀ g, v4.ownBlock = some g → ¬ S g
  n5 : ∀ g, v5.ownBlock = some g → ¬ S g
  n45 : ∀ g, v4.ownBlock = some g → v5.ownBlock ≠ some g
  bds : ∀ p ∈ ss, Rds w w0.heap.size p.2.1 (c8 p.1.body) ∧ p.1.body.length ≤ 16777216
  below : Below w0.heap.size w0 w
section
variable {w0 w w' : World} {S S' : Nat → Prop} {b mb : Nat} {es es' : List (Le × Pl)} {sent sent' : Nat} {v4 v5 v : Value} {ss : List (Le × Pl)} {ov : List Int}
theorem On.turn (h : On w0 w S b mb es sent v4 v5 ss ov) (hn : Nt w' S' b mb es' sent') (ht : Turn S S' w w') : On w0 w' S' b mb es' sent' v4 v5 ss ov := by
  have hb : Below w0.heap.size w w' := ht.outs.below h.sg h.below.size
  have hold : ∀ g, S' g → g < w.heap.size → S g := fun g hg hl => by rcases ht.new g hg with e | e; exact e; omega
  refine ⟨hn, fun i hi => ?_, ownRow_block_kept h.row4 fun g hg => ht.outs.block g (h.row4.lt g hg).2 (h.n4 g hg), ownRow_block_kept h.row5 fun g hg => ht.outs.block g (h.row5.lt g hg).2 (h.n5 g hg),
    fun g hg hs => h.n4 g hg (hold g hs (h.row4.lt g hg).2), fun g hg hs => h.n5 g hg (hold g hs (h.row5.lt g hg).2), h.n45, fun p hp => ⟨(h.bds p hp).1.below hb, (h.bds p hp).2⟩, h.below.trans hb⟩
  rcases ht.new i hi with e | e
  · exact h.sg i e
  · exact Nat.le_trans h.below.size e
theorem On.go (h : On w0 w S b mb es sent v4 v5 ss ov) (hb : Below w.heap.size w w') : On w0 w' S b mb es sent v4 v5 ss ov :=
  h.turn (h.nt.go hb) ⟨Outs.of hb, fun k hk => .inl hk⟩
theorem On.push5 (h : On w0 w S b mb es sent v4 v5 ss ov) {o : Obj} {x : Int} (hrow : w'.ownsRow w0.heap.size 25 1 v (ov.length + 1) (cU ov ++ [.int .u64 x])) (hg : (w.alloc o).grownBy w' v5.ownBlock) (hat : v.ownBlock = v5.ownBlock ∨ v.ownBlock = some (w.alloc o).heap.size) :
    On w0 w' S b mb es sent v4 v ss (ov ++ [x]) := by
  have ho : Outs (fun i => v5.ownBlock = some i) w w' := ((Outs.refl _ w).alloc o).grown hg (fun k hk => .inl hk)
  have hsz : (w.alloc o).heap.size = w.heap.size + 1 := by simp
  have hb : Below w0.heap.size w w' := ho.below (fun k hk => (h.row5.lt k hk).1) h.below.size
  have hS : ∀ i, S i → ¬ v5.ownBlock = some i := fun i hi e => h.n5 i e hi
  refine ⟨h.nt.outs ho hS, h.sg, ownRow_block_kept h.row4 fun g hg => ho.block g (h.row4.lt g hg).2 (h.n45 g hg), ?_, h.n4, fun g hg hs => ?_, fun g hg e => ?_, fun p hp => ⟨(h.bds p hp).1.below hb, (h.bds p hp).2⟩, h.below.trans hb⟩
  · have e : cU (ov ++ [x]) = cU ov ++ [.int .u64 x] := by simp [cU]
    rw [e, List.length_append]
    exact hrow
  · rcases hat with hat | hat
    · exact h.n5 g (hat ▸ hg) hs
    · rw [hat] at hg
      injection hg with hg
      have := h.nt.lt g hs
      omega
  · rcases hat with hat | hat
    · exact h.n45 g hg (hat ▸ e)
    · rw [hat] at e
      injection e with e
      have := (h.row4.lt g hg).2
      omega
theorem On.push4 (h : On w0 w S b mb es sent v4 v5 ss ov) {o : Obj} {p : Le × Pl} (hrow : w'.ownsRow w0.heap.size 32 5 v (ss.length + 1) (cLs ss ++ cL p)) (hg : (w.alloc o).grownBy w' v4.ownBlock) (hat : v.ownBlock = v4.ownBlock ∨ v.ownBlock = some (w.alloc o).heap.size)
    (hp : Rds w w0.heap.size p.2.1 (c8 p.1.body) ∧ p.1.body.length ≤ 16777216) : On w0 w' S b mb es sent v v5 (ss ++ [p]) ov := by
  have ho : Outs (fun i => v4.ownBlock = some i) w w' := ((Outs.refl _ w).alloc o).grown hg (fun k hk => .inl hk)
  have hsz : (w.alloc o).heap.size = w.heap.size + 1 := by simp
  have hb : Below w0.heap.size w w' := ho.below (fun k hk => (h.row4.lt k hk).1) h.below.size
  have hS : ∀ i, S i → ¬ v4.ownBlock = some i := fun i hi e => h.n4 i e hi
  refine ⟨h.nt.outs ho hS, h.sg, ?_, ownRow_block_kept h.row5 fun g hg => ho.block g (h.row5.lt g hg).2 (fun e => h.n45 g e hg), fun g hg hs => ?_, h.n5, fun g hg e => ?_, fun q hq => ?_, h.below.trans hb⟩
  · have e : cLs (ss ++ [p]) = cLs ss ++ cL p := by simp [cLs]
    rw [e, List.length_append]
    exact hrow
  · rcases hat with hat | hat
    · exact h.n4 g (hat ▸ hg) hs
    · rw [hat] at hg
      injection hg with hg
      have := h.nt.lt g hs
      omega
  · rcases hat with hat | hat
    · exact h.n45 g (hat ▸ hg) e
    · rw [hat] at hg
      injection hg with hg
      have := (h.row5.lt g e).2
      omega
  · rcases List.mem_append.1 hq with hq | hq
    · exact ⟨(h.bds q hq).1.below hb, (h.bds q hq).2⟩
    · obtain rfl := List.mem_singleton.1 hq
      exact ⟨hp.1.below hb, hp.2⟩
theorem On.rdl (h : On w0 w S b mb es sent v4 v5 ss ov) : ∃ A c, v4 = .slice A ss.length c ∧ Rdl w w.heap.size A ss := by
  obtain ⟨A, c, e, hr⟩ := row_slice h.row4
  exact ⟨A, c, e, hr, fun p hp => ⟨(h.bds p hp).1.more h.below.size, (h.bds p hp).2⟩⟩
end
end Go.Proofs.Ytnleeffajljodaa
end

section
/- The document's net in memory. -/
namespace Go.Proofs.Ytnleeffajljodaa
open Go.RowKit Go.Maps
set_option linter.unusedVariables false

/-- the document's net at block xb, its list v, its places R -/
structure Rn (w : World) (R : Nat → Prop) (xb : Nat) (v : Value) (ps : List (Le × Pl)) (last : Nat) : Prop where
  blk : Whole w xb 43 #[v, .int .u64 last]
  row : w.ownsRow 0 32 5 v ps.length (cLs ps)
  rx : R xb
  rv : ∀ g, v.ownBlock = some g → R g ∧ g ≠ xb
  bd : ∀ p ∈ ps, Bd w (fun i => R i ∧ i ≠ xb ∧ v.ownBlock ≠ some i) p.1.body p.2
  lt : ∀ i, R i → i < w.heap.size
section
variable {w w' : World} {R R' T : Nat → Prop} {xb : Nat} {v : Value} {ps : List (Le × Pl)} {last : Nat}
theorem Rn.outs (h : Rn w R xb v ps last) (ho : Outs T w w') (hn : ∀ i, R i → ¬ T i) : Rn w' R xb v ps last :=
  ⟨h.blk.outs ho (hn _ h.rx), ownRow_block_kept h.row fun g hg => ho.block g (h.row.lt g hg).2 (hn g (h.rv g hg).1), h.rx, h.rv, fun p hp => (h.bd p hp).outs ho (fun i hi => hn i hi.1), fun i hi => Nat.lt_of_lt_of_le (h.lt i hi) ho.size⟩
theorem Rn.go (h : Rn w R xb v ps last) (hb : Below w.heap.size w w') : Rn w' R xb v ps last := h.outs (T := fun _ => False) (Outs.of hb) (fun _ _ e => e)
theorem Rn.open_ (h : Rn w R xb v ps last) : ∃ A c, v = .slice A ps.length c ∧ Rds w w.heap.size A (cLs ps) := row_slice h.row
end

/-- where a number stands -/
def posN (ps : List (Le × Pl)) (x : Int) : Option Nat := ps.findIdx? fun p => decide (p.1.num = x)
def posI (ps : List (Le × Pl)) (x : Int) : Int := match posN ps x with | some k => k | none => -1

set_option maxHeartbeats 2000000 in
set_option maxRecDepth 100000 in
theorem place_any {w : World} {R : Nat → Prop} {xb : Nat} {v : Value} {ps : List (Le × Pl)} {last : Nat} (h : Rn w R xb v ps last) (x : Int) (hl : ps.length ≤ 1048576) :
    Calls Try.prog 40 #[.pointer (some ⟨xb, 0, none⟩), .int .u64 x] w fun e w' => e = .returned (.int .i64 (posI ps x)) ∧ w' = w := by
  obtain ⟨A, c, rfl, hr⟩ := h.open_
  obtain ⟨n, hn⟩ : ∃ n, ps.length = n := ⟨_, rfl⟩
  have c0 : w.cell? ⟨xb, 0, none⟩ = some (.slice A n c) := by rw [← hn]; simpa using h.blk.cell 0
  have HN := Lib.hid hn
  have HR := Lib.hid hr
  rw [hn] at hl
  clear h hn hr
  go_enter Try.func40, Try.ntmps40
  go_wp2
  go_loopw [5] (fun i wr => ∃ k : Nat, k ≤ n ∧ i = .int .i64 k ∧ (∀ j (h : j < ps.length), j < k → ¬ ps[j].1.num = x) ∧ wr = w) (fun i _ => n - (intOf i).toNat)
  case atStart => exact ⟨0, Nat.zero_le _, rfl, fun j h hj => absurd hj (by omega), rfl⟩
  case round =>
    obtain ⟨k, hk, rfl, hno, rfl⟩ := hrel
    have HNO := Lib.hid hno
    clear hno
    by_cases hlt : k < n
    · have hke : k < ps.length := by have := HN.out; omega
      obtain ⟨ad, rfl, _, d0, _, _, _, _⟩ := at5 HR.out hke
      obtain ⟨y, hy⟩ : ∃ y, y = ps[k].1.num := ⟨_, rfl⟩
      rw [← hy] at d0
      have HY := Lib.hid hy
      clear hy
      by_cases hxy : y = x
      · have hp : posI ps x = k := by
          have : posN ps x = some k := by
            unfold posN
            refine List.findIdx?_eq_some_iff_getElem.2 ⟨hke, by simp [← HY.out, hxy], fun j hj => ?_⟩
            simpa using HNO.out j (by omega) hj
          unfold posI
          rw [this]
        have HP := Lib.hid hp
        have hb : (y == x) = true := by simp [hxy]
        clear hp hxy
        go_wp2
        go_ret
        exact ⟨by rw [HP.out]; rfl, rfl⟩
      · have HXY := Lib.hid hxy
        have hb : (y == x) = false := by simp [hxy]
        clear hxy
        go_wp2
        go_roundw
        case rel =>
          refine ⟨k + 1, by omega, by go_num, fun j h hj => ?_, by trivial⟩
          rcases Nat.lt_or_ge j k with h1 | h1
          · exact HNO.out j h h1
          · obtain rfl : j = k := by omega
            rw [← HY.out]
            exact HXY.out
        case measure => simp [intOf]; omega
    · have hp : posI ps x = -1 := by
        have : posN ps x = none := by
          unfold posN
          refine List.findIdx?_eq_none_iff.2 fun p hp => ?_
          obtain ⟨j, hj, rfl⟩ := List.getElem_of_mem hp
          have := HN.out
          simpa using HNO.out j hj (by omega)
        unfold posI
        rw [this]
      have HP := Lib.hid hp
      clear hp
      go_wp2
      go_ret
      exact ⟨by rw [HP.out]; rfl, rfl⟩
end Go.Proofs.Ytnleeffajljodaa
end

section
/- A region that draws its order, whose last operations wait for all the others: what the loads read must stand behind the others alone. No program is named here. -/
namespace Go.Proofs.Ytnleeffajljodaa
open Go

section
variable {P : Program} {l : List Oper} {ops : Array Oper} {Q : Exit → Act → World → Prop} {md : Region.Mode} {S : World → Prop} {n : Nat}

/-- whatever order is picked, and S holds behind each operation below n -/
def wpAnyG (P : Program) (md : Region.Mode) (ops : Array Oper) (Q : Exit → Act → World → Prop) (S : World → Prop) (n : Nat) : Nat → Array Bool → Act → World → Prop
  | 0, listed, a, w => Region.ready md ops listed = [] ∧ Q .normal a w
  | fuel + 1, listed, a, w =>
    (Region.ready md ops listed = [] → Q .normal a w) ∧
    ∀ i ∈ Region.ready md ops listed, wpOp P ops Q i (fun a' w' => (i < n → S w') ∧ wpAnyG P md ops Q S n fuel (listed.setIfInBounds i true) a' w') a w
theorem wpAny_of_G : ∀ (fuel : Nat) (listed : Array Bool) (a : Act) (w : World), wpAnyG P md ops Q S n fuel listed a w → wpAny P md ops Q fuel listed a w
  | 0, _, _, _, h => h
  | fuel + 1, _, _, _, h => ⟨h.1, fun i hi => wpOp_mono (fun a' w' h' => wpAny_of_G fuel _ a' w' h'.2) (h.2 i hi)⟩

def tailB (md : Region.Mode) (ops : Array Oper) (n : Nat) : Bool := Region.noSelect ops && (decide (n < ops.size) && (Region.sinkB md ops n && Region.chainB md ops n))
/-- where a walk stands: what is listed is closed, none of the last is listed -/
structure Stands (md : Region.Mode) (ops : Array Oper) (n : Nat) (listed : Array Bool) : Prop where
  tail : tailB md ops n = true
  inv : HeadInv md ops n listed
theorem Stands.no {listed : Array Bool} (h : Stands md ops n listed) : Region.noSelect ops = true ∧ n < ops.size ∧ Region.sinkB md ops n = true ∧ Region.chainB md ops n = true := by
  have := h.tail
  simp only [tailB, Bool.and_eq_true, decide_eq_true_eq] at this
  exact ⟨this.1, this.2.1, this.2.2.1, this.2.2.2⟩

theorem wpAnyG_first {i : Nat} {oi : Oper} {v : Value} (hi : ops[i]? = some oi) (hin : i < n)
    (hQ : ∀ c a w, Q (.panic c) (a.put oi.dst v) w → Q (.panic c) a w) :
    ∀ (fuel : Nat) (listed : Array Bool) (a : Act) (w : World), Stands md ops n listed →
      (∀ j oj, ops[j]? = some oj → j ≠ i → listed.getD j true = false → (∀ e ∈ oj.after, Region.binds md e = true → e.on ≠ i) → oi.apart ops oj = true) →
      i ∈ Region.ready md ops listed → YieldsIf P ops S oi v a → S w →
      wpAnyG P md ops Q S n fuel (listed.setIfInBounds i true) (a.put oi.dst v) w → wpAnyG P md ops Q S n (fuel + 1) listed a w := by
  intro fuel
  induction fuel with
  | zero =>
    intro listed a w _ _ hr hy hS H
    refine ⟨fun h => (by rw [h] at hr; cases hr), fun j hj => ?_⟩
    by_cases hji : j = i
    · subst hji; exact hy.wpOp hi hS ⟨fun _ => hS, H⟩
    · have := ready_mono hj hji
      rw [H.1] at this
      cases this
  | succ fuel ih =>
    intro listed a w st hfree hr hy hS H
    obtain ⟨hns, hn, hsk, hch⟩ := st.no
    have hsel := Region.noSelect_spec hns
    refine ⟨fun h => (by rw [h] at hr; cases hr), fun j hj => ?_⟩
    by_cases hji : j = i
    · subst hji; exact hy.wpOp hi hS ⟨fun _ => hS, H⟩
    · have h1 := H.2 j (ready_mono hj hji)
      have hun := (mem_ready.1 hr).1
      have hjn : j < n := by
        rcases Nat.lt_or_ge j n with h | h
        · exact h
        · exact absurd hj (tail_waits hsk hch hn st.inv _ i rfl hin hun j h)
      obtain ⟨hjun, oj, hoj, hall⟩ := mem_ready.1 hj
      have hnot : ∀ e ∈ oj.after, Region.binds md e = true → e.on ≠ i := fun e he hb heq => by
        have h1 := hall e he hb
        rw [heq, getD_both hun] at h1
        cases h1
      have h2 := wpOp_putIf hoj (hfree j oj hoj hji hjun hnot) (fun cs b => hsel i oi cs b hi) (fun cs b => hsel j oj cs b hoj) hQ hy h1
      have hfree' : ∀ k ok, ops[k]? = some ok → k ≠ i → (listed.setIfInBounds j true).getD k true = false →
          (∀ e ∈ ok.after, Region.binds md e = true → e.on ≠ i) → oi.apart ops ok = true := fun k ok hk hki hun hno => by
        refine hfree k ok hk hki ?_ hno
        by_cases hjk : j = k
        · subst hjk; exact hjun
        · rw [getD_set_ne true hjk] at hun; exact hun
      refine wpOp_mono (fun a' w' h3 => ⟨h3.2.1, ih (listed.setIfInBounds j true) a' w' ⟨st.tail, st.inv.set hj hjn⟩ hfree' (ready_mono hr (Ne.symm hji)) h3.1 (h3.2.1 hjn) ?_⟩) h2
      rw [Array.setIfInBounds_comm _ _ hji]
      exact h3.2.2

/-- number i is taken first -/
theorem wpAnyG_take {i : Nat} {oi : Oper} {v : Value} {fuel : Nat} {listed : Array Bool} {a : Act} {w : World} (hi : l[i]? = some oi) (hin : decide (i < n) = true) (st : Stands md l.toArray n listed)
    (hf : Region.free md l.toArray listed i = true) (hr : (Region.ready md l.toArray listed).contains i = true)
    (hQ : ∀ c a w, Q (.panic c) (a.put oi.dst v) w → Q (.panic c) a w) (hS : S w) (hy : YieldsIf P l.toArray S oi v a)
    (h : Stands md l.toArray n (listed.setIfInBounds i true) → wpAnyG P md l.toArray Q S n fuel (listed.setIfInBounds i true) (a.put oi.dst v) w) : wpAnyG P md l.toArray Q S n (fuel + 1) listed a w := by
  have hin' : i < n := by simpa using hin
  have hi' : l.toArray[i]? = some oi := by simpa using hi
  have hr' : i ∈ Region.ready md l.toArray listed := by simpa using hr
  exact wpAnyG_first hi' hin' hQ fuel listed a w st (Region.free_spec hi' hf) hr' hy hS (h ⟨st.tail, st.inv.set hr' hin'⟩)

/-- number i comes up -/
theorem stepG {i : Nat} {o : Oper} {fuel : Nat} {listed : Array Bool} {a : Act} {w : World} (ho : l[i]? = some o) (hin : decide (i < n) = true) (st : Stands md l.toArray n listed) (hr : i ∈ Region.ready md l.toArray listed)
    (h : ∀ K' : Act → World → Prop, Shut (∀ a w, S w → (S w → Stands md l.toArray n (listed.setIfInBounds i true) → wpAnyG P md l.toArray Q S n fuel (listed.setIfInBounds i true) a w) → K' a w) →
      if Region.wanted o (yielded l.toArray a.tmps) = true then Oper.wp P o a w K' Q else K' (a.put o.dst undef) w) :
    wpOp P l.toArray Q i (fun a' w' => (i < n → S w') ∧ wpAnyG P md l.toArray Q S n fuel (listed.setIfInBounds i true) a' w') a w := by
  have hin' : i < n := by simpa using hin
  exact wpOp_step (by simpa using ho) fun K' hK => h K' fun a w hS hW => hK a w ⟨fun _ => hS, hW hS ⟨st.tail, st.inv.set hr hin'⟩⟩
theorem wpAnyG_one {i : Nat} {o : Oper} {fuel : Nat} {listed : Array Bool} {a : Act} {w : World} (hr : Region.ready md l.toArray listed = [i]) (ho : l[i]? = some o) (hin : decide (i < n) = true) (st : Stands md l.toArray n listed)
    (h : ∀ K' : Act → World → Prop, Shut (∀ a w, S w → (S w → Stands md l.toArray n (listed.setIfInBounds i true) → wpAnyG P md l.toArray Q S n fuel (listed.setIfInBounds i true) a w) → K' a w) →
      if Region.wanted o (yielded l.toArray a.tmps) = true then Oper.wp P o a w K' Q else K' (a.put o.dst undef) w) :
    wpAnyG P md l.toArray Q S n (fuel + 1) listed a w := by
  refine ⟨fun h0 => (by rw [hr] at h0; cases h0), fun j hj => ?_⟩
  obtain rfl : j = i := by rw [hr] at hj; simpa using hj
  exact stepG ho hin st hj h
theorem wpAnyG_two {i j : Nat} {o o' : Oper} {fuel : Nat} {listed : Array Bool} {a : Act} {w : World} (hr : Region.ready md l.toArray listed = [i, j]) (ho : l[i]? = some o) (ho' : l[j]? = some o') (hin : decide (i < n) = true) (hin' : decide (j < n) = true) (st : Stands md l.toArray n listed)
    (h : ∀ K' : Act → World → Prop, Shut (∀ a w, S w → (S w → Stands md l.toArray n (listed.setIfInBounds i true) → wpAnyG P md l.toArray Q S n fuel (listed.setIfInBounds i true) a w) → K' a w) →
      if Region.wanted o (yielded l.toArray a.tmps) = true then Oper.wp P o a w K' Q else K' (a.put o.dst undef) w)
    (h' : ∀ K' : Act → World → Prop, Shut (∀ a w, S w → (S w → Stands md l.toArray n (listed.setIfInBounds j true) → wpAnyG P md l.toArray Q S n fuel (listed.setIfInBounds j true) a w) → K' a w) →
      if Region.wanted o' (yielded l.toArray a.tmps) = true then Oper.wp P o' a w K' Q else K' (a.put o'.dst undef) w) :
    wpAnyG P md l.toArray Q S n (fuel + 1) listed a w := by
  refine ⟨fun h0 => (by rw [hr] at h0; cases h0), fun k hk => ?_⟩
  have hk' := hk
  rw [hr] at hk'
  rcases List.mem_cons.1 hk' with rfl | hk'
  · exact stepG ho hin st hk h
  · obtain rfl : k = j := by simpa using hk'
    exact stepG ho' hin' st hk h'
/-- the last comes up -/
theorem wpAnyG_last {i : Nat} {o : Oper} {fuel : Nat} {listed : Array Bool} {a : Act} {w : World} (hr : Region.ready md l.toArray listed = [i]) (ho : l[i]? = some o) (hin : decide (n ≤ i) = true) (hr' : Region.ready md l.toArray (listed.setIfInBounds i true) = [])
    (h : ∀ K' : Act → World → Prop, Shut (∀ a w, Q .normal a w → K' a w) → if Region.wanted o (yielded l.toArray a.tmps) = true then Oper.wp P o a w K' Q else K' (a.put o.dst undef) w) :
    wpAnyG P md l.toArray Q S n (fuel + 1) listed a w := by
  have hin' : n ≤ i := by simpa using hin
  refine ⟨fun h0 => (by rw [hr] at h0; cases h0), fun j hj => ?_⟩
  obtain rfl : j = i := by rw [hr] at hj; simpa using hj
  refine wpOp_step (by simpa using ho) fun K' hK => h K' fun a w hq => hK a w ⟨fun h0 => by omega, ?_⟩
  cases fuel with
  | zero => exact ⟨hr', hq⟩
  | succ fuel => exact ⟨fun _ => hq, by rw [hr']; simp⟩
/-- one of the last comes up, others behind it -/
theorem wpAnyG_pass {i : Nat} {o : Oper} {fuel : Nat} {listed : Array Bool} {a : Act} {w : World} (hr : Region.ready md l.toArray listed = [i]) (ho : l[i]? = some o) (hin : decide (n ≤ i) = true)
    (h : ∀ K' : Act → World → Prop, Shut (∀ a w, wpAnyG P md l.toArray Q S n fuel (listed.setIfInBounds i true) a w → K' a w) → if Region.wanted o (yielded l.toArray a.tmps) = true then Oper.wp P o a w K' Q else K' (a.put o.dst undef) w) :
    wpAnyG P md l.toArray Q S n (fuel + 1) listed a w := by
  have hin' : n ≤ i := by simpa using hin
  refine ⟨fun h0 => (by rw [hr] at h0; cases h0), fun j hj => ?_⟩
  obtain rfl : j = i := by rw [hr] at hj; simpa using hj
  exact wpOp_step (by simpa using ho) fun K' hK => h K' fun a w hW => hK a w ⟨fun h0 => by omega, hW⟩
/-- the beginning -/
theorem wp_region_G {id : Nat} {a : Act} {w : World} (n : Nat) (S : World → Prop) (hm : P.follows .mixedOrders = true) (ht : tailB .any l.toArray n = true) (hS : S w.drew)
    (h : S w.drew → Stands .any l.toArray n (Array.replicate l.toArray.size false) → wpAnyG P .any l.toArray Q S n l.toArray.size (Array.replicate l.toArray.size false) a w.drew) : (Code.region id l.toArray true).wp P Q a w :=
  wp_region_any hm (wpAny_of_G _ _ _ _ (h hS ⟨ht, by simp, fun j oj _ hl => (by rw [getD_replicate_false] at hl; cases hl), fun t _ ht => getD_in (by simpa using ht) (getD_replicate_false _ _)⟩))
end
end Go.Proofs.Ytnleeffajljodaa
end
