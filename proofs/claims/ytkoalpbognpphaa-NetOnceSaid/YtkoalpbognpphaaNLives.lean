/- The walk over the example that every statement of the layer asks first. -/
import Derived.Test.YtkoalpbognpphaaNRl
import Derived.Test.YtkoalpbognpphaaNRise
import Derived.Lib.SlBytesConst
namespace Go.Proofs.Ytkoalpbognpphaa
open Go.RowKit Go.Maps
set_option linter.unusedVariables false

theorem conv_same5 (w : World) (C : Array Value) (n c : Nat) : (convert 29 29 (.slice (some ⟨w.heap.size, 0, none⟩) n c)).run Try.prog (w.alloc (.cells C 5)) = .ok (.slice (some ⟨w.heap.size, 0, none⟩) n c) (w.alloc (.cells C 5 (C.size, C.size + 1))) :=
  Lib.run_convert_bytes_const w 29 5 C n c Try.underlying29 Try.underlying5
theorem Rds.madeF5 (w : World) (t : TypeId) (zs : List Int) (cs : Array Value) (fr : Nat × Nat) (h : cs.toList = c8 zs) : Rds (w.alloc (.cells cs t fr)) (w.heap.size + 1) (some ⟨w.heap.size, 0, none⟩) (c8 zs) := by
  intro _
  refine ⟨_, rfl, by simp, fun j u hu => ?_⟩
  have hadd : (⟨w.heap.size, 0, none⟩ : Addr).add j = ⟨w.heap.size, j, none⟩ := by unfold Addr.add; split <;> simp_all
  rw [hadd, cell_of_row _ _ j cs t fr (heap_alloc_new w _), ← hu, ← h]
  simp

/-- a net that was made behind w0 -/
structure At7 (w0 w : World) (b mb : Nat) (es : List (Le × Pl)) (sent : Nat) : Prop where
  nt : ∃ S : Nat → Prop, Nt w S b mb es sent ∧ ∀ k, S k → w0.heap.size ≤ k
  below : Below w0.heap.size w0 w
section
variable {w0 w w' : World} {b mb : Nat} {es : List (Le × Pl)} {sent : Nat}
theorem At7.go (h : At7 w0 w b mb es sent) (hb : Below w.heap.size w w') : At7 w0 w' b mb es sent := by
  obtain ⟨⟨S, h1, h2⟩, h3⟩ := h
  exact ⟨⟨S, h1.go hb, h2⟩, h3.trans (hb.mono h3.size)⟩
theorem at_new (h : Below w0.heap.size w0 w) : Calls Try.prog 8 #[] w fun e w' => ∃ b mb, e = .returned (.pointer (some ⟨b, 0, none⟩)) ∧ At7 w0 w' b mb [] 0 ∧ w.heap.size ≤ b ∧ b < w'.heap.size := by
  refine (new_any w).mono ?_
  rintro e w' ⟨rfl, hn, hb⟩
  exact ⟨_, _, rfl, ⟨⟨_, hn, fun k hk => by have := h.size; rcases hk with rfl | rfl <;> omega⟩, h.trans (hb.mono h.size)⟩, by omega, hn.blk.lt⟩
theorem at_send (h : At7 w0 w b mb es sent) (f t : Int) (A : Option Addr) (bs : List Int) (n c : Nat) (hbn : bs.length = n) (hE : sendE f t n = 0) (hr : Rds w w.heap.size A (c8 bs)) (hs : sent < 4000) (hm : es.length < 4000) :
    Calls Try.prog 9 #[.pointer (some ⟨b, 0, none⟩), .int .i64 f, .int .i64 t, .slice A n c] w fun e w' => e = .returned (.tuple #[.int .u64 (sent + 1 : Nat), .int .i64 0]) ∧
      ∃ k, At7 w0 w' b mb (es ++ [(⟨(sent + 1 : Nat), (sent + 1 : Nat), f, t, bs⟩, k)]) (sent + 1) := by
  obtain ⟨⟨S, h1, h2⟩, h3⟩ := h
  refine (send_any h1 f t A bs n c hbn hE hr hs hm).mono ?_
  rintro e w' ⟨rfl, S', k, hn, ht⟩
  refine ⟨rfl, k, ⟨S', hn, fun k hk => ?_⟩, h3.trans (ht.outs.below h2 h3.size)⟩
  rcases ht.new k hk with e | e
  · exact h2 k e
  · exact Nat.le_trans h3.size e
theorem At7.outs {es' : List (Le × Pl)} {sent' : Nat} {S : Nat → Prop} (h1 : Nt w S b mb es sent) (h2 : ∀ k, S k → w0.heap.size ≤ k) (h3 : Below w0.heap.size w0 w) (hn : Nt w' S b mb es' sent') (ho : Outs (fun i => i = b ∨ i = mb) w w') : At7 w0 w' b mb es' sent' :=
  ⟨⟨S, hn, h2⟩, h3.trans (ho.below (fun k hk => by rcases hk with rfl | rfl; exact h2 _ h1.sb; exact h2 _ h1.sm) h3.size)⟩
theorem at_double (h : At7 w0 w b mb es sent) (x : Int) (hx : 0 ≤ x ∧ x ≤ 18446744073709551615) {p : Le × Pl} (hp : pick es x = some p) (hs : sent < 4000) (hm : es.length < 4000) :
    Calls Try.prog 10 #[.pointer (some ⟨b, 0, none⟩), .int .u64 x] w fun e w' => e = .returned (.tuple #[.int .u64 (sent + 1 : Nat), .int .i64 0]) ∧ At7 w0 w' b mb (es ++ [({ p.1 with num := (sent + 1 : Nat) }, p.2)]) (sent + 1) := by
  obtain ⟨⟨S, h1, h2⟩, h3⟩ := h
  refine (double_any h1 x hx hp hs hm).mono ?_
  rintro e w' ⟨rfl, hn, ho⟩
  exact ⟨rfl, At7.outs h1 h2 h3 hn ho⟩
theorem at_doubleNo (h : At7 w0 w b mb es sent) (x : Int) (hx : 0 ≤ x ∧ x ≤ 18446744073709551615) (hp : pick es x = none) :
    Calls Try.prog 10 #[.pointer (some ⟨b, 0, none⟩), .int .u64 x] w fun e w' => e = .returned (.tuple #[.int .u64 0, .int .i64 6]) ∧ At7 w0 w' b mb es sent := by
  obtain ⟨⟨S, h1, h2⟩, h3⟩ := id h
  refine (doubleNo_any h1 x hx hp).mono ?_
  rintro e w' ⟨rfl, hb⟩
  exact ⟨rfl, h.go hb⟩
theorem at_lose (h : At7 w0 w b mb es sent) (x : Int) (hx : 0 ≤ x ∧ x ≤ 18446744073709551615) {p : Le × Pl} (hp : pick es x = some p) :
    Calls Try.prog 14 #[.pointer (some ⟨b, 0, none⟩), .int .u64 x] w fun e w' => e = .returned (.int .i64 0) ∧ At7 w0 w' b mb (drop es x) sent := by
  obtain ⟨⟨S, h1, h2⟩, h3⟩ := h
  refine (lose_any h1 x hx hp).mono ?_
  rintro e w' ⟨rfl, hn, ho⟩
  exact ⟨rfl, At7.outs h1 h2 h3 hn ho⟩
theorem at_loseNo (h : At7 w0 w b mb es sent) (x : Int) (hx : 0 ≤ x ∧ x ≤ 18446744073709551615) (hp : pick es x = none) :
    Calls Try.prog 14 #[.pointer (some ⟨b, 0, none⟩), .int .u64 x] w fun e w' => e = .returned (.int .i64 6) ∧ At7 w0 w' b mb es sent := by
  obtain ⟨⟨S, h1, h2⟩, h3⟩ := id h
  refine (loseNo_any h1 x hx hp).mono ?_
  rintro e w' ⟨rfl, hb⟩
  exact ⟨rfl, h.go hb⟩
theorem at_deliver (h : At7 w0 w b mb es sent) (x : Int) (hx : 0 ≤ x ∧ x ≤ 18446744073709551615) {p : Le × Pl} (hp : pick es x = some p) :
    Calls Try.prog 11 #[.pointer (some ⟨b, 0, none⟩), .int .u64 x] w fun e w' => ∃ k : Pl, e = .returned (.tuple #[val p.1 k, .int .i64 0]) ∧ At7 w0 w' b mb (drop es x) sent ∧ Bd w' (fun i => w.heap.size ≤ i) p.1.body k := by
  obtain ⟨⟨S, h1, h2⟩, h3⟩ := h
  refine (deliver_any h1 x hx hp).mono ?_
  rintro e w' ⟨k, rfl, hn, ho, hbd⟩
  exact ⟨k, rfl, At7.outs h1 h2 h3 hn ho, hbd⟩
theorem at_deliverNo (h : At7 w0 w b mb es sent) (x : Int) (hx : 0 ≤ x ∧ x ≤ 18446744073709551615) (hp : pick es x = none) :
    Calls Try.prog 11 #[.pointer (some ⟨b, 0, none⟩), .int .u64 x] w fun e w' => e = .returned (.tuple #[zeroL, .int .i64 6]) ∧ At7 w0 w' b mb es sent := by
  obtain ⟨⟨S, h1, h2⟩, h3⟩ := id h
  refine (deliverNo_any h1 x hx hp).mono ?_
  rintro e w' ⟨rfl, hb⟩
  exact ⟨rfl, h.go hb⟩
theorem at_clear (h : At7 w0 w b mb es sent) (node : Int) :
    Calls Try.prog 23 #[.pointer (some ⟨b, 0, none⟩), .int .i64 node] w fun e w' => e = .returned (.tuple #[]) ∧ At7 w0 w' b mb (awayN es node) sent := by
  obtain ⟨⟨S, h1, h2⟩, h3⟩ := h
  refine (clear_any h1 node).mono ?_
  rintro e w' ⟨rfl, hn, ho⟩
  exact ⟨rfl, At7.outs h1 h2 h3 hn ho⟩
theorem at_flight (h : At7 w0 w b mb es sent) :
    Calls Try.prog 28 #[.pointer (some ⟨b, 0, none⟩)] w fun e w' => ∃ A c n ps, e = .returned (.slice A n c) ∧ n = es.length ∧ ps.map (·.1) = es.map (·.1) ∧ Rds w' w'.heap.size A (cLs ps) ∧ (∀ p ∈ ps, Bd w' (fun i => w.heap.size ≤ i) p.1.body p.2) ∧ At7 w0 w' b mb es sent ∧ Below w.heap.size w w' := by
  obtain ⟨⟨S, h1, h2⟩, h3⟩ := id h
  refine (flight_any h1).mono ?_
  rintro e w' ⟨v, ps, rfl, hps, hrow, hbd, hb⟩
  obtain ⟨A, c, rfl, hr⟩ := row_slice hrow
  exact ⟨A, c, es.length, ps, rfl, rfl, hps, hr, hbd, h.go hb, hb⟩
theorem at_to (h : At7 w0 w b mb es sent) (node : Int) :
    Calls Try.prog 13 #[.pointer (some ⟨b, 0, none⟩), .int .i64 node] w fun e w' => ∃ A c n, e = .returned (.slice A n c) ∧ n = (nums (toN es node)).length ∧ Rds w' w'.heap.size A (cU (nums (toN es node))) ∧ At7 w0 w' b mb es sent ∧ Below w.heap.size w w' := by
  obtain ⟨⟨S, h1, h2⟩, h3⟩ := id h
  refine (to_any h1 node).mono ?_
  rintro e w' ⟨v, m, rfl, rfl, hrow, hb⟩
  obtain ⟨A, c, rfl, hr⟩ := row_slice hrow
  exact ⟨A, c, _, rfl, by simp [nums], hr, h.go hb, hb⟩
theorem At7.ok (h : At7 w0 w b mb es sent) : Okf sent (es.map (·.1)) := by
  obtain ⟨⟨S, h1, h2⟩, h3⟩ := h
  exact h1.ok
end

set_option maxHeartbeats 4000000 in
set_option maxRecDepth 100000 in
theorem lives_any (w : World) : Calls Try.prog 7 #[] w fun e w' => e = .returned (.bool true) ∧ Below w.heap.size w w' := by
  go_enter Try.func7, Try.ntmps7
  go_wp2_with fail
  refine (at_new (w0 := w) (Below.refl _ _)).mono ?_
  rintro e w1 ⟨b, mb, rfl, h1, -, -⟩
  have H1 := Lib.hid (h1.go ((Below.refl _ _).alloc (Nat.le_refl _) (.cells #[.int .u8 97] 5 (1, 2))))
  have R1 := Lib.hid (Rds.madeF5 w1 5 [97] #[.int .u8 97] (1, 2) rfl)
  have cv := conv_same5 w1 #[.int .u8 97] 1 1
  clear h1
  go_wp2_with fail
  have hs := at_send H1.out 0 1 (some ⟨w1.heap.size, 0, none⟩) [97] 1 1 rfl (by decide) (by simpa using R1.out) (by omega) (by decide)
  refine hs.mono ?_
  rintro e w2 ⟨rfl, k1, h2⟩
  have H2 := Lib.hid (h2.go ((Below.refl _ _).alloc (Nat.le_refl _) (.cells #[.int .u8 98] 5 (1, 2))))
  have R2 := Lib.hid (Rds.madeF5 w2 5 [98] #[.int .u8 98] (1, 2) rfl)
  have cv := conv_same5 w2 #[.int .u8 98] 1 1
  clear h2 hs
  go_wp2_with fail
  have hs := at_send H2.out 1 0 (some ⟨w2.heap.size, 0, none⟩) [98] 1 1 rfl (by decide) (by simpa using R2.out) (by omega) (by simp)
  refine hs.mono ?_
  rintro e w3 ⟨rfl, k2, h3⟩
  have H3 := Lib.hid h3
  clear h3 hs
  go_wp2_with fail
  have hs := at_double H3.out 1 (by omega) (p := (⟨1, 1, 0, 1, [97]⟩, k1)) (by rfl) (by omega) (by simp)
  refine hs.mono ?_
  rintro e w4 ⟨rfl, h4⟩
  have H4 := Lib.hid h4
  clear h4 hs
  go_wp2_with fail
  refine (at_flight H4.out).mono ?_
  rintro e w5 ⟨A, c, n, ps, rfl, hn, hps, hr, -, h5, -⟩
  obtain rfl : n = 3 := hn
  have hlen : ps.length = 3 := by have := congrArg List.length hps; simpa using this
  have hp2 : ps[2].1 = ⟨3, 1, 0, 1, [97]⟩ := by
    have h := congrArg (fun l => l[2]?) hps
    simpa [hlen] using h
  obtain ⟨ad, rfl, hlt, hc0, hc1, -, -, -⟩ := at5 hr (k := 2) (by omega)
  rw [hp2] at hc0 hc1
  have e10 : ad.add (2 * 5) = ⟨ad.block, ad.off + 10, none⟩ := addr_off (by decide)
  rw [e10] at hc0 hc1
  have HB := Lib.hid h5.below
  clear h5 hps hr hp2 hlen e10
  go_wp2
  go_ret
  exact ⟨rfl, HB.out⟩
end Go.Proofs.Ytkoalpbognpphaa
