/- The statement on reading back: for all values and all bytes behind them, what is put down is read back, and nothing shorter is read. No condition. -/
import Derived.Test.YtihndehmagfidaaLives
import Derived.Test.YtihndehmagfidaaKit
import Derived.Test.YtihndehmagfidaaApp
import Derived.Test.YtihndehmagfidaaEnd
namespace Go.Proofs.Ytihndehmagfidaa
open Go.RowKit Go.Lib
set_option linter.unusedVariables false

set_option maxRecDepth 100000 in
set_option maxHeartbeats 3200000 in
theorem back_long (A : Option Addr) (zs : List Int) (c : Nat) (x y : Int) (s : ByteArray) (w : World) (hx0 : 0 ≤ x) (hx1 : x ≤ 18446744073709551615) (hy : -9223372036854775808 ≤ y ∧ y ≤ 9223372036854775807) (hs : 65536 < s.size) (hs1 : s.size ≤ 140737488351232) :
    Calls Try.prog 7 #[.int .u64 x, .int .i64 y, .string s, .slice A zs.length c] w fun e w' => e = .returned (.bool true) ∧ Below w.heap.size w w' := by
  have hB := Nat.le_refl w.heap.size
  have hle1 := enc_length x
  have hle2 := enc_length (zag y)
  have hs2 : decide ((65536 : Int) < (s.size : Int)) = true := decide_eq_true (by omega)
  go_enter Try.func7, Try.ntmps7
  go_wp2_with fail
  refine (lives_any _).mono ?_
  rintro e w1 ⟨rfl, hb1⟩
  go_wp2_with fail
  refine (appUint_any none [] 0 x w1 hx0 hx1 (by decide) (by decide) (fun _ => ⟨rfl, rfl⟩) Rds.nil_).mono ?_
  rintro e w2 ⟨v2, rfl, hown2, hb2'⟩
  obtain ⟨A2, c2, rfl, hr2, hc2, _, hn2⟩ := own_open hown2
  have hb2 := belowGo hb1 hB hb2'
  clear hb1 hb2' hown2
  go_wp2_with fail
  refine (appInt_any A2 (enc x) c2 y w2 hy (by omega) hc2 hn2 hr2).mono ?_
  rintro e w3 ⟨v3, rfl, hown3, hb3'⟩
  obtain ⟨A3, c3, rfl, hr3, hc3, _, hn3⟩ := own_open hown3
  have hb3 := belowGo hb2 hB hb3'
  clear hb2 hb3' hown3 hr2
  go_wp2_with fail
  rw [← List.length_append]
  refine (appBool_any A3 (enc x ++ enc (zag y)) c3 (x % 2 == 0) w3 (by rw [List.length_append]; omega) hc3 hn3 hr3).mono ?_
  rintro e w4 ⟨v4, rfl, hown4, hb4'⟩
  obtain ⟨A4, c4, rfl, hr4, hc4, _, hn4⟩ := own_open hown4
  have hb4 := belowGo hb3 hB hb4'
  clear hb3 hb4' hown4 hr3
  go_wp2_with fail
  refine (appText_long A4 _ _ s w4 hs (by omega)).mono ?_
  rintro e w5 ⟨rfl, rfl⟩
  go_wp2
  go_ret
  exact ⟨rfl, hb4⟩

theorem textOf_enc (s : ByteArray) (hs : s.size ≤ 65536) (more : List Int) : textOf ((enc s.size ++ nums s) ++ more) = (nums s, (enc s.size).length + s.size, 0) := by
  unfold textOf
  rw [List.append_assoc, num_enc (by omega) (by omega) (by omega)]
  simp only [Int.toNat_natCast]
  rw [if_pos trivial, List.drop_left, if_neg (by rw [List.length_append, nums_length]; omega)]
  rw [← nums_length, List.take_left]

set_option maxRecDepth 100000 in
set_option maxHeartbeats 6400000 in
theorem back_walk (A : Option Addr) (zs : List Int) (c : Nat) (x y : Int) (s : ByteArray) (w : World) (hx0 : 0 ≤ x) (hx1 : x ≤ 18446744073709551615) (hy : -9223372036854775808 ≤ y ∧ y ≤ 9223372036854775807) (hs : s.size ≤ 65536)
    (hl : zs.length ≤ 140737488351232) (hz : Byt zs) (hc : zs.length ≤ c) (hA : A = none → zs.length = 0 ∧ c = 0) (hr : Rds w w.heap.size A (c8 zs)) :
    Calls Try.prog 7 #[.int .u64 x, .int .i64 y, .string s, .slice A zs.length c] w fun e w' => e = .returned (.bool true) ∧ Below w.heap.size w w' := by
  obtain ⟨i0, hi, hz0, hz1, hz2⟩ := info_parts info8
  have HA := Lib.hid hA
  clear hA
  have hB := Nat.le_refl w.heap.size
  have hle1 := enc_length x
  have hle2 := enc_length (zag y)
  have hle3 := enc_length (s.size : Int)
  have hzr := zag_range hy
  go_enter Try.func7, Try.ntmps7
  go_wp2_with fail
  refine (lives_any _).mono ?_
  rintro e w1 ⟨rfl, hb1⟩
  have hra1 := hr.go hb1
  go_wp2_with fail
  refine (appUint_any none [] 0 x w1 hx0 hx1 (by decide) (by decide) (fun _ => ⟨rfl, rfl⟩) Rds.nil_).mono ?_
  rintro e w2 ⟨v2, rfl, hown2, hb2'⟩
  obtain ⟨A2, c2, rfl, hr2, hc2, _, hn2⟩ := own_open hown2
  have hra2 := hra1.go hb2'
  have hb2 := belowGo hb1 hB hb2'
  clear hb1 hb2' hown2 hra1
  go_wp2_with fail
  refine (appInt_any A2 (enc x) c2 y w2 hy (by omega) hc2 hn2 hr2).mono ?_
  rintro e w3 ⟨v3, rfl, hown3, hb3'⟩
  obtain ⟨A3, c3, rfl, hr3, hc3, _, hn3⟩ := own_open hown3
  have hra3 := hra2.go hb3'
  have hb3 := belowGo hb2 hB hb3'
  clear hb2 hb3' hown3 hr2 hra2
  go_wp2_with fail
  rw [← List.length_append]
  refine (appBool_any A3 (enc x ++ enc (zag y)) c3 (x % 2 == 0) w3 (by rw [List.length_append]; omega) hc3 hn3 hr3).mono ?_
  rintro e w4 ⟨v4, rfl, hown4, hb4'⟩
  obtain ⟨A4, c4, rfl, hr4, hc4, _, hn4⟩ := own_open hown4
  have hra4 := hra3.go hb4'
  have hb4 := belowGo hb3 hB hb4'
  clear hb3 hb4' hown4 hr3 hra3
  have hlen4 : (enc x ++ enc (zag y) ++ [bit (x % 2 == 0)]).length ≤ 21 := by simp only [List.length_append, List.length_cons, List.length_nil]; omega
  generalize hL : enc x ++ enc (zag y) ++ [bit (x % 2 == 0)] = L4 at *
  have HL := Lib.hid hL
  clear hL
  go_wp2_with fail
  refine (appText_any A4 L4 c4 s w4 hs (by omega) hc4 hn4 hr4).mono ?_
  rintro e w5 ⟨v5, rfl, hown5, hb5'⟩
  obtain ⟨A5, c5, rfl, hr5, hc5, _, hn5⟩ := own_open hown5
  have hra5 := hra4.go hb5'
  have hb5 := belowGo hb4 hB hb5'
  clear hb4 hb5' hown5 hr4 hra4
  have hlen5 : (L4 ++ (enc s.size ++ nums s)).length = L4.length + ((enc s.size).length + s.size) := by simp only [List.length_append, nums_length]
  generalize hL5 : L4 ++ (enc s.size ++ nums s) = L5 at *
  have HL5 := Lib.hid hL5
  have HLen5 := Lib.hid hlen5
  have hlen5' : L5.length ≤ 65567 := by omega
  clear hL5 hlen5
  -- two appends
  have hown6 := World.ownsRow_made (base := w5.heap.size) (e := 5) (size := 1) w5 #[] 0 (Nat.le_refl _) (by unfold maxLen; omega) rfl
  have hr6 := hr5.alloc (Nat.le_refl _) (.cells #[] 5)
  have hra6 := hra5.alloc (Nat.le_refl _) (.cells #[] 5)
  have HN5 := Lib.hid hn5
  clear hn5
  go_wp2_with (at_builtin; go_loud (refine app_many (w5.alloc (.cells #[] 5)) rfl (.tmp 44) (.tmp 45) 23 rfl w5.heap.size 5 i0 (.int .u8 0) 1 Try.underlying23 hi hz0 hz1 hz2 rfl _ 0 [] rfl hown6 A5 L5.length c5 w5.heap.size (c8 L5) rfl (c8_length L5).symm hr6 (fun h => (HN5.out h).2) (c8_one L5) (by unfold maxLen; omega) (by omega) (by simp) ?_))
  intro v7 w7 hown7 hb7'
  have hra7 := hra6.below hb7'
  have hb7'' : Below w5.heap.size w5 w7 := ((Below.refl w5.heap.size w5).alloc (Nat.le_refl _) (.cells #[] 5)).trans hb7'
  have hb7 := belowGo hb5 hB hb7''
  clear hown6 hr6 hra6 hb7'
  go_wp2_with (at_builtin; go_loud (refine app_big w7 rfl (.tmp 46) (.tmp 47) 23 rfl w5.heap.size 5 i0 (.int .u8 0) Try.underlying23 hi hz0 hz1 hz2 rfl v7 _ _ rfl hown7 A zs.length c w5.heap.size (c8 zs) rfl (c8_length zs).symm hra7 (fun h => (HA.out h).2) (c8_one zs) (by omega) (by omega) hb7''.size ?_))
  intro v8 w8 hown8 hb8'
  rw [← c8_append, ← List.length_append] at hown8
  obtain ⟨A8, c8', rfl, hr8, hc8, _, hn8⟩ := own_open hown8
  have hb8 := hb7.trans (hb8'.mono hb5.size)
  clear hown7 hown8 hb5 hr5 hra5 hra7 hb7 hb7'' hb8'
  have hbt : Byt (L5 ++ zs) := by
    refine Byt.append ?_ hz
    rw [← HL5.out, ← HL.out]
    refine Byt.append (Byt.append (Byt.append (enc_range hx0 hx1) (enc_range hzr.1 hzr.2)) ?_) (Byt.append (enc_range (by omega) (by omega)) (nums_byt s))
    intro z hz'
    simp only [List.mem_singleton] at hz'
    subst hz'
    unfold bit
    split <;> omega
  have hall : L5 ++ zs = enc x ++ (enc (zag y) ++ (bit (x % 2 == 0) :: ((enc s.size ++ nums s) ++ zs))) := by
    rw [← HL5.out, ← HL.out]; simp
  have hlenall : (L5 ++ zs).length = L5.length + zs.length := List.length_append
  have hl4 : L4.length = (enc x).length + (enc (zag y)).length + 1 := by rw [← HL.out]; simp; omega
  have hl5 := HLen5.out
  generalize L5 ++ zs = all at *
  have D0 : Hid (num 18446744073709551615 (all.drop 0) = (x, ((enc x).length : Int), 0)) := by
    show _ = _
    rw [hall]; exact num_enc hx0 hx1 (by omega) _
  have D1 : Hid (num 18446744073709551615 (all.drop (0 + (enc x).length)) = (zag y, ((enc (zag y)).length : Int), 0)) := by
    show _ = _
    rw [hall, Nat.zero_add, List.drop_left]; exact num_enc hzr.1 hzr.2 (by omega) _
  have D2 : Hid (truth (all.drop (0 + (enc x).length + (enc (zag y)).length)) = (x % 2 == 0, 1, 0)) := by
    show _ = _
    rw [hall, Nat.zero_add, ← List.append_assoc, ← List.length_append, List.drop_left]
    unfold truth bit
    cases h : (x % 2 == 0) <;> rfl
  have D3 : Hid (textOf (all.drop (0 + (enc x).length + (enc (zag y)).length + 1)) = (nums s, (enc s.size).length + s.size, 0)) := by
    show _ = _
    have e : all = (enc x ++ enc (zag y) ++ [bit (x % 2 == 0)]) ++ ((enc s.size ++ nums s) ++ zs) := by rw [hall]; simp
    have e2 : 0 + (enc x).length + (enc (zag y)).length + 1 = (enc x ++ enc (zag y) ++ [bit (x % 2 == 0)]).length := by simp; omega
    rw [e, e2, List.drop_left]
    exact textOf_enc s hs zs
  have HX : Hid (enc x = enc x) := rfl
  clear hall
  have hp1 : 0 + (enc x).length ≤ all.length := by omega
  have hp2 : 0 + (enc x).length + (enc (zag y)).length ≤ all.length := by omega
  have hp3 : 0 + (enc x).length + (enc (zag y)).length + 1 ≤ all.length := by omega
  have hp4 : 0 + (enc x).length + (enc (zag y)).length + 1 + ((enc s.size).length + s.size) ≤ all.length := by omega
  have hp5 : 0 + (enc x).length + (enc (zag y)).length + 1 + ((enc s.size).length + s.size) = L5.length := by omega
  have HP5 := Lib.hid hp5
  have HLA := Lib.hid hlenall
  have hlx : all.length ≤ 140737488486400 := by omega
  clear hp5 hl4 hl5 hlenall
  go_wp2_with fail
  refine (new_any A8 all c8' w8 hlx hc8 hn8 hbt hr8).mono ?_
  rintro e w9 ⟨g, A9, c9, rfl, hg8, hg9, hrd9, hb9'⟩
  have hb9 := belowGo hb8 hB hb9'
  have hgw : w.heap.size ≤ g := Nat.le_trans hb8.size hg8
  clear hb8 hb9' hr8
  go_wp2_with fail
  refine (uint_go (k := 0) hrd9 (Nat.zero_le _) D0.out hp1).mono ?_
  rintro e w10 ⟨rfl, hrd10, hg10⟩
  go_wp2_with fail
  refine (int_go hrd10 hp1 D1.out hp2 hzr.1 hzr.2).mono ?_
  rintro e w11 ⟨rfl, hrd11, hg11⟩
  rw [zig_zag]
  have hg11 := Only.trans hg10 hg11
  clear hrd10 hrd9 hg10
  have hb2 := bool_go hrd11 hp2
  rw [D2.out] at hb2
  have HB := Lib.hid hb2
  clear hb2
  go_wp2_with fail
  refine HB.out.mono ?_
  rintro e w12 ⟨rfl, hrd12, hg12⟩
  have hg12 := Only.trans hg11 hg12
  clear hrd11 hg11
  have ht := text_go hrd12 hp3
  rw [D3.out, nums_back] at ht
  have HT := Lib.hid ht
  clear ht
  have hsne : (s.toList != s.toList) = false := by simp
  go_wp2_with fail
  refine HT.out.mono ?_
  rintro e w13 ⟨rfl, hrd13, hg13⟩
  have hg13 := Only.trans hg12 hg13
  rw [HP5.out] at hrd13
  clear hrd12 hg12
  go_wp2_with fail
  refine (err_made hrd13).mono ?_
  rintro e w14 ⟨rfl, rfl⟩
  go_wp2_with fail
  refine (at_made hrd13).mono ?_
  rintro e w15 ⟨rfl, rfl⟩
  have hb13 := hb9.grown hg13 hb9.size (fun k hk => by cases hk; exact hgw)
  clear hb9 hg13
  go_wp2_with fail
  refine (appUint_any none [] 0 x w15 hx0 hx1 (by decide) (by decide) (fun _ => ⟨rfl, rfl⟩) Rds.nil_).mono ?_
  rintro e w16 ⟨v16, rfl, hown16, hb16'⟩
  obtain ⟨A16, c16, rfl, hr16, hc16, hm16, hn16⟩ := own_open hown16
  have hrd16 := hrd13.below hb16' hrd13.1.lt
  have hb16 := belowGo hb13 hB hb16'
  have hb16c : (enc x).length ≤ c16 := hc16
  have hcm : (c16 : Int) ≤ 9223372036854775807 := by unfold maxLen at hm16; omega
  clear hb13 hrd13 hown16 hb16' hc16 hn16
  have HR16 : Hid (Rds w16 w16.heap.size A16 (c8 (enc x))) := Lib.hid hr16
  clear hr16
  have hex : Byt (enc x) := enc_range hx0 hx1
  go_wp2
  go_loop [14] (fun i => ∃ k : Nat, k ≤ (enc x).length ∧ i = .int .i64 k) (fun i => (enc x).length - (intOf i).toNat)
  case atStart => exact ⟨0, Nat.zero_le _, rfl⟩
  case round =>
    obtain ⟨k, hk, rfl⟩ := hrel
    by_cases hlt : k < (enc x).length
    · have hshort := enc_short0 hx0 hlt
      have HSh := Lib.hid hshort
      clear hshort
      go_wp2_with fail
      refine (readUint_len A16 ((enc x).take k) k c16 w16.heap.size _ (by rw [List.length_take]; omega) (by omega) (hex.take k) (by rw [show c8 ((enc x).take k) = (c8 (enc x)).take k by simp [c8]]; exact HR16.out.take k) HSh.out).mono ?_
      rintro e w17 ⟨rfl, rfl⟩
      go_wp2
      go_round
      case rel => exact ⟨k + 1, by omega, by go_num⟩
      case measure => simp [intOf]; omega
    · have hd := done_go hrd16 (by have := HLA.out; omega)
      by_cases hz0 : zs.length = 0
      · rw [show left L5.length all.length = 0 from if_neg (by have := HLA.out; omega)] at hd
        have HD := Lib.hid hd
        have hz1 : ((zs.length : Int) == 0) = true := by simp [hz0]
        have HZ := Lib.hid hz0
        clear hd hz0
        go_wp2_with fail
        refine HD.out.mono ?_
        rintro e w18 ⟨rfl, hrd18, hg18⟩
        go_wp2
        go_ret
        exact ⟨rfl, hb16.grown hg18 hb16.size (fun k hk => by cases hk; exact hgw)⟩
      · rw [show left L5.length all.length = 5 from if_pos (by have := HLA.out; omega)] at hd
        have HD := Lib.hid hd
        have hz1 : ((zs.length : Int) == 0) = false := by rw [beq_eq_false_iff_ne]; omega
        clear hd
        go_wp2_with fail
        refine HD.out.mono ?_
        rintro e w18 ⟨rfl, hrd18, hg18⟩
        go_wp2
        go_ret
        exact ⟨rfl, hb16.grown hg18 hb16.size (fun k hk => by cases hk; exact hgw)⟩

theorem back_all (A : Option Addr) (zs : List Int) (c : Nat) (x y : Int) (s : ByteArray) (w : World) (hx0 : 0 ≤ x) (hx1 : x ≤ 18446744073709551615) (hy : -9223372036854775808 ≤ y ∧ y ≤ 9223372036854775807) (hs : s.size ≤ 140737488351232)
    (hl : zs.length ≤ 140737488351232) (hz : Byt zs) (hc : zs.length ≤ c) (hA : A = none → zs.length = 0 ∧ c = 0) (hr : Rds w w.heap.size A (c8 zs)) :
    Calls Try.prog 7 #[.int .u64 x, .int .i64 y, .string s, .slice A zs.length c] w fun e w' => e = .returned (.bool true) ∧ Below w.heap.size w w' := by
  by_cases h : s.size ≤ 65536
  · exact back_walk A zs c x y s w hx0 hx1 hy h hl hz hc hA hr
  · exact back_long A zs c x y s w hx0 hx1 hy (by omega) hs

open Go.ChangeShapes Go.WideShapes Go.ChangeAt
set_option maxRecDepth 100000 in
theorem back_lifted (os : Os) (started : os.Started) (H : Type) (enc : TypeId × Value → H) :
    ReturnsInHanded {} Try.checked os 7 .any (Rows.wireBackSpec.pre6 enc Try.prog Try.f7 Rows.wireBackRow.domain false) (Rows.wireBackSpec.post enc Try.prog Try.f7 false true false false) := by
  refine returnsInHanded_of_change_sized (C := Try.checked) own started (by kernel_rfl) Try.func7
    (ChangeSpec.witness6 (enc := enc) (C := Try.checked) false ⟨#[], #[.int .u64 0, .int .i64 0, .string ⟨#[]⟩, .slice none 0 0], []⟩ 8 (by kernel_rfl) (by kernel_rfl) (by kernel_rfl) (by kernel_rfl)) ?_
  intro W base args ds gs before hval0 hW _ hsz0 _
  have hsz : (DataW.weightsEach Try.prog (Try.f7.params.toList ++ Rows.wireBackSpec.plain.varTypes Try.prog) (ds ++ gs)).all (· ≤ reachBytes) = true := hsz0
  have hval : ∀ (j : Nat) t v, Try.f7.params[j]? = some t → args[j]? = some v → Value.okWide Try.prog W .any base t v := hval0
  have hW' := hW
  obtain ⟨p, q, hA0, hV, rfl, _, _⟩ := hW
  have hA : DataW.TrodAll enc Try.prog W 0 (fun _ => true) true Try.f7.params.toList args.toList ds p := hA0
  rw [Try.params7] at hA hval hsz
  obtain ⟨v0, vs0, d0, ds0, p0, q0, hargs, rfl, rfl, h0, r0⟩ := trodAll_cons hA
  obtain ⟨v1, vs1, d1, ds1, p1, q1, rfl, rfl, rfl, h1, r1⟩ := trodAll_cons r0
  obtain ⟨v2, vs2, d2, ds2, p2, q2, rfl, rfl, rfl, h2, r2⟩ := trodAll_cons r1
  obtain ⟨v3, vs3, d3, ds3, p3, q3, rfl, rfl, rfl, h3, r3⟩ := trodAll_cons r2
  obtain ⟨rfl, rfl, rfl⟩ := trodAll_nil r3
  obtain rfl : args = #[v0, v1, v2, v3] := by cases args; simp_all
  obtain ⟨a0, rfl, rfl, rfl, w0⟩ := open_int Try.underlying26 (hval 0 26 v0 rfl rfl) h0
  have b0 := bounds_u64 w0
  obtain ⟨a1, rfl, rfl, rfl, w1⟩ := open_int Try.underlying2 (hval 1 2 v1 rfl rfl) h1
  have b1 := bounds_i64 w1
  obtain ⟨s2, rfl, rfl, rfl, ws2⟩ := Go.ChangeMaps.open_string Try.underlying9 (hval 2 9 v2 rfl rfl) h2
  have hs2 : s2.size ≤ 140737488351232 := text_reach hsz (j := 2) (t := 9) rfl rfl
  obtain ⟨A3, zs3, c3, hb3⟩ := open_bytes Try.underlying23 Try.underlying5 cells8 (hval 3 23 v3 rfl rfl) h3
  have hl3 := hb3.reach hsz (j := 3) (t := 23) (e := 5) rfl rfl Try.underlying23 bytes8
  obtain rfl := hb3.val
  exact law_close laid rfl hW' (by kernel_rfl) rfl Try.underlying4 rfl (back_all A3 zs3 c3 a0 a1 s2 W b0.1 b0.2 b1 hs2 hl3 hb3.byt hb3.cap hb3.nil_ hb3.rds)

theorem wireBack_holds : Rows.WireBackSaid :=
  OpenClaim.holds_of_wide 7 Try.f7 rfl rfl rfl rfl rfl rfl rfl ⟨rfl, rfl, rfl, rfl, rfl⟩ rfl rfl rfl rfl rfl (by kernel_rfl) Try.func7 (by kernel_rfl)
    (of_decide_eq_true (by kernel_rfl)) (by unfold Func.isWrapper; first | (rw [if_pos (by decide +kernel)]; kernel_rfl) | (rw [if_neg (by decide +kernel)]; exact ⟨rfl, rfl⟩))
    (fun os started H enc _ => back_lifted os started H enc)

#print axioms wireBack_holds
end Go.Proofs.Ytihndehmagfidaa
