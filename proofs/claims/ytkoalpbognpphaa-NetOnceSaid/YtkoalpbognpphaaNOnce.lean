/- The statement on what is delivered. -/
import Derived.Test.YtkoalpbognpphaaNOnM
import Derived.Test.YtkoalpbognpphaaNOpen
import Derived.Test.YtkoalpbognpphaaCPick
import Derived.Test.YtkoalpbognpphaaHeld
import Derived.Maps.AppendAt
namespace Go.Proofs.Ytkoalpbognpphaa
open Go.RowKit Go.Maps
set_option linter.unusedVariables false

/-- one act's cells -/
theorem actAt {w : World} {lim : Nat} {A : Option Addr} {az : List Ac7} (h : Rds w lim A (c7A az)) {k : Nat} (hk : k < az.length) :
    ∃ ad, A = some ad ∧ ad.block < lim ∧ w.cell? (ad.add (k * 5)) = some (.int .i64 az[k].kd) ∧ w.cell? ⟨(ad.add (k * 5)).block, (ad.add (k * 5)).off + 1, none⟩ = some (.int .i64 az[k].frm) ∧ w.cell? ⟨(ad.add (k * 5)).block, (ad.add (k * 5)).off + 2, none⟩ = some (.int .i64 az[k].to_) ∧
      w.cell? ⟨(ad.add (k * 5)).block, (ad.add (k * 5)).off + 3, none⟩ = some (.slice az[k].A az[k].L az[k].c) ∧ w.cell? ⟨(ad.add (k * 5)).block, (ad.add (k * 5)).off + 4, none⟩ = some (.int .u64 az[k].n) := by
  obtain ⟨ad, rfl, hl, hc0⟩ := h.at_ ((c7A_get hk (r := 0) (by omega)).trans rfl)
  have hc : ∀ i, i < 5 → i ≠ 0 → w.cell? ⟨(ad.add (k * 5)).block, (ad.add (k * 5)).off + i, none⟩ = (ac7Cells az[k])[i]? := fun i hi h0 => by
    obtain ⟨u, hu⟩ : ∃ u, (ac7Cells az[k])[i]? = some u := ⟨_, Array.getElem?_eq_getElem (show i < (ac7Cells az[k]).size from hi)⟩
    obtain ⟨ad', e, _, hc1⟩ := h.at_ ((c7A_get hk hi).trans hu)
    obtain rfl := Option.some.inj e
    rw [← addr_off h0, add_twice, hc1, hu]
  exact ⟨ad, rfl, hl, hc0, (hc 1 (by omega) (by omega)).trans rfl, (hc 2 (by omega) (by omega)).trans rfl, (hc 3 (by omega) (by omega)).trans rfl, (hc 4 (by omega) (by omega)).trans rfl⟩

theorem step_app {P : Program} {w : World} {ops : Array Oper} {o : Oper} {a : Act} {K : Act → World → Prop} {Q : Exit → Act → World → Prop} {E : Prop} (hgd : o.guard = none) (s x : Operand) (t : TypeId)
    (ho : o.op = .call { callee := .builtin .append, args := #[s, x], argTypes := #[t, t] })
    (B : Nat) (e : TypeId) (i : TypeInfo) (z : Value) (ht : P.underlying t = some (.slice e)) (hi : P.info? e = some i) (hz : i.zero = some z)
    (hsize : i.size = 1) (hby : i.bytes = 1) (hzs : z.cells.size = 1) (v : Value) (n : Nat) (xs : List Value) (hs : a.eval s = v) (hown : w.ownsRow B e 1 v n xs)
    (A : Option Addr) (m c lim : Nat) (news : List Value) (hx : a.eval x = .slice A m c) (hm : m = news.length) (hr : Rds w lim A news) (hA : A = none → c = 0) (h1 : ∀ u ∈ news, u.oneCell' = true) (hn : n + m ≤ 1048576) (hB : B ≤ w.heap.size)
    (h : ∀ v' w', w'.ownsRow B e 1 v' (n + m) (xs ++ news) → Below B w w' → K (a.put o.dst v') w') : if Region.wanted o (yielded ops a.tmps) = true then Oper.wp P o a w K Q else E := by
  have hw : Region.wanted o (yielded ops a.tmps) = true := by simp [Region.wanted, hgd]
  rw [if_pos hw]
  subst hm
  obtain ⟨v', w', hrun, h2, h3⟩ := run_app_many (P := P) w t o.type e i z 1 ht hi hz hsize hby hzs B v n xs hown A c lim news hr hA h1 (by unfold maxLen; omega) (by omega) hB
  unfold Oper.wp
  simp [execOp, ho, resolve, invoke, builtin, hs, hx, hrun, Result.andThen]
  exact h v' w' h2 h3

theorem empty_own (w : World) (e : TypeId) : (w.alloc (.cells #[] e)).ownsRow w.heap.size e 1 (.slice (some ⟨w.heap.size, 0, none⟩) 0 0) 0 [] :=
  ⟨rfl, .inr ⟨w.heap.size, 0, #[], rfl, Nat.le_refl _, heap_alloc_new w _, Nat.le_refl _, by unfold maxLen; omega, rfl, rfl⟩⟩

/-- the box of an act -/
structure Box7 (w : World) (g : Nat) (kd frm to_ : Int) (A : Option Addr) (L c : Nat) (n : Int) : Prop where
  c0 : w.cell? ⟨g, 0, none⟩ = some (.int .i64 kd)
  c1 : w.cell? ⟨g, 1, none⟩ = some (.int .i64 frm)
  c2 : w.cell? ⟨g, 2, none⟩ = some (.int .i64 to_)
  c3 : w.cell? ⟨g, 3, none⟩ = some (.slice A L c)
  c4 : w.cell? ⟨g, 4, none⟩ = some (.int .u64 n)
theorem Box7.outs {w w' : World} {g : Nat} {kd frm to_ : Int} {A : Option Addr} {L c : Nat} {n : Int} {S : Nat → Prop} (h : Box7 w g kd frm to_ A L c n) (ho : Outs S w w') (hn : ¬ S g) (hl : g < w.heap.size) : Box7 w' g kd frm to_ A L c n := by
  have e : ∀ i, w'.cell? ⟨g, i, none⟩ = w.cell? ⟨g, i, none⟩ := fun i => ho.cell (p := ⟨g, i, none⟩) hl hn
  exact ⟨(e 0).trans h.c0, (e 1).trans h.c1, (e 2).trans h.c2, (e 3).trans h.c3, (e 4).trans h.c4⟩
theorem Box7.below {w w' : World} {g : Nat} {kd frm to_ : Int} {A : Option Addr} {L c : Nat} {n : Int} (h : Box7 w g kd frm to_ A L c n) (hb : Below w.heap.size w w') (hl : g < w.heap.size) : Box7 w' g kd frm to_ A L c n :=
  h.outs (S := fun _ => False) (Outs.of hb) (fun e => e) hl
theorem On.turn2 {w0 w w' : World} {S : Nat → Prop} {b mb : Nat} {es es' : List (Le × Pl)} {sent sent' : Nat} {v4 v5 : Value} {ss : List (Le × Pl)} {ov : List Int} (h : On w0 w S b mb es sent v4 v5 ss ov) (hn : Nt w' S b mb es' sent') (ho : Outs (fun i => i = b ∨ i = mb) w w') :
    On w0 w' S b mb es' sent' v4 v5 ss ov ∧ Turn S S w w' := by
  have ht : Turn S S w w' := Turn.of2 h.nt ho (fun k hk => .inl hk)
  exact ⟨h.turn hn ht, ht⟩

set_option maxHeartbeats 16000000 in
set_option maxRecDepth 100000 in
theorem once_walk (A : Option Addr) (az : List Ac7) (n c : Nat) (w : World) (hn : az.length = n) (hin : ∀ a ∈ az, ActIn7 w a) (hr : Rds w w.heap.size A (c7A az)) :
    Calls Try.prog 6 #[.slice A n c] w fun e w' => e = .returned (.bool true) ∧ Below w.heap.size w w' := by
  obtain ⟨i0, hi, hz0, hz1, hz2⟩ := info_parts info8
  obtain ⟨iu, hiu, hu0, hu1, hu2⟩ := info_parts info64
  obtain ⟨il, hil, hl0, hl1, hl2⟩ := info_parts infoL
  have HN := Lib.hid hn
  have HIN := Lib.hid hin
  have HR := Lib.hid hr
  clear hn hin hr
  go_enter Try.func6, Try.ntmps6
  go_wp2_with fail
  refine (lives_any w).mono ?_
  rintro e w1 ⟨rfl, hb1⟩
  by_cases hbig : 200 < n
  · have hbig' : (200 : Int) < (n : Int) := by omega
    have HB1 := Lib.hid hb1
    clear hb1
    go_wp2
    go_ret
    exact ⟨rfl, HB1.out⟩
  have hbig' : ¬ (200 : Int) < (n : Int) := by omega
  have HB1 := Lib.hid hb1
  have hsz1 := hb1.size
  clear hb1
  go_wp2_with fail
  refine (new_any w1).mono ?_
  rintro e w2 ⟨rfl, hn2, hb2⟩
  have hon : On w w2 (Two w1.heap.size (w1.heap.size + 1)) (w1.heap.size + 1) w1.heap.size [] 0 (.slice none 0 0) (.slice none 0 0) [] [] :=
    ⟨hn2, (fun i hi => by rcases hi with rfl | rfl <;> omega), World.ownsRow_nil _ _ _ _, World.ownsRow_nil _ _ _ _, (fun g hg => by cases hg), (fun g hg => by cases hg), (fun g hg => by cases hg), (fun p hp => by cases hp), HB1.out.trans (hb2.mono hsz1)⟩
  obtain ⟨b, hbq⟩ : ∃ b, b = w1.heap.size + 1 := ⟨_, rfl⟩
  obtain ⟨mb, hmb⟩ : ∃ mb, mb = w1.heap.size := ⟨_, rfl⟩
  rw [← hbq, ← hmb] at hon
  rw [← hbq]
  have HON := Lib.hid hon
  clear hn2 hb2 hon hbq hmb hsz1
  go_wp2
  go_loopw [4, 5, 6] (fun v4 v5 vi wr => ∃ (k : Nat) (S : Nat → Prop) (es : List (Le × Pl)) (sent : Nat) (ss : List (Le × Pl)) (ov : List Int), vi = .int .i64 k ∧ k ≤ n ∧ Mid7 k es sent ss ov ∧ On w wr S b mb es sent v4 v5 ss ov) (fun _ _ vi _ => n - (intOf vi).toNat)
  case atStart => exact ⟨0, _, [], 0, [], [], rfl, Nat.zero_le _, mid7_zero, HON.out⟩
  case round =>
    obtain ⟨k, S, es, sent, ss, ov, rfl, hk, hmid, hon⟩ := hrel
    by_cases hlt : k < n
    · have hke : k < az.length := by have := HN.out; omega
      have hbr := hon.below
      have hszr := hbr.size
      have hain := HIN.out _ (List.getElem_mem hke)
      obtain ⟨ad, rfl, _, d0, d1, d2, d3, d4⟩ := actAt (HR.out.below hbr) hke
      generalize az[k] = a at hain d0 d1 d2 d3 d4
      obtain ⟨kd, frm, to_, aA, L, ac, body, num⟩ := a
      have hbl := hain.bl
      simp only at d0 d1 d2 d3 d4 hbl
      subst hbl
      have hbn : Below wr.heap.size wr (wr.alloc (.cells #[.int .i64 kd, .int .i64 frm, .int .i64 to_, .slice aA body.length ac, .int .u64 num] 45)) := (Below.refl _ _).alloc (Nat.le_refl _) _
      have hbox : Box7 (wr.alloc (.cells #[.int .i64 kd, .int .i64 frm, .int .i64 to_, .slice aA body.length ac, .int .u64 num] 45)) wr.heap.size kd frm to_ aA body.length ac num := by
        exact ⟨by simp, by simp, by simp, by simp, by simp⟩
      have hlb : wr.heap.size < (wr.alloc (.cells #[.int .i64 kd, .int .i64 frm, .int .i64 to_, .slice aA body.length ac, .int .u64 num] 45)).heap.size := by simp
      have HNS : Hid (¬ S wr.heap.size) := Lib.hid (fun e => Nat.lt_irrefl _ (hon.nt.lt _ e))
      have HO := Lib.hid (hon.go hbn)
      have HM := Lib.hid hmid
      have HAI := Lib.hid hain
      have HBX := Lib.hid hbox
      have HLB := Lib.hid hlb
      clear hon hmid hain hbox hbn hlb
      go_upto_region 12 with fail
      generalize (wr.alloc (.cells #[.int .i64 kd, .int .i64 frm, .int .i64 to_, .slice aA body.length ac, .int .u64 num] 45)) = W at HO HBX HLB ⊢
      generalize wr.heap.size = g at HBX HNS HLB ⊢
      clear d0 d1 d2 d3 d4 hbr hszr
      obtain ⟨c0, c1, c2, c3, c4⟩ := HBX.out
      have hnb := HAI.out.nb
      have HNB := Lib.hid hnb
      clear hnb
      go_wp2_with fail
      refine (pick_any kd 5 W (by decide) (by decide) HAI.out.kd).mono ?_
      rintro e w3 ⟨⟨r, rfl, hr5⟩, hw3⟩
      rw [hw3]
      clear hw3 w3
      have hr5' : r = 0 ∨ r = 1 ∨ r = 2 ∨ r = 3 ∨ r = 4 := by omega
      clear hr5
      rcases hr5' with rfl | rfl | rfl | rfl | rfl
      · by_cases hlong : 20000 < body.length
        · have hlong' : (20000 : Int) < (body.length : Int) := by omega
          have HBW := Lib.hid HO.out.below
          go_wp2
          go_ret
          exact ⟨rfl, HBW.out⟩
        have hlong' : ¬ (20000 : Int) < (body.length : Int) := by omega
        have hS3 : ∀ w', Box7 w' g kd frm to_ aA body.length ac num → w'.cell? ⟨g, 1, none⟩ = some (.int .i64 frm) ∧ w'.cell? ⟨g, 2, none⟩ = some (.int .i64 to_) ∧ w'.cell? ⟨g, 3, none⟩ = some (.slice aA body.length ac) := fun w' h => ⟨h.c1, h.c2, h.c3⟩
        have hbA : Below W.heap.size W (W.drew.alloc (.cells #[] 5)) := (Below.refl _ _).drew.alloc (Nat.le_refl _) _
        have hown0 : (W.drew.alloc (.cells #[] 5)).ownsRow W.heap.size 5 1 (.slice (some ⟨W.heap.size, 0, none⟩) 0 0) 0 [] := empty_own W.drew _
        have hrd0 := (HAI.out.rd.below HO.out.below).below (hbA.mono HO.out.below.size)
        simp only at hrd0
        have hA0 : aA = none → ac = 0 := HAI.out.A0
        have HS3 := Lib.hid hS3
        clear hS3
        go_wp2_with fail
        refine wp_region_G 14 (fun w' => w'.cell? ⟨g, 1, none⟩ = some (.int .i64 frm) ∧ w'.cell? ⟨g, 2, none⟩ = some (.int .i64 to_) ∧ w'.cell? ⟨g, 3, none⟩ = some (.slice aA body.length ac)) (by kernel_rfl) (by kernel_rfl) (HS3.out _ (HBX.out.below (Below.refl _ _).drew HLB.out)) (fun hSS hst => ?_)
        refine wpAnyG_take (i := 0) (v := ?_) rfl (by kernel_rfl) hst (by kernel_rfl) (by kernel_rfl) (fun _ _ _ h => h) hSS (Or.inl ⟨by rfl, ?_⟩) (fun hst2 => ?_)
        rotate_left
        · (intro w hSw; (try dsimp only at hSw); go_simp; try (with_reducible rfl))
        clear hst; have hst := hst2; clear hst2
        try simp only [Act.put, List.setIfInBounds_toArray, List.set_cons_zero, List.set_cons_succ]
        refine wpAnyG_take (i := 1) (v := ?_) rfl (by kernel_rfl) hst (by kernel_rfl) (by kernel_rfl) (fun _ _ _ h => h) hSS (Or.inl ⟨by rfl, ?_⟩) (fun hst2 => ?_)
        rotate_left
        · (intro w hSw; (try dsimp only at hSw); go_simp; try (with_reducible rfl))
        clear hst; have hst := hst2; clear hst2
        try simp only [Act.put, List.setIfInBounds_toArray, List.set_cons_zero, List.set_cons_succ]
        refine wpAnyG_take (i := 2) (v := ?_) rfl (by kernel_rfl) hst (by kernel_rfl) (by kernel_rfl) (fun _ _ _ h => h) hSS (Or.inl ⟨by rfl, ?_⟩) (fun hst2 => ?_)
        rotate_left
        · (intro w hSw; (try dsimp only at hSw); go_simp; try (with_reducible rfl))
        clear hst; have hst := hst2; clear hst2
        try simp only [Act.put, List.setIfInBounds_toArray, List.set_cons_zero, List.set_cons_succ]
        refine wpAnyG_take (i := 3) (v := ?_) rfl (by kernel_rfl) hst (by kernel_rfl) (by kernel_rfl) (fun _ _ _ h => h) hSS (Or.inl ⟨by rfl, ?_⟩) (fun hst2 => ?_)
        rotate_left
        · (intro w hSw; (try dsimp only at hSw); go_simp; try (with_reducible rfl))
        clear hst; have hst := hst2; clear hst2
        try simp only [Act.put, List.setIfInBounds_toArray, List.set_cons_zero, List.set_cons_succ]
        refine wpAnyG_take (i := 4) (v := ?_) rfl (by kernel_rfl) hst (by kernel_rfl) (by kernel_rfl) (fun _ _ _ h => h) hSS (Or.inl ⟨by rfl, ?_⟩) (fun hst2 => ?_)
        rotate_left
        · (intro w hSw; (try dsimp only at hSw); go_simp; try (with_reducible rfl))
        clear hst; have hst := hst2; clear hst2
        try simp only [Act.put, List.setIfInBounds_toArray, List.set_cons_zero, List.set_cons_succ]
        refine wpAnyG_take (i := 6) (v := ?_) rfl (by kernel_rfl) hst (by kernel_rfl) (by kernel_rfl) (fun _ _ _ h => h) hSS (Or.inl ⟨by rfl, ?_⟩) (fun hst2 => ?_)
        rotate_left
        · (intro w hSw; (try dsimp only at hSw); go_simp; try (with_reducible rfl))
        clear hst; have hst := hst2; clear hst2
        try simp only [Act.put, List.setIfInBounds_toArray, List.set_cons_zero, List.set_cons_succ]
        refine wpAnyG_take (i := 7) (v := ?_) rfl (by kernel_rfl) hst (by kernel_rfl) (by kernel_rfl) (fun _ _ _ h => h) hSS (Or.inl ⟨by rfl, ?_⟩) (fun hst2 => ?_)
        rotate_left
        · (intro w hSw; (try dsimp only at hSw); go_simp; try (with_reducible rfl))
        clear hst; have hst := hst2; clear hst2
        try simp only [Act.put, List.setIfInBounds_toArray, List.set_cons_zero, List.set_cons_succ]
        refine wpAnyG_one (i := 5) (by kernel_rfl) rfl (by kernel_rfl) hst (fun K hK => ?_)
        go_simp
        refine hK.out _ _ (HS3.out _ (HBX.out.below hbA HLB.out)) (fun hSS2 hst2 => ?_)
        clear hst hK K hSS
        have hst := hst2
        have hSS := hSS2
        clear hst2 hSS2
        try simp only [Act.put, List.setIfInBounds_toArray, List.set_cons_zero, List.set_cons_succ]
        refine wpAnyG_one (i := 8) (by kernel_rfl) rfl (by kernel_rfl) hst (fun K hK => ?_)
        refine step_app rfl (.tmp 47) (.tmp 49) 29 rfl W.heap.size 5 i0 (.int .u8 0) Try.underlying29 hi hz0 hz1 hz2 rfl _ 0 [] rfl hown0 aA body.length ac w.heap.size (c8 body) rfl (by rw [c8_length]) hrd0 hA0 (c8_one _) (by omega) (by simp) ?_
        intro v8 w8 hown8 hb8
        have hb8' : Below W.heap.size W w8 := hbA.trans hb8
        have hbx8 := HBX.out.below hb8' HLB.out
        refine hK.out _ _ (HS3.out _ hbx8) (fun hSS2 hst2 => ?_)
        rw [Nat.zero_add, List.nil_append] at hown8
        obtain ⟨A8, cap8, rfl, hr8⟩ := row_slice hown8
        clear hst hK K hSS
        have hst := hst2
        have hSS := hSS2
        clear hst2 hSS2
        try simp only [Act.put, List.setIfInBounds_toArray, List.set_cons_zero, List.set_cons_succ]
        have ho8 := HO.out.go hb8'
        have hl8 : g < w8.heap.size := Nat.lt_of_lt_of_le HLB.out hb8'.size
        have hfew := HM.out.few
        have hlen := HM.out.len
        refine wpAnyG_one (i := 9) (by kernel_rfl) rfl (by kernel_rfl) hst (fun K hK => ?_)
        go_simp
        by_cases hE : sendE frm to_ body.length = 0
        · refine (send_any ho8.nt frm to_ A8 body body.length cap8 rfl hE hr8 (by omega) (by omega)).mono ?_
          rintro e w9 ⟨rfl, S', kk, hn9, ht9⟩
          have hbx9 := hbx8.outs ht9.outs HNS.out hl8
          refine hK.out _ _ (HS3.out _ hbx9) (fun hSS2 hst2 => ?_)
          clear hst hK K hSS
          have hst := hst2
          have hSS := hSS2
          clear hst2 hSS2
          try simp only [Act.put, List.setIfInBounds_toArray, List.set_cons_zero, List.set_cons_succ]
          refine wpAnyG_take (i := 10) (v := ?_) rfl (by kernel_rfl) hst (by kernel_rfl) (by kernel_rfl) (fun _ _ _ h => h) hSS (Or.inl ⟨by rfl, ?_⟩) (fun hst2 => ?_)
          rotate_left
          · (intro w hSw; (try dsimp only at hSw); go_simp; try (with_reducible rfl))
          clear hst; have hst := hst2; clear hst2
          try simp only [Act.put, List.setIfInBounds_toArray, List.set_cons_zero, List.set_cons_succ]
          refine wpAnyG_take (i := 11) (v := ?_) rfl (by kernel_rfl) hst (by kernel_rfl) (by kernel_rfl) (fun _ _ _ h => h) hSS (Or.inl ⟨by rfl, ?_⟩) (fun hst2 => ?_)
          rotate_left
          · (intro w hSw; (try dsimp only at hSw); go_simp; try (with_reducible rfl))
          clear hst; have hst := hst2; clear hst2
          try simp only [Act.put, List.setIfInBounds_toArray, List.set_cons_zero, List.set_cons_succ]
          refine wpAnyG_take (i := 12) (v := ?_) rfl (by kernel_rfl) hst (by kernel_rfl) (by kernel_rfl) (fun _ _ _ h => h) hSS (Or.inl ⟨by rfl, ?_⟩) (fun hst2 => ?_)
          rotate_left
          · (intro w hSw; (try dsimp only at hSw); go_simp; try (with_reducible rfl))
          clear hst; have hst := hst2; clear hst2
          try simp only [Act.put, List.setIfInBounds_toArray, List.set_cons_zero, List.set_cons_succ]
          refine wpAnyG_take (i := 13) (v := ?_) rfl (by kernel_rfl) hst (by kernel_rfl) (by kernel_rfl) (fun _ _ _ h => h) hSS (Or.inl ⟨by rfl, ?_⟩) (fun hst2 => ?_)
          rotate_left
          · (intro w hSw; (try dsimp only at hSw); go_simp; try (with_reducible rfl))
          clear hst; have hst := hst2; clear hst2
          try simp only [Act.put, List.setIfInBounds_toArray, List.set_cons_zero, List.set_cons_succ]
          clear hst hSS
          refine wpAnyG_last (i := 14) (by kernel_rfl) rfl (by kernel_rfl) (by kernel_rfl) (fun K hK => ?_)
          go_simp
          refine hK.out _ _ ?_
          have ho9 := ho8.turn hn9 ht9
          have hrd9 := HAI.out.rd.below ho9.below
          simp only at hrd9
          have HRD9 := Lib.hid hrd9
          have HO9 := Lib.hid ho9
          have hrow9 := ho9.row4
          have hsz9 := ho9.below.size
          have hlss := HM.out.lss
          obtain ⟨_, c1, c2, c3, _⟩ := hbx9
          clear hK K hn9 ht9 hbx8 hown8 hr8 hb8 hb8' ho8 hl8 hown0 hrd0 hA0 hbA ho9 hrd9
          go_wp2_with (at_builtin; refine wpList_append_own_at _ rfl _ _ 41 rfl w.heap.size 32 il zeroL 5 56 Try.underlying41 hil hl0 hl1 hl2 rfl (by decide) _ ss.length (cLs ss) rfl (hrow9.alloc _) ⟨w9.heap.size, 0, none⟩ 1 1 (cL (⟨(sent + 1 : Nat), (sent + 1 : Nat), frm, to_, body⟩, (aA, ac))) rfl (by simp [cL]) (five_new _ _ _ _ _ _ _) (by simp [cL, Value.oneCell']) (by unfold maxLen; omega) (by omega) (by simp; omega) ?_; intro v5' w5 hrow5 hg5 _ hat5; go_frame)
          go_roundw
          case rel => exact ⟨k + 1, S', _, sent + 1, _, ov, by go_num, by omega, HM.out.put frm to_ body kk (aA, ac), HO9.out.push4 hrow5 hg5 hat5 ⟨HRD9.out, by simp only; omega⟩⟩
          case measure => simp [intOf]; omega
        · refine (sendBad_any ho8.nt frm to_ A8 body.length cap8 (by omega) hE).mono ?_
          rintro e w9 ⟨rfl, hw9⟩
          rw [hw9]
          clear hw9
          refine hK.out _ _ (HS3.out _ hbx8) (fun hSS2 hst2 => ?_)
          clear hst hK K hSS
          have hst := hst2
          have hSS := hSS2
          clear hst2 hSS2
          try simp only [Act.put, List.setIfInBounds_toArray, List.set_cons_zero, List.set_cons_succ]
          refine wpAnyG_take (i := 10) (v := ?_) rfl (by kernel_rfl) hst (by kernel_rfl) (by kernel_rfl) (fun _ _ _ h => h) hSS (Or.inl ⟨by rfl, ?_⟩) (fun hst2 => ?_)
          rotate_left
          · (intro w hSw; (try dsimp only at hSw); go_simp; try (with_reducible rfl))
          clear hst; have hst := hst2; clear hst2
          try simp only [Act.put, List.setIfInBounds_toArray, List.set_cons_zero, List.set_cons_succ]
          refine wpAnyG_take (i := 11) (v := ?_) rfl (by kernel_rfl) hst (by kernel_rfl) (by kernel_rfl) (fun _ _ _ h => h) hSS (Or.inl ⟨by rfl, ?_⟩) (fun hst2 => ?_)
          rotate_left
          · (intro w hSw; (try dsimp only at hSw); go_simp; try (with_reducible rfl))
          clear hst; have hst := hst2; clear hst2
          try simp only [Act.put, List.setIfInBounds_toArray, List.set_cons_zero, List.set_cons_succ]
          refine wpAnyG_take (i := 12) (v := ?_) rfl (by kernel_rfl) hst (by kernel_rfl) (by kernel_rfl) (fun _ _ _ h => h) hSS (Or.inl ⟨by rfl, ?_⟩) (fun hst2 => ?_)
          rotate_left
          · (intro w hSw; (try dsimp only at hSw); go_simp; try (with_reducible rfl))
          clear hst; have hst := hst2; clear hst2
          try simp only [Act.put, List.setIfInBounds_toArray, List.set_cons_zero, List.set_cons_succ]
          refine wpAnyG_take (i := 13) (v := ?_) rfl (by kernel_rfl) hst (by kernel_rfl) (by kernel_rfl) (fun _ _ _ h => h) hSS (Or.inl ⟨by rfl, ?_⟩) (fun hst2 => ?_)
          rotate_left
          · (intro w hSw; (try dsimp only at hSw); go_simp; try (with_reducible rfl))
          clear hst; have hst := hst2; clear hst2
          try simp only [Act.put, List.setIfInBounds_toArray, List.set_cons_zero, List.set_cons_succ]
          clear hst hSS
          refine wpAnyG_last (i := 14) (by kernel_rfl) rfl (by kernel_rfl) (by kernel_rfl) (fun K hK => ?_)
          go_simp
          refine hK.out _ _ ?_
          have hEb : (sendE frm to_ body.length == 0) = false := by simp [hE]
          have HO9 := Lib.hid ho8
          generalize sendE frm to_ body.length = q at hEb ⊢
          clear hK K hbx8 hown8 hr8 hb8 hb8' ho8 hl8 hown0 hrd0 hA0 hbA hE
          go_wp2
          go_roundw
          case rel => exact ⟨k + 1, S, es, sent, ss, ov, by go_num, by omega, HM.out.step, HO9.out⟩
          case measure => simp [intOf]; omega
      · cases hp : pick es num with
        | none =>
          have HP := Lib.hid hp
          clear hp
          go_wp2_with fail
          refine (deliverNo_any HO.out.nt num HNB.out HP.out).mono ?_
          rintro e w4 ⟨rfl, hb4⟩
          simp only [zeroL]
          have HO5 := Lib.hid ((HO.out.go hb4).go (newL_below w4))
          clear hb4 c0 c1 c2 c3 c4
          go_upto_region 22 with fail
          change Code.wp _ _ _ _ (newL w4)
          generalize newL w4 = w5 at HO5 ⊢
          go_wp2
          go_roundw
          case rel => exact ⟨k + 1, S, es, sent, ss, ov, by go_num, by omega, HM.out.step, HO5.out⟩
          case measure => simp [intOf]; omega
        | some p =>
          have HP := Lib.hid hp
          clear hp
          go_wp2_with fail
          refine (deliver_any HO.out.nt num HNB.out HP.out).mono ?_
          rintro e w4 ⟨kk, rfl, hn4, ho4, hbd4⟩
          obtain ⟨_, _, hmem, hpn⟩ := hit_some HP.out
          have HPN := Lib.hid hpn
          have HMEM := Lib.hid hmem
          have HOK := Lib.hid (HO.out.nt.ok.len p.1 (List.mem_map_of_mem hmem))
          obtain ⟨hon4, ht4⟩ := HO.out.turn2 hn4 ho4
          have hbx4 := HBX.out.outs ht4.outs HNS.out HLB.out
          have hl4 : g < w4.heap.size := Nat.lt_of_lt_of_le HLB.out ht4.outs.size
          have hbl : Below w4.heap.size w4 (w4.alloc (.cells #[.int .u64 p.1.num, .int .u64 p.1.first, .int .i64 p.1.frm, .int .i64 p.1.to_, .slice kk.1 p.1.body.length kk.2] 32)) := (Below.refl _ _).alloc (Nat.le_refl _) _
          have HO5 := Lib.hid (hon4.go hbl)
          have HBX5 := Lib.hid (hbx4.below hbl hl4)
          have HWX := Lib.hid (Whole.new w4 32 #[.int .u64 p.1.num, .int .u64 p.1.first, .int .i64 p.1.frm, .int .i64 p.1.to_, .slice kk.1 p.1.body.length kk.2])
          have HRK := Lib.hid ((hbd4.rds.below hbl).more hbl.size)
          simp only [val]
          clear hpn hmem hn4 ho4 hbd4 hon4 ht4 hbx4 hl4 hbl c0 c1 c2 c3 c4
          go_upto_region 22 with fail
          generalize (w4.alloc (.cells #[.int .u64 p.1.num, .int .u64 p.1.first, .int .i64 p.1.frm, .int .i64 p.1.to_, .slice kk.1 p.1.body.length kk.2] 32)) = w5 at HO5 HBX5 HWX HRK ⊢
          generalize w4.heap.size = x at HWX ⊢
          obtain ⟨d0, d1, d2, d3, d4⟩ := cells5 HWX.out
          obtain ⟨_, _, _, _, c4⟩ := HBX5.out
          obtain ⟨A5, k5, he5, hr5⟩ := row_slice HO5.out.row5
          obtain ⟨A4, k4, he4, hrdl⟩ := HO5.out.rdl
          subst he5 he4
          have HG := Lib.hid (HM.out.gone HP.out)
          have HMG := Lib.hid HG.out.1
          have hlov0 := HM.out.lov
          have hlss0 := HM.out.lss
          have ci := in_any A5 ov ov.length k5 w5.heap.size num w5 rfl (by omega) hr5
          rw [decide_eq_false HG.out.2] at ci
          have cw := was_yes A4 ss ss.length k4 p.1 kk w5 rfl (by omega) hrdl HRK.out (Nat.le_trans HOK.out (by decide)) (HM.out.src p HMEM.out) (HM.out.same p HMEM.out)
          simp only [val] at cw
          have CI := Lib.hid ci
          have CW := Lib.hid cw
          have hne : (p.1.num != num) = false := by rw [HPN.out]; simp
          clear ci cw hr5 hrdl hlov0 hlss0
          go_wp2_with fail
          refine CI.out.mono ?_
          rintro e w6 ⟨rfl, hw6⟩
          rw [hw6]
          clear hw6 w6
          go_wp2_with fail
          refine CW.out.mono ?_
          rintro e w6 ⟨rfl, hb6⟩
          have HO6 := Lib.hid (HO5.out.go hb6)
          have hbx6 := HBX5.out.below hb6 (Nat.lt_of_lt_of_le (World.block_lt_of_cell? _ _ c4) (Nat.le_refl _))
          clear hb6 c4 d0 d1 d2 d3 d4
          obtain ⟨_, _, _, _, c4⟩ := hbx6
          have hrow9 := HO6.out.row5
          have hsz9 := HO6.out.below.size
          have hlov := HM.out.lov
          go_wp2_with (at_builtin; refine wpList_append_own_at _ rfl _ _ 36 rfl w.heap.size 25 iu (.int .u64 0) 1 8 Try.underlying36 hiu hu0 hu1 hu2 rfl (by decide) _ ov.length (cU ov) rfl (hrow9.alloc _) ⟨w6.heap.size, 0, none⟩ 1 1 [.int .u64 num] rfl rfl (cell_one_new _ _ _) (by simp [Value.oneCell']) (by unfold maxLen; omega) (by omega) (by simp; omega) ?_; intro v5' w5' hrow5 hg5 _ hat5; go_frame)
          go_roundw
          case rel => exact ⟨k + 1, S, drop es num, sent, ss, ov ++ [num], by go_num, by omega, HMG.out, HO6.out.push5 hrow5 hg5 hat5⟩
          case measure => simp [intOf]; omega
      · cases hp : pick es num with
        | none =>
          have HP := Lib.hid hp
          clear hp
          go_wp2_with fail
          refine (loseNo_any HO.out.nt num HNB.out HP.out).mono ?_
          rintro e w4 ⟨rfl, hb4⟩
          have HO5 := Lib.hid (HO.out.go hb4)
          clear hb4 c0 c1 c2 c3 c4
          go_wp2
          go_roundw
          case rel => exact ⟨k + 1, S, es, sent, ss, ov, by go_num, by omega, HM.out.step, HO5.out⟩
          case measure => simp [intOf]; omega
        | some p =>
          have HP := Lib.hid hp
          clear hp
          go_wp2_with fail
          refine (lose_any HO.out.nt num HNB.out HP.out).mono ?_
          rintro e w5 ⟨rfl, hn4, ho4⟩
          obtain ⟨hon4, ht4⟩ := HO.out.turn2 hn4 ho4
          have HO5 := Lib.hid hon4
          have HBX5 := Lib.hid (HBX.out.outs ht4.outs HNS.out HLB.out)
          clear hn4 ho4 hon4 ht4 c0 c1 c2 c3 c4
          obtain ⟨_, _, _, _, c4⟩ := HBX5.out
          obtain ⟨A5, k5, he5, hr5⟩ := row_slice HO5.out.row5
          subst he5
          have HG := Lib.hid (HM.out.gone HP.out)
          have HMG := Lib.hid HG.out.1
          have hlov0 := HM.out.lov
          have ci := in_any A5 ov ov.length k5 w5.heap.size num w5 rfl (by omega) hr5
          rw [decide_eq_false HG.out.2] at ci
          have CI := Lib.hid ci
          clear ci hr5 hlov0
          go_wp2_with fail
          refine CI.out.mono ?_
          rintro e w6 ⟨rfl, hw6⟩
          rw [hw6]
          clear hw6 w6
          have hrow9 := HO5.out.row5
          have hsz9 := HO5.out.below.size
          have hlov := HM.out.lov
          go_wp2_with (at_builtin; refine wpList_append_own_at _ rfl _ _ 36 rfl w.heap.size 25 iu (.int .u64 0) 1 8 Try.underlying36 hiu hu0 hu1 hu2 rfl (by decide) _ ov.length (cU ov) rfl (hrow9.alloc _) ⟨w5.heap.size, 0, none⟩ 1 1 [.int .u64 num] rfl rfl (cell_one_new _ _ _) (by simp [Value.oneCell']) (by unfold maxLen; omega) (by omega) (by simp; omega) ?_; intro v5' w5' hrow5 hg5 _ hat5; go_frame)
          go_roundw
          case rel => exact ⟨k + 1, S, drop es num, sent, ss, ov ++ [num], by go_num, by omega, HMG.out, HO5.out.push5 hrow5 hg5 hat5⟩
          case measure => simp [intOf]; omega
      · cases hp : pick es num with
        | none =>
          have HP := Lib.hid hp
          clear hp
          go_wp2_with fail
          refine (doubleNo_any HO.out.nt num HNB.out HP.out).mono ?_
          rintro e w4 ⟨rfl, hb4⟩
          have HO5 := Lib.hid (HO.out.go hb4)
          clear hb4 c0 c1 c2 c3 c4
          go_wp2
          go_roundw
          case rel => exact ⟨k + 1, S, es, sent, ss, ov, by go_num, by omega, HM.out.step, HO5.out⟩
          case measure => simp [intOf]; omega
        | some p =>
          have hfew := HM.out.few
          have hlen := HM.out.len
          have HP := Lib.hid hp
          clear hp
          go_wp2_with fail
          refine (double_any HO.out.nt num HNB.out HP.out (by omega) (by omega)).mono ?_
          rintro e w4 ⟨rfl, hn4, ho4⟩
          have HO5 := Lib.hid (HO.out.turn2 hn4 ho4).1
          have HMD := Lib.hid (HM.out.doubled (hit_some HP.out).2.2.1)
          clear hn4 ho4 c0 c1 c2 c3 c4
          go_wp2
          go_roundw
          case rel => exact ⟨k + 1, S, _, sent + 1, ss, ov, by go_num, by omega, HMD.out, HO5.out⟩
          case measure => simp [intOf]; omega
      · go_wp2_with fail
        refine (clear_any HO.out.nt to_).mono ?_
        rintro e w4 ⟨rfl, hn4, ho4⟩
        have HO5 := Lib.hid (HO.out.turn2 hn4 ho4).1
        have HMD := Lib.hid (HM.out.filter (fun p => !decide (p.1.to_ = to_)))
        clear hn4 ho4 c0 c1 c2 c3 c4
        go_wp2
        go_roundw
        case rel => exact ⟨k + 1, S, awayN es to_, sent, ss, ov, by go_num, by omega, HMD.out, HO5.out⟩
        case measure => simp [intOf]; omega
    · obtain rfl : k = n := by omega
      have HBW := Lib.hid hon.below
      clear hon hmid
      go_wp2
      go_ret
      exact ⟨rfl, HBW.out⟩

open Go.ChangeShapes Go.WideShapes Go.ChangeAt
set_option maxRecDepth 100000 in
theorem nonce_lifted (os : Os) (started : os.Started) (H : Type) (enc : TypeId × Value → H) :
    ReturnsInHanded {} Try.checked os 6 .any (Rows.netOnceSpec.pre6 enc Try.prog Try.f6 Rows.netOnceRow.domain false) (Rows.netOnceSpec.post enc Try.prog Try.f6 false true false false) := by
  refine returnsInHanded_of_change_sized (C := Try.checked) own started (by kernel_rfl) Try.func6
    (ChangeSpec.witness6 (enc := enc) (C := Try.checked) false ⟨#[], #[.slice none 0 0], []⟩ 8 (by kernel_rfl) (by kernel_rfl) (by kernel_rfl) (by kernel_rfl)) ?_
  intro W base args ds gs before hval0 hW _ hsz0 _
  have hsz : (DataW.weightsEach Try.prog (Try.f6.params.toList ++ Rows.netOnceSpec.plain.varTypes Try.prog) (ds ++ gs)).all (· ≤ reachBytes) = true := hsz0
  have hval : ∀ (j : Nat) t v, Try.f6.params[j]? = some t → args[j]? = some v → Value.okWide Try.prog W .any base t v := hval0
  have hW' := hW
  obtain ⟨p, q, hA0, hV, rfl, _, _⟩ := hW
  have hA : DataW.TrodAll enc Try.prog W 0 (fun _ => true) true Try.f6.params.toList args.toList ds p := hA0
  rw [Try.params6] at hA hval hsz
  obtain ⟨v0, vs0, d0, ds0, p0, q0, hargs, rfl, rfl, h0, r0⟩ := trodAll_cons hA
  obtain ⟨rfl, rfl, rfl⟩ := trodAll_nil r0
  obtain rfl : args = #[v0] := by cases args; simp_all
  obtain ⟨A0, az0, c0, ha0⟩ := open_acts7 (hval 0 39 v0 rfl rfl) h0 (sized_mem hsz (j := 0) (t := 39) rfl rfl)
  obtain rfl := ha0.val
  exact law_close laid rfl hW' (by kernel_rfl) rfl Try.underlying4 rfl (once_walk A0 az0 az0.length c0 W rfl ha0.acts ha0.rds)

theorem netOnce_holds : Rows.NetOnceSaid :=
  OpenClaim.holds_of_wide 6 Try.f6 rfl rfl rfl rfl rfl rfl rfl ⟨rfl, rfl, rfl, rfl, rfl⟩ rfl rfl rfl rfl rfl (by kernel_rfl) Try.func6 (by kernel_rfl)
    (of_decide_eq_true (by kernel_rfl)) (by unfold Func.isWrapper; first | (rw [if_pos (by decide +kernel)]; kernel_rfl) | (rw [if_neg (by decide +kernel)]; exact ⟨rfl, rfl⟩))
    (fun os started H enc _ => nonce_lifted os started H enc)

#print axioms netOnce_holds
end Go.Proofs.Ytkoalpbognpphaa
