/- Several texts, each a section: NScr. -/
import Derived.Test.YtnleeffajljodaaM11
import Derived.Deep.RegionHeld3
import Derived.Deep.DeepCutAuto
import Derived.Deep.CutBlock
section
/- The statement on a script of calls. -/
namespace Go.Proofs.Ytnleeffajljodaa
open Go.RowKit Go.Maps
set_option linter.unusedVariables false

set_option maxHeartbeats 16000000 in
set_option maxRecDepth 100000 in
theorem script_walk (A : Option Addr) (az : List Ac7) (n c : Nat) (w : World) (hn : az.length = n) (hin : ∀ a ∈ az, ActIn7 w a) (hr : Rds w w.heap.size A (c7A az)) :
    Calls Try.prog 4 #[.slice A n c] w fun e w' => e = .returned (.bool true) ∧ Below w.heap.size w w' := by
  have HN := Lib.hid hn
  have HIN := Lib.hid hin
  have HR := Lib.hid hr
  clear hn hin hr
  go_enter Try.func4, Try.ntmps4
  go_wp2_with fail
  refine (lives_any w).mono ?_
  rintro e w1 ⟨rfl, hb1⟩
  by_cases hbig : 200 < n
  · have hbig' : (200 : Int) < (n : Int) := by omega
    have HB1 := Lib.hid hb1
    clear hb1
    go_wp2
    go_ret
    exact ⟨rfl, HB1.out⟩
  have hbig' : ¬ (200 : Int) < (n : Int) := by omega
  have HB1 := Lib.hid hb1
  have hsz1 := hb1.size
  clear hb1
  go_wp2_with fail
  refine (new_any w1).mono ?_
  rintro e w2 ⟨rfl, hn2, hb2⟩
  have hbx0 : Below w2.heap.size w2 (w2.alloc (.cells #[.slice none 0 0, .int .u64 0] 43)) := (Below.refl _ _).alloc (Nat.le_refl _) _
  have hwx0 := Whole.new w2 43 #[.slice none 0 0, .int .u64 0]
  have hz2 := hb2.size
  have hlt2 := hn2.lt
  have hpr : Pr w (w2.alloc (.cells #[.slice none 0 0, .int .u64 0] 43)) (Two w1.heap.size (w1.heap.size + 1)) (fun i => i = w2.heap.size) (w1.heap.size + 1) w1.heap.size w2.heap.size (.slice none 0 0) [] [] 0 0 :=
    ⟨hn2.go hbx0, ⟨hwx0, World.ownsRow_nil _ _ _ _, rfl, (fun g hg => by cases hg), (fun p hp => by cases hp), (fun i hi => by have : i = w2.heap.size := hi; simp; omega)⟩, (fun i hi => by rcases hi with rfl | rfl <;> omega), (fun i hi => by have : i = w2.heap.size := hi; omega), (fun i hi e => by have : i = w2.heap.size := e; have := hlt2 i hi; omega), HB1.out.trans ((hb2.mono hsz1).trans (hbx0.mono (by omega)))⟩
  obtain ⟨b, hbq⟩ : ∃ b, b = w1.heap.size + 1 := ⟨_, rfl⟩
  obtain ⟨mb, hmb⟩ : ∃ mb, mb = w1.heap.size := ⟨_, rfl⟩
  rw [← hbq, ← hmb] at hpr
  rw [← hbq]
  have HPR := Lib.hid hpr
  clear hn2 hb2 hpr hbq hmb hsz1 hbx0 hwx0 hz2 hlt2
  go_upto_region 6 with fail
  generalize (w2.alloc (.cells #[.slice none 0 0, .int .u64 0] 43)) = w3 at HPR ⊢
  generalize w2.heap.size = xb at HPR ⊢
  have HP0 : Hid (Pn w w3 w3 (fun _ => False) b mb xb [] [] 0 0) := Lib.hid ⟨⟨_, _, _, HPR.out, fun i hi => hi.elim⟩, fun i hi => hi.elim, Nat.le_refl _⟩
  clear HPR
  go_wp2
  go_loopw [5] (fun vi wr => ∃ (k : Nat) (es ps : List (Le × Pl)) (sent : Nat), vi = .int .i64 k ∧ k ≤ n ∧ sent ≤ k ∧ es.length ≤ k ∧ es.map (·.1) = ps.map (·.1) ∧ Pn w wr wr (fun _ => False) b mb xb es ps sent sent) (fun vi _ => n - (intOf vi).toNat)
  case atStart => exact ⟨0, [], [], 0, rfl, Nat.zero_le _, Nat.le_refl _, Nat.le_refl _, rfl, HP0.out⟩
  case round =>
    obtain ⟨k, es, ps, sent, rfl, hk, hfew, hlen, heq, hpr⟩ := hrel
    by_cases hlt : k < n
    · have hke : k < az.length := by have := HN.out; omega
      have hbr := hpr.facts.2
      have hain := HIN.out _ (List.getElem_mem hke)
      obtain ⟨ad, rfl, _, d0, d1, d2, d3, d4⟩ := actAt (HR.out.below hbr) hke
      generalize az[k] = a at hain d0 d1 d2 d3 d4
      obtain ⟨kd, frm, to_, aA, L, ac, body, num⟩ := a
      have hbl := hain.bl
      simp only at d0 d1 d2 d3 d4 hbl
      subst hbl
      have hbn : Below wr.heap.size wr (wr.alloc (.cells #[.int .i64 kd, .int .i64 frm, .int .i64 to_, .slice aA body.length ac, .int .u64 num] 45)) := (Below.refl _ _).alloc (Nat.le_refl _) _
      have hbox : Box7 (wr.alloc (.cells #[.int .i64 kd, .int .i64 frm, .int .i64 to_, .slice aA body.length ac, .int .u64 num] 45)) wr.heap.size kd frm to_ aA body.length ac num := ⟨by simp, by simp, by simp, by simp, by simp⟩
      have hlb : wr.heap.size < (wr.alloc (.cells #[.int .i64 kd, .int .i64 frm, .int .i64 to_, .slice aA body.length ac, .int .u64 num] 45)).heap.size := by simp
      have HP := Lib.hid (hpr.anew (K' := fun i => i = wr.heap.size) hbn (fun i hi => .inr ⟨Nat.le_of_eq hi.symm, by rw [hi]; exact hlb⟩))
      have HEQ := Lib.hid heq
      have HAI := Lib.hid hain
      have HBX := Lib.hid hbox
      have HLB := Lib.hid hlb
      clear hpr heq hain hbox hbn hlb
      go_upto_region 11 with fail
      generalize (wr.alloc (.cells #[.int .i64 kd, .int .i64 frm, .int .i64 to_, .slice aA body.length ac, .int .u64 num] 45)) = W at HP HBX HLB ⊢
      generalize wr.heap.size = g at HP HBX HLB ⊢
      clear d0 d1 d2 d3 d4 hbr
      have hpl : ps.length ≤ k := by have := congrArg List.length HEQ.out; simp only [List.length_map] at this; omega
      obtain ⟨c0, c1, c2, c3, c4⟩ := HBX.out
      have HNB := Lib.hid HAI.out.nb
      have hpc : ∀ {w' : World} {es ps : List (Le × Pl)} {s l : Nat}, Pn w W w' (fun i => i = g) b mb xb es ps s l → w'.cell? ⟨g, 1, none⟩ = some (.int .i64 frm) ∧ w'.cell? ⟨g, 2, none⟩ = some (.int .i64 to_) ∧ w'.cell? ⟨g, 3, none⟩ = some (.slice aA body.length ac) ∧ w'.cell? ⟨g, 4, none⟩ = some (.int .u64 num) := fun h =>
        ⟨(h.c (a := ⟨g, 1, none⟩) rfl).trans HBX.out.c1, (h.c (a := ⟨g, 2, none⟩) rfl).trans HBX.out.c2, (h.c (a := ⟨g, 3, none⟩) rfl).trans HBX.out.c3, (h.c (a := ⟨g, 4, none⟩) rfl).trans HBX.out.c4⟩
      have HPC := Lib.hid (fun w' es ps s l => @hpc w' es ps s l)
      clear hpc
      go_upto_block 2 with (go_at_call 15; refine (pick_any kd 5 W (by decide) (by decide) HAI.out.kd).mono ?_; rintro e w4 ⟨⟨r, rfl, hr5⟩, hw4⟩; rw [hw4]; clear hw4 w4)
      go_cut [7] (fun s7 wx => s7 = .bool true ∧ ∃ (es' ps' : List (Le × Pl)) (sent' : Nat), sent' ≤ k + 1 ∧ es'.length ≤ k + 1 ∧ es'.map (·.1) = ps'.map (·.1) ∧ Pn w W wx (fun i => i = g) b mb xb es' ps' sent' sent')
      case first =>
        have hr5' : r = 0 ∨ r = 1 ∨ r = 2 ∨ r = 3 ∨ r = 4 := by omega
        clear hr5
        rcases hr5' with rfl | rfl | rfl | rfl | rfl
        · by_cases hlong : 20000 < body.length
          · have hlong' : (20000 : Int) < (body.length : Int) := by omega
            have HBW := Lib.hid HP.out.facts.2
            go_wp2
            go_ret
            exact ⟨rfl, HBW.out⟩
          have hlong' : ¬ (20000 : Int) < (body.length : Int) := by omega
          have hrdW := HAI.out.rd.below HP.out.facts.2
          simp only at hrdW
          have HRD := Lib.hid (hrdW.more HP.out.facts.2.size)
          have hA0 : aA = none → ac = 0 := HAI.out.A0
          have HA0 := Lib.hid hA0
          clear hrdW hA0
          go_wp2_with fail
          go_at_call 16
          refine (own_any aA body ac W (by omega) HRD.out).mono ?_
          rintro e w5 ⟨o, rfl, how, hog, hb5⟩
          have hlo := how.lt
          have HO5 := Lib.hid (HP.out.anew (K' := fun i => i = g ∨ i = o) hb5 (fun i hi => hi.elim .inl (fun e => .inr ⟨by omega, by omega⟩)))
          have HOW := Lib.hid how
          have HB5 := Lib.hid hb5
          have HRD5 := Lib.hid ((HRD.out.below hb5).more hb5.size)
          have e5 : ∀ i, w5.cell? ⟨g, i, none⟩ = W.cell? ⟨g, i, none⟩ := fun i => hb5.cell (p := ⟨g, i, none⟩) HLB.out
          have k1 := (e5 1).trans c1
          have k2 := (e5 2).trans c2
          have k3 := (e5 3).trans c3
          have HK1 := Lib.hid k1
          have HK2 := Lib.hid k2
          have HK3 := Lib.hid k3
          clear how hb5 hlo e5 c0 c1 c2 c3 c4
          by_cases hE : sendE frm to_ body.length = 0
          · have HE := Lib.hid hE
            clear hE
            go_wp2_with fail
            go_at_call 9
            refine (pn_send HO5.out frm to_ (some ⟨o, 0, none⟩) body body.length (body.length + 5) rfl HE.out (own_reads HOW.out) (by omega) (by omega)).mono ?_
            rintro e w6 ⟨rfl, q6, hp6⟩
            have k1 := (hp6.c (a := ⟨g, 1, none⟩) (.inl rfl)).trans HK1.out
            have k2 := (hp6.c (a := ⟨g, 2, none⟩) (.inl rfl)).trans HK2.out
            have k3 := (hp6.c (a := ⟨g, 3, none⟩) (.inl rfl)).trans HK3.out
            have hrd6 := HAI.out.rd.below hp6.facts.2
            simp only at hrd6
            have HRD6 := Lib.hid (hrd6.more hp6.facts.2.size)
            have HP6 := Lib.hid hp6
            clear hp6 hrd6
            go_wp2_with fail
            go_at_call 17
            refine (pn_rsend HP6.out frm to_ aA body ac HE.out HRD6.out HA0.out (by omega) (by omega)).mono ?_
            rintro e w7 ⟨rfl, q7, hp7⟩
            have k3 := (hp7.c (a := ⟨g, 3, none⟩) (.inl rfl)).trans HK3.out
            have hrd7 := HAI.out.rd.below hp7.facts.2
            simp only at hrd7
            have CK := Lib.hid (kept_any aA body ac o w.heap.size w7 (by omega) hrd7 ((hp7.kept o (.inr rfl)).2.trans HOW.out))
            have HP7 := Lib.hid hp7
            clear hp7 hrd7
            go_wp2_with fail
            go_at_call 18
            refine CK.out.mono ?_
            rintro e w8 ⟨rfl, q8, rfl⟩
            have HF := Lib.hid ((HP7.out.go (bDrewN (Below.refl _ _) q8)).back (wr := W) (K := fun i => i = g) (fun i hi => ⟨.inl hi, by rw [hi]; exact HLB.out, HB5.out.block i (by rw [hi]; exact HLB.out)⟩) HB5.out.size)
            clear CK
            go_wp2
            go_meet
            case rel => exact ⟨rfl, _, _, sent + 1, by omega, by simp; omega, by simp [HEQ.out], HF.out⟩
          · have HE := Lib.hid hE
            have hEb : (sendE frm to_ body.length == 0) = false := by simp [hE]
            have CS := Lib.hid (pn_sendBad HO5.out frm to_ (some ⟨o, 0, none⟩) body.length (body.length + 5) (by omega) hE)
            have CR := Lib.hid (rsendBad_any (xb := xb) (w := w5) frm to_ aA body.length ac (by omega) hE)
            generalize sendE frm to_ body.length = q at CS CR hEb HE
            have CK := Lib.hid (kept_any aA body ac o w5.heap.size w5 (by omega) HRD5.out HOW.out)
            clear hE
            go_wp2_with fail
            go_at_call 9
            refine CS.out.mono ?_
            rintro e w6 ⟨rfl, hw6⟩
            rw [hw6]
            clear hw6 w6
            go_wp2_with fail
            go_at_call 17
            refine CR.out.mono ?_
            rintro e w6 ⟨rfl, hw6⟩
            rw [hw6]
            clear hw6 w6
            go_wp2_with fail
            go_at_call 18
            refine CK.out.mono ?_
            rintro e w8 ⟨rfl, q8, rfl⟩
            have HF := Lib.hid ((HO5.out.go (bDrewN (Below.refl _ _) q8)).back (wr := W) (K := fun i => i = g) (fun i hi => ⟨.inl hi, by rw [hi]; exact HLB.out, HB5.out.block i (by rw [hi]; exact HLB.out)⟩) HB5.out.size)
            clear CK CS CR
            go_wp2
            go_meet
            case rel => exact ⟨rfl, es, ps, sent, by omega, by omega, HEQ.out, HF.out⟩
        · cases hp : pick es num with
          | none =>
            have HQ := Lib.hid ((pick_both HEQ.out num).1 hp)
            have HPK := Lib.hid hp
            clear hp c0 c1 c2 c3
            go_wp2_with fail
            go_at_call 11
            refine (pn_deliverNo HP.out num HNB.out HPK.out).mono ?_
            rintro e w5 ⟨rfl, hp5⟩
            simp only [zeroL]
            have hw5 : Whole (newL w5) w5.heap.size 32 #[.int .u64 0, .int .u64 0, .int .i64 0, .int .i64 0, .slice none 0 0] := Whole.new _ _ _
            have HW5 := Lib.hid hw5
            have HP5 := Lib.hid (hp5.go (newL_below w5))
            obtain ⟨-, -, -, k4⟩ := HPC.out _ _ _ _ _ HP5.out
            clear hp5 hw5 c4
            go_upto_region 23 with fail
            change Code.wp _ _ _ _ (newL w5)
            generalize newL w5 = w6 at HW5 HP5 k4 ⊢
            generalize w5.heap.size = x1 at HW5 ⊢
            go_wp2_with fail
            go_at_call 19
            refine (rdeliverNo_any (HP5.out.st.choose_spec.choose_spec.choose_spec.1.rn) num HQ.out (by omega)).mono ?_
            rintro e w7 ⟨rfl, hb7⟩
            simp only [zeroL]
            have hw8 : Whole (newL w7) w7.heap.size 32 #[.int .u64 0, .int .u64 0, .int .i64 0, .int .i64 0, .slice none 0 0] := Whole.new _ _ _
            have HW8 := Lib.hid hw8
            have hb8 := hb7.trans ((newL_below w7).mono hb7.size)
            have HW5' := Lib.hid (HW5.out.below hb8 HW5.out.lt)
            have HP8 := Lib.hid (HP5.out.go hb8)
            clear hb7 hw8 hb8 k4
            go_upto_region 24 with fail
            change Code.wp _ _ _ _ (newL w7)
            generalize newL w7 = w8 at HW8 HW5' HP8 ⊢
            generalize w7.heap.size = x2 at HW8 ⊢
            obtain ⟨d0, d1, d2, d3, d4⟩ := cells5 HW5'.out
            obtain ⟨f0, f1, f2, f3, f4⟩ := cells5 HW8.out
            have cs := same_any (w := w8) (x := le0) (y := le0) (k := (none, 0)) (k' := (none, 0)) (fun e => absurd rfl e) (fun e => absurd rfl e) (by decide) (by decide)
            rw [show decide (le0 = le0) = true from decide_eq_true rfl] at cs
            have cs' : Calls Try.prog 20 #[.agg #[.int .u64 0, .int .u64 0, .int .i64 0, .int .i64 0, .slice none 0 0], .agg #[.int .u64 0, .int .u64 0, .int .i64 0, .int .i64 0, .slice none 0 0]] w8 fun e w' => e = .returned (.bool true) ∧ Below w8.heap.size w8 w' := cs
            have CS := Lib.hid cs'
            clear cs cs'
            go_wp2_with fail
            go_at_call 20
            refine CS.out.mono ?_
            rintro e w9 ⟨rfl, hb9⟩
            have HF := Lib.hid (HP8.out.go hb9)
            clear hb9 d0 d1 d2 d3 d4 f0 f1 f2 f3 f4 CS
            go_wp2
            go_meet
            case rel => exact ⟨rfl, es, ps, sent, by omega, by omega, HEQ.out, HF.out⟩
          | some p =>
            obtain ⟨kr, hq⟩ := (pick_both HEQ.out num).2 p hp
            have HQ := Lib.hid hq
            have HPK := Lib.hid hp
            have HOK := Lib.hid (HP.out.facts.1.len p.1 (List.mem_map_of_mem (hit_some hp).2.2.1))
            have hris : (ps.map (·.1)).Pairwise (fun x y : Le => x.num < y.num) := by rw [← HEQ.out]; exact HP.out.facts.1.rise
            have HRIS := Lib.hid hris
            obtain ⟨_, _, _, _, _, hxW⟩ := HP.out.rcells HEQ.out
            clear hp hq hris c0 c1 c2 c3
            go_wp2_with fail
            go_at_call 11
            refine (pn_deliver HP.out num HNB.out HPK.out).mono ?_
            rintro e w5 ⟨kk, rfl, hp5, hbd, hfar⟩
            simp only [val]
            have hs5 := hp5.size
            have hb6 : Below w5.heap.size w5 (w5.alloc (.cells #[.int .u64 p.1.num, .int .u64 p.1.first, .int .i64 p.1.frm, .int .i64 p.1.to_, .slice kk.1 p.1.body.length kk.2] 32)) := (Below.refl _ _).alloc (Nat.le_refl _) _
            have HW6 := Lib.hid (Whole.new w5 32 #[.int .u64 p.1.num, .int .u64 p.1.first, .int .i64 p.1.frm, .int .i64 p.1.to_, .slice kk.1 p.1.body.length kk.2])
            have HP6 := Lib.hid (hp5.go hb6)
            have hfar6 : ∀ {T : Nat → Prop} {w2 : World}, (∀ i, T i → i < W.heap.size) → Outs T (w5.alloc (.cells #[.int .u64 p.1.num, .int .u64 p.1.first, .int .i64 p.1.frm, .int .i64 p.1.to_, .slice kk.1 p.1.body.length kk.2] 32)) w2 → Rds w2 w2.heap.size kk.1 (c8 p.1.body) := fun {T w2} hT ho => hfar hT (((Outs.of hb6 : Outs T _ _)).trans ho (fun i hi => .inl hi))
            have HFAR := Lib.hid (fun T w2 => @hfar6 T w2)
            have hx1 : xb < w5.heap.size := by omega
            obtain ⟨-, -, -, k4⟩ := HPC.out _ _ _ _ _ HP6.out
            clear hp5 hbd hfar hfar6 hb6 c4
            go_upto_region 23 with fail
            generalize (w5.alloc (.cells #[.int .u64 p.1.num, .int .u64 p.1.first, .int .i64 p.1.frm, .int .i64 p.1.to_, .slice kk.1 p.1.body.length kk.2] 32)) = w6 at HW6 HP6 HFAR k4 ⊢
            generalize w5.heap.size = x1 at HW6 hx1 hs5 ⊢
            go_wp2_with fail
            go_at_call 19
            refine (pn_rdeliver HP6.out num HQ.out (by omega) HRIS.out).mono ?_
            rintro e w7 ⟨rfl, hp7, hr7, ho7⟩
            simp only [val]
            simp only at hr7
            have hb8 : Below w7.heap.size w7 (w7.alloc (.cells #[.int .u64 p.1.num, .int .u64 p.1.first, .int .i64 p.1.frm, .int .i64 p.1.to_, .slice kr.1 p.1.body.length kr.2] 32)) := (Below.refl _ _).alloc (Nat.le_refl _) _
            have ho8 : Outs (fun i => i = xb) w6 (w7.alloc (.cells #[.int .u64 p.1.num, .int .u64 p.1.first, .int .i64 p.1.frm, .int .i64 p.1.to_, .slice kr.1 p.1.body.length kr.2] 32)) := ho7.trans (Outs.of hb8 : Outs (fun i => i = xb) _ _) (fun i hi => .inl hi)
            have HW8 := Lib.hid (Whole.new w7 32 #[.int .u64 p.1.num, .int .u64 p.1.first, .int .i64 p.1.frm, .int .i64 p.1.to_, .slice kr.1 p.1.body.length kr.2])
            have HW6' := Lib.hid (HW6.out.outs ho8 (by omega))
            have HP8 := Lib.hid (hp7.go hb8)
            have HK6 := Lib.hid (HFAR.out _ _ (fun i hi => by omega) ho8)
            have HK8 := Lib.hid ((hr7.below hb8).more hb8.size)
            clear hp7 hr7 ho7 hb8 ho8 k4
            go_upto_region 24 with fail
            generalize (w7.alloc (.cells #[.int .u64 p.1.num, .int .u64 p.1.first, .int .i64 p.1.frm, .int .i64 p.1.to_, .slice kr.1 p.1.body.length kr.2] 32)) = w8 at HW8 HW6' HP8 HK6 HK8 ⊢
            generalize w7.heap.size = x2 at HW8 ⊢
            obtain ⟨d0, d1, d2, d3, d4⟩ := cells5 HW6'.out
            obtain ⟨f0, f1, f2, f3, f4⟩ := cells5 HW8.out
            have cs := same_any (w := w8) (x := p.1) (y := p.1) (k := kk) (k' := kr) HK6.out HK8.out (Nat.le_trans HOK.out (by decide)) (Nat.le_trans HOK.out (by decide))
            rw [show decide (p.1 = p.1) = true from decide_eq_true rfl] at cs
            simp only [val] at cs
            have CS := Lib.hid cs
            clear cs
            go_wp2_with fail
            go_at_call 20
            refine CS.out.mono ?_
            rintro e w9 ⟨rfl, hb9⟩
            have HF := Lib.hid (HP8.out.go hb9)
            clear hb9 d0 d1 d2 d3 d4 f0 f1 f2 f3 f4 CS
            go_wp2
            go_meet
            case rel => exact ⟨rfl, _, _, sent, by omega, Nat.le_trans (List.length_filter_le _ _) (by omega), drop_eq HEQ.out num, HF.out⟩
        · have h0 : Pn w W W.drew (fun i => i = g) b mb xb es ps sent sent := HP.out.go (Below.refl _ _).drew
          have k4 := (HPC.out _ _ _ _ _ h0).2.2.2
          have hkc : ∀ (w' : World) (es ps : List (Le × Pl)) (s l : Nat), Pn w W w' (fun i => i = g) b mb xb es ps s l → w'.cell? ⟨g, 4, none⟩ = some (.int .u64 num) := fun _ _ _ _ _ h => (HPC.out _ _ _ _ _ h).2.2.2
          have HKC := Lib.hid hkc
          clear hkc
          cases hp : pick es num with
          | none =>
            have hq := (pick_both HEQ.out num).1 hp
            have hSm : ∀ W' ps', Pn w W W' (fun i => i = g) b mb xb es ps' sent sent → _ := fun W' ps' h => pn_loseNo h num HNB.out hp
            have hRm : ∀ W' es', Pn w W W' (fun i => i = g) b mb xb es' ps sent sent → _ := fun W' es' h => pn_rloseNo h num hq (by omega)
            clear hp hq
            go_wp2_with fail
            go_region_held3 (fun w' => w'.cell? ⟨g, 4, none⟩ = some (.int .u64 num))
              (first | assumption | exact k4)
              (first
                | (go_at_call 14; refine (hSm _ _ (by assumption)).mono ?_; rintro e w10 ⟨rfl, hp10⟩; have hc10 := HKC.out _ _ _ _ _ hp10)
                | (go_at_call 21; refine (hRm _ _ (by assumption)).mono ?_; rintro e w11 ⟨rfl, hp11⟩; have hc11 := HKC.out _ _ _ _ _ hp11))
            all_goals (
              go_wp2
              go_meet
              case rel => exact ⟨rfl, _, _, sent, by omega, by omega, HEQ.out, by assumption⟩)
          | some p =>
            obtain ⟨kr, hq⟩ := (pick_both HEQ.out num).2 p hp
            have hris : (ps.map (·.1)).Pairwise (fun x y : Le => x.num < y.num) := by rw [← HEQ.out]; exact HP.out.facts.1.rise
            have hSm : ∀ W' ps', Pn w W W' (fun i => i = g) b mb xb es ps' sent sent → _ := fun W' ps' h => pn_lose h num HNB.out hp
            have hRm : ∀ W' es', Pn w W W' (fun i => i = g) b mb xb es' ps sent sent → _ := fun W' es' h => pn_rlose h num hq (by omega) hris
            clear hp hq hris
            go_wp2_with fail
            go_region_held3 (fun w' => w'.cell? ⟨g, 4, none⟩ = some (.int .u64 num))
              (first | assumption | exact k4)
              (first
                | (go_at_call 14; refine (hSm _ _ (by assumption)).mono ?_; rintro e w10 ⟨rfl, hp10⟩; have hc10 := HKC.out _ _ _ _ _ hp10)
                | (go_at_call 21; refine (hRm _ _ (by assumption)).mono ?_; rintro e w11 ⟨rfl, hp11⟩; have hc11 := HKC.out _ _ _ _ _ hp11))
            all_goals (
              go_wp2
              go_meet
              case rel => exact ⟨rfl, _, _, sent, by omega, Nat.le_trans (List.length_filter_le _ _) (by omega), drop_eq HEQ.out num, by assumption⟩)
        · cases hp : pick es num with
          | none =>
            have CD := Lib.hid (pn_doubleNo HP.out num HNB.out hp)
            have HQ := Lib.hid ((pick_both HEQ.out num).1 hp)
            clear hp c0 c1 c2 c3
            go_wp2_with fail
            go_at_call 10
            refine CD.out.mono ?_
            rintro e w5 ⟨rfl, hp5⟩
            obtain ⟨-, -, -, k4⟩ := HPC.out _ _ _ _ _ hp5
            have HP5 := Lib.hid hp5
            have CR := Lib.hid (pn_rdoubleNo hp5 num HQ.out (by omega))
            clear hp5 CD c4
            go_wp2_with fail
            go_at_call 22
            refine CR.out.mono ?_
            rintro e w6 ⟨rfl, hw6⟩
            rw [hw6]
            clear hw6 w6 CR
            go_wp2
            go_meet
            case rel => exact ⟨rfl, es, ps, sent, by omega, by omega, HEQ.out, HP5.out⟩
          | some p =>
            obtain ⟨kr, hq⟩ := (pick_both HEQ.out num).2 p hp
            have hfst := HP.out.facts.1.first p.1 (List.mem_map_of_mem (hit_some hp).2.2.1)
            have CD := Lib.hid (pn_double HP.out num HNB.out hp (by omega) (by omega))
            have HQ := Lib.hid hq
            have HNZ : Hid (p.1.first ≠ 0) := Lib.hid (by omega)
            clear hp hq hfst c0 c1 c2 c3
            go_wp2_with fail
            go_at_call 10
            refine CD.out.mono ?_
            rintro e w5 ⟨rfl, hp5⟩
            obtain ⟨-, -, -, k4⟩ := HPC.out _ _ _ _ _ hp5
            have CR := Lib.hid (pn_rdouble hp5 num HQ.out HNZ.out (by omega) (by omega))
            clear hp5 CD c4
            go_wp2_with fail
            go_at_call 22
            refine CR.out.mono ?_
            rintro e w6 ⟨rfl, hp6⟩
            have HF := Lib.hid hp6
            clear hp6 CR
            go_wp2
            go_meet
            case rel => exact ⟨rfl, _, _, sent + 1, by omega, by simp; omega, by simp [HEQ.out], HF.out⟩
        · have CC := Lib.hid (pn_clear HP.out to_)
          clear c0 c1 c3 c4
          go_wp2_with fail
          go_at_call 23
          refine CC.out.mono ?_
          rintro e w5 ⟨rfl, hp5⟩
          obtain ⟨-, k2, -, -⟩ := HPC.out _ _ _ _ _ hp5
          have CR := Lib.hid (pn_rclear hp5 to_ (by omega))
          clear hp5 CC c2
          go_wp2_with fail
          go_at_call 24
          refine CR.out.mono ?_
          rintro e w6 ⟨rfl, hp6⟩
          have HF := Lib.hid hp6
          clear hp6 CR
          go_wp2
          go_meet
          case rel => exact ⟨rfl, _, _, sent, by omega, Nat.le_trans (List.length_filter_le _ _) (by omega), away_eq HEQ.out to_, HF.out⟩
      case rest =>
        clear c0 c1 c2 c3 c4 HP HBX HEQ HAI
        obtain ⟨rfl, es2, ps2, sent2, hs2, hl2, heq2, hp2⟩ := hcut
        obtain ⟨A2, cp2, r0, r1, hrd2, hx2⟩ := hp2.rcells heq2
        obtain ⟨-, k2, -, -⟩ := HPC.out _ _ _ _ _ hp2
        have HRD2 := Lib.hid hrd2
        have HP2 := Lib.hid hp2
        have HEQ2 := Lib.hid heq2
        have hgl : g < wc.heap.size := World.block_lt_of_cell? _ _ k2
        have hS : ∀ w', Below wc.heap.size wc w' → w'.cell? ⟨g, 2, none⟩ = some (.int .i64 to_) ∧ w'.cell? ⟨xb, 0, none⟩ = some (.slice A2 ps2.length cp2) ∧ w'.cell? ⟨xb, 1, none⟩ = some (.int .u64 sent2) ∧ Below wc.heap.size wc w' := fun w' hb =>
          ⟨(hb.cell (p := ⟨g, 2, none⟩) hgl).trans k2, (hb.cell (p := ⟨xb, 0, none⟩) hx2).trans r0, (hb.cell (p := ⟨xb, 1, none⟩) hx2).trans r1, hb⟩
        have HS := Lib.hid hS
        have hpl2 : ps2.length ≤ 201 := by have := congrArg List.length heq2; simp only [List.length_map] at this; omega
        have HTO : Hid (nums (toN ps2 to_) = nums (toN es2 to_)) := Lib.hid (nums_to heq2 to_).symm
        have HNL : Hid ((nums (toN es2 to_)).length ≤ 4000) := Lib.hid (by unfold nums toN; rw [List.length_map]; exact Nat.le_trans (List.length_filter_le _ _) (by omega))
        obtain ⟨np, hnp⟩ : ∃ np, np = ps2.length := ⟨_, rfl⟩
        rw [← hnp] at r0 hpl2
        have HNP := Lib.hid hnp
        rw [← hnp] at HS
        clear hrd2 hp2 heq2 hS hgl hx2 r0 r1 k2 hnp
        go_upto_region 31 with fail
        refine wp_region_G 32 (fun w' => w'.cell? ⟨g, 2, none⟩ = some (.int .i64 to_) ∧ w'.cell? ⟨xb, 0, none⟩ = some (.slice A2 np cp2) ∧ w'.cell? ⟨xb, 1, none⟩ = some (.int .u64 sent2) ∧ Below wc.heap.size wc w') (by kernel_rfl) (by kernel_rfl) (HS.out _ (Below.refl _ _).drew) (fun hSS hst => ?_)
        refine wpAnyG_take (i := 0) (v := ?_) rfl (by kernel_rfl) hst (by kernel_rfl) (by kernel_rfl) (fun _ _ _ h => h) hSS (Or.inl ⟨by rfl, ?_⟩) (fun hst2 => ?_)
        rotate_left
        · (intro w hSw; (try dsimp only at hSw); go_simp; try (with_reducible rfl))
        clear hst; have hst := hst2; clear hst2
        try simp only [Act.put, List.setIfInBounds_toArray, List.set_cons_zero, List.set_cons_succ]
        refine wpAnyG_take (i := 1) (v := ?_) rfl (by kernel_rfl) hst (by kernel_rfl) (by kernel_rfl) (fun _ _ _ h => h) hSS (Or.inl ⟨by rfl, ?_⟩) (fun hst2 => ?_)
        rotate_left
        · (intro w hSw; (try dsimp only at hSw); go_simp; try (with_reducible rfl))
        clear hst; have hst := hst2; clear hst2
        try simp only [Act.put, List.setIfInBounds_toArray, List.set_cons_zero, List.set_cons_succ]
        refine wpAnyG_take (i := 2) (v := ?_) rfl (by kernel_rfl) hst (by kernel_rfl) (by kernel_rfl) (fun _ _ _ h => h) hSS (Or.inl ⟨by rfl, ?_⟩) (fun hst2 => ?_)
        rotate_left
        · (intro w hSw; (try dsimp only at hSw); go_simp; try (with_reducible rfl))
        clear hst; have hst := hst2; clear hst2
        try simp only [Act.put, List.setIfInBounds_toArray, List.set_cons_zero, List.set_cons_succ]
        refine wpAnyG_take (i := 3) (v := ?_) rfl (by kernel_rfl) hst (by kernel_rfl) (by kernel_rfl) (fun _ _ _ h => h) hSS (Or.inl ⟨by rfl, ?_⟩) (fun hst2 => ?_)
        rotate_left
        · (intro w hSw; (try dsimp only at hSw); go_simp; try (with_reducible rfl))
        clear hst; have hst := hst2; clear hst2
        try simp only [Act.put, List.setIfInBounds_toArray, List.set_cons_zero, List.set_cons_succ]
        refine wpAnyG_take (i := 5) (v := ?_) rfl (by kernel_rfl) hst (by kernel_rfl) (by kernel_rfl) (fun _ _ _ h => h) hSS (Or.inl ⟨by rfl, ?_⟩) (fun hst2 => ?_)
        rotate_left
        · (intro w hSw; (try dsimp only at hSw); go_simp; try (with_reducible rfl))
        clear hst; have hst := hst2; clear hst2
        try simp only [Act.put, List.setIfInBounds_toArray, List.set_cons_zero, List.set_cons_succ]
        refine wpAnyG_take (i := 6) (v := ?_) rfl (by kernel_rfl) hst (by kernel_rfl) (by kernel_rfl) (fun _ _ _ h => h) hSS (Or.inl ⟨by rfl, ?_⟩) (fun hst2 => ?_)
        rotate_left
        · (intro w hSw; (try dsimp only at hSw); go_simp; try (with_reducible rfl))
        clear hst; have hst := hst2; clear hst2
        try simp only [Act.put, List.setIfInBounds_toArray, List.set_cons_zero, List.set_cons_succ]
        refine wpAnyG_take (i := 7) (v := ?_) rfl (by kernel_rfl) hst (by kernel_rfl) (by kernel_rfl) (fun _ _ _ h => h) hSS (Or.inl ⟨by rfl, ?_⟩) (fun hst2 => ?_)
        rotate_left
        · (intro w hSw; (try dsimp only at hSw); go_simp; try (with_reducible rfl))
        clear hst; have hst := hst2; clear hst2
        try simp only [Act.put, List.setIfInBounds_toArray, List.set_cons_zero, List.set_cons_succ]
        refine wpAnyG_take (i := 8) (v := ?_) rfl (by kernel_rfl) hst (by kernel_rfl) (by kernel_rfl) (fun _ _ _ h => h) hSS (Or.inl ⟨by rfl, ?_⟩) (fun hst2 => ?_)
        rotate_left
        · (intro w hSw; (try dsimp only at hSw); go_simp; try (with_reducible rfl))
        clear hst; have hst := hst2; clear hst2
        try simp only [Act.put, List.setIfInBounds_toArray, List.set_cons_zero, List.set_cons_succ]
        refine wpAnyG_one (i := 4) (by kernel_rfl) rfl (by kernel_rfl) hst (fun K hK => ?_)
        go_simp
        refine (pn_sent (HP2.out.go (Below.refl _ _).drew)).mono ?_
        rintro e w20 ⟨rfl, rfl⟩
        refine hK.out _ _ (HS.out _ (Below.refl _ _).drew) (fun hSS2 hst2 => ?_)
        clear hst hK K hSS
        have hst := hst2
        have hSS := hSS2
        clear hst2 hSS2
        try simp only [Act.put, List.setIfInBounds_toArray, List.set_cons_zero, List.set_cons_succ]
        refine wpAnyG_take (i := 9) (v := ?_) rfl (by kernel_rfl) hst (by kernel_rfl) (by kernel_rfl) (fun _ _ _ h => h) hSS (Or.inl ⟨by rfl, ?_⟩) (fun hst2 => ?_)
        rotate_left
        · (intro w hSw; (try dsimp only at hSw); go_simp; try (with_reducible rfl))
        clear hst; have hst := hst2; clear hst2
        try simp only [Act.put, List.setIfInBounds_toArray, List.set_cons_zero, List.set_cons_succ]
        refine wpAnyG_take (i := 10) (v := ?_) rfl (by kernel_rfl) hst (by kernel_rfl) (by kernel_rfl) (fun _ _ _ h => h) hSS (Or.inl ⟨by rfl, ?_⟩) (fun hst2 => ?_)
        rotate_left
        · (intro w hSw; (try dsimp only at hSw); go_simp; try (with_reducible rfl))
        clear hst; have hst := hst2; clear hst2
        try simp only [Act.put, List.setIfInBounds_toArray, List.set_cons_zero, List.set_cons_succ]
        refine wpAnyG_take (i := 11) (v := ?_) rfl (by kernel_rfl) hst (by kernel_rfl) (by kernel_rfl) (fun _ _ _ h => h) hSS (Or.inl ⟨by rfl, ?_⟩) (fun hst2 => ?_)
        rotate_left
        · (intro w hSw; (try dsimp only at hSw); go_simp; try (with_reducible rfl))
        clear hst; have hst := hst2; clear hst2
        try simp only [Act.put, List.setIfInBounds_toArray, List.set_cons_zero, List.set_cons_succ]
        refine wpAnyG_take (i := 12) (v := ?_) rfl (by kernel_rfl) hst (by kernel_rfl) (by kernel_rfl) (fun _ _ _ h => h) hSS (Or.inl ⟨by rfl, ?_⟩) (fun hst2 => ?_)
        rotate_left
        · (intro w hSw; (try dsimp only at hSw); go_simp; try (with_reducible rfl))
        clear hst; have hst := hst2; clear hst2
        try simp only [Act.put, List.setIfInBounds_toArray, List.set_cons_zero, List.set_cons_succ]
        refine wpAnyG_take (i := 13) (v := ?_) rfl (by kernel_rfl) hst (by kernel_rfl) (by kernel_rfl) (fun _ _ _ h => h) hSS (Or.inl ⟨by rfl, ?_⟩) (fun hst2 => ?_)
        rotate_left
        · (intro w hSw; (try dsimp only at hSw); go_simp; try (with_reducible rfl))
        clear hst; have hst := hst2; clear hst2
        try simp only [Act.put, List.setIfInBounds_toArray, List.set_cons_zero, List.set_cons_succ]
        refine wpAnyG_take (i := 14) (v := ?_) rfl (by kernel_rfl) hst (by kernel_rfl) (by kernel_rfl) (fun _ _ _ h => h) hSS (Or.inl ⟨by rfl, ?_⟩) (fun hst2 => ?_)
        rotate_left
        · (intro w hSw; (try dsimp only at hSw); go_simp; try (with_reducible rfl))
        clear hst; have hst := hst2; clear hst2
        try simp only [Act.put, List.setIfInBounds_toArray, List.set_cons_zero, List.set_cons_succ]
        refine wpAnyG_take (i := 16) (v := ?_) rfl (by kernel_rfl) hst (by kernel_rfl) (by kernel_rfl) (fun _ _ _ h => h) hSS (Or.inl ⟨by rfl, ?_⟩) (fun hst2 => ?_)
        rotate_left
        · (intro w hSw; (try dsimp only at hSw); go_simp; try (with_reducible rfl))
        clear hst; have hst := hst2; clear hst2
        try simp only [Act.put, List.setIfInBounds_toArray, List.set_cons_zero, List.set_cons_succ]
        refine wpAnyG_take (i := 17) (v := ?_) rfl (by kernel_rfl) hst (by kernel_rfl) (by kernel_rfl) (fun _ _ _ h => h) hSS (Or.inl ⟨by rfl, ?_⟩) (fun hst2 => ?_)
        rotate_left
        · (intro w hSw; (try dsimp only at hSw); go_simp; try (with_reducible rfl))
        clear hst; have hst := hst2; clear hst2
        try simp only [Act.put, List.setIfInBounds_toArray, List.set_cons_zero, List.set_cons_succ]
        refine wpAnyG_take (i := 18) (v := ?_) rfl (by kernel_rfl) hst (by kernel_rfl) (by kernel_rfl) (fun _ _ _ h => h) hSS (Or.inl ⟨by rfl, ?_⟩) (fun hst2 => ?_)
        rotate_left
        · (intro w hSw; (try dsimp only at hSw); go_simp; try (with_reducible rfl))
        clear hst; have hst := hst2; clear hst2
        try simp only [Act.put, List.setIfInBounds_toArray, List.set_cons_zero, List.set_cons_succ]
        refine wpAnyG_one (i := 15) (by kernel_rfl) rfl (by kernel_rfl) hst (fun K hK => ?_)
        go_simp
        refine (pn_to (HP2.out.go (Below.refl _ _).drew) to_).mono ?_
        rintro e w21 ⟨A21, n21, c21, rfl, hn21, hr21, hb21⟩
        have b21 : Below wc.heap.size wc w21 := ((Below.refl _ wc).drew).trans hb21
        have HN21 := Lib.hid hn21
        clear hn21
        refine hK.out _ _ (HS.out _ b21) (fun hSS2 hst2 => ?_)
        clear hst hK K hSS
        have hst := hst2
        have hSS := hSS2
        clear hst2 hSS2
        try simp only [Act.put, List.setIfInBounds_toArray, List.set_cons_zero, List.set_cons_succ]
        refine wpAnyG_one (i := 19) (by kernel_rfl) rfl (by kernel_rfl) hst (fun K hK => ?_)
        go_simp
        refine (pn_rto (HP2.out.go b21) to_ (by have := HNP.out; omega)).mono ?_
        rintro e w22 ⟨A22, n22, c22, rfl, hn22, hr22, hb22⟩
        have b22 : Below wc.heap.size wc w22 := b21.trans (hb22.mono b21.size)
        rw [HTO.out] at hn22 hr22
        have HN22 := Lib.hid hn22
        clear hn22
        refine hK.out _ _ (HS.out _ b22) (fun hSS2 hst2 => ?_)
        clear hst hK K hSS
        have hst := hst2
        have hSS := hSS2
        clear hst2 hSS2
        try simp only [Act.put, List.setIfInBounds_toArray, List.set_cons_zero, List.set_cons_succ]
        refine wpAnyG_one (i := 20) (by kernel_rfl) rfl (by kernel_rfl) hst (fun K hK => ?_)
        go_simp
        refine (nums_same A21 A22 (nums (toN es2 to_)) n21 n22 c21 c22 w22.heap.size w22 HN21.out.symm HN22.out.symm (by have := HN21.out; have := HNL.out; omega) ((hr21.below hb22).more hb22.size) hr22).mono ?_
        rintro e w23 ⟨rfl, q23, rfl⟩
        have b23 : Below wc.heap.size wc (w22.drewN q23) := bDrewN b22 q23
        refine hK.out _ _ (HS.out _ b23) (fun hSS2 hst2 => ?_)
        clear hst hK K hSS
        have hst := hst2
        have hSS := hSS2
        clear hst2 hSS2
        try simp only [Act.put, List.setIfInBounds_toArray, List.set_cons_zero, List.set_cons_succ]
        clear hr21 hr22 hb21
        refine wpAnyG_take (i := 21) (v := ?_) rfl (by kernel_rfl) hst (by kernel_rfl) (by kernel_rfl) (fun _ _ _ h => h) hSS (Or.inl ⟨by rfl, ?_⟩) (fun hst2 => ?_)
        rotate_left
        · (intro w hSw; (try dsimp only at hSw); go_simp; try (with_reducible rfl))
        clear hst; have hst := hst2; clear hst2
        try simp only [Act.put, List.setIfInBounds_toArray, List.set_cons_zero, List.set_cons_succ]
        refine wpAnyG_take (i := 22) (v := ?_) rfl (by kernel_rfl) hst (by kernel_rfl) (by kernel_rfl) (fun _ _ _ h => h) hSS (Or.inl ⟨by rfl, ?_⟩) (fun hst2 => ?_)
        rotate_left
        · (intro w hSw; (try dsimp only at hSw); go_simp; try (with_reducible rfl))
        clear hst; have hst := hst2; clear hst2
        try simp only [Act.put, List.setIfInBounds_toArray, List.set_cons_zero, List.set_cons_succ]
        refine wpAnyG_take (i := 23) (v := ?_) rfl (by kernel_rfl) hst (by kernel_rfl) (by kernel_rfl) (fun _ _ _ h => h) hSS (Or.inl ⟨by rfl, ?_⟩) (fun hst2 => ?_)
        rotate_left
        · (intro w hSw; (try dsimp only at hSw); go_simp; try (with_reducible rfl))
        clear hst; have hst := hst2; clear hst2
        try simp only [Act.put, List.setIfInBounds_toArray, List.set_cons_zero, List.set_cons_succ]
        refine wpAnyG_take (i := 24) (v := ?_) rfl (by kernel_rfl) hst (by kernel_rfl) (by kernel_rfl) (fun _ _ _ h => h) hSS (Or.inl ⟨by rfl, ?_⟩) (fun hst2 => ?_)
        rotate_left
        · (intro w hSw; (try dsimp only at hSw); go_simp; try (with_reducible rfl))
        clear hst; have hst := hst2; clear hst2
        try simp only [Act.put, List.setIfInBounds_toArray, List.set_cons_zero, List.set_cons_succ]
        refine wpAnyG_take (i := 26) (v := ?_) rfl (by kernel_rfl) hst (by kernel_rfl) (by kernel_rfl) (fun _ _ _ h => h) hSS (Or.inl ⟨by rfl, ?_⟩) (fun hst2 => ?_)
        rotate_left
        · (intro w hSw; (try dsimp only at hSw); go_simp; try (with_reducible rfl))
        clear hst; have hst := hst2; clear hst2
        try simp only [Act.put, List.setIfInBounds_toArray, List.set_cons_zero, List.set_cons_succ]
        refine wpAnyG_take (i := 27) (v := ?_) rfl (by kernel_rfl) hst (by kernel_rfl) (by kernel_rfl) (fun _ _ _ h => h) hSS (Or.inl ⟨by rfl, ?_⟩) (fun hst2 => ?_)
        rotate_left
        · (intro w hSw; (try dsimp only at hSw); go_simp; try (with_reducible rfl))
        clear hst; have hst := hst2; clear hst2
        try simp only [Act.put, List.setIfInBounds_toArray, List.set_cons_zero, List.set_cons_succ]
        refine wpAnyG_take (i := 28) (v := ?_) rfl (by kernel_rfl) hst (by kernel_rfl) (by kernel_rfl) (fun _ _ _ h => h) hSS (Or.inl ⟨by rfl, ?_⟩) (fun hst2 => ?_)
        rotate_left
        · (intro w hSw; (try dsimp only at hSw); go_simp; try (with_reducible rfl))
        clear hst; have hst := hst2; clear hst2
        try simp only [Act.put, List.setIfInBounds_toArray, List.set_cons_zero, List.set_cons_succ]
        refine wpAnyG_take (i := 29) (v := ?_) rfl (by kernel_rfl) hst (by kernel_rfl) (by kernel_rfl) (fun _ _ _ h => h) hSS (Or.inl ⟨by rfl, ?_⟩) (fun hst2 => ?_)
        rotate_left
        · (intro w hSw; (try dsimp only at hSw); go_simp; try (with_reducible rfl))
        clear hst; have hst := hst2; clear hst2
        try simp only [Act.put, List.setIfInBounds_toArray, List.set_cons_zero, List.set_cons_succ]
        refine wpAnyG_one (i := 25) (by kernel_rfl) rfl (by kernel_rfl) hst (fun K hK => ?_)
        go_simp
        refine (pn_flight (HP2.out.go b23)).mono ?_
        rintro e w24 ⟨A24, n24, c24, fs, rfl, hn24, hl24, hfs, hr24, hb24⟩
        have b24 : Below wc.heap.size wc w24 := b23.trans (hb24.mono b23.size)
        have HFL := Lib.hid (flight_yes A24 A2 fs ps2 n24 np c24 cp2 w24 hn24 HNP.out.symm (by omega) (hfs.trans HEQ2.out) hr24 (HRD2.out.far b24))
        clear hn24 hfs hr24 hl24
        refine hK.out _ _ (HS.out _ b24) (fun hSS2 hst2 => ?_)
        clear hst hK K hSS
        have hst := hst2
        have hSS := hSS2
        clear hst2 hSS2
        try simp only [Act.put, List.setIfInBounds_toArray, List.set_cons_zero, List.set_cons_succ]
        refine wpAnyG_one (i := 30) (by kernel_rfl) rfl (by kernel_rfl) hst (fun K hK => ?_)
        go_simp
        refine HFL.out.mono ?_
        rintro e w26 ⟨rfl, hb26⟩
        have b26 : Below wc.heap.size wc w26 := b24.trans (hb26.mono b24.size)
        refine hK.out _ _ (HS.out _ b26) (fun hSS2 hst2 => ?_)
        clear hst hK K hSS
        have hst := hst2
        have hSS := hSS2
        clear hst2 hSS2
        try simp only [Act.put, List.setIfInBounds_toArray, List.set_cons_zero, List.set_cons_succ]
        refine wpAnyG_take (i := 31) (v := ?_) rfl (by kernel_rfl) hst (by kernel_rfl) (by kernel_rfl) (fun _ _ _ h => h) hSS (Or.inl ⟨by rfl, ?_⟩) (fun hst2 => ?_)
        rotate_left
        · (intro w hSw; (try dsimp only at hSw); go_simp; try (with_reducible rfl))
        clear hst; have hst := hst2; clear hst2
        try simp only [Act.put, List.setIfInBounds_toArray, List.set_cons_zero, List.set_cons_succ]
        refine wpAnyG_last (i := 32) (by kernel_rfl) rfl (by kernel_rfl) (by kernel_rfl) (fun K hK => ?_)
        go_simp
        refine hK.out _ _ ?_
        have HPF := Lib.hid ((HP2.out.go b26).anew (K' := fun _ => False) (Below.refl _ _) (fun i hi => hi.elim))
        clear hK K hst hSS b21 b22 b23 b24 hb24 hb26 b26 HFL
        go_wp2
        go_roundw
        case rel => exact ⟨k + 1, es2, ps2, sent2, by go_num, by omega, hs2, hl2, HEQ2.out, HPF.out⟩
        case measure => simp [intOf]; omega
    · obtain rfl : k = n := by omega
      have HBW := Lib.hid hpr.facts.2
      clear hpr
      go_wp2
      go_ret
      exact ⟨rfl, HBW.out⟩
end Go.Proofs.Ytnleeffajljodaa
end
