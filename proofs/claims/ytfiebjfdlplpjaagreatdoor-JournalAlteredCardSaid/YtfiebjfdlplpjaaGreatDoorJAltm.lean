/- Bits turned within 32 side by side of a segment are seen: what is left is a first part. -/
import Derived.Test.YtfiebjfdlplpjaaGreatDoorQ18
import Derived.Test.YtfiebjfdlplpjaaGreatDoorM02
namespace Go.Proofs.YtfiebjfdlplpjaaGreatDoor
open Go.RowKit
set_option linter.unusedVariables false

theorem tns_stop (r X : Nat) (L : List Int) {i : Nat} (h : 8 * L.length ≤ r + i) : ∀ k, tns r X (i + k) L = tns r X i L
  | 0 => rfl
  | k + 1 => by
    rw [← Nat.add_assoc, tns, if_neg (fun hc => by have := hc.2; omega)]
    exact tns_stop r X L h k
theorem tns_end (r X : Nat) (L : List Int) {i : Nat} (hi : i ≤ 32) (h : i = 32 ∨ 8 * L.length ≤ r + i) : tns r X i L = tns r X 32 L := by
  rcases h with rfl | h
  · rfl
  · have := tns_stop r X L h (32 - i)
    rw [show i + (32 - i) = 32 by omega] at this
    exact this.symm
/-- was a bit turned? -/
theorem tns_told (r X : Nat) (hX : X < 4294967296) {L : List Int} (hL : Byt L) {i : Nat} (h : r + i ≤ 8 * L.length ∨ i = 0) : (X % 2 ^ i = 0 → tns r X i L = L) ∧ (X % 2 ^ i ≠ 0 → tns r X i L ≠ L) := by
  have e : brs r X i L.length = X % 2 ^ i := by
    unfold brs
    rcases h with h | rfl
    · rw [show min i (8 * L.length - r) = i by omega]
    · rw [Nat.zero_min]
  refine ⟨fun h0 => tns_none r X i rfl (by rw [e]; exact h0), fun h1 h2 => ?_⟩
  exact tns_seen hX hL (n := i) (r := r) (by rw [e]; exact h1) (by rw [h2])
section
variable {w0 w w' : World} {S T S' T' : Nat → Prop} {j d : Nat} {D D' : Dsk} {J J' : Jn}
theorem at_turn5 (h : At5 w0 w S T j d D J) (hok : Okd D) (s : ByteArray) (hs : s.size ≤ 9223372036854775807) (i c : Int) :
    Calls Tryz.prog 26 #[.pointer (some ⟨d, 0, none⟩), .string s, .int .i64 i, .int .u8 c] w fun e w' => e = .returned (.int .i64 (dTurn (xr c) D (lst s) i).1) ∧ ∃ S', At5 w0 w' S' T j d (dTurn (xr c) D (lst s) i).2 J :=
  (turn_any s hs i c w h.jd.dk hok).mono fun e w' ⟨h1, S', h2, h3⟩ => ⟨h1, S', h.disk h2 h3⟩
theorem pick_zero (x : Int) (w : World) : Calls Tryz.prog 23 #[.int .i64 x, .int .i64 0] w fun e w' => e = .returned (.int .i64 0) ∧ w' = w := by
  go_enter Tryz.func23, Tryz.ntmps23
  go_wp2
  go_returns
  exact ⟨by simp, rfl⟩
theorem pick5 (x : Int) (n : Nat) (w : World) (h2 : n ≤ 4611686018427387904) (hx : -9223372036854775808 ≤ x ∧ x ≤ 9223372036854775807) :
    Calls Tryz.prog 23 #[.int .i64 x, .int .i64 n] w fun e w' => (∃ r : Nat, e = .returned (.int .i64 r) ∧ (r < n ∨ (n = 0 ∧ r = 0))) ∧ w' = w := by
  rcases Nat.eq_zero_or_pos n with rfl | hn
  · exact (pick_zero x w).mono fun e w' ⟨h1, h2⟩ => ⟨⟨0, h1, .inr ⟨rfl, rfl⟩⟩, h2⟩
  · exact (pick_any x n w (by omega) (by omega) hx).mono fun e w' ⟨⟨r, h1, h3⟩, h2⟩ => ⟨⟨r, h1, .inl (by omega)⟩, h2⟩
theorem sync_keeps {l : Nm} {m : Nm} (h : (find D.files m).isSome) : (find (jSync l D J).2.1.files m).isSome := by
  have key : ∀ n, (find (dSync D n).2.files m).isSome := fun n => by
    unfold dSync
    split
    · exact h
    · split
      · exact h
      · rcases dStep_two D (upd n (fun f => { f with sy := f.bs.length })) with e | ⟨_, e, _⟩
        · rw [e]
          exact h
        · rw [e, find_upd _ _ _ (fun f => ({ f with sy := f.bs.length } : Fl)) (fun _ => rfl)]
          simpa using h
  unfold jSync
  split
  · exact h
  · unfold jSyncLast
    split
    · exact h
    · exact key _
theorem sync_free {l : Nm} (hF : Free D) (hj : J.off = false) : (jSync l D J).1 ≠ 10 ∧ Free (jSync l D J).2.1 := by
  unfold jSync
  rw [if_neg (by simp [jRefused, hj, hF.on])]
  exact hF.syncLast
end
/-- within the loop: i records appended -/
structure Lpa (D : Dsk) (J : Jn) (M : List (List Int)) (i : Nat) : Prop where
  st : St5 lLog D J (M.take i) 0
  free : Free D
  only : OnlyF lLog D
  used : used D.files ≤ i * 3012
  room : D.room = 1048576
  steps : D.steps ≤ i * 3020

set_option maxHeartbeats 8000000 in
set_option maxRecDepth 10000 in
theorem jalt_walk (Al : Option Addr) (ys : List RcM) (n cl : Nat) (sg at_ : Int) (X : Nat) (w : World) (hp : Pow w) (hn : ys.length = n) (hnl : n ≤ 9223372036854775807) (hncl : n ≤ cl) (hbyt : ∀ y ∈ ys, Byt y.r) (hlens : ∀ y ∈ ys, y.r.length ≤ 9223372036854775807) (hrl : Rds w w.heap.size Al (cR ys)) (hbd : ∀ y ∈ ys, Rds w w.heap.size y.A (c8 y.r))
    (hsg : -9223372036854775808 ≤ sg ∧ sg ≤ 9223372036854775807) (hat : -9223372036854775808 ≤ at_ ∧ at_ ≤ 9223372036854775807) (hX : X < 4294967296) :
    Calls Tryz.prog 6 #[.slice Al n cl, .int .i64 sg, .int .i64 at_, .int .u32 X] w fun e w' => e = .returned (.bool true) ∧ Below w.heap.size w w' := by
  have hlv := lives5_any w hp
  go_enter Tryz.func6, Tryz.ntmps6
  go_wp2_with fail
  refine hlv.mono ?_
  rintro e w1 ⟨rfl, hb1⟩
  clear hlv
  go_wp2_with fail
  refine (new_any 1048576 (by decide) w1).mono ?_
  rintro e w2 ⟨S2, d, rfl, hk2, hb2, hS2⟩
  have hb2' := hb1.trans (hb2.mono hb1.size)
  have hS2' : ∀ k, S2 k → w.heap.size ≤ k := fun k hk => Nat.le_trans hb1.size (hS2 k hk)
  clear hb1 hb2 hS2
  by_cases hbig : n ≤ 120
  · have hnb : ¬ (120 : Int) < (n : Int) := by omega
    have hop := at_open w2 hb2' hk2 hS2' hp (new_inv 1048576 (by decide)) rfl (by decide) (by rw [(bare_new 1048576).open_.1])
    rw [(bare_new 1048576).open_.1, (bare_new 1048576).open_.2] at hop
    clear hk2 hb2' hS2'
    go_wp2_with fail
    refine hop.mono ?_
    rintro e w3 ⟨j, S3, T3, rfl, h4⟩
    clear hop
    have hlp0 : Lpa (dNew 1048576) (jnOf []) (ys.map RcM.r) 0 := ⟨st_new _ (by decide), free_new _, only_new _, Nat.le_refl _, rfl, Nat.le_refl _⟩
    generalize dNew 1048576 = D0' at *
    go_wp2_with fail
    go_loopw [12] (fun i wr => ∃ (k : Nat) (S T : Nat → Prop) (D : Dsk) (J : Jn), k ≤ n ∧ i = .int .i64 k ∧ At5 w wr S T j d D J ∧ Lpa D J (ys.map RcM.r) k) (fun i _ => n - (intOf i).toNat)
    case atStart => exact ⟨0, _, _, _, _, Nat.zero_le _, rfl, h4, hlp0⟩
    case round =>
      obtain ⟨k, S, T, D, J, hk, rfl, hA0, hlp⟩ := hrel
      clear h4 hlp0
      by_cases hlt : k < n
      · have hky : k < ys.length := by omega
        obtain ⟨ad, rfl, _, hc0⟩ := ((hrl.below hA0.below).more hA0.below.size).at_ (cR_get hky)
        obtain ⟨hrg, hout⟩ := hA0.arg (hbd _ (List.getElem_mem hky))
        have hbg := hbyt _ (List.getElem_mem hky)
        have hMk : (ys.map RcM.r)[k]? = some ys[k].r := by simp [hky]
        unfold RcM.v at hc0
        generalize hyr : ys[k].r = b at *
        generalize ys[k].A = Ab at *
        generalize ys[k].c = cb at *
        by_cases hsm : b.length ≤ 3000
        · have hsmn : ¬ (3000 : Int) < (b.length : Int) := by omega
          have hgood : Goodr b := ⟨hbg, by omega⟩
          have hst := hlp.st
          have hLn : ((ys.map RcM.r).take k).length = k := by rw [List.length_take, List.length_map]; omega
          have hfit := hst.fits (by rw [hLn]; omega)
          have hu := hlp.used
          have hroom := hlp.room
          have hsteps := hlp.steps
          have hap := at_append Ab b b.length cb hA0 hst.inv.ok (by omega) hfit.1 hfit.2 rfl hbg (by omega) hrg hout
          obtain ⟨q1, q2, q3, q4, q5, q6, q7⟩ := app_free hst hlp.free hgood (by omega) (by rw [hLn]; omega)
          have q8 := only_append (J := J) (b := b) hlp.only
          have htk : (ys.map RcM.r).take k ++ [b] = (ys.map RcM.r).take (k + 1) := by rw [List.take_add_one, hMk]; rfl
          rw [htk] at q3
          have hlp1 : Lpa (jAppend lLog D J b).2.2.1 (jAppend lLog D J b).2.2.2 (ys.map RcM.r) (k + 1) := ⟨q3, q4, q8, by omega, by omega, by omega⟩
          rw [q1] at hap
          clear hrg hout hbg hMk hyr hgood hlp hA0
          go_wp2_with fail
          refine hap.mono ?_
          rintro e wx ⟨rfl, Sx, Tx, hA1⟩
          generalize (jAppend lLog D J b).2.2.1 = D1 at *
          generalize (jAppend lLog D J b).2.2.2 = J1 at *
          generalize (jAppend lLog D J b).1 = nu at *
          clear hap q1 q2 q3 q4 q5 q6 q7 q8 hst hfit hu hroom hsteps hLn htk
          go_wp2
          go_roundw
          case rel => exact ⟨k + 1, _, _, _, _, by omega, by go_num, hA1, hlp1⟩
          case measure => simp [intOf]; omega
        · have hsmn : (3000 : Int) < (b.length : Int) := by omega
          go_wp2
          go_returns
          exact ⟨by simp, hA0.below⟩
      · have hkn : k = n := by omega
        have hst := hlp.st
        have hMn : (ys.map RcM.r).take k = ys.map RcM.r := List.take_of_length_le (by rw [List.length_map]; omega)
        rw [hMn] at hst
        have hLn : (ys.map RcM.r).length = n := by rw [List.length_map]; exact hn
        have hfit := hst.fits (by omega)
        have hu := hlp.used
        have hroom := hlp.room
        have hsteps := hlp.steps
        have hF := hlp.free
        have hOn := hlp.only
        clear hlp
        have hnm := names_on wr hA0.jd.dk (show D.steps ≤ 1099511627776 by omega) hst.inv.ok.srt
        have hdn : dNames D = names D := by unfold dNames; rw [hF.on]; rfl
        rw [hdn] at hnm
        go_wp2_with fail
        refine hnm.mono ?_
        rintro e w5 ⟨v, rfl, hown, hb5⟩
        obtain ⟨An, cn, rfl⟩ := row_any hown
        have hA := hA0.go hb5
        have hltS := hA0.jd.dk.lt
        have hltT := hA0.jd.jo.lt
        clear hnm hb5 hA0
        have hsy := jsync_any w5 hA.jd (okd_room hst.inv.ok (by omega)) hfit.1
        rw [lst_log] at hsy
        have hsp := jSync_steps (l := lLog) hst.inv.ok J
        obtain ⟨hus, hro, hcase⟩ := hst.sync okLog
        obtain ⟨hs10, hF2⟩ := sync_free (l := lLog) hF hst.jon
        have hOn2 := only_sync5 (J := J) hOn
        have hkeep : ∀ m, (find D.files m).isSome → (find (jSync lLog D J).2.1.files m).isSome := fun m h => sync_keeps h
        have hst2 : (jSync lLog D J).1 = 0 ∧ St5 lLog (jSync lLog D J).2.1 (jSync lLog D J).2.2 (ys.map RcM.r) (ys.map RcM.r).length := by
          rcases hcase with h | h
          · exact h
          · exact absurd h.1 hs10
        obtain ⟨hs0, hst2⟩ := hst2
        rw [hs0] at hsy
        -- names on the disk: just where records are
        have hne : names D = [] → n = 0 := fun h0 => by
          rcases hst.st with ⟨_, _, hL, _⟩ | ⟨ps, s, hL, _, _⟩
          · rw [hL] at hLn
            simpa using hLn.symm
          · obtain ⟨f, hf, _⟩ := hL.last
            have h1 : (find D.files (segN lLog s.num)).isSome := by rw [hf]; rfl
            have h2 := find_isSome.1 h1
            have h3 : D.files.map (·.nm) = [] := h0
            rw [h3] at h2
            cases h2
        have hHN := Lib.hid hown
        have hnl40 : (names D).length ≤ 1099511627776 := by
          have := hst.inv.few
          unfold names
          rw [List.length_map]
          omega
        go_wp2_with fail
        refine hsy.mono ?_
        rintro e w6 ⟨rfl, S6, hj6, ht6⟩
        have hA6 := hA.turn hj6 ht6
        have hown6 : w6.ownsRow wr.heap.size 9 1 (.slice An (names D).length cn) (names D).length (cS (names D)) := ownRow_block_kept hown fun g hg => by
          have h1 := ownRow_block hown hg
          refine ht6.outs.block g h1.2.1 ?_
          rintro (hh | hh)
          · have := hltS g hh; omega
          · have := hltT g hh; omega
        have hrn := Rds.ofOwn hown6
        clear hown hown6 hltS hltT ht6 hj6
        have hu2 : used (jSync lLog D J).2.1.files ≤ n * 3012 := by rw [hus]; rw [← hkn]; exact hu
        have hr2 : (jSync lLog D J).2.1.room = 1048576 := by rw [hro]; exact hroom
        have hs2 : (jSync lLog D J).2.1.steps ≤ 400000 := by omega
        have hlist : ∀ m ∈ names D, (find (jSync lLog D J).2.1.files m).isSome := fun m hm => hkeep m (find_isSome.2 hm)
        generalize (jSync lLog D J).2.1 = D2 at *
        generalize (jSync lLog D J).2.2 = J2 at *
        clear hsy hsp hus hro hcase hs10 hs0 hfit hu hroom hsteps hF hOn hst hkeep hdn hA hHN
        generalize names D = NS at *
        generalize hN : NS.length = N at *
        by_cases hz : N = 0
        · have hn0 : n = 0 := hne (List.eq_nil_of_length_eq_zero (by rw [hN, hz]))
          have hzI : (N : Int) = 0 := by omega
          have hnI : (n : Int) = 0 := by omega
          have HB := Lib.hid hA6.below
          clear hA6 hlist hrn hne hrl hbd hlens hbyt
          subst hz
          go_wp2
          go_returns
          exact ⟨by simp, HB.out⟩
        · have hzI : ¬ (N : Int) = 0 := by omega
          have hpk := pick5 sg N w6 (by omega) hsg
          clear hne
          go_wp2_with fail
          refine hpk.mono ?_
          rintro e w7 ⟨⟨r, rfl, hr⟩, hw7⟩
          rw [hw7]
          clear hw7 w7 hpk
          have hrN : r < NS.length := by omega
          obtain ⟨ad, rfl, _, hc0⟩ := hrn.at_ (cS_get hrN)
          have hfn := hlist _ (List.getElem_mem hrN)
          rw [show encStr NS[r] = .string (strOf NS[r]) from rfl] at hc0
          have hrI : (r : Int) < (N : Int) := by omega
          clear hlist hrn
          generalize NS[r] = nm at *
          have hnmo : okN nm = true := by
            obtain ⟨f, hf⟩ := Option.isSome_iff_exists.1 hfn
            have h1 := (find_some hf)
            rw [← h1.2]
            exact hst2.inv.ok.nms f h1.1
          have hsz : (strOf nm).size ≤ 9223372036854775807 := by
            obtain ⟨k', _, rfl⟩ := hOn2 nm hfn
            have := seg_size (s := nLog) okLog k'
            rw [lst_log] at this
            omega
          have hrd := read_any (strOf nm) hsz w6 hA6.jd.dk (len30 hst2.inv.ok)
          rw [lst_strOf] at hrd
          have hdr : dRead D2 nm = (byts D2 nm, 0) := by
            obtain ⟨f, hf⟩ := Option.isSome_iff_exists.1 hfn
            unfold dRead byts
            rw [if_neg (by simp [ask, hF2.on, hnmo]), hf]
          rw [hdr] at hrd
          go_wp2_with fail
          refine hrd.mono ?_
          rintro e w7 ⟨v, rfl, hown7, hb7⟩
          obtain ⟨Ab, cb, rfl⟩ := row_any hown7
          have hA7 := hA6.go hb7
          clear hrd hown7 hb7 hA6 hdr
          have hbl : (byts D2 nm).length ≤ 1073741824 := by
            obtain ⟨f, hf⟩ := Option.isSome_iff_exists.1 hfn
            have := len30 hst2.inv.ok nm f hf
            unfold byts
            rw [hf]
            exact this
          generalize hB : (byts D2 nm).length = B at *
          have hpk := pick5 at_ (8 * B) w7 (by omega) hat
          rw [show ((8 * B : Nat) : Int) = 8 * (B : Int) by omega] at hpk
          go_wp2_with fail
          refine hpk.mono ?_
          rintro e w8 ⟨⟨fr, rfl, hfr⟩, hw8⟩
          rw [hw8]
          clear hw8 w8 hpk
          go_wp2_with fail
          have hby : Byt (byts D2 nm) := by
            obtain ⟨f, hf⟩ := Option.isSome_iff_exists.1 hfn
            unfold byts
            rw [hf]
            exact hst2.inv.byt f (find_some hf).1
          have HBY := Lib.hid hby
          have HFR := Lib.hid hfr
          clear hby hfr
          have hA8 : At5 w w7 S6 T j d (td D2 nm fr X 0) J2 := by rw [td_zero]; exact hA7
          have hok0 : Okd (td D2 nm fr X 0) := by rw [td_zero]; exact hst2.inv.ok
          go_loopw [20, 21] (fun t q wr2 => ∃ (i : Nat) (tb : Bool) (S7 : Nat → Prop), i ≤ 32 ∧ q = .int .i64 i ∧ t = .bool tb ∧ tb = decide (X % 2 ^ i ≠ 0) ∧ (fr + i ≤ 8 * B ∨ i = 0) ∧ At5 w wr2 S7 T j d (td D2 nm fr X i) J2 ∧ Okd (td D2 nm fr X i)) (fun _ q _ => 32 - (intOf q).toNat)
          case atStart => exact ⟨0, false, _, by omega, rfl, rfl, by simp [Nat.mod_one], .inr rfl, hA8, hok0⟩
          case round =>
            obtain ⟨i, tb, S7, hi32, rfl, rfl, htb, hin, hA9, hok9⟩ := hrel
            clear hA8 hok0 hA7
            have HTB := Lib.hid htb
            clear htb
            have hm := bit_key X i hX
            by_cases hend : i < 32 ∧ fr + i < 8 * B
            · obtain ⟨hlt32, hinB⟩ := hend
              have hinI : (fr : Int) + (i : Int) < 8 * (B : Int) := by omega
              have HBT := Lib.hid (mod_bit X i)
              rcases Nat.mod_two_eq_zero_or_one (X / 2 ^ i) with hbit | hbit
              · rw [hbit] at hm
                have HBIT := Lib.hid hbit
                clear hbit
                have hsame : td D2 nm fr X (i + 1) = td D2 nm fr X i := td_same (by rw [HBIT.out]; decide)
                rw [← hsame] at hA9 hok9
                clear hsame
                go_wp2_with (simp only [hm])
                go_roundw
                case rel =>
                  have h := HBT.out
                  rw [if_neg (by rw [HBIT.out]; decide), Nat.xor_zero] at h
                  exact ⟨i + 1, tb, S7, by omega, by go_num, rfl, by rw [h]; exact HTB.out, .inl (by omega), hA9, hok9⟩
                case measure => first | omega | (simp [intOf]; omega)
              · rw [hbit] at hm
                have HBIT := Lib.hid hbit
                clear hbit
                go_wp2_with (simp only [hm])
                obtain ⟨f, hf⟩ := Option.isSome_iff_exists.1 hfn
                have hfb : byts D2 nm = f.bs := by unfold byts; rw [hf]
                have hBf : f.bs.length = B := by rw [← hfb]; exact hB
                have htt := td_turn (r := fr) (X := X) (i := i) hst2.inv.ok hnmo hf (by rw [← hfb]; exact HBY.out) HBIT.out (by rw [hBf]; exact hinB)
                have hct := at_turn5 hA9 hok9 (strOf nm) hsz (((fr + i) / 8 : Nat) : Int) (2 ^ ((fr + i) % 8) % 256)
                rw [lst_strOf, htt, show (((fr + i) / 8 : Nat) : Int) = ((fr : Int) + (i : Int)) / 8 by omega] at hct
                have hokn : Okd (td D2 nm fr X (i + 1)) := by
                  have := okd_turn hok9 (xr (2 ^ ((fr + i) % 8) % 256)) nm (((fr + i) / 8 : Nat) : Int)
                  rw [htt] at this
                  exact this
                clear htt hf hfb hBf hA9 hok9
                refine hct.mono ?_
                rintro e wx ⟨rfl, S8, hA10⟩
                clear hct
                go_wp2
                go_roundw
                case rel =>
                  have h := HBT.out
                  rw [if_pos (by rw [HBIT.out])] at h
                  refine ⟨i + 1, true, S8, by omega, by go_num, rfl, ?_, .inl (by omega), hA10, hokn⟩
                  rw [eq_comm, decide_eq_true_eq]
                  have h2 := Nat.mod_pow_succ (x := X) (b := 2) (k := i)
                  rw [HBIT.out] at h2
                  have h3 : 0 < 2 ^ i := Nat.pow_pos (by decide)
                  omega
                case measure => first | omega | (simp [intOf]; omega)
            · have hend2 : i = 32 ∨ 8 * B ≤ fr + i := by omega
              have hfrI : (fr : Int) ≤ 8589934592 := by have := HFR.out; omega
              have htl := tns_end fr X (byts D2 nm) hi32 (by rw [hB]; exact hend2)
              have htold := tns_told fr X hX HBY.out (i := i) (by rw [hB]; exact hin)
              have hfound := alt_found hst2 hF2 hOn2 okLog hfn (r := fr) (X := X) (i := i) hX htl (by omega) hok9
              have hinv9 := td_inv hst2.inv hok9
              have hstp : (td D2 nm fr X i).steps ≤ 1048576 := by show D2.steps ≤ _; omega
              have hoff9 : (td D2 nm fr X i).off = false := hF2.on
              have hdk9 := hA9.jd.dk
              have hb9 := hA9.below
              have hns9 := hA9.ns
              have hop := at_open wr hb9 hdk9 hns9 hp hinv9 hoff9 hstp hfound.1
              obtain ⟨hft, hls⟩ := opened_fits (l := lLog) hinv9 hstp
              obtain ⟨_, hjall⟩ := hfound
              have hres : jAll (opened lLog (td D2 nm fr X i)) = (ys.map RcM.r).take (jAll (opened lLog (td D2 nm fr X i))).length ∧ (tb = true ↔ (jAll (opened lLog (td D2 nm fr X i))).length < n) ∧ (jAll (opened lLog (td D2 nm fr X i))).length ≤ n := by
                rcases hjall with ⟨h1, h2⟩ | ⟨h1, k', hk', h2⟩
                · rw [h2]
                  have htf : tb = false := by
                    rw [HTB.out]
                    refine decide_eq_false fun h3 => ?_
                    exact htold.2 h3 h1
                  rw [htf, hLn]
                  exact ⟨(List.take_of_length_le (by omega)).symm, by simp, Nat.le_refl _⟩
                · have hl2 : (jAll (opened lLog (td D2 nm fr X i))).length = k' := by rw [h2, List.length_take]; omega
                  have htt : tb = true := by
                    rw [HTB.out]
                    refine decide_eq_true fun h3 => ?_
                    exact h1 (htold.1 h3)
                  rw [hl2, htt]
                  exact ⟨h2, by simp; omega, by omega⟩
              clear hjall htold htl hinv9 hstp hoff9 hdk9 hns9 hok9 hA9 hend hin hm HTB HBY HFR hst2 hF2 hOn2 hfn hu2 hr2 hs2
              generalize (jOpen lLog (td D2 nm fr X i)).2 = Df at *
              generalize opened lLog (td D2 nm fr X i) = Jf at *
              obtain ⟨hr1, hr2, hr3⟩ := hres
              rcases Nat.lt_or_ge i 32 with h32 | h32
              · have hI32 : (i : Int) < 32 := by omega
                have hJ32 : ¬ (fr : Int) + (i : Int) < 8 * (B : Int) := by omega
                go_wp2_with fail
                refine hop.mono ?_
                rintro e wo ⟨jo, So, To, rfl, ho⟩
                clear hop
                have hAll := jall_any wo ho.jd hft (by omega) (fun x hx r hr => by have := hls x hx r hr; omega)
                clear hft hls
                go_wp2_with fail
                refine hAll.mono ?_
                rintro e wa ⟨v, zs, rfl, hzs, hAt⟩
                clear hAll
                obtain ⟨Aa, ca, rfl⟩ := row_any hAt.row
                have hzl : (jAll Jf).length = zs.length := by rw [← hzs, List.length_map]
                rw [hzl] at hr1 hr2 hr3
                have hzc : (zs.length : Int) ≤ cl := by omega
                have hzn : (zs.length : Int) ≤ n := by omega
                have hb0 := ho.below.trans (hAt.below.mono ho.below.size)
                have hsl := sameLists_yes Aa Al zs (ys.take zs.length) zs.length zs.length ca cl wa.heap.size wa rfl (by rw [List.length_take]; omega) (by omega)
                  (by rw [hzs, hr1, List.map_take])
                  (fun x hx => by
                    have h1 := hAt.bods x hx
                    have h2 : x.r ∈ jAll Jf := by rw [← hzs]; exact List.mem_map_of_mem hx
                    rw [hr1] at h2
                    obtain ⟨y, hy, e⟩ := List.mem_map.1 (List.mem_of_mem_take h2)
                    rw [← e]
                    exact hlens y hy)
                  (Rds.ofOwn hAt.row)
                  (by
                    have := (hrl.below hb0).more hb0.size
                    rw [show cR (ys.take zs.length) = (cR ys).take zs.length by simp [cR, List.map_take]]
                    exact this.take _)
                  (fun x hx => Rds.ofOwn (hAt.bods x hx))
                  (fun y hy => ((hbd y (List.mem_of_mem_take hy)).below hb0).more hb0.size)
                have HB := Lib.hid hb0
                clear hr1 hzs hAt ho hb0 hzl
                go_wp2_with fail
                refine hsl.mono ?_
                rintro e ws ⟨rfl, q, rfl⟩
                have HB2 := Lib.hid (bDrewN HB.out q)
                clear hsl HB
                generalize wa.drewN q = wz at *
                have HR2 := Lib.hid hr2
                clear hr2
                go_wp2
                go_returns
                refine ⟨?_, HB2.out⟩
                cases tb with
                | false =>
                  have h1 : ¬ zs.length < n := fun h => by
                    have := HR2.out.2 h
                    cases this
                  have h2 : (zs.length : Int) = (n : Int) := by omega
                  simp [h2]
                | true =>
                  have h1 : zs.length < n := HR2.out.1 rfl
                  have h2 : ¬ (zs.length : Int) = (n : Int) := by omega
                  simp [h2]
              · have hI32 : ¬ (i : Int) < 32 := by omega
                go_wp2_with fail
                refine hop.mono ?_
                rintro e wo ⟨jo, So, To, rfl, ho⟩
                clear hop
                have hAll := jall_any wo ho.jd hft (by omega) (fun x hx r hr => by have := hls x hx r hr; omega)
                clear hft hls
                go_wp2_with fail
                refine hAll.mono ?_
                rintro e wa ⟨v, zs, rfl, hzs, hAt⟩
                clear hAll
                obtain ⟨Aa, ca, rfl⟩ := row_any hAt.row
                have hzl : (jAll Jf).length = zs.length := by rw [← hzs, List.length_map]
                rw [hzl] at hr1 hr2 hr3
                have hzc : (zs.length : Int) ≤ cl := by omega
                have hzn : (zs.length : Int) ≤ n := by omega
                have hb0 := ho.below.trans (hAt.below.mono ho.below.size)
                have hsl := sameLists_yes Aa Al zs (ys.take zs.length) zs.length zs.length ca cl wa.heap.size wa rfl (by rw [List.length_take]; omega) (by omega)
                  (by rw [hzs, hr1, List.map_take])
                  (fun x hx => by
                    have h1 := hAt.bods x hx
                    have h2 : x.r ∈ jAll Jf := by rw [← hzs]; exact List.mem_map_of_mem hx
                    rw [hr1] at h2
                    obtain ⟨y, hy, e⟩ := List.mem_map.1 (List.mem_of_mem_take h2)
                    rw [← e]
                    exact hlens y hy)
                  (Rds.ofOwn hAt.row)
                  (by
                    have := (hrl.below hb0).more hb0.size
                    rw [show cR (ys.take zs.length) = (cR ys).take zs.length by simp [cR, List.map_take]]
                    exact this.take _)
                  (fun x hx => Rds.ofOwn (hAt.bods x hx))
                  (fun y hy => ((hbd y (List.mem_of_mem_take hy)).below hb0).more hb0.size)
                have HB := Lib.hid hb0
                clear hr1 hzs hAt ho hb0 hzl
                go_wp2_with fail
                refine hsl.mono ?_
                rintro e ws ⟨rfl, q, rfl⟩
                have HB2 := Lib.hid (bDrewN HB.out q)
                clear hsl HB
                generalize wa.drewN q = wz at *
                have HR2 := Lib.hid hr2
                clear hr2
                go_wp2
                go_returns
                refine ⟨?_, HB2.out⟩
                cases tb with
                | false =>
                  have h1 : ¬ zs.length < n := fun h => by
                    have := HR2.out.2 h
                    cases this
                  have h2 : (zs.length : Int) = (n : Int) := by omega
                  simp [h2]
                | true =>
                  have h1 : zs.length < n := HR2.out.1 rfl
                  have h2 : ¬ (zs.length : Int) = (n : Int) := by omega
                  simp [h2]
  · have hnb : (120 : Int) < (n : Int) := by omega
    clear hbyt hlens hbd
    go_wp2
    go_returns
    exact ⟨by simp, hb2'⟩

open Go.ChangeShapes Go.WideShapes Go.ChangeAt
set_option maxRecDepth 100000 in
theorem jalt_contract (H : Type) (enc : TypeId × Value → H) (W : World) (base : Nat) (args : Array Value) (ds gs : List (DataW H)) (before : List MemPlace)
    (hval0 : ∀ (j : Nat) t v, Tryz.f6.params[j]? = some t → args[j]? = some v → Value.okWide Tryz.prog W .any base t v)
    (hW : DataW.Whole enc Tryz.prog Tryz.f6.params.toList Rows.journalAlteredSpec.vars false W args.toList ds gs before) (hsz : (DataW.weightsEach Tryz.prog (Tryz.f6.params.toList ++ Rows.journalAlteredSpec.plain.varTypes Tryz.prog) (ds ++ gs)).all (· ≤ reachBytes) = true) (hp : Pow W) :
    Calls Tryz.prog 6 args W fun e W2 => ∃ v, e = .returned v ∧ Rows.journalAlteredSpec.post enc Tryz.prog Tryz.f6 false true false false W args v W2 := by
  have hval : ∀ (j : Nat) t v, Tryz.f6.params[j]? = some t → args[j]? = some v → Value.okWide Tryz.prog W .any base t v := hval0
  have hW' := hW
  obtain ⟨p, q, hA0, hV, rfl, _, _⟩ := hW
  have hA : DataW.TrodAll enc Tryz.prog W 0 (fun _ => true) true Tryz.f6.params.toList args.toList ds p := hA0
  rw [Tryz.params6] at hA hval hsz
  obtain ⟨v0, vs0, d0, ds0, p0, q0, hargs, rfl, rfl, h0, r0⟩ := trodAll_cons hA
  obtain ⟨v1, vs1, d1, ds1, p1, q1, rfl, rfl, rfl, h1, r1⟩ := trodAll_cons r0
  obtain ⟨v2, vs2, d2, ds2, p2, q2, rfl, rfl, rfl, h2, r2⟩ := trodAll_cons r1
  obtain ⟨v3, vs3, d3, ds3, p3, q3, rfl, rfl, rfl, h3, r3⟩ := trodAll_cons r2
  obtain ⟨rfl, rfl, rfl⟩ := trodAll_nil r3
  obtain rfl : args = #[v0, v1, v2, v3] := by cases args; simp_all
  obtain ⟨A0, ys0, c0, hy0⟩ := open_lists (hval 0 37 v0 rfl rfl) h0
  obtain rfl := hy0.val
  obtain ⟨a1, rfl, rfl, rfl, w1⟩ := open_int Tryz.underlying3 (hval 1 3 v1 rfl rfl) h1
  have b1 := bounds_i64 w1
  obtain ⟨a2, rfl, rfl, rfl, w2⟩ := open_int Tryz.underlying3 (hval 2 3 v2 rfl rfl) h2
  have b2 := bounds_i64 w2
  obtain ⟨a3, rfl, rfl, rfl, w3⟩ := open_int Tryz.underlying60 (hval 3 60 v3 rfl rfl) h3
  have b3 := bounds_u32 w3
  exact law_close laid rfl hW' (by kernel_rfl) rfl Tryz.underlying4 rfl (by obtain ⟨X, rfl⟩ : ∃ X : Nat, a3 = X := ⟨a3.toNat, by omega⟩; exact jalt_walk A0 ys0 ys0.length c0 a1 a2 X W hp rfl hy0.len hy0.cap hy0.byt hy0.lens hy0.rds hy0.bods b1 b2 (by omega))

theorem jalt_reads (os : Os) {H : Type} (enc : TypeId × Value → H) : ∃ places, DataW.whole enc Tryz.prog ((laidWorld os).forCall (fun _ _ => 0) ⟨#[], #[.slice none 0 0, .int .i64 0, .int .i64 0, .int .u32 0], []⟩).memory Tryz.f6.params.toList Rows.journalAlteredSpec.vars false (#[.slice none 0 0, .int .i64 0, .int .i64 0, .int .u32 0] : Array Value).toList 8 = some ([.nil, .lit (.int .i64 0), .lit (.int .i64 0), .lit (.int .u32 0)], [], places) :=
  ⟨[], by kernel_rfl⟩

set_option maxRecDepth 100000 in
theorem jalt_lifted (os : Os) (started : os.Started) (H : Type) (enc : TypeId × Value → H) (F : Stop.Interp) :
    ReturnsInHanded {} Tryz.checked os 6 .any ((OpenSpec.ofChange Rows.journalAlteredSpec).preRow enc Tryz.prog Tryz.f6 Rows.journalAlteredRow.domain false Rows.journalAlteredRow.laid) (((OpenSpec.ofChange Rows.journalAlteredSpec).at F).post enc Tryz.prog Tryz.f6 false true false false) := by
  obtain ⟨places, hx⟩ := jalt_reads os enc
  refine returnsInHanded_of_row (C := Tryz.checked) (s := OpenSpec.ofChange Rows.journalAlteredSpec) own started (by kernel_rfl) Tryz.func6
    (witness_row_at (enc := enc) (C := Tryz.checked) false (laidWorld os) #[.slice none 0 0, .int .i64 0, .int .i64 0, .int .u32 0] (laidWorld_os os) (by kernel_rfl) (by kernel_rfl) (by kernel_rfl)
      (OpenSpec.preRow_of_cond 8 hx (by kernel_rfl) (fun k hk => by cases hk) (by kernel_rfl) (laidWorld_met os _))) ?_
  intro W base args ds gs before hval hW _ _ hsz hL _ _
  exact jalt_contract H enc W base args ds gs before hval hW hsz (pow_of hL)

theorem journalAltered_said : Rows.JournalAlteredSaid :=
  OpenClaim.holds_of_cond 6 Tryz.f6 rfl rfl rfl rfl rfl rfl rfl ⟨rfl, rfl, rfl, rfl, rfl⟩ rfl rfl rfl rfl rfl (by kernel_rfl) Tryz.func6 (by kernel_rfl)
    (of_decide_eq_true (by kernel_rfl)) (by unfold Func.isWrapper; first | (rw [if_pos (by decide +kernel)]; kernel_rfl) | (rw [if_neg (by decide +kernel)]; exact ⟨rfl, rfl⟩))
    (fun os started H enc _ F => by rw [OpenClaim.pre_eq_preRow]; exact jalt_lifted os started H enc F)

theorem jalt_plain (f : FuncId) (fn : Func) (hf : Tryz.pinned.checked.prog.funcNamed "berthmaster/berthmasterlaw05.JournalAltered" = some f) (hfn : Tryz.pinned.checked.prog.funcs[f]? = some fn) :
    false = Tryz.pinned.checked.prog.looks [] ∧ ∀ (j : Nat) t, fn.params[j]? = some t → Tryz.pinned.checked.prog.wantsStandIn t = false := by
  obtain rfl : f = 6 := Option.some.inj ((show Tryz.prog.funcNamed "berthmaster/berthmasterlaw05.JournalAltered" = some 6 by kernel_rfl).symm.trans hf) |>.symm
  obtain rfl : fn = Tryz.f6 := (Option.some.inj (Tryz.func6.symm.trans hfn)).symm
  refine ⟨by kernel_rfl, fun j t ht => ?_⟩
  rw [Tryz.params6] at ht
  have hm := Array.mem_of_getElem? ht
  simp only [List.mem_toArray, List.mem_cons, List.not_mem_nil, or_false] at hm
  rcases hm with rfl | rfl | rfl | rfl
  all_goals (show Tryz.prog.wantsStandIn _ = false; kernel_rfl)

theorem journalAltered_holds : Rows.JournalAlteredCardSaid :=
  Claim7.holds_tied_plain_at .later [] _ _ _ _ journalAltered_said (fun _ h => by cases h) (by kernel_rfl) (fun _ h => by cases h) journalAltered_row_tie rfl ⟨rfl, rfl⟩ (by kernel_rfl) rfl jalt_plain (by kernel_rfl)

#print axioms journalAltered_holds
end Go.Proofs.YtfiebjfdlplpjaaGreatDoor
