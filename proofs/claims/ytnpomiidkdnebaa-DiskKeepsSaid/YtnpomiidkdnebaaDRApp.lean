/- The walk over the document's Append. -/
import Derived.Test.YtnpomiidkdnebaaDRAppM
namespace Go.Proofs.Ytnpomiidkdnebaa
open Go.RowKit
set_option linter.unusedVariables false

section
variable {S S' : Nat → Prop} {x : Nat} {v : Value} {rs : List RFl} {fz : Int} {D : Dsk} {w : World}

set_option maxHeartbeats 8000000 in
set_option maxRecDepth 5000 in
theorem rappend_any (s : ByteArray) (hs : s.size ≤ 9223372036854775807) (b : List Int) (A : Option Addr) (L c : Nat) (w : World) (h : RfAt w S x v rs fz D) (hok : Okd D) (hro : Room D)
    (hbL : b.length = L) (hLc : L ≤ c) (hL63 : L ≤ 9223372036854775807) (hA0 : A = none → c = 0) (hrd : Rds w w.heap.size A (c8 b)) (hbS : ∀ ad, A = some ad → c8 b ≠ [] → ¬ S ad.block) :
    Calls Try.prog 50 #[.pointer (some ⟨x, 0, none⟩), .string s, .slice A L c] w fun e w' => e = .returned (.int .i64 (dAppend D (lst s) b).1) ∧ ∃ S', Rf w' S' x (dAppend D (lst s) b).2 ∧ Turn S S' w w' := by
  obtain ⟨i0, hi, hz0, hz1, hz2⟩ := info_parts info8
  obtain ⟨hk, hp⟩ := rhalf s hs w h hok
  have hb : ∀ q, Below w.heap.size w ((w.alloc (.cells #[.string s] 9)).drewN q) := fun q => bDrewN ((Below.refl _ w).alloc (Nat.le_refl _) _) q
  have hq : ∀ q, RfAt ((w.alloc (.cells #[.string s] 9)).drewN q) S x v rs fz D := fun q => h.go (hb q)
  have hT : ∀ q, Turn S S w ((w.alloc (.cells #[.string s] 9)).drewN q) := fun q => ⟨Outs.of (hb q), fun _ h => .inl h⟩
  have hL63' : (L : Int) ≤ 9223372036854775807 := by omega
  by_cases ha : ask D [lst s] = 0
  · rw [ha] at hk
    cases hf : find D.files (lst s) with
    | none =>
      have e1 : dAppend D (lst s) b = (6, D) := by unfold dAppend; rw [if_neg (by rw [ha]; simp), hf]; rfl
      have e2 : hit D.files (lst s) = false := by unfold hit; rw [hf]; rfl
      rw [e1]
      rw [e2] at hp
      generalize pos D.files (lst s) = k at *
      clear e1 e2 h hf
      go_enter Try.func50, Try.ntmps50
      go_wp2_with fail
      refine hk.mono ?_
      rintro e w1 ⟨rfl, q, rfl⟩
      go_wp2_with fail
      refine (hp q).mono ?_
      rintro e w2 ⟨rfl, rfl⟩
      go_wp2
      go_returns
      exact ⟨by simp, _, ⟨_, _, _, hq q⟩, hT q⟩
    | some f0 =>
      have e2 : hit D.files (lst s) = true := by unfold hit; rw [hf]; rfl
      rw [e2] at hp
      have hle : ∀ q, _ := fun q => rleft_any ((w.alloc (.cells #[.string s] 9)).drewN q) (hq q) hok
      by_cases hfit : left D < (L : Int)
      · have e1 : dAppend D (lst s) b = (8, D) := by unfold dAppend; rw [if_neg (by rw [ha]; simp), hf, hbL]; exact if_pos hfit
        rw [e1]
        generalize left D = LL at *
        generalize pos D.files (lst s) = k at *
        clear e1 e2 h hf ha
        go_enter Try.func50, Try.ntmps50
        go_wp2_with fail
        refine hk.mono ?_
        rintro e w1 ⟨rfl, q, rfl⟩
        go_wp2_with fail
        refine (hp q).mono ?_
        rintro e w2 ⟨rfl, rfl⟩
        go_wp2_with fail
        refine (hle q).mono ?_
        rintro e w3 ⟨rfl, rfl⟩
        go_wp2
        go_returns
        exact ⟨by simp, _, ⟨_, _, _, hq q⟩, hT q⟩
      · have e1 : dAppend D (lst s) b = puts (lst s) D (parts b) := by unfold dAppend; rw [if_neg (by rw [ha]; simp), hf, hbL]; exact if_neg hfit
        rw [e1]
        have hroom := hok.room
        have hL30 : L ≤ 1073741824 := by simp only [left] at hfit; omega
        have hpn : (parts b).length = (L + 63) / 64 := by rw [parts_length, hbL]
        have hPD := Lib.hid (show ∃ P, P = pos D.files (lst s) from ⟨_, rfl⟩)
        obtain ⟨P, hP⟩ := hPD.out
        rw [← hP] at hp
        have hstart : ∀ q, Puts S x v (lst s) b D w ((w.alloc (.cells #[.string s] 9)).drewN q) 0 := fun q =>
          ⟨S, rs, fz, D, f0, hq q, hT q, hok, hf, rfl, by simp, by rw [List.drop_zero, parts_flat, hbL]; simp only [left] at hfit; omega, by simp⟩
        generalize hLL : left D = LL at *
        have HP := Lib.hid hP
        have HPN := Lib.hid hpn
        have HST := Lib.hid hstart
        have hsz : w.heap.size ≤ w.heap.size := Nat.le_refl _
        have HRD := Lib.hid hrd
        have HBS := Lib.hid hbS
        have hbl : (c8 b).length = L := by rw [c8_length, hbL]
        clear e1 e2 h hf ha hq hT hP hpn hstart hrd hbS hLL hPD hb
        go_enter Try.func50, Try.ntmps50
        go_wp2_with fail
        refine hk.mono ?_
        rintro e w1 ⟨rfl, q, rfl⟩
        go_wp2_with fail
        refine (hp q).mono ?_
        rintro e w2 ⟨rfl, rfl⟩
        go_wp2_with fail
        refine (hle q).mono ?_
        rintro e w3 ⟨rfl, rfl⟩
        have hstq := HST.out q
        clear hk hp hle HST
        generalize (w.alloc (.cells #[.string s] 9)).drewN q = W0 at *
        go_wp2
        go_loopw [10] (fun i wr => ∃ k T : Nat, T = 64 * k ∧ i = .int .i64 T ∧ Puts S x v (lst s) b D w wr k) (fun i _ => L + 64 - (intOf i).toNat)
        case atStart => exact ⟨0, 0, rfl, rfl, hstq⟩
        case round =>
          obtain ⟨k, T, hTk, rfl, hput⟩ := hrel
          obtain ⟨Sk, rsk, fzk, Dk, f, h, hT, hokk, hf, hPk, hpt, hu, hstk⟩ := hput
          have HTK := Lib.hid hTk
          clear hTk
          by_cases hlt : T < L
          · have hkp : k < (parts b).length := by rw [HPN.out]; have := HTK.out; omega
            have hst := rstep_any wr h (by have := hro.1; have := HTK.out; omega) hokk.fuse0 hokk.fuse1
            have hd := parts_drop hkp
            by_cases hz : Dk.fuse = 0
            · rw [show decide (Dk.fuse = 0) = true from decide_eq_true hz, if_pos hz] at hst
              have hres : puts (lst s) D (parts b) = (10, fall Dk) := by rw [hpt, hd, puts, if_pos hz]
              have HR := Lib.hid hres
              clear hres hpt hd hz hu hf hPk hstk hokk h
              go_wp2_with fail
              refine hst.mono ?_
              rintro e w4 ⟨rfl, ⟨fz', h4⟩, hT4⟩
              go_wp2
              go_returns
              rw [HR.out]
              exact ⟨by simp, _, ⟨_, _, _, h4⟩, hT.trans hT4⟩
            · rw [show decide (Dk.fuse = 0) = false from decide_eq_false hz, if_neg hz] at hst
              have HM := Lib.hid (fun (S' : Nat → Prop) (w9 : World) (rs' : List RFl) (fz' : Int) => Puts.more (D := D) (S := S) (w := w) (x := x) (v := v) (S' := S') (w9 := w9) (rs' := rs') (fzk := fz') hokk hf hPk hpt hu hstk hkp hz)
              have HF := Lib.hid hf
              have HPk := Lib.hid (show P = pos (tick Dk).files (lst s) from HP.out.trans hPk)
              have hl30 := len30 hokk _ _ hf
              have HOK := Lib.hid (okd_tick hokk)
              clear hd hz hu hf hPk hpt hstk h hokk hkp
              go_wp2_with fail
              refine hst.mono ?_
              rintro e w4 ⟨rfl, ⟨fz', h4⟩, hT4⟩
              have hT5 := hT.trans hT4
              clear hst hT hT4
              obtain ⟨g, n, cn, B, bb, rfl, hSg, hn63, hnc, hkn, _, k1, _, kf, hrow, hrb, _, _⟩ := h4.upd_at HOK.out HF.out HPk.out
              have hgrow := h4.grow_at HOK.out HF.out HPk.out
              have c1 := h4.c1
              have hx4 := h4.lt _ h4.sx
              have hg4 := h4.lt _ hSg
              have k1f := kf (P * 3 + 1)
              obtain ⟨B', bb', e, hrdB, hLb, hbm, hB0⟩ := own_open hrow
              injection e with e1 e2 e3
              subst e1 e3
              obtain ⟨hiN, hhi⟩ : ∃ h, h = min (T + 64) L := ⟨_, rfl⟩
              have hmin : min ((T : Int) + 64) (L : Int) = (hiN : Int) := by omega
              have hw64 : IntKind.i64.wrap ((T : Int) + 64) = (T : Int) + 64 := IntWalk.i64_in _ (by omega)
              have hTh : (T : Int) ≤ hiN := by omega
              have hTh2 : T ≤ hiN := by omega
              have hhL : hiN ≤ L := by omega
              have hhc : hiN ≤ c := by omega
              have HHI := Lib.hid hhi
              have hPn : (P : Int) < n := by omega
              have hS : ∀ w', Below w4.heap.size w4 w' → w'.cell? ⟨x, 1, none⟩ = some (.slice (some ⟨g, 0, none⟩) n cn) ∧ w'.cell? ⟨g, P * 3 + 1, none⟩ = some (.slice B f.bs.length bb) ∧ w'.frozen? ⟨g, P * 3 + 1, none⟩ = false ∧ Below w4.heap.size w4 w' := fun w' hb => ⟨(hb.cell hx4).trans c1, (hb.cell hg4).trans k1, (hb.frozen hg4).trans k1f, hb⟩
              have HB0 := Lib.hid hB0
              have HGR := Lib.hid hgrow
              have HSL := Lib.hid h4.lt
              clear hB0 hgrow h4 hhi kf
              generalize hLf : f.bs.length = Lf at *
              have hb14 : Below w4.heap.size w4 (w4.alloc (.cells #[] 5)).drew := ((Below.refl _ w4).alloc (Nat.le_refl _) _).drew
              have hown14 : (w4.alloc (.cells #[] 5)).drew.ownsRow w4.heap.size 5 1 (.slice (some ⟨w4.heap.size, 0, none⟩) 0 0) 0 [] := World.ownsRow_made (base := w4.heap.size) (e := 5) (size := 1) w4 #[] 0 (Nat.le_refl _) (by unfold maxLen; omega) rfl
              have hrdA : ∀ w', Below w4.heap.size w4 w' → Rds w' w.heap.size (if c = T then A else A.map (·.add T)) (c8 (part b k)) := fun w' hb' => by
                have h0 : Rds w4 w.heap.size A (c8 b) := fun hne => by
                  obtain ⟨ad, e, hbk, hcl⟩ := HRD.out hne
                  exact ⟨ad, e, hbk, fun j u hu => (hT5.outs.cell (p := ad.add j) (by rw [blk_add]; exact hbk) (by rw [blk_add]; exact HBS.out ad e hne)).trans (hcl j u hu)⟩
                have h1 := ((h0.below (hb'.mono hT5.outs.size)).drop T c (by rw [hbl]; exact hLc)).take 64
                have h2 : c8 (part b k) = ((c8 b).drop T).take 64 := by unfold part c8; rw [List.map_take, List.map_drop, ← HTK.out]
                rw [h2]
                exact h1
              have hpl : (c8 (part b k)).length = (hiN - T) * 1 := by
                rw [c8_length, Nat.mul_one]
                unfold part
                rw [List.length_take, List.length_drop, hbL, ← HTK.out, HHI.out]
                omega
              have hA2 : (if c = T then A else A.map (·.add T)) = none → hiN - T = 0 ∧ c - T = 0 := fun e => by
                cases A with
                | none => have := hA0 rfl; omega
                | some ad => split at e <;> cases e
              have hnew : ∀ (w9 : World) (u : Value), Below w4.heap.size w4 w9 → w9.ownsRow w4.heap.size 5 1 u (Lf + (hiN - T)) (c8 (f.bs ++ part b k)) → Puts S x (.slice (some ⟨g, 0, none⟩) n cn) (lst s) b D w (w9.setCell ⟨g, P * 3 + 1, none⟩ u) (k + 1) := fun w9 u hb9 hu9 => by
                have hl9 : (f.bs ++ part b k).length = Lf + (hiN - T) := by
                  have := hpl
                  rw [c8_length, Nat.mul_one] at this
                  rw [List.length_append, hLf, this]
                obtain ⟨rs', h9⟩ := HGR.out w9 u (f.bs ++ part b k) (More Sk w4 w9) (fun f => { f with bs := f.bs ++ part b k }) hb9 rfl (by rw [hl9]; exact ownRow_base hu9 (fun _ _ => Nat.zero_le _)) (fun _ h => .inl h)
                  (fun j hj => by rcases hj with hj | hj; exact Nat.lt_of_lt_of_le (HSL.out j hj) hb9.size; exact hj.2)
                  (fun j hj => .inr ⟨(ownRow_block hu9 hj).1, (ownRow_block hu9 hj).2.1⟩)
                exact HM.out _ _ _ _ h9 (hT5.trans ⟨(Outs.of hb9).setCell (p := ⟨g, _, none⟩) (.inl hSg) _, more_new⟩)
              have HNEW := Lib.hid hnew
              clear hnew
              go_wp2_with fail
              refine wp_region_G 26 (fun w' => w'.cell? ⟨x, 1, none⟩ = some (.slice (some ⟨g, 0, none⟩) n cn) ∧ w'.cell? ⟨g, P * 3 + 1, none⟩ = some (.slice B Lf bb) ∧ w'.frozen? ⟨g, P * 3 + 1, none⟩ = false ∧ Below w4.heap.size w4 w') (by kernel_rfl) (by kernel_rfl) (hS _ (Below.refl _ w4).drew) (fun hSS hst => ?_)
              refine wpAnyG_take (i := 0) (v := ?_) rfl (by kernel_rfl) hst (by kernel_rfl) (by kernel_rfl) (fun _ _ _ h => h) hSS (Or.inl ⟨by rfl, ?_⟩) (fun hst2 => ?_)
              rotate_left
              · (intro w hSw; (try dsimp only at hSw); go_simp; try (with_reducible rfl))
              clear hst; have hst := hst2; clear hst2
              try simp only [Act.put, List.setIfInBounds_toArray, List.set_cons_zero, List.set_cons_succ]
              refine wpAnyG_take (i := 1) (v := ?_) rfl (by kernel_rfl) hst (by kernel_rfl) (by kernel_rfl) (fun _ _ _ h => h) hSS (Or.inl ⟨by rfl, ?_⟩) (fun hst2 => ?_)
              rotate_left
              · (intro w hSw; (try dsimp only at hSw); go_simp; try (with_reducible rfl))
              clear hst; have hst := hst2; clear hst2
              try simp only [Act.put, List.setIfInBounds_toArray, List.set_cons_zero, List.set_cons_succ]
              refine wpAnyG_take (i := 2) (v := ?_) rfl (by kernel_rfl) hst (by kernel_rfl) (by kernel_rfl) (fun _ _ _ h => h) hSS (Or.inl ⟨by rfl, ?_⟩) (fun hst2 => ?_)
              rotate_left
              · (intro w hSw; (try dsimp only at hSw); go_simp; try (with_reducible rfl))
              clear hst; have hst := hst2; clear hst2
              try simp only [Act.put, List.setIfInBounds_toArray, List.set_cons_zero, List.set_cons_succ]
              refine wpAnyG_take (i := 3) (v := ?_) rfl (by kernel_rfl) hst (by kernel_rfl) (by kernel_rfl) (fun _ _ _ h => h) hSS (Or.inl ⟨by rfl, ?_⟩) (fun hst2 => ?_)
              rotate_left
              · (intro w hSw; (try dsimp only at hSw); go_simp; try (with_reducible rfl))
              clear hst; have hst := hst2; clear hst2
              try simp only [Act.put, List.setIfInBounds_toArray, List.set_cons_zero, List.set_cons_succ]
              refine wpAnyG_take (i := 4) (v := ?_) rfl (by kernel_rfl) hst (by kernel_rfl) (by kernel_rfl) (fun _ _ _ h => h) hSS (Or.inl ⟨by rfl, ?_⟩) (fun hst2 => ?_)
              rotate_left
              · (intro w hSw; (try dsimp only at hSw); go_simp; try (with_reducible rfl))
              clear hst; have hst := hst2; clear hst2
              try simp only [Act.put, List.setIfInBounds_toArray, List.set_cons_zero, List.set_cons_succ]
              refine wpAnyG_take (i := 6) (v := ?_) rfl (by kernel_rfl) hst (by kernel_rfl) (by kernel_rfl) (fun _ _ _ h => h) hSS (Or.inl ⟨by rfl, ?_⟩) (fun hst2 => ?_)
              rotate_left
              · (intro w hSw; (try dsimp only at hSw); go_simp; try (with_reducible rfl))
              clear hst; have hst := hst2; clear hst2
              try simp only [Act.put, List.setIfInBounds_toArray, List.set_cons_zero, List.set_cons_succ]
              refine wpAnyG_take (i := 7) (v := ?_) rfl (by kernel_rfl) hst (by kernel_rfl) (by kernel_rfl) (fun _ _ _ h => h) hSS (Or.inl ⟨by rfl, ?_⟩) (fun hst2 => ?_)
              rotate_left
              · (intro w hSw; (try dsimp only at hSw); go_simp; try (with_reducible rfl))
              clear hst; have hst := hst2; clear hst2
              try simp only [Act.put, List.setIfInBounds_toArray, List.set_cons_zero, List.set_cons_succ]
              refine wpAnyG_take (i := 8) (v := ?_) rfl (by kernel_rfl) hst (by kernel_rfl) (by kernel_rfl) (fun _ _ _ h => h) hSS (Or.inl ⟨by rfl, ?_⟩) (fun hst2 => ?_)
              rotate_left
              · (intro w hSw; (try dsimp only at hSw); go_simp; try (with_reducible rfl))
              clear hst; have hst := hst2; clear hst2
              try simp only [Act.put, List.setIfInBounds_toArray, List.set_cons_zero, List.set_cons_succ]
              refine wpAnyG_take (i := 9) (v := ?_) rfl (by kernel_rfl) hst (by kernel_rfl) (by kernel_rfl) (fun _ _ _ h => h) hSS (Or.inl ⟨by rfl, ?_⟩) (fun hst2 => ?_)
              rotate_left
              · (intro w hSw; (try dsimp only at hSw); go_simp; try (with_reducible rfl))
              clear hst; have hst := hst2; clear hst2
              try simp only [Act.put, List.setIfInBounds_toArray, List.set_cons_zero, List.set_cons_succ]
              refine wpAnyG_take (i := 10) (v := ?_) rfl (by kernel_rfl) hst (by kernel_rfl) (by kernel_rfl) (fun _ _ _ h => h) hSS (Or.inl ⟨by rfl, ?_⟩) (fun hst2 => ?_)
              rotate_left
              · (intro w hSw; (try dsimp only at hSw); go_simp; try (with_reducible rfl))
              clear hst; have hst := hst2; clear hst2
              try simp only [Act.put, List.setIfInBounds_toArray, List.set_cons_zero, List.set_cons_succ]
              refine wpAnyG_take (i := 11) (v := ?_) rfl (by kernel_rfl) hst (by kernel_rfl) (by kernel_rfl) (fun _ _ _ h => h) hSS (Or.inl ⟨by rfl, ?_⟩) (fun hst2 => ?_)
              rotate_left
              · (intro w hSw; (try dsimp only at hSw); go_simp; try (with_reducible rfl))
              clear hst; have hst := hst2; clear hst2
              try simp only [Act.put, List.setIfInBounds_toArray, List.set_cons_zero, List.set_cons_succ]
              refine wpAnyG_take (i := 12) (v := ?_) rfl (by kernel_rfl) hst (by kernel_rfl) (by kernel_rfl) (fun _ _ _ h => h) hSS (Or.inl ⟨by rfl, ?_⟩) (fun hst2 => ?_)
              rotate_left
              · (intro w hSw; (try dsimp only at hSw); go_simp; try (with_reducible rfl))
              clear hst; have hst := hst2; clear hst2
              try simp only [Act.put, List.setIfInBounds_toArray, List.set_cons_zero, List.set_cons_succ]
              refine wpAnyG_take (i := 13) (v := ?_) rfl (by kernel_rfl) hst (by kernel_rfl) (by kernel_rfl) (fun _ _ _ h => h) hSS (Or.inl ⟨by rfl, ?_⟩) (fun hst2 => ?_)
              rotate_left
              · (intro w hSw; (try dsimp only at hSw); go_simp; try (with_reducible rfl))
              clear hst; have hst := hst2; clear hst2
              try simp only [Act.put, List.setIfInBounds_toArray, List.set_cons_zero, List.set_cons_succ]
              refine wpAnyG_take (i := 15) (v := ?_) rfl (by kernel_rfl) hst (by kernel_rfl) (by kernel_rfl) (fun _ _ _ h => h) hSS (Or.inl ⟨by rfl, ?_⟩) (fun hst2 => ?_)
              rotate_left
              · (intro w hSw; (try dsimp only at hSw); go_simp; try (with_reducible rfl))
              clear hst; have hst := hst2; clear hst2
              try simp only [Act.put, List.setIfInBounds_toArray, List.set_cons_zero, List.set_cons_succ]
              refine wpAnyG_take (i := 16) (v := ?_) rfl (by kernel_rfl) hst (by kernel_rfl) (by kernel_rfl) (fun _ _ _ h => h) hSS (Or.inl ⟨by rfl, ?_⟩) (fun hst2 => ?_)
              rotate_left
              · (intro w hSw; (try dsimp only at hSw); go_simp; try (with_reducible rfl))
              clear hst; have hst := hst2; clear hst2
              try simp only [Act.put, List.setIfInBounds_toArray, List.set_cons_zero, List.set_cons_succ]
              refine wpAnyG_take (i := 17) (v := ?_) rfl (by kernel_rfl) hst (by kernel_rfl) (by kernel_rfl) (fun _ _ _ h => h) hSS (Or.inl ⟨by rfl, ?_⟩) (fun hst2 => ?_)
              rotate_left
              · (intro w hSw; (try dsimp only at hSw); go_simp; try (with_reducible rfl))
              clear hst; have hst := hst2; clear hst2
              try simp only [Act.put, List.setIfInBounds_toArray, List.set_cons_zero, List.set_cons_succ]
              refine wpAnyG_take (i := 18) (v := ?_) rfl (by kernel_rfl) hst (by kernel_rfl) (by kernel_rfl) (fun _ _ _ h => h) hSS (Or.inl ⟨by rfl, ?_⟩) (fun hst2 => ?_)
              rotate_left
              · (intro w hSw; (try dsimp only at hSw); go_simp; try (with_reducible rfl))
              clear hst; have hst := hst2; clear hst2
              try simp only [Act.put, List.setIfInBounds_toArray, List.set_cons_zero, List.set_cons_succ]
              refine wpAnyG_take (i := 19) (v := ?_) rfl (by kernel_rfl) hst (by kernel_rfl) (by kernel_rfl) (fun _ _ _ h => h) hSS (Or.inl ⟨by rfl, ?_⟩) (fun hst2 => ?_)
              rotate_left
              · (intro w hSw; (try dsimp only at hSw); go_simp; try (with_reducible rfl))
              clear hst; have hst := hst2; clear hst2
              try simp only [Act.put, List.setIfInBounds_toArray, List.set_cons_zero, List.set_cons_succ]
              refine wpAnyG_take (i := 20) (v := ?_) rfl (by kernel_rfl) hst (by kernel_rfl) (by kernel_rfl) (fun _ _ _ h => h) hSS (Or.inl ⟨by rfl, ?_⟩) (fun hst2 => ?_)
              rotate_left
              · (intro w hSw; (try dsimp only at hSw); go_simp; try (with_reducible rfl))
              clear hst; have hst := hst2; clear hst2
              try simp only [Act.put, List.setIfInBounds_toArray, List.set_cons_zero, List.set_cons_succ]
              refine wpAnyG_take (i := 21) (v := ?_) rfl (by kernel_rfl) hst (by kernel_rfl) (by kernel_rfl) (fun _ _ _ h => h) hSS (Or.inl ⟨by rfl, ?_⟩) (fun hst2 => ?_)
              rotate_left
              · (intro w hSw; (try dsimp only at hSw); go_simp; try (with_reducible rfl))
              clear hst; have hst := hst2; clear hst2
              try simp only [Act.put, List.setIfInBounds_toArray, List.set_cons_zero, List.set_cons_succ]
              refine wpAnyG_take (i := 22) (v := ?_) rfl (by kernel_rfl) hst (by kernel_rfl) (by kernel_rfl) (fun _ _ _ h => h) hSS (Or.inl ⟨by rfl, ?_⟩) (fun hst2 => ?_)
              rotate_left
              · (intro w hSw; (try dsimp only at hSw); go_simp; try (with_reducible rfl))
              clear hst; have hst := hst2; clear hst2
              try simp only [Act.put, List.setIfInBounds_toArray, List.set_cons_zero, List.set_cons_succ]
              refine wpAnyG_one (i := 5) (by kernel_rfl) rfl (by kernel_rfl) hst (fun K hK => ?_)
              go_simp
              refine hK.out _ _ (hS _ hb14) (fun hSS2 hst2 => ?_)
              clear hst hK K hSS
              have hst := hst2
              have hSS := hSS2
              clear hst2 hSS2
              try simp only [Act.put, List.setIfInBounds_toArray, List.set_cons_zero, List.set_cons_succ]
              refine wpAnyG_one (i := 14) (by kernel_rfl) rfl (by kernel_rfl) hst (fun K hK => ?_)
              refine step_app_wide rfl (.tmp 45) (.tmp 53) 29 rfl 5 i0 _ 1 1 rfl hi hz0 hz1 hz2 rfl (by decide) w4.heap.size (.slice (some ⟨w4.heap.size, 0, none⟩) 0 0) 0 [] rfl hown14 B Lf bb w4.heap.size (c8 f.bs) rfl (by rw [c8_length, hLf, Nat.mul_one]) (hrdB.below hb14) HB0.out (c8_one _) (by unfold maxLen; omega) (by omega) hb14.size ?_
              intro v7 w7 hown7 hg7 hb7 _
              have hb7' := hb14.trans hb7
              refine hK.out _ _ (hS _ hb7') (fun hSS2 hst2 => ?_)
              clear hst hK K hSS
              have hst := hst2
              have hSS := hSS2
              clear hst2 hSS2
              try simp only [Act.put, List.setIfInBounds_toArray, List.set_cons_zero, List.set_cons_succ]
              refine wpAnyG_one (i := 23) (by kernel_rfl) rfl (by kernel_rfl) hst (fun K hK => ?_)
              refine step_app_wide rfl (.tmp 54) (.tmp 62) 29 rfl 5 i0 _ 1 1 rfl hi hz0 hz1 hz2 rfl (by decide) w4.heap.size v7 (0 + Lf) ([] ++ c8 f.bs) rfl hown7 (if c = T then A else A.map (·.add T)) (hiN - T) (c - T) w.heap.size (c8 (part b k)) (by simp [Act.eval]) hpl (hrdA _ hb7') hA2 (c8_one _) (by unfold maxLen; omega) (by omega) hb7'.size ?_
              intro v8 w8 hown8 hg8 hb8 _
              have hb8' := hb7'.trans hb8
              have hS8 := hS _ hb8'
              refine hK.out _ _ hS8 (fun hSS2 hst2 => ?_)
              clear hst hK K hSS
              have hst := hst2
              have hSS := hSS2
              clear hst2 hSS2
              try simp only [Act.put, List.setIfInBounds_toArray, List.set_cons_zero, List.set_cons_succ]
              rw [List.nil_append, ← c8_append, Nat.zero_add] at hown8
              have hnew := HNEW.out w8 v8 hb8' hown8
              have HN := Lib.hid hnew
              obtain ⟨A8, cc8, rfl, _⟩ := own_open hown8
              obtain ⟨c8', g8', f8', _⟩ := hS8
              clear hnew hg8 hb8 hb8' hown8 hown7 hb7 hb7' hg7 hS hb14 hown14 hrdA hrdB
              refine wpAnyG_take (i := 24) (v := ?_) rfl (by kernel_rfl) hst (by kernel_rfl) (by kernel_rfl) (fun _ _ _ h => h) hSS (Or.inl ⟨by rfl, ?_⟩) (fun hst2 => ?_)
              rotate_left
              · (intro w hSw; (try dsimp only at hSw); go_simp; try (with_reducible rfl))
              clear hst; have hst := hst2; clear hst2
              try simp only [Act.put, List.setIfInBounds_toArray, List.set_cons_zero, List.set_cons_succ]
              refine wpAnyG_take (i := 25) (v := ?_) rfl (by kernel_rfl) hst (by kernel_rfl) (by kernel_rfl) (fun _ _ _ h => h) hSS (Or.inl ⟨by rfl, ?_⟩) (fun hst2 => ?_)
              rotate_left
              · (intro w hSw; (try dsimp only at hSw); go_simp; try (with_reducible rfl))
              clear hst; have hst := hst2; clear hst2
              try simp only [Act.put, List.setIfInBounds_toArray, List.set_cons_zero, List.set_cons_succ]
              refine wpAnyG_last (i := 26) (by kernel_rfl) rfl (by kernel_rfl) (by kernel_rfl) (fun K hK => ?_)
              go_simp
              refine hK.out _ _ ?_
              clear hK K hst hSS
              go_wp2
              go_roundw
              case rel => exact ⟨k + 1, T + 64, by have := HTK.out; omega, by go_num, HN.out⟩
              case measure => simp [intOf]; omega
          · have hkp : (parts b).length ≤ k := by rw [HPN.out]; have := HTK.out; omega
            have hres : puts (lst s) D (parts b) = (0, Dk) := by rw [hpt, List.drop_eq_nil_of_le hkp]; rfl
            have HR := Lib.hid hres
            have HH := Lib.hid h
            clear hres hpt hu hf hPk hstk hokk h
            go_wp2
            go_returns
            rw [HR.out]
            exact ⟨by simp, _, ⟨_, _, _, HH.out⟩, hT⟩
  · have e1 : dAppend D (lst s) b = (ask D [lst s], D) := by unfold dAppend; rw [if_pos ha]
    rw [e1]
    have hn : (ask D [lst s] != 0) = true := by simpa using ha
    generalize ask D [lst s] = fc at *
    clear e1 h ha
    go_enter Try.func50, Try.ntmps50
    go_wp2_with fail
    refine hk.mono ?_
    rintro e w1 ⟨rfl, q, rfl⟩
    go_wp2
    go_returns
    exact ⟨by simp, _, ⟨_, _, _, hq q⟩, hT q⟩
end
end Go.Proofs.Ytnpomiidkdnebaa
