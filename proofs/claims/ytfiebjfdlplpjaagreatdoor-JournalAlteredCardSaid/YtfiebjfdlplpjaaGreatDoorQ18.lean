/- Several texts, each a section: JSame, JAt, JTurn, JAlt1, JAlt2, JAlt3. -/
import Derived.Test.YtfiebjfdlplpjaaGreatDoorM17
import Derived.Test.YtfiebjfdlplpjaaGreatDoorM07
import Derived.Test.YtfiebjfdlplpjaaGreatDoorM03
section
/- The kit's SameLists of alike lists, and whether a list of numbers is fine. -/
namespace Go.Proofs.YtfiebjfdlplpjaaGreatDoor
open Go.RowKit
set_option linter.unusedVariables false

set_option maxHeartbeats 1600000 in
set_option maxRecDepth 5000 in
theorem sameLists_yes (A A' : Option Addr) (xs ys : List RcM) (n m c c' lim : Nat) (w : World) (hn : xs.length = n) (hm : ys.length = m) (hl : n ≤ 9223372036854775807) (he : xs.map RcM.r = ys.map RcM.r) (hlen : ∀ x ∈ xs, x.r.length ≤ 9223372036854775807)
    (hr : Rds w lim A (cR xs)) (hr' : Rds w lim A' (cR ys)) (hx : ∀ x ∈ xs, Rds w lim x.A (c8 x.r)) (hy : ∀ y ∈ ys, Rds w lim y.A (c8 y.r)) :
    Calls Tryz.prog 13 #[.slice A n c, .slice A' m c'] w fun e w' => e = .returned (.bool true) ∧ ∃ k, w' = w.drewN k := by
  have hnm : m = n := by have := congrArg List.length he; simp only [List.length_map] at this; omega
  subst hnm
  have hlb : ((m : Int) != (m : Int)) = false := by simp
  go_enter Tryz.func13, Tryz.ntmps13
  go_wp2
  go_loopw [5] (fun i wr => ∃ k : Nat, k ≤ m ∧ i = .int .i64 k ∧ ∃ n, wr = w.drewN n) (fun i _ => m - (intOf i).toNat)
  case atStart => exact ⟨0, Nat.zero_le _, rfl, 0, rfl⟩
  case round =>
    obtain ⟨k, hk, rfl, n, rfl⟩ := hrel
    by_cases hlt : k < m
    · have h1 : k < xs.length := by omega
      have h2 : k < ys.length := by omega
      obtain ⟨ad, rfl, _, hc0⟩ := hr.at_ (cR_get h1)
      obtain ⟨ad', rfl, _, hc0'⟩ := hr'.at_ (cR_get h2)
      have hf : xs[k].r = ys[k].r := by
        have h := congrArg (fun l => l[k]?) he
        simpa [h1, h2] using h
      have hb := hx _ (List.getElem_mem h1)
      have hb' := hy _ (List.getElem_mem h2)
      have hbl := hlen _ (List.getElem_mem h1)
      unfold RcM.v at hc0 hc0'
      rw [← hf] at hc0' hb'
      generalize xs[k].r = f at *
      generalize xs[k].A = D at *
      generalize ys[k].A = D' at *
      generalize xs[k].c = x at *
      generalize ys[k].c = x' at *
      have hS : ∀ j, Calls Tryz.prog 46 #[.slice D f.length x, .slice D' f.length x'] (w.drewN (n + j)) fun e w' => e = .returned (.bool true) ∧ ∃ q, w' = w.drewN (n + q) := fun j =>
        (sameBytes_yes D D' f f f.length f.length x x' lim (w.drewN (n + j)) rfl rfl hbl rfl (hb.drewN _) (hb'.drewN _)).mono fun e w' ⟨h1, q, h2⟩ => ⟨h1, j + q, by rw [h2, World.drewN_drewN, Nat.add_assoc]⟩
      clear hf
      go_wp2
      go_quiet (first | with_reducible exact hS _)
      go_wp2
      go_roundw
      case rel => exact ⟨k + 1, by omega, by go_num, _, rfl⟩
      case measure => simp [intOf]; omega
    · go_wp2
      go_ret
      exact ⟨rfl, n, rfl⟩

theorem fine_no (A : Option Addr) (zs : List Int) (n c lim : Nat) (w : World) (hn : zs.length = n) (hl : n ≤ 9223372036854775807) (hr : Rds w lim A (cN zs)) (hneg : zs.any (fun k => decide (k < 0)) = true) :
    Calls Tryz.prog 24 #[.slice A n c] w fun e w' => e = .returned (.bool false) ∧ ∃ k, w' = w.drewN k := by
  have HNEG := Lib.hid hneg
  clear hneg
  go_enter Tryz.func24, Tryz.ntmps24
  go_wp2
  go_loopw [3] (fun i wr => ∃ k : Nat, k ≤ n ∧ i = .int .i64 k ∧ (∀ j, j < k → ∀ z, zs[j]? = some z → 0 ≤ z) ∧ ∃ q, wr = w.drewN q) (fun i _ => n - (intOf i).toNat)
  case atStart => exact ⟨0, Nat.zero_le _, rfl, fun j hj => absurd hj (by omega), 0, rfl⟩
  case round =>
    obtain ⟨k, hk, rfl, hall, q, rfl⟩ := hrel
    have HA := Lib.hid hall
    clear hall
    by_cases hlt : k < n
    · have h1 : k < zs.length := by omega
      obtain ⟨ad, rfl, _, hc0⟩ := hr.at_ (show (cN zs)[k]? = some (.int .i64 zs[k]) by simp [cN, h1])
      have HE := Lib.hid (List.getElem?_eq_getElem h1)
      generalize zs[k] = z at *
      go_wp2
      · go_ret
        exact ⟨rfl, q, rfl⟩
      · go_roundw
        case rel =>
          refine ⟨k + 1, by omega, by go_num, fun j hj z' hz' => ?_, _, rfl⟩
          rcases Nat.lt_or_ge j k with h | h
          · exact HA.out j h z' hz'
          · obtain rfl : j = k := by omega
            rw [HE.out] at hz'
            obtain rfl := Option.some.inj hz'
            omega
        case measure => simp [intOf]; omega
    · exfalso
      have hk2 : k = n := by omega
      obtain ⟨z, hz, hz0⟩ := List.any_eq_true.1 HNEG.out
      obtain ⟨j, hj, rfl⟩ := List.getElem_of_mem hz
      have := HA.out j (by omega) _ (List.getElem?_eq_getElem hj)
      have h0 := of_decide_eq_true hz0
      omega
end Go.Proofs.YtfiebjfdlplpjaaGreatDoor
end

section
/- A journal within a walk: Fuse, Sync, a crash, what came in. -/
namespace Go.Proofs.YtfiebjfdlplpjaaGreatDoor
open Go.RowKit
set_option linter.unusedVariables false

section
variable {w0 w w' : World} {S T S' T' : Nat → Prop} {j d : Nat} {D D' : Dsk} {J J' : Jn}
theorem At5.disk (h : At5 w0 w S T j d D J) (hk : Dk 0 w' S' d D') (ht : Turn S S' w w') : At5 w0 w' S' T j d D' J := by
  obtain ⟨h1, h2⟩ := h.jd.disk hk ht
  exact h.turn h1 h2
theorem at_fuse (h : At5 w0 w S T j d D J) (n : Int) : Calls Tryz.prog 22 #[.pointer (some ⟨d, 0, none⟩), .int .i64 n] w fun e w' => e = .returned (.int .i64 (dFuse D n).1) ∧ At5 w0 w' S T j d (dFuse D n).2 J :=
  (fuse_any n w h.jd.dk).mono fun e w' ⟨h1, h2, h3⟩ => ⟨h1, h.disk h2 h3⟩
theorem at_sync (h : At5 w0 w S T j d D J) (hr : Room D) (hf : Fits J) : Calls Tryz.prog 11 #[.pointer (some ⟨j, 0, none⟩)] w fun e w' => e = .returned (.int .i64 (jSync lLog D J).1) ∧ ∃ S', At5 w0 w' S' T j d (jSync lLog D J).2.1 (jSync lLog D J).2.2 :=
  (jsync_any w h.jd hr hf).mono fun e w' ⟨h1, S', h2, h3⟩ => ⟨h1, S', h.turn h2 h3⟩
/-- a crash: the journal that stood on it is let go -/
theorem at_crash (h : At5 w0 w S T j d D J) (Ak : Option Addr) (ks : List Int) (n c : Nat) (hr : Room D) (hok : Okd D) (hn : ks.length = n) (hnl : n ≤ 9223372036854775807) (hk64 : ∀ z ∈ ks, z ≤ 9223372036854775807) (hkr : Rds w0 w0.heap.size Ak (cN ks)) :
    Calls Tryz.prog 12 #[.pointer (some ⟨d, 0, none⟩), .slice Ak n c] w fun e w' => e = .returned (.int .i64 (dCrash D ks).1) ∧ ∃ S', Dk 0 w' S' d (dCrash D ks).2 ∧ Below w0.heap.size w0 w' ∧ ∀ k, S' k → w0.heap.size ≤ k := by
  refine (crash_any Ak ks n c w h.jd.dk hr hok hn hnl hk64 ((hkr.below h.below).more h.below.size) (fun ad e hne hs => ?_)).mono ?_
  · obtain ⟨ad', e', hb, _⟩ := hkr hne
    obtain rfl := Option.some.inj (e.symm.trans e')
    have := h.ns _ hs
    omega
  · rintro e w2 ⟨rfl, S', h2, ht⟩
    obtain ⟨h3, h4⟩ := Turn.go h.below (Nat.le_refl _) ht h.ns
    exact ⟨rfl, S', h2, h3, h4⟩
/-- a record of the call's own arguments -/
theorem At5.arg (h : At5 w0 w S T j d D J) {y : RcM} (hy : Rds w0 w0.heap.size y.A (c8 y.r)) : Rds w w.heap.size y.A (c8 y.r) ∧ ∀ ad, y.A = some ad → c8 y.r ≠ [] → ¬ S ad.block ∧ ¬ T ad.block := by
  refine ⟨(hy.below h.below).more h.below.size, fun ad e hne => ?_⟩
  obtain ⟨ad', e', hb, _⟩ := hy hne
  obtain rfl := Option.some.inj (e.symm.trans e')
  exact ⟨fun hs => by have := h.ns _ hs; omega, fun hs => by have := h.nt _ hs; omega⟩
end

end Go.Proofs.YtfiebjfdlplpjaaGreatDoor
end

section
/- Bits turned within 32 side by side of records' bytes: what is read is a first part. No program is named here. -/
namespace Go.Proofs.YtfiebjfdlplpjaaGreatDoor
set_option linter.unusedVariables false

theorem turn_append (A B : List Int) (p : Nat) : turn (A ++ B) p = if p < 8 * A.length then turn A p ++ B else A ++ turn B (p - 8 * A.length) := by
  unfold turn
  by_cases h : p < 8 * A.length
  · have h1 : p / 8 < A.length := by omega
    rw [if_pos h, List.set_append_left _ _ h1]
    congr 3
    simp only [List.getD_eq_getElem?_getD, List.getElem?_append_left h1]
  · have h1 : A.length ≤ p / 8 := by omega
    rw [if_neg h, List.set_append_right _ _ h1]
    have e1 : (p - 8 * A.length) / 8 = p / 8 - A.length := by omega
    have e2 : (p - 8 * A.length) % 8 = p % 8 := by omega
    rw [e1, e2]
    congr 3
    simp only [List.getD_eq_getElem?_getD, List.getElem?_append_right h1]

theorem tns_append_ge (r X : Nat) (A B : List Int) (h : 8 * A.length ≤ r) : ∀ n, tns r X n (A ++ B) = A ++ tns (r - 8 * A.length) X n B
  | 0 => rfl
  | n + 1 => by
    have ih := tns_append_ge r X A B h n
    rw [tns, tns, ih]
    by_cases hc : X / 2 ^ n % 2 = 1 ∧ r + n < 8 * (A ++ B).length
    · have h2 := hc.2
      rw [List.length_append] at h2
      rw [if_pos hc, if_pos ⟨hc.1, by omega⟩, turn_append, if_neg (by omega), show r + n - 8 * A.length = r - 8 * A.length + n by omega]
    · rw [if_neg hc, if_neg (fun h2 => hc ⟨h2.1, by rw [List.length_append]; omega⟩)]
theorem tns_off (r X : Nat) (A : List Int) (h : 8 * A.length ≤ r) : ∀ n, tns r X n A = A
  | 0 => rfl
  | n + 1 => by
    rw [tns, if_neg (fun hc => by omega)]
    exact tns_off r X A h n
theorem tns_append_lt (r X : Nat) (A B : List Int) (h : r < 8 * A.length) : ∀ n, tns r X n (A ++ B) = tns r X n A ++ tns 0 (X / 2 ^ (8 * A.length - r)) (n - (8 * A.length - r)) B
  | 0 => by
    rw [Nat.zero_sub]
    rfl
  | n + 1 => by
    have ih := tns_append_lt r X A B h n
    have hl := tns_length r X n A
    by_cases hn : n < 8 * A.length - r
    · rw [show n + 1 - (8 * A.length - r) = 0 by omega]
      rw [show n - (8 * A.length - r) = 0 by omega] at ih
      have es : tns r X (n + 1) A = if X / 2 ^ n % 2 = 1 ∧ r + n < 8 * A.length then turn (tns r X n A) (r + n) else tns r X n A := rfl
      have el : tns r X (n + 1) (A ++ B) = if X / 2 ^ n % 2 = 1 ∧ r + n < 8 * (A ++ B).length then turn (tns r X n (A ++ B)) (r + n) else tns r X n (A ++ B) := rfl
      have ez : tns 0 (X / 2 ^ (8 * A.length - r)) 0 B = B := rfl
      rw [el, es, ih, ez]
      by_cases hb : X / 2 ^ n % 2 = 1
      · rw [if_pos ⟨hb, by rw [List.length_append]; omega⟩, if_pos ⟨hb, by omega⟩, turn_append, if_pos (by rw [hl]; omega)]
      · rw [if_neg (fun h2 => hb h2.1), if_neg (fun h2 => hb h2.1)]
    · have e0 : n + 1 - (8 * A.length - r) = n - (8 * A.length - r) + 1 := by omega
      have eb : X / 2 ^ (8 * A.length - r) / 2 ^ (n - (8 * A.length - r)) = X / 2 ^ n := by
        rw [Nat.div_div_eq_div_mul, ← Nat.pow_add, show 8 * A.length - r + (n - (8 * A.length - r)) = n by omega]
      rw [e0, tns, tns, ih]
      rw [if_neg (c := X / 2 ^ n % 2 = 1 ∧ r + n < 8 * A.length) (fun h2 => by omega)]
      rw [tns, eb]
      by_cases hc : X / 2 ^ n % 2 = 1 ∧ r + n < 8 * (A ++ B).length
      · have h2 := hc.2
        rw [List.length_append] at h2
        rw [if_pos hc, if_pos ⟨hc.1, by omega⟩, turn_append, hl, if_neg (by omega), show r + n - 8 * A.length = 0 + (n - (8 * A.length - r)) by omega]
      · rw [if_neg hc, if_neg (fun h2 => hc ⟨h2.1, by rw [List.length_append]; omega⟩)]
/-- no bit is set from n on -/
theorem tns_more (r X : Nat) (L : List Int) {n : Nat} (hX : X < 2 ^ n) : ∀ k, tns r X (n + k) L = tns r X n L
  | 0 => rfl
  | k + 1 => by
    have h1 : X / 2 ^ (n + k) = 0 := Nat.div_eq_of_lt (Nat.lt_of_lt_of_le hX (Nat.pow_le_pow_right (by decide) (by omega)))
    rw [← Nat.add_assoc, tns, if_neg (by rw [h1]; simp)]
    exact tns_more r X L hX k
/-- a window of 32 bits over two pieces is one over each -/
theorem tns_two (r X : Nat) (hX : X < 4294967296) (A B : List Int) : ∃ r' X', X' < 4294967296 ∧ tns r X 32 (A ++ B) = tns r X 32 A ++ tns r' X' 32 B := by
  by_cases h : 8 * A.length ≤ r
  · exact ⟨_, X, hX, by rw [tns_append_ge r X A B h, tns_off r X A h]⟩
  · have h' : r < 8 * A.length := by omega
    refine ⟨0, X / 2 ^ (8 * A.length - r), Nat.lt_of_le_of_lt (Nat.div_le_self _ _) hX, ?_⟩
    rw [tns_append_lt r X A B h']
    congr 1
    generalize 8 * A.length - r = s
    by_cases hs : s ≤ 32
    · have hlt : X / 2 ^ s < 2 ^ (32 - s) := by
        rw [Nat.div_lt_iff_lt_mul (Nat.pow_pos (by decide)), ← Nat.pow_add, show 32 - s + s = 32 by omega]
        exact hX
      have := tns_more 0 (X / 2 ^ s) B hlt s
      rw [show 32 - s + s = 32 by omega] at this
      exact this.symm
    · have h0 : X / 2 ^ s = 0 := Nat.div_eq_of_lt (Nat.lt_of_lt_of_le hX (by rw [show (4294967296 : Nat) = 2 ^ 32 by decide]; exact Nat.pow_le_pow_right (by decide) (by omega)))
      rw [h0, show 32 - s = 0 by omega]
      have := tns_more 0 0 B (n := 0) (by decide) 32
      rw [Nat.zero_add] at this
      exact this.symm
/-- of frames some bits of which are turned, within 32 side by side, a first part is read that is not all -/
theorem scn_turned : ∀ (fs : List Fr), (∀ f ∈ fs, Fok f) → ∀ r X, X < 4294967296 →
    tns r X 32 (fbs fs) = fbs fs ∨ (tns r X 32 (fbs fs) ≠ fbs fs ∧ ∃ j, j < fs.length ∧ (scn (tns r X 32 (fbs fs))).1 = fs.take j)
  | [], _, r, X, _ => .inl (by
    have h : (tns r X 32 (fbs [])).length = 0 := by rw [tns_length]; rfl
    rw [List.eq_nil_of_length_eq_zero h]
    rfl)
  | f :: fs, hf, r, X, hX => by
    obtain ⟨r', X', hX', e⟩ := tns_two r X hX (fby f) (fbs fs)
    have e0 : fbs (f :: fs) = fby f ++ fbs fs := by simp [fbs]
    rw [e0, e]
    have hfk := hf f (by simp)
    have hl := fby_length f
    by_cases hb : brs r X 32 (f.body.length + 12) = 0
    · rw [tns_none r X 32 hl hb]
      rcases scn_turned fs (fun g hg => hf g (by simp [hg])) r' X' hX' with h | ⟨hne, j, hj, hs⟩
      · exact .inl (by rw [h])
      · refine .inr ⟨fun h => hne (List.append_cancel_left h), j + 1, by simpa using hj, ?_⟩
        rw [scn_fby f hfk, List.take_succ_cons, hs]
    · refine .inr ⟨fun h => ?_, 0, by simp, ?_⟩
      · have h1 : tns r X 32 (fby f) = fby f := by
          have := congrArg (List.take (fby f).length) h
          rw [List.take_left, ← tns_length r X 32 (fby f), List.take_left] at this
          exact this
        refine tns_seen hX (fby_byt hfk) (n := 32) (r := r) (by rw [hl]; exact hb) (by rw [h1])
      · have hm := mea_turned f hfk hX hb (tns r' X' 32 (fbs fs))
        rw [scn_end (by rw [hm]; decide)]
        rfl
/-- the records that are read of them -/
theorem recs_turned (rs : List (List Int)) (h : ∀ r ∈ rs, Goodr r) (r X : Nat) (hX : X < 4294967296) :
    tns r X 32 (sby rs) = sby rs ∨ (tns r X 32 (sby rs) ≠ sby rs ∧ ∃ j, j < rs.length ∧ recsOf (tns r X 32 (sby rs)) = rs.take j ∧ rsz (rs.take j) < rsz rs) := by
  rcases scn_turned (rs.map rcF) (fok_all h) r X hX with e | ⟨hne, j, hj, hs⟩
  · exact .inl e
  · rw [List.length_map] at hj
    refine .inr ⟨hne, j, hj, ?_, ?_⟩
    · unfold recsOf
      rw [sby, hs, ← List.map_take, takeW_rc]
    · have e1 : rs = rs.take j ++ rs.drop j := (List.take_append_drop j rs).symm
      have e2 : rs.drop j = rs[j] :: rs.drop (j + 1) := List.drop_eq_getElem_cons hj
      have e3 : rsz rs = rsz (rs.take j) + rsz (rs.drop j) := by
        conv => lhs; rw [e1]
        exact rsz_append _ _
      have e4 : rsz (rs.drop j) = (rs[j].length + 12) + rsz (rs.drop (j + 1)) := by
        rw [e2]
        unfold rsz
        rw [List.map_cons, List.sum_cons]
      omega
end Go.Proofs.YtfiebjfdlplpjaaGreatDoor
end

section
/- What Open makes of a disk where bits of a segment are turned: a first part is left. No program is named here. -/
namespace Go.Proofs.YtfiebjfdlplpjaaGreatDoor
set_option linter.unusedVariables false

/-- whole segments, then one that is not -/
theorem goOver_turned (look : Nat → List Int) (x : Sg) (j : Nat) (more : List Nat) (hrec : recsOf (look x.num) = x.recs.take j) (hlt : rsz (x.recs.take j) < (look x.num).length) : ∀ (p : List Sg) (nx : Option Nat) (b : Nat), (nx = none ∨ nx = some b) → Chn b (p ++ [x]) →
    (∀ y ∈ p, ∀ r ∈ y.recs, Goodr r) → (∀ y ∈ p, look y.num = sby y.recs) →
    goOver look nx (p.map (·.num) ++ x.num :: more) = p ++ [⟨x.num, x.recs.take j⟩]
  | [], nx, b, hnx, hc, hg, hp => by
    have hn : x.num = b := hc.1
    have h0 : (nx.isSome && nx != some x.num) = false := by rcases hnx with rfl | rfl <;> simp [hn]
    have hne : ¬ rsz (x.recs.take j) = (look x.num).length := by omega
    simp only [List.map_nil, List.nil_append, goOver, h0, hrec, hne, Bool.false_eq_true, if_false]
  | y :: p, nx, b, hnx, hc, hg, hp => by
    have hn : y.num = b := hc.1
    have hgy : ∀ r ∈ y.recs, Goodr r := hg y (by simp)
    have hly := hp y (by simp)
    have hrecy : recsOf (look y.num) = y.recs := by
      have := recsOf_take hgy (n := (sby y.recs).length) (Nat.le_refl _)
      rw [List.take_length] at this
      rw [hly, this, sby_length, whr_all, List.take_length]
    have hlen : rsz y.recs = (look y.num).length := by rw [hly, sby_length]
    have h0 : (nx.isSome && nx != some y.num) = false := by rcases hnx with rfl | rfl <;> simp [hn]
    have ih := goOver_turned look x j more hrec hlt p (some (b + y.recs.length)) (b + y.recs.length) (.inr rfl) hc.2 (fun z hz => hg z (by simp [hz])) (fun z hz => hp z (by simp [hz]))
    simp only [List.map_cons, List.cons_append, goOver, h0, hrecy, hlen, Bool.false_eq_true, if_false, if_true]
    rw [show y.num + y.recs.length = b + y.recs.length by rw [hn], ih]

section
variable {l : Nm} {D E : Dsk} {b : List Int}
theorem cut_rest (ho : D.off = false) (hf : D.fuse = -1) (hl : okJ l = true) (hn : find D.files (cutN l) = none) (hr : used D.files + b.length ≤ D.room) (hok : Okd D) (n : Nat) :
    (seqD D (cutSteps l b n)).1 = 0 ∧ Free (seqD D (cutSteps l b n)).2 ∧ ∀ m, m ≠ cutN l → m ≠ segN l n → find (seqD D (cutSteps l b n)).2.files m = none → find D.files m = none := by
  have h1 := make_two (ask_cut (l := l) ho hl) hn
  obtain ⟨a1, a2, a3, a4, a5⟩ := dStep_free (t := ins ⟨cutN l, [], 0⟩) hf
  rw [← h1] at a1 a2 a3 a4 a5
  have f1 : find (dMake D (cutN l)).2.files (cutN l) = some ⟨cutN l, [], 0⟩ := by
    rw [a2, find_ins (f := ⟨cutN l, [], 0⟩) hn, if_pos rfl]
  obtain ⟨t, u, b1, b2, b3, b4⟩ := append_two (b := b) (ask_cut (l := l) (by rw [a3, ho]) hl) f1 (by rw [a2, a4, used_ins]; simpa using hr)
  have b5 : (dAppend (dMake D (cutN l)).2 (cutN l) b).1 = 0 ∧ (dAppend (dMake D (cutN l)).2 (cutN l) b).2.off = false ∧ (dAppend (dMake D (cutN l)).2 (cutN l) b).2.fuse = -1 := by
    rcases b4 with ⟨c1, _, c3, c4⟩ | ⟨_, _, c3⟩
    · exact ⟨c1, by rw [c3, a3, ho], c4 a5⟩
    · exact absurd a5 c3
  have f2 : find (dAppend (dMake D (cutN l)).2 (cutN l) b).2.files (cutN l) = some ⟨cutN l, [] ++ t, 0⟩ := by
    rw [b2]
    unfold put1
    rw [find_upd _ _ _ (fun f => ({ f with bs := f.bs ++ t } : Fl)) (fun _ => rfl), f1]
    simp
  have h3 := sync_two (ask_cut (l := l) b5.2.1 hl) f2
  obtain ⟨d1, d2, d3, d4, d5⟩ := dStep_free (t := upd (cutN l) (fun f => { f with sy := f.bs.length })) b5.2.2
  rw [← h3] at d1 d2 d3 d4 d5
  have f3 : ∃ f, find (dSync (dAppend (dMake D (cutN l)).2 (cutN l) b).2 (cutN l)).2.files (cutN l) = some f := by
    rw [d2, find_upd _ _ _ (fun f => ({ f with sy := f.bs.length } : Fl)) (fun _ => rfl), f2]
    exact ⟨_, rfl⟩
  obtain ⟨f, f3⟩ := f3
  have h4 : dRename (dSync (dAppend (dMake D (cutN l)).2 (cutN l) b).2 (cutN l)).2 (cutN l) (segN l n) = dStep (dSync (dAppend (dMake D (cutN l)).2 (cutN l) b).2 (cutN l)).2 (mv f (cutN l) (segN l n)) := by
    unfold dRename
    have ha : ask (dSync (dAppend (dMake D (cutN l)).2 (cutN l) b).2 (cutN l)).2 [cutN l, segN l n] = 0 := by
      simp [ask, d3, b5.2.1, okN_cut hl, okN_seg hl]
    rw [if_neg (by simp [ha]), f3]
    simp only []
    rw [if_neg (Ne.symm (segN_ne_cut l n))]
  obtain ⟨g1, g2, g3, g4, g5⟩ := dStep_free (t := mv f (cutN l) (segN l n)) d5
  rw [← h4] at g1 g2 g3 g4 g5
  have e : seqD D (cutSteps l b n) = (0, (dRename (dSync (dAppend (dMake D (cutN l)).2 (cutN l) b).2 (cutN l)).2 (cutN l) (segN l n)).2) := by
    show seqD D [fun D => dMake D (cutN l), fun D => dAppend D (cutN l) b, fun D => dSync D (cutN l), fun D => dRename D (cutN l) (segN l n)] = _
    simp only [seqD]
    rw [if_pos a1, if_pos b5.1, if_pos d1, if_pos g1]
  rw [e]
  refine ⟨rfl, ⟨by rw [g3, d3, b5.2.1], g5⟩, fun m h1 h2 h3 => ?_⟩
  rw [g2] at h3
  unfold mv at h3
  rw [find_ins (f := { f with nm := segN l n }) (by rw [find_del, if_pos rfl]), if_neg (Ne.symm h2), find_del, if_neg (Ne.symm h2), find_del, if_neg (Ne.symm h1), d2, find_upd _ _ _ (fun f => ({ f with sy := f.bs.length } : Fl)) (fun _ => rfl)] at h3
  rw [Option.map_eq_none_iff, b2] at h3
  unfold put1 at h3
  rw [find_upd _ _ _ (fun f => ({ f with bs := f.bs ++ t } : Fl)) (fun _ => rfl), Option.map_eq_none_iff, a2, find_ins (f := ⟨cutN l, [], 0⟩) hn, if_neg (Ne.symm h1)] at h3
  exact h3
theorem rem_good (hl : okJ l = true) : ∀ (ns : List Nat) (E : Dsk), Free E → ns.Pairwise (fun a b => segN l a ≠ segN l b) → (∀ n ∈ ns, find E.files (segN l n) ≠ none) → (seqD E (remSteps l ns)).1 = 0
  | [], E, _, _, _ => rfl
  | n :: ns, E, hf, hp, hn => by
    obtain ⟨h1, h2⟩ := List.pairwise_cons.1 hp
    have e : dRemove E (segN l n) = dStep E (del (segN l n)) := by
      unfold dRemove
      have ha : ask E [segN l n] = 0 := by simp [ask, hf.on, okN_seg hl]
      rw [if_neg (by simp [ha]), if_neg (by simpa using hn n (by simp))]
    obtain ⟨g1, g2, g3, g4, g5⟩ := dStep_free (t := del (segN l n)) hf.fuse
    rw [← e] at g1 g2 g3 g4 g5
    show (seqD E ((fun D => dRemove D (segN l n)) :: remSteps l ns)).1 = 0
    simp only [seqD]
    rw [if_pos g1]
    refine rem_good hl ns _ ⟨by rw [g3]; exact hf.on, g5⟩ h2 fun m hm => ?_
    rw [g2, find_del, if_neg (h1 m hm)]
    exact hn m (by simp [hm])
/-- Open, where a segment's bytes are read as a first part of its records: that is cut, and those behind are removed -/
theorem open_turned {ps qs : List Sg} {x : Sg} {j : Nat} (hl : okJ l = true) (hok : Okd D) (ho : D.off = false) (hf : D.fuse = -1) (hn : find D.files (cutN l) = none) (hnums : jnums l D = (ps ++ x :: qs).map (·.num)) (hch : Chn 1 (ps ++ [x]))
    (hrise : ((ps ++ x :: qs).map (·.num)).Pairwise (· < ·)) (hg : ∀ y ∈ ps, ∀ r ∈ y.recs, Goodr r) (hps : ∀ y ∈ ps, byts D (segN l y.num) = sby y.recs) (hrec : recsOf (byts D (segN l x.num)) = x.recs.take j) (hlt : rsz (x.recs.take j) < (byts D (segN l x.num)).length)
    (hr : used D.files + (byts D (segN l x.num)).length ≤ D.room) : (jOpen l D).1 = 0 ∧ opened l D = jnOf (ps ++ [⟨x.num, x.recs.take j⟩]) := by
  have hfd : found l D (jnums l D) = ps ++ [⟨x.num, x.recs.take j⟩] := by
    unfold found
    rw [hnums, List.map_append, List.map_cons]
    exact goOver_turned (fun n => byts D (segN l n)) x j (qs.map (·.num)) hrec hlt ps none 1 (.inl rfl) hch hg hps
  refine ⟨?_, by unfold Go.Proofs.YtfiebjfdlplpjaaGreatDoor.opened; rw [half_no hn, hfd]⟩
  have e1 : jOpen l D = restD l D (jnums l D) (ps ++ [⟨x.num, x.recs.take j⟩]) := by
    unfold jOpen
    rw [half_no hn, if_pos rfl, hfd]
  have hcut : cutD l D (ps ++ [(⟨x.num, x.recs.take j⟩ : Sg)]) = seqD D (cutSteps l ((byts D (segN l x.num)).take (rsz (x.recs.take j))) x.num) := by
    unfold cutD isCut
    rw [lastOf_snoc, if_pos (by
      simp only [decide_eq_true_eq]
      exact ⟨by simp, fun h => by
        have h' : rsz (x.recs.take j) = (byts D (segN l x.num)).length := h
        omega⟩)]
    rfl
  obtain ⟨c1, c2, c3⟩ := cut_rest (b := (byts D (segN l x.num)).take (rsz (x.recs.take j))) ho hf hl hn (by rw [List.length_take]; omega) hok x.num
  rw [e1]
  unfold restD
  rw [hcut, if_pos c1]
  have hdrop : (jnums l D).drop (ps ++ [(⟨x.num, x.recs.take j⟩ : Sg)]).length = qs.map (·.num) := by
    rw [hnums, List.map_append, List.map_cons, List.length_append, List.length_singleton]
    rw [List.drop_append, List.drop_eq_nil_of_le (by simp), List.length_map, Nat.add_sub_cancel_left]
    rfl
  rw [hdrop]
  have hmem : ∀ n ∈ (ps ++ x :: qs).map (·.num), n ≤ maxNo ∧ segN l n ∈ names D := fun n h => by
    rw [← hnums] at h
    exact nos_mem.1 h
  have hle : ∀ n ∈ qs.map (·.num), n ≤ maxNo := fun n h => (hmem n (by rw [List.map_append, List.map_cons]; simp only [List.mem_append, List.mem_cons]; exact .inr (.inr h))).1
  rw [List.map_append, List.map_cons] at hrise
  have hp2 := (List.pairwise_append.1 hrise).2.1
  obtain ⟨hx1, hq⟩ := List.pairwise_cons.1 hp2
  have hxle : x.num ≤ maxNo := (hmem x.num (by simp)).1
  refine rem_good hl _ _ c2 ?_ fun n h h0 => ?_
  · refine List.Pairwise.imp_of_mem (fun {a b} ha hb hab he => ?_) hq
    have := segN_inj (hle a ha) (hle b hb) he
    omega
  · have h1 := hx1 n h
    have h2 := c3 (segN l n) (segN_ne_cut l n) (fun he => by
      have := segN_inj (hle n h) hxle he
      omega) h0
    have h3 := (hmem n (by rw [List.map_append, List.map_cons]; simp only [List.mem_append, List.mem_cons]; exact .inr (.inr h))).2
    have h4 : (find D.files (segN l n)).isSome := find_isSome.2 h3
    rw [h2] at h4
    cases h4
end
end Go.Proofs.YtfiebjfdlplpjaaGreatDoor
end

section
/- A disk with bits of one of its files turned. -/
namespace Go.Proofs.YtfiebjfdlplpjaaGreatDoor
set_option linter.unusedVariables false

/-- the bits of X turned from the place r of the file n on, the first i of them -/
def td (D : Dsk) (n : Nm) (r X i : Nat) : Dsk := { D with files := upd n (fun f => { f with bs := tns r X i f.bs }) D.files }
section
variable {D : Dsk} {n : Nm} {r X i : Nat} {f : Fl}
theorem td_zero : td D n r X 0 = D := by
  have h : upd n (fun f : Fl => { f with bs := tns r X 0 f.bs }) D.files = D.files := by
    unfold upd
    conv => rhs; rw [← List.map_id D.files]
    refine List.map_congr_left fun f _ => ?_
    split <;> rfl
  unfold td
  rw [h]
theorem td_same (hb : ¬ X / 2 ^ i % 2 = 1) : td D n r X (i + 1) = td D n r X i := by
  unfold td
  congr 2
  funext f
  rw [tns, if_neg (fun h => hb h.1)]
theorem td_find (m : Nm) : find (td D n r X i).files m = (find D.files m).map (fun f => if m = n then { f with bs := tns r X i f.bs } else f) :=
  find_upd D.files n m (fun f => ({ f with bs := tns r X i f.bs } : Fl)) (fun _ => rfl)
theorem modify_turn {L : List Int} (hL : Byt L) {p : Nat} (hp : p < 8 * L.length) : L.modify (p / 8) (xr (2 ^ (p % 8) % 256)) = turn L p := by
  have hlt : p / 8 < L.length := by omega
  have hg : L.getD (p / 8) 0 = L[p / 8] := by simp [List.getD, hlt]
  have hb := hL _ (List.getElem_mem hlt)
  unfold turn
  rw [hg]
  refine List.ext_getElem? fun k => ?_
  rw [List.getElem?_modify, List.getElem?_set]
  by_cases hk : p / 8 = k
  · subst hk
    rw [if_pos rfl, if_pos hlt, List.getElem?_eq_getElem hlt]
    obtain ⟨O, hO⟩ : ∃ O : Nat, L[p / 8] = O := ⟨(L[p / 8]).toNat, by omega⟩
    rw [hO] at hb ⊢
    have := bit_val O (p % 8) (by omega) (Nat.mod_lt _ (by decide))
    simp only [if_true, Option.map_eq_map, Option.map_some]
    unfold xr
    rw [this, Int.toNat_natCast]
  · simp [hk]
theorem td_turn (hok : Okd D) (hn : okN n = true) (hf : find D.files n = some f) (hby : Byt f.bs) (hb : X / 2 ^ i % 2 = 1) (hr : r + i < 8 * f.bs.length) :
    dTurn (xr (2 ^ ((r + i) % 8) % 256)) (td D n r X i) n (((r + i) / 8 : Nat) : Int) = (0, td D n r X (i + 1)) := by
  have hfd : find (td D n r X i).files n = some { f with bs := tns r X i f.bs } := by
    rw [td_find, hf]
    simp
  unfold dTurn
  rw [if_neg (by simp [hn]), hfd]
  simp only []
  have hl := tns_length r X i f.bs
  rw [if_neg (by rw [hl]; omega)]
  refine Prod.ext rfl ?_
  have key : upd n (fun f => ({ f with bs := f.bs.modify (((r + i) / 8 : Nat) : Int).toNat (xr (2 ^ ((r + i) % 8) % 256)) } : Fl)) (upd n (fun f => { f with bs := tns r X i f.bs }) D.files) = upd n (fun f => { f with bs := tns r X (i + 1) f.bs }) D.files := by
    unfold upd
    rw [List.map_map]
    refine List.map_congr_left fun a ha => ?_
    by_cases hnm : a.nm = n
    · have h1 := find_mem hok.srt ha
      rw [hnm, hf] at h1
      obtain rfl := Option.some.inj h1
      simp only [Function.comp, hnm, if_true]
      rw [tns, if_pos ⟨hb, hr⟩, Int.toNat_natCast, modify_turn (tns_byt r X i hby) (by rw [hl]; exact hr)]
    · simp only [Function.comp, hnm, if_false]
  exact congrArg (fun fs => ({ D with files := fs } : Dsk)) key
theorem td_names : names (td D n r X i) = names D := by
  show (upd n _ D.files).map (·.nm) = _
  unfold upd names
  rw [List.map_map]
  refine List.map_congr_left fun a _ => ?_
  show (if a.nm = n then ({ a with bs := tns r X i a.bs } : Fl) else a).nm = a.nm
  split <;> rfl
theorem td_byts : byts (td D n r X i) n = tns r X i (byts D n) := by
  unfold byts
  rw [td_find]
  cases h : find D.files n with
  | none =>
    have h0 : (tns r X i []).length = 0 := tns_length r X i []
    exact (List.eq_nil_of_length_eq_zero h0).symm
  | some f =>
    show (if n = n then ({ f with bs := tns r X i f.bs } : Fl) else f).bs = _
    rw [if_pos rfl]
theorem td_other {m : Nm} (hm : m ≠ n) : byts (td D n r X i) m = byts D m := by
  unfold byts
  rw [td_find]
  cases h : find D.files m with
  | none => rfl
  | some f =>
    show (if m = n then ({ f with bs := tns r X i f.bs } : Fl) else f).bs = _
    rw [if_neg hm]
theorem td_none {m : Nm} (h : find D.files m = none) : find (td D n r X i).files m = none := by rw [td_find, h]; rfl
theorem td_used : used (td D n r X i).files = used D.files := by
  show ((upd n _ D.files).map (fun f => f.bs.length)).sum = _
  unfold upd used
  rw [List.map_map]
  congr 1
  refine List.map_congr_left fun a _ => ?_
  show (if a.nm = n then ({ a with bs := tns r X i a.bs } : Fl) else a).bs.length = a.bs.length
  split
  · exact tns_length r X i a.bs
  · rfl
/-- all is well with it -/
theorem td_inv (h : Inv D) (hok : Okd (td D n r X i)) : Inv (td D n r X i) := by
  refine ⟨hok, ?_, ?_⟩
  · show (upd n _ D.files).length ≤ D.steps
    rw [upd_len]
    exact h.few
  · show ∀ f ∈ upd n _ D.files, Byt f.bs
    exact upd_byt h.byt n (g := fun f => { f with bs := tns r X i f.bs }) (fun f hf => tns_byt r X i hf)
end
end Go.Proofs.YtfiebjfdlplpjaaGreatDoor
end

section
/- Bits turned in one of a journal's files: what Open tells. -/
namespace Go.Proofs.YtfiebjfdlplpjaaGreatDoor
set_option linter.unusedVariables false

theorem cnt_append5 (p q : List Sg) : cnt (p ++ q) = cnt p + cnt q := by simp [cnt]
theorem cnt_cons5 (x : Sg) (q : List Sg) : cnt (x :: q) = x.recs.length + cnt q := by simp [cnt]
/-- all files are segments -/
def OnlyF (l : Nm) (D : Dsk) : Prop := ∀ m, (find D.files m).isSome → ∃ k, k ≤ maxNo ∧ m = segN l k
section
variable {l : Nm} {D : Dsk} {J : Jn} {b : List Int}
theorem only_new (r : Nat) : OnlyF l (dNew r) := fun m h => by cases h
theorem only_step (h : OnlyF l D) (t : List Fl → List Fl) (ht : ∀ m, (find (t D.files) m).isSome → (find D.files m).isSome ∨ ∃ k, k ≤ maxNo ∧ m = segN l k) : OnlyF l (dStep D t).2 := by
  intro m hm
  rcases dStep_two D t with e | ⟨_, e, _⟩
  · rw [e] at hm
    exact h m hm
  · rw [e] at hm
    rcases ht m hm with h1 | h1
    · exact h m h1
    · exact h1
theorem only_upd (n : Nm) (g : Fl → Fl) (hg : ∀ f, (g f).nm = f.nm) (m : Nm) (h : (find (upd n g D.files) m).isSome) : (find D.files m).isSome := by
  rw [find_upd _ _ _ g hg] at h
  simpa using h
theorem only_sync (h : OnlyF l D) (n : Nm) : OnlyF l (dSync D n).2 := by
  unfold dSync
  split
  · exact h
  · split
    · exact h
    · exact only_step h _ fun m hm => .inl (only_upd n (fun f => { f with sy := f.bs.length }) (fun _ => rfl) m hm)
theorem only_app (h : OnlyF l D) (n : Nm) (b : List Int) : OnlyF l (dAppend D n b).2 := by
  unfold dAppend
  split
  · exact h
  · split
    · exact h
    · split
      · exact h
      · obtain ⟨t, u, _, e, _⟩ := puts_two n (parts b) D
        intro m hm
        rw [e] at hm
        exact h m (only_upd n (fun f => { f with bs := f.bs ++ t }) (fun _ => rfl) m hm)
theorem only_make (h : OnlyF l D) {k : Nat} (hk : k ≤ maxNo) : OnlyF l (dMake D (segN l k)).2 := by
  unfold dMake
  split
  · exact h
  · split
    · exact h
    · rename_i _ hn
      have hn' : find D.files (segN l k) = none := by simpa using hn
      refine only_step h _ fun m hm => ?_
      rw [find_ins (f := ⟨segN l k, [], 0⟩) hn'] at hm
      by_cases e : segN l k = m
      · exact .inr ⟨k, hk, e.symm⟩
      · rw [if_neg e] at hm
        exact .inl hm
theorem only_syncLast (h : OnlyF l D) : OnlyF l (jSyncLast l D J).2.1 := by
  unfold jSyncLast
  split
  · exact h
  · exact only_sync h _
theorem syncLast_next : (jSyncLast l D J).2.2.next = J.next := by
  unfold jSyncLast
  split
  · rfl
  · show (jEnd J _).next = _
    unfold jEnd
    split <;> rfl
theorem only_sync5 (h : OnlyF l D) : OnlyF l (jSync l D J).2.1 := by
  unfold jSync
  split
  · exact h
  · exact only_syncLast h
theorem only_extend (h : OnlyF l D) : OnlyF l (jExtend l D J).2.1 := by
  unfold jExtend
  split
  · exact h
  · split
    · exact h
    · rename_i hmx
      split
      · have hk : (jSyncLast l D J).2.2.next ≤ maxNo := by rw [syncLast_next]; omega
        unfold jNew
        split
        · exact only_make (only_syncLast h) hk
        · exact only_make (only_syncLast h) hk
      · exact only_syncLast h
theorem only_append (h : OnlyF l D) : OnlyF l (jAppend l D J b).2.2.1 := by
  unfold jAppend
  split
  · exact h
  · split
    · exact h
    · split
      · unfold jPut
        split
        · exact only_app (only_extend h) _ _
        · exact only_app (only_extend h) _ _
      · exact only_extend h
theorem td_id {n : Nm} {r X i : Nat} (hok : Okd D) (h : tns r X i (byts D n) = byts D n) : td D n r X i = D := by
  have key : upd n (fun f => ({ f with bs := tns r X i f.bs } : Fl)) D.files = D.files := by
    unfold upd
    conv => rhs; rw [← List.map_id D.files]
    refine List.map_congr_left fun a ha => ?_
    by_cases hnm : a.nm = n
    · have h1 := find_mem hok.srt ha
      rw [hnm] at h1
      have h2 : byts D n = a.bs := by unfold byts; rw [h1]
      rw [h2] at h
      rw [if_pos hnm]
      show ({ a with bs := tns r X i a.bs } : Fl) = a
      rw [h]
    · rw [if_neg hnm]
      rfl
  exact congrArg (fun fs => ({ D with files := fs } : Dsk)) key
/-- what Open tells of it -/
theorem alt_found {M : List (List Int)} {m : Nat} (h : St5 l D J M m) (hF : Free D) (ho : OnlyF l D) (hl : okJ l = true) {n : Nm} (hn : (find D.files n).isSome) {r X i : Nat} (hX : X < 4294967296) (hI : tns r X i (byts D n) = tns r X 32 (byts D n)) (hroom : 2 * used D.files ≤ D.room) (hok' : Okd (td D n r X i)) :
    (jOpen l (td D n r X i)).1 = 0 ∧ ((tns r X i (byts D n) = byts D n ∧ jAll (opened l (td D n r X i)) = M) ∨ (tns r X i (byts D n) ≠ byts D n ∧ ∃ k, k < M.length ∧ jAll (opened l (td D n r X i)) = M.take k)) := by
  obtain ⟨k, hk, rfl⟩ := ho n hn
  have hkn : k ∈ jnums l D := nos_mem.2 ⟨hk, find_isSome.1 hn⟩
  rcases h.st with ⟨hb, _⟩ | ⟨ps, s, hL, _, hM⟩
  · rw [hb.nums] at hkn
    cases hkn
  · have hbs : ∀ y ∈ ps ++ [s], byts D (segN l y.num) = sby y.recs := fun y hy => by
      rcases List.mem_append.1 hy with hy | hy
      · exact hL.byts.1 y hy
      · obtain rfl := List.mem_singleton.1 hy
        rw [hL.byts.2, List.take_of_length_le (by rw [sby_length]; exact Nat.le_refl _)]
    have hkm := hkn
    rw [hL.nums] at hkm
    obtain ⟨x, hx, rfl⟩ := List.mem_map.1 hkm
    have hbx := hbs x hx
    rcases recs_turned x.recs (hL.good x hx) r X hX with e | ⟨hne, j, hj, hrec, hlt⟩
    · have e2 : tns r X i (byts D (segN l x.num)) = byts D (segN l x.num) := by rw [hI, hbx, e]
      rw [td_id h.inv.ok e2]
      have hw : whr s.recs (rsz s.recs) = s.recs.length := whr_all s.recs
      obtain ⟨f, hf1, hf2, _⟩ := hL.last
      have hus := file_used hf1
      rw [hf2, List.take_of_length_le (by rw [sby_length]; exact Nat.le_refl _), sby_length] at hus
      obtain ⟨h1, h2⟩ := hL.open_ h.inv.ok hF.on hF.fuse hl (by omega)
      refine ⟨h1, .inl ⟨e2, ?_⟩⟩
      rw [hL.opened, hw, List.take_length, jAll_flat]
      exact hM
    · have e2 : tns r X i (byts D (segN l x.num)) ≠ byts D (segN l x.num) := by rw [hI, hbx]; exact hne
      obtain ⟨p, q, hpq⟩ := List.append_of_mem hx
      have hrise := hL.rise h.inv.ok.srt
      have hch := hL.chain
      have hgood := hL.good
      have hnums := hL.nums
      rw [hpq] at hrise hch hgood hnums hbs hM
      have hxp : ∀ y ∈ p, segN l y.num ≠ segN l x.num := fun y hy he => by
        have hr := hrise
        rw [List.map_append, List.map_cons] at hr
        have h1 := (List.pairwise_append.1 hr).2.2 y.num (List.mem_map_of_mem hy) x.num (by simp)
        have hy2 : y.num ∈ jnums l D := by rw [hnums]; simp only [List.map_append, List.mem_append]; exact .inl (List.mem_map_of_mem hy)
        have := segN_inj (nos_mem.1 hy2).1 hk he
        omega
      have htb : byts (td D (segN l x.num) r X i) (segN l x.num) = tns r X 32 (sby x.recs) := by rw [td_byts, hI, hbx]
      have htl : (tns r X 32 (sby x.recs)).length = rsz x.recs := by rw [tns_length, sby_length]
      obtain ⟨f, hf⟩ := Option.isSome_iff_exists.1 hn
      have hfu := file_used hf
      have hfb : f.bs.length = rsz x.recs := by
        have : byts D (segN l x.num) = f.bs := by unfold byts; rw [hf]
        rw [← this, hbx, sby_length]
      obtain ⟨h1, h2⟩ := open_turned (D := td D (segN l x.num) r X i) (ps := p) (qs := q) (x := x) (j := j) hl hok' hF.on hF.fuse (td_none hL.nocut) (by unfold jnums; rw [td_names]; exact hnums)
        (by
          have := (chn_append 1 (p ++ [x]) q).1 (by simpa using hch)
          exact this.1)
        hrise (fun y hy => hgood y (by simp [hy])) (fun y hy => by rw [td_other (hxp y hy)]; exact hbs y (by simp [hy])) (by rw [htb]; exact hrec) (by rw [htb, htl]; exact hlt) (by rw [htb, htl, td_used]; show _ ≤ D.room; omega)
      refine ⟨h1, .inr ⟨e2, cnt p + j, ?_, ?_⟩⟩
      · rw [← hM, flat_length, cnt_append5, cnt_cons5]
        omega
      · rw [h2, jAll_flat, ← hM, flat_append, flat_append]
        have e3 : flat (x :: q) = x.recs ++ flat q := by simp [flat]
        have e4 : flat [(⟨x.num, x.recs.take j⟩ : Sg)] = x.recs.take j := by simp [flat]
        rw [e3, e4, List.take_append, flat_length, List.take_of_length_le (l := flat p) (by rw [flat_length]; omega), show cnt p + j - cnt p = j by omega, List.take_append_of_le_length (by omega)]
end
end Go.Proofs.YtfiebjfdlplpjaaGreatDoor
end
