/- The statement on what a crash keeps: of any room, any acts but Turn, and any numbers to keep: each file has what was synced of it, then a first part of what else it had. Conditions: none beyond the statement's own. -/
import Derived.Test.YtnpomiidkdnebaaDActs
namespace Go.Proofs.Ytnpomiidkdnebaa
section
open Go.RowKit
set_option linter.unusedVariables false

theorem own_far {w w' : World} {B B' : Nat} {e e' : TypeId} {k k' n m : Nat} {u v : Value} {xs ys : List Value} (hne : e ≠ e') (h : w.ownsRow B e k u n xs) (hv : w.ownsRow B' e' k' v m ys) (hg : w.grownBy w' v.ownBlock) : w'.ownsRow B e k u n xs :=
  ownRow_block_kept h fun g hg' => hg.block g (ownRow_block h hg').2.1 (fun hb => by
    obtain ⟨_, _, cs, hh⟩ := ownRow_block h hg'
    obtain ⟨_, _, ds, hh'⟩ := ownRow_block hv hb.symm
    exact (Whole.ne (cs := cs) (ds := ds) hh hh' hne) rfl)
theorem own_outs {S : Nat → Prop} {w w' : World} {B k n : Nat} {e : TypeId} {u : Value} {xs : List Value} (h : w.ownsRow B e k u n xs) (ho : Outs S w w') (hS : ∀ j, S j → j < B) : w'.ownsRow B e k u n xs :=
  ownRow_block_kept h fun g hg => ho.block g (ownRow_block h hg).2.1 (fun hk => by have := (ownRow_block h hg).1; have := hS g hk; omega)

/-- 'append(s, u)' of one cell, with what has grown -/
theorem app_oneg {P : Program} (w : World) {ops : Array Oper} {rest : List Oper} {o : Oper} {a : Act} {Q : Exit → Act → World → Prop} (hgd : o.guard = none) (s x : Operand) (t : TypeId)
    (ho : o.op = .call { callee := .builtin .append, args := #[s, x], argTypes := #[t, t] })
    (B : Nat) (e : TypeId) (i : TypeInfo) (z : Value) (bytes : Nat) (ht : P.underlying t = some (.slice e)) (hi : P.info? e = some i) (hz : i.zero = some z)
    (hsize : i.size = 1) (hby : i.bytes = bytes) (hzs : z.cells.size = 1)
    (v : Value) (n : Nat) (xs : List Value) (hs : a.eval s = v) (hown : w.ownsRow B e 1 v n xs) (u : Value) (hx : a.eval x = .slice (some ⟨w.heap.size, 0, none⟩) 1 1) (h1 : u.oneCell' = true)
    (hn : n + 1 ≤ maxLen) (hbytes : (n + 1) * bytes ≤ 140737488355328) (hB : B ≤ w.heap.size)
    (h : ∀ v' w', w'.ownsRow B e 1 v' (n + 1) (xs ++ [u]) → (w.alloc (.cells #[u] e)).grownBy w' v.ownBlock → wpList P ops Q rest (a.put o.dst v') w') : wpList P ops Q (o :: rest) a (w.alloc (.cells #[u] e)) := by
  refine wpList_append_own_at _ hgd s x t ho B e i z 1 bytes ht hi hz hsize hby hzs (by decide) v n xs hs (hown.alloc _) ⟨w.heap.size, 0, none⟩ 1 1 [u] hx rfl (one_new w e u) (by simpa using h1) hn hbytes (by simp; omega) ?_
  intro v' w' hown' hg _ _
  exact h v' w' hown' hg

/-- what is kept of the files, their bytes and how many were synced -/
structure Was (B : Nat) (wr : World) (fs : List Fl) (k : Nat) (vw vs : Value) (ws : List Value) : Prop where
  len : ws.length = k
  kle : k ≤ fs.length
  row : wr.ownsRow B 29 1 vw k ws
  sys : wr.ownsRow B 3 1 vs k (cN ((fs.take k).map (fun f => (f.sy : Int))))
  bys : ∀ (j : Nat) (u : Value) (f : Fl), ws[j]? = some u → fs[j]? = some f → wr.ownsRow B 5 1 u f.bs.length (c8 f.bs)
section
variable {B : Nat} {wr w' : World} {fs : List Fl} {k : Nat} {vw vs : Value} {ws : List Value}
theorem Was.below (h : Was B wr fs k vw vs ws) (hb : Below wr.heap.size wr w') : Was B w' fs k vw vs ws :=
  ⟨h.len, h.kle, own_below' h.row hb, own_below' h.sys hb, fun j u f hu hf => own_below' (h.bys j u f hu hf) hb⟩
theorem Was.outs {S : Nat → Prop} (h : Was B wr fs k vw vs ws) (ho : Outs S wr w') (hS : ∀ j, S j → j < B) : Was B w' fs k vw vs ws :=
  ⟨h.len, h.kle, own_outs h.row ho hS, own_outs h.sys ho hS, fun j u f hu hf => own_outs (h.bys j u f hu hf) ho hS⟩
theorem Was.start (B : Nat) (wr : World) (fs : List Fl) : Was B wr fs 0 (.slice none 0 0) (.slice none 0 0) [] :=
  ⟨rfl, Nat.zero_le _, World.ownsRow_nil _ _ _ _, by simpa [cN] using World.ownsRow_nil wr B 3 1, fun j u f hu _ => by simp at hu⟩
/-- one file more is noted: behind the two appends -/
theorem Was.more {w5 w6 : World} {f : Fl} {u vw' vs' : Value} (h : Was B wr fs k vw vs ws) (hf : fs[k]? = some f) (hu : wr.ownsRow B 5 1 u f.bs.length (c8 f.bs))
    (h5 : w5.ownsRow B 29 1 vw' (k + 1) (ws ++ [u])) (g5 : (wr.alloc (.cells #[u] 29)).grownBy w5 vw.ownBlock)
    (h6 : w6.ownsRow B 3 1 vs' (k + 1) (cN ((fs.take k).map (fun f => (f.sy : Int))) ++ [.int .i64 f.sy])) (g6 : (w5.alloc (.cells #[.int .i64 f.sy] 3)).grownBy w6 vs.ownBlock) (hs5 : w5.ownsRow B 3 1 vs k (cN ((fs.take k).map (fun f => (f.sy : Int))))) : Was B w6 fs (k + 1) vw' vs' (ws ++ [u]) := by
  have hkl : k < fs.length := (List.getElem?_eq_some_iff.1 hf).1
  have byt5 : ∀ {v : Value} {n : Nat} {xs : List Value}, wr.ownsRow B 5 1 v n xs → w6.ownsRow B 5 1 v n xs := fun hv =>
    own_far (by decide) ((own_far (by decide) (hv.alloc _) (h.row.alloc _) g5).alloc _) (hs5.alloc _) g6
  refine ⟨by rw [List.length_append, h.len]; rfl, hkl, own_far (by decide) (h5.alloc _) (hs5.alloc _) g6, ?_, ?_⟩
  · have e : (fs.take (k + 1)).map (fun f => (f.sy : Int)) = (fs.take k).map (fun f => (f.sy : Int)) ++ [(f.sy : Int)] := by
      rw [List.take_add_one, hf]
      simp
    rw [e]
    have e2 : cN ((fs.take k).map (fun f => (f.sy : Int)) ++ [(f.sy : Int)]) = cN ((fs.take k).map (fun f => (f.sy : Int))) ++ [.int .i64 f.sy] := by simp [cN]
    rw [e2]
    exact h6
  · intro j u' f' hu' hf'
    rcases Nat.lt_or_ge j ws.length with hj | hj
    · rw [List.getElem?_append_left hj] at hu'
      exact byt5 (h.bys j u' f' hu' hf')
    · rw [List.getElem?_append_right hj] at hu'
      have hj2 : j - ws.length = 0 := by
        have := (List.getElem?_eq_some_iff.1 hu').1
        simp at this
        omega
      rw [hj2] at hu'
      obtain rfl : u = u' := by simpa using hu'
      have hjk : j = k := by rw [← h.len]; omega
      subst hjk
      rw [hf] at hf'
      obtain rfl := Option.some.inj hf'
      exact byt5 hu
end

/-! ## what is read -/
theorem ask_on {D : Dsk} (ho : D.off = false) {l : Nm} (hl : okN l = true) : ask D [l] = 0 := by simp [ask, ho, hl]
theorem read_on {D : Dsk} (h : Okd D) (ho : D.off = false) {f : Fl} (hf : f ∈ D.files) : dRead D f.nm = (f.bs, 0) := by
  unfold dRead
  rw [if_neg (by rw [ask_on ho (h.nms f hf)]; simp), find_mem h.srt hf]
theorem synced_on {D : Dsk} (h : Okd D) (ho : D.off = false) {f : Fl} (hf : f ∈ D.files) : dSynced D f.nm = (f.sy, 0) := by
  unfold dSynced
  rw [if_neg (by rw [ask_on ho (h.nms f hf)]; simp), find_mem h.srt hf]
def crashed (D : Dsk) (ks : List Int) : Dsk := { D with files := crs D.files ks, off := false, fuse := -1 }
theorem crashed_ok {D : Dsk} (h : Okd D) {ks : List Int} (hn : ks.any isNeg = false) : Okd (crashed D ks) ∧ dCrash D ks = (0, crashed D ks) := by
  have e : dCrash D ks = (0, crashed D ks) := by
    unfold dCrash
    have : ks.any (fun k => decide (k < 0)) = false := hn
    rw [this]
    rfl
  refine ⟨?_, e⟩
  have := okd_crash h ks
  rwa [e] at this
theorem crs_get {fs : List Fl} {ks : List Int} {i : Nat} {f : Fl} (h : fs[i]? = some f) : (crs fs ks)[i]? = some (cutTo f (ks.getD i 0)) := by
  obtain ⟨hi, rfl⟩ := List.getElem?_eq_some_iff.1 h
  simp [crs, hi]
theorem crs_names (D : Dsk) (ks : List Int) : names (crashed D ks) = names D := by
  have := crsN_nm D.files.length D.files ks
  rw [crsN_all] at this
  exact this
theorem keptOf_le {f : Fl} (hs : f.sy ≤ f.bs.length) (k : Int) : keptOf f k ≤ f.bs.length := by unfold keptOf; omega
theorem cutTo_len {f : Fl} (hs : f.sy ≤ f.bs.length) (k : Int) : (cutTo f k).bs.length = keptOf f k := by
  have := keptOf_le hs k
  simp only [cutTo, List.length_take]
  omega
end
end Go.Proofs.Ytnpomiidkdnebaa

namespace Go.Proofs.Ytnpomiidkdnebaa
open Go.RowKit Go.ChangeShapes Go.WideShapes Go.ChangeAt
set_option linter.unusedVariables false

theorem cellsN : Try.prog.cellsOf 3 = 1 := cellsOf_int
theorem bytesN : Try.prog.bytesOf 3 = 8 := bytesOf_int
theorem infoB : (Try.prog.info? 29).map (fun i => (i.zero, i.size, i.bytes)) = some (some (.slice none 0 0), 1, 24) := by kernel_rfl

set_option maxHeartbeats 16000000 in
set_option maxRecDepth 8000 in
theorem keeps_walk (r : Int) (A : Option Addr) (az : List Ac) (c : Nat) (Ak : Option Addr) (ks : List Int) (ck : Nat) (W : World) (ha : ActsArg W (.slice A az.length c) A az c)
    (hkc : ks.length ≤ ck) (hkl : ks.length ≤ 9223372036854775807) (hkr : Rds W W.heap.size Ak (cN ks)) (hkb : ∀ z ∈ ks, -9223372036854775808 ≤ z ∧ z ≤ 9223372036854775807) :
    Calls Try.prog 6 #[.int .i64 r, .slice A az.length c, .slice Ak ks.length ck] W fun e w' => e = .returned (.bool true) ∧ Below W.heap.size W w' := by
  obtain ⟨m, hm⟩ : ∃ m, m = ks.length := ⟨_, rfl⟩
  rw [← hm] at hkc hkl ⊢
  have hm63 : (m : Int) ≤ 9223372036854775807 := by omega
  have HM := Lib.hid hm
  have HKR := Lib.hid hkr
  have HKB := Lib.hid hkb
  clear hm hkr hkb
  by_cases hr : r < 0 ∨ 1073741824 < r
  · have hn1 := fun w => new_bad r hr w
    clear hr
    go_enter Try.func6, Try.ntmps6
    go_wp2_with fail
    refine (lives_any W).mono ?_
    rintro e w1 ⟨rfl, hb1⟩
    go_wp2_with fail
    refine (hn1 w1).mono ?_
    rintro e w2 ⟨rfl, h2⟩
    rw [h2]
    clear h2 w2
    go_wp2
    go_returns
    exact ⟨by simp, hb1⟩
  · obtain ⟨R, rfl⟩ : ∃ R : Nat, r = R := ⟨r.toNat, by omega⟩
    have hR : R ≤ 1073741824 := by omega
    have hn1 := fun w => new_any R hR w
    have hl := ha.cap
    clear hr
    have HA := Lib.hid ha
    obtain ⟨n, hn⟩ : ∃ n, n = az.length := ⟨_, rfl⟩
    rw [← hn] at hl ⊢
    have HN := Lib.hid hn
    clear ha hn
    go_enter Try.func6, Try.ntmps6
    go_wp2_with fail
    refine (lives_any W).mono ?_
    rintro e w1 ⟨rfl, hb1⟩
    go_wp2_with fail
    refine (hn1 w1).mono ?_
    rintro e w2 ⟨Sd, d, rfl, hd, hb2, hSd⟩
    have hb12 := hb1.trans (hb2.mono hb1.size)
    have hSn : ∀ k, Sd k → W.heap.size ≤ k := fun k hk => Nat.le_trans hb1.size (hSd k hk)
    have HD := Lib.hid hd
    have HS := Lib.hid hSn
    clear hn1 hd hb2 hb1 hSd hSn
    by_cases h200 : 200 < n
    · have h200' : (200 : Int) < n := by omega
      go_wp2
      go_returns
      exact ⟨by simp, hb12⟩
    · have h200' : ¬ (200 : Int) < n := by omega
      go_wp2
      go_loopw [9] (fun i wr => ∃ (k : Nat) (S : Nat → Prop) (D : Dsk), k ≤ n ∧ i = .int .i64 k ∧ Dk 0 wr S d D ∧ Beh k D ∧ Below W.heap.size W wr ∧ ∀ j, S j → W.heap.size ≤ j) (fun i _ => n - (intOf i).toNat)
      case atStart => exact ⟨0, _, _, Nat.zero_le _, rfl, HD.out, Beh.new R hR, hb12, HS.out⟩
      case round =>
        obtain ⟨k, S, D, hk, rfl, hp, hbeh, hbw, hS⟩ := hrel
        by_cases hlt : k < n
        · have hkl2 : k < az.length := by rw [← HN.out]; exact hlt
          obtain ⟨ad, rfl, hadb, hcells⟩ := HA.out.at_ hkl2
          obtain ⟨k0, k1, k2, k3, k4, k5⟩ := hcells wr hbw
          have hin := HA.out.acts _ (List.getElem_mem hkl2)
          have hak := AcOk.new hin hbw hS
          generalize az[k] = a at *
          have hlb := hin.ok.bl
          by_cases hbig : 2000 < a.L
          · have hbig' : (2000 : Int) < a.L := by omega
            clear hp hbeh hak hin hcells
            go_wp2
            go_returns
            exact ⟨by simp, hbw⟩
          · have hbig' : ¬ (2000 : Int) < a.L := by omega
            have hact := act_any a d D S wr hp (hbeh.gd (by omega)) hak
            have hbeh' := hbeh.acted a hak.nb.2 (by rw [hlb]; omega)
            have HB := Lib.hid hbeh'
            have HSS := Lib.hid hS
            unfold acCells at hact
            clear hp hbeh hak hin hcells hbeh' hS hlb
            generalize acted a D = D' at *
            obtain ⟨kd, nm, to, aA, aL, ac, ab, an, aAk, am, ack, aks⟩ := a
            dsimp only at *
            go_wp2_with fail
            refine hact.mono ?_
            rintro e w4 ⟨rfl, S', hd', hT⟩
            have hb4 := below_of hbw hT.outs HSS.out
            have hS4 := turn_far hbw hT HSS.out
            clear hact hT
            go_wp2
            go_roundw
            case rel => exact ⟨k + 1, S', _, by omega, by go_num, hd', HB.out, hb4, hS4⟩
            case measure => simp [intOf]; omega
        · have hk200 : k ≤ 200 := by omega
          have hfree := free_any wr hp
          have HBE := Lib.hid hbeh
          have HSS := Lib.hid hS
          clear hp hbeh hS
          go_wp2_with fail
          refine hfree.mono ?_
          rintro e w3 ⟨rfl, hd3, hT3⟩
          have hb3 := below_of hbw hT3.outs HSS.out
          have hon := on_any w3 hd3
          have hok : Okd (dFree D) := okd_free HBE.out.ok
          have hroom : Room (dFree D) := okd_room hok (by have := HBE.out.steps; show D.steps + 100 ≤ _; omega)
          have hfew : (dFree D).files.length ≤ 6400 := by have h1 := HBE.out.few; have h2 := HBE.out.steps; show D.files.length ≤ _; omega
          have hst : (dFree D).steps ≤ 1099511627776 := by have := hroom.1; omega
          have hkS : ∀ ad, Ak = some ad → cN ks ≠ [] → ¬ S ad.block := fun ad e hne hk => by
            obtain ⟨ad', e', hb', _⟩ := HKR.out hne
            rw [e] at e'
            obtain rfl := Option.some.inj e'
            have := HSS.out _ hk
            omega
          have hcr : ∀ W', Below w3.heap.size w3 W' → Calls Try.prog 13 #[.pointer (some ⟨d, 0, none⟩), .slice Ak m ck] W' _ := fun W' hb =>
            crash_any Ak ks m ck W' (hd3.go hb) hroom hok HM.out.symm (by omega) (fun z hz => (HKB.out z hz).2) ((HKR.out.below (hb3.trans (hb.mono hb3.size))).more (Nat.le_trans hb3.size hb.size)) hkS
          have hfine : ∀ W', Below W.heap.size W W' → Calls Try.prog 30 #[.slice Ak m ck] W' fun e w' => e = .returned (.bool (!ks.any isNeg)) ∧ w' = W' := fun W' hb => fine_any Ak ks m ck W.heap.size W' HM.out.symm (by omega) (HKR.out.below hb)
          have HKSS := Lib.hid hkS
          have HD3 := Lib.hid hd3
          have HOK := Lib.hid hok
          generalize dFree D = D1 at *
          clear hfree hT3 hbw hd3 hok hkS
          cases hoff : D1.off
          · rw [hoff] at hon
            have hdn : dNames D1 = names D1 := by simp [dNames, hoff]
            have hnames := names_on w3 HD3.out hst HOK.out.srt
            rw [hdn] at hnames
            obtain ⟨NF, hNF⟩ : ∃ NF, NF = (names D1).length := ⟨_, rfl⟩
            have hNF2 : NF = D1.files.length := by rw [hNF]; simp [names]
            rw [← hNF] at hnames
            have hRd : ∀ W', Below w3.heap.size w3 W' → ∀ f ∈ D1.files, Calls Try.prog 14 #[.pointer (some ⟨d, 0, none⟩), .string ⟨f.nm.toArray⟩] W' fun e w' => ∃ v, e = .returned (.tuple #[v, .int .i64 0]) ∧ w'.ownsRow W'.heap.size 5 1 v f.bs.length (c8 f.bs) ∧ Below W'.heap.size W' w' := fun W' hb f hf => by
              have h1 := okN_size (HOK.out.nms f hf)
              have h2 := read_any ⟨f.nm.toArray⟩ (by omega) W' (HD3.out.go hb) (len30 HOK.out)
              rw [lst_nm, read_on HOK.out hoff hf] at h2
              exact h2
            have hSy : ∀ W', Below w3.heap.size w3 W' → ∀ f ∈ D1.files, Calls Try.prog 15 #[.pointer (some ⟨d, 0, none⟩), .string ⟨f.nm.toArray⟩] W' fun e w' => e = .returned (.tuple #[.int .i64 f.sy, .int .i64 0]) ∧ Below W'.heap.size W' w' := fun W' hb f hf => by
              have h1 := okN_size (HOK.out.nms f hf)
              have h2 := synced_any ⟨f.nm.toArray⟩ (by omega) W' (HD3.out.go hb)
              rw [lst_nm, synced_on HOK.out hoff hf] at h2
              exact h2
            have HRD := Lib.hid hRd
            have HSY := Lib.hid hSy
            have HCR := Lib.hid hcr
            have HFI := Lib.hid hfine
            have HNF := Lib.hid hNF
            have HNF2 := Lib.hid hNF2
            have HOFF := Lib.hid hoff
            have hNF64 : NF ≤ 6400 := by omega
            obtain ⟨iB, hB0, hB1, hB2, hB3⟩ := info_parts infoB
            obtain ⟨iI, hI0, hI1, hI2, hI3⟩ := info_parts infoI
            clear hRd hSy hcr hfine hNF hNF2 hdn hoff
            go_wp2_with fail
            refine hon.mono ?_
            rintro e w8 ⟨rfl, hw8⟩
            rw [hw8]
            clear hw8 w8 hon
            go_wp2_with fail
            refine hnames.mono ?_
            rintro e wN ⟨vN, rfl, hoN, hbN⟩
            obtain ⟨AN, cNN, rfl, hrN, hcN, hcmN, hAN0⟩ := own_open hoN
            have hSB : ∀ j, S j → j < wN.heap.size := fun j hj => Nat.lt_of_lt_of_le (HD3.out.lt j hj) hbN.size
            have HSB := Lib.hid hSB
            clear hnames hSB
            go_wp2
            go_loopw [11, 12, 13] (fun vw vs i wr => ∃ (k : Nat) (ws : List Value), i = .int .i64 k ∧ Was wN.heap.size wr D1.files k vw vs ws ∧ Below wN.heap.size wN wr) (fun _ _ i _ => NF - (intOf i).toNat)
            case atStart => exact ⟨0, [], rfl, Was.start _ _ _, Below.refl _ _⟩
            case round =>
              obtain ⟨j, ws, rfl, was, hbj⟩ := hrel
              have hjle : j ≤ NF := by rw [HNF2.out]; exact was.kle
              by_cases hlt2 : j < NF
              · have hjf : j < D1.files.length := by rw [← HNF2.out]; exact hlt2
                have hf := List.getElem?_eq_getElem hjf
                have hfm := List.getElem_mem hjf
                have hjn : j < (names D1).length := by rw [← HNF.out]; exact hlt2
                obtain ⟨ad, rfl, hadb, hcl⟩ := (hrN.below hbj).at_ (cS_get hjn)
                rw [show (names D1)[j] = D1.files[j].nm by simp [names]] at hcl
                generalize D1.files[j] = f at *
                have hcl' : wr.cell? (ad.add j) = some (.string ⟨f.nm.toArray⟩) := hcl
                have hb3w : Below w3.heap.size w3 wr := hbN.trans (hbj.mono hbN.size)
                have hRd := HRD.out wr hb3w f hfm
                have hSy := fun W' (hb : Below wr.heap.size wr W') => HSY.out W' (hb3w.trans (hb.mono hb3w.size)) f hfm
                have hcw : ∀ W', Below wr.heap.size wr W' → W'.cell? (ad.add j) = some (.string ⟨f.nm.toArray⟩) := fun W' hb => (hb.cell (p := ad.add j) (by rw [blk_add]; have := hbj.size; omega)).trans hcl'
                have HF := Lib.hid hf
                have HWAS := Lib.hid was
                have hj63 : j + 1 ≤ 6400 := by omega
                have HCW := Lib.hid hcw
                have HBJ := Lib.hid hbj
                clear hcl was hf hfm hcw hbj hb3w hjf hjn
                generalize (⟨f.nm.toArray⟩ : ByteArray) = nmf at *
                go_wp2_with fail
                refine hRd.mono ?_
                rintro e w5 ⟨v5, rfl, ho5, hb5⟩
                obtain ⟨A5, c5, rfl, _⟩ := own_open ho5
                have hk5 := HCW.out w5 hb5
                have hSy5 := hSy w5 hb5
                clear hRd hSy
                go_wp2_with fail
                refine hSy5.mono ?_
                rintro e w6 ⟨rfl, hb6⟩
                have hb56 := hb5.trans (hb6.mono hb5.size)
                have was6 := HWAS.out.below hb56
                have hBw : wN.heap.size ≤ w6.heap.size := Nat.le_trans HBJ.out.size hb56.size
                have hu6 : w6.ownsRow wN.heap.size 5 1 (.slice A5 f.bs.length c5) f.bs.length (c8 f.bs) := ownRow_base (own_below' ho5 hb6) (fun g hg => by
                  have h1 := (ownRow_block ho5 hg).1
                  have h2 := HBJ.out.size
                  omega)
                have hbN6 : Below wN.heap.size wN w6 := HBJ.out.trans (hb56.mono HBJ.out.size)
                have hrow6 := was6.row
                have HU6 := Lib.hid hu6
                have HWAS6 := Lib.hid was6
                clear hSy5 ho5 hu6 was6 hk5 hcl' hb5 hb6 hb56
                have hkS' : w6.ownsRow wN.heap.size 3 1 u12 j (cN ((D1.files.take j).map (fun f => (f.sy : Int)))) := HWAS6.out.sys
                go_wp2_with (at_builtin; go_loud (refine app_oneg w6 rfl (.tmp 102) (.tmp 104) 60 rfl wN.heap.size 29 iB (.slice none 0 0) 24 Try.underlying60 hB0 hB1 hB2 hB3 rfl u11 j ws rfl hrow6 (.slice A5 f.bs.length c5) rfl rfl (by unfold maxLen; omega) (by omega) hBw ?_))
                intro v9 w9 hown9 hg9
                have hs9 : w9.ownsRow wN.heap.size 3 1 u12 j (cN ((D1.files.take j).map (fun f => (f.sy : Int)))) := own_far (by decide) (hkS'.alloc _) (hrow6.alloc _) hg9
                have hB6 : wN.heap.size ≤ (w6.alloc (.cells #[.slice A5 f.bs.length c5] 29)).heap.size := by simp; omega
                have hB9 : wN.heap.size ≤ w9.heap.size := Nat.le_trans hB6 hg9.size
                have hbN9 : Below wN.heap.size wN w9 := (hbN6.alloc hBw _).grown hg9 hB6 (fun g hg => (hrow6.lt g hg).1)
                go_wp2_with (at_builtin; go_loud (refine app_oneg w9 rfl (.tmp 106) (.tmp 108) 31 rfl wN.heap.size 3 iI (.int .i64 0) 8 Try.underlying31 hI0 hI1 hI2 hI3 rfl u12 j (cN ((D1.files.take j).map (fun f => (f.sy : Int)))) rfl hs9 (.int .i64 f.sy) rfl rfl (by unfold maxLen; omega) (by omega) hB9 ?_))
                intro v10 w10 hown10 hg10
                rw [← List.map_take] at hown10
                have was10 := HWAS6.out.more HF.out HU6.out hown9 hg9 hown10 hg10 hs9
                have hB9' : wN.heap.size ≤ (w9.alloc (.cells #[.int .i64 f.sy] 3)).heap.size := by simp; omega
                have hbN10 : Below wN.heap.size wN w10 := (hbN9.alloc hB9 _).grown hg10 hB9' (fun g hg => (hs9.lt g hg).1)
                have HW10 := Lib.hid was10
                clear was10 hown9 hown10 hg9 hg10 hs9 hkS' hrow6 hbN6 hbN9 hB6
                go_wp2
                go_roundw
                case rel => exact ⟨j + 1, ws ++ [.slice A5 f.bs.length c5], by go_num, HW10.out, hbN10⟩
                case measure => simp [intOf]; omega
              · have hjN : j = NF := by omega
                subst hjN
                have HWAS := Lib.hid was
                have hb3w : Below w3.heap.size w3 wr := hbN.trans (hbj.mono hbN.size)
                have hcr := HCR.out wr hb3w
                have hbW : Below W.heap.size W wr := hb3.trans (hb3w.mono hb3.size)
                have HBW := Lib.hid hbW
                have HBJ := Lib.hid hbj
                have HB3W := Lib.hid hb3w
                clear was hb3w hbj hbW
                cases hneg : ks.any isNeg
                · obtain ⟨hok2, hcc⟩ := crashed_ok HOK.out hneg
                  rw [hcc] at hcr
                  dsimp only at hcr
                  have hpos : ∀ k (hk : k < ks.length), 0 ≤ ks[k] := fun k hk => by
                    have := List.any_eq_false.1 hneg _ (List.getElem_mem hk)
                    simp only [isNeg, decide_eq_true_eq] at this
                    omega
                  have HPOS := Lib.hid hpos
                  have HOK2 := Lib.hid hok2
                  clear hcc hneg hpos hok2
                  go_wp2_with fail
                  refine hcr.mono ?_
                  rintro e w5 ⟨rfl, S', hd5, hT5⟩
                  have was5 := HWAS.out.outs hT5.outs HSB.out
                  have hrN5 : Rds w5 w5.heap.size AN (cS (names D1)) := by
                    have h1 := own_outs (own_below' hoN HBJ.out) hT5.outs (fun j hj => HD3.out.lt j hj)
                    obtain ⟨A', c', e, hr, _⟩ := own_open h1
                    injection e with e1
                    subst e1
                    exact hr
                  have hbW5 := below_of HBW.out hT5.outs HSS.out
                  have hnames5 := names_on w5 hd5 (by have := hroom.1; show D1.steps ≤ _; omega) HOK2.out.srt
                  have hdn5 : dNames (crashed D1 ks) = names D1 := by
                    have : dNames (crashed D1 ks) = names (crashed D1 ks) := rfl
                    rw [this, crs_names]
                  rw [hdn5, ← HNF.out] at hnames5
                  have HW5 := Lib.hid was5
                  have HD5 := Lib.hid hd5
                  clear hcr hT5 was5 hd5 hdn5
                  go_wp2_with fail
                  refine hnames5.mono ?_
                  rintro e w6 ⟨v6, rfl, ho6, hb6⟩
                  obtain ⟨A6, c6, rfl, hr6, _⟩ := own_open ho6
                  have hrN6 := (hrN5.below hb6).more hb6.size
                  have hsm := sameTexts_any A6 AN (names D1) (names D1) j j c6 cNN w6.heap.size w6 HNF.out.symm HNF.out.symm (by omega) (by omega) hr6 hrN6
                  rw [show sameT (names D1) (names D1) = true by simp [sameT]] at hsm
                  clear hnames5 hr6 ho6 hrN6
                  go_wp2_with fail
                  refine hsm.mono ?_
                  rintro e w7 ⟨rfl, q7, rfl⟩
                  have hb57 : Below w5.heap.size w5 (w6.drewN q7) := bDrewN hb6 q7
                  clear hsm hb6
                  generalize w6.drewN q7 = w7 at *
                  have HRN5 := Lib.hid hrN5
                  have hw7 := HW5.out.below hb57
                  have hrow7 := hw7.row
                  have hsys7 := hw7.sys
                  rw [show D1.files.take j = D1.files from List.take_of_length_le (by rw [← HNF2.out]; exact Nat.le_refl _)] at hsys7
                  obtain ⟨A11, c11, h11, hr11, hc11, hcm11, _⟩ := own_open hrow7
                  obtain ⟨A12, c12, h12, hr12, hc12, hcm12, _⟩ := own_open hsys7
                  subst h11 h12
                  have hbW7 : Below W.heap.size W w7 := hbW5.trans (hb57.mono hbW5.size)
                  have HW7 := Lib.hid hw7
                  have HB57 := Lib.hid hb57
                  have HBW7 := Lib.hid hbW7
                  clear hrN5 hrow7 hsys7 hw7 hb57 hbW5 hbW7
                  go_wp2
                  go_loopw [18] (fun i wr => ∃ k3 : Nat, k3 ≤ j ∧ i = .int .i64 k3 ∧ Below w7.heap.size w7 wr) (fun i _ => j - (intOf i).toNat)
                  case atStart => exact ⟨0, Nat.zero_le _, rfl, Below.refl _ _⟩
                  case round =>
                    obtain ⟨k3, hk3, rfl, hb3r⟩ := hrel
                    by_cases hlt3 : k3 < j
                    · have hkf : k3 < D1.files.length := by rw [← HNF2.out]; exact hlt3
                      have hf : D1.files[k3]? = some D1.files[k3] := List.getElem?_eq_getElem hkf
                      have hfm := List.getElem_mem hkf
                      have hjn : k3 < (names D1).length := by rw [← HNF.out]; exact hlt3
                      have hb5r : Below w5.heap.size w5 wr := HB57.out.trans (hb3r.mono HB57.out.size)
                      obtain ⟨ad, rfl, hadb, hcl⟩ := ((HRN5.out.below hb5r).more hb5r.size).at_ (cS_get hjn)
                      rw [show (names D1)[k3] = D1.files[k3].nm by simp [names]] at hcl
                      have hwsl : k3 < ws.length := by rw [HW7.out.len]; exact hlt3
                      have hby := HW7.out.bys k3 ws[k3] _ (List.getElem?_eq_getElem hwsl) hf
                      obtain ⟨Ab, cb, hwv, hrb, hcb, hcmb, _⟩ := own_open hby
                      obtain ⟨aw, rfl, hawb, hwc⟩ := hr11.at_ (List.getElem?_eq_getElem hwsl)
                      rw [hwv] at hwc
                      have hsyl : k3 < (D1.files.map (fun f => (f.sy : Int))).length := by simpa using hkf
                      obtain ⟨as_, rfl, hasb, hsc0⟩ := hr12.at_ (cN_get hsyl)
                      have hsc : w7.cell? (as_.add k3) = some (.int .i64 (D1.files[k3].sy : Nat)) := by rw [hsc0]; simp
                      clear hsc0
                      have hsyle := HOK.out.sy _ hfm
                      have hl30 := len30 HOK.out _ _ (find_mem HOK.out.srt hfm)
                      have hcm := List.mem_of_getElem? (crs_get (ks := ks) hf)
                      have hrd := read_on HOK2.out rfl hcm
                      have hsd := synced_on HOK2.out rfl hcm
                      have hnme : (cutTo D1.files[k3] (ks.getD k3 0)).nm = D1.files[k3].nm := rfl
                      have hcutl := cutTo_len hsyle (ks.getD k3 0)
                      have hkle := keptOf_le hsyle (ks.getD k3 0)
                      rw [hnme] at hrd hsd
                      have hok24 := okN_size (HOK.out.nms _ hfm)
                      have hRd := fun W' (hb : Below w5.heap.size w5 W') => read_any ⟨D1.files[k3].nm.toArray⟩ (by omega) W' (HD5.out.go hb) (len30 HOK2.out)
                      have hSy := fun W' (hb : Below w5.heap.size w5 W') => synced_any ⟨D1.files[k3].nm.toArray⟩ (by omega) W' (HD5.out.go hb)
                      simp only [lst_nm, hrd, hsd] at hRd hSy
                      have hcs : (cutTo D1.files[k3] (ks.getD k3 0)).sy = keptOf D1.files[k3] (ks.getD k3 0) := rfl
                      have hcb2 : (cutTo D1.files[k3] (ks.getD k3 0)).bs = D1.files[k3].bs.take (keptOf D1.files[k3] (ks.getD k3 0)) := rfl
                      rw [hcs] at hSy
                      rw [hcutl, hcb2] at hRd
                      have hkd : keptOf D1.files[k3] (ks.getD k3 0) = D1.files[k3].sy + (min (ks.getD k3 0) ((D1.files[k3].bs.length : Int) - D1.files[k3].sy)).toNat := rfl
                      generalize D1.files[k3] = f at *
                      clear hrd hsd hnme hcutl hcs hcb2 hcm hok24 hf hfm hkf hjn hwsl hwv hby hsyl
                      generalize keptOf f (ks.getD k3 0) = M at *
                      have hcl' : wr.cell? (ad.add k3) = some (.string ⟨f.nm.toArray⟩) := hcl
                      generalize (⟨f.nm.toArray⟩ : ByteArray) = nmf at *
                      have htk : ((f.bs.take M).length) = M := by rw [List.length_take]; omega
                      generalize f.bs = bs at *
                      generalize f.sy = sy at *
                      generalize hLb : bs.length = L at *
                      have hcw : ∀ W', Below wr.heap.size wr W' → W'.cell? (ad.add k3) = some (.string nmf) := fun W' hb => (hb.cell (p := ad.add k3) (by rw [blk_add]; exact hadb)).trans hcl'
                      have hwc' : ∀ W', Below w7.heap.size w7 W' → W'.cell? (aw.add k3) = some (.slice Ab L cb) := fun W' hb => (hb.cell (p := aw.add k3) (by rw [blk_add]; exact hawb)).trans hwc
                      have hsc' : ∀ W', Below w7.heap.size w7 W' → W'.cell? (as_.add k3) = some (.int .i64 sy) := fun W' hb => (hb.cell (p := as_.add k3) (by rw [blk_add]; exact hasb)).trans hsc
                      have hrb' : ∀ W', Below w7.heap.size w7 W' → Rds W' W'.heap.size Ab (c8 (bs.take M)) := fun W' hb => by
                        have h1 := ((hrb.below hb).more hb.size).take M
                        rwa [show (c8 bs).take M = c8 (bs.take M) by simp [c8, List.map_take]] at h1
                      have HRB := Lib.hid hrb'
                      have HCW := Lib.hid hcw
                      have HWC := Lib.hid hwc'
                      have HSC := Lib.hid hsc'
                      have HKD := Lib.hid hkd
                      have HLB := Lib.hid hLb
                      have hMcb : M ≤ cb := by omega
                      have hMcb' : (M : Int) ≤ cb := by omega
                      have hb3R := Lib.hid hb3r
                      clear hcl hcw hwc hsc hwc' hsc' hrb hrb' hkd hLb hadb hawb hasb
                      go_wp2_with fail
                      refine (hRd wr hb5r).mono ?_
                      rintro e w8 ⟨v8, rfl, ho8, hb8⟩
                      obtain ⟨A8, c8', rfl, hr8, hc8, hcm8, _⟩ := own_open ho8
                      have hk8 := HCW.out w8 hb8
                      have hb58 := hb5r.trans (hb8.mono hb5r.size)
                      go_wp2_with fail
                      refine (hSy w8 hb58).mono ?_
                      rintro e w9 ⟨rfl, hb9⟩
                      have hr89 := (hr8.below hb9).more hb9.size
                      have hb79 : Below w7.heap.size w7 w9 := hb3R.out.trans ((hb8.trans (hb9.mono hb8.size)).mono hb3R.out.size)
                      have x1 := HWC.out w9 hb79
                      have x2 := HSC.out w9 hb79
                      have hsm9 : ∀ q, Calls Try.prog 31 #[.slice A8 M c8', .slice Ab M cb] (w9.drewN q) fun e w' => e = .returned (.bool true) ∧ ∃ n, w' = (w9.drewN q).drewN n := fun q => by
                        have h1 := sameBytes_any A8 Ab (bs.take M) (bs.take M) c8' cb w9.heap.size (w9.drewN q) (by omega) (by omega) (hr89.drewN q) ((HRB.out w9 hb79).drewN q)
                        rw [htk, show same8 (bs.take M) (bs.take M) = true by simp [same8]] at h1
                        exact h1
                      have HSM := Lib.hid hsm9
                      clear hRd hSy ho8 hr8 hk8 hb8 hb9 hb58 hb5r hr89 hsm9 hb3r hcl'
                      by_cases hin : k3 < m
                      · have hkl3 : k3 < ks.length := by rw [← HM.out]; exact hin
                        have hgd : ks.getD k3 0 = ks[k3] := by simp [hkl3]
                        have hkd := HKD.out
                        rw [hgd] at hkd
                        have hbW9 : Below W.heap.size W w9 := HBW7.out.trans (hb79.mono HBW7.out.size)
                        obtain ⟨ak, rfl, hakb, hkc3⟩ := (HKR.out.below hbW9).at_ (cN_get hkl3)
                        have hp := HPOS.out k3 hkl3
                        have hk6 := (HKB.out _ (List.getElem_mem hkl3)).2
                        generalize ks[k3] = z at *
                        have hw1 : IntKind.i64.wrap ((L : Int) - (sy : Int)) = (L : Int) - sy := IntWalk.i64_in _ (by omega)
                        obtain ⟨MO, hMO⟩ : ∃ MO : Nat, (MO : Int) = min z ((L : Int) - sy) := ⟨(min z ((L : Int) - sy)).toNat, by omega⟩
                        have hMM : (M : Int) = (sy : Int) + MO := by omega
                        have hw2 : IntKind.i64.wrap ((sy : Int) + (MO : Int)) = (M : Int) := by rw [hMM]; exact IntWalk.i64_in _ (by omega)
                        have hMO' := hMO.symm
                        clear hkd hgd hp hk6 hMO hMM hbW9 hakb hkl3
                        go_wp2
                        go_quiet (fail)
                        have y1 : (w9.drewN nq).cell? (aw.add k3) = some (.slice Ab L cb) := x1
                        have y2 : (w9.drewN nq).cell? (as_.add k3) = some (.int .i64 sy) := x2
                        have hsmq := HSM.out nq
                        have hb7q : Below w7.heap.size w7 (w9.drewN nq) := bDrewN hb79 nq
                        clear x1 x2 HSM hb79 hkc3
                        generalize w9.drewN nq = wq at *
                        go_wp2_with fail
                        refine hsmq.mono ?_
                        rintro e w11 ⟨rfl, q11, rfl⟩
                        have hbf : Below w7.heap.size w7 (wq.drewN q11) := bDrewN hb7q q11
                        clear hsmq
                        go_wp2
                        go_roundw
                        case rel => exact ⟨k3 + 1, by omega, by go_num, hbf⟩
                        case measure => simp [intOf]; omega
                      · have hgd : ks.getD k3 0 = 0 := by
                          have : ¬ k3 < ks.length := by rw [← HM.out]; exact hin
                          simp [this]
                        have hkd := HKD.out
                        rw [hgd] at hkd
                        have hMs : M = sy := by omega
                        subst hMs
                        have hsm0 : Calls Try.prog 31 #[.slice A8 M c8', .slice Ab M cb] w9 fun e w' => e = .returned (.bool true) ∧ ∃ n, w' = w9.drewN n := HSM.out 0
                        have hw0 : IntKind.i64.wrap (M : Int) = (M : Int) := IntWalk.i64_in _ (by omega)
                        clear hkd hgd HSM
                        go_wp2_with fail
                        refine hsm0.mono ?_
                        rintro e w11 ⟨rfl, q11, rfl⟩
                        have hbf : Below w7.heap.size w7 (w9.drewN q11) := bDrewN hb79 q11
                        clear hsm0
                        go_wp2
                        go_roundw
                        case rel => exact ⟨k3 + 1, by omega, by go_num, hbf⟩
                        case measure => simp [intOf]; omega
                    · have hbf : Below W.heap.size W wr := HBW7.out.trans (hb3r.mono HBW7.out.size)
                      go_wp2
                      go_returns
                      exact ⟨by simp, hbf⟩
                · have hcc : dCrash D1 ks = (2, D1) := by
                    unfold dCrash
                    have : ks.any (fun k => decide (k < 0)) = true := hneg
                    rw [this]
                    rfl
                  rw [hcc] at hcr
                  dsimp only at hcr
                  have HNG := Lib.hid hneg
                  clear hcc
                  go_wp2_with fail
                  refine hcr.mono ?_
                  rintro e w5 ⟨rfl, S', _, hT5⟩
                  have hbW5 := below_of HBW.out hT5.outs HSS.out
                  have hf5 := HFI.out w5 hbW5
                  rw [hneg] at hf5
                  clear hcr hT5
                  go_wp2_with fail
                  refine hf5.mono ?_
                  rintro e w8 ⟨rfl, hw8⟩
                  rw [hw8]
                  clear hw8 w8
                  go_wp2
                  go_returns
                  exact ⟨by simp, hbW5⟩
          · rw [hoff] at hon
            have hcr0 := hcr w3 (Below.refl _ _)
            clear hcr
            cases hneg : ks.any isNeg
            · have hcc := (crashed_ok HOK.out hneg).2
              rw [hcc] at hcr0
              rw [hneg] at hfine
              dsimp only at hcr0
              clear hcc
              go_wp2_with fail
              refine hon.mono ?_
              rintro e w8 ⟨rfl, hw8⟩
              rw [hw8]
              clear hw8 w8
              go_wp2_with fail
              refine hcr0.mono ?_
              rintro e w4 ⟨rfl, S', _, hT4⟩
              have hb4 := below_of hb3 hT4.outs HSS.out
              have hf4 := hfine w4 hb4
              clear hfine hT4 hcr0
              go_wp2_with fail
              refine hf4.mono ?_
              rintro e w8 ⟨rfl, hw8⟩
              rw [hw8]
              clear hw8 w8
              go_wp2
              go_returns
              exact ⟨by simp, hb4⟩
            · have hcc : dCrash D1 ks = (2, D1) := by
                unfold dCrash
                have : ks.any (fun k => decide (k < 0)) = true := hneg
                rw [this]
                rfl
              rw [hcc] at hcr0
              rw [hneg] at hfine
              dsimp only at hcr0
              clear hcc
              go_wp2_with fail
              refine hon.mono ?_
              rintro e w8 ⟨rfl, hw8⟩
              rw [hw8]
              clear hw8 w8
              go_wp2_with fail
              refine hcr0.mono ?_
              rintro e w4 ⟨rfl, S', _, hT4⟩
              have hb4 := below_of hb3 hT4.outs HSS.out
              have hf4 := hfine w4 hb4
              clear hfine hT4 hcr0
              go_wp2_with fail
              refine hf4.mono ?_
              rintro e w8 ⟨rfl, hw8⟩
              rw [hw8]
              clear hw8 w8
              go_wp2
              go_returns
              exact ⟨by simp, hb4⟩

theorem keeps_arg {H : Type} {W : World} {v : Value} {d : DataW H} {A : Option Addr} {zs : List Int} {c : Nat} (h : NumsArg W v d A zs c) : Rds W W.heap.size A (cN zs) := h.rds

open Go.ChangeShapes Go.WideShapes Go.ChangeAt
set_option maxRecDepth 100000 in
theorem dkeeps_lifted (os : Os) (started : os.Started) (H : Type) (enc : TypeId × Value → H) :
    ReturnsInHanded {} Try.checked os 6 .any (Rows.diskKeepsSpec.pre6 enc Try.prog Try.f6 Rows.diskKeepsRow.domain false) (Rows.diskKeepsSpec.post enc Try.prog Try.f6 false true false false) := by
  refine returnsInHanded_of_change_sized (C := Try.checked) own started (by kernel_rfl) Try.func6
    (ChangeSpec.witness6 (enc := enc) (C := Try.checked) false ⟨#[], #[.int .i64 0, .slice none 0 0, .slice none 0 0], []⟩ 8 (by kernel_rfl) (by kernel_rfl) (by kernel_rfl) (by kernel_rfl)) ?_
  intro W base args ds gs before hval0 hW _ hsz0 _
  have hsz : (DataW.weightsEach Try.prog (Try.f6.params.toList ++ Rows.diskKeepsSpec.plain.varTypes Try.prog) (ds ++ gs)).all (· ≤ reachBytes) = true := hsz0
  have hval : ∀ (j : Nat) t v, Try.f6.params[j]? = some t → args[j]? = some v → Value.okWide Try.prog W .any base t v := hval0
  have hW' := hW
  obtain ⟨p, q, hA0, hV, rfl, _, _⟩ := hW
  have hA : DataW.TrodAll enc Try.prog W 0 (fun _ => true) true Try.f6.params.toList args.toList ds p := hA0
  rw [Try.params6] at hA hval hsz
  obtain ⟨v0, vs0, d0, ds0, p0, q0, hargs, rfl, rfl, h0, r0⟩ := trodAll_cons hA
  obtain ⟨v1, vs1, d1, ds1, p1, q1, rfl, rfl, rfl, h1, r1⟩ := trodAll_cons r0
  obtain ⟨v2, vs2, d2, ds2, p2, q2, rfl, rfl, rfl, h2, r2⟩ := trodAll_cons r1
  obtain ⟨rfl, rfl, rfl⟩ := trodAll_nil r2
  obtain rfl : args = #[v0, v1, v2] := by cases args; simp_all
  obtain ⟨a0, rfl, rfl, rfl, w0⟩ := open_int Try.underlying3 (hval 0 3 v0 rfl rfl) h0
  have b0 := bounds_i64 w0
  obtain ⟨A1, az1, c1, ha1⟩ := open_acts (hval 1 43 v1 rfl rfl) h1 (sized_mem hsz (j := 1) (t := 43) rfl rfl)
  obtain rfl := ha1.val
  obtain ⟨A2, zs2, c2, hn2⟩ := open_nums Try.underlying31 Try.underlying3 cellsN (hval 2 31 v2 rfl rfl) h2
  have hl2 := hn2.reach hsz (j := 2) (t := 31) (e := 3) rfl rfl Try.underlying31 bytesN
  obtain rfl := hn2.val
  exact law_close laid rfl hW' (by kernel_rfl) rfl Try.underlying4 rfl (keeps_walk a0 A1 az1 c1 A2 zs2 c2 W ha1 hn2.cap (by omega) (keeps_arg hn2) hn2.i64)

theorem diskKeeps_holds : Rows.DiskKeepsSaid :=
  OpenClaim.holds_of_wide 6 Try.f6 rfl rfl rfl rfl rfl rfl rfl ⟨rfl, rfl, rfl, rfl, rfl⟩ rfl rfl rfl rfl rfl (by kernel_rfl) Try.func6 (by kernel_rfl)
    (of_decide_eq_true (by kernel_rfl)) (by unfold Func.isWrapper; first | (rw [if_pos (by decide +kernel)]; kernel_rfl) | (rw [if_neg (by decide +kernel)]; exact ⟨rfl, rfl⟩))
    (fun os started H enc _ => dkeeps_lifted os started H enc)

#print axioms diskKeeps_holds
end Go.Proofs.Ytnpomiidkdnebaa
