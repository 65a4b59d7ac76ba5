/- The pieces of the statement on names that are told once: has; a watch beside a row of numbers. -/
import Derived.Test.YtconfkjchjcjgaaKOnceM
import Derived.Test.YtconfkjchjcjgaaKRes
import Derived.Test.YtconfkjchjcjgaaCPick
namespace Go.Proofs.Ytconfkjchjcjgaa
open Go.RowKit
set_option linter.unusedVariables false

theorem cT_get {T : List It} {j : Nat} (h : j < T.length) : (cT T)[j]? = some (.string T[j].nm) := by simp [cT, h]
set_option maxHeartbeats 1000000 in
set_option maxRecDepth 100000 in
/-- one that is there is found -/
theorem has_any {A : Option Addr} {T : List It} {n c lim : Nat} (s : ByteArray) (w : World) (hn : T.length = n) (hm : n ≤ 9223372036854775807) (hr : Rds w lim A (cT T)) (hs : ∃ x ∈ T, x.nm = s) :
    Calls Try.prog 31 #[.slice A n c, .string s] w fun e w' => e = .returned (.bool true) ∧ w = w' := by
  have HN := Lib.hid hn
  have HS := Lib.hid hs
  clear hn hs
  go_enter Try.func31, Try.ntmps31
  go_wp2
  go_loop [5] (fun i => ∃ k : Nat, k ≤ n ∧ i = .int .i64 k ∧ ∀ j (hj : j < T.length), j < k → T[j].nm ≠ s) (fun i => n - (intOf i).toNat)
  case atStart => exact ⟨0, by omega, rfl, fun j _ hj => absurd hj (Nat.not_lt_zero j)⟩
  case round =>
    obtain ⟨k, hk, rfl, hno⟩ := hrel
    have HNO := Lib.hid hno
    clear hno
    by_cases hlt : k < n
    · have hkx : k < T.length := by have := HN.out; omega
      obtain ⟨ad, rfl, hlad, hcell⟩ := hr.at_ (cT_get hkx)
      obtain ⟨x, hx⟩ : ∃ x, T[k].nm = x := ⟨_, rfl⟩
      rw [hx] at hcell
      have HX := Lib.hid hx
      clear hx
      by_cases he : x = s
      · have hq : (x.toList == s.toList) = true := by rw [he]; simp
        have hq2 : x.toList = s.toList := by rw [he]
        go_wp2
        go_ret
        exact ⟨rfl, rfl⟩
      · have hq : (x.toList == s.toList) = false := by
          rw [lst_toList, lst_toList]
          simpa using fun e => he (lst_inj e)
        have hq2 : ¬ x.toList = s.toList := by simpa using hq
        have HE := Lib.hid he
        clear he
        go_wp2
        go_round
        case rel =>
          refine ⟨k + 1, by omega, by go_num, fun j hj hjk => ?_⟩
          rcases Nat.lt_or_ge j k with q | q
          · exact HNO.out j hj q
          · obtain rfl : j = k := by omega
            rw [HX.out]; exact HE.out
        case measure => simp [intOf]; omega
    · exfalso
      obtain ⟨x, hx, hxs⟩ := HS.out
      obtain ⟨j, hj, rfl⟩ := List.getElem_of_mem hx
      exact HNO.out j hj (by have := HN.out; omega) hxs

/-- a row of numbers told by a function -/
def cF (F : Nat → Int) (N : Nat) : Array Value := ((List.range N).map fun k => Value.int .i64 (F k)).toArray
theorem cF_get (F : Nat → Int) {N k : Nat} (h : k < N) : (cF F N)[k]? = some (.int .i64 (F k)) := by simp [cF, h]
theorem cF_set (F : Nat → Int) (N k : Nat) (v : Int) : (cF F N).setIfInBounds k (.int .i64 v) = cF (fun j => if j = k then v else F j) N := by
  apply Array.ext_getElem?
  intro j
  by_cases hj : j < N
  · rw [cF_get _ hj]
    by_cases hk : k = j
    · subst hk
      simp [cF, hj]
    · rw [Array.getElem?_setIfInBounds_ne hk, cF_get _ hj]
      simp [Ne.symm hk]
  · rw [Array.getElem?_eq_none (by simp [cF]; omega), Array.getElem?_eq_none (by simp [cF]; omega)]
theorem cF_ext {F G : Nat → Int} {N : Nat} (h : ∀ j, j < N → F j = G j) : cF F N = cF G N := by
  unfold cF
  congr 1
  exact List.map_congr_left fun j hj => by rw [h j (List.mem_range.1 hj)]

/-- a watch that was made behind w0, beside a row of numbers -/
structure On8 (w0 w : World) (b gl : Nat) (now : Int) (L : List It) (q : Nat) (C : Array Value) : Prop where
  wt : ∃ S : Nat → Prop, Wt w S b now L q ∧ (∀ k, S k → w0.heap.size ≤ k) ∧ ¬ S gl
  row : Whole w gl 3 C
  glB : w0.heap.size ≤ gl
  below : Below w0.heap.size w0 w
section
variable {w0 w w' : World} {b gl : Nat} {now : Int} {L : List It} {q : Nat} {C : Array Value}
theorem On8.go (h : On8 w0 w b gl now L q C) (hb : Below w.heap.size w w') : On8 w0 w' b gl now L q C := by
  obtain ⟨⟨S, h1, h2, h3⟩, h4, h5, h6⟩ := h
  exact ⟨⟨S, h1.go hb, h2, h3⟩, h4.below hb h4.lt, h5, h6.trans (hb.mono h6.size)⟩
theorem On8.put (h : On8 w0 w b gl now L q C) (i : Nat) (u : Value) : On8 w0 (w.setCell ⟨gl, i, none⟩ u) b gl now L q (C.setIfInBounds i u) := by
  obtain ⟨⟨S, h1, h2, h3⟩, h4, h5, h6⟩ := h
  exact ⟨⟨S, h1.outs ((Outs.refl (fun k => k = gl) w).setCell (p := ⟨gl, i, none⟩) (.inl rfl) u) (fun k hk e => h3 (e ▸ hk)), h2, h3⟩, h4.put i u, h5, h6.setCell (p := ⟨gl, i, none⟩) h5 u⟩
theorem on_set (h : On8 w0 w b gl now L q C) {s : ByteArray} (hs : s.size ≤ 140737488351232) (hs0 : s.toList.isEmpty = false) (hnow : 0 ≤ now ∧ now ≤ 4611686018427387904) {t : Int} (ht : 1 ≤ t ∧ t ≤ 1073741824) (hq : q < 1000000) :
    Calls Try.prog 14 #[.pointer (some ⟨b, 0, none⟩), .string s, .int .i64 t] w fun e w' => e = .returned (.int .i64 0) ∧ On8 w0 w' b gl now (setL L ⟨s, now + t⟩) (q + 1) C := by
  obtain ⟨⟨S, h1, h2, h3⟩, h4, h5, h6⟩ := h
  cases hg : getL L s with
  | none =>
    refine (setNew_any h1 (by unfold maxLen; omega) (by omega) hs0 hg hnow ht hq).mono ?_
    rintro e w' ⟨rfl, hw, ho⟩
    refine ⟨rfl, ⟨_, hw, fun k hk => ?_, fun hk => ?_⟩, h4.outs ho h3, h5, h6.trans (ho.below h2 h6.size)⟩
    · rcases hk with hk | hk
      · exact h2 k hk
      · exact Nat.le_trans h6.size hk.1
    · rcases hk with hk | hk
      · exact h3 hk
      · have := h4.lt; omega
  | some x =>
    refine (setAnew_any h1 (by unfold maxLen; omega) hs0 hg hnow ht).mono ?_
    rintro e w' ⟨rfl, hw, ho⟩
    exact ⟨rfl, ⟨_, hw, h2, h3⟩, h4.outs ho h3, h5, h6.trans (ho.below h2 h6.size)⟩
theorem on_setBad (h : On8 w0 w b gl now L q C) {s : ByteArray} {t : Int} (hb : (t < 1 ∨ 1073741824 < t) ∨ s.toList.isEmpty = true) :
    Calls Try.prog 14 #[.pointer (some ⟨b, 0, none⟩), .string s, .int .i64 t] w fun e w' => e = .returned (.int .i64 2) ∧ w = w' := by
  obtain ⟨⟨S, h1, h2, h3⟩, h4, h5, h6⟩ := h
  exact setBad_any h1 hb
theorem on_tick (h : On8 w0 w b gl now L q C) (hq : q ≤ 1000000) (hnow : 0 ≤ now ∧ now ≤ 4611686018426000000) {t : Int} (ht : 0 ≤ t ∧ t ≤ 1048576) :
    Calls Try.prog 15 #[.pointer (some ⟨b, 0, none⟩), .int .i64 t] w fun e w' => ∃ A n c, e = .returned (.tuple #[.slice A n c, .int .i64 0]) ∧ n = (due (now + t) L).length ∧ w'.ownsRow w.heap.size 9 1 (.slice A n c) n (cT (due (now + t) L)) ∧ On8 w0 w' b gl (now + t) (rest (now + t) L) q C := by
  obtain ⟨⟨S, h1, h2, h3⟩, h4, h5, h6⟩ := h
  refine (tick_any h1 hq hnow ht).mono ?_
  rintro e w' ⟨v, rfl, hrow, hw, ho⟩
  obtain ⟨A, c, rfl, hr, -⟩ := own_open hrow
  exact ⟨A, _, c, rfl, rfl, hrow, ⟨_, hw, h2, h3⟩, h4.outs ho h3, h5, h6.trans (ho.below h2 h6.size)⟩
theorem On8.facts (h : On8 w0 w b gl now L q C) : Srt L ∧ Nod L := by
  obtain ⟨⟨S, ⟨mb, nn, M, v, f, n, h1, _⟩, _⟩, _⟩ := h
  exact ⟨h1.srt, h1.nod⟩
end
end Go.Proofs.Ytconfkjchjcjgaa
