/- A watch in memory. -/
import Derived.Test.YtconfkjchjcjgaaKList
import Derived.Test.YtconfkjchjcjgaaShelf
import Derived.Maps.OwnOps
import Derived.Handy
import Derived.Lib.Builder
namespace Go.Proofs.Ytconfkjchjcjgaa
open Go.RowKit Go.Maps Go.WideMaps
set_option linter.unusedVariables false

/-- how a pointer reads: by its block's number -/
def ptrR : Value → Option (DataW Unit × List MemPlace)
  | .pointer (some ⟨b, 0, none⟩) => some (.lit (.int .i64 b), [])
  | .pointer none => some (.nil, [])
  | _ => none
theorem ptrR_nil {v : Value} {ps : List MemPlace} (h : ptrR v = some (.nil, ps)) : v = .pointer none := by
  unfold ptrR at h
  split at h
  · cases h
  · rfl
  · cases h
theorem ptrR_at {v : Value} {b : Nat} {ps : List MemPlace} (h : ptrR v = some (.lit (.int .i64 b), ps)) : v = .pointer (some ⟨b, 0, none⟩) := by
  unfold ptrR at h
  split at h
  · rename_i b'
    simp only [Option.some.injEq, Prod.mk.injEq, DataW.lit.injEq, Lit.int.injEq, true_and, Int.natCast_inj] at h
    rw [h.1]
  · cases h
  · cases h
theorem keyS (s : ByteArray) (hs : s.size ≤ maxLen) : keyOf Try.prog 9 (.string s) = some (.string (lst s)) := keyOf_string_mk Try.underlying9 hs
theorem lawS : Keyed Try.prog 9 := string_keyed Try.underlying9
theorem zeroP (w : World) : (zeroValue 71).run Try.prog w = .ok (.pointer none) w := by kernel_rfl

/-- the map: each end's name leads to its block -/
structure Keys (M : DataW Unit) (f : Nat → En) (n : Nat) : Prop where
  at_ : ∀ k, k < n → ∀ z, M.atKey (.string (lst (f k).nm)) z = .lit (.int .i64 (f k).blk)
  no : ∀ l z, (∀ k, k < n → lst (f k).nm ≠ l) → M.atKey (.string l) z = z
theorem Keys.rea {M : DataW Unit} {f f' : Nat → En} {n : Nat} (h : Keys M f n) (hr : Rea f f' n) : Keys M f' n :=
  ⟨fun k hk z => by
    obtain ⟨j, hj, e⟩ := hr.to k hk
    rw [e]; exact h.at_ j hj z,
   fun l z hl => h.no l z fun k hk q => by
    obtain ⟨j, hj, e⟩ := hr.of k hk
    exact hl j hj (by rw [← e]; exact q)⟩

structure WtAt (w : World) (S : Nat → Prop) (b mb nn : Nat) (M : DataW Unit) (v : Value) (now : Int) (f : Nat → En) (n : Nat) (L : List It) : Prop where
  hn : Hn w b mb now v f n
  hp : Hp ltE f n
  map : w.ownsMap Try.prog 9 ptrR mb nn M
  keys : Keys M f n
  like : Like f n L
  nms : ∀ j k, j < n → k < n → (f j).nm = (f k).nm → j = k
  srt : Srt L
  nod : Nod L
  size : ∀ x ∈ L, x.nm.size ≤ maxLen
  ats : ∀ x ∈ L, 0 ≤ x.at_ ∧ x.at_ ≤ now + 1073741824
  sb : S b
  sm : S mb
  sv : ∀ g, v.ownBlock = some g → S g
  se : ∀ k, k < n → S (f k).blk
  lt : ∀ k, S k → k < w.heap.size
/-- a watch in memory, of at most q names so far -/
def Wt (w : World) (S : Nat → Prop) (b : Nat) (now : Int) (L : List It) (q : Nat) : Prop := ∃ mb nn M v f n, WtAt w S b mb nn M v now f n L ∧ nn ≤ q ∧ n ≤ q ∧ L.length ≤ q

section
variable {w w' : World} {S T : Nat → Prop} {b mb nn : Nat} {M : DataW Unit} {v : Value} {now : Int} {f : Nat → En} {n q : Nat} {L : List It}
theorem WtAt.outs (h : WtAt w S b mb nn M v now f n L) (ho : Outs T w w') (hn : ∀ k, S k → ¬ T k) : WtAt w' S b mb nn M v now f n L :=
  { hn := h.hn.outs ho (hn _ h.sb) (fun k hk => hn _ (h.sv k hk)) (fun k hk => hn _ (h.se k hk))
    hp := h.hp
    map := ownsMap_block_kept h.map (ho.block mb h.map.lt (hn _ h.sm))
    keys := h.keys
    like := h.like
    nms := h.nms
    srt := h.srt
    nod := h.nod
    size := h.size
    ats := h.ats
    sb := h.sb
    sm := h.sm
    sv := h.sv
    se := h.se
    lt := fun k hk => Nat.lt_of_lt_of_le (h.lt k hk) ho.size }
theorem WtAt.go (h : WtAt w S b mb nn M v now f n L) (hb : Below w.heap.size w w') : WtAt w' S b mb nn M v now f n L := h.outs (T := fun _ => False) (Outs.of hb) (fun _ _ e => e)
theorem Wt.outs (h : Wt w S b now L q) (ho : Outs T w w') (hn : ∀ k, S k → ¬ T k) : Wt w' S b now L q := by
  obtain ⟨mb, nn, M, v, f, n, h, h1⟩ := h
  exact ⟨mb, nn, M, v, f, n, h.outs ho hn, h1⟩
theorem Wt.go (h : Wt w S b now L q) (hb : Below w.heap.size w w') : Wt w' S b now L q := h.outs (T := fun _ => False) (Outs.of hb) (fun _ _ e => e)
theorem Wt.more {q' : Nat} (h : Wt w S b now L q) (hq : q ≤ q') : Wt w S b now L q' := by
  obtain ⟨mb, nn, M, v, f, n, h, h1, h2, h3⟩ := h
  exact ⟨mb, nn, M, v, f, n, h, by omega, by omega, by omega⟩
theorem Wt.lt (h : Wt w S b now L q) : ∀ k, S k → k < w.heap.size := by
  obtain ⟨mb, nn, M, v, f, n, h, _⟩ := h
  exact h.lt
theorem WtAt.c0 (h : WtAt w S b mb nn M v now f n L) : w.cell? ⟨b, 0, none⟩ = some (.pointer (some ⟨b, 0, none⟩)) := by simpa using h.hn.top.cell 0
theorem WtAt.c1 (h : WtAt w S b mb nn M v now f n L) : w.cell? ⟨b, 1, none⟩ = some (.int .i64 now) := by simpa using h.hn.top.cell 1
theorem WtAt.c2 (h : WtAt w S b mb nn M v now f n L) : w.cell? ⟨b, 2, none⟩ = some v := by simpa using h.hn.top.cell 2
theorem WtAt.c3 (h : WtAt w S b mb nn M v now f n L) : w.cell? ⟨b, 3, none⟩ = some (.map (some mb)) := by simpa using h.hn.top.cell 3

/-! ## whose is it? -/
theorem infoW : (Try.prog.info? 58).isSome = true := by kernel_rfl
theorem wneq_same (d : Nat) (w : World) : (binOp .neq 30 (.pointer (some ⟨d, 0, none⟩)) (.pointer (some ⟨d, 0, none⟩))).run Try.prog w = .ok (.bool false) w := by
  obtain ⟨j, hj⟩ := Option.isSome_iff_exists.1 infoW
  exact Go.Lib.run_neq_ptr_same (P := Try.prog) w _ Try.underlying30 hj
theorem wneq_nil (d : Nat) (w : World) : (binOp .neq 30 (.pointer none) (.pointer (some ⟨d, 0, none⟩))).run Try.prog w = .ok (.bool true) w := by
  have h : ∀ k : Nat, (Op.equalIn (k + 1) 30 (.pointer none) (.pointer (some ⟨d, 0, none⟩))).run Try.prog w = .ok false w := fun k => by
    simp [Op.equalIn, run_underlying Try.underlying30]
  simp only [binOp]
  simp [Op.equal, Op.maxDepth, h 9999]
set_option maxRecDepth 100000 in
theorem nobodys_any (b : Nat) (w : World) (hc : w.cell? ⟨b, 0, none⟩ = some (.pointer (some ⟨b, 0, none⟩))) :
    Calls Try.prog 37 #[.pointer (some ⟨b, 0, none⟩)] w fun e w' => e = .returned (.bool false) ∧ w = w' := by
  have hq := wneq_same b w
  go_enter Try.func37, Try.ntmps37
  go_wp2
  go_ret
  exact ⟨by simp, rfl⟩
theorem nobodysNil_any (w : World) : Calls Try.prog 37 #[.pointer none] w fun e w' => e = .returned (.bool true) ∧ w = w' := by
  go_enter Try.func37, Try.ntmps37
  go_wp2
  go_ret
  exact ⟨rfl, rfl⟩
set_option maxRecDepth 100000 in
theorem nobodysZero_any {w : World} {b : Nat} (hc : w.cell? ⟨b, 0, none⟩ = some (.pointer none)) : Calls Try.prog 37 #[.pointer (some ⟨b, 0, none⟩)] w fun e w' => e = .returned (.bool true) ∧ w = w' := by
  have hq := wneq_nil b w
  go_enter Try.func37, Try.ntmps37
  go_wp2
  go_ret
  exact ⟨by simp, rfl⟩
/-- a watch that is not there, or that nobody made -/
def Nob (w : World) (p : Option Addr) : Prop := p = none ∨ ∃ b : Nat, p = some ⟨b, 0, none⟩ ∧ w.cell? ⟨b, 0, none⟩ = some (.pointer none)
theorem nob_any {w : World} {p : Option Addr} (h : Nob w p) : Calls Try.prog 37 #[.pointer p] w fun e w' => e = .returned (.bool true) ∧ w = w' := by
  rcases h with rfl | ⟨b, rfl, h⟩
  · exact nobodysNil_any w
  · exact nobodysZero_any h

/-! ## New, Now, Left -/
def Two (m b : Nat) (k : Nat) : Prop := k = m ∨ k = b
set_option maxRecDepth 100000 in
theorem new_any (w : World) : Calls Try.prog 13 #[] w fun e w' => e = .returned (.pointer (some ⟨w.heap.size + 1, 0, none⟩)) ∧ Wt w' (Two w.heap.size (w.heap.size + 1)) (w.heap.size + 1) 0 [] 0 ∧ Below w.heap.size w w' := by
  have hm := World.ownsMap_made (H := Unit) w Try.prog 9 ptrR
  have hmm := @run_makeMap Try.prog
  go_enter Try.func13, Try.ntmps13
  go_wp2
  go_ret
  have hw := Whole.new (w.alloc (.map #[] 0)) 58 #[.pointer (some ⟨w.heap.size + 1, 0, none⟩), .int .i64 0, .slice none 0 0, .map (some w.heap.size)]
  rw [World.size_alloc] at hw
  refine ⟨rfl, ⟨w.heap.size, 0, _, .slice none 0 0, fun _ => ⟨⟨#[]⟩, 0, 0⟩, 0, ⟨⟨hw, ⟨rfl, .inl ⟨rfl, rfl⟩⟩, by omega, fun k hk => absurd hk (Nat.not_lt_zero k), fun j k hj => absurd hj (Nat.not_lt_zero j), fun j k hj => absurd hj (Nat.not_lt_zero j)⟩, fun k h0 hk => absurd hk (Nat.not_lt_zero k), hm.alloc _, ⟨fun k hk => absurd hk (Nat.not_lt_zero k), fun l z _ => rfl⟩, Like.nil _, fun j k hj => absurd hj (Nat.not_lt_zero j), List.Pairwise.nil, List.Pairwise.nil, by simp, by simp, .inr rfl, .inl rfl, (fun g hg => by cases hg), fun k hk => absurd hk (Nat.not_lt_zero k), (fun k hk => by unfold Two at hk; simp; omega)⟩, Nat.le_refl _, Nat.le_refl _, Nat.le_refl _⟩, ((Below.refl _ _).alloc (Nat.le_refl _) _).alloc (by simp) _⟩
theorem now_any (h : Wt w S b now L q) : Calls Try.prog 18 #[.pointer (some ⟨b, 0, none⟩)] w fun e w' => e = .returned (.int .i64 now) ∧ w = w' := by
  obtain ⟨mb, nn, M, v, f, n, h, _⟩ := h
  have c1 := h.c1
  have cn := Lib.hid (nobodys_any b w h.c0)
  go_enter Try.func18, Try.ntmps18
  go_wp2_with (go_at_call 37; refine cn.out.mono ?_; rintro e w' ⟨rfl, rfl⟩)
  go_ret
  exact ⟨rfl, rfl⟩
end
end Go.Proofs.Ytconfkjchjcjgaa
