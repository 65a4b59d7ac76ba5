/- An argument that is an act, or a list of acts: what is known of it. -/
import Derived.Test.YtkoalpbognpphaaNLives
import Derived.Test.YtkoalpbognpphaaEnd
import Derived.SizedLaws
namespace Go.Proofs.Ytkoalpbognpphaa
open Go.RowKit Go.ChangeShapes Go.WideShapes Go.ChangeAt
set_option linter.unusedVariables false

theorem cellsOf_act7 : Try.prog.cellsOf 45 = 5 := by kernel_rfl
theorem cellsOf_bytes7 : Try.prog.cellsOf 29 = 1 := by kernel_rfl
theorem cellsOf_int7 : Try.prog.cellsOf 3 = 1 := by kernel_rfl
theorem cellsOf_u647 : Try.prog.cellsOf 25 = 1 := by kernel_rfl

section
variable {H : Type} {enc : TypeId × Value → H}

theorem ints_in {t e : TypeId} {k : IntKind} {W : World} {fuel : Nat} {u : Value} {y : DataW H × List MemPlace} (ht : Try.prog.underlying t = some (.slice e)) (he : Try.prog.underlying e = some (.int k)) (hc : Try.prog.cellsOf e = 1)
    (h : DataW.trod enc Try.prog W 0 (fun _ => true) true fuel t [u] = some y) (hw : ∀ n ∈ y.1.weights Try.prog t, n ≤ reachBytes) :
    ∃ (A : Option Addr) (zs : List Int) (c : Nat), u = .slice A zs.length c ∧ zs.length ≤ c ∧ (A = none → c = 0) ∧ zs.length * Try.prog.bytesOf e ≤ reachBytes ∧ (∀ z ∈ zs, (Lit.int k z).wf = true) ∧ Rds W W.heap.size A (zs.map (Value.int k)) := by
  rcases open_ints ht he hc h with ⟨h1, h2⟩ | ⟨a, len', cap', zs, h1, _, hle, hmax, hlen, h2, hcell, hwf⟩
  · obtain rfl : u = .slice none 0 0 := by simpa using h1
    exact ⟨none, [], 0, rfl, Nat.le_refl _, fun _ => rfl, by simp, (fun z hz => by cases hz), Rds.none_⟩
  · obtain rfl : u = .slice (some a) len' cap' := by simpa using h1
    simp only [if_true] at hlen
    have hl : (zs.take len').length = len' := by rw [List.length_take]; omega
    refine ⟨some a, zs.take len', cap', by rw [hl], by rw [hl]; exact hle, (fun h => by cases h), ?_, (fun z hz => hwf z (List.mem_of_mem_take hz)), ?_⟩
    · have hy : y.1 = .slice (lits k (zs.take len')) (lits k (zs.drop len')) := congrArg Prod.fst h2
      have := hw (((lits (H := H) k (zs.take len')).length + (lits (H := H) k (zs.drop len')).length) * Try.prog.bytesOf e) (by rw [hy]; simp [DataW.weights, ht])
      refine Nat.le_trans (Nat.mul_le_mul_right _ ?_) this
      simp [lits]
    · intro hne
      have hcells : ∀ j u, ((zs.take len').map (Value.int k))[j]? = some u → W.cell? (a.add j) = some u := by
        intro j u hu
        have hj : j < (zs.take len').length := by
          have := (List.getElem?_eq_some_iff.1 hu).1
          simpa using this
        rw [List.getElem?_map, List.getElem?_eq_getElem hj] at hu
        have hu' := Option.some.inj hu
        subst hu'
        rw [hcell j (by omega)]
        simp [List.getD, show j < zs.length by omega]
      have hpos : 0 < (zs.take len').length := by
        rcases Nat.eq_zero_or_pos (zs.take len').length with h0 | h0
        · exact absurd (by rw [List.eq_nil_of_length_eq_zero h0]; rfl) hne
        · exact h0
      refine ⟨a, rfl, ?_, hcells⟩
      have := World.block_lt_of_cell? W _ (hcells 0 _ (by rw [List.getElem?_map, List.getElem?_eq_getElem hpos]; rfl))
      rwa [blk_add] at this

/-- an act, as it came in -/
structure Ac7 where
  kd : Int
  frm : Int
  to_ : Int
  A : Option Addr
  L : Nat
  c : Nat
  b : List Int
  n : Int
def ac7Cells (a : Ac7) : Array Value := #[.int .i64 a.kd, .int .i64 a.frm, .int .i64 a.to_, .slice a.A a.L a.c, .int .u64 a.n]
def ac7Dummy : Ac7 := ⟨0, 0, 0, none, 0, 0, [], 0⟩
structure ActIn7 (w : World) (a : Ac7) : Prop where
  kd : -9223372036854775808 ≤ a.kd ∧ a.kd ≤ 9223372036854775807
  frm : -9223372036854775808 ≤ a.frm ∧ a.frm ≤ 9223372036854775807
  to_ : -9223372036854775808 ≤ a.to_ ∧ a.to_ ≤ 9223372036854775807
  bl : a.b.length = a.L
  Lc : a.L ≤ a.c
  l47 : a.L ≤ 140737488351232
  A0 : a.A = none → a.c = 0
  rd : Rds w w.heap.size a.A (c8 a.b)
  byt : Byt a.b
  nb : 0 ≤ a.n ∧ a.n ≤ 18446744073709551615

theorem trod_struct5 {t : TypeId} {f0 f1 f2 f3 f4 : Field} {P : Program} {w : World} {base : Nat} {spare : Nat → Bool} {held : Bool} {fuel : Nat} {cs : List Value} {x : DataW H × List MemPlace} (ht : P.underlying t = some (.struct #[f0, f1, f2, f3, f4])) (h : DataW.trod enc P w base spare held fuel t cs = some x) :
    ∃ y0 y1 y2 y3 y4 n, x.1 = .agg [y0.1, y1.1, y2.1, y3.1, y4.1] ∧ cs.length = P.cellsOf t ∧ DataW.trod enc P w base spare held n f0.type ((cs.drop f0.offset).take (P.cellsOf f0.type)) = some y0 ∧
      DataW.trod enc P w base spare held n f1.type ((cs.drop f1.offset).take (P.cellsOf f1.type)) = some y1 ∧ DataW.trod enc P w base spare held n f2.type ((cs.drop f2.offset).take (P.cellsOf f2.type)) = some y2 ∧
      DataW.trod enc P w base spare held n f3.type ((cs.drop f3.offset).take (P.cellsOf f3.type)) = some y3 ∧ DataW.trod enc P w base spare held n f4.type ((cs.drop f4.offset).take (P.cellsOf f4.type)) = some y4 := by
  obtain ⟨xs, n, _, rfl, hl, hlen, hf⟩ := DataW.trod_struct ht h
  match xs, hlen with
  | [y0, y1, y2, y3, y4], _ => exact ⟨y0, y1, y2, y3, y4, n, by simp, hl, by simpa using hf 0 f0 rfl, by simpa using hf 1 f1 rfl, by simpa using hf 2 f2 rfl, by simpa using hf 3 f3 rfl, by simpa using hf 4 f4 rfl⟩

theorem five {cs : List Value} (h : cs.length = 5) : ∃ u0 u1 u2 u3 u4, cs = [u0, u1, u2, u3, u4] := by
  match cs, h with
  | [u0, u1, u2, u3, u4], _ => exact ⟨_, _, _, _, _, rfl⟩

/-- an act's five cells -/
theorem act_of {W : World} {fuel : Nat} {cs : List Value} {y : DataW H × List MemPlace} (hy : DataW.trod enc Try.prog W 0 (fun _ => true) true fuel 45 cs = some y) (hw : ∀ n ∈ y.1.weights Try.prog 45, n ≤ reachBytes) :
    ∃ r : Ac7, cs = (ac7Cells r).toList ∧ ActIn7 W r := by
  obtain ⟨y0, y1, y2, y3, y4, n, hy1, hl, h0, h1, h2, h3, h4⟩ := trod_struct5 Try.underlying45 hy
  rw [cellsOf_act7] at hl
  have hwt : ∀ {t : TypeId} {z : DataW H} {j : Nat}, ([3, 3, 3, 29, 25] : List TypeId)[j]? = some t → ([y0.1, y1.1, y2.1, y3.1, y4.1])[j]? = some z → ∀ n ∈ z.weights Try.prog t, n ≤ reachBytes := fun ht hz n hn => by
    refine hw n ?_
    rw [hy1]
    have := DataW.weights_mem_each ht hz n hn
    simpa [DataW.weights, Try.underlying45] using this
  simp only [cellsOf_int7, cellsOf_bytes7, cellsOf_u647] at h0 h1 h2 h3 h4
  obtain ⟨u0, u1, u2, u3, u4, rfl⟩ := five hl
  obtain ⟨kd, hk, _, hkw⟩ := DataW.trod_int Try.underlying3 h0
  obtain ⟨fr, hn, _, hnw⟩ := DataW.trod_int Try.underlying3 h1
  obtain ⟨tt, ht, _, htw⟩ := DataW.trod_int Try.underlying3 h2
  obtain ⟨A, zs, c, hz, hzc, hA0, hzl, hzw, hzr⟩ := ints_in (u := u3) Try.underlying29 Try.underlying5 cells8 h3 (hwt (j := 3) rfl rfl)
  obtain ⟨i, hi, _, hiw⟩ := DataW.trod_int Try.underlying25 h4
  rw [bytes8, Nat.mul_one] at hzl
  obtain rfl : u0 = .int .i64 kd := by simpa using hk
  obtain rfl : u1 = .int .i64 fr := by simpa using hn
  obtain rfl : u2 = .int .i64 tt := by simpa using ht
  obtain rfl : u4 = .int .u64 i := by simpa using hi
  subst hz
  exact ⟨⟨kd, fr, tt, A, zs.length, c, zs, i⟩, rfl,
    { kd := bounds_i64 hkw
      frm := bounds_i64 hnw
      to_ := bounds_i64 htw
      bl := rfl
      Lc := hzc
      l47 := by unfold reachBytes at hzl; dsimp only; omega
      A0 := hA0
      rd := hzr
      byt := fun z hz => bounds_u8 (hzw z hz)
      nb := bounds_u64 hiw }⟩

theorem act_read {W : World} {fuel : Nat} {a : Addr} {y : DataW H × List MemPlace} (h : (W.cells? 0 a 5).bind (DataW.trod enc Try.prog W 0 (fun _ => true) true fuel 45) = some y) (hw : ∀ n ∈ y.1.weights Try.prog 45, n ≤ reachBytes) :
    ∃ r : Ac7, (∀ j, j < 5 → W.cell? (a.add j) = (ac7Cells r)[j]?) ∧ ActIn7 W r := by
  obtain ⟨cs, hcs, hy⟩ := Option.bind_eq_some_iff.1 h
  obtain ⟨_, hlen, hc⟩ := World.cells?_some hcs
  obtain ⟨r, rfl, hr⟩ := act_of hy hw
  refine ⟨r, fun j hj => ?_, hr⟩
  rw [hc j (by simpa [ac7Cells] using hj)]
  simp

/-- an argument that is one act -/
theorem open_act7 {W : World} {v : Value} {d : DataW H} {ps : List MemPlace} {base : Nat} (hval : Value.okWide Try.prog W .any base 45 v) (h : DataW.Trod enc Try.prog W 0 (fun _ => true) true 45 v d ps)
    (hw : ∀ n ∈ d.weights Try.prog 45, n ≤ reachBytes) : ∃ r : Ac7, v = .agg (ac7Cells r) ∧ ActIn7 W r := by
  obtain ⟨cs, rfl, hs⟩ := okWide_struct Try.underlying45 hval
  obtain ⟨fuel, hf⟩ := h
  obtain ⟨r, hr, hin⟩ := act_of (y := (d, ps)) hf hw
  refine ⟨r, ?_, hin⟩
  congr 1
  exact Array.toList_inj.1 (by simpa [Value.cells] using hr)

/-- the cells that acts take -/
def c7A (az : List Ac7) : List Value := az.flatMap (fun a => (ac7Cells a).toList)
theorem c7A_length (az : List Ac7) : (c7A az).length = az.length * 5 := by
  induction az with
  | nil => rfl
  | cons a az ih =>
    have e : c7A (a :: az) = (ac7Cells a).toList ++ c7A az := rfl
    rw [e, List.length_append, ih, List.length_cons]
    simp [ac7Cells]
    omega
theorem c7A_get {az : List Ac7} {i r : Nat} (hi : i < az.length) (hr : r < 5) : (c7A az)[i * 5 + r]? = (ac7Cells az[i])[r]? := by
  induction az generalizing i with
  | nil => simp at hi
  | cons a az ih =>
    have e : c7A (a :: az) = (ac7Cells a).toList ++ c7A az := rfl
    have hl : (ac7Cells a).toList.length = 5 := rfl
    cases i with
    | zero =>
      rw [e, List.getElem?_append_left (by rw [hl]; omega)]
      simp
    | succ i =>
      rw [e, List.getElem?_append_right (by rw [hl]; omega), hl, show (i + 1) * 5 + r - 5 = i * 5 + r by omega, ih (by simpa using hi)]
      simp

/-- an argument that is a list of acts: what is known of it -/
structure ActsArg7 (W : World) (v : Value) (A : Option Addr) (az : List Ac7) (c : Nat) : Prop where
  val : v = .slice A az.length c
  cap : az.length ≤ c
  acts : ∀ a ∈ az, ActIn7 W a
  rds : Rds W W.heap.size A (c7A az)

theorem sized_mem {ts : List TypeId} {ds : List (DataW H)} (h : (DataW.weightsEach Try.prog ts ds).all (· ≤ reachBytes) = true) {j : Nat} {t : TypeId} {d : DataW H} (ht : ts[j]? = some t) (hd : ds[j]? = some d) : ∀ n ∈ d.weights Try.prog t, n ≤ reachBytes := fun n hn => by
  have := List.all_eq_true.1 h n (DataW.weights_mem_each ht hd n hn)
  simpa using this
theorem weights_elem {t e : TypeId} {elems spare : List (DataW H)} (ht : Try.prog.underlying t = some (.slice e)) {d : DataW H} (hd : d ∈ elems) (hw : ∀ n ∈ (DataW.slice elems spare).weights Try.prog t, n ≤ reachBytes) : ∀ n ∈ d.weights Try.prog e, n ≤ reachBytes := by
  intro n hn
  refine hw n ?_
  have key : ∀ l : List (DataW H), d ∈ l → n ∈ DataW.weightsAll Try.prog e l := by
    intro l
    induction l with
    | nil => intro h; cases h
    | cons x l ih =>
      intro h
      simp only [DataW.weightsAll, List.mem_append]
      rcases List.mem_cons.1 h with rfl | h
      · exact .inl hn
      · exact .inr (ih h)
  simp only [DataW.weights, ht, List.mem_cons, List.mem_append]
  exact .inr (.inl (key _ hd))

set_option maxRecDepth 20000 in
theorem open_acts7 {W : World} {v : Value} {d : DataW H} {ps : List MemPlace} {base : Nat} (hval : Value.okWide Try.prog W .any base 39 v) (h : DataW.Trod enc Try.prog W 0 (fun _ => true) true 39 v d ps)
    (hw : ∀ n ∈ d.weights Try.prog 39, n ≤ reachBytes) : ∃ A az c, ActsArg7 W v A az c := by
  obtain ⟨a0, len, cap, rfl⟩ := okWide_slice Try.underlying39 hval
  obtain ⟨fuel, hf⟩ := h
  rcases DataW.trod_slice Try.underlying39 hf with ⟨h1, _⟩ | ⟨a, len', cap', elems, rest, n, _, h1, hx, _, hle, hmax, hlen, hel, _⟩
  · have h1' : Value.slice a0 len cap = .slice none 0 0 := by simpa [Value.cells] using h1
    injection h1' with e1 e2 e3
    subst e1 e2 e3
    exact ⟨none, [], 0, rfl, Nat.le_refl _, (fun r hr => by cases hr), Rds.nil_⟩
  · have h1' : Value.slice a0 len cap = .slice (some a) len' cap' := by simpa [Value.cells] using h1
    injection h1' with e1 e2 e3
    subst e1 e2 e3
    rw [cellsOf_act7] at hel
    have hd : d = .slice (elems.map (·.1)) (rest.map (·.1)) := congrArg Prod.fst hx
    subst hd
    have each : ∀ i, ∃ r : Ac7, i < len → (∀ j, j < 5 → W.cell? ((a.add (i * 5)).add j) = (ac7Cells r)[j]?) ∧ ActIn7 W r := by
      intro i
      by_cases hi : i < len
      · have he := hel i hi
        rw [List.getElem?_eq_getElem (by omega)] at he
        obtain ⟨r, hr⟩ := act_read he (weights_elem Try.underlying39 (List.mem_map.2 ⟨_, List.getElem_mem (show i < elems.length by omega), rfl⟩) hw)
        exact ⟨r, fun _ => hr⟩
      · exact ⟨ac7Dummy, fun h => absurd h hi⟩
    obtain ⟨fr, hfr⟩ := Classical.axiomOfChoice each
    have hrl : ((List.range len).map fr).length = len := by simp
    have hget : ∀ i (hi : i < ((List.range len).map fr).length), ((List.range len).map fr)[i] = fr i := fun i hi => by simp
    refine ⟨some a, (List.range len).map fr, cap, by rw [hrl], by rw [hrl]; exact hle, ?_, ?_⟩
    · intro r hr
      obtain ⟨i, hi, rfl⟩ := List.mem_map.1 hr
      exact (hfr i (List.mem_range.1 hi)).2
    · intro hne
      have hcells : ∀ j u, (c7A ((List.range len).map fr))[j]? = some u → W.cell? (a.add j) = some u := by
        intro j u hu
        have hj : j < len * 5 := by
          have := (List.getElem?_eq_some_iff.1 hu).1
          rw [c7A_length, hrl] at this
          exact this
        have hi : j / 5 < len := by omega
        have hr : j % 5 < 5 := Nat.mod_lt _ (by decide)
        have e : j = j / 5 * 5 + j % 5 := by omega
        rw [e, c7A_get (by rw [hrl]; exact hi) hr, hget] at hu
        rw [e, ← add_twice, (hfr _ hi).1 _ hr]
        exact hu
      have hpos : 0 < (c7A ((List.range len).map fr)).length := by
        rcases Nat.eq_zero_or_pos (c7A ((List.range len).map fr)).length with h0 | h0
        · exact absurd (List.eq_nil_of_length_eq_zero h0) hne
        · exact h0
      refine ⟨a, rfl, ?_, hcells⟩
      have := World.block_lt_of_cell? W _ (hcells 0 _ (List.getElem?_eq_getElem hpos))
      rwa [blk_add] at this
end
end Go.Proofs.Ytkoalpbognpphaa
