/- Several texts, each a section: NOpen, Kit, CPick, NOnce. -/
import Derived.Test.YtnleeffajljodaaM07
import Derived.Test.YtnleeffajljodaaM09
import Derived.SizedLaws
import Derived.Test.YtnleeffajljodaaM01
import Derived.Laws.CopyOwn
import Derived.Laws.MakeOwn
import Derived.Maps.AppendAt
section
/- An argument that is an act, or a list of acts: what is known of it. -/
namespace Go.Proofs.Ytnleeffajljodaa
open Go.RowKit Go.ChangeShapes Go.WideShapes Go.ChangeAt
set_option linter.unusedVariables false

theorem cellsOf_act7 : Try.prog.cellsOf 45 = 5 := by kernel_rfl
theorem cellsOf_bytes7 : Try.prog.cellsOf 29 = 1 := by kernel_rfl
theorem cellsOf_int7 : Try.prog.cellsOf 3 = 1 := by kernel_rfl
theorem cellsOf_u647 : Try.prog.cellsOf 25 = 1 := by kernel_rfl

section
variable {H : Type} {enc : TypeId × Value → H}

theorem ints_in {t e : TypeId} {k : IntKind} {W : World} {fuel : Nat} {u : Value} {y : DataW H × List MemPlace} (ht : Try.prog.underlying t = some (.slice e)) (he : Try.prog.underlying e = some (.int k)) (hc : Try.prog.cellsOf e = 1)
    (h : DataW.trod enc Try.prog W 0 (fun _ => true) true fuel t [u] = some y) (hw : ∀ n ∈ y.1.weights Try.prog t, n ≤ reachBytes) :
    ∃ (A : Option Addr) (zs : List Int) (c : Nat), u = .slice A zs.length c ∧ zs.length ≤ c ∧ (A = none → c = 0) ∧ zs.length * Try.prog.bytesOf e ≤ reachBytes ∧ (∀ z ∈ zs, (Lit.int k z).wf = true) ∧ Rds W W.heap.size A (zs.map (Value.int k)) := by
  rcases open_ints ht he hc h with ⟨h1, h2⟩ | ⟨a, len', cap', zs, h1, _, hle, hmax, hlen, h2, hcell, hwf⟩
  · obtain rfl : u = .slice none 0 0 := by simpa using h1
    exact ⟨none, [], 0, rfl, Nat.le_refl _, fun _ => rfl, by simp, (fun z hz => by cases hz), Rds.none_⟩
  · obtain rfl : u = .slice (some a) len' cap' := by simpa using h1
    simp only [if_true] at hlen
    have hl : (zs.take len').length = len' := by rw [List.length_take]; omega
    refine ⟨some a, zs.take len', cap', by rw [hl], by rw [hl]; exact hle, (fun h => by cases h), ?_, (fun z hz => hwf z (List.mem_of_mem_take hz)), ?_⟩
    · have hy : y.1 = .slice (lits k (zs.take len')) (lits k (zs.drop len')) := congrArg Prod.fst h2
      have := hw (((lits (H := H) k (zs.take len')).length + (lits (H := H) k (zs.drop len')).length) * Try.prog.bytesOf e) (by rw [hy]; simp [DataW.weights, ht])
      refine Nat.le_trans (Nat.mul_le_mul_right _ ?_) this
      simp [lits]
    · intro hne
      have hcells : ∀ j u, ((zs.take len').map (Value.int k))[j]? = some u → W.cell? (a.add j) = some u := by
        intro j u hu
        have hj : j < (zs.take len').length := by
          have := (List.getElem?_eq_some_iff.1 hu).1
          simpa using this
        rw [List.getElem?_map, List.getElem?_eq_getElem hj] at hu
        have hu' := Option.some.inj hu
        subst hu'
        rw [hcell j (by omega)]
        simp [List.getD, show j < zs.length by omega]
      have hpos : 0 < (zs.take len').length := by
        rcases Nat.eq_zero_or_pos (zs.take len').length with h0 | h0
        · exact absurd (by rw [List.eq_nil_of_length_eq_zero h0]; rfl) hne
        · exact h0
      refine ⟨a, rfl, ?_, hcells⟩
      have := World.block_lt_of_cell? W _ (hcells 0 _ (by rw [List.getElem?_map, List.getElem?_eq_getElem hpos]; rfl))
      rwa [blk_add] at this

/-- an act, as it came in -/
structure Ac7 where
  kd : Int
  frm : Int
  to_ : Int
  A : Option Addr
  L : Nat
  c : Nat
  b : List Int
  n : Int
def ac7Cells (a : Ac7) : Array Value := #[.int .i64 a.kd, .int .i64 a.frm, .int .i64 a.to_, .slice a.A a.L a.c, .int .u64 a.n]
def ac7Dummy : Ac7 := ⟨0, 0, 0, none, 0, 0, [], 0⟩
structure ActIn7 (w : World) (a : Ac7) : Prop where
  kd : -9223372036854775808 ≤ a.kd ∧ a.kd ≤ 9223372036854775807
  frm : -9223372036854775808 ≤ a.frm ∧ a.frm ≤ 9223372036854775807
  to_ : -9223372036854775808 ≤ a.to_ ∧ a.to_ ≤ 9223372036854775807
  bl : a.b.length = a.L
  Lc : a.L ≤ a.c
  l47 : a.L ≤ 140737488351232
  A0 : a.A = none → a.c = 0
  rd : Rds w w.heap.size a.A (c8 a.b)
  byt : Byt a.b
  nb : 0 ≤ a.n ∧ a.n ≤ 18446744073709551615

theorem trod_struct5 {t : TypeId} {f0 f1 f2 f3 f4 : Field} {P : Program} {w : World} {base : Nat} {spare : Nat → Bool} {held : Bool} {fuel : Nat} {cs : List Value} {x : DataW H × List MemPlace} (ht : P.underlying t = some (.struct #[f0, f1, f2, f3, f4])) (h : DataW.trod enc P w base spare held fuel t cs = some x) :
    ∃ y0 y1 y2 y3 y4 n, x.1 = .agg [y0.1, y1.1, y2.1, y3.1, y4.1] ∧ cs.length = P.cellsOf t ∧ DataW.trod enc P w base spare held n f0.type ((cs.drop f0.offset).take (P.cellsOf f0.type)) = some y0 ∧
      DataW.trod enc P w base spare held n f1.type ((cs.drop f1.offset).take (P.cellsOf f1.type)) = some y1 ∧ DataW.trod enc P w base spare held n f2.type ((cs.drop f2.offset).take (P.cellsOf f2.type)) = some y2 ∧
      DataW.trod enc P w base spare held n f3.type ((cs.drop f3.offset).take (P.cellsOf f3.type)) = some y3 ∧ DataW.trod enc P w base spare held n f4.type ((cs.drop f4.offset).take (P.cellsOf f4.type)) = some y4 := by
  obtain ⟨xs, n, _, rfl, hl, hlen, hf⟩ := DataW.trod_struct ht h
  match xs, hlen with
  | [y0, y1, y2, y3, y4], _ => exact ⟨y0, y1, y2, y3, y4, n, by simp, hl, by simpa using hf 0 f0 rfl, by simpa using hf 1 f1 rfl, by simpa using hf 2 f2 rfl, by simpa using hf 3 f3 rfl, by simpa using hf 4 f4 rfl⟩

theorem five {cs : List Value} (h : cs.length = 5) : ∃ u0 u1 u2 u3 u4, cs = [u0, u1, u2, u3, u4] := by
  match cs, h with
  | [u0, u1, u2, u3, u4], _ => exact ⟨_, _, _, _, _, rfl⟩

/-- an act's five cells -/
theorem act_of {W : World} {fuel : Nat} {cs : List Value} {y : DataW H × List MemPlace} (hy : DataW.trod enc Try.prog W 0 (fun _ => true) true fuel 45 cs = some y) (hw : ∀ n ∈ y.1.weights Try.prog 45, n ≤ reachBytes) :
    ∃ r : Ac7, cs = (ac7Cells r).toList ∧ ActIn7 W r := by
  obtain ⟨y0, y1, y2, y3, y4, n, hy1, hl, h0, h1, h2, h3, h4⟩ := trod_struct5 Try.underlying45 hy
  rw [cellsOf_act7] at hl
  have hwt : ∀ {t : TypeId} {z : DataW H} {j : Nat}, ([3, 3, 3, 29, 25] : List TypeId)[j]? = some t → ([y0.1, y1.1, y2.1, y3.1, y4.1])[j]? = some z → ∀ n ∈ z.weights Try.prog t, n ≤ reachBytes := fun ht hz n hn => by
    refine hw n ?_
    rw [hy1]
    have := DataW.weights_mem_each ht hz n hn
    simpa [DataW.weights, Try.underlying45] using this
  simp only [cellsOf_int7, cellsOf_bytes7, cellsOf_u647] at h0 h1 h2 h3 h4
  obtain ⟨u0, u1, u2, u3, u4, rfl⟩ := five hl
  obtain ⟨kd, hk, _, hkw⟩ := DataW.trod_int Try.underlying3 h0
  obtain ⟨fr, hn, _, hnw⟩ := DataW.trod_int Try.underlying3 h1
  obtain ⟨tt, ht, _, htw⟩ := DataW.trod_int Try.underlying3 h2
  obtain ⟨A, zs, c, hz, hzc, hA0, hzl, hzw, hzr⟩ := ints_in (u := u3) Try.underlying29 Try.underlying5 cells8 h3 (hwt (j := 3) rfl rfl)
  obtain ⟨i, hi, _, hiw⟩ := DataW.trod_int Try.underlying25 h4
  rw [bytes8, Nat.mul_one] at hzl
  obtain rfl : u0 = .int .i64 kd := by simpa using hk
  obtain rfl : u1 = .int .i64 fr := by simpa using hn
  obtain rfl : u2 = .int .i64 tt := by simpa using ht
  obtain rfl : u4 = .int .u64 i := by simpa using hi
  subst hz
  exact ⟨⟨kd, fr, tt, A, zs.length, c, zs, i⟩, rfl,
    { kd := bounds_i64 hkw
      frm := bounds_i64 hnw
      to_ := bounds_i64 htw
      bl := rfl
      Lc := hzc
      l47 := by unfold reachBytes at hzl; dsimp only; omega
      A0 := hA0
      rd := hzr
      byt := fun z hz => bounds_u8 (hzw z hz)
      nb := bounds_u64 hiw }⟩

theorem act_read {W : World} {fuel : Nat} {a : Addr} {y : DataW H × List MemPlace} (h : (W.cells? 0 a 5).bind (DataW.trod enc Try.prog W 0 (fun _ => true) true fuel 45) = some y) (hw : ∀ n ∈ y.1.weights Try.prog 45, n ≤ reachBytes) :
    ∃ r : Ac7, (∀ j, j < 5 → W.cell? (a.add j) = (ac7Cells r)[j]?) ∧ ActIn7 W r := by
  obtain ⟨cs, hcs, hy⟩ := Option.bind_eq_some_iff.1 h
  obtain ⟨_, hlen, hc⟩ := World.cells?_some hcs
  obtain ⟨r, rfl, hr⟩ := act_of hy hw
  refine ⟨r, fun j hj => ?_, hr⟩
  rw [hc j (by simpa [ac7Cells] using hj)]
  simp

/-- an argument that is one act -/
theorem open_act7 {W : World} {v : Value} {d : DataW H} {ps : List MemPlace} {base : Nat} (hval : Value.okWide Try.prog W .any base 45 v) (h : DataW.Trod enc Try.prog W 0 (fun _ => true) true 45 v d ps)
    (hw : ∀ n ∈ d.weights Try.prog 45, n ≤ reachBytes) : ∃ r : Ac7, v = .agg (ac7Cells r) ∧ ActIn7 W r := by
  obtain ⟨cs, rfl, hs⟩ := okWide_struct Try.underlying45 hval
  obtain ⟨fuel, hf⟩ := h
  obtain ⟨r, hr, hin⟩ := act_of (y := (d, ps)) hf hw
  refine ⟨r, ?_, hin⟩
  congr 1
  exact Array.toList_inj.1 (by simpa [Value.cells] using hr)

/-- the cells that acts take -/
def c7A (az : List Ac7) : List Value := az.flatMap (fun a => (ac7Cells a).toList)
theorem c7A_length (az : List Ac7) : (c7A az).length = az.length * 5 := by
  induction az with
  | nil => rfl
  | cons a az ih =>
    have e : c7A (a :: az) = (ac7Cells a).toList ++ c7A az := rfl
    rw [e, List.length_append, ih, List.length_cons]
    simp [ac7Cells]
    omega
theorem c7A_get {az : List Ac7} {i r : Nat} (hi : i < az.length) (hr : r < 5) : (c7A az)[i * 5 + r]? = (ac7Cells az[i])[r]? := by
  induction az generalizing i with
  | nil => simp at hi
  | cons a az ih =>
    have e : c7A (a :: az) = (ac7Cells a).toList ++ c7A az := rfl
    have hl : (ac7Cells a).toList.length = 5 := rfl
    cases i with
    | zero =>
      rw [e, List.getElem?_append_left (by rw [hl]; omega)]
      simp
    | succ i =>
      rw [e, List.getElem?_append_right (by rw [hl]; omega), hl, show (i + 1) * 5 + r - 5 = i * 5 + r by omega, ih (by simpa using hi)]
      simp

/-- an argument that is a list of acts: what is known of it -/
structure ActsArg7 (W : World) (v : Value) (A : Option Addr) (az : List Ac7) (c : Nat) : Prop where
  val : v = .slice A az.length c
  cap : az.length ≤ c
  acts : ∀ a ∈ az, ActIn7 W a
  rds : Rds W W.heap.size A (c7A az)

theorem sized_mem {ts : List TypeId} {ds : List (DataW H)} (h : (DataW.weightsEach Try.prog ts ds).all (· ≤ reachBytes) = true) {j : Nat} {t : TypeId} {d : DataW H} (ht : ts[j]? = some t) (hd : ds[j]? = some d) : ∀ n ∈ d.weights Try.prog t, n ≤ reachBytes := fun n hn => by
  have := List.all_eq_true.1 h n (DataW.weights_mem_each ht hd n hn)
  simpa using this
theorem weights_elem {t e : TypeId} {elems spare : List (DataW H)} (ht : Try.prog.underlying t = some (.slice e)) {d : DataW H} (hd : d ∈ elems) (hw : ∀ n ∈ (DataW.slice elems spare).weights Try.prog t, n ≤ reachBytes) : ∀ n ∈ d.weights Try.prog e, n ≤ reachBytes := by
  intro n hn
  refine hw n ?_
  have key : ∀ l : List (DataW H), d ∈ l → n ∈ DataW.weightsAll Try.prog e l := by
    intro l
    induction l with
    | nil => intro h; cases h
    | cons x l ih =>
      intro h
      simp only [DataW.weightsAll, List.mem_append]
      rcases List.mem_cons.1 h with rfl | h
      · exact .inl hn
      · exact .inr (ih h)
  simp only [DataW.weights, ht, List.mem_cons, List.mem_append]
  exact .inr (.inl (key _ hd))

set_option maxRecDepth 20000 in
theorem open_acts7 {W : World} {v : Value} {d : DataW H} {ps : List MemPlace} {base : Nat} (hval : Value.okWide Try.prog W .any base 39 v) (h : DataW.Trod enc Try.prog W 0 (fun _ => true) true 39 v d ps)
    (hw : ∀ n ∈ d.weights Try.prog 39, n ≤ reachBytes) : ∃ A az c, ActsArg7 W v A az c := by
  obtain ⟨a0, len, cap, rfl⟩ := okWide_slice Try.underlying39 hval
  obtain ⟨fuel, hf⟩ := h
  rcases DataW.trod_slice Try.underlying39 hf with ⟨h1, _⟩ | ⟨a, len', cap', elems, rest, n, _, h1, hx, _, hle, hmax, hlen, hel, _⟩
  · have h1' : Value.slice a0 len cap = .slice none 0 0 := by simpa [Value.cells] using h1
    injection h1' with e1 e2 e3
    subst e1 e2 e3
    exact ⟨none, [], 0, rfl, Nat.le_refl _, (fun r hr => by cases hr), Rds.nil_⟩
  · have h1' : Value.slice a0 len cap = .slice (some a) len' cap' := by simpa [Value.cells] using h1
    injection h1' with e1 e2 e3
    subst e1 e2 e3
    rw [cellsOf_act7] at hel
    have hd : d = .slice (elems.map (·.1)) (rest.map (·.1)) := congrArg Prod.fst hx
    subst hd
    have each : ∀ i, ∃ r : Ac7, i < len → (∀ j, j < 5 → W.cell? ((a.add (i * 5)).add j) = (ac7Cells r)[j]?) ∧ ActIn7 W r := by
      intro i
      by_cases hi : i < len
      · have he := hel i hi
        rw [List.getElem?_eq_getElem (by omega)] at he
        obtain ⟨r, hr⟩ := act_read he (weights_elem Try.underlying39 (List.mem_map.2 ⟨_, List.getElem_mem (show i < elems.length by omega), rfl⟩) hw)
        exact ⟨r, fun _ => hr⟩
      · exact ⟨ac7Dummy, fun h => absurd h hi⟩
    obtain ⟨fr, hfr⟩ := Classical.axiomOfChoice each
    have hrl : ((List.range len).map fr).length = len := by simp
    have hget : ∀ i (hi : i < ((List.range len).map fr).length), ((List.range len).map fr)[i] = fr i := fun i hi => by simp
    refine ⟨some a, (List.range len).map fr, cap, by rw [hrl], by rw [hrl]; exact hle, ?_, ?_⟩
    · intro r hr
      obtain ⟨i, hi, rfl⟩ := List.mem_map.1 hr
      exact (hfr i (List.mem_range.1 hi)).2
    · intro hne
      have hcells : ∀ j u, (c7A ((List.range len).map fr))[j]? = some u → W.cell? (a.add j) = some u := by
        intro j u hu
        have hj : j < len * 5 := by
          have := (List.getElem?_eq_some_iff.1 hu).1
          rw [c7A_length, hrl] at this
          exact this
        have hi : j / 5 < len := by omega
        have hr : j % 5 < 5 := Nat.mod_lt _ (by decide)
        have e : j = j / 5 * 5 + j % 5 := by omega
        rw [e, c7A_get (by rw [hrl]; exact hi) hr, hget] at hu
        rw [e, ← add_twice, (hfr _ hi).1 _ hr]
        exact hu
      have hpos : 0 < (c7A ((List.range len).map fr)).length := by
        rcases Nat.eq_zero_or_pos (c7A ((List.range len).map fr)).length with h0 | h0
        · exact absurd (List.eq_nil_of_length_eq_zero h0) hne
        · exact h0
      refine ⟨a, rfl, ?_, hcells⟩
      have := World.block_lt_of_cell? W _ (hcells 0 _ (List.getElem?_eq_getElem hpos))
      rwa [blk_add] at this
end
end Go.Proofs.Ytnleeffajljodaa
end

section
/- The walks over the kit's Own and Kept. -/
namespace Go.Proofs.Ytnleeffajljodaa
open Go.RowKit
set_option linter.unusedVariables false

theorem own_whole {w : World} {B g n : Nat} {e : TypeId} {xs : List Value} (h : w.ownsRow B e 1 (.slice (some ⟨g, 0, none⟩) n n) n xs) : Whole w g e xs.toArray := by
  rcases h.2 with ⟨h1, _⟩ | ⟨g', cap, cur, h1, _, h2, _, _, h3, h4⟩
  · cases h1
  · injection h1 with ha _ hc
    injection ha with ha
    injection ha with ha
    subst ha
    subst hc
    have : cur = xs.toArray := by
      rw [← h4, Nat.mul_one, List.take_of_length_le (by simp; omega)]
    rw [← this]
    exact h2

theorem made1 (z : Value) (n : Nat) : (madeCells #[z] (n * 1)).toList = List.replicate n z := by
  rw [Nat.mul_one]
  unfold madeCells
  apply List.ext_getElem
  · simp
  · intro i h1 h2
    simp [Nat.mod_one]

theorem c8_set (L : List Int) (k : Nat) (z : Int) : (c8 L).toArray.setIfInBounds k (.int .u8 z) = (c8 (L.set k z)).toArray := by
  simp [c8, List.map_set]

/-- copy(dst, src) into the head of a block known whole, src nil or not, no longer than dst -/
theorem copy_head {P : Program} (w : World) (T e ty : TypeId) (hu : P.underlying T = some (.slice e)) (hs : (P.info? e).map (·.size) = some 1) {g m cap c lim : Nat} {old : List Value} {A : Option Addr} {xs : List Value} {te : TypeId}
    (hw : Whole w g te old.toArray) (hr : Rds w lim A xs) (hle : xs.length ≤ m) (hm : xs.length ≤ old.length) (h1 : ∀ u ∈ xs, u.oneCell' = true) {n : Nat} (hn : n = xs.length) :
    ∃ w', (Builtin.copy_ #[T, T] ty #[.slice (some ⟨g, 0, none⟩) m cap, .slice A n c]).run P w = .ok (.int .i64 n) w' ∧ Whole w' g te (xs ++ old.drop xs.length).toArray ∧ ∀ B w0, Below B w0 w → B ≤ g → Below B w0 w' := by
  subst hn
  have hmin : Nat.min xs.length m = xs.length := Nat.min_eq_left hle
  by_cases h0 : xs = []
  · subst h0
    exact ⟨w, run_copy_none (P := P) w T T ty e _ A m cap 0 c hu hs (Nat.min_eq_left (Nat.zero_le _)), by simpa using hw, fun B w0 hb _ => hb⟩
  · obtain ⟨ad, rfl, _, hsrc⟩ := hr h0
    refine ⟨_, run_copy_row (P := P) w T T ty e g 0 m cap ad xs.length c old.toArray te xs hu hs hw hmin.symm hsrc (by simpa using hm) h1, ?_, fun B w0 hb hB => below_setRow hb hB _⟩
    have := setRow_heap w g _ ((old.toArray.toList.take 0 ++ xs ++ old.toArray.toList.drop (0 + xs.length)).toArray) te (0, 0) hw
    unfold Whole
    rw [this]
    simp

set_option maxHeartbeats 800000 in
set_option maxRecDepth 100000 in
theorem own_any (A : Option Addr) (zs : List Int) (c : Nat) (w : World) (hl : zs.length ≤ 140737488351232) (hr : Rds w w.heap.size A (c8 zs)) :
    Calls Try.prog 16 #[.slice A zs.length c] w fun e w' =>
      ∃ g, e = .returned (.slice (some ⟨g, 0, none⟩) zs.length (zs.length + 5)) ∧ Whole w' g 5 (c8 (zs ++ List.replicate 5 222)).toArray ∧ w.heap.size ≤ g ∧ Below w.heap.size w w' := by
  obtain ⟨i0, hi, hz0, hz1, hz2⟩ := info_parts info8
  have hsz : (Try.prog.info? 5).map (·.size) = some 1 := by rw [hi]; simp [hz1]
  go_enter Try.func16, Try.ntmps16
  go_wp2_with (at_make; go_loud (refine wpList_make_full _ rfl _ _ 29 rfl w.heap.size 5 i0 (.int .u8 0) 1 Try.underlying29 hi hz0 hz1 .i64 .i64 _ _ (zs.length + 5) rfl rfl (by omega) (by omega) (by rw [hz2]; omega) (by unfold maxLen; omega) (Nat.le_refl _) ?_))
  intro w1 hown1 hg1
  have hb1 : Below w.heap.size w w1 := (Below.refl _ _).grown hg1 (Nat.le_refl _) (by simp)
  have hw1 := own_whole hown1
  have hw2 : Whole w1 w.heap.size 5 (c8 (List.replicate (zs.length + 5) 0)).toArray := by
    have h := made1 (.int .u8 0) (zs.length + 5)
    rw [Nat.mul_one] at h
    rw [h] at hw1
    rwa [show c8 (List.replicate (zs.length + 5) 0) = List.replicate (zs.length + 5) (Value.int .u8 0) by simp [c8]]
  have hr1 := hr.below hb1
  obtain ⟨w2, hrun, hw3, hk⟩ := copy_head (P := Try.prog) w1 29 5 3 Try.underlying29 hsz (m := zs.length + 5) (cap := zs.length + 5) (c := c) hw2 hr1 (by rw [c8_length]; omega) (by simp [c8]) (c8_one zs) (c8_length zs).symm
  have hb2 := hk _ _ hb1 (Nat.le_refl _)
  rw [show c8 zs ++ (c8 (List.replicate (zs.length + 5) 0)).drop (c8 zs).length = c8 (zs ++ List.replicate 5 0) by simp [c8]] at hw3
  clear hw1 hw2 hown1 hk hb1 hg1
  have HW3 : Hid (Whole w2 w.heap.size 5 (c8 (zs ++ List.replicate 5 0)).toArray) := Lib.hid hw3
  clear hw3
  go_wp2
  go_loopw [4] (fun i wr => ∃ (k : Nat) (L : List Int), zs.length ≤ k ∧ k ≤ zs.length + 5 ∧ i = .int .i64 k ∧ L.length = zs.length + 5 ∧ L.take k = zs ++ List.replicate (k - zs.length) 222 ∧ Whole wr w.heap.size 5 (c8 L).toArray ∧ Below w.heap.size w wr) (fun i _ => zs.length + 5 - (intOf i).toNat)
  case atStart => exact ⟨zs.length, zs ++ List.replicate 5 0, Nat.le_refl _, by omega, rfl, by simp, by simp, HW3.out, hb2⟩
  case round =>
    obtain ⟨k, L, hk0, hk, rfl, hL, ht, hw, hb⟩ := hrel
    have HL := Lib.hid hL
    have HT := Lib.hid ht
    have HWh := Lib.hid hw
    clear hL ht
    by_cases hlt : k < zs.length + 5
    · have hcell : wr.cell? ⟨w.heap.size, k, none⟩ = some (.int .u8 (L[k]'(by have := HL.out; omega))) := by
        rw [hw.cell k]
        simp [c8, show k < L.length by have := HL.out; omega]
      have hf := hw.frozen k
      clear hw
      go_wp2
      go_roundw
      case rel =>
        refine ⟨k + 1, L.set k 222, by omega, by omega, by go_num, by simp [HL.out], ?_, ?_, hb.setCell (Nat.le_refl _) _⟩
        · rw [List.take_set, List.take_add_one, HT.out]
          have hkl : k < L.length := by have := HL.out; omega
          rw [List.getElem?_eq_getElem hkl, show k + 1 - zs.length = (k - zs.length) + 1 by omega, List.replicate_succ', ← List.append_assoc]
          have hlen : (zs ++ List.replicate (k - zs.length) 222).length = k := by simp; omega
          rw [List.set_append_right _ _ (by omega), hlen, Nat.sub_self]
          rfl
        · have := HWh.out.put k (.int .u8 222)
          rwa [c8_set] at this
      case measure => simp [intOf]; omega
    · clear hw
      go_wp2
      go_ret
      have hfin : L = zs ++ List.replicate 5 222 := by
        have h := HT.out
        obtain rfl : k = zs.length + 5 := by omega
        rw [List.take_of_length_le (by have := HL.out; omega)] at h
        rw [h]
        congr 2
        omega
      refine ⟨w.heap.size, by simp, by rw [← hfin]; exact HWh.out, Nat.le_refl _, hb⟩

set_option maxHeartbeats 800000 in
set_option maxRecDepth 100000 in
theorem kept_any (A : Option Addr) (zs : List Int) (c g lim : Nat) (w : World) (hl : zs.length ≤ 140737488351232) (hr : Rds w lim A (c8 zs)) (hw : Whole w g 5 (c8 (zs ++ List.replicate 5 222)).toArray) :
    Calls Try.prog 18 #[.slice (some ⟨g, 0, none⟩) zs.length (zs.length + 5), .slice A zs.length c] w fun e w' => e = .returned (.bool true) ∧ ∃ n, w' = w.drewN n := by
  have hne : ((zs.length : Int) != (zs.length : Int)) = false := by simp
  have HW := Lib.hid hw
  clear hw
  go_enter Try.func18, Try.ntmps18
  go_wp2
  go_loopw [6] (fun i wr => ∃ k n : Nat, k ≤ zs.length ∧ i = .int .i64 k ∧ wr = w.drewN n) (fun i _ => zs.length - (intOf i).toNat)
  case atStart => exact ⟨0, 0, Nat.zero_le _, rfl, rfl⟩
  case round =>
    obtain ⟨k, n, hk, rfl, rfl⟩ := hrel
    by_cases hlt : k < zs.length
    · obtain ⟨ad, rfl, _, hcell⟩ := hr.at_ (c8_get hlt)
      have hcell' : w.cell? ⟨g, k, none⟩ = some (.int .u8 zs[k]) := by
        rw [HW.out.cell k]
        have e : (zs ++ List.replicate 5 (222 : Int))[k]? = some zs[k] := by
          rw [List.getElem?_append_left hlt, List.getElem?_eq_getElem hlt]
        simp only [c8, List.getElem?_toArray, List.getElem?_map, e]
        rfl
      generalize zs[k] = x at *
      have hx : (x != x) = false := by simp
      go_wp2
      go_quiet (fail)
      go_wp2
      go_roundw
      case rel => exact ⟨k + 1, _, by omega, by go_num, rfl⟩
      case measure => simp [intOf]; omega
    · go_wp2
      go_loop [7] (fun i => ∃ k : Nat, zs.length ≤ k ∧ k ≤ zs.length + 5 ∧ i = .int .i64 k) (fun i => zs.length + 5 - (intOf i).toNat)
      case atStart => exact ⟨zs.length, Nat.le_refl _, by omega, rfl⟩
      case round =>
        obtain ⟨j, hj0, hj1, rfl⟩ := hrel
        by_cases hjt : j < zs.length + 5
        · have hcell' : (w.drewN n).cell? ⟨g, j, none⟩ = some (.int .u8 222) := by
            have h := HW.out.cell j
            show w.cell? _ = _
            rw [h]
            have e : (zs ++ List.replicate 5 (222 : Int))[j]? = some 222 := by
              rw [List.getElem?_append_right hj0, List.getElem?_replicate, if_pos (by omega)]
            simp only [c8, List.getElem?_toArray, List.getElem?_map, e]
            rfl
          go_wp2
          go_round
          case rel => exact ⟨j + 1, by omega, by omega, by go_num⟩
          case measure => simp [intOf]; omega
        · go_wp2
          go_ret
          exact ⟨rfl, n, rfl⟩

theorem own_reads {w : World} {g : Nat} {zs : List Int} (h : Whole w g 5 (c8 (zs ++ List.replicate 5 222)).toArray) : Rds w w.heap.size (some ⟨g, 0, none⟩) (c8 zs) := by
  intro _
  refine ⟨_, rfl, h.lt, fun j u hu => ?_⟩
  have hadd : (⟨g, 0, none⟩ : Addr).add j = ⟨g, j, none⟩ := by unfold Addr.add; split <;> simp_all
  rw [hadd, h.cell j]
  have hj : j < (c8 zs).length := (List.getElem?_eq_some_iff.1 hu).1
  rw [c8_append]
  simp only [List.getElem?_toArray]
  rw [List.getElem?_append_left hj, hu]
theorem Rds.go {w1 w2 : World} {A : Option Addr} {xs : List Value} (hr : Rds w1 w1.heap.size A xs) (hb : Below w1.heap.size w1 w2) : Rds w2 w2.heap.size A xs := (hr.below hb).more hb.size
theorem Whole.go {w1 w2 : World} {g : Nat} {t : TypeId} {cs : Array Value} (h : Whole w1 g t cs) (hb : Below w1.heap.size w1 w2) : Whole w2 g t cs := h.below hb h.lt
theorem belowGo {B : Nat} {w w1 w2 : World} (h : Below B w w1) (hB : B ≤ w.heap.size) (hb : Below w1.heap.size w1 w2) : Below B w w2 := h.trans (hb.mono (Nat.le_trans hB h.size))
theorem Rds.now {w : World} {A : Option Addr} {xs : List Value} (hr : Rds w w.heap.size A xs) (n : Nat) : Rds (w.drewN n) (w.drewN n).heap.size A xs := hr
end Go.Proofs.Ytnleeffajljodaa
end

section
/- The walk over the kit's Pick: what it picks lies below what it may pick from. No condition but that the numbers are of their types. -/
namespace Go.Proofs.Ytnleeffajljodaa
open Go.RowKit Go.Lib
set_option linter.unusedVariables false

theorem pick_any (x n : Int) (w : World) (h1 : 1 ≤ n) (h2 : n ≤ 4611686018427387904) (hx : -9223372036854775808 ≤ x ∧ x ≤ 9223372036854775807) :
    Calls Try.prog 15 #[.int .i64 x, .int .i64 n] w fun e w' => (∃ r : Nat, e = .returned (.int .i64 r) ∧ (r : Int) < n) ∧ w' = w := by
  have hx1 := hx.1
  have hx2 := hx.2
  clear hx
  have hm1 : -n < Int.tmod x n := by have := Int.tmod_lt_of_pos (-x) (show 0 < n by omega); rw [Int.neg_tmod] at this; omega
  have hm2 : Int.tmod x n < n := Int.tmod_lt_of_pos x (by omega)
  have hn0 : ¬ n = 0 := by omega
  have hn1 : ¬ n = -1 := by omega
  go_enter Try.func15, Try.ntmps15
  go_wp2
  go_ret
  have hm3 := Int.emod_nonneg (x.tmod n + n) hn0
  have hm4 := Int.emod_lt_of_pos (x.tmod n + n) (show 0 < n by omega)
  exact ⟨⟨((x.tmod n + n) % n).toNat, by rw [Int.toNat_of_nonneg hm3]; rfl, by rw [Int.toNat_of_nonneg hm3]; exact hm4⟩, rfl⟩

theorem Whole.reads {w : World} {g : Nat} {t : TypeId} {zs : List Int} (h : Whole w g t (c8 zs).toArray) : Rds w w.heap.size (some ⟨g, 0, none⟩) (c8 zs) := by
  intro _
  refine ⟨_, rfl, h.lt, fun j u hu => ?_⟩
  have hadd : (⟨g, 0, none⟩ : Addr).add j = ⟨g, j, none⟩ := by unfold Addr.add; split <;> simp_all
  rw [hadd, h.cell j]
  simpa using hu


end Go.Proofs.Ytnleeffajljodaa
end

section
/- The statement on what is delivered. -/
namespace Go.Proofs.Ytnleeffajljodaa
open Go.RowKit Go.Maps
set_option linter.unusedVariables false

/-- one act's cells -/
theorem actAt {w : World} {lim : Nat} {A : Option Addr} {az : List Ac7} (h : Rds w lim A (c7A az)) {k : Nat} (hk : k < az.length) :
    ∃ ad, A = some ad ∧ ad.block < lim ∧ w.cell? (ad.add (k * 5)) = some (.int .i64 az[k].kd) ∧ w.cell? ⟨(ad.add (k * 5)).block, (ad.add (k * 5)).off + 1, none⟩ = some (.int .i64 az[k].frm) ∧ w.cell? ⟨(ad.add (k * 5)).block, (ad.add (k * 5)).off + 2, none⟩ = some (.int .i64 az[k].to_) ∧
      w.cell? ⟨(ad.add (k * 5)).block, (ad.add (k * 5)).off + 3, none⟩ = some (.slice az[k].A az[k].L az[k].c) ∧ w.cell? ⟨(ad.add (k * 5)).block, (ad.add (k * 5)).off + 4, none⟩ = some (.int .u64 az[k].n) := by
  obtain ⟨ad, rfl, hl, hc0⟩ := h.at_ ((c7A_get hk (r := 0) (by omega)).trans rfl)
  have hc : ∀ i, i < 5 → i ≠ 0 → w.cell? ⟨(ad.add (k * 5)).block, (ad.add (k * 5)).off + i, none⟩ = (ac7Cells az[k])[i]? := fun i hi h0 => by
    obtain ⟨u, hu⟩ : ∃ u, (ac7Cells az[k])[i]? = some u := ⟨_, Array.getElem?_eq_getElem (show i < (ac7Cells az[k]).size from hi)⟩
    obtain ⟨ad', e, _, hc1⟩ := h.at_ ((c7A_get hk hi).trans hu)
    obtain rfl := Option.some.inj e
    rw [← addr_off h0, add_twice, hc1, hu]
  exact ⟨ad, rfl, hl, hc0, (hc 1 (by omega) (by omega)).trans rfl, (hc 2 (by omega) (by omega)).trans rfl, (hc 3 (by omega) (by omega)).trans rfl, (hc 4 (by omega) (by omega)).trans rfl⟩

theorem step_app {P : Program} {w : World} {ops : Array Oper} {o : Oper} {a : Act} {K : Act → World → Prop} {Q : Exit → Act → World → Prop} {E : Prop} (hgd : o.guard = none) (s x : Operand) (t : TypeId)
    (ho : o.op = .call { callee := .builtin .append, args := #[s, x], argTypes := #[t, t] })
    (B : Nat) (e : TypeId) (i : TypeInfo) (z : Value) (ht : P.underlying t = some (.slice e)) (hi : P.info? e = some i) (hz : i.zero = some z)
    (hsize : i.size = 1) (hby : i.bytes = 1) (hzs : z.cells.size = 1) (v : Value) (n : Nat) (xs : List Value) (hs : a.eval s = v) (hown : w.ownsRow B e 1 v n xs)
    (A : Option Addr) (m c lim : Nat) (news : List Value) (hx : a.eval x = .slice A m c) (hm : m = news.length) (hr : Rds w lim A news) (hA : A = none → c = 0) (h1 : ∀ u ∈ news, u.oneCell' = true) (hn : n + m ≤ 1048576) (hB : B ≤ w.heap.size)
    (h : ∀ v' w', w'.ownsRow B e 1 v' (n + m) (xs ++ news) → Below B w w' → K (a.put o.dst v') w') : if Region.wanted o (yielded ops a.tmps) = true then Oper.wp P o a w K Q else E := by
  have hw : Region.wanted o (yielded ops a.tmps) = true := by simp [Region.wanted, hgd]
  rw [if_pos hw]
  subst hm
  obtain ⟨v', w', hrun, h2, h3⟩ := run_app_many (P := P) w t o.type e i z 1 ht hi hz hsize hby hzs B v n xs hown A c lim news hr hA h1 (by unfold maxLen; omega) (by omega) hB
  unfold Oper.wp
  simp [execOp, ho, resolve, invoke, builtin, hs, hx, hrun, Result.andThen]
  exact h v' w' h2 h3

theorem empty_own (w : World) (e : TypeId) : (w.alloc (.cells #[] e)).ownsRow w.heap.size e 1 (.slice (some ⟨w.heap.size, 0, none⟩) 0 0) 0 [] :=
  ⟨rfl, .inr ⟨w.heap.size, 0, #[], rfl, Nat.le_refl _, heap_alloc_new w _, Nat.le_refl _, by unfold maxLen; omega, rfl, rfl⟩⟩

/-- the box of an act -/
structure Box7 (w : World) (g : Nat) (kd frm to_ : Int) (A : Option Addr) (L c : Nat) (n : Int) : Prop where
  c0 : w.cell? ⟨g, 0, none⟩ = some (.int .i64 kd)
  c1 : w.cell? ⟨g, 1, none⟩ = some (.int .i64 frm)
  c2 : w.cell? ⟨g, 2, none⟩ = some (.int .i64 to_)
  c3 : w.cell? ⟨g, 3, none⟩ = some (.slice A L c)
  c4 : w.cell? ⟨g, 4, none⟩ = some (.int .u64 n)
theorem Box7.outs {w w' : World} {g : Nat} {kd frm to_ : Int} {A : Option Addr} {L c : Nat} {n : Int} {S : Nat → Prop} (h : Box7 w g kd frm to_ A L c n) (ho : Outs S w w') (hn : ¬ S g) (hl : g < w.heap.size) : Box7 w' g kd frm to_ A L c n := by
  have e : ∀ i, w'.cell? ⟨g, i, none⟩ = w.cell? ⟨g, i, none⟩ := fun i => ho.cell (p := ⟨g, i, none⟩) hl hn
  exact ⟨(e 0).trans h.c0, (e 1).trans h.c1, (e 2).trans h.c2, (e 3).trans h.c3, (e 4).trans h.c4⟩
theorem Box7.below {w w' : World} {g : Nat} {kd frm to_ : Int} {A : Option Addr} {L c : Nat} {n : Int} (h : Box7 w g kd frm to_ A L c n) (hb : Below w.heap.size w w') (hl : g < w.heap.size) : Box7 w' g kd frm to_ A L c n :=
  h.outs (S := fun _ => False) (Outs.of hb) (fun e => e) hl
theorem On.turn2 {w0 w w' : World} {S : Nat → Prop} {b mb : Nat} {es es' : List (Le × Pl)} {sent sent' : Nat} {v4 v5 : Value} {ss : List (Le × Pl)} {ov : List Int} (h : On w0 w S b mb es sent v4 v5 ss ov) (hn : Nt w' S b mb es' sent') (ho : Outs (fun i => i = b ∨ i = mb) w w') :
    On w0 w' S b mb es' sent' v4 v5 ss ov ∧ Turn S S w w' := by
  have ht : Turn S S w w' := Turn.of2 h.nt ho (fun k hk => .inl hk)
  exact ⟨h.turn hn ht, ht⟩

set_option maxHeartbeats 16000000 in
set_option maxRecDepth 100000 in
theorem once_walk (A : Option Addr) (az : List Ac7) (n c : Nat) (w : World) (hn : az.length = n) (hin : ∀ a ∈ az, ActIn7 w a) (hr : Rds w w.heap.size A (c7A az)) :
    Calls Try.prog 6 #[.slice A n c] w fun e w' => e = .returned (.bool true) ∧ Below w.heap.size w w' := by
  obtain ⟨i0, hi, hz0, hz1, hz2⟩ := info_parts info8
  obtain ⟨iu, hiu, hu0, hu1, hu2⟩ := info_parts info64
  obtain ⟨il, hil, hl0, hl1, hl2⟩ := info_parts infoL
  have HN := Lib.hid hn
  have HIN := Lib.hid hin
  have HR := Lib.hid hr
  clear hn hin hr
  go_enter Try.func6, Try.ntmps6
  go_wp2_with fail
  refine (lives_any w).mono ?_
  rintro e w1 ⟨rfl, hb1⟩
  by_cases hbig : 200 < n
  · have hbig' : (200 : Int) < (n : Int) := by omega
    have HB1 := Lib.hid hb1
    clear hb1
    go_wp2
    go_ret
    exact ⟨rfl, HB1.out⟩
  have hbig' : ¬ (200 : Int) < (n : Int) := by omega
  have HB1 := Lib.hid hb1
  have hsz1 := hb1.size
  clear hb1
  go_wp2_with fail
  refine (new_any w1).mono ?_
  rintro e w2 ⟨rfl, hn2, hb2⟩
  have hon : On w w2 (Two w1.heap.size (w1.heap.size + 1)) (w1.heap.size + 1) w1.heap.size [] 0 (.slice none 0 0) (.slice none 0 0) [] [] :=
    ⟨hn2, (fun i hi => by rcases hi with rfl | rfl <;> omega), World.ownsRow_nil _ _ _ _, World.ownsRow_nil _ _ _ _, (fun g hg => by cases hg), (fun g hg => by cases hg), (fun g hg => by cases hg), (fun p hp => by cases hp), HB1.out.trans (hb2.mono hsz1)⟩
  obtain ⟨b, hbq⟩ : ∃ b, b = w1.heap.size + 1 := ⟨_, rfl⟩
  obtain ⟨mb, hmb⟩ : ∃ mb, mb = w1.heap.size := ⟨_, rfl⟩
  rw [← hbq, ← hmb] at hon
  rw [← hbq]
  have HON := Lib.hid hon
  clear hn2 hb2 hon hbq hmb hsz1
  go_wp2
  go_loopw [4, 5, 6] (fun v4 v5 vi wr => ∃ (k : Nat) (S : Nat → Prop) (es : List (Le × Pl)) (sent : Nat) (ss : List (Le × Pl)) (ov : List Int), vi = .int .i64 k ∧ k ≤ n ∧ Mid7 k es sent ss ov ∧ On w wr S b mb es sent v4 v5 ss ov) (fun _ _ vi _ => n - (intOf vi).toNat)
  case atStart => exact ⟨0, _, [], 0, [], [], rfl, Nat.zero_le _, mid7_zero, HON.out⟩
  case round =>
    obtain ⟨k, S, es, sent, ss, ov, rfl, hk, hmid, hon⟩ := hrel
    by_cases hlt : k < n
    · have hke : k < az.length := by have := HN.out; omega
      have hbr := hon.below
      have hszr := hbr.size
      have hain := HIN.out _ (List.getElem_mem hke)
      obtain ⟨ad, rfl, _, d0, d1, d2, d3, d4⟩ := actAt (HR.out.below hbr) hke
      generalize az[k] = a at hain d0 d1 d2 d3 d4
      obtain ⟨kd, frm, to_, aA, L, ac, body, num⟩ := a
      have hbl := hain.bl
      simp only at d0 d1 d2 d3 d4 hbl
      subst hbl
      have hbn : Below wr.heap.size wr (wr.alloc (.cells #[.int .i64 kd, .int .i64 frm, .int .i64 to_, .slice aA body.length ac, .int .u64 num] 45)) := (Below.refl _ _).alloc (Nat.le_refl _) _
      have hbox : Box7 (wr.alloc (.cells #[.int .i64 kd, .int .i64 frm, .int .i64 to_, .slice aA body.length ac, .int .u64 num] 45)) wr.heap.size kd frm to_ aA body.length ac num := by
        exact ⟨by simp, by simp, by simp, by simp, by simp⟩
      have hlb : wr.heap.size < (wr.alloc (.cells #[.int .i64 kd, .int .i64 frm, .int .i64 to_, .slice aA body.length ac, .int .u64 num] 45)).heap.size := by simp
      have HNS : Hid (¬ S wr.heap.size) := Lib.hid (fun e => Nat.lt_irrefl _ (hon.nt.lt _ e))
      have HO := Lib.hid (hon.go hbn)
      have HM := Lib.hid hmid
      have HAI := Lib.hid hain
      have HBX := Lib.hid hbox
      have HLB := Lib.hid hlb
      clear hon hmid hain hbox hbn hlb
      go_upto_region 12 with fail
      generalize (wr.alloc (.cells #[.int .i64 kd, .int .i64 frm, .int .i64 to_, .slice aA body.length ac, .int .u64 num] 45)) = W at HO HBX HLB ⊢
      generalize wr.heap.size = g at HBX HNS HLB ⊢
      clear d0 d1 d2 d3 d4 hbr hszr
      obtain ⟨c0, c1, c2, c3, c4⟩ := HBX.out
      have hnb := HAI.out.nb
      have HNB := Lib.hid hnb
      clear hnb
      go_wp2_with fail
      refine (pick_any kd 5 W (by decide) (by decide) HAI.out.kd).mono ?_
      rintro e w3 ⟨⟨r, rfl, hr5⟩, hw3⟩
      rw [hw3]
      clear hw3 w3
      have hr5' : r = 0 ∨ r = 1 ∨ r = 2 ∨ r = 3 ∨ r = 4 := by omega
      clear hr5
      rcases hr5' with rfl | rfl | rfl | rfl | rfl
      · by_cases hlong : 20000 < body.length
        · have hlong' : (20000 : Int) < (body.length : Int) := by omega
          have HBW := Lib.hid HO.out.below
          go_wp2
          go_ret
          exact ⟨rfl, HBW.out⟩
        have hlong' : ¬ (20000 : Int) < (body.length : Int) := by omega
        have hS3 : ∀ w', Box7 w' g kd frm to_ aA body.length ac num → w'.cell? ⟨g, 1, none⟩ = some (.int .i64 frm) ∧ w'.cell? ⟨g, 2, none⟩ = some (.int .i64 to_) ∧ w'.cell? ⟨g, 3, none⟩ = some (.slice aA body.length ac) := fun w' h => ⟨h.c1, h.c2, h.c3⟩
        have hbA : Below W.heap.size W (W.drew.alloc (.cells #[] 5)) := (Below.refl _ _).drew.alloc (Nat.le_refl _) _
        have hown0 : (W.drew.alloc (.cells #[] 5)).ownsRow W.heap.size 5 1 (.slice (some ⟨W.heap.size, 0, none⟩) 0 0) 0 [] := empty_own W.drew _
        have hrd0 := (HAI.out.rd.below HO.out.below).below (hbA.mono HO.out.below.size)
        simp only at hrd0
        have hA0 : aA = none → ac = 0 := HAI.out.A0
        have HS3 := Lib.hid hS3
        clear hS3
        go_wp2_with fail
        refine wp_region_G 14 (fun w' => w'.cell? ⟨g, 1, none⟩ = some (.int .i64 frm) ∧ w'.cell? ⟨g, 2, none⟩ = some (.int .i64 to_) ∧ w'.cell? ⟨g, 3, none⟩ = some (.slice aA body.length ac)) (by kernel_rfl) (by kernel_rfl) (HS3.out _ (HBX.out.below (Below.refl _ _).drew HLB.out)) (fun hSS hst => ?_)
        refine wpAnyG_take (i := 0) (v := ?_) rfl (by kernel_rfl) hst (by kernel_rfl) (by kernel_rfl) (fun _ _ _ h => h) hSS (Or.inl ⟨by rfl, ?_⟩) (fun hst2 => ?_)
        rotate_left
        · (intro w hSw; (try dsimp only at hSw); go_simp; try (with_reducible rfl))
        clear hst; have hst := hst2; clear hst2
        try simp only [Act.put, List.setIfInBounds_toArray, List.set_cons_zero, List.set_cons_succ]
        refine wpAnyG_take (i := 1) (v := ?_) rfl (by kernel_rfl) hst (by kernel_rfl) (by kernel_rfl) (fun _ _ _ h => h) hSS (Or.inl ⟨by rfl, ?_⟩) (fun hst2 => ?_)
        rotate_left
        · (intro w hSw; (try dsimp only at hSw); go_simp; try (with_reducible rfl))
        clear hst; have hst := hst2; clear hst2
        try simp only [Act.put, List.setIfInBounds_toArray, List.set_cons_zero, List.set_cons_succ]
        refine wpAnyG_take (i := 2) (v := ?_) rfl (by kernel_rfl) hst (by kernel_rfl) (by kernel_rfl) (fun _ _ _ h => h) hSS (Or.inl ⟨by rfl, ?_⟩) (fun hst2 => ?_)
        rotate_left
        · (intro w hSw; (try dsimp only at hSw); go_simp; try (with_reducible rfl))
        clear hst; have hst := hst2; clear hst2
        try simp only [Act.put, List.setIfInBounds_toArray, List.set_cons_zero, List.set_cons_succ]
        refine wpAnyG_take (i := 3) (v := ?_) rfl (by kernel_rfl) hst (by kernel_rfl) (by kernel_rfl) (fun _ _ _ h => h) hSS (Or.inl ⟨by rfl, ?_⟩) (fun hst2 => ?_)
        rotate_left
        · (intro w hSw; (try dsimp only at hSw); go_simp; try (with_reducible rfl))
        clear hst; have hst := hst2; clear hst2
        try simp only [Act.put, List.setIfInBounds_toArray, List.set_cons_zero, List.set_cons_succ]
        refine wpAnyG_take (i := 4) (v := ?_) rfl (by kernel_rfl) hst (by kernel_rfl) (by kernel_rfl) (fun _ _ _ h => h) hSS (Or.inl ⟨by rfl, ?_⟩) (fun hst2 => ?_)
        rotate_left
        · (intro w hSw; (try dsimp only at hSw); go_simp; try (with_reducible rfl))
        clear hst; have hst := hst2; clear hst2
        try simp only [Act.put, List.setIfInBounds_toArray, List.set_cons_zero, List.set_cons_succ]
        refine wpAnyG_take (i := 6) (v := ?_) rfl (by kernel_rfl) hst (by kernel_rfl) (by kernel_rfl) (fun _ _ _ h => h) hSS (Or.inl ⟨by rfl, ?_⟩) (fun hst2 => ?_)
        rotate_left
        · (intro w hSw; (try dsimp only at hSw); go_simp; try (with_reducible rfl))
        clear hst; have hst := hst2; clear hst2
        try simp only [Act.put, List.setIfInBounds_toArray, List.set_cons_zero, List.set_cons_succ]
        refine wpAnyG_take (i := 7) (v := ?_) rfl (by kernel_rfl) hst (by kernel_rfl) (by kernel_rfl) (fun _ _ _ h => h) hSS (Or.inl ⟨by rfl, ?_⟩) (fun hst2 => ?_)
        rotate_left
        · (intro w hSw; (try dsimp only at hSw); go_simp; try (with_reducible rfl))
        clear hst; have hst := hst2; clear hst2
        try simp only [Act.put, List.setIfInBounds_toArray, List.set_cons_zero, List.set_cons_succ]
        refine wpAnyG_one (i := 5) (by kernel_rfl) rfl (by kernel_rfl) hst (fun K hK => ?_)
        go_simp
        refine hK.out _ _ (HS3.out _ (HBX.out.below hbA HLB.out)) (fun hSS2 hst2 => ?_)
        clear hst hK K hSS
        have hst := hst2
        have hSS := hSS2
        clear hst2 hSS2
        try simp only [Act.put, List.setIfInBounds_toArray, List.set_cons_zero, List.set_cons_succ]
        refine wpAnyG_one (i := 8) (by kernel_rfl) rfl (by kernel_rfl) hst (fun K hK => ?_)
        refine step_app rfl (.tmp 47) (.tmp 49) 29 rfl W.heap.size 5 i0 (.int .u8 0) Try.underlying29 hi hz0 hz1 hz2 rfl _ 0 [] rfl hown0 aA body.length ac w.heap.size (c8 body) rfl (by rw [c8_length]) hrd0 hA0 (c8_one _) (by omega) (by simp) ?_
        intro v8 w8 hown8 hb8
        have hb8' : Below W.heap.size W w8 := hbA.trans hb8
        have hbx8 := HBX.out.below hb8' HLB.out
        refine hK.out _ _ (HS3.out _ hbx8) (fun hSS2 hst2 => ?_)
        rw [Nat.zero_add, List.nil_append] at hown8
        obtain ⟨A8, cap8, rfl, hr8⟩ := row_slice hown8
        clear hst hK K hSS
        have hst := hst2
        have hSS := hSS2
        clear hst2 hSS2
        try simp only [Act.put, List.setIfInBounds_toArray, List.set_cons_zero, List.set_cons_succ]
        have ho8 := HO.out.go hb8'
        have hl8 : g < w8.heap.size := Nat.lt_of_lt_of_le HLB.out hb8'.size
        have hfew := HM.out.few
        have hlen := HM.out.len
        refine wpAnyG_one (i := 9) (by kernel_rfl) rfl (by kernel_rfl) hst (fun K hK => ?_)
        go_simp
        by_cases hE : sendE frm to_ body.length = 0
        · refine (send_any ho8.nt frm to_ A8 body body.length cap8 rfl hE hr8 (by omega) (by omega)).mono ?_
          rintro e w9 ⟨rfl, S', kk, hn9, ht9⟩
          have hbx9 := hbx8.outs ht9.outs HNS.out hl8
          refine hK.out _ _ (HS3.out _ hbx9) (fun hSS2 hst2 => ?_)
          clear hst hK K hSS
          have hst := hst2
          have hSS := hSS2
          clear hst2 hSS2
          try simp only [Act.put, List.setIfInBounds_toArray, List.set_cons_zero, List.set_cons_succ]
          refine wpAnyG_take (i := 10) (v := ?_) rfl (by kernel_rfl) hst (by kernel_rfl) (by kernel_rfl) (fun _ _ _ h => h) hSS (Or.inl ⟨by rfl, ?_⟩) (fun hst2 => ?_)
          rotate_left
          · (intro w hSw; (try dsimp only at hSw); go_simp; try (with_reducible rfl))
          clear hst; have hst := hst2; clear hst2
          try simp only [Act.put, List.setIfInBounds_toArray, List.set_cons_zero, List.set_cons_succ]
          refine wpAnyG_take (i := 11) (v := ?_) rfl (by kernel_rfl) hst (by kernel_rfl) (by kernel_rfl) (fun _ _ _ h => h) hSS (Or.inl ⟨by rfl, ?_⟩) (fun hst2 => ?_)
          rotate_left
          · (intro w hSw; (try dsimp only at hSw); go_simp; try (with_reducible rfl))
          clear hst; have hst := hst2; clear hst2
          try simp only [Act.put, List.setIfInBounds_toArray, List.set_cons_zero, List.set_cons_succ]
          refine wpAnyG_take (i := 12) (v := ?_) rfl (by kernel_rfl) hst (by kernel_rfl) (by kernel_rfl) (fun _ _ _ h => h) hSS (Or.inl ⟨by rfl, ?_⟩) (fun hst2 => ?_)
          rotate_left
          · (intro w hSw; (try dsimp only at hSw); go_simp; try (with_reducible rfl))
          clear hst; have hst := hst2; clear hst2
          try simp only [Act.put, List.setIfInBounds_toArray, List.set_cons_zero, List.set_cons_succ]
          refine wpAnyG_take (i := 13) (v := ?_) rfl (by kernel_rfl) hst (by kernel_rfl) (by kernel_rfl) (fun _ _ _ h => h) hSS (Or.inl ⟨by rfl, ?_⟩) (fun hst2 => ?_)
          rotate_left
          · (intro w hSw; (try dsimp only at hSw); go_simp; try (with_reducible rfl))
          clear hst; have hst := hst2; clear hst2
          try simp only [Act.put, List.setIfInBounds_toArray, List.set_cons_zero, List.set_cons_succ]
          clear hst hSS
          refine wpAnyG_last (i := 14) (by kernel_rfl) rfl (by kernel_rfl) (by kernel_rfl) (fun K hK => ?_)
          go_simp
          refine hK.out _ _ ?_
          have ho9 := ho8.turn hn9 ht9
          have hrd9 := HAI.out.rd.below ho9.below
          simp only at hrd9
          have HRD9 := Lib.hid hrd9
          have HO9 := Lib.hid ho9
          have hrow9 := ho9.row4
          have hsz9 := ho9.below.size
          have hlss := HM.out.lss
          obtain ⟨_, c1, c2, c3, _⟩ := hbx9
          clear hK K hn9 ht9 hbx8 hown8 hr8 hb8 hb8' ho8 hl8 hown0 hrd0 hA0 hbA ho9 hrd9
          go_wp2_with (at_builtin; refine wpList_append_own_at _ rfl _ _ 41 rfl w.heap.size 32 il zeroL 5 56 Try.underlying41 hil hl0 hl1 hl2 rfl (by decide) _ ss.length (cLs ss) rfl (hrow9.alloc _) ⟨w9.heap.size, 0, none⟩ 1 1 (cL (⟨(sent + 1 : Nat), (sent + 1 : Nat), frm, to_, body⟩, (aA, ac))) rfl (by simp [cL]) (five_new _ _ _ _ _ _ _) (by simp [cL, Value.oneCell']) (by unfold maxLen; omega) (by omega) (by simp; omega) ?_; intro v5' w5 hrow5 hg5 _ hat5; go_frame)
          go_roundw
          case rel => exact ⟨k + 1, S', _, sent + 1, _, ov, by go_num, by omega, HM.out.put frm to_ body kk (aA, ac), HO9.out.push4 hrow5 hg5 hat5 ⟨HRD9.out, by simp only; omega⟩⟩
          case measure => simp [intOf]; omega
        · refine (sendBad_any ho8.nt frm to_ A8 body.length cap8 (by omega) hE).mono ?_
          rintro e w9 ⟨rfl, hw9⟩
          rw [hw9]
          clear hw9
          refine hK.out _ _ (HS3.out _ hbx8) (fun hSS2 hst2 => ?_)
          clear hst hK K hSS
          have hst := hst2
          have hSS := hSS2
          clear hst2 hSS2
          try simp only [Act.put, List.setIfInBounds_toArray, List.set_cons_zero, List.set_cons_succ]
          refine wpAnyG_take (i := 10) (v := ?_) rfl (by kernel_rfl) hst (by kernel_rfl) (by kernel_rfl) (fun _ _ _ h => h) hSS (Or.inl ⟨by rfl, ?_⟩) (fun hst2 => ?_)
          rotate_left
          · (intro w hSw; (try dsimp only at hSw); go_simp; try (with_reducible rfl))
          clear hst; have hst := hst2; clear hst2
          try simp only [Act.put, List.setIfInBounds_toArray, List.set_cons_zero, List.set_cons_succ]
          refine wpAnyG_take (i := 11) (v := ?_) rfl (by kernel_rfl) hst (by kernel_rfl) (by kernel_rfl) (fun _ _ _ h => h) hSS (Or.inl ⟨by rfl, ?_⟩) (fun hst2 => ?_)
          rotate_left
          · (intro w hSw; (try dsimp only at hSw); go_simp; try (with_reducible rfl))
          clear hst; have hst := hst2; clear hst2
          try simp only [Act.put, List.setIfInBounds_toArray, List.set_cons_zero, List.set_cons_succ]
          refine wpAnyG_take (i := 12) (v := ?_) rfl (by kernel_rfl) hst (by kernel_rfl) (by kernel_rfl) (fun _ _ _ h => h) hSS (Or.inl ⟨by rfl, ?_⟩) (fun hst2 => ?_)
          rotate_left
          · (intro w hSw; (try dsimp only at hSw); go_simp; try (with_reducible rfl))
          clear hst; have hst := hst2; clear hst2
          try simp only [Act.put, List.setIfInBounds_toArray, List.set_cons_zero, List.set_cons_succ]
          refine wpAnyG_take (i := 13) (v := ?_) rfl (by kernel_rfl) hst (by kernel_rfl) (by kernel_rfl) (fun _ _ _ h => h) hSS (Or.inl ⟨by rfl, ?_⟩) (fun hst2 => ?_)
          rotate_left
          · (intro w hSw; (try dsimp only at hSw); go_simp; try (with_reducible rfl))
          clear hst; have hst := hst2; clear hst2
          try simp only [Act.put, List.setIfInBounds_toArray, List.set_cons_zero, List.set_cons_succ]
          clear hst hSS
          refine wpAnyG_last (i := 14) (by kernel_rfl) rfl (by kernel_rfl) (by kernel_rfl) (fun K hK => ?_)
          go_simp
          refine hK.out _ _ ?_
          have hEb : (sendE frm to_ body.length == 0) = false := by simp [hE]
          have HO9 := Lib.hid ho8
          generalize sendE frm to_ body.length = q at hEb ⊢
          clear hK K hbx8 hown8 hr8 hb8 hb8' ho8 hl8 hown0 hrd0 hA0 hbA hE
          go_wp2
          go_roundw
          case rel => exact ⟨k + 1, S, es, sent, ss, ov, by go_num, by omega, HM.out.step, HO9.out⟩
          case measure => simp [intOf]; omega
      · cases hp : pick es num with
        | none =>
          have HP := Lib.hid hp
          clear hp
          go_wp2_with fail
          refine (deliverNo_any HO.out.nt num HNB.out HP.out).mono ?_
          rintro e w4 ⟨rfl, hb4⟩
          simp only [zeroL]
          have HO5 := Lib.hid ((HO.out.go hb4).go (newL_below w4))
          clear hb4 c0 c1 c2 c3 c4
          go_upto_region 22 with fail
          change Code.wp _ _ _ _ (newL w4)
          generalize newL w4 = w5 at HO5 ⊢
          go_wp2
          go_roundw
          case rel => exact ⟨k + 1, S, es, sent, ss, ov, by go_num, by omega, HM.out.step, HO5.out⟩
          case measure => simp [intOf]; omega
        | some p =>
          have HP := Lib.hid hp
          clear hp
          go_wp2_with fail
          refine (deliver_any HO.out.nt num HNB.out HP.out).mono ?_
          rintro e w4 ⟨kk, rfl, hn4, ho4, hbd4⟩
          obtain ⟨_, _, hmem, hpn⟩ := hit_some HP.out
          have HPN := Lib.hid hpn
          have HMEM := Lib.hid hmem
          have HOK := Lib.hid (HO.out.nt.ok.len p.1 (List.mem_map_of_mem hmem))
          obtain ⟨hon4, ht4⟩ := HO.out.turn2 hn4 ho4
          have hbx4 := HBX.out.outs ht4.outs HNS.out HLB.out
          have hl4 : g < w4.heap.size := Nat.lt_of_lt_of_le HLB.out ht4.outs.size
          have hbl : Below w4.heap.size w4 (w4.alloc (.cells #[.int .u64 p.1.num, .int .u64 p.1.first, .int .i64 p.1.frm, .int .i64 p.1.to_, .slice kk.1 p.1.body.length kk.2] 32)) := (Below.refl _ _).alloc (Nat.le_refl _) _
          have HO5 := Lib.hid (hon4.go hbl)
          have HBX5 := Lib.hid (hbx4.below hbl hl4)
          have HWX := Lib.hid (Whole.new w4 32 #[.int .u64 p.1.num, .int .u64 p.1.first, .int .i64 p.1.frm, .int .i64 p.1.to_, .slice kk.1 p.1.body.length kk.2])
          have HRK := Lib.hid ((hbd4.rds.below hbl).more hbl.size)
          simp only [val]
          clear hpn hmem hn4 ho4 hbd4 hon4 ht4 hbx4 hl4 hbl c0 c1 c2 c3 c4
          go_upto_region 22 with fail
          generalize (w4.alloc (.cells #[.int .u64 p.1.num, .int .u64 p.1.first, .int .i64 p.1.frm, .int .i64 p.1.to_, .slice kk.1 p.1.body.length kk.2] 32)) = w5 at HO5 HBX5 HWX HRK ⊢
          generalize w4.heap.size = x at HWX ⊢
          obtain ⟨d0, d1, d2, d3, d4⟩ := cells5 HWX.out
          obtain ⟨_, _, _, _, c4⟩ := HBX5.out
          obtain ⟨A5, k5, he5, hr5⟩ := row_slice HO5.out.row5
          obtain ⟨A4, k4, he4, hrdl⟩ := HO5.out.rdl
          subst he5 he4
          have HG := Lib.hid (HM.out.gone HP.out)
          have HMG := Lib.hid HG.out.1
          have hlov0 := HM.out.lov
          have hlss0 := HM.out.lss
          have ci := in_any A5 ov ov.length k5 w5.heap.size num w5 rfl (by omega) hr5
          rw [decide_eq_false HG.out.2] at ci
          have cw := was_yes A4 ss ss.length k4 p.1 kk w5 rfl (by omega) hrdl HRK.out (Nat.le_trans HOK.out (by decide)) (HM.out.src p HMEM.out) (HM.out.same p HMEM.out)
          simp only [val] at cw
          have CI := Lib.hid ci
          have CW := Lib.hid cw
          have hne : (p.1.num != num) = false := by rw [HPN.out]; simp
          clear ci cw hr5 hrdl hlov0 hlss0
          go_wp2_with fail
          refine CI.out.mono ?_
          rintro e w6 ⟨rfl, hw6⟩
          rw [hw6]
          clear hw6 w6
          go_wp2_with fail
          refine CW.out.mono ?_
          rintro e w6 ⟨rfl, hb6⟩
          have HO6 := Lib.hid (HO5.out.go hb6)
          have hbx6 := HBX5.out.below hb6 (Nat.lt_of_lt_of_le (World.block_lt_of_cell? _ _ c4) (Nat.le_refl _))
          clear hb6 c4 d0 d1 d2 d3 d4
          obtain ⟨_, _, _, _, c4⟩ := hbx6
          have hrow9 := HO6.out.row5
          have hsz9 := HO6.out.below.size
          have hlov := HM.out.lov
          go_wp2_with (at_builtin; refine wpList_append_own_at _ rfl _ _ 36 rfl w.heap.size 25 iu (.int .u64 0) 1 8 Try.underlying36 hiu hu0 hu1 hu2 rfl (by decide) _ ov.length (cU ov) rfl (hrow9.alloc _) ⟨w6.heap.size, 0, none⟩ 1 1 [.int .u64 num] rfl rfl (cell_one_new _ _ _) (by simp [Value.oneCell']) (by unfold maxLen; omega) (by omega) (by simp; omega) ?_; intro v5' w5' hrow5 hg5 _ hat5; go_frame)
          go_roundw
          case rel => exact ⟨k + 1, S, drop es num, sent, ss, ov ++ [num], by go_num, by omega, HMG.out, HO6.out.push5 hrow5 hg5 hat5⟩
          case measure => simp [intOf]; omega
      · cases hp : pick es num with
        | none =>
          have HP := Lib.hid hp
          clear hp
          go_wp2_with fail
          refine (loseNo_any HO.out.nt num HNB.out HP.out).mono ?_
          rintro e w4 ⟨rfl, hb4⟩
          have HO5 := Lib.hid (HO.out.go hb4)
          clear hb4 c0 c1 c2 c3 c4
          go_wp2
          go_roundw
          case rel => exact ⟨k + 1, S, es, sent, ss, ov, by go_num, by omega, HM.out.step, HO5.out⟩
          case measure => simp [intOf]; omega
        | some p =>
          have HP := Lib.hid hp
          clear hp
          go_wp2_with fail
          refine (lose_any HO.out.nt num HNB.out HP.out).mono ?_
          rintro e w5 ⟨rfl, hn4, ho4⟩
          obtain ⟨hon4, ht4⟩ := HO.out.turn2 hn4 ho4
          have HO5 := Lib.hid hon4
          have HBX5 := Lib.hid (HBX.out.outs ht4.outs HNS.out HLB.out)
          clear hn4 ho4 hon4 ht4 c0 c1 c2 c3 c4
          obtain ⟨_, _, _, _, c4⟩ := HBX5.out
          obtain ⟨A5, k5, he5, hr5⟩ := row_slice HO5.out.row5
          subst he5
          have HG := Lib.hid (HM.out.gone HP.out)
          have HMG := Lib.hid HG.out.1
          have hlov0 := HM.out.lov
          have ci := in_any A5 ov ov.length k5 w5.heap.size num w5 rfl (by omega) hr5
          rw [decide_eq_false HG.out.2] at ci
          have CI := Lib.hid ci
          clear ci hr5 hlov0
          go_wp2_with fail
          refine CI.out.mono ?_
          rintro e w6 ⟨rfl, hw6⟩
          rw [hw6]
          clear hw6 w6
          have hrow9 := HO5.out.row5
          have hsz9 := HO5.out.below.size
          have hlov := HM.out.lov
          go_wp2_with (at_builtin; refine wpList_append_own_at _ rfl _ _ 36 rfl w.heap.size 25 iu (.int .u64 0) 1 8 Try.underlying36 hiu hu0 hu1 hu2 rfl (by decide) _ ov.length (cU ov) rfl (hrow9.alloc _) ⟨w5.heap.size, 0, none⟩ 1 1 [.int .u64 num] rfl rfl (cell_one_new _ _ _) (by simp [Value.oneCell']) (by unfold maxLen; omega) (by omega) (by simp; omega) ?_; intro v5' w5' hrow5 hg5 _ hat5; go_frame)
          go_roundw
          case rel => exact ⟨k + 1, S, drop es num, sent, ss, ov ++ [num], by go_num, by omega, HMG.out, HO5.out.push5 hrow5 hg5 hat5⟩
          case measure => simp [intOf]; omega
      · cases hp : pick es num with
        | none =>
          have HP := Lib.hid hp
          clear hp
          go_wp2_with fail
          refine (doubleNo_any HO.out.nt num HNB.out HP.out).mono ?_
          rintro e w4 ⟨rfl, hb4⟩
          have HO5 := Lib.hid (HO.out.go hb4)
          clear hb4 c0 c1 c2 c3 c4
          go_wp2
          go_roundw
          case rel => exact ⟨k + 1, S, es, sent, ss, ov, by go_num, by omega, HM.out.step, HO5.out⟩
          case measure => simp [intOf]; omega
        | some p =>
          have hfew := HM.out.few
          have hlen := HM.out.len
          have HP := Lib.hid hp
          clear hp
          go_wp2_with fail
          refine (double_any HO.out.nt num HNB.out HP.out (by omega) (by omega)).mono ?_
          rintro e w4 ⟨rfl, hn4, ho4⟩
          have HO5 := Lib.hid (HO.out.turn2 hn4 ho4).1
          have HMD := Lib.hid (HM.out.doubled (hit_some HP.out).2.2.1)
          clear hn4 ho4 c0 c1 c2 c3 c4
          go_wp2
          go_roundw
          case rel => exact ⟨k + 1, S, _, sent + 1, ss, ov, by go_num, by omega, HMD.out, HO5.out⟩
          case measure => simp [intOf]; omega
      · go_wp2_with fail
        refine (clear_any HO.out.nt to_).mono ?_
        rintro e w4 ⟨rfl, hn4, ho4⟩
        have HO5 := Lib.hid (HO.out.turn2 hn4 ho4).1
        have HMD := Lib.hid (HM.out.filter (fun p => !decide (p.1.to_ = to_)))
        clear hn4 ho4 c0 c1 c2 c3 c4
        go_wp2
        go_roundw
        case rel => exact ⟨k + 1, S, awayN es to_, sent, ss, ov, by go_num, by omega, HMD.out, HO5.out⟩
        case measure => simp [intOf]; omega
    · obtain rfl : k = n := by omega
      have HBW := Lib.hid hon.below
      clear hon hmid
      go_wp2
      go_ret
      exact ⟨rfl, HBW.out⟩

open Go.ChangeShapes Go.WideShapes Go.ChangeAt
set_option maxRecDepth 100000 in
theorem nonce_lifted (os : Os) (started : os.Started) (H : Type) (enc : TypeId × Value → H) :
    ReturnsInHanded {} Try.checked os 6 .any (Rows.netOnceSpec.pre6 enc Try.prog Try.f6 Rows.netOnceRow.domain false) (Rows.netOnceSpec.post enc Try.prog Try.f6 false true false false) := by
  refine returnsInHanded_of_change_sized (C := Try.checked) own started (by kernel_rfl) Try.func6
    (ChangeSpec.witness6 (enc := enc) (C := Try.checked) false ⟨#[], #[.slice none 0 0], []⟩ 8 (by kernel_rfl) (by kernel_rfl) (by kernel_rfl) (by kernel_rfl)) ?_
  intro W base args ds gs before hval0 hW _ hsz0 _
  have hsz : (DataW.weightsEach Try.prog (Try.f6.params.toList ++ Rows.netOnceSpec.plain.varTypes Try.prog) (ds ++ gs)).all (· ≤ reachBytes) = true := hsz0
  have hval : ∀ (j : Nat) t v, Try.f6.params[j]? = some t → args[j]? = some v → Value.okWide Try.prog W .any base t v := hval0
  have hW' := hW
  obtain ⟨p, q, hA0, hV, rfl, _, _⟩ := hW
  have hA : DataW.TrodAll enc Try.prog W 0 (fun _ => true) true Try.f6.params.toList args.toList ds p := hA0
  rw [Try.params6] at hA hval hsz
  obtain ⟨v0, vs0, d0, ds0, p0, q0, hargs, rfl, rfl, h0, r0⟩ := trodAll_cons hA
  obtain ⟨rfl, rfl, rfl⟩ := trodAll_nil r0
  obtain rfl : args = #[v0] := by cases args; simp_all
  obtain ⟨A0, az0, c0, ha0⟩ := open_acts7 (hval 0 39 v0 rfl rfl) h0 (sized_mem hsz (j := 0) (t := 39) rfl rfl)
  obtain rfl := ha0.val
  exact law_close laid rfl hW' (by kernel_rfl) rfl Try.underlying4 rfl (once_walk A0 az0 az0.length c0 W rfl ha0.acts ha0.rds)

theorem netOnce_holds : Rows.NetOnceSaid :=
  OpenClaim.holds_of_wide 6 Try.f6 rfl rfl rfl rfl rfl rfl rfl ⟨rfl, rfl, rfl, rfl, rfl⟩ rfl rfl rfl rfl rfl (by kernel_rfl) Try.func6 (by kernel_rfl)
    (of_decide_eq_true (by kernel_rfl)) (by unfold Func.isWrapper; first | (rw [if_pos (by decide +kernel)]; kernel_rfl) | (rw [if_neg (by decide +kernel)]; exact ⟨rfl, rfl⟩))
    (fun os started H enc _ => nonce_lifted os started H enc)

#print axioms netOnce_holds
end Go.Proofs.Ytnleeffajljodaa
end
