/- An argument that is an act, or a list of acts: what is known of it. -/
import Derived.Test.YtconfkjchjcjgaaKLives
import Derived.Test.YtconfkjchjcjgaaKSums
import Derived.Test.YtconfkjchjcjgaaEnd
import Derived.SizedLaws
namespace Go.Proofs.Ytconfkjchjcjgaa
open Go.RowKit Go.ChangeShapes Go.WideShapes Go.ChangeAt
set_option linter.unusedVariables false

theorem cellsOf_act8 : Try.prog.cellsOf 50 = 3 := by kernel_rfl
theorem cellsOf_str8 : Try.prog.cellsOf 9 = 1 := by kernel_rfl
theorem cellsOf_row8 : Try.prog.cellsOf 61 = 1 := by kernel_rfl
theorem bytesOf_str8 : Try.prog.bytesOf 9 = 16 := by kernel_rfl
theorem cellsN : Try.prog.cellsOf 3 = 1 := by kernel_rfl
theorem bytesN : Try.prog.bytesOf 3 = 8 := by kernel_rfl
theorem cellsOf_int8 : Try.prog.cellsOf 3 = 1 := by kernel_rfl

section
variable {H : Type} {enc : TypeId × Value → H}

/-- an act, as it came in -/
structure Ac8 where
  kd : Int
  nm : ByteArray
  n : Int
def ac8Cells (a : Ac8) : Array Value := #[.int .i64 a.kd, .string a.nm, .int .i64 a.n]
structure ActIn8 (a : Ac8) : Prop where
  kd : -9223372036854775808 ≤ a.kd ∧ a.kd ≤ 9223372036854775807
  nm : a.nm.size ≤ 140737488351232
  n : -9223372036854775808 ≤ a.n ∧ a.n ≤ 9223372036854775807
theorem trod_struct3 {t : TypeId} {f0 f1 f2 : Field} {P : Program} {w : World} {base : Nat} {spare : Nat → Bool} {held : Bool} {fuel : Nat} {cs : List Value} {x : DataW H × List MemPlace} (ht : P.underlying t = some (.struct #[f0, f1, f2])) (h : DataW.trod enc P w base spare held fuel t cs = some x) :
    ∃ y0 y1 y2 n, x.1 = .agg [y0.1, y1.1, y2.1] ∧ cs.length = P.cellsOf t ∧ DataW.trod enc P w base spare held n f0.type ((cs.drop f0.offset).take (P.cellsOf f0.type)) = some y0 ∧
      DataW.trod enc P w base spare held n f1.type ((cs.drop f1.offset).take (P.cellsOf f1.type)) = some y1 ∧ DataW.trod enc P w base spare held n f2.type ((cs.drop f2.offset).take (P.cellsOf f2.type)) = some y2 := by
  obtain ⟨xs, n, _, rfl, hl, hlen, hf⟩ := DataW.trod_struct ht h
  match xs, hlen with
  | [y0, y1, y2], _ => exact ⟨y0, y1, y2, n, by simp, hl, by simpa using hf 0 f0 rfl, by simpa using hf 1 f1 rfl, by simpa using hf 2 f2 rfl⟩
theorem three {cs : List Value} (h : cs.length = 3) : ∃ u0 u1 u2, cs = [u0, u1, u2] := by
  match cs, h with
  | [u0, u1, u2], _ => exact ⟨_, _, _, rfl⟩
theorem act_of {W : World} {fuel : Nat} {cs : List Value} {y : DataW H × List MemPlace} (hy : DataW.trod enc Try.prog W 0 (fun _ => true) true fuel 50 cs = some y) (hw : ∀ n ∈ y.1.weights Try.prog 50, n ≤ reachBytes) :
    ∃ r : Ac8, cs = (ac8Cells r).toList ∧ ActIn8 r := by
  obtain ⟨y0, y1, y2, n, hy1, hl, h0, h1, h2⟩ := trod_struct3 Try.underlying50 hy
  rw [cellsOf_act8] at hl
  have hwt : ∀ {t : TypeId} {z : DataW H} {j : Nat}, ([3, 9, 3] : List TypeId)[j]? = some t → ([y0.1, y1.1, y2.1])[j]? = some z → ∀ n ∈ z.weights Try.prog t, n ≤ reachBytes := fun ht hz n hn => by
    refine hw n ?_
    rw [hy1]
    have := DataW.weights_mem_each ht hz n hn
    simpa [DataW.weights, Try.underlying50] using this
  simp only [cellsOf_int8, cellsOf_str8] at h0 h1 h2
  obtain ⟨u0, u1, u2, rfl⟩ := three hl
  obtain ⟨kd, hk, _, hkw⟩ := DataW.trod_int Try.underlying3 h0
  obtain ⟨s, hs, hsx, _⟩ := DataW.trod_string Try.underlying9 h1
  obtain ⟨i, hi, _, hiw⟩ := DataW.trod_int Try.underlying3 h2
  obtain rfl : u0 = .int .i64 kd := by simpa using hk
  obtain rfl : u1 = .string s := by simpa using hs
  obtain rfl : u2 = .int .i64 i := by simpa using hi
  have hsz := hwt (j := 1) (t := 9) rfl rfl s.data.toList.length (by rw [show y1.1 = _ from congrArg Prod.fst hsx]; simp [DataW.weights])
  refine ⟨⟨kd, s, i⟩, rfl, ⟨bounds_i64 hkw, ?_, bounds_i64 hiw⟩⟩
  have e : s.size = s.data.toList.length := by simp
  show s.size ≤ _
  rw [e]
  exact Nat.le_trans hsz (by unfold reachBytes; decide)
set_option maxRecDepth 100000 in
/-- an argument that is one act -/
theorem open_act8 {W : World} {v : Value} {d : DataW H} {ps : List MemPlace} {base : Nat} (hval : Value.okWide Try.prog W .any base 50 v) (h : DataW.Trod enc Try.prog W 0 (fun _ => true) true 50 v d ps)
    (hw : ∀ n ∈ d.weights Try.prog 50, n ≤ reachBytes) : ∃ r : Ac8, v = .agg (ac8Cells r) ∧ ActIn8 r := by
  obtain ⟨cs, rfl, hs⟩ := okWide_struct Try.underlying50 hval
  obtain ⟨fuel, hf⟩ := h
  obtain ⟨r, hr, hin⟩ := act_of (y := (d, ps)) hf hw
  refine ⟨r, ?_, hin⟩
  congr 1
  exact Array.toList_inj.1 (by simpa [Value.cells] using hr)
theorem act_read {W : World} {fuel : Nat} {a : Addr} {y : DataW H × List MemPlace} (h : (W.cells? 0 a 3).bind (DataW.trod enc Try.prog W 0 (fun _ => true) true fuel 50) = some y) (hw : ∀ n ∈ y.1.weights Try.prog 50, n ≤ reachBytes) :
    ∃ r : Ac8, (∀ j, j < 3 → W.cell? (a.add j) = (ac8Cells r)[j]?) ∧ ActIn8 r := by
  obtain ⟨cs, hcs, hy⟩ := Option.bind_eq_some_iff.1 h
  obtain ⟨_, hlen, hc⟩ := World.cells?_some hcs
  obtain ⟨r, rfl, hr⟩ := act_of hy hw
  refine ⟨r, fun j hj => ?_, hr⟩
  rw [hc j (by simpa [ac8Cells] using hj)]
  simp
/-- the cells that acts take -/
def c8A (az : List Ac8) : List Value := az.flatMap (fun a => (ac8Cells a).toList)
theorem c8A_length (az : List Ac8) : (c8A az).length = az.length * 3 := by
  induction az with
  | nil => rfl
  | cons a az ih =>
    have e : c8A (a :: az) = (ac8Cells a).toList ++ c8A az := rfl
    rw [e, List.length_append, ih, List.length_cons]
    simp [ac8Cells]
    omega
theorem c8A_get {az : List Ac8} {i r : Nat} (hi : i < az.length) (hr : r < 3) : (c8A az)[i * 3 + r]? = (ac8Cells az[i])[r]? := by
  induction az generalizing i with
  | nil => simp at hi
  | cons a az ih =>
    have e : c8A (a :: az) = (ac8Cells a).toList ++ c8A az := rfl
    have hl : (ac8Cells a).toList.length = 3 := rfl
    cases i with
    | zero =>
      rw [e, List.getElem?_append_left (by rw [hl]; omega)]
      simp
    | succ i =>
      rw [e, List.getElem?_append_right (by rw [hl]; omega), hl, show (i + 1) * 3 + r - 3 = i * 3 + r by omega, ih (by simpa using hi)]
      simp

theorem sized_mem {ts : List TypeId} {ds : List (DataW H)} (h : (DataW.weightsEach Try.prog ts ds).all (· ≤ reachBytes) = true) {j : Nat} {t : TypeId} {d : DataW H} (ht : ts[j]? = some t) (hd : ds[j]? = some d) : ∀ n ∈ d.weights Try.prog t, n ≤ reachBytes := fun n hn => by
  have := List.all_eq_true.1 h n (DataW.weights_mem_each ht hd n hn)
  simpa using this
theorem weights_elem {t e : TypeId} {elems spare : List (DataW H)} (ht : Try.prog.underlying t = some (.slice e)) {d : DataW H} (hd : d ∈ elems) (hw : ∀ n ∈ (DataW.slice elems spare).weights Try.prog t, n ≤ reachBytes) : ∀ n ∈ d.weights Try.prog e, n ≤ reachBytes := by
  intro n hn
  refine hw n ?_
  have key : ∀ l : List (DataW H), d ∈ l → n ∈ DataW.weightsAll Try.prog e l := by
    intro l
    induction l with
    | nil => intro h; cases h
    | cons x l ih =>
      intro h
      simp only [DataW.weightsAll, List.mem_append]
      rcases List.mem_cons.1 h with rfl | h
      · exact .inl hn
      · exact .inr (ih h)
  simp only [DataW.weights, ht, List.mem_cons, List.mem_append]
  exact .inr (.inl (key _ hd))
theorem weights_len {t e : TypeId} {elems spare : List (DataW H)} (ht : Try.prog.underlying t = some (.slice e)) (hw : ∀ n ∈ (DataW.slice elems spare).weights Try.prog t, n ≤ reachBytes) : (elems.length + spare.length) * Try.prog.bytesOf e ≤ reachBytes := by
  refine hw _ ?_
  simp [DataW.weights, ht]

set_option maxRecDepth 100000 in
/-- any list of things that are read one by one -/
theorem open_list {α : Type} {t e : TypeId} {k : Nat} (ht : Try.prog.underlying t = some (.slice e)) (hk : Try.prog.cellsOf e = k) (hk0 : 0 < k) {W : World} {v : Value} {d : DataW H} {ps : List MemPlace} {base : Nat}
    (hval : Value.okWide Try.prog W .any base t v) (h : DataW.Trod enc Try.prog W 0 (fun _ => true) true t v d ps) (hw : ∀ n ∈ d.weights Try.prog t, n ≤ reachBytes) (dummy : α) (cellsA : α → Array Value) (hcl : ∀ a, (cellsA a).size = k) (In : α → Prop)
    (read : ∀ (fuel : Nat) (a : Addr) (y : DataW H × List MemPlace), (W.cells? 0 a k).bind (DataW.trod enc Try.prog W 0 (fun _ => true) true fuel e) = some y → (∀ n ∈ y.1.weights Try.prog e, n ≤ reachBytes) → ∃ r : α, (∀ j, j < k → W.cell? (a.add j) = (cellsA r)[j]?) ∧ In r) :
    ∃ (A : Option Addr) (az : List α) (c : Nat), v = .slice A az.length c ∧ az.length ≤ c ∧ c ≤ maxLen ∧ (∀ a ∈ az, In a) ∧ Rds W W.heap.size A (az.flatMap fun a => (cellsA a).toList) ∧ az.length * Try.prog.bytesOf e ≤ reachBytes := by
  obtain ⟨a0, len, cap, rfl⟩ := okWide_slice ht hval
  obtain ⟨fuel, hf⟩ := h
  rcases DataW.trod_slice ht hf with ⟨h1, _⟩ | ⟨a, len', cap', elems, rest, n, _, h1, hx, _, hle, hmax, hlen, hel, _⟩
  · have h1' : Value.slice a0 len cap = .slice none 0 0 := by simpa [Value.cells] using h1
    injection h1' with e1 e2 e3
    subst e1 e2 e3
    exact ⟨none, [], 0, rfl, Nat.le_refl _, Nat.zero_le _, (fun r hr => by cases hr), Rds.nil_, by simp⟩
  · have h1' : Value.slice a0 len cap = .slice (some a) len' cap' := by simpa [Value.cells] using h1
    injection h1' with e1 e2 e3
    subst e1 e2 e3
    rw [hk] at hel
    have hd : d = .slice (elems.map (·.1)) (rest.map (·.1)) := congrArg Prod.fst hx
    subst hd
    have each : ∀ i, ∃ r : α, i < len → (∀ j, j < k → W.cell? ((a.add (i * k)).add j) = (cellsA r)[j]?) ∧ In r := by
      intro i
      by_cases hi : i < len
      · have he := hel i hi
        rw [List.getElem?_eq_getElem (by omega)] at he
        obtain ⟨r, hr⟩ := read _ _ _ he (weights_elem ht (List.mem_map.2 ⟨_, List.getElem_mem (show i < elems.length by omega), rfl⟩) hw)
        exact ⟨r, fun _ => hr⟩
      · exact ⟨dummy, fun h => absurd h hi⟩
    obtain ⟨fr, hfr⟩ := Classical.axiomOfChoice each
    have hrl : ((List.range len).map fr).length = len := by simp
    have hwl := weights_len ht hw
    rw [List.length_map, List.length_map] at hwl
    refine ⟨some a, (List.range len).map fr, cap, by rw [hrl], by rw [hrl]; exact hle, hmax, ?_, ?_, ?_⟩
    · intro r hr
      obtain ⟨i, hi, rfl⟩ := List.mem_map.1 hr
      exact (hfr i (List.mem_range.1 hi)).2
    · intro hne
      have hget : ∀ m, m ≤ len → ∀ i r, i < m → r < k → (((List.range m).map fr).flatMap fun a => (cellsA a).toList)[i * k + r]? = (cellsA (fr i))[r]? := by
        intro m
        induction m with
        | zero => intro _ i r hi; omega
        | succ m ih =>
          intro hm i r hi hr
          have hl : (((List.range m).map fr).flatMap fun a => (cellsA a).toList).length = m * k := by
            clear ih hi hm
            induction m with
            | zero => simp
            | succ m ih => rw [List.range_succ, List.map_append, List.flatMap_append, List.length_append, ih, Nat.succ_mul]; simp [hcl]
          rw [List.range_succ, List.map_append, List.flatMap_append]
          by_cases him : i < m
          · have hlt : i * k + r < m * k := by
              have := Nat.mul_le_mul_right k (show i + 1 ≤ m by omega)
              rw [Nat.succ_mul] at this
              omega
            rw [List.getElem?_append_left (by rw [hl]; exact hlt)]
            exact ih (by omega) i r him hr
          · obtain rfl : i = m := by omega
            rw [List.getElem?_append_right (by rw [hl]; omega), hl, show i * k + r - i * k = r by omega]
            simp
      have hL : (((List.range len).map fr).flatMap fun a => (cellsA a).toList).length = len * k := by
        have key : ∀ m, (((List.range m).map fr).flatMap fun a => (cellsA a).toList).length = m * k := by
          intro m
          induction m with
          | zero => simp
          | succ m ih => rw [List.range_succ, List.map_append, List.flatMap_append, List.length_append, ih, Nat.succ_mul]; simp [hcl]
        exact key len
      have hcells : ∀ j u, (((List.range len).map fr).flatMap fun a => (cellsA a).toList)[j]? = some u → W.cell? (a.add j) = some u := by
        intro j u hu
        have hj : j < len * k := by
          have := (List.getElem?_eq_some_iff.1 hu).1
          rwa [hL] at this
        have hi : j / k < len := (Nat.div_lt_iff_lt_mul hk0).2 hj
        have hr : j % k < k := Nat.mod_lt _ hk0
        have e : j = j / k * k + j % k := (Nat.div_add_mod' j k).symm
        rw [e, hget len (Nat.le_refl _) _ _ hi hr] at hu
        rw [e, ← add_twice, (hfr _ hi).1 _ hr]
        exact hu
      have hpos : 0 < (((List.range len).map fr).flatMap fun a => (cellsA a).toList).length := by
        rcases Nat.eq_zero_or_pos (((List.range len).map fr).flatMap fun a => (cellsA a).toList).length with h0 | h0
        · exact absurd (List.eq_nil_of_length_eq_zero h0) hne
        · exact h0
      refine ⟨a, rfl, ?_, hcells⟩
      have := World.block_lt_of_cell? W _ (hcells 0 _ (List.getElem?_eq_getElem hpos))
      rwa [blk_add] at this
    · rw [hrl]
      refine Nat.le_trans (Nat.mul_le_mul_right _ ?_) hwl
      omega

structure ActsArg8 (W : World) (v : Value) (A : Option Addr) (az : List Ac8) (c : Nat) : Prop where
  val : v = .slice A az.length c
  len : az.length ≤ 9223372036854775807
  acts : ∀ a ∈ az, ActIn8 a
  rds : Rds W W.heap.size A (c8A az)
set_option maxRecDepth 100000 in
theorem open_acts8 {W : World} {v : Value} {d : DataW H} {ps : List MemPlace} {base : Nat} (hval : Value.okWide Try.prog W .any base 44 v) (h : DataW.Trod enc Try.prog W 0 (fun _ => true) true 44 v d ps)
    (hw : ∀ n ∈ d.weights Try.prog 44, n ≤ reachBytes) : ∃ A az c, ActsArg8 W v A az c := by
  obtain ⟨A, az, c, h1, h2, h3, h4, h5, _⟩ := open_list (k := 3) Try.underlying44 cellsOf_act8 (by decide) hval h hw (⟨0, ⟨#[]⟩, 0⟩ : Ac8) ac8Cells (fun _ => rfl) ActIn8 (fun _ _ _ q hq => act_read q hq)
  exact ⟨A, az, c, h1, by unfold maxLen at h3; omega, h4, h5⟩

/-- the cells that texts take -/
def cZ (ss : List ByteArray) : List Value := ss.map Value.string
theorem cZ_get {ss : List ByteArray} {j : Nat} (h : j < ss.length) : (cZ ss)[j]? = some (.string ss[j]) := by simp [cZ, h]
structure TextsArg (W : World) (v : Value) (A : Option Addr) (ss : List ByteArray) (c : Nat) : Prop where
  val : v = .slice A ss.length c
  len : ss.length ≤ 9223372036854775807
  size : ∀ s ∈ ss, s.size ≤ 140737488351232
  rds : Rds W W.heap.size A (cZ ss)
set_option maxRecDepth 100000 in
theorem open_texts {W : World} {v : Value} {d : DataW H} {ps : List MemPlace} {base : Nat} (hval : Value.okWide Try.prog W .any base 33 v) (h : DataW.Trod enc Try.prog W 0 (fun _ => true) true 33 v d ps)
    (hw : ∀ n ∈ d.weights Try.prog 33, n ≤ reachBytes) : ∃ A ss c, TextsArg W v A ss c := by
  obtain ⟨A, az, c, h1, h2, h3, h4, h5, h6⟩ := open_list (k := 1) Try.underlying33 cellsOf_str8 (by decide) hval h hw (⟨#[]⟩ : ByteArray) (fun s => #[.string s]) (fun _ => rfl) (fun s => s.size ≤ 140737488351232) (fun fuel a y q hq => by
    obtain ⟨cs, hcs, hy⟩ := Option.bind_eq_some_iff.1 q
    obtain ⟨_, hlen, hc⟩ := World.cells?_some hcs
    obtain ⟨s, hs, hsx, _⟩ := DataW.trod_string Try.underlying9 hy
    subst hs
    refine ⟨s, fun j hj => ?_, ?_⟩
    · rw [hc j (by simpa using hj)]
      simp
    · have hsz := hq s.data.toList.length (by rw [show y.1 = _ from congrArg Prod.fst hsx]; simp [DataW.weights])
      have e : s.size = s.data.toList.length := by simp
      rw [e]
      exact Nat.le_trans hsz (by unfold reachBytes; decide))
  refine ⟨A, az, c, h1, by unfold maxLen at h3; omega, h4, ?_⟩
  have e : (az.flatMap fun s => (#[Value.string s] : Array Value).toList) = cZ az := by
    unfold cZ
    clear h1 h2 h4 h5 h6
    induction az with
    | nil => rfl
    | cons x az ih =>
      rw [List.flatMap_cons, ih, List.map_cons]
      rfl
  rw [e] at h5
  exact h5

/-- an argument that is a course -/
structure CourseArg (W : World) (v : Value) (A : Option Addr) (rs : List Ro) (c : Nat) : Prop where
  val : v = .slice A rs.length c
  len : rs.length ≤ 140737488351232
  course : Course W W.heap.size A rs
set_option maxRecDepth 100000 in
theorem open_course {W : World} {v : Value} {d : DataW H} {ps : List MemPlace} {base : Nat} (hval : Value.okWide Try.prog W .any base 28 v) (h : DataW.Trod enc Try.prog W 0 (fun _ => true) true 28 v d ps)
    (hw : ∀ n ∈ d.weights Try.prog 28, n ≤ reachBytes) : ∃ A rs c, CourseArg W v A rs c := by
  obtain ⟨A, az, c, h1, h2, h3, h4, h5, h6⟩ := open_list (k := 1) Try.underlying28 cellsOf_row8 (by decide) hval h hw (⟨none, [], 0⟩ : Ro) (fun r => #[r.v]) (fun _ => rfl) (fun r => Rds W W.heap.size r.A (cI r.xs) ∧ I64 r.xs ∧ r.xs.length ≤ 140737488351232 ∧ (r.A = none → r.c = 0)) (fun fuel a y q hq => by
    obtain ⟨cs, hcs, hy⟩ := Option.bind_eq_some_iff.1 q
    obtain ⟨_, hlen, hc⟩ := World.cells?_some hcs
    rcases open_ints Try.underlying61 Try.underlying3 cellsN hy with ⟨k1, k2⟩ | ⟨a', len', cap', zs, k1, _, hle, hmax, hlen', k2, hcell, hwf⟩
    · subst k1
      refine ⟨⟨none, [], 0⟩, fun j hj => ?_, Rds.nil_, fun z hz => (by cases hz), Nat.zero_le _, fun _ => rfl⟩
      rw [hc j (by simpa using hj)]
      simp [Ro.v]
    · subst k1
      simp only [if_true] at hlen'
      have hl : (zs.take len').length = len' := by rw [List.length_take]; omega
      refine ⟨⟨some a', zs.take len', cap'⟩, fun j hj => ?_, ?_, fun z hz => bounds_i64 (hwf z (List.mem_of_mem_take hz)), ?_, fun e => (by cases e)⟩
      · rw [hc j (by simpa using hj)]
        simp [Ro.v, hl]
      · intro hne
        have hcells : ∀ j u, (cI (zs.take len'))[j]? = some u → W.cell? (a'.add j) = some u := by
          intro j u hu
          have hj : j < (zs.take len').length := by
            have := (List.getElem?_eq_some_iff.1 hu).1
            simpa [cI] using this
          rw [cI_get hj] at hu
          have hu' := Option.some.inj hu
          subst hu'
          rw [hcell j (by omega)]
          simp [List.getD, show j < zs.length by omega]
        have hpos : 0 < (zs.take len').length := by
          rcases Nat.eq_zero_or_pos (zs.take len').length with h0 | h0
          · exact absurd (by show cI (zs.take len') = []; rw [List.eq_nil_of_length_eq_zero h0]; rfl) hne
          · exact h0
        refine ⟨a', rfl, ?_, hcells⟩
        have := World.block_lt_of_cell? W _ (hcells 0 _ (cI_get hpos))
        rwa [blk_add] at this
      · have hwt : y.1 = _ := congrArg Prod.fst k2
        have := hq (((lits (H := H) .i64 (zs.take len')).length + (lits (H := H) .i64 (zs.drop len')).length) * Try.prog.bytesOf 3) (by rw [hwt]; simp [DataW.weights, Try.underlying61])
        rw [bytesN] at this
        show (zs.take len').length ≤ _
        simp only [lits, List.length_map, reachBytes] at this
        omega)
  have e : (az.flatMap fun r => (#[r.v] : Array Value).toList) = az.map Ro.v := by
    clear h1 h2 h4 h5 h6
    induction az with
    | nil => rfl
    | cons x az ih =>
      rw [List.flatMap_cons, ih, List.map_cons]
      rfl
  rw [e] at h5
  have hb : 1 ≤ Try.prog.bytesOf 61 := by decide +kernel
  have hl : az.length ≤ 140737488351232 := by
    have := Nat.le_mul_of_pos_right az.length (show 0 < Try.prog.bytesOf 61 from hb)
    unfold reachBytes at h6
    omega
  exact ⟨A, az, c, h1, hl, ⟨h5, fun r hr => (h4 r hr).1, fun r hr => (h4 r hr).2.1, fun r hr => (h4 r hr).2.2.1, fun r hr => (h4 r hr).2.2.2⟩⟩
end
end Go.Proofs.Ytconfkjchjcjgaa
