/- An argument that is a list of acts: what is known of it. -/
import Derived.Test.YtnpomiidkdnebaaDAct
import Derived.Test.YtnpomiidkdnebaaEnd
import Derived.SizedLaws
namespace Go.Proofs.Ytnpomiidkdnebaa
open Go.RowKit Go.ChangeShapes Go.WideShapes Go.ChangeAt
set_option linter.unusedVariables false

theorem cellsOf_act : Try.prog.cellsOf 48 = 6 := by kernel_rfl
theorem cellsOf_bytes : Try.prog.cellsOf 29 = 1 := by kernel_rfl
theorem cellsOf_nums : Try.prog.cellsOf 31 = 1 := by kernel_rfl
theorem cellsOf_int : Try.prog.cellsOf 3 = 1 := by kernel_rfl
theorem cellsOf_text : Try.prog.cellsOf 9 = 1 := by kernel_rfl
theorem bytesOf_int : Try.prog.bytesOf 3 = 8 := by kernel_rfl

section
variable {H : Type} {enc : TypeId × Value → H}

theorem ints_in {t e : TypeId} {k : IntKind} {W : World} {fuel : Nat} {u : Value} {y : DataW H × List MemPlace} (ht : Try.prog.underlying t = some (.slice e)) (he : Try.prog.underlying e = some (.int k)) (hc : Try.prog.cellsOf e = 1)
    (h : DataW.trod enc Try.prog W 0 (fun _ => true) true fuel t [u] = some y) (hw : ∀ n ∈ y.1.weights Try.prog t, n ≤ reachBytes) :
    ∃ (A : Option Addr) (zs : List Int) (c : Nat), u = .slice A zs.length c ∧ zs.length ≤ c ∧ (A = none → c = 0) ∧ zs.length * Try.prog.bytesOf e ≤ reachBytes ∧ (∀ z ∈ zs, (Lit.int k z).wf = true) ∧ Rds W W.heap.size A (zs.map (Value.int k)) := by
  rcases open_ints ht he hc h with ⟨h1, h2⟩ | ⟨a, len', cap', zs, h1, _, hle, hmax, hlen, h2, hcell, hwf⟩
  · obtain rfl : u = .slice none 0 0 := by simpa using h1
    exact ⟨none, [], 0, rfl, Nat.le_refl _, fun _ => rfl, by simp, (fun z hz => by cases hz), Rds.none_⟩
  · obtain rfl : u = .slice (some a) len' cap' := by simpa using h1
    simp only [if_true] at hlen
    have hl : (zs.take len').length = len' := by rw [List.length_take]; omega
    refine ⟨some a, zs.take len', cap', by rw [hl], by rw [hl]; exact hle, (fun h => by cases h), ?_, (fun z hz => hwf z (List.mem_of_mem_take hz)), ?_⟩
    · have hy : y.1 = .slice (lits k (zs.take len')) (lits k (zs.drop len')) := congrArg Prod.fst h2
      have := hw (((lits (H := H) k (zs.take len')).length + (lits (H := H) k (zs.drop len')).length) * Try.prog.bytesOf e) (by rw [hy]; simp [DataW.weights, ht])
      refine Nat.le_trans (Nat.mul_le_mul_right _ ?_) this
      simp [lits]
    · intro hne
      have hcells : ∀ j u, ((zs.take len').map (Value.int k))[j]? = some u → W.cell? (a.add j) = some u := by
        intro j u hu
        have hj : j < (zs.take len').length := by
          have := (List.getElem?_eq_some_iff.1 hu).1
          simpa using this
        rw [List.getElem?_map, List.getElem?_eq_getElem hj] at hu
        have hu' := Option.some.inj hu
        subst hu'
        rw [hcell j (by omega)]
        simp [List.getD, show j < zs.length by omega]
      have hpos : 0 < (zs.take len').length := by
        rcases Nat.eq_zero_or_pos (zs.take len').length with h0 | h0
        · exact absurd (by rw [List.eq_nil_of_length_eq_zero h0]; rfl) hne
        · exact h0
      refine ⟨a, rfl, ?_, hcells⟩
      have := World.block_lt_of_cell? W _ (hcells 0 _ (by rw [List.getElem?_map, List.getElem?_eq_getElem hpos]; rfl))
      rwa [blk_add] at this

/-- what is known of an act that came in -/
structure ActIn (W : World) (a : Ac) : Prop where
  ok : AcOk (fun _ => False) W a
  byt : Byt a.b

theorem trod_struct6 {t : TypeId} {f0 f1 f2 f3 f4 f5 : Field} {P : Program} {w : World} {base : Nat} {spare : Nat → Bool} {held : Bool} {fuel : Nat} {cs : List Value} {x : DataW H × List MemPlace} (ht : P.underlying t = some (.struct #[f0, f1, f2, f3, f4, f5])) (h : DataW.trod enc P w base spare held fuel t cs = some x) :
    ∃ y0 y1 y2 y3 y4 y5 n, x.1 = .agg [y0.1, y1.1, y2.1, y3.1, y4.1, y5.1] ∧ cs.length = P.cellsOf t ∧ DataW.trod enc P w base spare held n f0.type ((cs.drop f0.offset).take (P.cellsOf f0.type)) = some y0 ∧
      DataW.trod enc P w base spare held n f1.type ((cs.drop f1.offset).take (P.cellsOf f1.type)) = some y1 ∧ DataW.trod enc P w base spare held n f2.type ((cs.drop f2.offset).take (P.cellsOf f2.type)) = some y2 ∧
      DataW.trod enc P w base spare held n f3.type ((cs.drop f3.offset).take (P.cellsOf f3.type)) = some y3 ∧ DataW.trod enc P w base spare held n f4.type ((cs.drop f4.offset).take (P.cellsOf f4.type)) = some y4 ∧
      DataW.trod enc P w base spare held n f5.type ((cs.drop f5.offset).take (P.cellsOf f5.type)) = some y5 := by
  obtain ⟨xs, n, _, rfl, hl, hlen, hf⟩ := DataW.trod_struct ht h
  match xs, hlen with
  | [y0, y1, y2, y3, y4, y5], _ => exact ⟨y0, y1, y2, y3, y4, y5, n, by simp, hl, by simpa using hf 0 f0 rfl, by simpa using hf 1 f1 rfl, by simpa using hf 2 f2 rfl, by simpa using hf 3 f3 rfl, by simpa using hf 4 f4 rfl, by simpa using hf 5 f5 rfl⟩

def acDummy : Ac := ⟨0, ⟨#[]⟩, ⟨#[]⟩, none, 0, 0, [], 0, none, 0, 0, []⟩

theorem six {cs : List Value} (h : cs.length = 6) : ∃ u0 u1 u2 u3 u4 u5, cs = [u0, u1, u2, u3, u4, u5] := by
  match cs, h with
  | [u0, u1, u2, u3, u4, u5], _ => exact ⟨_, _, _, _, _, _, rfl⟩

theorem act_read {W : World} {fuel : Nat} {a : Addr} {y : DataW H × List MemPlace} (h : (W.cells? 0 a 6).bind (DataW.trod enc Try.prog W 0 (fun _ => true) true fuel 48) = some y) (hw : ∀ n ∈ y.1.weights Try.prog 48, n ≤ reachBytes) :
    ∃ r : Ac, (∀ j, j < 6 → W.cell? (a.add j) = (acCells r)[j]?) ∧ ActIn W r := by
  obtain ⟨cs, hcs, hy⟩ := Option.bind_eq_some_iff.1 h
  obtain ⟨y0, y1, y2, y3, y4, y5, n, hy1, hl, h0, h1, h2, h3, h4, h5⟩ := trod_struct6 Try.underlying48 hy
  obtain ⟨_, hlen, hc⟩ := World.cells?_some hcs
  have hwt : ∀ {t : TypeId} {z : DataW H} {j : Nat}, ([3, 9, 9, 29, 3, 31] : List TypeId)[j]? = some t → ([y0.1, y1.1, y2.1, y3.1, y4.1, y5.1])[j]? = some z → ∀ n ∈ z.weights Try.prog t, n ≤ reachBytes := fun ht hz n hn => by
    refine hw n ?_
    rw [hy1]
    have := DataW.weights_mem_each ht hz n hn
    simpa [DataW.weights, Try.underlying48] using this
  simp only [cellsOf_int, cellsOf_text, cellsOf_bytes, cellsOf_nums] at h0 h1 h2 h3 h4 h5
  obtain ⟨u0, u1, u2, u3, u4, u5, rfl⟩ := six hlen
  obtain ⟨kd, hk, _, hkw⟩ := DataW.trod_int Try.underlying3 h0
  obtain ⟨nm, hn, _, hnw⟩ := DataW.trod_string Try.underlying9 h1
  obtain ⟨to, ht, _, htw⟩ := DataW.trod_string Try.underlying9 h2
  obtain ⟨A, zs, c, hz, hzc, hA0, hzl, hzw, hzr⟩ := ints_in (u := u3) Try.underlying29 Try.underlying5 cells8 h3 (hwt (j := 3) rfl rfl)
  obtain ⟨i, hi, _, hiw⟩ := DataW.trod_int Try.underlying3 h4
  obtain ⟨Ak, ks, ck, hks, hkc, hK0, hkl, hksw, hkr⟩ := ints_in (u := u5) Try.underlying31 Try.underlying3 cellsOf_int h5 (hwt (j := 5) rfl rfl)
  rw [bytes8, Nat.mul_one] at hzl
  rw [bytesOf_int] at hkl
  obtain rfl : u0 = .int .i64 kd := by simpa using hk
  obtain rfl : u1 = .string nm := by simpa using hn
  obtain rfl : u2 = .string to := by simpa using ht
  obtain rfl : u4 = .int .i64 i := by simpa using hi
  subst hz hks
  refine ⟨⟨kd, nm, to, A, zs.length, c, zs, i, Ak, ks.length, ck, ks⟩, fun j hj => ?_, ⟨?_, fun z hz => bounds_u8 (hzw z hz)⟩⟩
  · have := hc j (by simpa using hj)
    rw [this]
    simp [acCells]
  · exact
      { kd := bounds_i64 hkw
        nm := by unfold maxLen at hnw; omega
        to := by unfold maxLen at htw; omega
        bl := rfl
        Lc := hzc
        l47 := by unfold reachBytes at hzl; dsimp only; omega
        A0 := hA0
        rd := hzr
        bS := fun _ _ _ h => h
        kl := rfl
        mc := hkc
        m44 := by unfold reachBytes at hkl; dsimp only; omega
        K0 := hK0
        kr := hkr
        kS := fun _ _ _ h => h
        kb := fun z hz => bounds_i64 (hksw z hz)
        nb := bounds_i64 hiw }

/-- the cells that acts take -/
def cA (az : List Ac) : List Value := az.flatMap (fun a => (acCells a).toList)
theorem cA_length (az : List Ac) : (cA az).length = az.length * 6 := by
  induction az with
  | nil => rfl
  | cons a az ih =>
    have e : cA (a :: az) = (acCells a).toList ++ cA az := rfl
    rw [e, List.length_append, ih, List.length_cons]
    simp [acCells]
    omega
theorem cA_get {az : List Ac} {i r : Nat} (hi : i < az.length) (hr : r < 6) : (cA az)[i * 6 + r]? = (acCells az[i])[r]? := by
  induction az generalizing i with
  | nil => simp at hi
  | cons a az ih =>
    have e : cA (a :: az) = (acCells a).toList ++ cA az := rfl
    have hl : (acCells a).toList.length = 6 := rfl
    cases i with
    | zero =>
      rw [e, List.getElem?_append_left (by rw [hl]; omega)]
      simp
    | succ i =>
      rw [e, List.getElem?_append_right (by rw [hl]; omega), hl, show (i + 1) * 6 + r - 6 = i * 6 + r by omega, ih (by simpa using hi)]
      simp

/-- an argument that is a list of acts: what is known of it -/
structure ActsArg (W : World) (v : Value) (A : Option Addr) (az : List Ac) (c : Nat) : Prop where
  val : v = .slice A az.length c
  cap : az.length ≤ c
  acts : ∀ a ∈ az, ActIn W a
  rds : Rds W W.heap.size A (cA az)

theorem sized_mem {ts : List TypeId} {ds : List (DataW H)} (h : (DataW.weightsEach Try.prog ts ds).all (· ≤ reachBytes) = true) {j : Nat} {t : TypeId} {d : DataW H} (ht : ts[j]? = some t) (hd : ds[j]? = some d) : ∀ n ∈ d.weights Try.prog t, n ≤ reachBytes := fun n hn => by
  have := List.all_eq_true.1 h n (DataW.weights_mem_each ht hd n hn)
  simpa using this
theorem weights_elem {t e : TypeId} {elems spare : List (DataW H)} (ht : Try.prog.underlying t = some (.slice e)) {d : DataW H} (hd : d ∈ elems) (hw : ∀ n ∈ (DataW.slice elems spare).weights Try.prog t, n ≤ reachBytes) : ∀ n ∈ d.weights Try.prog e, n ≤ reachBytes := by
  intro n hn
  refine hw n ?_
  have key : ∀ l : List (DataW H), d ∈ l → n ∈ DataW.weightsAll Try.prog e l := by
    intro l
    induction l with
    | nil => intro h; cases h
    | cons x l ih =>
      intro h
      simp only [DataW.weightsAll, List.mem_append]
      rcases List.mem_cons.1 h with rfl | h
      · exact .inl hn
      · exact .inr (ih h)
  simp only [DataW.weights, ht, List.mem_cons, List.mem_append]
  exact .inr (.inl (key _ hd))

set_option maxRecDepth 20000 in
theorem open_acts {W : World} {v : Value} {d : DataW H} {ps : List MemPlace} {base : Nat} (hval : Value.okWide Try.prog W .any base 43 v) (h : DataW.Trod enc Try.prog W 0 (fun _ => true) true 43 v d ps)
    (hw : ∀ n ∈ d.weights Try.prog 43, n ≤ reachBytes) : ∃ A az c, ActsArg W v A az c := by
  obtain ⟨a0, len, cap, rfl⟩ := okWide_slice Try.underlying43 hval
  obtain ⟨fuel, hf⟩ := h
  rcases DataW.trod_slice Try.underlying43 hf with ⟨h1, _⟩ | ⟨a, len', cap', elems, rest, n, _, h1, hx, _, hle, hmax, hlen, hel, _⟩
  · have h1' : Value.slice a0 len cap = .slice none 0 0 := by simpa [Value.cells] using h1
    injection h1' with e1 e2 e3
    subst e1 e2 e3
    exact ⟨none, [], 0, rfl, Nat.le_refl _, (fun r hr => by cases hr), Rds.nil_⟩
  · have h1' : Value.slice a0 len cap = .slice (some a) len' cap' := by simpa [Value.cells] using h1
    injection h1' with e1 e2 e3
    subst e1 e2 e3
    rw [cellsOf_act] at hel
    have hd : d = .slice (elems.map (·.1)) (rest.map (·.1)) := congrArg Prod.fst hx
    subst hd
    have each : ∀ i, ∃ r : Ac, i < len → (∀ j, j < 6 → W.cell? ((a.add (i * 6)).add j) = (acCells r)[j]?) ∧ ActIn W r := by
      intro i
      by_cases hi : i < len
      · have he := hel i hi
        rw [List.getElem?_eq_getElem (by omega)] at he
        obtain ⟨r, hr⟩ := act_read he (weights_elem Try.underlying43 (List.mem_map.2 ⟨_, List.getElem_mem (show i < elems.length by omega), rfl⟩) hw)
        exact ⟨r, fun _ => hr⟩
      · exact ⟨acDummy, fun h => absurd h hi⟩
    obtain ⟨fr, hfr⟩ := Classical.axiomOfChoice each
    have hrl : ((List.range len).map fr).length = len := by simp
    have hget : ∀ i (hi : i < ((List.range len).map fr).length), ((List.range len).map fr)[i] = fr i := fun i hi => by simp
    refine ⟨some a, (List.range len).map fr, cap, by rw [hrl], by rw [hrl]; exact hle, ?_, ?_⟩
    · intro r hr
      obtain ⟨i, hi, rfl⟩ := List.mem_map.1 hr
      exact (hfr i (List.mem_range.1 hi)).2
    · intro hne
      have hcells : ∀ j u, (cA ((List.range len).map fr))[j]? = some u → W.cell? (a.add j) = some u := by
        intro j u hu
        have hj : j < len * 6 := by
          have := (List.getElem?_eq_some_iff.1 hu).1
          rw [cA_length, hrl] at this
          exact this
        have hi : j / 6 < len := by omega
        have hr : j % 6 < 6 := Nat.mod_lt _ (by decide)
        have e : j = j / 6 * 6 + j % 6 := by omega
        rw [e, cA_get (by rw [hrl]; exact hi) hr, hget] at hu
        rw [e, ← add_twice, (hfr _ hi).1 _ hr]
        exact hu
      have hpos : 0 < (cA ((List.range len).map fr)).length := by
        rcases Nat.eq_zero_or_pos (cA ((List.range len).map fr)).length with h0 | h0
        · exact absurd (List.eq_nil_of_length_eq_zero h0) hne
        · exact h0
      refine ⟨a, rfl, ?_, hcells⟩
      have := World.block_lt_of_cell? W _ (hcells 0 _ (List.getElem?_eq_getElem hpos))
      rwa [blk_add] at this
end
end Go.Proofs.Ytnpomiidkdnebaa
