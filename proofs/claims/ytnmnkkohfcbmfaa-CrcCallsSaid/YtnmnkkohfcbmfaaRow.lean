/- The walk's steps over a whole array at once: load, store and alloc of a type of many cells, kept shut. General, for every seat. -/
import Derived.Test.YtnmnkkohfcbmfaaBase
import Derived.Deep.WholeRow
import Derived.Laws.CopyOwn
namespace Go.Proofs.Ytnmnkkohfcbmfaa
open Go.RowKit
set_option linter.unusedVariables false

section
variable {P : Program}

/-- A whole array read out of a block that is known whole, at whatever place in it. -/
theorem wpList_load_row (w : World) {ops : Array Oper} {rest : List Oper} {o : Oper} {a : Act} {Q : Exit → Act → World → Prop}
    (hg : o.guard = none) (t : TypeId) (p : Operand) (hop : o.op = Op.load t p) (m : Nat) (e : TypeId) (hu : P.underlying t = some (.array m e)) (n : Nat) (hi : (P.info? t).map (·.size) = some n)
    (g k : Nat) (te : TypeId) (cur : Array Value) (cs : List Value) (hp : a.eval p = .pointer (some ⟨g, k, none⟩)) (hw : Whole w g te cur) (hn : cs.length = n) (hc : ∀ j v, cs[j]? = some v → cur[k + j]? = some v)
    (hK : wpList P ops Q rest (a.put o.dst (.agg cs.toArray)) w) : wpList P ops Q (o :: rest) a w := by
  subst hn
  refine wpList_plain hg fun K hK' => ?_
  have hrun : (loadVar t ⟨g, k, none⟩).run P w = .ok (.agg cs.toArray) w := by
    have h := run_loadCells_list (P := P) w ⟨g, k, none⟩ cs (fun j v hv => by
      have hadd : (⟨g, k, none⟩ : Addr).add j = ⟨g, k + j, none⟩ := by unfold Addr.add; split <;> simp_all
      rw [hadd, hw.cell]
      exact hc j v hv)
    cases hq : P.info? t with
    | none => simp [hq] at hi
    | some i =>
      have hs : i.size = cs.length := by simpa [hq] using hi
      simp [loadVar, isAgg, run_underlying hu, sizeOf, typeInfo, hq, hs, h, Result.andThen]
  unfold Oper.wp
  simp [execOp, hop, hp, Instr.loadAt, Instr.sureAddr, hrun, Result.andThen]
  exact hK' _ _ hK

theorem run_loadVar_whole (w : World) (t : TypeId) (m : Nat) (e : TypeId) (hu : P.underlying t = some (.array m e)) (n : Nat) (hi : (P.info? t).map (·.size) = some n)
    (g k : Nat) (te : TypeId) (cur : Array Value) (cs : List Value) (hw : Whole w g te cur) (hn : cs.length = n) (hc : ∀ j v, cs[j]? = some v → cur[k + j]? = some v) :
    (loadVar t ⟨g, k, none⟩).run P w = .ok (.agg cs.toArray) w := by
  subst hn
  have h := run_loadCells_list (P := P) w ⟨g, k, none⟩ cs (fun j v hv => by
    have hadd : (⟨g, k, none⟩ : Addr).add j = ⟨g, k + j, none⟩ := by unfold Addr.add; split <;> simp_all
    rw [hadd, hw.cell]
    exact hc j v hv)
  cases hq : P.info? t with
  | none => simp [hq] at hi
  | some i =>
    have hs : i.size = cs.length := by simpa [hq] using hi
    simp [loadVar, isAgg, run_underlying hu, sizeOf, typeInfo, hq, hs, h, Result.andThen]

/-- What a function hands back whose one result is a whole array in a variable. -/
theorem results_row {fn : Func} {p : Tmp} {t : TypeId} (h : fn.results = #[.cell p t]) (tmps : Array Value) (w : World) (m : Nat) (e : TypeId) (hu : P.underlying t = some (.array m e)) (n : Nat) (hi : (P.info? t).map (·.size) = some n)
    (g : Nat) (te : TypeId) (cs : List Value) (hp : tmps.getD p undef = .pointer (some ⟨g, 0, none⟩)) (hw : Whole w g te cs.toArray) (hn : cs.length = n) :
    (results fn tmps).run P w = .ok (.agg cs.toArray) w := by
  have hr := run_loadVar_whole w t m e hu n hi g 0 te cs.toArray cs hw hn (fun j v h => by simpa using h)
  have hp' : tmps[p]?.getD undef = .pointer (some ⟨g, 0, none⟩) := by simpa using hp
  simp only [results, h]
  simp [asAddr, hp', hr, Sem.run_bind, Result.andThen]

/-- A whole array laid into a block that is known whole, at whatever place in it. -/
theorem wpList_store_row (w : World) {ops : Array Oper} {rest : List Oper} {o : Oper} {a : Act} {Q : Exit → Act → World → Prop}
    (hg : o.guard = none) (t : TypeId) (p x : Operand) (hop : o.op = Op.store t p x) (n : Nat) (hi : (P.info? t).map (·.size) = some n)
    (g k : Nat) (te : TypeId) (cur : List Value) (cs : List Value) (hp : a.eval p = .pointer (some ⟨g, k, none⟩)) (hx : a.eval x = .agg cs.toArray) (hw : Whole w g te cur.toArray) (hn : cs.length = n) (hk : k + n ≤ cur.length)
    (h1 : ∀ v ∈ cs, v.oneCell' = true)
    (hK : ∀ w', Whole w' g te (cur.take k ++ (cs ++ cur.drop (k + cs.length))).toArray → (∀ B w0, Below B w0 w → B ≤ g → Below B w0 w') → (∀ g' t' c', g' ≠ g → Whole w g' t' c' → Whole w' g' t' c') → wpList P ops Q rest (a.put o.dst undef) w') : wpList P ops Q (o :: rest) a w := by
  refine wpList_plain hg fun K hK' => ?_
  subst hn
  have hrun : (storeVar t ⟨g, k, none⟩ (.agg cs.toArray)).run P w = .ok () (w.setRow g (cur.take k ++ (cs ++ cur.drop (k + cs.length))).toArray) := by
    have h := run_storeCells_at (P := P) g k te cs 0 cur.toArray w hw (by simpa using hk) h1
    cases hq : P.info? t with
    | none => simp [hq] at hi
    | some i =>
      have hs : i.size = cs.length := by simpa [hq] using hi
      simp [storeVar, sizeOf, typeInfo, hq, hs, Value.cells, Result.andThen]
      simpa using h
  unfold Oper.wp
  simp [execOp, hop, hp, hx, Instr.storeAt, Instr.sureAddr, hrun, Result.andThen]
  refine hK' _ _ (hK _ ?_ (fun B w0 hb hB => below_setRow hb hB _) (fun g' t' c' hne hw' => ?_))
  · exact setRow_heap w g _ _ te (0, 0) hw
  · exact (setRow_other w g g' _ hne).trans hw'

/-- A new variable of a type of many cells. -/
theorem wpList_alloc_row (w : World) {ops : Array Oper} {rest : List Oper} {o : Oper} {a : Act} {Q : Exit → Act → World → Prop}
    (hg : o.guard = none) (t : TypeId) (hop : o.op = Op.alloc t) (zs : List Value) (n : Nat) (hi : (P.info? t).map (fun i => (i.zero, i.size)) = some (some (.agg zs.toArray), n))
    (hK : wpList P ops Q rest (a.put o.dst (.pointer (some ⟨w.heap.size, 0, none⟩))) (w.alloc (.cells zs.toArray t))) : wpList P ops Q (o :: rest) a w := by
  refine wpList_plain hg fun K hK' => ?_
  obtain ⟨hz, _⟩ := zero_of_info hi
  unfold Oper.wp
  simp [execOp, hop, Instr.alloc, hz, Result.andThen, newVar, newRow, newObj, Value.cells]
  exact hK' _ _ hK

/-- One of an array's words, the array in hand as a value. -/
theorem run_index_word {t e : TypeId} {n : Nat} (cs : Array Value) (k : IntKind) (i : Nat) (v : Value) (h : P.underlying t = some (.array n e)) (hi : i < n) (hs : ∀ w, (sizeOf e).run P w = .ok 1 w) (ha : ∀ w, (isAgg e).run P w = .ok false w) (hv : cs[i]? = some v) (w : World) :
    (Instr.index t (.agg cs) (.int k i)).run P w = .ok v w := by
  have h1 : (0 : Int) ≤ (i : Int) ∧ (i : Int) < (n : Int) := by omega
  simp [Instr.index, run_underlying h, asIntOf, h1, hs, ha, part, hv, Result.andThen, go_sem]
  intro h2
  omega

end
end Go.Proofs.Ytnmnkkohfcbmfaa
