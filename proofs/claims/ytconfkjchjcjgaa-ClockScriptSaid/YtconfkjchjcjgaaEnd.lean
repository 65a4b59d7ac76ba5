/- From a call that returns true and leaves all that was there as it was to what a statement asks of it. -/
import Derived.Test.YtconfkjchjcjgaaRows
import Derived.Test.YtconfkjchjcjgaaWords
import Derived.Test.YtconfkjchjcjgaaMath
import Derived.ProofKit
import Derived.OpenShut
import Derived.SizedLaws
import Derived.Carry
namespace Go.Proofs.Ytconfkjchjcjgaa
open Go.RowKit Go.ChangeShapes Go.WideShapes Go.ChangeAt
set_option linter.unusedVariables false

theorem own : ownKnob Try.prog.godebug = none := by kernel_rfl
theorem laid : laidOutB Try.prog = true := by kernel_rfl
theorem cells8 : Try.prog.cellsOf 5 = 1 := by kernel_rfl
theorem bytes8 : Try.prog.bytesOf 5 = 1 := by kernel_rfl
theorem below_drewN {B : Nat} {a w : World} (h : Below B a w) (n : Nat) : Below B a (w.drewN n) := ⟨h.os, h.tape, h.output, h.size, h.block⟩

section
variable {H : Type} {enc : TypeId × Value → H} {P : Program}

/-- the arguments read as they did -/
theorem args_stay (hl : laidOutB P = true) {W W' : World} (hb : Below W.heap.size W W') : ∀ {ts : List TypeId} {vs : List Value} {ds : List (DataW H)} {ps : List MemPlace},
    ts.all (fun t => P.readableRec t && decide (t < P.types.size)) = true → DataW.TrodAll enc P W 0 (fun _ => true) true ts vs ds ps → (∀ x ∈ ps, x.block < W.heap.size) →
    DataW.TrodAll enc P W' 0 (fun b => decide (b < W.heap.size)) true ts vs ds ps
  | [], [], [], _, _, h, _ => h
  | t :: ts, _ :: _, _ :: _, _, ht, ⟨p, q, h1, h2, e⟩, hlt => by
    subst e
    simp only [List.all_cons, Bool.and_eq_true] at ht
    exact ⟨p, q, Below.trod hl ht.1.1 (of_decide_eq_true ht.1.2) h1 hb (fun x hx => hlt x (List.mem_append_left _ hx)),
      args_stay hl hb ht.2 h2 (fun x hx => hlt x (List.mem_append_right _ hx)), rfl⟩

theorem law_close (hl : laidOutB P = true) {n : Nat} {f : Func} {s : ChangeSpec} {W : World} {args : Array Value} {ds gs : List (DataW H)} {before : List MemPlace} {tb : TypeId}
    (hsv : s.vars = []) (hW : DataW.Whole enc P f.params.toList s.vars false W args.toList ds gs before)
    (hts : f.params.toList.all (fun t => P.readableRec t && decide (t < P.types.size)) = true) (hrt : f.resultTypes = #[tb]) (htb : P.underlying tb = some .bool)
    (hfn : s.fn H (ds ++ []) = { results := [.lit (.bool true)], args := ds })
    (hc : Calls P n args W fun e w' => e = .returned (.bool true) ∧ Below W.heap.size W w') :
    Calls P n args W fun e W' => ∃ v, e = .returned v ∧ s.post enc P f false true false false W args v W' := by
  refine hc.mono fun e W' ⟨he, hb⟩ => ⟨_, he, ?_⟩
  have hlt : ∀ p ∈ before, p.block < W.heap.size := fun p hp => hW.lt p hp
  have hgs : gs = [] := by
    obtain ⟨p, q, _, hV, _⟩ := hW
    rw [hsv] at hV
    exact (trodVars_none hV).1
  subst hgs
  have hA : DataW.TrodAll enc P W 0 (fun _ => true) true f.params.toList args.toList ds before := by
    obtain ⟨p, q, hA, hV, e, _⟩ := hW
    rw [hsv] at hV
    obtain ⟨_, rfl⟩ := trodVars_none hV
    rw [List.append_nil] at e
    subst e
    exact hA
  refine ⟨ds, [], before, [], before, [], hW, ?_, ?_, ?_, World.keptBut_mono (fun p hp => ⟨hp, .inr (.inl hp)⟩) (hb.frame (· ∈ before)), fun h => by cases h⟩
  · rw [hfn, hrt]
    exact trodAll_cons_mk (shut_bool htb _) trodAll_mk0
  · rw [hfn]
    exact args_stay hl hb hts hA hlt
  · rw [hfn, hsv]
    exact rfl

/-- an argument that is a slice of bytes: what is known of it -/
structure BytesArg (W : World) (v : Value) (d : DataW H) (A : Option Addr) (zs : List Int) (c : Nat) : Prop where
  val : v = .slice A zs.length c
  cap : zs.length ≤ c
  capMax : c ≤ maxLen
  byt : Byt zs
  nil_ : A = none → zs.length = 0 ∧ c = 0
  rds : Rds W W.heap.size A (c8 zs)
  data : zs = [] ∨ ∃ spare : List (DataW H), d = .slice (lits .u8 zs) spare

theorem open_bytes {t e : TypeId} {W : World} {v : Value} {d : DataW H} {ps : List MemPlace} {base : Nat} (ht : P.underlying t = some (.slice e)) (he : P.underlying e = some (.int .u8)) (hc : P.cellsOf e = 1)
    (hval : Value.okWide P W .any base t v) (h : DataW.Trod enc P W 0 (fun _ => true) true t v d ps) : ∃ A zs c, BytesArg W v d A zs c := by
  obtain ⟨a0, len, cap, rfl⟩ := okWide_slice ht hval
  obtain ⟨fuel, hf⟩ := h
  rcases open_ints ht he hc hf with ⟨h1, h2⟩ | ⟨a, len', cap', zs, h1, _, hle, hmax, hlen, h2, hcell, hwf⟩
  · simp only [Value.cells] at h1
    have h1' : Value.slice a0 len cap = .slice none 0 0 := by simpa using h1
    injection h1' with e1 e2 e3
    subst e1 e2 e3
    refine ⟨none, [], 0, rfl, Nat.le_refl _, by unfold maxLen; omega, (fun z hz => by cases hz), (fun _ => ⟨rfl, rfl⟩), Rds.none_, .inl rfl⟩
  · have h1' : Value.slice a0 len cap = .slice (some a) len' cap' := by simpa [Value.cells] using h1
    injection h1' with e1 e2 e3
    subst e1 e2 e3
    simp only [if_true] at hlen
    have hl : (zs.take len).length = len := by rw [List.length_take]; omega
    refine ⟨some a, zs.take len, cap, by rw [hl], by rw [hl]; exact hle, hmax, (fun z hz => bounds_u8 (hwf z (List.mem_of_mem_take hz))), (fun h => by cases h), ?_, .inr ⟨_, congrArg Prod.fst h2⟩⟩
    intro hne
    have hcells : ∀ j u, (c8 (zs.take len))[j]? = some u → W.cell? (a.add j) = some u := by
      intro j u hu
      have hj : j < (zs.take len).length := by
        have := (List.getElem?_eq_some_iff.1 hu).1
        simpa [c8] using this
      rw [c8_get hj] at hu
      have hu' := Option.some.inj hu
      subst hu'
      rw [hcell j (by omega)]
      simp [List.getD, show j < zs.length by omega]
    refine ⟨a, rfl, ?_, hcells⟩
    have hpos : 0 < (zs.take len).length := by
      rcases Nat.eq_zero_or_pos (zs.take len).length with h0 | h0
      · exact absurd (by rw [List.eq_nil_of_length_eq_zero h0]; rfl) hne
      · exact h0
    have := World.block_lt_of_cell? W _ (hcells 0 _ (c8_get hpos))
    rwa [blk_add] at this

/-- the reach of such an argument -/
theorem BytesArg.reach {W : World} {v : Value} {d : DataW H} {A : Option Addr} {zs : List Int} {c : Nat} (h : BytesArg W v d A zs c) {ts : List TypeId} {ds : List (DataW H)}
    (hsz : (DataW.weightsEach P ts ds).all (· ≤ reachBytes) = true) {j : Nat} {t e : TypeId} (ht : ts[j]? = some t) (hd : ds[j]? = some d) (hu : P.underlying t = some (.slice e)) (hb : P.bytesOf e = 1) : zs.length ≤ 140737488351232 := by
  rcases h.data with hn | ⟨spare, hs⟩
  · subst hn
    simp
  · subst hs
    have := sized_slice hsz ht hd hu
    rw [hb, Nat.mul_one] at this
    simp only [lits, List.length_map, reachBytes] at this
    omega

theorem text_reach {ts : List TypeId} {ds : List (DataW H)} (hsz : (DataW.weightsEach P ts ds).all (· ≤ reachBytes) = true) {j : Nat} {t : TypeId} {s : ByteArray} (ht : ts[j]? = some t) (hd : ds[j]? = some (.lit (.string s.data.toList))) : s.size ≤ 140737488351232 := by
  have h := sized_string hsz ht hd
  have e : s.size = s.data.toList.length := by simp
  rw [e]
  exact Nat.le_trans h (by unfold reachBytes; decide)

/-- the second form's bound, and what it says of a part -/
theorem upto_bound {l : List (DataW H)} (h : Rows.uptoSmall H l = true) : Rows.uptoBulkAll l ≤ 1048576 := of_decide_eq_true h
theorem bulk_mem {d : DataW H} : ∀ {l : List (DataW H)}, d ∈ l → Rows.uptoBulk d ≤ Rows.uptoBulkAll l
  | x :: r, h => by
    rw [Rows.uptoBulkAll]
    rcases List.mem_cons.1 h with rfl | h
    · omega
    · have := bulk_mem h; omega
theorem bulk_length : ∀ (l : List (DataW H)), l.length ≤ Rows.uptoBulkAll l
  | [] => by rw [Rows.uptoBulkAll]; exact Nat.le_refl _
  | x :: r => by
    have h1 : 1 ≤ Rows.uptoBulk x := by
      cases x with
      | lit l => cases l <;> simp [Rows.uptoBulk]
      | _ => simp [Rows.uptoBulk]
    have := bulk_length r
    rw [Rows.uptoBulkAll, List.length_cons]
    omega
theorem upto_part {d : DataW H} {l : List (DataW H)} (h : Rows.uptoBulkAll l ≤ 1048576) (hd : d ∈ l) : Rows.uptoBulk d ≤ 1048576 := Nat.le_trans (bulk_mem hd) h
theorem upto_text {s : ByteArray} (h : Rows.uptoBulk (H := H) (.lit (.string s.data.toList)) ≤ 1048576) : s.size ≤ 1048576 := by
  rw [Rows.uptoBulk] at h
  have : s.size = s.data.toList.length := by simp
  omega
theorem BytesArg.bulk {W : World} {v : Value} {d : DataW H} {A : Option Addr} {zs : List Int} {c : Nat} (h : BytesArg W v d A zs c) (hd : Rows.uptoBulk d ≤ 1048576) : zs.length ≤ 1048576 := by
  rcases h.data with hn | ⟨spare, hs⟩
  · subst hn; simp
  · subst hs
    rw [Rows.uptoBulk] at hd
    have h1 := bulk_length (H := H) (lits .u8 zs)
    rw [show (lits (H := H) .u8 zs).length = zs.length by simp [lits]] at h1
    omega

/-- the cells that whole numbers take -/
def cI (zs : List Int) : List Value := zs.map (Value.int .i64)
theorem cI_length (zs : List Int) : (cI zs).length = zs.length := by simp [cI]
theorem cI_get {zs : List Int} {j : Nat} (h : j < zs.length) : (cI zs)[j]? = some (.int .i64 zs[j]) := by simp [cI, h]
def I64 (zs : List Int) : Prop := ∀ z ∈ zs, -9223372036854775808 ≤ z ∧ z ≤ 9223372036854775807

/-- an argument that is a slice of whole numbers: what is known of it -/
structure NumsArg (W : World) (v : Value) (d : DataW H) (A : Option Addr) (zs : List Int) (c : Nat) : Prop where
  val : v = .slice A zs.length c
  cap : zs.length ≤ c
  capMax : c ≤ maxLen
  i64 : I64 zs
  nil_ : A = none → zs.length = 0 ∧ c = 0
  rds : Rds W W.heap.size A (cI zs)
  data : zs = [] ∨ ∃ spare : List (DataW H), d = .slice (lits .i64 zs) spare

theorem open_nums {t e : TypeId} {W : World} {v : Value} {d : DataW H} {ps : List MemPlace} {base : Nat} (ht : P.underlying t = some (.slice e)) (he : P.underlying e = some (.int .i64)) (hc : P.cellsOf e = 1)
    (hval : Value.okWide P W .any base t v) (h : DataW.Trod enc P W 0 (fun _ => true) true t v d ps) : ∃ A zs c, NumsArg W v d A zs c := by
  obtain ⟨a0, len, cap, rfl⟩ := okWide_slice ht hval
  obtain ⟨fuel, hf⟩ := h
  rcases open_ints ht he hc hf with ⟨h1, h2⟩ | ⟨a, len', cap', zs, h1, _, hle, hmax, hlen, h2, hcell, hwf⟩
  · simp only [Value.cells] at h1
    have h1' : Value.slice a0 len cap = .slice none 0 0 := by simpa using h1
    injection h1' with e1 e2 e3
    subst e1 e2 e3
    refine ⟨none, [], 0, rfl, Nat.le_refl _, by unfold maxLen; omega, (fun z hz => by cases hz), (fun _ => ⟨rfl, rfl⟩), Rds.none_, .inl rfl⟩
  · have h1' : Value.slice a0 len cap = .slice (some a) len' cap' := by simpa [Value.cells] using h1
    injection h1' with e1 e2 e3
    subst e1 e2 e3
    simp only [if_true] at hlen
    have hl : (zs.take len).length = len := by rw [List.length_take]; omega
    refine ⟨some a, zs.take len, cap, by rw [hl], by rw [hl]; exact hle, hmax, (fun z hz => bounds_i64 (hwf z (List.mem_of_mem_take hz))), (fun h => by cases h), ?_, .inr ⟨_, congrArg Prod.fst h2⟩⟩
    intro hne
    have hcells : ∀ j u, (cI (zs.take len))[j]? = some u → W.cell? (a.add j) = some u := by
      intro j u hu
      have hj : j < (zs.take len).length := by
        have := (List.getElem?_eq_some_iff.1 hu).1
        simpa [cI] using this
      rw [cI_get hj] at hu
      have hu' := Option.some.inj hu
      subst hu'
      rw [hcell j (by omega)]
      simp [List.getD, show j < zs.length by omega]
    refine ⟨a, rfl, ?_, hcells⟩
    have hpos : 0 < (zs.take len).length := by
      rcases Nat.eq_zero_or_pos (zs.take len).length with h0 | h0
      · exact absurd (by rw [List.eq_nil_of_length_eq_zero h0]; rfl) hne
      · exact h0
    have := World.block_lt_of_cell? W _ (hcells 0 _ (cI_get hpos))
    rwa [blk_add] at this
theorem NumsArg.reach {W : World} {v : Value} {d : DataW H} {A : Option Addr} {zs : List Int} {c : Nat} (h : NumsArg W v d A zs c) {ts : List TypeId} {ds : List (DataW H)}
    (hsz : (DataW.weightsEach P ts ds).all (· ≤ reachBytes) = true) {j : Nat} {t e : TypeId} (ht : ts[j]? = some t) (hd : ds[j]? = some d) (hu : P.underlying t = some (.slice e)) (hb : P.bytesOf e = 8) : zs.length ≤ 17592186043904 := by
  rcases h.data with hn | ⟨spare, hs⟩
  · subst hn
    simp
  · subst hs
    have := sized_slice hsz ht hd hu
    rw [hb] at this
    simp only [lits, List.length_map, reachBytes] at this
    omega
end
end Go.Proofs.Ytconfkjchjcjgaa
