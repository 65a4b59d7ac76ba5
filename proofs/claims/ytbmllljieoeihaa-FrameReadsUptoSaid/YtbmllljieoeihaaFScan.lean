/- The walks over the frame's Scan and Ends. -/
import Derived.Test.YtbmllljieoeihaaFLives
import Derived.Laws.AppendOwn
namespace Go.Proofs.Ytbmllljieoeihaa
open Go.RowKit
set_option linter.unusedVariables false

/-- a frame as it lies in memory -/
structure FR where
  f : Fr
  A : Option Addr
  c : Nat
def FR.v (r : FR) : Value := .slice r.A r.f.body.length r.c
/-- the cells that frames take -/
def cF (rs : List FR) : List Value := rs.flatMap fun r => [.int .u8 r.f.k, r.v]

theorem cF_length (rs : List FR) : (cF rs).length = rs.length * 2 := by
  induction rs with
  | nil => rfl
  | cons r rs ih => simp only [cF, List.flatMap_cons, List.length_append, List.length_cons, List.length_nil] at ih ⊢; omega
theorem cF_append (a b : List FR) : cF (a ++ b) = cF a ++ cF b := by simp [cF, List.flatMap_append]
theorem cF_one (rs : List FR) : ∀ u ∈ cF rs, u.oneCell' = true := by
  intro u hu
  obtain ⟨r, _, h⟩ := List.mem_flatMap.1 hu
  simp only [List.mem_cons, List.not_mem_nil, or_false] at h
  rcases h with rfl | rfl <;> rfl
theorem cF_get : ∀ {rs : List FR} {j : Nat} (h : j < rs.length), (cF rs)[j * 2]? = some (.int .u8 rs[j].f.k) ∧ (cF rs)[j * 2 + 1]? = some rs[j].v
  | r :: rs, 0, _ => ⟨rfl, rfl⟩
  | r :: rs, j + 1, h => by
    have ih := cF_get (rs := rs) (j := j) (by simpa using h)
    have e : cF (r :: rs) = [.int .u8 r.f.k, r.v] ++ cF rs := rfl
    rw [e]
    refine ⟨?_, ?_⟩
    · rw [List.getElem?_append_right (by simp; omega), show (j + 1) * 2 - [Value.int .u8 r.f.k, r.v].length = j * 2 by simp; omega]
      exact ih.1
    · rw [List.getElem?_append_right (by simp; omega), show (j + 1) * 2 + 1 - [Value.int .u8 r.f.k, r.v].length = j * 2 + 1 by simp; omega]
      exact ih.2

/-- the bodies of frames of the call's own -/
def Bds (w : World) (B : Nat) (rs : List FR) : Prop := ∀ r ∈ rs, w.ownsRow B 5 1 r.v r.f.body.length (c8 r.f.body)

theorem info28 : (Try.prog.info? 28).map (fun i => (i.zero, i.size, i.bytes)) = some (some (.agg #[.int .u8 0, .slice none 0 0]), 2, 32) := by kernel_rfl

/-- a row of one type stands as it did where a row of another type grows -/
theorem own_far {w w' : World} {B B' : Nat} {e e' : TypeId} {k k' n m : Nat} {u v : Value} {xs ys : List Value} (hne : e ≠ e') (h : w.ownsRow B e k u n xs) (hv : w.ownsRow B' e' k' v m ys) (hg : w.grownBy w' v.ownBlock) : w'.ownsRow B e k u n xs := by
  refine ⟨h.1, ?_⟩
  rcases h.2 with h2 | ⟨g, cap, cur, h1, h2, h3, h4⟩
  · exact .inl h2
  · refine .inr ⟨g, cap, cur, h1, h2, (hg.block g (Array.getElem?_eq_some_iff.1 h3).1 (fun hb => ?_)).trans h3, h4⟩
    rcases hv.2 with ⟨hv2, _⟩ | ⟨g', cap', cur', hv1, _, hv3, _⟩
    · rw [hv2] at hb; cases hb
    · rw [hv1] at hb
      have hbb : some g = some g' := hb
      obtain rfl := Option.some.inj hbb
      rw [h3] at hv3
      simp only [Option.some.injEq, Obj.cells.injEq] at hv3
      exact hne hv3.2.1
theorem own_below {w w' : World} {B k n : Nat} {e : TypeId} {u : Value} {xs : List Value} (h : w.ownsRow B e k u n xs) (hb : Below w.heap.size w w') : w'.ownsRow B e k u n xs := by
  refine ⟨h.1, ?_⟩
  rcases h.2 with h2 | ⟨g, cap, cur, h1, h2, h3, h4⟩
  · exact .inl h2
  · exact .inr ⟨g, cap, cur, h1, h2, (hb.block g (Array.getElem?_eq_some_iff.1 h3).1).trans h3, h4⟩
/-- .. and where a variable of another type is written -/
theorem own_put {w : World} {B k n g : Nat} {e t : TypeId} {u x y : Value} {xs : List Value} {cs : Array Value} (hne : e ≠ t) (h : w.ownsRow B e k u n xs) (hw : Whole w g t cs) : ((w.setCell ⟨g, 0, none⟩ x).setCell ⟨g, 1, none⟩ y).ownsRow B e k u n xs := by
  refine ⟨h.1, ?_⟩
  rcases h.2 with h2 | ⟨g', cap, cur, h1, h2, h3, h4⟩
  · exact .inl h2
  · refine .inr ⟨g', cap, cur, h1, h2, (far_two w (fun e => ?_) _ _).trans h3, h4⟩
    subst e
    unfold Whole at hw
    rw [h3] at hw
    simp only [Option.some.injEq, Obj.cells.injEq] at hw
    exact hne hw.2.1
theorem Bds.map {w w' : World} {B : Nat} {rs : List FR} (h : Bds w B rs) (hk : ∀ (r : FR), w.ownsRow B 5 1 r.v r.f.body.length (c8 r.f.body) → w'.ownsRow B 5 1 r.v r.f.body.length (c8 r.f.body)) : Bds w' B rs := fun r hr => hk r (h r hr)

/-- 'append(l, f)' of one frame to a row of the call's own -/
theorem app_frame {P : Program} (w : World) {ops : Array Oper} {rest : List Oper} {o : Oper} {a : Act} {Q : Exit → Act → World → Prop} (hgd : o.guard = none) (s x : Operand) (t : TypeId)
    (ho : o.op = .call { callee := .builtin .append, args := #[s, x], argTypes := #[t, t] })
    (B : Nat) (e : TypeId) (i : TypeInfo) (z : Value) (ht : P.underlying t = some (.slice e)) (hi : P.info? e = some i) (hz : i.zero = some z)
    (hsize : i.size = 2) (hby : i.bytes = 32) (hzs : z.cells.size = 2)
    (v : Value) (n : Nat) (xs : List Value) (hs : a.eval s = v) (hown : w.ownsRow B e 2 v n xs) (u1 u2 : Value) (hx : a.eval x = .slice (some ⟨w.heap.size, 0, none⟩) 1 1) (h1 : u1.oneCell' = true) (h2 : u2.oneCell' = true)
    (hn : n ≤ 1099511627776) (hB : B ≤ w.heap.size)
    (h : ∀ v' w', w'.ownsRow B e 2 v' (n + 1) (xs ++ [u1, u2]) → (w.alloc (.cells #[u1, u2] e)).grownBy w' v.ownBlock → wpList P ops Q rest (a.put o.dst v') w') : wpList P ops Q (o :: rest) a (w.alloc (.cells #[u1, u2] e)) := by
  refine wpList_append_own_at _ hgd s x t ho B e i z 2 32 ht hi hz hsize hby hzs (by decide) v n xs hs (hown.alloc _) ⟨w.heap.size, 0, none⟩ 1 1 [u1, u2] hx rfl (fun j u hu => ?_) (by simp [h1, h2]) (by unfold maxLen; omega) (by omega) (by simp; omega) ?_
  · rw [addr_add, Nat.zero_add, (Whole.new w e #[u1, u2]).cell j]
    simpa using hu
  · intro v' w' hown' hg _ _
    exact h v' w' hown' hg

theorem scn_step {zs : List Int} {n : Nat} (h : (mea (zs.drop n)).2 = 0) : scn (zs.drop n) = (frd (zs.drop n) :: (scn (zs.drop (n + (mea (zs.drop n)).1))).1, (mea (zs.drop n)).1 + (scn (zs.drop (n + (mea (zs.drop n)).1))).2.1, (scn (zs.drop (n + (mea (zs.drop n)).1))).2.2) := by
  conv => lhs; rw [scn_more h]
  rw [List.drop_drop, show frd (zs.drop n) = fra (zs.drop n) from if_pos h]

/-- where a scan stands -/
structure ScanAt (zs : List Int) (w wr : World) (F N : Nat) (rs : List FR) (v : Value) (A2 : Option Addr) (c2 : Nat) : Prop where
  le : N ≤ zs.length
  told : scn zs = (rs.map FR.f ++ (scn (zs.drop N)).1, N + (scn (zs.drop N)).2.1, (scn (zs.drop N)).2.2)
  few : rs.length ≤ N
  low : w.heap.size ≤ F
  var : Whole wr F 28 #[.int .u8 (frd (zs.drop N)).k, .slice A2 (frd (zs.drop N)).body.length c2]
  body : wr.ownsRow w.heap.size 5 1 (.slice A2 (frd (zs.drop N)).body.length c2) (frd (zs.drop N)).body.length (c8 (frd (zs.drop N)).body)
  row : wr.ownsRow (F + 1) 28 2 v rs.length (cF rs)
  bds : Bds wr w.heap.size rs
  below : Below w.heap.size w wr

theorem row_shape {w : World} {B k n : Nat} {e : TypeId} {v : Value} {xs : List Value} (h : w.ownsRow B e k v n xs) : ∃ A c, v = .slice A n c := by
  rcases h.2 with ⟨rfl, rfl⟩ | ⟨g, cap, cur, rfl, _⟩
  · exact ⟨none, 0, rfl⟩
  · exact ⟨_, cap, rfl⟩
theorem own_base {w : World} {B B' k n : Nat} {e : TypeId} {v : Value} {xs : List Value} (h : w.ownsRow B e k v n xs) (hB : B' ≤ B) : w.ownsRow B' e k v n xs := own_other h hB (fun _ _ => rfl)

theorem own_block_ne {w : World} {B k n g : Nat} {e : TypeId} {v : Value} {xs : List Value} (h : w.ownsRow B e k v n xs) (hg : g < B) : some g ≠ v.ownBlock := by
  intro hb
  obtain ⟨h1, _⟩ := h.lt g hb.symm
  omega

/-- all that one more frame does to what a scan keeps -/
theorem ScanAt.next {zs : List Int} {w wr w' w2 : World} {F N S : Nat} {rs : List FR} {v v' : Value} {A2 A5 : Option Addr} {c2 c5 : Nat} (h : ScanAt zs w wr F N rs v A2 c2) (hF : F < wr.heap.size)
    (hE : (mea (zs.drop N)).2 = 0) (hS : (mea (zs.drop N)).1 = S)
    (hrow : w'.ownsRow (F + 1) 28 2 v' (rs.length + 1) (cF rs ++ [.int .u8 (frd (zs.drop N)).k, .slice A2 (frd (zs.drop N)).body.length c2]))
    (hg : (wr.alloc (.cells #[.int .u8 (frd (zs.drop N)).k, .slice A2 (frd (zs.drop N)).body.length c2] 28)).grownBy w' v.ownBlock)
    (hown : w2.ownsRow w'.heap.size 5 1 (.slice A5 (frd (zs.drop (N + S))).body.length c5) (frd (zs.drop (N + S))).body.length (c8 (frd (zs.drop (N + S))).body)) (hb : Below w'.heap.size w' w2) :
    ScanAt zs w ((w2.setCell ⟨F, 0, none⟩ (.int .u8 (frd (zs.drop (N + S))).k)).setCell ⟨F, 1, none⟩ (.slice A5 (frd (zs.drop (N + S))).body.length c5)) F (N + S) (rs ++ [⟨frd (zs.drop N), A2, c2⟩]) v' A5 c5 ∧
    Whole w2 F 28 #[.int .u8 (frd (zs.drop N)).k, .slice A2 (frd (zs.drop N)).body.length c2] := by
  subst hS
  obtain ⟨h12, hSl⟩ := mea_le hE
  rw [List.length_drop] at hSl
  have hst := scn_step hE
  have hw1 := h.below.size
  have hbA : Below w.heap.size w (wr.alloc (.cells #[.int .u8 (frd (zs.drop N)).k, .slice A2 (frd (zs.drop N)).body.length c2] 28)) := h.below.alloc hw1 _
  have hrA := h.row.alloc (.cells #[.int .u8 (frd (zs.drop N)).k, .slice A2 (frd (zs.drop N)).body.length c2] 28)
  have hvA := h.var.alloc (.cells #[.int .u8 (frd (zs.drop N)).k, .slice A2 (frd (zs.drop N)).body.length c2] 28)
  have hv' := hvA.grown hg (own_block_ne hrA (by omega))
  have hv2 := hv'.go hb
  have hb' : Below w.heap.size w w' := hbA.grown hg hbA.size (fun q hq => by have := (hrA.lt q hq).1; have := h.low; omega)
  have hb2 := belowGo hb' (Nat.le_refl _) hb
  have keep : ∀ (u : Value) (n : Nat) (xs : List Value), wr.ownsRow w.heap.size 5 1 u n xs → ∀ x y, ((w2.setCell ⟨F, 0, none⟩ x).setCell ⟨F, 1, none⟩ y).ownsRow w.heap.size 5 1 u n xs := fun u n xs hu x y =>
    own_put (by decide) (own_below (own_far (by decide) (hu.alloc _) hrA hg) hb) hv2
  refine ⟨⟨by omega, ?_, by have := h.few; simp; omega, h.low, ?_, ?_, ?_, ?_, ?_⟩, hv2⟩
  · rw [h.told, hst]
    simp [Nat.add_assoc]
  · simpa using (hv2.put 0 (.int .u8 (frd (zs.drop (N + (mea (zs.drop N)).1))).k)).put 1 (.slice A5 (frd (zs.drop (N + (mea (zs.drop N)).1))).body.length c5)
  · exact own_put (by decide) (own_base hown hb'.size) hv2
  · have h2 := own_below hrow hb
    rw [List.length_append, cF_append]
    exact own_other h2 (Nat.le_refl _) (fun g hg => far_two w2 (by omega) _ _)
  · intro r hr
    rcases List.mem_append.1 hr with hr | hr
    · exact keep _ _ _ (h.bds r hr) _ _
    · simp only [List.mem_cons, List.not_mem_nil, or_false] at hr
      subst hr
      exact keep _ _ _ h.body _ _
  · exact (hb2.setCell (p := ⟨F, 0, none⟩) h.low _).setCell (p := ⟨F, 1, none⟩) h.low _

end Go.Proofs.Ytbmllljieoeihaa
