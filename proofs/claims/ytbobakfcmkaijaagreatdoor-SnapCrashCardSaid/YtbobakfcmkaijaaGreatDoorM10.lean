/- Several texts, each a section: JObj, JFn, DNo. -/
import Derived.Test.YtbobakfcmkaijaaGreatDoorM01
import Derived.Test.YtbobakfcmkaijaaGreatDoorM03
import Derived.Test.YtbobakfcmkaijaaGreatDoorM09
import Derived.Test.YtbobakfcmkaijaaGreatDoorM07
import Derived.BigQuiet
import Derived.Lib.Builder
import Derived.StillTailTactics
import Derived.Test.YtbobakfcmkaijaaGreatDoorM08
section
/- A journal of the program in memory. -/
namespace Go.Proofs.YtbobakfcmkaijaaGreatDoor
open Go.RowKit
set_option linter.unusedVariables false

/-! ## blocks of one type stay -/
def StayB (e : TypeId) (w w' : World) : Prop := ∀ (g : Nat) (cs : Array Value), w.heap[g]? = some (Obj.cells cs e (0, 0)) → w'.heap[g]? = some (Obj.cells cs e (0, 0))
section
variable {e t : TypeId} {w w' w2 : World}
theorem StayB.refl (e : TypeId) (w : World) : StayB e w w := fun _ _ h => h
theorem StayB.trans (h : StayB e w w') (k : StayB e w' w2) : StayB e w w2 := fun g cs hg => k g cs (h g cs hg)
theorem StayB.own {B k n : Nat} {v : Value} {xs : List Value} (hk : StayB e w w') (h : w.ownsRow B e k v n xs) : w'.ownsRow B e k v n xs := by
  rcases h.2 with ⟨rfl, hn⟩ | ⟨g, cap, cur, rfl, hb, hh, r⟩
  · exact ⟨h.1, .inl ⟨rfl, hn⟩⟩
  · exact ⟨h.1, .inr ⟨g, cap, cur, rfl, hb, hk g cur hh, r⟩⟩
theorem StayB.whole {g : Nat} {cs : Array Value} (hk : StayB e w w') (h : Whole w g e cs) : Whole w' g e cs := hk g cs h
theorem StayB.below {B : Nat} (hb : Below B w w') (hB : w.heap.size ≤ B) : StayB e w w' := fun g cs h => (hb.block g (Nat.lt_of_lt_of_le (Array.getElem?_eq_some_iff.1 h).1 hB)).trans h
theorem StayB.alloc (h : StayB e w w') (o : Obj) : StayB e w (w'.alloc o) := fun g cs hg => (Below.heap_alloc w' o g (Array.getElem?_eq_some_iff.1 (h g cs hg)).1).trans (h g cs hg)
theorem StayB.put (h : StayB e w w') {g i : Nat} {cs : Array Value} (hw : Whole w' g t cs) (hne : e ≠ t) (u : Value) : StayB e w (w'.setCell ⟨g, i, none⟩ u) := fun k ds hk =>
  (Below.heap_setCell w' ⟨g, i, none⟩ u k (fun ek => by
    have h1 := h k ds hk
    have ek' : k = g := ek
    subst ek'
    unfold Whole at hw
    rw [h1] at hw
    injection hw with hw
    injection hw with _ hw
    exact hne hw)).trans (h k ds hk)
theorem StayB.grown (h : StayB e w w') {B k n : Nat} {v : Value} {xs : List Value} (hv : w'.ownsRow B t k v n xs) (hne : e ≠ t) (hg : w'.grownBy w2 v.ownBlock) : StayB e w w2 := fun b ds hb => by
  have h1 := h b ds hb
  refine (hg.block b (Array.getElem?_eq_some_iff.1 h1).1 (fun eb => ?_)).trans h1
  obtain ⟨_, _, cs, hc⟩ := ownRow_block hv eb.symm
  rw [h1] at hc
  injection hc with hc
  injection hc with _ hc
  exact hne hc
theorem StayB.drewN (h : StayB e w w') (n : Nat) : StayB e w (w'.drewN n) := h
end
/-- a cell of a row is written -/
theorem row_set {w : World} {B e k n g i : Nat} {v u : Value} {xs : List Value} (h : w.ownsRow B e k v n xs) (hg : v.ownBlock = some g) : (w.setCell ⟨g, i, none⟩ u).ownsRow B e k v n (xs.set i u) := by
  rcases h.2 with ⟨rfl, _⟩ | ⟨g1, cap, cur, rfl, h2, h3, h4, h5, h6, h7⟩
  · cases hg
  · obtain rfl : g1 = g := by simpa [Value.ownBlock] using hg
    refine ⟨by simpa using h.1, .inr ⟨g1, cap, cur.setIfInBounds i u, rfl, h2, ?_, h4, h5, by simp [h6], ?_⟩⟩
    · exact (show Whole w g1 e cur from h3).put i u
    · rw [Array.toList_setIfInBounds, List.take_set, h7]
theorem row_block {w : World} {B k n : Nat} {e : TypeId} {v : Value} {xs : List Value} (h : w.ownsRow B e k v n xs) (hn : 0 < n) : ∃ g c, v = .slice (some ⟨g, 0, none⟩) n c ∧ v.ownBlock = some g ∧ n ≤ c ∧ c ≤ maxLen := by
  rcases h.2 with ⟨rfl, h0⟩ | ⟨g, cap, cur, rfl, _, _, h1, h2, _⟩
  · omega
  · exact ⟨g, cap, rfl, rfl, h1, h2⟩
theorem row_any {w : World} {B k n : Nat} {e : TypeId} {v : Value} {xs : List Value} (h : w.ownsRow B e k v n xs) : ∃ A c, v = .slice A n c := by
  rcases h.2 with ⟨rfl, rfl⟩ | ⟨g, cap, cur, rfl, _⟩
  · exact ⟨none, 0, rfl⟩
  · exact ⟨_, cap, rfl⟩
theorem row_cell {w : World} {B k n g i : Nat} {e : TypeId} {v u : Value} {xs : List Value} (h : w.ownsRow B e k v n xs) (hg : v.ownBlock = some g) (hu : xs[i]? = some u) : w.cell? ⟨g, i, none⟩ = some u ∧ w.frozen? ⟨g, i, none⟩ = false := by
  rcases h.2 with ⟨rfl, _⟩ | ⟨g1, cap, cur, rfl, h2, h3, h4, h5, h6, h7⟩
  · cases hg
  · obtain rfl : g1 = g := by simpa [Value.ownBlock] using hg
    have hw : Whole w g1 e cur := h3
    refine ⟨?_, hw.frozen i⟩
    rw [hw.cell i]
    rw [← h7, List.getElem?_take] at hu
    split at hu
    · simpa using hu
    · cases hu
/-- 'append(l, x)' of one element, of whatever size, to a row of the call's own -/
theorem app_elem {P : Program} (w : World) {ops : Array Oper} {rest : List Oper} {o : Oper} {a : Act} {Q : Exit → Act → World → Prop} (hgd : o.guard = none) (s x : Operand) (t : TypeId)
    (ho : o.op = .call { callee := .builtin .append, args := #[s, x], argTypes := #[t, t] })
    (B : Nat) (e : TypeId) (i : TypeInfo) (z : Value) (k bytes : Nat) (ht : P.underlying t = some (.slice e)) (hi : P.info? e = some i) (hz : i.zero = some z)
    (hsize : i.size = k) (hby : i.bytes = bytes) (hzs : z.cells.size = k) (hk : 0 < k)
    (v : Value) (n : Nat) (xs : List Value) (hs : a.eval s = v) (hown : w.ownsRow B e k v n xs) (us : List Value) (hus : us.length = k) (g0 : Nat) (W : World) (hW : W = w.alloc (.cells us.toArray e)) (hg0 : g0 = w.heap.size) (hx : a.eval x = .slice (some ⟨g0, 0, none⟩) 1 1) (h1 : ∀ u ∈ us, u.oneCell' = true)
    (hn : n ≤ 1099511627776) (hby2 : bytes ≤ 100) (hB : B ≤ w.heap.size)
    (h : ∀ v' w', w'.ownsRow B e k v' (n + 1) (xs ++ us) → W.grownBy w' v.ownBlock → (v'.ownBlock = v.ownBlock ∨ v'.ownBlock = some (w.heap.size + 1)) → wpList P ops Q rest (a.put o.dst v') w') : wpList P ops Q (o :: rest) a W := by
  subst hW hg0
  have hb : (n + 1) * bytes ≤ 140737488355328 := Nat.le_trans (Nat.mul_le_mul (show n + 1 ≤ 1099511627777 by omega) hby2) (by decide)
  refine wpList_append_own_at _ hgd s x t ho B e i z k bytes ht hi hz hsize hby hzs hk v n xs hs (hown.alloc _) ⟨w.heap.size, 0, none⟩ 1 1 us hx (by simpa using hus) (fun j u hu => ?_) h1 (by unfold maxLen; omega) hb (by simp; omega) ?_
  · have hadd : (⟨w.heap.size, 0, none⟩ : Addr).add j = ⟨w.heap.size, j, none⟩ := by unfold Addr.add; split <;> simp_all
    rw [hadd, (Whole.new w e us.toArray).cell j]
    simpa using hu
  · intro v' w' hown' hg _ h5
    exact h v' w' hown' hg (by simpa using h5)

/-! ## a row of the call's own that begins within its block -/
/-- where a slice begins in its block -/
def vOff : Value → Nat
  | .slice (some a) _ _ => a.off
  | _ => 0
def _root_.Go.World.ownsO (w : World) (e : TypeId) (k : Nat) (v : Value) (n : Nat) (xs : List Value) : Prop :=
  xs.length = n * k ∧
  ((v = .slice none 0 0 ∧ n = 0) ∨
   ∃ g o cap cur, v = .slice (some ⟨g, o, none⟩) n cap ∧ w.heap[g]? = some (.cells cur e (0, 0)) ∧ n ≤ cap ∧ cap ≤ maxLen ∧ cur.size = o + cap * k ∧ (cur.toList.drop o).take (n * k) = xs)
section
variable {w w' w2 : World} {e t : TypeId} {k n g : Nat} {v u : Value} {xs : List Value}
theorem ownsO_nil (w : World) (e : TypeId) (k : Nat) : w.ownsO e k (.slice none 0 0) 0 [] := ⟨by simp, .inl ⟨rfl, rfl⟩⟩
theorem ownsO_of {B : Nat} (h : w.ownsRow B e k v n xs) : w.ownsO e k v n xs := by
  rcases h.2 with ⟨rfl, hn⟩ | ⟨g, cap, cur, rfl, hb, hh, h1, h2, h3, h4⟩
  · exact ⟨h.1, .inl ⟨rfl, hn⟩⟩
  · exact ⟨h.1, .inr ⟨g, 0, cap, cur, rfl, hh, h1, h2, by omega, by simpa using h4⟩⟩
theorem o_kept (h : w.ownsO e k v n xs) (hk : ∀ g, v.ownBlock = some g → w'.heap[g]? = w.heap[g]?) : w'.ownsO e k v n xs := by
  rcases h.2 with ⟨rfl, hn⟩ | ⟨g, o, cap, cur, rfl, hh, r⟩
  · exact ⟨h.1, .inl ⟨rfl, hn⟩⟩
  · exact ⟨h.1, .inr ⟨g, o, cap, cur, rfl, (hk g (by simp [Value.ownBlock])).trans hh, r⟩⟩
theorem StayB.ownO (hk : StayB e w w') (h : w.ownsO e k v n xs) : w'.ownsO e k v n xs := by
  rcases h.2 with ⟨rfl, hn⟩ | ⟨g, o, cap, cur, rfl, hh, r⟩
  · exact ⟨h.1, .inl ⟨rfl, hn⟩⟩
  · exact ⟨h.1, .inr ⟨g, o, cap, cur, rfl, hk g cur hh, r⟩⟩
theorem o_blk (h : w.ownsO e k v n xs) (hg : v.ownBlock = some g) : g < w.heap.size ∧ ∃ cs, w.heap[g]? = some (.cells cs e (0, 0)) := by
  rcases h.2 with ⟨rfl, _⟩ | ⟨g', o, cap, cur, rfl, hh, _⟩
  · cases hg
  · obtain rfl : g' = g := by simpa [Value.ownBlock] using hg
    exact ⟨(Array.getElem?_eq_some_iff.1 hh).1, _, hh⟩
theorem o_block (h : w.ownsO e k v n xs) (hn : 0 < n) : ∃ g o c, v = .slice (some ⟨g, o, none⟩) n c ∧ v.ownBlock = some g ∧ vOff v = o ∧ n ≤ c ∧ c ≤ maxLen := by
  rcases h.2 with ⟨rfl, h0⟩ | ⟨g, o, cap, cur, rfl, _, h1, h2, _⟩
  · omega
  · exact ⟨g, o, cap, rfl, rfl, rfl, h1, h2⟩
theorem o_any (h : w.ownsO e k v n xs) : ∃ A c, v = .slice A n c := by
  rcases h.2 with ⟨rfl, rfl⟩ | ⟨g, o, cap, cur, rfl, _⟩
  · exact ⟨none, 0, rfl⟩
  · exact ⟨_, cap, rfl⟩
theorem o_alloc (h : w.ownsO e k v n xs) (o : Obj) : (w.alloc o).ownsO e k v n xs := o_kept h fun g hg => Below.heap_alloc w o g (o_blk h hg).1
theorem o_cell {i a : Nat} (h : w.ownsO e k v n xs) (hg : v.ownBlock = some g) (hu : xs[i]? = some u) (ha : a = vOff v + i) : w.cell? ⟨g, a, none⟩ = some u ∧ w.frozen? ⟨g, a, none⟩ = false := by
  subst ha
  rcases h.2 with ⟨rfl, _⟩ | ⟨g1, o, cap, cur, rfl, h3, h4, h5, h6, h7⟩
  · cases hg
  · obtain rfl : g1 = g := by simpa [Value.ownBlock] using hg
    have hw : Whole w g1 e cur := h3
    refine ⟨?_, hw.frozen _⟩
    rw [hw.cell]
    rw [← h7, List.getElem?_take] at hu
    split at hu
    · rw [List.getElem?_drop] at hu
      simpa [vOff] using hu
    · cases hu
theorem o_set {i a : Nat} (h : w.ownsO e k v n xs) (hg : v.ownBlock = some g) (ha : a = vOff v + i) (u : Value) : (w.setCell ⟨g, a, none⟩ u).ownsO e k v n (xs.set i u) := by
  subst ha
  rcases h.2 with ⟨rfl, _⟩ | ⟨g1, o, cap, cur, rfl, h3, h4, h5, h6, h7⟩
  · cases hg
  · obtain rfl : g1 = g := by simpa [Value.ownBlock] using hg
    refine ⟨by simpa using h.1, .inr ⟨g1, o, cap, cur.setIfInBounds (o + i) u, rfl, ?_, h4, h5, by simp [h6], ?_⟩⟩
    · exact (show Whole w g1 e cur from h3).put _ u
    · rw [Array.toList_setIfInBounds, List.drop_set, if_neg (by omega), List.take_set, h7, show o + i - o = i by omega]
theorem StayB.grownO (h : StayB e w w') {xs : List Value} (hv : w'.ownsO t k v n xs) (hne : e ≠ t) (hg : w'.grownBy w2 v.ownBlock) : StayB e w w2 := fun b ds hb => by
  have h1 := h b ds hb
  refine (hg.block b (Array.getElem?_eq_some_iff.1 h1).1 (fun eb => ?_)).trans h1
  obtain ⟨_, cs, hc⟩ := o_blk hv eb.symm
  rw [h1] at hc
  injection hc with hc
  injection hc with _ hc
  exact hne hc
end
/-- an append in place, to a row that begins within its block -/
theorem run_append_roomO {P : Program} (w : World) (t ty e : TypeId) (i : TypeInfo) (ht : P.underlying t = some (.slice e)) (hi : P.info? e = some i)
    (g o sLen sCap : Nat) (cur : Array Value) (hg : w.heap[g]? = some (.cells cur e (0, 0)))
    (a : Addr) (m c : Nat) (news : List Value) (hl : news.length = m * i.size) (hnews : ∀ j u, news[j]? = some u → w.cell? (a.add j) = some u) (h1 : ∀ u ∈ news, u.oneCell' = true)
    (hroom : sLen + m ≤ sCap) (hfit : o + sLen * i.size + news.length ≤ cur.size) :
    (Builtin.append_ #[t, t] ty #[.slice (some ⟨g, o, none⟩) sLen sCap, .slice (some a) m c]).run P w =
      .ok (.slice (some ⟨g, o, none⟩) (sLen + m) sCap) (w.setRow g (cur.toList.take (o + sLen * i.size) ++ news ++ cur.toList.drop (o + sLen * i.size + news.length)).toArray) := by
  have hf := run_firstCells_some (P := P) w i.size m a m c news hl hnews
  have hst := run_storeCells_at P g (o + sLen * i.size) e news 0 cur w hg (by simpa using hfit) h1
  simp only [Nat.add_zero] at hst
  simp [Builtin.append_, run_underlying ht, sizeOf, typeInfo, hi, Builtin.lenOf, hroom, hf, Addr.add_lit, hst]
/-- 'append(l, x)' of one element to such a row -/
theorem run_app_o {P : Program} (w : World) (t ty e : TypeId) (i : TypeInfo) (z : Value) (k bytes : Nat) (ht : P.underlying t = some (.slice e)) (hi : P.info? e = some i) (hz : i.zero = some z)
    (hsize : i.size = k) (hby : i.bytes = bytes) (hzs : z.cells.size = k) (hk : 0 < k)
    (v : Value) (n : Nat) (xs : List Value) (hown : w.ownsO e k v n xs) (ad : Addr) (c : Nat) (us : List Value) (hus : us.length = 1 * k) (hcells : ∀ j u, us[j]? = some u → w.cell? (ad.add j) = some u) (h1 : ∀ u ∈ us, u.oneCell' = true)
    (h63 : n + 1 ≤ maxLen) (hb : (n + 1) * bytes ≤ 140737488355328) :
    ∃ v' w', (Builtin.append_ #[t, t] ty #[v, .slice (some ad) 1 c]).run P w = .ok v' w' ∧ w'.ownsO e k v' (n + 1) (xs ++ us) ∧ w.grownBy w' v.ownBlock ∧ (v'.ownBlock = v.ownBlock ∨ v'.ownBlock = some w.heap.size) := by
  rcases hown.2 with ⟨rfl, rfl⟩ | ⟨g, o, cap, cur, rfl, hh, hle, hmx, hsz, hcs⟩
  · obtain ⟨v', w', hr, h2, h3, _, h5⟩ := run_append_own_at (P := P) w 0 t ty e i z k bytes ht hi hz hsize hby hzs hk (.slice none 0 0) 0 xs ⟨hown.1, .inl ⟨rfl, rfl⟩⟩ ad 1 c us hus hcells h1 h63 hb (Nat.zero_le _)
    exact ⟨v', w', hr, ownsO_of h2, h3, h5⟩
  · subst hsize hby
    have hlen : (xs ++ us).length = (n + 1) * i.size := by rw [List.length_append, hown.1, hus, Nat.add_mul]
    by_cases hroom : n + 1 ≤ cap
    · have hmul : (n + 1) * i.size ≤ cap * i.size := Nat.mul_le_mul_right _ hroom
      rw [Nat.add_mul] at hmul
      have hr := run_append_roomO (P := P) w t ty e i ht hi g o n cap cur hh ad 1 c us hus hcells h1 hroom (by omega)
      refine ⟨_, _, hr, ⟨hlen, .inr ⟨g, o, cap, _, rfl, setRow_heap w g cur _ e _ hh, hroom, hmx, ?_, ?_⟩⟩, ⟨rfl, rfl, rfl, by simp, fun b _ hb => setRow_other w g b _ (fun e => hb (by simp [Value.ownBlock, e]))⟩, .inl rfl⟩
      · simp only [List.size_toArray, List.length_append, List.length_take, List.length_drop, Array.length_toList]
        omega
      · have e1 : cur.toList.take (o + n * i.size) = cur.toList.take o ++ xs := by
          rw [List.take_add, hcs]
        have e2 : (cur.toList.take o).length = o := by rw [List.length_take, Array.length_toList]; omega
        show ((cur.toList.take (o + n * i.size) ++ us ++ cur.toList.drop (o + n * i.size + us.length)).drop o).take ((n + 1) * i.size) = xs ++ us
        rw [e1, List.append_assoc, List.append_assoc, List.drop_left' e2, ← List.append_assoc, ← hlen]
        exact List.take_left
    · have hcc : ∀ j u, xs[j]? = some u → w.cell? ((⟨g, o, none⟩ : Addr).add j) = some u := fun j u hu => by
        have hadd : (⟨g, o, none⟩ : Addr).add j = ⟨g, o + j, none⟩ := by unfold Addr.add; split <;> simp_all
        rw [hadd]
        exact (o_cell hown rfl hu rfl).1
      have hr := run_append_grow (P := P) w t ty e i z ht hi hz ⟨g, o, none⟩ n cap xs hown.1 hcc ad 1 c us hus hcells (by omega) (by unfold maxLen at h63; omega) (growslice_fits (by omega) hb)
      have hge := grownCap_ge w (n + 1) cap e
      have hcm : grownCap w (n + 1) cap e ≤ maxLen := grownCap_le_maxLen w (n + 1) cap e h63
      refine ⟨_, _, hr, ⟨hlen, .inr ⟨w.heap.size, 0, _, _, rfl, heap_alloc_new w.drew _, hge, hcm, ?_, ?_⟩⟩, ⟨rfl, rfl, rfl, by simp, fun b hb _ => Below.heap_alloc w.drew _ b hb⟩, .inr rfl⟩
      · simp only [Array.size_append, List.size_toArray, size_zeroCells, hzs, hown.1, hus, ← Nat.add_mul]
        rw [Nat.zero_add]
        congr 1
        omega
      · simp only [Array.toList_append, List.append_assoc, List.drop_zero]
        rw [← List.append_assoc, ← hlen]
        exact List.take_left
theorem app_elemO {P : Program} (w : World) {ops : Array Oper} {rest : List Oper} {o : Oper} {a : Act} {Q : Exit → Act → World → Prop} (hgd : o.guard = none) (s x : Operand) (t : TypeId)
    (ho : o.op = .call { callee := .builtin .append, args := #[s, x], argTypes := #[t, t] })
    (e : TypeId) (i : TypeInfo) (z : Value) (k bytes : Nat) (ht : P.underlying t = some (.slice e)) (hi : P.info? e = some i) (hz : i.zero = some z)
    (hsize : i.size = k) (hby : i.bytes = bytes) (hzs : z.cells.size = k) (hk : 0 < k)
    (v : Value) (n : Nat) (xs : List Value) (hs : a.eval s = v) (hown : w.ownsO e k v n xs) (us : List Value) (hus : us.length = k) (g0 : Nat) (W : World) (hW : W = w.alloc (.cells us.toArray e)) (hg0 : g0 = w.heap.size) (hx : a.eval x = .slice (some ⟨g0, 0, none⟩) 1 1) (h1 : ∀ u ∈ us, u.oneCell' = true)
    (hn : n ≤ 1099511627776) (hby2 : bytes ≤ 100)
    (h : ∀ v' w', w'.ownsO e k v' (n + 1) (xs ++ us) → W.grownBy w' v.ownBlock → (v'.ownBlock = v.ownBlock ∨ v'.ownBlock = some (w.heap.size + 1)) → wpList P ops Q rest (a.put o.dst v') w') : wpList P ops Q (o :: rest) a W := by
  subst hW hg0
  have hb : (n + 1) * bytes ≤ 140737488355328 := Nat.le_trans (Nat.mul_le_mul (show n + 1 ≤ 1099511627777 by omega) hby2) (by decide)
  refine wpList_plain hgd fun K hK => ?_
  obtain ⟨v', w', hr, h2, h3, h5⟩ := run_app_o (P := P) (w.alloc (.cells us.toArray e)) t o.type e i z k bytes ht hi hz hsize hby hzs hk v n xs (o_alloc hown _) ⟨w.heap.size, 0, none⟩ 1 us (by simpa using hus) (fun j u hu => by
    have hadd : (⟨w.heap.size, 0, none⟩ : Addr).add j = ⟨w.heap.size, j, none⟩ := by unfold Addr.add; split <;> simp_all
    rw [hadd, (Whole.new w e us.toArray).cell j]
    simpa using hu) h1 (by unfold maxLen; omega) hb
  unfold Oper.wp execOp
  simp only [ho, resolve, invoke, builtin, Sem.run_bind, Sem.run_pure, Result.andThen_ok, List.map_toArray, List.map_cons, List.map_nil, hs, hx, hr]
  exact hK _ _ (h v' w' h2 h3 (by simpa using h5))

/-! ## a journal in memory -/
/-- a record as it lies in memory -/
structure RcM where
  r : List Int
  A : Option Addr
  c : Nat
def RcM.v (x : RcM) : Value := .slice x.A x.r.length x.c
structure SgM where
  num : Nat
  v : Value
  rs : List RcM
def SgM.sg (m : SgM) : Sg := ⟨m.num, m.rs.map RcM.r⟩
def SgM.cells (m : SgM) : List Value := [.int .u64 m.num, .int .i64 (m.sg.size : Nat), m.v]
def cR (rs : List RcM) : List Value := rs.map RcM.v
def cG (ms : List SgM) : List Value := ms.flatMap SgM.cells
theorem cR_one (rs : List RcM) : ∀ u ∈ cR rs, u.oneCell' = true := by
  intro u hu
  obtain ⟨x, _, rfl⟩ := List.mem_map.1 hu
  rfl
theorem cG_length (ms : List SgM) : (cG ms).length = ms.length * 3 := by
  induction ms with
  | nil => rfl
  | cons m r ih => simp only [cG, List.flatMap_cons, List.length_append, SgM.cells, List.length_cons, List.length_nil] at ih ⊢; omega
theorem cG_append (a b : List SgM) : cG (a ++ b) = cG a ++ cG b := by simp [cG, List.flatMap_append]
theorem cG_snoc (p : List SgM) (m : SgM) : cG (p ++ [m]) = cG p ++ m.cells := by simp [cG]
theorem cG_at (p : List SgM) (m : SgM) (r : List SgM) (k : Nat) (hk : k < 3) : (cG (p ++ m :: r))[p.length * 3 + k]? = m.cells[k]? := by
  rw [cG_append, List.getElem?_append_right (by rw [cG_length]; omega), cG_length, show p.length * 3 + k - p.length * 3 = k by omega]
  show (m.cells ++ cG r)[k]? = _
  rw [List.getElem?_append_left (by simp [SgM.cells]; omega)]
theorem set_three (l m : List Value) (a b c : Value) : ((l ++ [a, b, c]).set (l.length + 2) m[0]!).length = l.length + 3 := by simp

def topJ (j d : Nat) (s : ByteArray) (off : Bool) (next : Nat) (vs : Value) : Array Value := #[.pointer (some ⟨j, 0, none⟩), .pointer (some ⟨d, 0, none⟩), .string s, .bool off, .int .u64 next, vs]

structure JnAt (w : World) (T : Nat → Prop) (j d : Nat) (s : ByteArray) (off : Bool) (next : Nat) (vs : Value) (ms : List SgM) : Prop where
  top : Whole w j 79 (topJ j d s off next vs)
  row : w.ownsO 88 3 vs ms.length (cG ms)
  rows : ∀ m ∈ ms, w.ownsRow 0 30 1 m.v m.rs.length (cR m.rs)
  bods : ∀ m ∈ ms, ∀ x ∈ m.rs, w.ownsRow 0 5 1 x.v x.r.length (c8 x.r)
  inj : ms.Pairwise fun m m' => ∀ g, m.v.ownBlock = some g → m'.v.ownBlock ≠ some g
  tj : T j
  tv : ∀ g, vs.ownBlock = some g → T g
  tr : ∀ m ∈ ms, ∀ g, m.v.ownBlock = some g → T g
  tb : ∀ m ∈ ms, ∀ x ∈ m.rs, ∀ g, x.v.ownBlock = some g → T g
  lt : ∀ k, T k → k < w.heap.size

def Jo (w : World) (T : Nat → Prop) (j d : Nat) (s : ByteArray) (J : Jn) : Prop := ∃ vs ms, JnAt w T j d s J.off J.next vs ms ∧ J.segs = ms.map SgM.sg

section
variable {w w' : World} {S T : Nat → Prop} {j d : Nat} {s : ByteArray} {off : Bool} {next : Nat} {vs : Value} {ms : List SgM} {J : Jn}
theorem JnAt.c0 (h : JnAt w T j d s off next vs ms) : w.cell? ⟨j, 0, none⟩ = some (.pointer (some ⟨j, 0, none⟩)) := h.top.cell 0
theorem JnAt.c1 (h : JnAt w T j d s off next vs ms) : w.cell? ⟨j, 1, none⟩ = some (.pointer (some ⟨d, 0, none⟩)) := h.top.cell 1
theorem JnAt.c2 (h : JnAt w T j d s off next vs ms) : w.cell? ⟨j, 2, none⟩ = some (.string s) := h.top.cell 2
theorem JnAt.c3 (h : JnAt w T j d s off next vs ms) : w.cell? ⟨j, 3, none⟩ = some (.bool off) := h.top.cell 3
theorem JnAt.c4 (h : JnAt w T j d s off next vs ms) : w.cell? ⟨j, 4, none⟩ = some (.int .u64 next) := h.top.cell 4
theorem JnAt.c5 (h : JnAt w T j d s off next vs ms) : w.cell? ⟨j, 5, none⟩ = some vs := h.top.cell 5
theorem JnAt.fz (h : JnAt w T j d s off next vs ms) (i : Nat) : w.frozen? ⟨j, i, none⟩ = false := h.top.frozen i
theorem JnAt.outs (h : JnAt w T j d s off next vs ms) (ho : Outs S w w') (hn : ∀ k, T k → ¬ S k) : JnAt w' T j d s off next vs ms :=
  have own : ∀ {B k n : Nat} {e : TypeId} {v : Value} {xs : List Value}, w.ownsRow B e k v n xs → (∀ g, v.ownBlock = some g → T g) → w'.ownsRow B e k v n xs := fun h hg => ownRow_block_kept h fun g hgb => ho.block g (ownRow_block h hgb).2.1 (hn g (hg g hgb))
  { top := h.top.outs ho (hn _ h.tj)
    row := o_kept h.row fun g hgb => ho.block g (o_blk h.row hgb).1 (hn g (h.tv g hgb))
    rows := fun m hm => own (h.rows m hm) (h.tr m hm)
    bods := fun m hm x hx => own (h.bods m hm x hx) (h.tb m hm x hx)
    inj := h.inj, tj := h.tj, tv := h.tv, tr := h.tr, tb := h.tb
    lt := fun k hk => Nat.lt_of_lt_of_le (h.lt k hk) ho.size }
theorem JnAt.go (h : JnAt w T j d s off next vs ms) (hb : Below w.heap.size w w') : JnAt w' T j d s off next vs ms := h.outs (S := fun _ => False) (Outs.of hb) (fun _ _ h => h)
/-- a cell of its own is written: not the segments -/
theorem JnAt.head (h : JnAt w T j d s off next vs ms) (i : Nat) (u : Value) (off' : Bool) (next' : Nat) (hc : (topJ j d s off next vs).setIfInBounds i u = topJ j d s off' next' vs) : JnAt (w.setCell ⟨j, i, none⟩ u) T j d s off' next' vs ms :=
  have hk : ∀ e, e ≠ 79 → StayB e w (w.setCell ⟨j, i, none⟩ u) := fun e he => (StayB.refl e w).put h.top he u
  { top := by
      have := h.top.put i u
      rwa [hc] at this
    row := (hk _ (by decide)).ownO h.row
    rows := fun m hm => (hk _ (by decide)).own (h.rows m hm)
    bods := fun m hm x hx => (hk _ (by decide)).own (h.bods m hm x hx)
    inj := h.inj, tj := h.tj, tv := h.tv, tr := h.tr, tb := h.tb
    lt := fun k hk => by simpa [World.setCell] using h.lt k hk }
/-- another segment -/
theorem JnAt.begin (h : JnAt w T j d s off next vs ms) {n : Nat} {v' : Value} {w2 : World}
    (hown : w2.ownsO 88 3 v' (ms.length + 1) (cG ms ++ [.int .u64 n, .int .i64 0, .slice none 0 0]))
    (hg : (w.alloc (.cells #[.int .u64 n, .int .i64 0, .slice none 0 0] 88)).grownBy w2 vs.ownBlock) (hv : v'.ownBlock = vs.ownBlock ∨ v'.ownBlock = some (w.heap.size + 1)) :
    JnAt ((w2.setCell ⟨j, 5, none⟩ v').setCell ⟨j, 4, none⟩ (.int .u64 n)) (fun k => T k ∨ v'.ownBlock = some k) j d s off n v' (ms ++ [⟨n, .slice none 0 0, []⟩]) := by
  have hrA := o_alloc h.row (.cells #[.int .u64 n, .int .i64 0, .slice none 0 0] 88)
  have hk1 : ∀ e, e ≠ 88 → StayB e w w2 := fun e he => ((StayB.refl e w).alloc _).grownO hrA he hg
  have ht2 : Whole w2 j _ _ := (hk1 _ (by decide)).whole h.top
  have ht3 := ht2.put 5 v'
  have ht4 := ht3.put 4 (.int .u64 n)
  have hk2 : ∀ e, e ≠ 79 → StayB e w2 ((w2.setCell ⟨j, 5, none⟩ v').setCell ⟨j, 4, none⟩ (.int .u64 n)) := fun e he => ((StayB.refl e w2).put ht2 he v').put ht3 he _
  have hsz : ((w2.setCell ⟨j, 5, none⟩ v').setCell ⟨j, 4, none⟩ (.int .u64 n)).heap.size = w2.heap.size := by simp [World.setCell]
  have hsw : w.heap.size ≤ w2.heap.size := by have := hg.size; simp at this; omega
  refine { top := ?_, row := ?_, rows := ?_, bods := ?_, inj := ?_, tj := .inl h.tj, tv := fun g hg => .inr hg, tr := ?_, tb := ?_, lt := ?_ }
  · exact ht4
  · rw [List.length_append, cG_snoc]
    exact (hk2 _ (by decide)).ownO hown
  · intro m hm
    rcases List.mem_append.1 hm with hm | hm
    · exact (hk2 _ (by decide)).own ((hk1 _ (by decide)).own (h.rows m hm))
    · obtain rfl := List.mem_singleton.1 hm
      exact World.ownsRow_nil _ 0 _ 1
  · intro m hm x hx
    rcases List.mem_append.1 hm with hm | hm
    · exact (hk2 _ (by decide)).own ((hk1 _ (by decide)).own (h.bods m hm x hx))
    · obtain rfl := List.mem_singleton.1 hm
      cases hx
  · refine List.pairwise_append.2 ⟨h.inj, List.pairwise_singleton _ _, fun m hm m' hm' g hg => ?_⟩
    obtain rfl := List.mem_singleton.1 hm'
    simp [Value.ownBlock]
  · intro m hm g hg
    rcases List.mem_append.1 hm with hm | hm
    · exact .inl (h.tr m hm g hg)
    · obtain rfl := List.mem_singleton.1 hm
      cases hg
  · intro m hm x hx g hg
    rcases List.mem_append.1 hm with hm | hm
    · exact .inl (h.tb m hm x hx g hg)
    · obtain rfl := List.mem_singleton.1 hm
      cases hx
  · intro k hk
    rw [hsz]
    rcases hk with hk | hk
    · exact Nat.lt_of_lt_of_le (h.lt k hk) hsw
    · exact (o_blk hown hk).1
/-- a record behind the last segment's -/
theorem JnAt.note {p : List SgM} {m : SgM} (h : JnAt w T j d s off next vs (p ++ [m])) {x : RcM} {g : Nat} {v' : Value} {w2 : World} {o : Nat} (hgv : vs.ownBlock = some g) (hvo : vOff vs = o) (hx : w.ownsRow 0 5 1 x.v x.r.length (c8 x.r))
    (hown : w2.ownsRow 0 30 1 v' (m.rs.length + 1) (cR m.rs ++ [x.v]))
    (hg : (w.alloc (.cells #[x.v] 30)).grownBy w2 m.v.ownBlock) (hv : v'.ownBlock = m.v.ownBlock ∨ v'.ownBlock = some (w.heap.size + 1)) (sz : Int) (hsz : sz = (m.sg.size + (x.r.length + 12) : Nat)) :
    JnAt (((w2.setCell ⟨g, o + p.length * 3 + 2, none⟩ v').setCell ⟨g, o + p.length * 3 + 1, none⟩ (.int .i64 sz)).setCell ⟨j, 4, none⟩ (.int .u64 (next + 1 : Nat))) (fun k => T k ∨ v'.ownBlock = some k ∨ x.v.ownBlock = some k) j d s off (next + 1) vs (p ++ [⟨m.num, v', m.rs ++ [x]⟩]) := by
  subst hsz
  have hm := h.rows m (by simp)
  have hrA := hm.alloc (.cells #[x.v] 30)
  have hk1 : ∀ e, e ≠ 30 → StayB e w w2 := fun e he => ((StayB.refl e w).alloc _).grown hrA he hg
  have ht2 : Whole w2 j _ _ := (hk1 _ (by decide)).whole h.top
  have hr2 := (hk1 88 (by decide)).ownO h.row
  have hr3 := o_set (i := p.length * 3 + 2) (a := o + p.length * 3 + 2) hr2 hgv (by omega) v'
  have hr4 := o_set (i := p.length * 3 + 1) (a := o + p.length * 3 + 1) hr3 hgv (by omega) (.int .i64 (m.sg.size + (x.r.length + 12) : Nat))
  obtain ⟨_, cs2, hc2⟩ := o_blk hr2 hgv
  obtain ⟨_, cs3, hc3⟩ := o_blk hr3 hgv
  have hk2 : ∀ e, e ≠ 88 → StayB e w2 ((w2.setCell ⟨g, o + p.length * 3 + 2, none⟩ v').setCell ⟨g, o + p.length * 3 + 1, none⟩ (.int .i64 (m.sg.size + (x.r.length + 12) : Nat))) := fun e he =>
    ((StayB.refl e w2).put (show Whole w2 g _ cs2 from hc2) he v').put (show Whole _ g _ cs3 from hc3) he _
  have ht4 := (hk2 _ (by decide)).whole ht2
  have hk3 : ∀ e, e ≠ 79 → StayB e ((w2.setCell ⟨g, o + p.length * 3 + 2, none⟩ v').setCell ⟨g, o + p.length * 3 + 1, none⟩ (.int .i64 (m.sg.size + (x.r.length + 12) : Nat))) (((w2.setCell ⟨g, o + p.length * 3 + 2, none⟩ v').setCell ⟨g, o + p.length * 3 + 1, none⟩ (.int .i64 (m.sg.size + (x.r.length + 12) : Nat))).setCell ⟨j, 4, none⟩ (.int .u64 (next + 1 : Nat))) := fun e he => (StayB.refl e _).put ht4 he _
  have hsz : (((w2.setCell ⟨g, o + p.length * 3 + 2, none⟩ v').setCell ⟨g, o + p.length * 3 + 1, none⟩ (.int .i64 (m.sg.size + (x.r.length + 12) : Nat))).setCell ⟨j, 4, none⟩ (.int .u64 (next + 1 : Nat))).heap.size = w2.heap.size := by simp [World.setCell]
  have hsw : w.heap.size + 1 ≤ w2.heap.size := by have := hg.size; simpa using this
  have hinj := List.pairwise_append.1 h.inj
  -- rows of the others
  have hoth : ∀ m' ∈ p, w2.ownsRow 0 30 1 m'.v m'.rs.length (cR m'.rs) := fun m' hm' =>
    ownRow_block_kept (h.rows m' (by simp [hm'])) fun b hb => by
      have hlt := (ownRow_block (h.rows m' (by simp [hm'])) hb).2.1
      exact (hg.block b (by simp; omega) (fun eb => hinj.2.2 m' hm' m (by simp) b hb eb.symm)).trans (Below.heap_alloc w _ b hlt)
  refine { top := ?_, row := ?_, rows := ?_, bods := ?_, inj := ?_, tj := .inl h.tj, tv := fun b hb => .inl (h.tv b hb), tr := ?_, tb := ?_, lt := ?_ }
  · exact ht4.put 4 _
  · have e : cG (p ++ [⟨m.num, v', m.rs ++ [x]⟩]) = ((cG (p ++ [m])).set (p.length * 3 + 2) v').set (p.length * 3 + 1) (.int .i64 (m.sg.size + (x.r.length + 12) : Nat)) := by
      have hsz2 : (SgM.sg ⟨m.num, v', m.rs ++ [x]⟩).size = m.sg.size + (x.r.length + 12) := by
        simp only [SgM.sg, Sg.size, List.map_append, List.map_cons, List.map_nil, rsz_append, rsz_one]
      rw [cG_snoc, cG_snoc, List.set_append_right _ _ (by rw [cG_length]; omega), List.set_append_right _ _ (by rw [cG_length]; omega), cG_length, show p.length * 3 + 2 - p.length * 3 = 2 by omega, show p.length * 3 + 1 - p.length * 3 = 1 by omega]
      congr 1
      simp only [SgM.cells, hsz2]
      rfl
    rw [e, show (p ++ [(⟨m.num, v', m.rs ++ [x]⟩ : SgM)]).length = (p ++ [m]).length by simp]
    exact (hk3 _ (by decide)).ownO hr4
  · intro m' hm'
    rcases List.mem_append.1 hm' with hm' | hm'
    · exact (hk3 _ (by decide)).own ((hk2 _ (by decide)).own (hoth m' hm'))
    · obtain rfl := List.mem_singleton.1 hm'
      have := (hk3 _ (by decide)).own ((hk2 _ (by decide)).own hown)
      simpa [cR] using this
  · intro m' hm' y hy
    rcases List.mem_append.1 hm' with hm' | hm'
    · exact (hk3 _ (by decide)).own ((hk2 _ (by decide)).own ((hk1 _ (by decide)).own (h.bods m' (by simp [hm']) y hy)))
    · obtain rfl := List.mem_singleton.1 hm'
      rcases List.mem_append.1 hy with hy | hy
      · exact (hk3 _ (by decide)).own ((hk2 _ (by decide)).own ((hk1 _ (by decide)).own (h.bods m (by simp) y hy)))
      · obtain rfl := List.mem_singleton.1 hy
        exact (hk3 _ (by decide)).own ((hk2 _ (by decide)).own ((hk1 _ (by decide)).own hx))
  · refine List.pairwise_append.2 ⟨hinj.1, List.pairwise_singleton _ _, fun m' hm' m2 hm2 b hb => ?_⟩
    obtain rfl := List.mem_singleton.1 hm2
    show v'.ownBlock ≠ some b
    have hlt := (ownRow_block (h.rows m' (by simp [hm'])) hb).2.1
    rcases hv with e | e <;> rw [e]
    · exact hinj.2.2 m' hm' m (by simp) b hb
    · intro e2
      injection e2 with e2
      omega
  · intro m' hm' b hb
    rcases List.mem_append.1 hm' with hm' | hm'
    · exact .inl (h.tr m' (by simp [hm']) b hb)
    · obtain rfl := List.mem_singleton.1 hm'
      exact .inr (.inl hb)
  · intro m' hm' y hy b hb
    rcases List.mem_append.1 hm' with hm' | hm'
    · exact .inl (h.tb m' (by simp [hm']) y hy b hb)
    · obtain rfl := List.mem_singleton.1 hm'
      rcases List.mem_append.1 hy with hy | hy
      · exact .inl (h.tb m (by simp) y hy b hb)
      · obtain rfl := List.mem_singleton.1 hy
        exact .inr (.inr hb)
  · intro k hk
    rw [hsz]
    rcases hk with hk | hk | hk
    · have := h.lt k hk; omega
    · exact (ownRow_block hown hk).2.1
    · have := (ownRow_block hx hk).2.1; omega
end
end Go.Proofs.YtbobakfcmkaijaaGreatDoor
end

section
/- The journal's smallest methods. -/
namespace Go.Proofs.YtbobakfcmkaijaaGreatDoor
open Go.RowKit
set_option linter.unusedVariables false

/-! ## whose is it? -/
theorem infoJn : (Tryz.prog.info? 79).isSome = true := by kernel_rfl
theorem jneq_same (d : Nat) (w : World) : (binOp .neq 46 (.pointer (some ⟨d, 0, none⟩)) (.pointer (some ⟨d, 0, none⟩))).run Tryz.prog w = .ok (.bool false) w := by
  obtain ⟨j, hj⟩ := Option.isSome_iff_exists.1 infoJn
  exact Go.Lib.run_neq_ptr_same (P := Tryz.prog) w _ Tryz.underlying46 hj
theorem jneq_nil (d : Nat) (w : World) : (binOp .neq 46 (.pointer none) (.pointer (some ⟨d, 0, none⟩))).run Tryz.prog w = .ok (.bool true) w := by
  have h : ∀ k : Nat, (Op.equalIn (k + 1) 46 (.pointer none) (.pointer (some ⟨d, 0, none⟩))).run Tryz.prog w = .ok false w := fun k => by
    simp [Op.equalIn, run_underlying Tryz.underlying46]
  simp only [binOp]
  simp [Op.equal, Op.maxDepth, h 9999]
set_option maxRecDepth 4000 in
theorem jnobodys_no (d : Nat) (w : World) (h0 : w.cell? ⟨d, 0, none⟩ = some (.pointer (some ⟨d, 0, none⟩))) :
    Calls Tryz.prog 49 #[.pointer (some ⟨d, 0, none⟩)] w fun e w' => e = .returned (.bool false) ∧ w' = w := by
  have hq := jneq_same d w
  go_enter Tryz.func49, Tryz.ntmps49
  go_wp2
  go_ret
  exact ⟨by simp, rfl⟩
theorem jnobodys_nil (w : World) :
    Calls Tryz.prog 49 #[.pointer none] w fun e w' => e = .returned (.bool true) ∧ w' = w := by
  go_enter Tryz.func49, Tryz.ntmps49
  go_wp2
  go_ret
  exact ⟨by simp, rfl⟩
set_option maxRecDepth 4000 in
theorem jnobodys_zero (d : Nat) (w : World) (h0 : w.cell? ⟨d, 0, none⟩ = some (.pointer none)) :
    Calls Tryz.prog 49 #[.pointer (some ⟨d, 0, none⟩)] w fun e w' => e = .returned (.bool true) ∧ w' = w := by
  have hq := jneq_nil d w
  go_enter Tryz.func49, Tryz.ntmps49
  go_wp2
  go_ret
  exact ⟨by simp, rfl⟩
/-- a pointer that is no journal's -/
def NobodyJ (w : World) (p : Option Addr) : Prop := p = none ∨ ∃ d, p = some ⟨d, 0, none⟩ ∧ w.cell? ⟨d, 0, none⟩ = some (.pointer none)
theorem jnobodys_yes (p : Option Addr) (w : World) (h : NobodyJ w p) :
    Calls Tryz.prog 49 #[.pointer p] w fun e w' => e = .returned (.bool true) ∧ w' = w := by
  rcases h with rfl | ⟨d, rfl, h⟩
  · exact jnobodys_nil w
  · exact jnobodys_zero d w h

section
variable {w w' : World} {S T : Nat → Prop} {j d : Nat} {s : ByteArray} {off : Bool} {next : Nat} {vs : Value} {ms : List SgM} {J : Jn}
theorem Jo.top0 (h : Jo w T j d s J) : w.cell? ⟨j, 0, none⟩ = some (.pointer (some ⟨j, 0, none⟩)) := by
  obtain ⟨vs, ms, h, _⟩ := h
  exact h.c0
theorem Jo.lt (h : Jo w T j d s J) : ∀ k, T k → k < w.heap.size := by
  obtain ⟨vs, ms, h, _⟩ := h
  exact h.lt
theorem Jo.tj (h : Jo w T j d s J) : T j := by
  obtain ⟨vs, ms, h, _⟩ := h
  exact h.tj
theorem Jo.outs (h : Jo w T j d s J) (ho : Outs S w w') (hn : ∀ k, T k → ¬ S k) : Jo w' T j d s J := by
  obtain ⟨vs, ms, h, e⟩ := h
  exact ⟨vs, ms, h.outs ho hn, e⟩
theorem Jo.go (h : Jo w T j d s J) (hb : Below w.heap.size w w') : Jo w' T j d s J := by
  obtain ⟨vs, ms, h, e⟩ := h
  exact ⟨vs, ms, h.go hb, e⟩
/-- the last one -/
theorem segs_last (h : JnAt w T j d s off next vs ms) (hne : ms ≠ []) : ∃ p m, ms = p ++ [m] := ⟨ms.dropLast, ms.getLast hne, (List.dropLast_concat_getLast hne).symm⟩
theorem last_sg (p : List SgM) (m : SgM) : lastOf ((p ++ [m]).map SgM.sg) = m.sg := by rw [List.map_append]; exact lastOf_snoc _ _

/-! ## end, last, begin, note -/
theorem jend_any (e : Int) (w : World) (h : Jo w T j d s J) :
    Calls Tryz.prog 85 #[.pointer (some ⟨j, 0, none⟩), .int .i64 e] w fun r w' => r = .returned (.int .i64 e) ∧ Jo w' T j d s (jEnd J e) ∧ Turn T T w w' := by
  obtain ⟨vs, ms, h, hs⟩ := h
  by_cases he : e = 10
  · subst he
    have f3 := h.fz 3
    have c3 := h.c3
    have e1 : jEnd J 10 = { J with off := true } := by simp [jEnd]
    have h1 : Jo (w.setCell ⟨j, 3, none⟩ (.bool true)) T j d s (jEnd J 10) := by
      rw [e1]
      exact ⟨vs, ms, h.head 3 _ _ _ (by simp [topJ]), hs⟩
    have h2 : Turn T T w (w.setCell ⟨j, 3, none⟩ (.bool true)) := ⟨(Outs.refl _ _).setCell (.inl h.tj) _, fun _ h => .inl h⟩
    have H1 := Lib.hid h1
    have H2 := Lib.hid h2
    clear h1 h2 e1 h
    go_enter Tryz.func85, Tryz.ntmps85
    go_wp2
    go_returns
    exact ⟨by simp, H1.out, H2.out⟩
  · have hn : (e == 10) = false := by simpa using he
    have e1 : jEnd J e = J := by simp [jEnd, he]
    have h1 : Jo w T j d s (jEnd J e) := by rw [e1]; exact ⟨vs, ms, h, hs⟩
    have H1 := Lib.hid h1
    clear h1 e1 h
    go_enter Tryz.func85, Tryz.ntmps85
    go_wp2
    go_returns
    exact ⟨by simp, H1.out, Turn.refl _ _⟩

theorem addr_to (g off k : Nat) : (⟨g, off, none⟩ : Addr).add k = ⟨g, off + k, none⟩ := by unfold Addr.add; split <;> simp_all
/-- 'j.last()': where the last segment stands -/
theorem jlast_at {g o c n : Nat} (w : World) (h5 : w.cell? ⟨j, 5, none⟩ = some (.slice (some ⟨g, o, none⟩) (n + 1) c)) (hn : n ≤ 1099511627776) :
    Calls Tryz.prog 56 #[.pointer (some ⟨j, 0, none⟩)] w fun r w' => r = .returned (.pointer (some ⟨g, o + n * 3, none⟩)) ∧ ∃ q, w' = w.drewN q := by
  have h1 : ((n + 1 : Nat) : Int) - 1 = n := by omega
  go_enter Tryz.func56, Tryz.ntmps56
  go_wp2
  go_quiet (fail)
  go_wp2
  go_returns
  exact ⟨by simp, _, rfl⟩

/-- only the journal's own types turn -/
def Still (w w' : World) : Prop := ∀ e, e ≠ 79 → e ≠ 88 → e ≠ 30 → StayB e w w'
theorem Still.trans {a b c : World} (h : Still a b) (k : Still b c) : Still a c := fun e h1 h2 h3 => (h e h1 h2 h3).trans (k e h1 h2 h3)
theorem Still.below {a b : World} (h : Below a.heap.size a b) : Still a b := fun e _ _ _ => StayB.below h (Nat.le_refl _)
theorem infoSg : (Tryz.prog.info? 88).map (fun i => (i.zero, i.size, i.bytes)) = some (some (.agg #[.int .u64 0, .int .i64 0, .slice none 0 0]), 3, 40) := by kernel_rfl
theorem infoBs : (Tryz.prog.info? 30).map (fun i => (i.zero, i.size, i.bytes)) = some (some (.slice none 0 0), 1, 24) := by kernel_rfl
theorem info3 {x : Option TypeInfo} {z : Value} {a b : Nat} (h : x.map (fun i => (i.zero, i.size, i.bytes)) = some (some z, a, b)) : ∃ i, x = some i ∧ i.zero = some z ∧ i.size = a ∧ i.bytes = b := by
  cases x with
  | none => cases h
  | some i =>
    simp only [Option.map_some, Option.some.injEq, Prod.mk.injEq] at h
    exact ⟨i, rfl, h.1, h.2.1, h.2.2⟩

set_option maxRecDepth 10000 in
theorem jbegin_at (n : Nat) (w : World) (h : JnAt w T j d s off next vs ms) (hn : n ≤ 9223372036854775807) (hms : ms.length ≤ 1099511627776) :
    Calls Tryz.prog 81 #[.pointer (some ⟨j, 0, none⟩), .int .u64 n] w fun r w' => r = .returned (.tuple #[]) ∧ ∃ T' v', JnAt w' T' j d s off n v' (ms ++ [⟨n, .slice none 0 0, []⟩]) ∧ Turn T T' w w' ∧ Still w w' := by
  obtain ⟨i0, hi, hz0, hz1, hz2⟩ := info3 infoSg
  have c5 := h.c5
  have H := Lib.hid h
  have hT := h.lt
  go_enter Tryz.func81, Tryz.ntmps81
  have hrow := h.row
  have hsz : ∀ W, Whole W j 79 (topJ j d s off next vs) → W.cell? ⟨j, 4, none⟩ = some (.int .u64 next) := fun W hW => hW.cell 4
  go_wp2_with (at_builtin; go_loud (refine app_elemO w rfl (.tmp 8) (.tmp 11) 77 rfl 88 i0 (.agg #[.int .u64 0, .int .i64 0, .slice none 0 0]) 3 40 Tryz.underlying77 hi hz0 hz1 hz2 rfl (by decide) vs ms.length (cG ms) rfl hrow [.int .u64 n, .int .i64 0, .slice none 0 0] rfl w.heap.size _ rfl rfl rfl (by simp [Value.oneCell']) hms (by decide) ?_))
  intro v' w2 hown hg hv
  have hB := h.begin hown hg hv
  have ht2 : Whole w2 j 79 (topJ j d s off next vs) := (((StayB.refl _ w).alloc _).grownO (o_alloc h.row _) (by decide) hg).whole h.top
  have k5 : w2.cell? ⟨j, 5, none⟩ = some vs := ht2.cell 5
  have f5 := ht2.frozen 5
  have ht3 := ht2.put 5 v'
  have k4 : (w2.setCell ⟨j, 5, none⟩ v').cell? ⟨j, 4, none⟩ = some (.int .u64 next) := ht3.cell 4
  have f4 := ht3.frozen 4
  have hTn : Turn T (fun k => T k ∨ v'.ownBlock = some k) w ((w2.setCell ⟨j, 5, none⟩ v').setCell ⟨j, 4, none⟩ (.int .u64 n)) := by
    have hsw : w.heap.size ≤ w.heap.size + 1 := Nat.le_succ _
    refine ⟨((((Outs.refl T w).alloc _).grown hg fun k hk => .inl (h.tv k hk)).setCell (.inl h.tj) _).setCell (.inl h.tj) _, fun k hk => ?_⟩
    rcases hk with hk | hk
    · exact .inl hk
    · rcases hv with e | e
      · exact .inl (h.tv k (e ▸ hk))
      · rw [e] at hk
        injection hk with hk
        exact .inr (by omega)
  have hSt : Still w ((w2.setCell ⟨j, 5, none⟩ v').setCell ⟨j, 4, none⟩ (.int .u64 n)) := fun e h1 h2 h3 => (((((StayB.refl e w).alloc _).grownO (o_alloc h.row _) h2 hg).put ht2 h1 _).put ht3 h1 _)
  have HB := Lib.hid hB
  have HT := Lib.hid hTn
  have HSt := Lib.hid hSt
  obtain ⟨A', c', rfl⟩ := o_any hown
  clear hSt hB hTn hown hg hv h c5 hrow ht2 ht3 H
  go_wp2
  go_returns
  exact ⟨rfl, _, _, HB.out, HT.out, HSt.out⟩

set_option maxRecDepth 10000 in
set_option maxHeartbeats 800000 in
theorem jnote_at {p : List SgM} {m : SgM} (x : RcM) (w : World) (h : JnAt w T j d s off next vs (p ++ [m])) (hx : w.ownsRow 0 5 1 x.v x.r.length (c8 x.r)) (hn : next ≤ 4611686018427387904) (hp : p.length ≤ 1099511627776) (hm : m.rs.length ≤ 1099511627776)
    (hsz : m.sg.size + (x.r.length + 12) ≤ 9223372036854775807) (hxl : x.r.length ≤ 1099511627776) :
    Calls Tryz.prog 57 #[.pointer (some ⟨j, 0, none⟩), .slice x.A x.r.length x.c] w fun r w' => r = .returned (.tuple #[]) ∧ ∃ v', JnAt w' (fun k => T k ∨ v'.ownBlock = some k ∨ x.v.ownBlock = some k) j d s off (next + 1) vs (p ++ [⟨m.num, v', m.rs ++ [x]⟩]) ∧ Outs T w w' ∧ (∀ k, v'.ownBlock = some k → T k ∨ w.heap.size ≤ k) ∧ Still w w' := by
  obtain ⟨i0, hi, hz0, hz1, hz2⟩ := info3 infoBs
  have hrow := h.row
  rw [List.length_append, List.length_singleton] at hrow
  obtain ⟨g, o, c, hvs, hgv, hvo, _, _⟩ := o_block hrow (Nat.succ_pos _)
  have c5 : w.cell? ⟨j, 5, none⟩ = some (.slice (some ⟨g, o, none⟩) (p.length + 1) c) := by rw [h.c5, hvs]
  have hlast := jlast_at w c5 hp
  have H := Lib.hid h
  have HX := Lib.hid hx
  clear h hx hrow c5
  go_enter Tryz.func57, Tryz.ntmps57
  go_wp2_with fail
  refine hlast.mono ?_
  rintro r w1 ⟨rfl, q, rfl⟩
  have hb1 : Below w.heap.size w (w.drewN q) := bDrewN (Below.refl _ w) q
  have h1 := H.out.go hb1
  have hx1 : (w.drewN q).ownsRow 0 5 1 x.v x.r.length (c8 x.r) := HX.out
  clear hlast H HX
  generalize w.drewN q = w1 at *
  have hrow1 := h1.row
  have hc2 := (o_cell (i := p.length * 3 + 2) (a := o + p.length * 3 + 2) hrow1 hgv (cG_at p m [] 2 (by decide)) (by omega)).1
  have hmr := h1.rows m (by simp)
  go_wp2_with (at_builtin; go_loud (refine app_elem w1 rfl (.tmp 11) (.tmp 13) 40 rfl 0 30 i0 (.slice none 0 0) 1 24 Tryz.underlying40 hi hz0 hz1 hz2 rfl (by decide) m.v m.rs.length (cR m.rs) rfl hmr [.slice x.A x.r.length x.c] rfl w1.heap.size _ rfl rfl rfl (by simp [Value.oneCell']) hm (by decide) (Nat.zero_le _) ?_))
  intro v' w2 hown hg hv
  have hsz2 : (m.sg.size : Int) + (12 + (x.r.length : Int)) = ((m.sg.size + (x.r.length + 12) : Nat) : Int) := by omega
  have hN := h1.note hgv hvo hx1 hown hg hv ((m.sg.size : Int) + (12 + (x.r.length : Int))) hsz2
  have hk1 : StayB 88 w1 w2 := ((StayB.refl _ w1).alloc _).grown (hmr.alloc _) (by decide) hg
  have hkj : StayB 79 w1 w2 := ((StayB.refl _ w1).alloc _).grown (hmr.alloc _) (by decide) hg
  have hr2 := hk1.ownO hrow1
  have e2 := o_cell (i := p.length * 3 + 2) (a := o + p.length * 3 + 2) hr2 hgv (cG_at p m [] 2 (by decide)) (by omega)
  have hr3 := o_set (i := p.length * 3 + 2) (a := o + p.length * 3 + 2) hr2 hgv (by omega) v'
  have e3 := o_cell (i := p.length * 3 + 1) (a := o + p.length * 3 + 1) (u := .int .i64 (m.sg.size : Nat)) hr3 hgv (by rw [List.getElem?_set_ne (by omega)]; exact cG_at p m [] 1 (by decide)) (by omega)
  have hr4 := o_set (i := p.length * 3 + 1) (a := o + p.length * 3 + 1) hr3 hgv (by omega) (.int .i64 ((m.sg.size : Int) + (12 + (x.r.length : Int))))
  obtain ⟨_, cs2, hcs2⟩ := o_blk hr2 hgv
  obtain ⟨_, cs3, hcs3⟩ := o_blk hr3 hgv
  have ht4 := (((StayB.refl 79 w2).put (i := o + p.length * 3 + 2) (show Whole w2 g _ cs2 from hcs2) (by decide) v').put (i := o + p.length * 3 + 1) (show Whole _ g _ cs3 from hcs3) (by decide) (.int .i64 ((m.sg.size : Int) + (12 + (x.r.length : Int))))).whole (hkj.whole h1.top)
  have k4 : ((w2.setCell ⟨g, o + p.length * 3 + 2, none⟩ v').setCell ⟨g, o + p.length * 3 + 1, none⟩ (.int .i64 ((m.sg.size : Int) + (12 + (x.r.length : Int))))).cell? ⟨j, 4, none⟩ = some (.int .u64 next) := ht4.cell 4
  have f4 := ht4.frozen 4
  have hTg := h1.tv g hgv
  have hO : Outs T w (((w2.setCell ⟨g, o + p.length * 3 + 2, none⟩ v').setCell ⟨g, o + p.length * 3 + 1, none⟩ (.int .i64 ((m.sg.size : Int) + (12 + (x.r.length : Int))))).setCell ⟨j, 4, none⟩ (.int .u64 (next + 1 : Nat))) :=
    (((((((Outs.of hb1 : Outs T w w1).alloc _).grown hg fun k hk => .inl (h1.tr m (by simp) k hk)).setCell (.inl hTg) _).setCell (.inl hTg) _).setCell (.inl h1.tj) _))
  have hSt : Still w (((w2.setCell ⟨g, o + p.length * 3 + 2, none⟩ v').setCell ⟨g, o + p.length * 3 + 1, none⟩ (.int .i64 ((m.sg.size : Int) + (12 + (x.r.length : Int))))).setCell ⟨j, 4, none⟩ (.int .u64 ((next : Int) + 1))) := fun e h1' h2' h3' =>
    ((((((StayB.below hb1 (Nat.le_refl _)).alloc _).grown (hmr.alloc _) h3' hg).put (i := o + p.length * 3 + 2) (show Whole w2 g _ cs2 from hcs2) h2' v').put (i := o + p.length * 3 + 1) (show Whole _ g _ cs3 from hcs3) h2' _).put ht4 h1' _)
  have hvT : ∀ k, v'.ownBlock = some k → T k ∨ w.heap.size ≤ k := fun k hk => by
    rcases hv with e | e
    · exact .inl (h1.tr m (by simp) k (e ▸ hk))
    · rw [e] at hk
      injection hk with hk
      have := hb1.size
      exact .inr (by omega)
  rw [show ((next + 1 : Nat) : Int) = (next : Int) + 1 by omega] at hN hO
  have HN := Lib.hid hN
  have HO := Lib.hid hO
  have HV := Lib.hid hvT
  have HSt := Lib.hid hSt
  obtain ⟨A', c', rfl⟩ := row_any hown
  obtain ⟨e2, f2⟩ := e2
  obtain ⟨e3, f3⟩ := e3
  clear hSt hsz2 hN hO hvT hown hg hv h1 hk1 hkj hr2 hr3 hr4 hcs2 hcs3 ht4 hrow1 hc2 hmr hx1 hb1
  go_wp2
  go_returns
  exact ⟨rfl, _, HN.out, HO.out, HV.out, HSt.out⟩
end
end Go.Proofs.YtbobakfcmkaijaaGreatDoor
end

section
/- Calls of a disk that is not there, or that nobody made. -/
namespace Go.Proofs.YtbobakfcmkaijaaGreatDoor
open Go.RowKit
set_option linter.unusedVariables false

theorem Nobody.below {w w' : World} {p : Option Addr} (h : Nobody w p) (hl : ∀ d, p = some d → d.block < w.heap.size) (hb : Below w.heap.size w w') : Nobody w' p := by
  rcases h with rfl | ⟨d, rfl, h⟩
  · exact .inl rfl
  · exact .inr ⟨d, rfl, (hb.cell (p := ⟨d, 0, none⟩) (hl _ rfl)).trans h⟩

section
variable {w : World} {p : Option Addr}
set_option maxRecDepth 5000 in
theorem make_no (h : Nobody w p) (hl : ∀ d, p = some d → d.block < w.heap.size) (s : ByteArray) : Calls Tryz.prog 80 #[.pointer p, .string s] w fun e w' => e = .returned (.int .i64 1) ∧ Below w.heap.size w w' := by
  have hb : Below w.heap.size w (((w.alloc (.cells #[.pointer p] 23)).alloc (.cells #[.string s] 9)).alloc (.cells #[.string s] 9)) := (((Below.refl _ w).alloc (Nat.le_refl _) _).alloc (by simp) _).alloc (by simp; omega) _
  have hcon := fun v => refusal_no p v _ (h.below hl hb)
  have HB := Lib.hid hb
  clear hb h hl
  go_enter Tryz.func80, Tryz.ntmps80
  go_wp2_with fail
  refine (hcon _).mono ?_
  rintro e w' ⟨rfl, rfl⟩
  go_wp2
  go_returns
  exact ⟨by simp, HB.out⟩
set_option maxRecDepth 5000 in
theorem rename_no (h : Nobody w p) (hl : ∀ d, p = some d → d.block < w.heap.size) (s r : ByteArray) : Calls Tryz.prog 90 #[.pointer p, .string s, .string r] w fun e w' => e = .returned (.int .i64 1) ∧ Below w.heap.size w w' := by
  have hb : Below w.heap.size w ((((w.alloc (.cells #[.pointer p] 23)).alloc (.cells #[.string s] 9)).alloc (.cells #[.string r] 9)).alloc (.cells #[.string s, .string r] 9)) := ((((Below.refl _ w).alloc (Nat.le_refl _) _).alloc (by simp) _).alloc (by simp; omega) _).alloc (by simp; omega) _
  have hcon := fun v => refusal_no p v _ (h.below hl hb)
  have HB := Lib.hid hb
  clear hb h hl
  go_enter Tryz.func90, Tryz.ntmps90
  go_wp2_with fail
  refine (hcon _).mono ?_
  rintro e w' ⟨rfl, rfl⟩
  go_wp2
  go_returns
  exact ⟨by simp, HB.out⟩
theorem fuse_no (h : Nobody w p) (_ : ∀ d, p = some d → d.block < w.heap.size) (n : Int) : Calls Tryz.prog 17 #[.pointer p, .int .i64 n] w fun e w' => e = .returned (.int .i64 1) ∧ w' = w := by
  have hcon := fun v => refusal_no p v w h
  clear h
  go_enter Tryz.func17, Tryz.ntmps17
  go_wp2_with fail
  refine (hcon _).mono ?_
  rintro e w' ⟨rfl, rfl⟩
  go_wp2
  go_returns
  exact ⟨by simp, rfl⟩
set_option maxRecDepth 5000 in
theorem remove_no (h : Nobody w p) (hl : ∀ d, p = some d → d.block < w.heap.size) (s : ByteArray) : Calls Tryz.prog 63 #[.pointer p, .string s] w fun e w' => e = .returned (.int .i64 1) ∧ Below w.heap.size w w' := by
  have hb : Below w.heap.size w ((w.alloc (.cells #[.pointer p] 23)).alloc (.cells #[.string s] 9)) := ((Below.refl _ w).alloc (Nat.le_refl _) _).alloc (by simp) _
  have hcon := find_no p s _ (h.below hl hb)
  generalize hW : (w.alloc (.cells #[.pointer p] 23)).alloc (.cells #[.string s] 9) = W at *
  have HW := Lib.hid hW
  clear hW h hl
  go_enter Tryz.func63, Tryz.ntmps63
  go_wp2_with fail
  rw [HW.out]
  refine hcon.mono ?_
  rintro e w' ⟨rfl, hb1⟩
  go_wp2
  go_returns
  exact ⟨by simp, hb.trans (hb1.mono hb.size)⟩
set_option maxRecDepth 5000 in
theorem sync_no (h : Nobody w p) (_ : ∀ d, p = some d → d.block < w.heap.size) (s : ByteArray) : Calls Tryz.prog 87 #[.pointer p, .string s] w fun e w' => e = .returned (.int .i64 1) ∧ Below w.heap.size w w' := by
  have hcon := find_no p s w h
  clear h
  go_enter Tryz.func87, Tryz.ntmps87
  go_wp2_with fail
  refine hcon.mono ?_
  rintro e w' ⟨rfl, hb1⟩
  go_wp2
  go_returns
  exact ⟨by simp, hb1.alloc hb1.size _⟩
theorem read_no (h : Nobody w p) (_ : ∀ d, p = some d → d.block < w.heap.size) (s : ByteArray) : Calls Tryz.prog 72 #[.pointer p, .string s] w fun e w' => e = .returned (.tuple #[.slice none 0 0, .int .i64 1]) ∧ Below w.heap.size w w' := by
  have hcon := find_no p s w h
  clear h
  go_enter Tryz.func72, Tryz.ntmps72
  go_wp2_with fail
  refine hcon.mono ?_
  rintro e w' ⟨rfl, hb1⟩
  go_wp2
  go_returns
  exact ⟨by simp, hb1⟩
theorem synced_no (h : Nobody w p) (_ : ∀ d, p = some d → d.block < w.heap.size) (s : ByteArray) : Calls Tryz.prog 44 #[.pointer p, .string s] w fun e w' => e = .returned (.tuple #[.int .i64 0, .int .i64 1]) ∧ Below w.heap.size w w' := by
  have hcon := find_no p s w h
  clear h
  go_enter Tryz.func44, Tryz.ntmps44
  go_wp2_with fail
  refine hcon.mono ?_
  rintro e w' ⟨rfl, hb1⟩
  go_wp2
  go_returns
  exact ⟨by simp, hb1⟩
set_option maxRecDepth 5000 in
theorem append_no (h : Nobody w p) (hl : ∀ d, p = some d → d.block < w.heap.size) (s : ByteArray) (v : Value) : Calls Tryz.prog 53 #[.pointer p, .string s, v] w fun e w' => e = .returned (.int .i64 1) ∧ Below w.heap.size w w' := by
  have hb : Below w.heap.size w ((w.alloc (.cells #[.pointer p] 23)).alloc (.cells #[.int .i64 0] 24)) := ((Below.refl _ w).alloc (Nat.le_refl _) _).alloc (by simp) _
  have hcon := find_no p s _ (h.below hl hb)
  have x2 : Whole ((w.alloc (.cells #[.pointer p] 23)).alloc (.cells #[.int .i64 0] 24)) (w.heap.size + 1) 24 #[.int .i64 0] := by
    have := Whole.new (w.alloc (.cells #[.pointer p] 23)) 24 #[.int .i64 0]
    rw [World.size_alloc] at this
    exact this
  generalize hW : (w.alloc (.cells #[.pointer p] 23)).alloc (.cells #[.int .i64 0] 24) = W at *
  have HW := Lib.hid hW
  clear hW h hl
  go_enter Tryz.func53, Tryz.ntmps53
  go_wp2_with fail
  rw [HW.out]
  refine hcon.mono ?_
  rintro e w1 ⟨rfl, hb1⟩
  have hb2 : Below w.heap.size w w1 := hb.trans (hb1.mono hb.size)
  have y2 := x2.below hb1 x2.lt
  have k3 : (w1.alloc (.cells #[.pointer none] 69)).cell? ⟨w.heap.size + 1, 0, none⟩ = some (.int .i64 0) := (y2.alloc _).cell 0
  have k4 : (w1.alloc (.cells #[.pointer none] 69)).frozen? ⟨w.heap.size + 1, 0, none⟩ = false := (y2.alloc _).frozen 0
  have hb3 : Below w.heap.size w ((w1.alloc (.cells #[.pointer none] 69)).setCell ⟨w.heap.size + 1, 0, none⟩ (.int .i64 1)) := (hb2.alloc hb2.size _).setCell (p := ⟨w.heap.size + 1, 0, none⟩) (Nat.le_succ _) _
  have hcell : ((w1.alloc (.cells #[.pointer none] 69)).setCell ⟨w.heap.size + 1, 0, none⟩ (.int .i64 1)).cell? ⟨w.heap.size + 1, 0, none⟩ = some (.int .i64 1) := ((y2.alloc _).put 0 _).cell 0
  have HB := Lib.hid hb3
  clear hb3 x2 y2 hcon hb hb1 hb2 HW
  go_wp2
  (try simp only [Exit.inBlock, Exit.then])
  refine bodyPost_ret (by simp [results, Tryz.results53, go_sem, hcell]; try rfl) rfl ?_
  exact ⟨rfl, HB.out⟩
end
end Go.Proofs.YtbobakfcmkaijaaGreatDoor
end
