/- Several texts, each a section: Words, Math, Base, NRow, NPdqM, NIns, NRev, NPiv. -/
import Derived.WalkKit
import Derived.Below
import Derived.Laws.OwnMore
import Derived.OwnWalk
import Derived.Deep.AppendLies
import Derived.Deep.Draws
import Derived.Laws.Rows
import Derived.Maps.AppendAt
import Derived.Lib.Hide
import Derived.OneCell
import Derived.Laws.BytesArg
import Derived.Laws.Bits64b
import Derived.Laws.BitsLemmas
import Derived.IntWalk
import Derived.Test.YtnleeffajljodaaRows
import Derived.Outline
import Derived.BigQuiet
import Derived.Deep.QuietTactic
import Derived.Handy
import Derived.Sort.LotA
import Derived.Sort.LotB
import Derived.Sort.LotC
import Derived.Sort.LotD3
import Derived.CellFam
import Derived.Deep.LoopGhost
section
/- Words of ours for slices of single cells in memory, and an append whose source may be nil. No program is named here. -/
namespace Go.Proofs.Ytnleeffajljodaa
open Go.RowKit

/-- the cells that bytes take -/
def c8 (zs : List Int) : List Value := zs.map (Value.int .u8)

theorem c8_append (a b : List Int) : c8 (a ++ b) = c8 a ++ c8 b := by simp [c8]
theorem c8_length (a : List Int) : (c8 a).length = a.length := by simp [c8]
theorem c8_one (a : List Int) : ∀ u ∈ c8 a, u.oneCell' = true := by
  intro u hu
  obtain ⟨_, _, rfl⟩ := List.mem_map.1 hu
  rfl
theorem c8_get {zs : List Int} {j : Nat} (h : j < zs.length) : (c8 zs)[j]? = some (.int .u8 zs[j]) := by simp [c8, h]
theorem c8_inj : ∀ {a b : List Int}, c8 a = c8 b → a = b
  | [], [], _ => rfl
  | [], _ :: _, h => by simp [c8] at h
  | _ :: _, [], h => by simp [c8] at h
  | x :: a, y :: b, h => by
    simp only [c8, List.map_cons, List.cons.injEq] at h
    obtain ⟨h1, h2⟩ := h
    rw [c8_inj (a := a) (b := b) h2]
    injection h1 with _ h1
    rw [h1]

/-- a slice's places hold the list xs, each place below block lim; where the list is empty nothing is said -/
def Rds (w : World) (lim : Nat) (A : Option Addr) (xs : List Value) : Prop :=
  xs ≠ [] → ∃ ad, A = some ad ∧ ad.block < lim ∧ ∀ j u, xs[j]? = some u → w.cell? (ad.add j) = some u

theorem blk_add (a : Addr) (n : Nat) : (a.add n).block = a.block := by unfold Addr.add; split <;> rfl
theorem add_twice (a : Addr) (i j : Nat) : (a.add i).add j = a.add (i + j) := by
  unfold Addr.add
  by_cases hi : i = 0 <;> by_cases hj : j = 0 <;> simp [hi, hj, Nat.add_assoc]

section
variable {w w' : World} {lim : Nat} {A : Option Addr} {xs : List Value}
theorem Rds.none_ : Rds w lim none [] := fun h => absurd rfl h
theorem Rds.nil_ {A : Option Addr} : Rds w lim A [] := fun h => absurd rfl h
theorem Rds.at_ {k : Nat} {u : Value} (h : Rds w lim A xs) (hk : xs[k]? = some u) : ∃ ad, A = some ad ∧ ad.block < lim ∧ w.cell? (ad.add k) = some u := by
  have hne : xs ≠ [] := by rintro rfl; simp at hk
  obtain ⟨ad, e, hb, hc⟩ := h hne
  exact ⟨ad, e, hb, hc k u hk⟩
theorem Rds.keep (h : Rds w lim A xs) (hk : ∀ p : Addr, p.block < lim → w'.cell? p = w.cell? p) : Rds w' lim A xs := fun hne => by
  obtain ⟨ad, e, hb, hc⟩ := h hne
  exact ⟨ad, e, hb, fun j u hu => (hk _ (by rw [blk_add]; exact hb)).trans (hc j u hu)⟩
theorem Rds.more {lim' : Nat} (h : Rds w lim A xs) (hl : lim ≤ lim') : Rds w lim' A xs := fun hne => by
  obtain ⟨ad, e, hb, hc⟩ := h hne
  exact ⟨ad, e, by omega, hc⟩
theorem Rds.below (h : Rds w lim A xs) (hb : Below lim w w') : Rds w' lim A xs := h.keep fun _ hp => hb.cell hp
theorem Rds.drew (h : Rds w lim A xs) : Rds w.drew lim A xs := h
theorem Rds.drewN (h : Rds w lim A xs) (n : Nat) : Rds (w.drewN n) lim A xs := h
theorem Rds.alloc (h : Rds w lim A xs) (hl : lim ≤ w.heap.size) (o : Obj) : Rds (w.alloc o) lim A xs := h.keep fun p hp => World.cell?_alloc_lt w o p (by omega)
theorem Rds.grown {row : Option Nat} (h : Rds w lim A xs) (hg : w.grownBy w' row) (hl : lim ≤ w.heap.size) (hr : ∀ g, row = some g → lim ≤ g) : Rds w' lim A xs :=
  h.keep fun p hp => World.cell?_of_block (hg.block p.block (by omega) (fun e => by have := hr _ e.symm; omega))
theorem Rds.drop (h : Rds w lim A xs) (k cap : Nat) (hc : xs.length ≤ cap) : Rds w lim (if cap = k then A else A.map (·.add k)) (xs.drop k) := by
  intro hne
  have hk : k < xs.length := by
    rcases Nat.lt_or_ge k xs.length with h1 | h1
    · exact h1
    · exact absurd (List.drop_eq_nil_of_le h1) hne
  obtain ⟨ad, rfl, hb, hcell⟩ := h (by rintro rfl; simp at hk)
  rw [if_neg (by omega)]
  refine ⟨ad.add k, rfl, by rw [blk_add]; exact hb, fun j u hu => ?_⟩
  rw [add_twice]
  exact hcell _ u (by rw [← hu, List.getElem?_drop])
theorem Rds.take (h : Rds w lim A xs) (k : Nat) : Rds w lim A (xs.take k) := by
  intro hne
  obtain ⟨ad, e, hb, hc⟩ := h (by rintro rfl; simp at hne)
  refine ⟨ad, e, hb, fun j u hu => hc j u ?_⟩
  rw [List.getElem?_take] at hu
  split at hu
  · exact hu
  · cases hu
theorem Rds.ofOwn {base : Nat} {e : TypeId} {n c : Nat} (h : w.ownsRow base e 1 (.slice A n c) n xs) : Rds w w.heap.size A xs := by
  intro hne
  rcases h.2 with ⟨hv, hn⟩ | ⟨g, cap, cur, hv, _, hh, _⟩
  · have := h.1
    rw [hn] at this
    exact absurd (List.eq_nil_of_length_eq_zero (by simpa using this)) hne
  · injection hv with hA
    subst hA
    exact ⟨_, rfl, (Array.getElem?_eq_some_iff.1 hh).1, h.cells (g := g) rfl⟩
end

/-- a block that holds just these cells, none of them frozen -/
def Whole (w : World) (g : Nat) (t : TypeId) (cs : Array Value) : Prop := w.heap[g]? = some (.cells cs t (0, 0))

section
variable {w w' : World} {g : Nat} {t : TypeId} {cs : Array Value}
theorem Whole.lt (h : Whole w g t cs) : g < w.heap.size := (Array.getElem?_eq_some_iff.1 h).1
theorem Whole.cell (h : Whole w g t cs) (i : Nat) : w.cell? ⟨g, i, none⟩ = cs[i]? := cell_of_row w g i cs t (0, 0) h
theorem Whole.frozen (h : Whole w g t cs) (i : Nat) : w.frozen? ⟨g, i, none⟩ = false := by
  unfold Whole at h
  simp [World.frozen?, h]
theorem Whole.new (w : World) (t : TypeId) (cs : Array Value) : Whole (w.alloc (.cells cs t)) w.heap.size t cs := heap_alloc_new w _
theorem Whole.alloc (h : Whole w g t cs) (o : Obj) : Whole (w.alloc o) g t cs := (Below.heap_alloc w o g h.lt).trans h
theorem Whole.put (h : Whole w g t cs) (i : Nat) (u : Value) : Whole (w.setCell ⟨g, i, none⟩ u) g t (cs.setIfInBounds i u) := by
  unfold Whole at h ⊢
  simp [World.setCell, Array.getElem?_modify, h]
theorem Whole.far (h : Whole w g t cs) {p : Addr} (hp : g ≠ p.block) (u : Value) : Whole (w.setCell p u) g t cs := (Below.heap_setCell w p u g hp).trans h
theorem Whole.below {B : Nat} (h : Whole w g t cs) (hb : Below B w w') (hg : g < B) : Whole w' g t cs := (hb.block g hg).trans h
theorem Whole.grown {row : Option Nat} (h : Whole w g t cs) (hb : w.grownBy w' row) (hg : some g ≠ row) : Whole w' g t cs := (hb.block g h.lt hg).trans h
theorem Whole.drew (h : Whole w g t cs) : Whole w.drew g t cs := h
theorem Whole.drewN (h : Whole w g t cs) (n : Nat) : Whole (w.drewN n) g t cs := h
end

/-- only block g, and what is new, has turned -/
theorem Only.refl (w : World) (g : Nat) : w.grownBy w (some g) := World.grownBy.refl w _
theorem Only.trans {a b c : World} {g : Option Nat} (h : a.grownBy b g) (k : b.grownBy c g) : a.grownBy c g :=
  ⟨k.os.trans h.os, k.tape.trans h.tape, k.output.trans h.output, Nat.le_trans h.size k.size, fun i hi hn => (k.block i (Nat.lt_of_lt_of_le hi h.size) hn).trans (h.block i hi hn)⟩
theorem Only.drewN {a b : World} {g : Option Nat} (h : a.grownBy b g) (n : Nat) : a.grownBy (b.drewN n) g := ⟨h.os, h.tape, h.output, h.size, h.block⟩
theorem Only.drew {a b : World} {g : Option Nat} (h : a.grownBy b g) : a.grownBy b.drew g := ⟨h.os, h.tape, h.output, h.size, h.block⟩
theorem Only.put {a b : World} {g : Nat} (h : a.grownBy b (some g)) (i : Nat) (u : Value) : a.grownBy (b.setCell ⟨g, i, none⟩ u) (some g) :=
  Only.trans h ⟨rfl, rfl, rfl, by simp [World.setCell], fun k hk hn => Below.heap_setCell _ _ _ _ (fun e => hn (by rw [e]))⟩

theorem one_new (w : World) (t : TypeId) (u : Value) : ∀ j u', [u][j]? = some u' → (w.alloc (.cells #[u] t)).cell? ((⟨w.heap.size, 0, none⟩ : Addr).add j) = some u' := by
  intro j u' h
  match j, h with
  | 0, h =>
    simp at h
    subst h
    exact (Whole.new w t #[u]).cell 0

/-- 'append(s, u)' of one cell to a row of the call's own -/
theorem app_one {P : Program} (w : World) {ops : Array Oper} {rest : List Oper} {o : Oper} {a : Act} {Q : Exit → Act → World → Prop} (hgd : o.guard = none) (s x : Operand) (t : TypeId)
    (ho : o.op = .call { callee := .builtin .append, args := #[s, x], argTypes := #[t, t] })
    (B : Nat) (e : TypeId) (i : TypeInfo) (z : Value) (bytes : Nat) (ht : P.underlying t = some (.slice e)) (hi : P.info? e = some i) (hz : i.zero = some z)
    (hsize : i.size = 1) (hby : i.bytes = bytes) (hzs : z.cells.size = 1)
    (v : Value) (n : Nat) (xs : List Value) (hs : a.eval s = v) (hown : w.ownsRow B e 1 v n xs) (u : Value) (hx : a.eval x = .slice (some ⟨w.heap.size, 0, none⟩) 1 1) (h1 : u.oneCell' = true)
    (hn : n + 1 ≤ maxLen) (hbytes : (n + 1) * bytes ≤ 140737488355328) (hB : B ≤ w.heap.size)
    (h : ∀ v' w', w'.ownsRow B e 1 v' (n + 1) (xs ++ [u]) → Below B w w' → wpList P ops Q rest (a.put o.dst v') w') : wpList P ops Q (o :: rest) a (w.alloc (.cells #[u] e)) := by
  refine wpList_append_own _ hgd s x t ho B e i z 1 bytes ht hi hz hsize hby hzs (by decide) v n xs hs (hown.alloc _) ⟨w.heap.size, 0, none⟩ 1 1 [u] hx rfl (one_new w e u) (by simpa using h1) hn hbytes (by simp; omega) ?_
  intro v' w' hown' hg _
  refine h v' w' hown' (((Below.refl B w).alloc hB _).grown hg (by simp; omega) (fun k hk => (hown.lt k hk).1))

/-- string(b), b a slice of bytes, nil or not -/
theorem conv_text {P : Program} (w : World) (src e dst : TypeId) (hs : P.underlying src = some (.slice e)) (he : P.underlying e = some (.int .u8)) (hd : P.underlying dst = some .string)
    {lim : Nat} {A : Option Addr} {zs : List Int} (h : Rds w lim A (c8 zs)) (c : Nat) : (convert src dst (.slice A zs.length c)).run P w = .ok (.string (strOfNums zs)) w := by
  cases A with
  | none =>
    have hz : zs = [] := by
      cases zs with
      | nil => rfl
      | cons z zs => obtain ⟨ad, e, _⟩ := h (by simp [c8]); cases e
    subst hz
    exact run_convert_bytes_nil w src e hs he 0 c dst hd
  | some ad =>
    have hl : (loadCells ad zs.length).run P w = .ok (zs.map (Value.int .u8)).toArray w := by
      have := run_loadCells_list (P := P) w ad (c8 zs) (fun j v hj => by
        obtain ⟨ad', e, _, hc⟩ := h.at_ hj
        obtain rfl := Option.some.inj e
        exact hc)
      simpa [c8] using this
    rw [run_convert_bytes_string w src dst e _ zs.length c hs he hd, run_bytesToString w _ zs.length c zs hl, foldl_push_bytes]
    simp [strOfNums, ByteArray.empty, ByteArray.emptyWithCapacity]
    rfl

/-- what a row of the call's own is as a slice -/
theorem own_open {w : World} {B : Nat} {e : TypeId} {n : Nat} {v : Value} {xs : List Value} (h : w.ownsRow B e 1 v n xs) :
    ∃ A c, v = .slice A n c ∧ Rds w w.heap.size A xs ∧ n ≤ c ∧ c ≤ maxLen ∧ (A = none → n = 0 ∧ c = 0) := by
  rcases h.2 with ⟨rfl, rfl⟩ | ⟨g, cap, cur, rfl, _, _, h1, h2, _⟩
  · exact ⟨none, 0, rfl, Rds.ofOwn h, Nat.le_refl _, by unfold maxLen; omega, fun _ => ⟨rfl, rfl⟩⟩
  · exact ⟨_, cap, rfl, Rds.ofOwn h, h1, h2, fun h => by cases h⟩

/-- a new block of bytes reads as these bytes -/
theorem Rds.made (w : World) (t : TypeId) (zs : List Int) (cs : Array Value) (h : cs.toList = c8 zs) : Rds (w.alloc (.cells cs t)) (w.heap.size + 1) (some ⟨w.heap.size, 0, none⟩) (c8 zs) := by
  intro _
  refine ⟨_, rfl, by simp, fun j u hu => ?_⟩
  have hadd : (⟨w.heap.size, 0, none⟩ : Addr).add j = ⟨w.heap.size, j, none⟩ := by unfold Addr.add; split <;> simp_all
  rw [hadd, (Whole.new w t cs).cell j, ← hu, ← h]
  simp

/-- 'append(s, x...)' to a row of the call's own, x a slice that is nil or not -/
theorem run_app_many {P : Program} (w : World) (t ty e : TypeId) (i : TypeInfo) (z : Value) (bytes : Nat) (ht : P.underlying t = some (.slice e)) (hi : P.info? e = some i) (hz : i.zero = some z)
    (hsize : i.size = 1) (hby : i.bytes = bytes) (hzs : z.cells.size = 1) (B : Nat) (v : Value) (n : Nat) (xs : List Value) (hown : w.ownsRow B e 1 v n xs)
    (A : Option Addr) (c lim : Nat) (news : List Value) (hr : Rds w lim A news) (hA : A = none → c = 0) (h1 : ∀ u ∈ news, u.oneCell' = true) (hn : n + news.length ≤ maxLen) (hbytes : (n + news.length) * bytes ≤ 140737488355328) (hB : B ≤ w.heap.size) :
    ∃ v' w', (Builtin.append_ #[t, t] ty #[v, .slice A news.length c]).run P w = .ok v' w' ∧ w'.ownsRow B e 1 v' (n + news.length) (xs ++ news) ∧ Below B w w' := by
  cases A with
  | none =>
    have hnews : news = [] := by
      cases news with
      | nil => rfl
      | cons u us => obtain ⟨ad, e, _⟩ := hr (by simp); cases e
    subst hnews
    obtain rfl := hA rfl
    exact ⟨v, w, run_append_owned_none (P := P) w B t ty e i 1 ht hi v n xs hown, by simpa using hown, Below.refl _ _⟩
  | some ad =>
    have hcells : ∀ j u, news[j]? = some u → w.cell? (ad.add j) = some u := fun j u hu => by
      obtain ⟨ad', e, _, hc⟩ := hr.at_ hu
      obtain rfl := Option.some.inj e
      exact hc
    obtain ⟨v', w', hrun, h2, h3, _⟩ := run_append_own (P := P) w B t ty e i z 1 bytes ht hi hz hsize hby hzs (by decide) v n xs hown ad news.length c news (by simp) hcells h1 hn hbytes hB
    exact ⟨v', w', hrun, h2, (Below.refl B w).grown h3 hB (fun k hk => (hown.lt k hk).1)⟩

theorem app_many {P : Program} (w : World) {ops : Array Oper} {rest : List Oper} {o : Oper} {a : Act} {Q : Exit → Act → World → Prop} (hgd : o.guard = none) (s x : Operand) (t : TypeId)
    (ho : o.op = .call { callee := .builtin .append, args := #[s, x], argTypes := #[t, t] })
    (B : Nat) (e : TypeId) (i : TypeInfo) (z : Value) (bytes : Nat) (ht : P.underlying t = some (.slice e)) (hi : P.info? e = some i) (hz : i.zero = some z)
    (hsize : i.size = 1) (hby : i.bytes = bytes) (hzs : z.cells.size = 1) (v : Value) (n : Nat) (xs : List Value) (hs : a.eval s = v) (hown : w.ownsRow B e 1 v n xs)
    (A : Option Addr) (m c lim : Nat) (news : List Value) (hx : a.eval x = .slice A m c) (hm : m = news.length) (hr : Rds w lim A news) (hA : A = none → c = 0) (h1 : ∀ u ∈ news, u.oneCell' = true) (hn : n + m ≤ maxLen) (hbytes : (n + m) * bytes ≤ 140737488355328) (hB : B ≤ w.heap.size)
    (h : ∀ v' w', w'.ownsRow B e 1 v' (n + m) (xs ++ news) → Below B w w' → wpList P ops Q rest (a.put o.dst v') w') : wpList P ops Q (o :: rest) a w := by
  subst hm
  refine wpList_plain hgd fun K hK => ?_
  obtain ⟨v', w', hrun, h2, h3⟩ := run_app_many (P := P) w t o.type e i z bytes ht hi hz hsize hby hzs B v n xs hown A c lim news hr hA h1 hn hbytes hB
  unfold Oper.wp
  simp [execOp, ho, resolve, invoke, builtin, hs, hx, hrun, Result.andThen]
  exact hK _ _ (h v' w' h2 h3)
end Go.Proofs.Ytnleeffajljodaa
end

section
/- Plain mathematics of numbers as bytes: the digits of a number, and what is read from bytes. No program is named here. -/
namespace Go.Proofs.Ytnleeffajljodaa

/-- the digits of x to the base 128, the lowest first, 128 added to all but the last: at most k + 1 of them -/
def encF : Nat → Int → List Int
  | 0, x => [x]
  | k + 1, x => if x < 128 then [x] else (x % 128 + 128) :: encF k (x / 128)
def enc (x : Int) : List Int := encF 9 x

theorem encF_more : ∀ (k : Nat) (x : Int), 0 ≤ x → x < 128 ^ (k + 1) → encF (k + 1) x = encF k x
  | 0, x, h0, h1 => by
    have : x < 128 := by simpa using h1
    simp [encF, this]
  | k + 1, x, h0, h1 => by
    have e : encF (k + 1 + 1) x = if x < 128 then [x] else (x % 128 + 128) :: encF (k + 1) (x / 128) := rfl
    rw [e]
    have e2 : encF (k + 1) x = if x < 128 then [x] else (x % 128 + 128) :: encF k (x / 128) := rfl
    rw [e2]
    by_cases hx : x < 128
    · simp [hx]
    · rw [if_neg hx, if_neg hx, encF_more k (x / 128) (by omega) (by
        have : x < 128 ^ (k + 1) * 128 := by rw [← Int.pow_succ]; exact h1
        omega)]
theorem encF_length : ∀ (k : Nat) (x : Int), (encF k x).length ≤ k + 1
  | 0, x => by simp [encF]
  | k + 1, x => by
    unfold encF
    split
    · simp
    · have := encF_length k (x / 128); simp; omega
theorem encF_pos : ∀ (k : Nat) (x : Int), 1 ≤ (encF k x).length
  | 0, x => by simp [encF]
  | k + 1, x => by unfold encF; split <;> simp
theorem enc_length (x : Int) : (enc x).length ≤ 10 := encF_length 9 x
theorem enc_pos (x : Int) : 1 ≤ (enc x).length := encF_pos 9 x
theorem enc_small {x : Int} (h : x < 128) : enc x = [x] := by simp [enc, encF, h]
theorem enc_step {x : Int} (h : 128 ≤ x) (h1 : x ≤ 18446744073709551615) : enc x = (x % 128 + 128) :: enc (x / 128) := by
  have e : encF 9 x = if x < 128 then [x] else (x % 128 + 128) :: encF 8 (x / 128) := rfl
  show encF 9 x = _ :: encF 9 (x / 128)
  rw [e, if_neg (by omega), encF_more 8 (x / 128) (by omega) (by omega)]
theorem encF_range : ∀ (k : Nat) (x : Int), 0 ≤ x → x < 256 * 128 ^ k → ∀ z ∈ encF k x, 0 ≤ z ∧ z ≤ 255
  | 0, x, h0, h1, z, hz => by simp [encF] at hz; subst hz; simp at h1; omega
  | k + 1, x, h0, h1, z, hz => by
    unfold encF at hz
    split at hz
    · simp at hz; omega
    · rcases List.mem_cons.1 hz with rfl | hz
      · omega
      · refine encF_range k (x / 128) (by omega) ?_ z hz
        have : x < 256 * 128 ^ k * 128 := by
          have e : (256 : Int) * 128 ^ (k + 1) = 256 * 128 ^ k * 128 := by rw [Int.pow_succ, Int.mul_assoc]
          omega
        omega
theorem enc_range {x : Int} (h : 0 ≤ x) (h1 : x ≤ 18446744073709551615) : ∀ z ∈ enc x, 0 ≤ z ∧ z ≤ 255 := encF_range 9 x h (by omega)

theorem or128 : ∀ m : Fin 256, (m.val ||| 128) = m.val % 128 + 128 := by decide +kernel
/-- the byte of a digit that is not the last -/
theorem or_digit (x : Int) : Go.bits .or .u8 (x % 256) 128 = x % 128 + 128 := by
  obtain ⟨n, hn⟩ := Int.eq_ofNat_of_zero_le (show 0 ≤ x % 256 by omega)
  have hb : n < 256 := by omega
  rw [hn, show (128 : Int) = ((128 : Nat) : Int) from rfl, (bits_nat .u8 8 (by decide) wraps_u8 n 128 (by omega) (by decide)).2, or128 ⟨n, hb⟩]
  show ((n % 128 + 128 : Nat) : Int) = _
  omega

/-- what ReadUint tells of bytes, from the place i on, with x read so far: the number, how many bytes it has, the error -/
def dec : Int → Nat → List Int → Int × Int × Int
  | _, _, [] => (0, 0, 4)
  | x, i, d :: r =>
    if i = 9 ∧ d ≠ 1 then (0, 0, 5)
    else if 128 ≤ d then dec (x + d % 128 * 2 ^ (7 * i)) (i + 1) r
    else if d = 0 ∧ 0 < i then (0, 0, 5)
    else (x + d % 128 * 2 ^ (7 * i), i + 1, 0)
/-- the same, as the machine reckons it -/
def decR : Int → Nat → List Int → Int × Int × Int
  | _, _, [] => (0, 0, 4)
  | x, i, d :: r =>
    if i = 9 ∧ d ≠ 1 then (0, 0, 5)
    else if 128 ≤ d then decR (Go.bits .or .u64 x (IntKind.u64.wrap (d % 128 * 2 ^ (7 * i)))) (i + 1) r
    else if d = 0 ∧ 0 < i then (0, 0, 5)
    else (Go.bits .or .u64 x (IntKind.u64.wrap (d % 128 * 2 ^ (7 * i))), i + 1, 0)

theorem or_add (x t : Int) (i : Nat) (hi : 7 * i ≤ 63) (hx0 : 0 ≤ x) (hx : x < 2 ^ (7 * i)) (ht0 : 0 ≤ t) (ht : t * 2 ^ (7 * i) ≤ 18446744073709551615) :
    Go.bits .or .u64 x (IntKind.u64.wrap (t * 2 ^ (7 * i))) = x + t * 2 ^ (7 * i) := by
  obtain ⟨a, rfl⟩ := Int.eq_ofNat_of_zero_le hx0
  obtain ⟨b, rfl⟩ := Int.eq_ofNat_of_zero_le ht0
  have hcast : ((2 ^ (7 * i) : Nat) : Int) = 2 ^ (7 * i) := by simp
  have ha : a < 2 ^ (7 * i) := by rw [← hcast] at hx; exact_mod_cast hx
  have hp : 2 ^ (7 * i) ≤ 2 ^ 63 := Nat.pow_le_pow_right (by decide) hi
  have hw : IntKind.u64.wrap ((b : Int) * 2 ^ (7 * i)) = ((2 ^ (7 * i) * b : Nat) : Int) := by
    rw [IntWalk.u64_in _ ⟨Int.mul_nonneg (by omega) (by rw [← hcast]; omega), ht⟩, Int.natCast_mul, hcast, Int.mul_comm]
  have hb : 2 ^ (7 * i) * b ≤ 18446744073709551615 := by
    rw [← hcast, Int.mul_comm, ← Int.natCast_mul] at ht
    generalize 2 ^ (7 * i) * b = q at ht ⊢
    omega
  rw [hw, bits_or_u64_nat a _ (by omega) (by omega), Nat.or_comm, ← Nat.two_pow_add_eq_or_of_lt ha b]
  rw [Int.natCast_add, Int.natCast_mul, hcast]
  rw [Int.mul_comm, Int.add_comm]

theorem decR_dec : ∀ (l : List Int) (x : Int) (i : Nat), i ≤ 9 → 0 ≤ x → x < 2 ^ (7 * i) → (∀ z ∈ l, 0 ≤ z ∧ z ≤ 255) → decR x i l = dec x i l
  | [], _, _, _, _, _, _ => rfl
  | d :: r, x, i, hi, hx0, hx, hz => by
    have hd := hz d (by simp)
    unfold decR dec
    by_cases h9 : i = 9 ∧ d ≠ 1
    · rw [if_pos h9, if_pos h9]
    · rw [if_neg h9, if_neg h9]
      have hpos : (0 : Int) < 2 ^ (7 * i) := Int.pow_pos (by decide)
      have hstep : x + d % 128 * 2 ^ (7 * i) < 2 ^ (7 * (i + 1)) := by
        have e : (2 : Int) ^ (7 * (i + 1)) = 128 * 2 ^ (7 * i) := by
          rw [show 7 * (i + 1) = 7 * i + 7 by omega, Int.pow_add, Int.mul_comm]; rfl
        have h1 : d % 128 * 2 ^ (7 * i) ≤ 127 * 2 ^ (7 * i) := Int.mul_le_mul_of_nonneg_right (by omega) (by omega)
        omega
      have hbound : d % 128 * 2 ^ (7 * i) ≤ 18446744073709551615 := by
        by_cases h : i = 9
        · subst h
          have : d = 1 := by omega
          subst this
          rw [show (1 : Int) % 128 = 1 from rfl, Int.one_mul, show 7 * 9 = 63 from rfl]
          exact Int.le_of_lt (by decide)
        · have hp : (2 : Int) ^ (7 * (i + 1)) ≤ 2 ^ 63 := by
            have h : (2 : Nat) ^ (7 * (i + 1)) ≤ 2 ^ 63 := Nat.pow_le_pow_right (by decide) (by omega)
            have hc : ((2 ^ (7 * (i + 1)) : Nat) : Int) = 2 ^ (7 * (i + 1)) := by simp
            rw [← hc]
            exact Int.ofNat_le.2 h
          omega
      have e := or_add x (d % 128) i (by omega) hx0 hx (by omega) hbound
      rw [e]
      by_cases h128 : 128 ≤ d
      · rw [if_pos h128, if_pos h128]
        refine decR_dec r _ (i + 1) (by omega) ?_ hstep (fun z hz' => hz z (by simp [hz']))
        have : 0 ≤ d % 128 * 2 ^ (7 * i) := Int.mul_nonneg (by omega) (by omega)
        omega
      · rw [if_neg h128, if_neg h128]

/-- bytes: each from 0 to 255 -/
def Byt (zs : List Int) : Prop := ∀ z ∈ zs, 0 ≤ z ∧ z ≤ 255
theorem Byt.drop {zs : List Int} (h : Byt zs) (k : Nat) : Byt (zs.drop k) := fun z hz => h z (List.mem_of_mem_drop hz)
theorem Byt.take {zs : List Int} (h : Byt zs) (k : Nat) : Byt (zs.take k) := fun z hz => h z (List.mem_of_mem_take hz)
theorem Byt.append {a b : List Int} (h : Byt a) (h' : Byt b) : Byt (a ++ b) := fun z hz => (List.mem_append.1 hz).elim (h z) (h' z)

/-- the signed number that stands behind a number -/
def zig (x : Int) : Int := if x % 2 = 0 then x / 2 else -(x / 2) - 1
theorem and_one {x : Int} (h0 : 0 ≤ x) (h1 : x ≤ 18446744073709551615) : Go.bits .and .u64 x 1 = x % 2 := by
  obtain ⟨n, rfl⟩ := Int.eq_ofNat_of_zero_le h0
  rw [show (1 : Int) = ((1 : Nat) : Int) from rfl, bits_and_u64_nat n 1 (by omega) (by omega), Nat.and_one_is_mod]
  omega
theorem zig_of {x : Int} (h0 : 0 ≤ x) (h1 : x ≤ 18446744073709551615) : Go.bits .xor .i64 (x / 2) (-(x % 2)) = zig x := by
  obtain ⟨n, hn⟩ := Int.eq_ofNat_of_zero_le (show 0 ≤ x / 2 by omega)
  have hb : n < 9223372036854775808 := by omega
  unfold zig Go.bits
  rw [hn]
  have h1 : (BitVec.ofInt 64 ((n : Nat) : Int)) = BitVec.ofNat 64 n := by rw [BitVec.ofInt_natCast]
  show IntKind.i64.wrap ((BitVec.ofInt 64 (n : Int) ^^^ BitVec.ofInt 64 (-(x % 2))).toNat : Int) = _
  rw [h1]
  by_cases he : x % 2 = 0
  · rw [he, if_pos rfl]
    have : BitVec.ofInt 64 (-0) = 0#64 := by decide
    rw [this, BitVec.xor_zero, BitVec.toNat_ofNat, Nat.mod_eq_of_lt (by omega), IntKind.wrap_i64]
    omega
  · rw [show x % 2 = 1 by omega, if_neg (by decide)]
    have : BitVec.ofInt 64 (-1) = BitVec.allOnes 64 := by decide
    rw [this, BitVec.xor_allOnes, BitVec.toNat_not, BitVec.toNat_ofNat, Nat.mod_eq_of_lt (by omega), IntKind.wrap_i64]
    omega
/-- what dec tells lies within its bounds -/
def DecOk (m : Nat) (R : Int × Int × Int) : Prop :=
  ∃ (X : Int) (n : Nat) (E : Int), R = (X, (n : Int), E) ∧ 0 ≤ X ∧ X ≤ 18446744073709551615 ∧ n ≤ m ∧ (E = 0 → 1 ≤ n) ∧ (E ≠ 0 → X = 0 ∧ n = 0) ∧ (E = 0 ∨ E = 3 ∨ E = 4 ∨ E = 5)

theorem pow_split (i : Nat) : (2 : Int) ^ (7 * (i + 1)) = 128 * 2 ^ (7 * i) := by
  rw [show 7 * (i + 1) = 7 * i + 7 by omega, Int.pow_add, Int.mul_comm]; rfl
theorem pow_63 (i : Nat) (h : i ≤ 9) : (2 : Int) ^ (7 * i) ≤ 9223372036854775808 := by
  have h : (2 : Nat) ^ (7 * i) ≤ 2 ^ 63 := Nat.pow_le_pow_right (by decide) (by omega)
  have hc : ((2 ^ (7 * i) : Nat) : Int) = 2 ^ (7 * i) := by simp
  rw [← hc]
  omega

theorem dec_ok : ∀ (l : List Int) (x : Int) (i : Nat), i ≤ 9 → 0 ≤ x → x < 2 ^ (7 * i) → Byt l → DecOk (i + l.length) (dec x i l)
  | [], _, i, _, _, _, _ => ⟨0, 0, 4, rfl, by omega, by omega, by omega, by omega, by omega, by omega⟩
  | d :: r, x, i, hi, hx0, hx, hz => by
    have hd := hz d (by simp)
    unfold dec
    by_cases h9 : i = 9 ∧ d ≠ 1
    · rw [if_pos h9]; exact ⟨0, 0, 5, rfl, by omega, by omega, by omega, by omega, by omega, by omega⟩
    · rw [if_neg h9]
      have hpos : (0 : Int) < 2 ^ (7 * i) := Int.pow_pos (by decide)
      have h1 : d % 128 * 2 ^ (7 * i) ≤ 127 * 2 ^ (7 * i) := Int.mul_le_mul_of_nonneg_right (by omega) (by omega)
      have h2 : 0 ≤ d % 128 * 2 ^ (7 * i) := Int.mul_nonneg (by omega) (by omega)
      have hstep : x + d % 128 * 2 ^ (7 * i) < 2 ^ (7 * (i + 1)) := by rw [pow_split]; omega
      by_cases h128 : 128 ≤ d
      · rw [if_pos h128]
        obtain ⟨X, n, E, h⟩ := dec_ok r _ (i + 1) (by omega) (by omega) hstep (fun z hz' => hz z (by simp [hz']))
        exact ⟨X, n, E, h.1, h.2.1, h.2.2.1, by have := h.2.2.2.1; simp; omega, h.2.2.2.2⟩
      · rw [if_neg h128]
        by_cases h0 : d = 0 ∧ 0 < i
        · rw [if_pos h0]; exact ⟨0, 0, 5, rfl, by omega, by omega, by omega, by omega, by omega, by omega⟩
        · rw [if_neg h0]
          refine ⟨_, i + 1, 0, rfl, by omega, ?_, by rw [List.length_cons]; omega, by omega, by omega, by omega⟩
          have hp := pow_63 i hi
          by_cases h : i = 9
          · have : d = 1 := by omega
            subst this
            rw [show (1 : Int) % 128 = 1 from rfl, Int.one_mul]
            omega
          · have hp2 := pow_63 (i + 1) (by omega)
            omega

/-- a number that may not be above most, from the beginning of l: the number, how many bytes, the error -/
def num (most : Int) (l : List Int) : Int × Int × Int :=
  if (dec 0 0 l).2.2 = 0 then (if most < (dec 0 0 l).1 then (0, 0, 3) else ((dec 0 0 l).1, (dec 0 0 l).2.1, 0))
  else (0, 0, (dec 0 0 l).2.2)
theorem num_ok (most : Int) (l : List Int) (hz : Byt l) (h0 : 0 ≤ most) : DecOk l.length (num most l) ∧ (num most l).1 ≤ most := by
  obtain ⟨X, n, E, h⟩ := dec_ok l 0 0 (by omega) (by omega) (by decide) hz
  unfold num
  rw [h.1]
  simp only
  by_cases hE : E = 0
  · rw [if_pos hE]
    by_cases hX : most < X
    · rw [if_pos hX]
      exact ⟨⟨0, 0, 3, rfl, by omega, by omega, by omega, by omega, by omega, by omega⟩, h0⟩
    · rw [if_neg hX]
      exact ⟨⟨X, n, 0, rfl, h.2.1, h.2.2.1, by have := h.2.2.2.1; omega, fun _ => h.2.2.2.2.1 hE, by omega, by omega⟩, by simp; omega⟩
  · rw [if_neg hE]
    exact ⟨⟨0, 0, E, rfl, by omega, by omega, by omega, by omega, by omega, h.2.2.2.2.2.2⟩, h0⟩

theorem dec_enc : ∀ (l : List Int) (x : Int) (i : Nat) (X N : Int), i ≤ 9 → (∀ z ∈ l, 0 ≤ z ∧ z ≤ 255) → dec x i l = (X, N, 0) →
    ∃ (Y : Int) (m : Nat), X = x + Y * 2 ^ (7 * i) ∧ N = i + m ∧ 1 ≤ m ∧ m ≤ l.length ∧ 0 ≤ Y ∧ encF (9 - i) Y = l.take m ∧ (0 < i → 0 < Y)
  | [], x, i, X, N, _, _, h => by simp [dec] at h
  | d :: r, x, i, X, N, hi, hz, h => by
    have hd := hz d (by simp)
    unfold dec at h
    by_cases h9 : i = 9 ∧ d ≠ 1
    · rw [if_pos h9] at h; simp at h
    · rw [if_neg h9] at h
      by_cases h128 : 128 ≤ d
      · rw [if_pos h128] at h
        have hi9 : i < 9 := by
          rcases Nat.lt_or_ge i 9 with h' | h'
          · exact h'
          · exact absurd ⟨by omega, by omega⟩ h9
        obtain ⟨Y, m, h1, h2, h3, h4, h5, h6, h7⟩ := dec_enc r _ (i + 1) X N (by omega) (fun z hz' => hz z (by simp [hz'])) h
        have hY := h7 (by omega)
        refine ⟨d % 128 + 128 * Y, m + 1, ?_, by omega, by omega, by rw [List.length_cons]; omega, by omega, ?_, fun _ => by omega⟩
        · rw [h1, pow_split, Int.add_mul, Int.mul_comm 128 Y, Int.mul_assoc Y 128]
          omega
        · rw [show 9 - i = (9 - (i + 1)) + 1 by omega]
          show (if d % 128 + 128 * Y < 128 then [d % 128 + 128 * Y] else ((d % 128 + 128 * Y) % 128 + 128) :: encF (9 - (i + 1)) ((d % 128 + 128 * Y) / 128)) = _
          rw [if_neg (by omega), show (d % 128 + 128 * Y) / 128 = Y by omega, show (d % 128 + 128 * Y) % 128 + 128 = d by omega, h6]
          rfl
      · rw [if_neg h128] at h
        by_cases h0 : d = 0 ∧ 0 < i
        · rw [if_pos h0] at h; simp at h
        · rw [if_neg h0] at h
          simp only [Prod.mk.injEq] at h
          refine ⟨d, 1, ?_, by omega, by omega, by rw [List.length_cons]; omega, by omega, ?_, fun hi0 => by omega⟩
          · rw [← h.1, Int.emod_eq_of_lt hd.1 (by omega)]
          · cases hk : 9 - i with
            | zero => rfl
            | succ k => simp [encF, show d < 128 by omega]

theorem dec_enc0 {l : List Int} {X N : Int} (hz : Byt l) (h : dec 0 0 l = (X, N, 0)) : ∃ m : Nat, N = m ∧ 1 ≤ m ∧ m ≤ l.length ∧ enc X = l.take m := by
  obtain ⟨Y, m, h1, h2, h3, h4, _, h6, _⟩ := dec_enc l 0 0 X N (by omega) hz h
  refine ⟨m, by omega, h3, h4, ?_⟩
  have : X = Y := by rw [h1]; simp
  subst this
  exact h6

/-- digits that are read back, whatever stands behind them -/
theorem enc_dec : ∀ (k : Nat) (Y x : Int) (i : Nat) (more : List Int), i + k = 9 → 0 ≤ Y → Y < 2 ^ (64 - 7 * i) → (0 < i → 0 < Y) → dec x i (encF k Y ++ more) = (x + Y * 2 ^ (7 * i), (i : Int) + (encF k Y).length, 0)
  | 0, Y, x, i, more, hi, h0, h1, hp => by
    have h9 : i = 9 := by omega
    subst h9
    have hY : Y = 1 := by
      have : Y < 2 := by simpa using h1
      have := hp (by omega)
      omega
    subst hY
    simp [encF, dec]
  | k + 1, Y, x, i, more, hi, h0, h1, hp => by
    unfold encF
    by_cases hlt : Y < 128
    · rw [if_pos hlt]
      show dec x i (Y :: more) = _
      unfold dec
      rw [if_neg (by omega), if_neg (by omega), if_neg (by omega), Int.emod_eq_of_lt h0 hlt]
      simp
    · rw [if_neg hlt]
      show dec x i ((Y % 128 + 128) :: (encF k (Y / 128) ++ more)) = _
      unfold dec
      rw [if_neg (by omega), if_pos (by omega), enc_dec k (Y / 128) _ (i + 1) more (by omega) (by omega) ?_ (fun _ => by omega)]
      · have e : x + (Y % 128 + 128) % 128 * 2 ^ (7 * i) + Y / 128 * 2 ^ (7 * (i + 1)) = x + Y * 2 ^ (7 * i) := by
          rw [pow_split, show (Y % 128 + 128) % 128 = Y % 128 by omega, ← Int.mul_assoc, Int.add_assoc, ← Int.add_mul]
          congr 2
          omega
        rw [e, List.length_cons]
        simp only [Prod.mk.injEq, true_and, and_true]
        omega
      · have e : (2 : Int) ^ (64 - 7 * i) = 128 * 2 ^ (64 - 7 * (i + 1)) := by
          rw [show 64 - 7 * i = (64 - 7 * (i + 1)) + 7 by omega, Int.pow_add, Int.mul_comm]; rfl
        rw [e] at h1
        omega
theorem enc_dec0 {Y : Int} (h0 : 0 ≤ Y) (h1 : Y ≤ 18446744073709551615) (more : List Int) : dec 0 0 (enc Y ++ more) = (Y, ((enc Y).length : Int), 0) := by
  have := enc_dec 9 Y 0 0 more (by omega) h0 (by show Y < 2 ^ 64; omega) (by omega)
  rw [show encF 9 Y = enc Y from rfl] at this
  rw [this]
  simp

/-- a first part of a number's digits is too short -/
theorem enc_short : ∀ (k : Nat) (Y x : Int) (i j : Nat), i + k = 9 → 0 ≤ Y → j < (encF k Y).length → dec x i ((encF k Y).take j) = (0, 0, 4)
  | _, _, _, _, 0, _, _, _ => by simp [dec]
  | 0, Y, x, i, j + 1, _, _, hj => by simp [encF] at hj
  | k + 1, Y, x, i, j + 1, hi, h0, hj => by
    unfold encF at hj ⊢
    by_cases hlt : Y < 128
    · rw [if_pos hlt] at hj; simp at hj
    · rw [if_neg hlt] at hj ⊢
      show dec x i ((Y % 128 + 128) :: (encF k (Y / 128)).take j) = _
      unfold dec
      rw [if_neg (by omega), if_pos (by omega)]
      exact enc_short k (Y / 128) _ (i + 1) j (by omega) (by omega) (by simpa using hj)
theorem enc_short0 {Y : Int} (h0 : 0 ≤ Y) {j : Nat} (hj : j < (enc Y).length) : dec 0 0 ((enc Y).take j) = (0, 0, 4) := enc_short 9 Y 0 0 j (by omega) h0 hj

/-- the number that a signed number is written as -/
def zag (x : Int) : Int := if 0 ≤ x then 2 * x else -2 * x - 1
theorem zag_range {x : Int} (h : -9223372036854775808 ≤ x ∧ x ≤ 9223372036854775807) : 0 ≤ zag x ∧ zag x ≤ 18446744073709551615 := by unfold zag; split <;> omega
theorem zig_zag (x : Int) : zig (zag x) = x := by
  unfold zig zag
  by_cases h : 0 ≤ x
  · rw [if_pos h, if_pos (by omega)]; omega
  · rw [if_neg h, if_neg (by omega)]; omega

theorem xor_zero64 (a : Int) : Go.bits .xor .i64 a 0 = IntKind.i64.wrap a := by
  show IntKind.i64.wrap ((BitVec.ofInt 64 a ^^^ BitVec.ofInt 64 0).toNat : Int) = _
  rw [show BitVec.ofInt 64 0 = 0#64 by decide, BitVec.xor_zero, BitVec.toNat_ofInt, IntKind.wrap_i64, IntKind.wrap_i64]
  omega
theorem xor_ones64 (a : Int) : Go.bits .xor .i64 a (-1) = IntKind.i64.wrap (-a - 1) := by
  show IntKind.i64.wrap ((BitVec.ofInt 64 a ^^^ BitVec.ofInt 64 (-1)).toNat : Int) = _
  rw [show BitVec.ofInt 64 (-1) = BitVec.allOnes 64 by decide, BitVec.xor_allOnes, BitVec.toNat_not, BitVec.toNat_ofInt, IntKind.wrap_i64, IntKind.wrap_i64]
  omega
theorem zag_of {x : Int} (h : -9223372036854775808 ≤ x ∧ x ≤ 9223372036854775807) : IntKind.u64.wrap (Go.bits .xor .i64 (RowKit.wrap64 (x * 2)) (x / 9223372036854775808)) = zag x := by
  unfold zag
  by_cases h0 : 0 ≤ x
  · rw [if_pos h0, show x / 9223372036854775808 = 0 by omega, xor_zero64, IntKind.wrap_u64, IntKind.wrap_i64]
    unfold RowKit.wrap64
    omega
  · rw [if_neg h0, show x / 9223372036854775808 = -1 by omega, xor_ones64, IntKind.wrap_u64, IntKind.wrap_i64]
    unfold RowKit.wrap64
    omega

theorem num_enc {Y most : Int} (h0 : 0 ≤ Y) (h1 : Y ≤ most) (h2 : most ≤ 18446744073709551615) (more : List Int) : num most (enc Y ++ more) = (Y, ((enc Y).length : Int), 0) := by
  unfold num
  rw [enc_dec0 h0 (by omega)]
  simp only
  rw [if_pos trivial, if_neg (by omega)]
end Go.Proofs.Ytnleeffajljodaa
end

section
/- What every seat's walks stand on: the imports, and the row of the type of bytes. -/
namespace Go.Proofs.Ytnleeffajljodaa
open Go.RowKit
set_option linter.unusedVariables false

theorem info8 : (Try.prog.info? 5).map (fun i => (i.zero, i.size, i.bytes)) = some (some (.int .u8 0), 1, 1) := by kernel_rfl

end Go.Proofs.Ytnleeffajljodaa
end

section
/- A row of uint64 that is sorted where it lies: what its block holds, and that nothing else turns. -/
namespace Go.Proofs.Ytnleeffajljodaa
open Go.RowKit Go.Sort
set_option linter.unusedVariables false

/-- w has come of w0 by turns of block g alone, whose first places hold d -/
structure SR (w0 : World) (g c N : Nat) (w : World) (d : Array Int) : Prop where
  gr : w0.grownBy w (some g)
  len : d.size = N
  row : ∃ cur : Array Value, w.heap[g]? = some (.cells cur 25 (0, 0)) ∧ cur.size = c ∧ N ≤ c ∧ ∀ j, j < N → cur[j]? = some (.int .u64 d[j]!)

section
variable {w0 w w' : World} {g c N : Nat} {d d' : Array Int}
theorem SR.drewN (h : SR w0 g c N w d) (n : Nat) : SR w0 g c N (w.drewN n) d := ⟨Only.drewN h.gr n, h.len, h.row⟩
theorem SR.drew (h : SR w0 g c N w d) : SR w0 g c N w.drew d := ⟨Only.drew h.gr, h.len, h.row⟩
theorem SR.lt (h : SR w0 g c N w d) : g < w.heap.size := by
  obtain ⟨cur, h1, _⟩ := h.row
  exact (Array.getElem?_eq_some_iff.1 h1).1
theorem SR.cell (h : SR w0 g c N w d) {j : Nat} (hj : j < N) : w.cell? ⟨g, j, none⟩ = some (.int .u64 d[j]!) := by
  obtain ⟨cur, h1, _, _, h2⟩ := h.row
  rw [cell_of_row w g j cur _ _ h1, h2 j hj]
theorem SR.frozen (h : SR w0 g c N w d) (j : Nat) : w.frozen? ⟨g, j, none⟩ = false := by
  obtain ⟨cur, h1, _⟩ := h.row
  exact Whole.frozen h1 j
/-- from here on -/
theorem SR.now (h : SR w0 g c N w d) : SR w g c N w d := ⟨Only.refl w g, h.len, h.row⟩
theorem SR.trans (h : SR w0 g c N w d) (k : SR w g c N w' d') : SR w0 g c N w' d' := ⟨Only.trans h.gr k.gr, k.len, k.row⟩
theorem SR.alloc (h : SR w0 g c N w d) (o : Obj) : SR w0 g c N (w.alloc o) d := by
  obtain ⟨cur, h1, r⟩ := h.row
  exact ⟨Only.trans h.gr (World.grownBy_alloc w o (some g)), h.len, cur, (Below.heap_alloc w o g h.lt).trans h1, r⟩
/-- another block of the call's own has turned -/
theorem SR.far (h : SR w0 g c N w d) {sb : Nat} (hg : w.grownBy w' (some sb)) (hsb : w0.heap.size ≤ sb) (hne : sb ≠ g) : SR w0 g c N w' d := by
  obtain ⟨cur, h1, r⟩ := h.row
  refine ⟨⟨hg.os.trans h.gr.os, hg.tape.trans h.gr.tape, hg.output.trans h.gr.output, Nat.le_trans h.gr.size hg.size, fun i hi hn => ?_⟩, h.len, cur, (hg.block g h.lt (fun e => hne (by cases e; rfl))).trans h1, r⟩
  exact (hg.block i (Nat.lt_of_lt_of_le hi h.gr.size) (fun e => by cases e; omega)).trans (h.gr.block i hi hn)
theorem SR.grown (h : SR w0 g c N w d) (hg : w.grownBy w' none) : SR w0 g c N w' d := by
  obtain ⟨cur, h1, r⟩ := h.row
  exact ⟨⟨hg.os.trans h.gr.os, hg.tape.trans h.gr.tape, hg.output.trans h.gr.output, Nat.le_trans h.gr.size hg.size, fun i hi hn => (hg.block i (Nat.lt_of_lt_of_le hi h.gr.size) (by simp)).trans (h.gr.block i hi hn)⟩, h.len, cur, (hg.block g h.lt (by simp)).trans h1, r⟩
/-- 'data[i], data[j] = data[j], data[i]' -/
theorem SR.swp (h : SR w0 g c N w d) {i j : Nat} (hi : i < N) (hj : j < N) {x y : Int} (hx : x = d[j]!) (hy : y = d[i]!) :
    SR w0 g c N ((w.setCell ⟨g, i, none⟩ (.int .u64 x)).setCell ⟨g, j, none⟩ (.int .u64 y)) (Sort.swp d i j) := by
  subst hx hy
  have hl := h.len
  obtain ⟨cur, h1, h2, h3, h4⟩ := h.row
  have hw : Whole w g 25 cur := h1
  refine ⟨Only.put (Only.put h.gr i _) j _, by rw [Sort.size_swp]; exact hl, _, (hw.put i (.int .u64 d[j]!)).put j (.int .u64 d[i]!), by simp [h2], h3, fun k hk => ?_⟩
  rw [Sort.swp_get d (by omega) (by omega) k]
  by_cases e1 : k = j
  · subst e1
    rw [if_pos rfl, Array.getElem?_setIfInBounds_self_of_lt (by simp; omega)]
  · rw [if_neg e1, Array.getElem?_setIfInBounds_ne (Ne.symm e1)]
    by_cases e2 : k = i
    · subst e2
      rw [if_pos rfl, Array.getElem?_setIfInBounds_self_of_lt (by omega)]
    · rw [if_neg e2, Array.getElem?_setIfInBounds_ne (Ne.symm e2)]
      exact h4 k hk
/-- behind 'data[i] = data[j]' both hold the same -/
theorem SR.both (h : SR w0 g c N w d) {i j : Nat} (hi : i < N) (hj : j < N) {x : Int} (hx : x = d[j]!) : (w.setCell ⟨g, i, none⟩ (.int .u64 x)).cell? ⟨g, j, none⟩ = some (.int .u64 x) := by
  subst hx
  obtain ⟨cur, h1, h2, h3, h4⟩ := h.row
  have hw : Whole w g 25 cur := h1
  rw [(hw.put i (.int .u64 d[j]!)).cell j]
  by_cases e : j = i
  · subst e
    rw [Array.getElem?_setIfInBounds_self_of_lt (by omega)]
  · rw [Array.getElem?_setIfInBounds_ne (Ne.symm e)]
    exact h4 j hj
/-- what a walk reads of the row, under a name of its own -/
theorem SR.names (h : SR w0 g c N w d) : ∃ G : Nat → Int, (∀ t, G t = d[t]!) ∧ (∀ t, t < N → w.cell? ⟨g, t, none⟩ = some (.int .u64 (G t))) ∧ ∀ t, t < N → w.frozen? ⟨g, t, none⟩ = false :=
  ⟨fun t => d[t]!, fun _ => rfl, fun t ht => h.cell ht, fun t _ => h.frozen t⟩
end

theorem isNaN_any (x : Int) (w : World) : Calls Try.prog 70 #[.int .u64 x] w fun e w' => e = .returned (.bool false) ∧ w' = w := by
  have hx : (x != x) = false := by simp
  go_enter Try.func70, Try.ntmps70
  go_wp2
  go_ret
  exact ⟨rfl, rfl⟩
theorem less_any (x y : Int) (w : World) : Calls Try.prog 60 #[.int .u64 x, .int .u64 y] w fun e w' => e = .returned (.bool (Sort.ltInt x y)) ∧ w' = w := by
  go_enter Try.func60, Try.ntmps60
  go_wp2_with (go_at_call 70; refine (isNaN_any _ _).mono ?_; rintro e w' ⟨rfl, rfl⟩)
  go_ret
  exact ⟨rfl, rfl⟩
end Go.Proofs.Ytnleeffajljodaa
end

section
/- What a round of pdqsort makes of a row of numbers: plain mathematics. -/
namespace Go.Proofs.Ytnleeffajljodaa
open Go.RowKit Go.Sort
set_option linter.unusedVariables false

/-- whatever sorts what is left sorts the whole -/
def Fin' (a b : Nat) (d : Array Int) (a' b' : Nat) (dk : Array Int) : Prop :=
  ∀ R, PermIn a' b' dk R → SortedIn ltInt a' b' R → PermIn a b d R ∧ SortedIn ltInt a b R

theorem lt_t {x y : Int} : ltInt x y = true ↔ x < y := by unfold ltInt; simp
theorem lt_f {x y : Int} : ltInt x y = false ↔ y ≤ x := by unfold ltInt; simp

/-- x at m, less to the left, no less to the right -/
structure Parted (a m b : Nat) (x : Int) (d : Array Int) : Prop where
  lo : a ≤ m
  hi : m < b
  size : b ≤ d.size
  left : ∀ k, a ≤ k → k < m → d[k]! < x
  at_ : d[m]! = x
  right : ∀ k, m < k → k < b → x ≤ d[k]!

section
variable {a m b : Nat} {x : Int} {d d' : Array Int}
theorem Parted.sortLeft (h : Parted a m b x d) (p : PermIn a m d d') : Parted a m b x d' := by
  have hm := h.lo
  have hh := h.hi
  refine ⟨hm, hh, by rw [p.1]; exact h.size, permIn_all d d' a m (· < x) (by have := h.size; omega) p h.left, ?_, fun k k1 k2 => ?_⟩
  · rw [p.2.1 m (.inr (Nat.le_refl m))]; exact h.at_
  · rw [p.2.1 k (.inr (by omega))]; exact h.right k k1 k2
theorem Parted.sortRight (h : Parted a m b x d) (p : PermIn (m + 1) b d d') : Parted a m b x d' := by
  have hm := h.lo
  have hh := h.hi
  refine ⟨hm, hh, by rw [p.1]; exact h.size, fun k k1 k2 => ?_, ?_, fun k k1 k2 => permIn_all d d' (m + 1) b (x ≤ ·) h.size p (fun i i1 i2 => h.right i (by omega) i2) k (by omega) k2⟩
  · rw [p.2.1 k (.inl (by omega))]; exact h.left k k1 k2
  · rw [p.2.1 m (.inl (by omega))]; exact h.at_
theorem Parted.whole (h : Parted a m b x d) (s1 : SortedIn ltInt a m d) (s2 : SortedIn ltInt (m + 1) b d) : SortedIn ltInt a b d := by
  intro i j hi hij hj
  have at_ := h.at_
  by_cases e1 : j < m
  · exact s1 i j hi hij e1
  by_cases e2 : m < i
  · exact s2 i j (by omega) hij hj
  have hle : d[i]! ≤ x := by
    rcases Nat.lt_or_ge i m with q | q
    · exact Int.le_of_lt (h.left i hi q)
    · obtain rfl : i = m := by omega
      exact Int.le_of_eq at_
  have hge : x ≤ d[j]! := by
    rcases Nat.lt_or_ge m j with q | q
    · exact h.right j q hj
    · obtain rfl : j = m := by omega
      exact Int.le_of_eq at_.symm
  exact lt_f.2 (Int.le_trans hle hge)
theorem Parted.perm (h : Parted a m b x d) : (PermIn a m d d' → PermIn a b d d') ∧ (PermIn (m + 1) b d d' → PermIn a b d d') :=
  ⟨permIn_mono d d' a m a b (Nat.le_refl a) (Nat.le_of_lt h.hi) h.size, permIn_mono d d' (m + 1) b a b (by have := h.lo; omega) (Nat.le_refl b) h.size⟩
theorem keep_sorted {i j : Nat} (s : SortedIn ltInt i j d) (h : ∀ k, i ≤ k → k < j → d'[k]! = d[k]!) : SortedIn ltInt i j d' := by
  intro p q hp hpq hq
  rw [h p hp (by omega), h q (by omega) hq]
  exact s p q hp hpq hq
/-- the left part is sorted; the right one is what is left -/
theorem Parted.thenRight {d0 : Array Int} (h : Parted a m b x d) (p0 : PermIn a b d0 d) (p : PermIn a m d d') (s : SortedIn ltInt a m d') : Sort.Below ltInt (m + 1) b d' ∧ Fin' a b d0 (m + 1) b d' := by
  have h' := h.sortLeft p
  refine ⟨.inr fun i i1 i2 => ?_, fun R pR sR => ?_⟩
  · rw [Nat.add_sub_cancel, h'.at_]; exact lt_f.2 (h'.right i (by omega) i2)
  · exact ⟨permIn_trans _ _ _ a b p0 (permIn_trans _ _ _ a b (h.perm.1 p) (h'.perm.2 pR)), (h'.sortRight pR).whole (keep_sorted s fun k _ k2 => pR.2.1 k (.inl (by omega))) sR⟩
/-- the right part is sorted; the left one is what is left -/
theorem Parted.thenLeft {d0 : Array Int} (h : Parted a m b x d) (p0 : PermIn a b d0 d) (hB : Sort.Below ltInt a b d) (p : PermIn (m + 1) b d d') (s : SortedIn ltInt (m + 1) b d') : Sort.Below ltInt a m d' ∧ Fin' a b d0 a m d' := by
  have h' := h.sortRight p
  have hm := h.lo
  have hh := h.hi
  refine ⟨?_, fun R pR sR => ?_⟩
  · rcases hB with e | e
    · exact .inl e
    · refine .inr fun i i1 i2 => ?_
      rw [p.2.1 i (.inl (by omega)), p.2.1 (a - 1) (.inl (by omega))]
      exact e i i1 (by omega)
  · exact ⟨permIn_trans _ _ _ a b p0 (permIn_trans _ _ _ a b (h.perm.2 p) (h'.perm.1 pR)), (h'.sortLeft pR).whole sR (keep_sorted s fun k k1 _ => pR.2.1 k (.inr (by omega)))⟩
/-- those equal to x stand ahead, those above it are what is left -/
theorem equals {d0 : Array Int} (hm : a < m) (hmb : m ≤ b) (hs : b ≤ d.size) (p0 : PermIn a b d0 d) (hge : ∀ k, a ≤ k → k < b → x ≤ d[k]!) (hlo : ∀ k, a ≤ k → k < m → d[k]! ≤ x) (hhi : ∀ k, m ≤ k → k < b → x < d[k]!) :
    Sort.Below ltInt m b d ∧ Fin' a b d0 m b d := by
  refine ⟨.inr fun i i1 i2 => lt_f.2 ?_, fun R pR sR => ⟨permIn_trans _ _ _ a b p0 (permIn_mono _ _ m b a b (by omega) (Nat.le_refl b) hs pR), ?_⟩⟩
  · have := hlo (m - 1) (by omega) (by omega)
    have := hhi i i1 i2
    omega
  · have hR := permIn_all d R m b (x < ·) hs pR hhi
    have hE : ∀ k, a ≤ k → k < m → R[k]! = x := fun k k1 k2 => by
      rw [pR.2.1 k (.inl k2)]
      exact Int.le_antisymm (hlo k k1 k2) (hge k k1 (by omega))
    intro i j hi hij hj
    by_cases e : m ≤ i
    · exact sR i j e hij hj
    · refine lt_f.2 ?_
      rw [hE i hi (by omega)]
      rcases Nat.lt_or_ge j m with q | q
      · exact Int.le_of_eq (hE j (by omega) q).symm
      · exact Int.le_of_lt (hR j q hj)
theorem Fin'.comp {a b a' b' a2 b2 : Nat} {d0 dk d2 : Array Int} (h : Fin' a b d0 a' b' dk) (k : Fin' a' b' dk a2 b2 d2) : Fin' a b d0 a2 b2 d2 := fun R p s => h R (k R p s).1 (k R p s).2
theorem Fin'.refl : Fin' a b d a b d := fun _ p s => ⟨p, s⟩
end
end Go.Proofs.Ytnleeffajljodaa
end

section
/- slices.insertionSortOrdered over uint64. -/
namespace Go.Proofs.Ytnleeffajljodaa
open Go.RowKit Go.Sort
set_option linter.unusedVariables false

section
variable {α : Type} [Inhabited α] (lt : α → α → Bool)
theorem inner_go (a j : Nat) (d : Array α) (hj : a < j) (hl : lt d[j]! d[j - 1]! = true) : insInner lt a j d = insInner lt a (j - 1) (Sort.swp d j (j - 1)) := by
  obtain ⟨k, rfl⟩ : ∃ k, j = k + 1 := ⟨j - 1, by omega⟩
  rw [Nat.add_sub_cancel] at hl ⊢
  rw [insInner, hl]
  simp [hj]
theorem inner_stop (a j : Nat) (d : Array α) (h : j ≤ a ∨ lt d[j]! d[j - 1]! = false) : insInner lt a j d = d := by
  cases j with
  | zero => rfl
  | succ k =>
    rw [Nat.add_sub_cancel] at h
    rw [insInner]
    rcases h with h | h
    · rw [show decide (k + 1 > a) = false from decide_eq_false (by omega)]
      rfl
    · rw [h, Bool.and_false]
      rfl
theorem outer_go (a b i : Nat) (d : Array α) (h : i < b) : insOuter lt a b i d = insOuter lt a b (i + 1) (insInner lt a i d) := by rw [insOuter, if_pos h]
theorem outer_stop (a b i : Nat) (d : Array α) (h : ¬ i < b) : insOuter lt a b i d = d := by rw [insOuter, if_neg h]
end

set_option maxHeartbeats 4000000 in
set_option maxRecDepth 1000000 in
theorem ins_any {g c N : Nat} {d : Array Int} {w : World} (h : SR w g c N w d) (cap a b : Nat) (hab : a ≤ b) (hb : b ≤ N) (hN : N < 4611686018427387904) :
    Calls Try.prog 54 #[.slice (some ⟨g, 0, none⟩) N cap, .int .i64 a, .int .i64 b] w fun e w' => e = .returned (.tuple #[]) ∧ SR w g c N w' (Sort.insertionSort ltInt d a b) := by
  have HS := Lib.hid h
  clear h
  go_enter Try.func54, Try.ntmps54
  go_wp2
  go_loopw [6] (fun vi wr => ∃ (i : Nat) (dk : Array Int), vi = .int .i64 i ∧ a < i ∧ i ≤ b + 1 ∧ SR w g c N wr dk ∧ insOuter ltInt a b i dk = insOuter ltInt a b (a + 1) d) (fun vi _ => b + 1 - (intOf vi).toNat)
  case atStart => exact ⟨a + 1, d, by go_num, by omega, by omega, HS.out, rfl⟩
  case round =>
    obtain ⟨i, dk, rfl, hai, hib, hk, hO⟩ := hrel
    have HK := Lib.hid hk
    have HO := Lib.hid hO
    clear hk hO
    by_cases hlt : i < b
    · go_wp2
      go_loopw [7] (fun vj w2 => ∃ (j : Nat) (dj : Array Int), vj = .int .i64 j ∧ a ≤ j ∧ j ≤ i ∧ SR w g c N w2 dj ∧ insInner ltInt a j dj = insInner ltInt a i dk) (fun vj _ => (intOf vj).toNat)
      case atStart => exact ⟨i, dk, rfl, by omega, Nat.le_refl _, HK.out, rfl⟩
      case round =>
        obtain ⟨j, dj, rfl, haj, hji, hj, hI⟩ := hrel
        obtain ⟨G, hG, hcw, hfw⟩ := hj.names
        have HJ := Lib.hid hj
        have HG := Lib.hid hG
        have HI := Lib.hid hI
        clear hj hG hI
        have out : (j ≤ a ∨ ltInt dj[j]! dj[j - 1]! = false) → ∀ q, ∃ (i' : Nat) (dk' : Array Int), Value.int .i64 ((i : Int) + 1) = .int .i64 i' ∧ a < i' ∧ i' ≤ b + 1 ∧ SR w g c N (wr.drewN q) dk' ∧ insOuter ltInt a b i' dk' = insOuter ltInt a b (a + 1) d := fun hs q =>
          ⟨i + 1, dj, by go_num, by omega, by omega, HJ.out.drewN q, by rw [← HO.out, outer_go _ _ _ _ _ hlt, ← HI.out, inner_stop _ _ _ _ hs]⟩
        have OUT := Lib.hid out
        clear out
        go_wp2
        by_cases hja : a < j
        · have hjN : j < N := by omega
          have hjN1 : j - 1 < N := by omega
          go_quiet (first | (go_at_call 60; refine Calls.quiet_of_same (less_any _ _ _)))
          go_wp2
          · have hl : ltInt (G j) (G (j - 1)) = true := by assumption
            go_region
            all_goals go_wp2
            go_roundw
            case rel =>
              refine ⟨j - 1, Sort.swp dj j (j - 1), by congr 1; omega, by omega, by omega, ?_, ?_⟩
              · exact (HJ.out.drewN _).swp (by omega) (by omega) (HG.out _) (HG.out _)
              · rw [← HI.out, inner_go ltInt a j dj hja (by rw [← HG.out, ← HG.out]; exact hl)]
            case measure => simp [intOf]; omega
          · have hl : ltInt (G j) (G (j - 1)) = false := by assumption
            go_roundw
            case rel => exact OUT.out (Or.inr (by rw [← HG.out, ← HG.out]; exact hl)) _
            case measure => simp [intOf]; omega
        · go_quiet (first | (go_at_call 60; refine Calls.quiet_of_same (less_any _ _ _)))
          go_wp2
          go_roundw
          case rel => exact OUT.out (Or.inl (by omega)) _
          case measure => simp [intOf]; omega
    · go_wp2
      go_end0
      exact ⟨rfl, by unfold Sort.insertionSort; rw [← HO.out, outer_stop ltInt a b i dk hlt]; exact HK.out⟩
end Go.Proofs.Ytnleeffajljodaa
end

section
/- slices.reverseRangeOrdered over uint64: a permutation. -/
namespace Go.Proofs.Ytnleeffajljodaa
open Go.RowKit Go.Sort
set_option linter.unusedVariables false

theorem perm_swp {a b i j N : Nat} {d dk : Array Int} (h : PermIn a b d dk) (hs : dk.size = N) (hb : b ≤ N) (hi : a ≤ i ∧ i < b) (hj : a ≤ j ∧ j < b) : PermIn a b d (Sort.swp dk i j) :=
  Sort.permIn_trans _ _ _ a b h (Sort.swp_permIn dk a b i j hi.1 hi.2 hj.1 hj.2 (by omega))

set_option maxHeartbeats 4000000 in
set_option maxRecDepth 1000000 in
theorem rev_any {g c N : Nat} {d : Array Int} {w : World} (h : SR w g c N w d) (cap a b : Nat) (hab : a < b) (hb : b ≤ N) (hN : N < 4611686018427387904) :
    Calls Try.prog 58 #[.slice (some ⟨g, 0, none⟩) N cap, .int .i64 a, .int .i64 b] w fun e w' => e = .returned (.tuple #[]) ∧ ∃ d', SR w g c N w' d' ∧ PermIn a b d d' := by
  have HS := Lib.hid h
  clear h
  go_enter Try.func58, Try.ntmps58
  go_wp2
  go_loopg [6, 7] (b - a) (fun k s6 s7 wr => ∃ (i j : Nat) (dk : Array Int), s6 = .int .i64 i ∧ s7 = .int .i64 j ∧ a ≤ i ∧ i ≤ j + 1 ∧ j < b ∧ j - i ≤ k ∧ (j = i - 1 ∨ i ≤ j) ∧ SR w g c N wr dk ∧ PermIn a b d dk)
  case atStart => exact ⟨a, b - 1, d, rfl, by congr 1; omega, Nat.le_refl _, by omega, by omega, by omega, .inr (by omega), HS.out, Sort.permIn_refl _ _ _⟩
  case round =>
    obtain ⟨i, j, dk, rfl, rfl, hai, hij, hjb, hk, hc, hs, hp⟩ := hrel
    obtain ⟨G, hG, hcw, hfw⟩ := hs.names
    have HJ := Lib.hid hs
    have HG := Lib.hid hG
    have HP := Lib.hid hp
    clear hs hG hp
    by_cases hlt : i < j
    · have hiN : i < N := by omega
      have hjN : j < N := by omega
      go_wp2
      go_region
      go_wp2
      go_roundg (j - 1 - (i + 1))
      case measure => omega
      case rel =>
        exact ⟨i + 1, j - 1, Sort.swp dk i j, by go_num, by congr 1; omega, by omega, by omega, by omega, by omega, by omega, (HJ.out.drewN _).swp hiN hjN (HG.out _) (HG.out _), perm_swp HP.out HJ.out.len hb ⟨hai, by omega⟩ ⟨by omega, hjb⟩⟩
    · go_wp2
      go_end0
      exact ⟨rfl, dk, HJ.out, HP.out⟩
end Go.Proofs.Ytnleeffajljodaa
end

section
/- slices.choosePivotOrdered over uint64: some place within; nothing that lay turns. -/
namespace Go.Proofs.Ytnleeffajljodaa
open Go.RowKit Go.Sort
set_option linter.unusedVariables false

/-- what choosePivot's helpers look at: the row's cells, and a counter in a box of its own -/
structure Pv (w0 : World) (g N sb : Nat) (G : Nat → Int) (w : World) (m : Nat) : Prop where
  gr : w0.grownBy w (some sb)
  cell : ∀ t, t < N → w.cell? ⟨g, t, none⟩ = some (.int .u64 (G t))
  box : ∃ s : Nat, s ≤ m ∧ Whole w sb 3 #[.int .i64 s]
  ne : g ≠ sb
theorem Pv.drewN {w0 w : World} {g N sb m : Nat} {G : Nat → Int} (h : Pv w0 g N sb G w m) (n : Nat) : Pv w0 g N sb G (w.drewN n) m := ⟨Only.drewN h.gr n, h.cell, h.box, h.ne⟩
theorem Pv.now {w0 w : World} {g N sb m : Nat} {G : Nat → Int} (h : Pv w0 g N sb G w m) : Pv w g N sb G w m := ⟨Only.refl w sb, h.cell, h.box, h.ne⟩
theorem Pv.trans {w0 w w' : World} {g N sb m m' : Nat} {G : Nat → Int} (h : Pv w0 g N sb G w m) (k : Pv w g N sb G w' m') : Pv w0 g N sb G w' m' := ⟨Only.trans h.gr k.gr, k.cell, k.box, k.ne⟩
theorem Pv.put {w0 w : World} {g N sb m s : Nat} {G : Nat → Int} (h : Pv w0 g N sb G w m) (hs : Whole w sb 3 #[.int .i64 s]) {x : Int} (hx : x = (s + 1 : Nat)) (hm : s ≤ m) : Pv w0 g N sb G (w.setCell ⟨sb, 0, none⟩ (.int .i64 x)) (m + 1) := by
  subst hx
  exact ⟨Only.put h.gr 0 _, fun t ht => (World.cell?_of_block (Below.heap_setCell w ⟨sb, 0, none⟩ _ g h.ne)).trans (h.cell t ht), ⟨s + 1, by omega, hs.put 0 _⟩, h.ne⟩

set_option maxHeartbeats 1000000 in
theorem order2_any {w : World} {g N sb m : Nat} {G : Nat → Int} (h : Pv w g N sb G w m) (hm : m ≤ 1000) (cap a b : Nat) (ha : a < N) (hb : b < N) (hN : N < 4611686018427387904) :
    Calls Try.prog 71 #[.slice (some ⟨g, 0, none⟩) N cap, .int .i64 a, .int .i64 b, .pointer (some ⟨sb, 0, none⟩)] w fun e w' =>
      (e = .returned (.tuple #[.int .i64 a, .int .i64 b]) ∨ e = .returned (.tuple #[.int .i64 b, .int .i64 a])) ∧ Pv w g N sb G w' (m + 1) := by
  have hcw := h.cell
  obtain ⟨s, hs, hbox⟩ := h.box
  have hc := hbox.cell 0
  have hf := hbox.frozen 0
  simp only [List.getElem?_toArray, List.getElem?_cons_zero] at hc
  have HB := Lib.hid hbox
  have HS := Lib.hid h
  clear h hbox
  go_enter Try.func71, Try.ntmps71
  go_wp2
  go_quiet (first | (go_at_call 60; refine Calls.quiet_of_same (less_any _ _ _)))
  go_wp2
  · go_returns
    exact ⟨.inr rfl, (HS.out.drewN _).put (HB.out.drewN _) (by omega) hs⟩
  · go_returns
    refine ⟨.inl rfl, ?_⟩
    have := HS.out.drewN nq
    exact ⟨this.gr, this.cell, ⟨s, by omega, HB.out⟩, this.ne⟩

/-- one of three -/
def One3 (x a b c : Nat) : Prop := x = a ∨ x = b ∨ x = c

set_option maxHeartbeats 2000000 in
theorem median_any {w : World} {g N sb m : Nat} {G : Nat → Int} (h : Pv w g N sb G w m) (hm : m ≤ 900) (cap a b c : Nat) (ha : a < N) (hb : b < N) (hc : c < N) (hN : N < 4611686018427387904) :
    Calls Try.prog 69 #[.slice (some ⟨g, 0, none⟩) N cap, .int .i64 a, .int .i64 b, .int .i64 c, .pointer (some ⟨sb, 0, none⟩)] w fun e w' =>
      (∃ x, One3 x a b c ∧ e = .returned (.int .i64 x)) ∧ Pv w g N sb G w' (m + 3) := by
  have two : ∀ {w1 : World} {k : Nat} (h1 : Pv w g N sb G w1 k) (hk : k ≤ 1000) (x y : Nat) (hx : x < N) (hy : y < N),
      Calls Try.prog 71 #[.slice (some ⟨g, 0, none⟩) N cap, .int .i64 x, .int .i64 y, .pointer (some ⟨sb, 0, none⟩)] w1 fun e w' => (∃ p q : Nat, (p = x ∧ q = y ∨ p = y ∧ q = x) ∧ e = .returned (.tuple #[.int .i64 p, .int .i64 q])) ∧ Pv w g N sb G w' (k + 1) :=
    fun h1 hk x y hx hy => (order2_any h1.now hk cap x y hx hy hN).mono (by
      rintro e w' ⟨he, h2⟩
      refine ⟨?_, h1.trans h2⟩
      rcases he with he | he
      · exact ⟨x, y, .inl ⟨rfl, rfl⟩, he⟩
      · exact ⟨y, x, .inr ⟨rfl, rfl⟩, he⟩)
  have h0 := h
  have H0 := Lib.hid h0
  clear h h0
  go_enter Try.func69, Try.ntmps69
  go_wp2_with fail
  go_at_call 71
  refine (two H0.out (by omega) a b ha hb).mono ?_
  rintro e w1 ⟨⟨p1, q1, e1, rfl⟩, h1⟩
  have H1 := Lib.hid h1
  have E1 := Lib.hid e1
  clear h1 e1
  have hp1 : p1 < N := by rcases E1.out with ⟨rfl, rfl⟩ | ⟨rfl, rfl⟩ <;> omega
  have hq1 : q1 < N := by rcases E1.out with ⟨rfl, rfl⟩ | ⟨rfl, rfl⟩ <;> omega
  go_wp2_with fail
  go_at_call 71
  refine (two H1.out (by omega) q1 c hq1 hc).mono ?_
  rintro e w2 ⟨⟨p2, q2, e2, rfl⟩, h2⟩
  have H2 := Lib.hid h2
  have E2 := Lib.hid e2
  clear h2 e2
  have hp2 : p2 < N := by rcases E2.out with ⟨rfl, rfl⟩ | ⟨rfl, rfl⟩ <;> omega
  go_wp2_with fail
  go_at_call 71
  refine (two H2.out (by omega) p1 p2 hp1 hp2).mono ?_
  rintro e w3 ⟨⟨p3, q3, e3, rfl⟩, h3⟩
  have H3 := Lib.hid h3
  have E3 := Lib.hid e3
  clear h3 e3
  go_wp2
  go_ret
  refine ⟨⟨q3, ?_, rfl⟩, H3.out⟩
  unfold One3
  rcases E1.out with ⟨rfl, rfl⟩ | ⟨rfl, rfl⟩ <;> rcases E2.out with ⟨rfl, rfl⟩ | ⟨rfl, rfl⟩ <;> rcases E3.out with ⟨rfl, rfl⟩ | ⟨rfl, rfl⟩ <;> simp

set_option maxHeartbeats 1000000 in
theorem adjacent_any {w : World} {g N sb m : Nat} {G : Nat → Int} (h : Pv w g N sb G w m) (hm : m ≤ 900) (cap a : Nat) (h0 : 1 ≤ a) (ha : a + 1 < N) (hN : N < 4611686018427387904) :
    Calls Try.prog 68 #[.slice (some ⟨g, 0, none⟩) N cap, .int .i64 a, .pointer (some ⟨sb, 0, none⟩)] w fun e w' =>
      (∃ x, One3 x (a - 1) a (a + 1) ∧ e = .returned (.int .i64 x)) ∧ Pv w g N sb G w' (m + 3) := by
  have ct : Calls Try.prog 69 #[.slice (some ⟨g, 0, none⟩) N cap, .int .i64 ((a : Int) - 1), .int .i64 a, .int .i64 ((a : Int) + 1), .pointer (some ⟨sb, 0, none⟩)] w fun e w' =>
      (∃ x, One3 x (a - 1) a (a + 1) ∧ e = .returned (.int .i64 x)) ∧ Pv w g N sb G w' (m + 3) := by
    have := median_any h hm cap (a - 1) a (a + 1) (by omega) (by omega) ha hN
    rwa [show ((a - 1 : Nat) : Int) = (a : Int) - 1 by omega, show ((a + 1 : Nat) : Int) = (a : Int) + 1 by omega] at this
  clear h
  have CT := Lib.hid ct
  clear ct
  go_enter Try.func68, Try.ntmps68
  go_wp2_with fail
  go_at_call 69
  refine CT.out.mono ?_
  rintro e w1 ⟨⟨x, hx, rfl⟩, h1⟩
  have H1 := Lib.hid h1
  clear h1
  go_wp2
  go_ret
  exact ⟨⟨x, hx, rfl⟩, H1.out⟩
end Go.Proofs.Ytnleeffajljodaa
end
