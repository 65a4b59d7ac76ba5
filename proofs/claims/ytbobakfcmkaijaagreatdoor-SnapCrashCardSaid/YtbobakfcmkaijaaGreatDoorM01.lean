/- Several texts, each a section: Words, Math, Base. -/
import Derived.WalkKit
import Derived.Below
import Derived.Laws.OwnMore
import Derived.OwnWalk
import Derived.Deep.AppendLies
import Derived.Deep.Draws
import Derived.Laws.Rows
import Derived.Maps.AppendAt
import Derived.Lib.Hide
import Derived.OneCell
import Derived.Laws.BytesArg
import Derived.Laws.Bits64b
import Derived.Laws.BitsLemmas
import Derived.IntWalk
import Derived.Test.YtbobakfcmkaijaaGreatDoorRows
import Derived.Outline
import Derived.BigQuiet
import Derived.Deep.QuietTactic
import Derived.Handy
section
/- Words of ours for slices of single cells in memory, and an append whose source may be nil. No program is named here. -/
namespace Go.Proofs.YtbobakfcmkaijaaGreatDoor
open Go.RowKit

/-- the cells that bytes take -/
def c8 (zs : List Int) : List Value := zs.map (Value.int .u8)

theorem c8_append (a b : List Int) : c8 (a ++ b) = c8 a ++ c8 b := by simp [c8]
theorem c8_length (a : List Int) : (c8 a).length = a.length := by simp [c8]
theorem c8_one (a : List Int) : ∀ u ∈ c8 a, u.oneCell' = true := by
  intro u hu
  obtain ⟨_, _, rfl⟩ := List.mem_map.1 hu
  rfl
theorem c8_get {zs : List Int} {j : Nat} (h : j < zs.length) : (c8 zs)[j]? = some (.int .u8 zs[j]) := by simp [c8, h]
theorem c8_inj : ∀ {a b : List Int}, c8 a = c8 b → a = b
  | [], [], _ => rfl
  | [], _ :: _, h => by simp [c8] at h
  | _ :: _, [], h => by simp [c8] at h
  | x :: a, y :: b, h => by
    simp only [c8, List.map_cons, List.cons.injEq] at h
    obtain ⟨h1, h2⟩ := h
    rw [c8_inj (a := a) (b := b) h2]
    injection h1 with _ h1
    rw [h1]

/-- a slice's places hold the list xs, each place below block lim; where the list is empty nothing is said -/
def Rds (w : World) (lim : Nat) (A : Option Addr) (xs : List Value) : Prop :=
  xs ≠ [] → ∃ ad, A = some ad ∧ ad.block < lim ∧ ∀ j u, xs[j]? = some u → w.cell? (ad.add j) = some u

theorem blk_add (a : Addr) (n : Nat) : (a.add n).block = a.block := by unfold Addr.add; split <;> rfl
theorem add_twice (a : Addr) (i j : Nat) : (a.add i).add j = a.add (i + j) := by
  unfold Addr.add
  by_cases hi : i = 0 <;> by_cases hj : j = 0 <;> simp [hi, hj, Nat.add_assoc]

section
variable {w w' : World} {lim : Nat} {A : Option Addr} {xs : List Value}
theorem Rds.none_ : Rds w lim none [] := fun h => absurd rfl h
theorem Rds.nil_ {A : Option Addr} : Rds w lim A [] := fun h => absurd rfl h
theorem Rds.at_ {k : Nat} {u : Value} (h : Rds w lim A xs) (hk : xs[k]? = some u) : ∃ ad, A = some ad ∧ ad.block < lim ∧ w.cell? (ad.add k) = some u := by
  have hne : xs ≠ [] := by rintro rfl; simp at hk
  obtain ⟨ad, e, hb, hc⟩ := h hne
  exact ⟨ad, e, hb, hc k u hk⟩
theorem Rds.keep (h : Rds w lim A xs) (hk : ∀ p : Addr, p.block < lim → w'.cell? p = w.cell? p) : Rds w' lim A xs := fun hne => by
  obtain ⟨ad, e, hb, hc⟩ := h hne
  exact ⟨ad, e, hb, fun j u hu => (hk _ (by rw [blk_add]; exact hb)).trans (hc j u hu)⟩
theorem Rds.more {lim' : Nat} (h : Rds w lim A xs) (hl : lim ≤ lim') : Rds w lim' A xs := fun hne => by
  obtain ⟨ad, e, hb, hc⟩ := h hne
  exact ⟨ad, e, by omega, hc⟩
theorem Rds.below (h : Rds w lim A xs) (hb : Below lim w w') : Rds w' lim A xs := h.keep fun _ hp => hb.cell hp
theorem Rds.drew (h : Rds w lim A xs) : Rds w.drew lim A xs := h
theorem Rds.drewN (h : Rds w lim A xs) (n : Nat) : Rds (w.drewN n) lim A xs := h
theorem Rds.alloc (h : Rds w lim A xs) (hl : lim ≤ w.heap.size) (o : Obj) : Rds (w.alloc o) lim A xs := h.keep fun p hp => World.cell?_alloc_lt w o p (by omega)
theorem Rds.grown {row : Option Nat} (h : Rds w lim A xs) (hg : w.grownBy w' row) (hl : lim ≤ w.heap.size) (hr : ∀ g, row = some g → lim ≤ g) : Rds w' lim A xs :=
  h.keep fun p hp => World.cell?_of_block (hg.block p.block (by omega) (fun e => by have := hr _ e.symm; omega))
theorem Rds.drop (h : Rds w lim A xs) (k cap : Nat) (hc : xs.length ≤ cap) : Rds w lim (if cap = k then A else A.map (·.add k)) (xs.drop k) := by
  intro hne
  have hk : k < xs.length := by
    rcases Nat.lt_or_ge k xs.length with h1 | h1
    · exact h1
    · exact absurd (List.drop_eq_nil_of_le h1) hne
  obtain ⟨ad, rfl, hb, hcell⟩ := h (by rintro rfl; simp at hk)
  rw [if_neg (by omega)]
  refine ⟨ad.add k, rfl, by rw [blk_add]; exact hb, fun j u hu => ?_⟩
  rw [add_twice]
  exact hcell _ u (by rw [← hu, List.getElem?_drop])
theorem Rds.take (h : Rds w lim A xs) (k : Nat) : Rds w lim A (xs.take k) := by
  intro hne
  obtain ⟨ad, e, hb, hc⟩ := h (by rintro rfl; simp at hne)
  refine ⟨ad, e, hb, fun j u hu => hc j u ?_⟩
  rw [List.getElem?_take] at hu
  split at hu
  · exact hu
  · cases hu
theorem Rds.ofOwn {base : Nat} {e : TypeId} {n c : Nat} (h : w.ownsRow base e 1 (.slice A n c) n xs) : Rds w w.heap.size A xs := by
  intro hne
  rcases h.2 with ⟨hv, hn⟩ | ⟨g, cap, cur, hv, _, hh, _⟩
  · have := h.1
    rw [hn] at this
    exact absurd (List.eq_nil_of_length_eq_zero (by simpa using this)) hne
  · injection hv with hA
    subst hA
    exact ⟨_, rfl, (Array.getElem?_eq_some_iff.1 hh).1, h.cells (g := g) rfl⟩
end

/-- a block that holds just these cells, none of them frozen -/
def Whole (w : World) (g : Nat) (t : TypeId) (cs : Array Value) : Prop := w.heap[g]? = some (.cells cs t (0, 0))

section
variable {w w' : World} {g : Nat} {t : TypeId} {cs : Array Value}
theorem Whole.lt (h : Whole w g t cs) : g < w.heap.size := (Array.getElem?_eq_some_iff.1 h).1
theorem Whole.cell (h : Whole w g t cs) (i : Nat) : w.cell? ⟨g, i, none⟩ = cs[i]? := cell_of_row w g i cs t (0, 0) h
theorem Whole.frozen (h : Whole w g t cs) (i : Nat) : w.frozen? ⟨g, i, none⟩ = false := by
  unfold Whole at h
  simp [World.frozen?, h]
theorem Whole.new (w : World) (t : TypeId) (cs : Array Value) : Whole (w.alloc (.cells cs t)) w.heap.size t cs := heap_alloc_new w _
theorem Whole.alloc (h : Whole w g t cs) (o : Obj) : Whole (w.alloc o) g t cs := (Below.heap_alloc w o g h.lt).trans h
theorem Whole.put (h : Whole w g t cs) (i : Nat) (u : Value) : Whole (w.setCell ⟨g, i, none⟩ u) g t (cs.setIfInBounds i u) := by
  unfold Whole at h ⊢
  simp [World.setCell, Array.getElem?_modify, h]
theorem Whole.far (h : Whole w g t cs) {p : Addr} (hp : g ≠ p.block) (u : Value) : Whole (w.setCell p u) g t cs := (Below.heap_setCell w p u g hp).trans h
theorem Whole.below {B : Nat} (h : Whole w g t cs) (hb : Below B w w') (hg : g < B) : Whole w' g t cs := (hb.block g hg).trans h
theorem Whole.grown {row : Option Nat} (h : Whole w g t cs) (hb : w.grownBy w' row) (hg : some g ≠ row) : Whole w' g t cs := (hb.block g h.lt hg).trans h
theorem Whole.drew (h : Whole w g t cs) : Whole w.drew g t cs := h
theorem Whole.drewN (h : Whole w g t cs) (n : Nat) : Whole (w.drewN n) g t cs := h
end

/-- only block g, and what is new, has turned -/
theorem Only.refl (w : World) (g : Nat) : w.grownBy w (some g) := World.grownBy.refl w _
theorem Only.trans {a b c : World} {g : Option Nat} (h : a.grownBy b g) (k : b.grownBy c g) : a.grownBy c g :=
  ⟨k.os.trans h.os, k.tape.trans h.tape, k.output.trans h.output, Nat.le_trans h.size k.size, fun i hi hn => (k.block i (Nat.lt_of_lt_of_le hi h.size) hn).trans (h.block i hi hn)⟩
theorem Only.drewN {a b : World} {g : Option Nat} (h : a.grownBy b g) (n : Nat) : a.grownBy (b.drewN n) g := ⟨h.os, h.tape, h.output, h.size, h.block⟩
theorem Only.drew {a b : World} {g : Option Nat} (h : a.grownBy b g) : a.grownBy b.drew g := ⟨h.os, h.tape, h.output, h.size, h.block⟩
theorem Only.put {a b : World} {g : Nat} (h : a.grownBy b (some g)) (i : Nat) (u : Value) : a.grownBy (b.setCell ⟨g, i, none⟩ u) (some g) :=
  Only.trans h ⟨rfl, rfl, rfl, by simp [World.setCell], fun k hk hn => Below.heap_setCell _ _ _ _ (fun e => hn (by rw [e]))⟩

theorem one_new (w : World) (t : TypeId) (u : Value) : ∀ j u', [u][j]? = some u' → (w.alloc (.cells #[u] t)).cell? ((⟨w.heap.size, 0, none⟩ : Addr).add j) = some u' := by
  intro j u' h
  match j, h with
  | 0, h =>
    simp at h
    subst h
    exact (Whole.new w t #[u]).cell 0

/-- 'append(s, u)' of one cell to a row of the call's own -/
theorem app_one {P : Program} (w : World) {ops : Array Oper} {rest : List Oper} {o : Oper} {a : Act} {Q : Exit → Act → World → Prop} (hgd : o.guard = none) (s x : Operand) (t : TypeId)
    (ho : o.op = .call { callee := .builtin .append, args := #[s, x], argTypes := #[t, t] })
    (B : Nat) (e : TypeId) (i : TypeInfo) (z : Value) (bytes : Nat) (ht : P.underlying t = some (.slice e)) (hi : P.info? e = some i) (hz : i.zero = some z)
    (hsize : i.size = 1) (hby : i.bytes = bytes) (hzs : z.cells.size = 1)
    (v : Value) (n : Nat) (xs : List Value) (hs : a.eval s = v) (hown : w.ownsRow B e 1 v n xs) (u : Value) (hx : a.eval x = .slice (some ⟨w.heap.size, 0, none⟩) 1 1) (h1 : u.oneCell' = true)
    (hn : n + 1 ≤ maxLen) (hbytes : (n + 1) * bytes ≤ 140737488355328) (hB : B ≤ w.heap.size)
    (h : ∀ v' w', w'.ownsRow B e 1 v' (n + 1) (xs ++ [u]) → Below B w w' → wpList P ops Q rest (a.put o.dst v') w') : wpList P ops Q (o :: rest) a (w.alloc (.cells #[u] e)) := by
  refine wpList_append_own _ hgd s x t ho B e i z 1 bytes ht hi hz hsize hby hzs (by decide) v n xs hs (hown.alloc _) ⟨w.heap.size, 0, none⟩ 1 1 [u] hx rfl (one_new w e u) (by simpa using h1) hn hbytes (by simp; omega) ?_
  intro v' w' hown' hg _
  refine h v' w' hown' (((Below.refl B w).alloc hB _).grown hg (by simp; omega) (fun k hk => (hown.lt k hk).1))

/-- string(b), b a slice of bytes, nil or not -/
theorem conv_text {P : Program} (w : World) (src e dst : TypeId) (hs : P.underlying src = some (.slice e)) (he : P.underlying e = some (.int .u8)) (hd : P.underlying dst = some .string)
    {lim : Nat} {A : Option Addr} {zs : List Int} (h : Rds w lim A (c8 zs)) (c : Nat) : (convert src dst (.slice A zs.length c)).run P w = .ok (.string (strOfNums zs)) w := by
  cases A with
  | none =>
    have hz : zs = [] := by
      cases zs with
      | nil => rfl
      | cons z zs => obtain ⟨ad, e, _⟩ := h (by simp [c8]); cases e
    subst hz
    exact run_convert_bytes_nil w src e hs he 0 c dst hd
  | some ad =>
    have hl : (loadCells ad zs.length).run P w = .ok (zs.map (Value.int .u8)).toArray w := by
      have := run_loadCells_list (P := P) w ad (c8 zs) (fun j v hj => by
        obtain ⟨ad', e, _, hc⟩ := h.at_ hj
        obtain rfl := Option.some.inj e
        exact hc)
      simpa [c8] using this
    rw [run_convert_bytes_string w src dst e _ zs.length c hs he hd, run_bytesToString w _ zs.length c zs hl, foldl_push_bytes]
    simp [strOfNums, ByteArray.empty, ByteArray.emptyWithCapacity]
    rfl

/-- what a row of the call's own is as a slice -/
theorem own_open {w : World} {B : Nat} {e : TypeId} {n : Nat} {v : Value} {xs : List Value} (h : w.ownsRow B e 1 v n xs) :
    ∃ A c, v = .slice A n c ∧ Rds w w.heap.size A xs ∧ n ≤ c ∧ c ≤ maxLen ∧ (A = none → n = 0 ∧ c = 0) := by
  rcases h.2 with ⟨rfl, rfl⟩ | ⟨g, cap, cur, rfl, _, _, h1, h2, _⟩
  · exact ⟨none, 0, rfl, Rds.ofOwn h, Nat.le_refl _, by unfold maxLen; omega, fun _ => ⟨rfl, rfl⟩⟩
  · exact ⟨_, cap, rfl, Rds.ofOwn h, h1, h2, fun h => by cases h⟩

/-- a new block of bytes reads as these bytes -/
theorem Rds.made (w : World) (t : TypeId) (zs : List Int) (cs : Array Value) (h : cs.toList = c8 zs) : Rds (w.alloc (.cells cs t)) (w.heap.size + 1) (some ⟨w.heap.size, 0, none⟩) (c8 zs) := by
  intro _
  refine ⟨_, rfl, by simp, fun j u hu => ?_⟩
  have hadd : (⟨w.heap.size, 0, none⟩ : Addr).add j = ⟨w.heap.size, j, none⟩ := by unfold Addr.add; split <;> simp_all
  rw [hadd, (Whole.new w t cs).cell j, ← hu, ← h]
  simp

/-- 'append(s, x...)' to a row of the call's own, x a slice that is nil or not -/
theorem run_app_many {P : Program} (w : World) (t ty e : TypeId) (i : TypeInfo) (z : Value) (bytes : Nat) (ht : P.underlying t = some (.slice e)) (hi : P.info? e = some i) (hz : i.zero = some z)
    (hsize : i.size = 1) (hby : i.bytes = bytes) (hzs : z.cells.size = 1) (B : Nat) (v : Value) (n : Nat) (xs : List Value) (hown : w.ownsRow B e 1 v n xs)
    (A : Option Addr) (c lim : Nat) (news : List Value) (hr : Rds w lim A news) (hA : A = none → c = 0) (h1 : ∀ u ∈ news, u.oneCell' = true) (hn : n + news.length ≤ maxLen) (hbytes : (n + news.length) * bytes ≤ 140737488355328) (hB : B ≤ w.heap.size) :
    ∃ v' w', (Builtin.append_ #[t, t] ty #[v, .slice A news.length c]).run P w = .ok v' w' ∧ w'.ownsRow B e 1 v' (n + news.length) (xs ++ news) ∧ Below B w w' := by
  cases A with
  | none =>
    have hnews : news = [] := by
      cases news with
      | nil => rfl
      | cons u us => obtain ⟨ad, e, _⟩ := hr (by simp); cases e
    subst hnews
    obtain rfl := hA rfl
    exact ⟨v, w, run_append_owned_none (P := P) w B t ty e i 1 ht hi v n xs hown, by simpa using hown, Below.refl _ _⟩
  | some ad =>
    have hcells : ∀ j u, news[j]? = some u → w.cell? (ad.add j) = some u := fun j u hu => by
      obtain ⟨ad', e, _, hc⟩ := hr.at_ hu
      obtain rfl := Option.some.inj e
      exact hc
    obtain ⟨v', w', hrun, h2, h3, _⟩ := run_append_own (P := P) w B t ty e i z 1 bytes ht hi hz hsize hby hzs (by decide) v n xs hown ad news.length c news (by simp) hcells h1 hn hbytes hB
    exact ⟨v', w', hrun, h2, (Below.refl B w).grown h3 hB (fun k hk => (hown.lt k hk).1)⟩

theorem app_many {P : Program} (w : World) {ops : Array Oper} {rest : List Oper} {o : Oper} {a : Act} {Q : Exit → Act → World → Prop} (hgd : o.guard = none) (s x : Operand) (t : TypeId)
    (ho : o.op = .call { callee := .builtin .append, args := #[s, x], argTypes := #[t, t] })
    (B : Nat) (e : TypeId) (i : TypeInfo) (z : Value) (bytes : Nat) (ht : P.underlying t = some (.slice e)) (hi : P.info? e = some i) (hz : i.zero = some z)
    (hsize : i.size = 1) (hby : i.bytes = bytes) (hzs : z.cells.size = 1) (v : Value) (n : Nat) (xs : List Value) (hs : a.eval s = v) (hown : w.ownsRow B e 1 v n xs)
    (A : Option Addr) (m c lim : Nat) (news : List Value) (hx : a.eval x = .slice A m c) (hm : m = news.length) (hr : Rds w lim A news) (hA : A = none → c = 0) (h1 : ∀ u ∈ news, u.oneCell' = true) (hn : n + m ≤ maxLen) (hbytes : (n + m) * bytes ≤ 140737488355328) (hB : B ≤ w.heap.size)
    (h : ∀ v' w', w'.ownsRow B e 1 v' (n + m) (xs ++ news) → Below B w w' → wpList P ops Q rest (a.put o.dst v') w') : wpList P ops Q (o :: rest) a w := by
  subst hm
  refine wpList_plain hgd fun K hK => ?_
  obtain ⟨v', w', hrun, h2, h3⟩ := run_app_many (P := P) w t o.type e i z bytes ht hi hz hsize hby hzs B v n xs hown A c lim news hr hA h1 hn hbytes hB
  unfold Oper.wp
  simp [execOp, ho, resolve, invoke, builtin, hs, hx, hrun, Result.andThen]
  exact hK _ _ (h v' w' h2 h3)
end Go.Proofs.YtbobakfcmkaijaaGreatDoor
end

section
/- Plain mathematics of numbers as bytes: the digits of a number, and what is read from bytes. No program is named here. -/
namespace Go.Proofs.YtbobakfcmkaijaaGreatDoor

/-- the digits of x to the base 128, the lowest first, 128 added to all but the last: at most k + 1 of them -/
def encF : Nat → Int → List Int
  | 0, x => [x]
  | k + 1, x => if x < 128 then [x] else (x % 128 + 128) :: encF k (x / 128)
def enc (x : Int) : List Int := encF 9 x

theorem encF_more : ∀ (k : Nat) (x : Int), 0 ≤ x → x < 128 ^ (k + 1) → encF (k + 1) x = encF k x
  | 0, x, h0, h1 => by
    have : x < 128 := by simpa using h1
    simp [encF, this]
  | k + 1, x, h0, h1 => by
    have e : encF (k + 1 + 1) x = if x < 128 then [x] else (x % 128 + 128) :: encF (k + 1) (x / 128) := rfl
    rw [e]
    have e2 : encF (k + 1) x = if x < 128 then [x] else (x % 128 + 128) :: encF k (x / 128) := rfl
    rw [e2]
    by_cases hx : x < 128
    · simp [hx]
    · rw [if_neg hx, if_neg hx, encF_more k (x / 128) (by omega) (by
        have : x < 128 ^ (k + 1) * 128 := by rw [← Int.pow_succ]; exact h1
        omega)]
theorem encF_length : ∀ (k : Nat) (x : Int), (encF k x).length ≤ k + 1
  | 0, x => by simp [encF]
  | k + 1, x => by
    unfold encF
    split
    · simp
    · have := encF_length k (x / 128); simp; omega
theorem encF_pos : ∀ (k : Nat) (x : Int), 1 ≤ (encF k x).length
  | 0, x => by simp [encF]
  | k + 1, x => by unfold encF; split <;> simp
theorem enc_length (x : Int) : (enc x).length ≤ 10 := encF_length 9 x
theorem enc_pos (x : Int) : 1 ≤ (enc x).length := encF_pos 9 x
theorem enc_small {x : Int} (h : x < 128) : enc x = [x] := by simp [enc, encF, h]
theorem enc_step {x : Int} (h : 128 ≤ x) (h1 : x ≤ 18446744073709551615) : enc x = (x % 128 + 128) :: enc (x / 128) := by
  have e : encF 9 x = if x < 128 then [x] else (x % 128 + 128) :: encF 8 (x / 128) := rfl
  show encF 9 x = _ :: encF 9 (x / 128)
  rw [e, if_neg (by omega), encF_more 8 (x / 128) (by omega) (by omega)]
theorem encF_range : ∀ (k : Nat) (x : Int), 0 ≤ x → x < 256 * 128 ^ k → ∀ z ∈ encF k x, 0 ≤ z ∧ z ≤ 255
  | 0, x, h0, h1, z, hz => by simp [encF] at hz; subst hz; simp at h1; omega
  | k + 1, x, h0, h1, z, hz => by
    unfold encF at hz
    split at hz
    · simp at hz; omega
    · rcases List.mem_cons.1 hz with rfl | hz
      · omega
      · refine encF_range k (x / 128) (by omega) ?_ z hz
        have : x < 256 * 128 ^ k * 128 := by
          have e : (256 : Int) * 128 ^ (k + 1) = 256 * 128 ^ k * 128 := by rw [Int.pow_succ, Int.mul_assoc]
          omega
        omega
theorem enc_range {x : Int} (h : 0 ≤ x) (h1 : x ≤ 18446744073709551615) : ∀ z ∈ enc x, 0 ≤ z ∧ z ≤ 255 := encF_range 9 x h (by omega)

theorem or128 : ∀ m : Fin 256, (m.val ||| 128) = m.val % 128 + 128 := by decide +kernel
/-- the byte of a digit that is not the last -/
theorem or_digit (x : Int) : Go.bits .or .u8 (x % 256) 128 = x % 128 + 128 := by
  obtain ⟨n, hn⟩ := Int.eq_ofNat_of_zero_le (show 0 ≤ x % 256 by omega)
  have hb : n < 256 := by omega
  rw [hn, show (128 : Int) = ((128 : Nat) : Int) from rfl, (bits_nat .u8 8 (by decide) wraps_u8 n 128 (by omega) (by decide)).2, or128 ⟨n, hb⟩]
  show ((n % 128 + 128 : Nat) : Int) = _
  omega

/-- what ReadUint tells of bytes, from the place i on, with x read so far: the number, how many bytes it has, the error -/
def dec : Int → Nat → List Int → Int × Int × Int
  | _, _, [] => (0, 0, 4)
  | x, i, d :: r =>
    if i = 9 ∧ d ≠ 1 then (0, 0, 5)
    else if 128 ≤ d then dec (x + d % 128 * 2 ^ (7 * i)) (i + 1) r
    else if d = 0 ∧ 0 < i then (0, 0, 5)
    else (x + d % 128 * 2 ^ (7 * i), i + 1, 0)
/-- the same, as the machine reckons it -/
def decR : Int → Nat → List Int → Int × Int × Int
  | _, _, [] => (0, 0, 4)
  | x, i, d :: r =>
    if i = 9 ∧ d ≠ 1 then (0, 0, 5)
    else if 128 ≤ d then decR (Go.bits .or .u64 x (IntKind.u64.wrap (d % 128 * 2 ^ (7 * i)))) (i + 1) r
    else if d = 0 ∧ 0 < i then (0, 0, 5)
    else (Go.bits .or .u64 x (IntKind.u64.wrap (d % 128 * 2 ^ (7 * i))), i + 1, 0)

theorem or_add (x t : Int) (i : Nat) (hi : 7 * i ≤ 63) (hx0 : 0 ≤ x) (hx : x < 2 ^ (7 * i)) (ht0 : 0 ≤ t) (ht : t * 2 ^ (7 * i) ≤ 18446744073709551615) :
    Go.bits .or .u64 x (IntKind.u64.wrap (t * 2 ^ (7 * i))) = x + t * 2 ^ (7 * i) := by
  obtain ⟨a, rfl⟩ := Int.eq_ofNat_of_zero_le hx0
  obtain ⟨b, rfl⟩ := Int.eq_ofNat_of_zero_le ht0
  have hcast : ((2 ^ (7 * i) : Nat) : Int) = 2 ^ (7 * i) := by simp
  have ha : a < 2 ^ (7 * i) := by rw [← hcast] at hx; exact_mod_cast hx
  have hp : 2 ^ (7 * i) ≤ 2 ^ 63 := Nat.pow_le_pow_right (by decide) hi
  have hw : IntKind.u64.wrap ((b : Int) * 2 ^ (7 * i)) = ((2 ^ (7 * i) * b : Nat) : Int) := by
    rw [IntWalk.u64_in _ ⟨Int.mul_nonneg (by omega) (by rw [← hcast]; omega), ht⟩, Int.natCast_mul, hcast, Int.mul_comm]
  have hb : 2 ^ (7 * i) * b ≤ 18446744073709551615 := by
    rw [← hcast, Int.mul_comm, ← Int.natCast_mul] at ht
    generalize 2 ^ (7 * i) * b = q at ht ⊢
    omega
  rw [hw, bits_or_u64_nat a _ (by omega) (by omega), Nat.or_comm, ← Nat.two_pow_add_eq_or_of_lt ha b]
  rw [Int.natCast_add, Int.natCast_mul, hcast]
  rw [Int.mul_comm, Int.add_comm]

theorem decR_dec : ∀ (l : List Int) (x : Int) (i : Nat), i ≤ 9 → 0 ≤ x → x < 2 ^ (7 * i) → (∀ z ∈ l, 0 ≤ z ∧ z ≤ 255) → decR x i l = dec x i l
  | [], _, _, _, _, _, _ => rfl
  | d :: r, x, i, hi, hx0, hx, hz => by
    have hd := hz d (by simp)
    unfold decR dec
    by_cases h9 : i = 9 ∧ d ≠ 1
    · rw [if_pos h9, if_pos h9]
    · rw [if_neg h9, if_neg h9]
      have hpos : (0 : Int) < 2 ^ (7 * i) := Int.pow_pos (by decide)
      have hstep : x + d % 128 * 2 ^ (7 * i) < 2 ^ (7 * (i + 1)) := by
        have e : (2 : Int) ^ (7 * (i + 1)) = 128 * 2 ^ (7 * i) := by
          rw [show 7 * (i + 1) = 7 * i + 7 by omega, Int.pow_add, Int.mul_comm]; rfl
        have h1 : d % 128 * 2 ^ (7 * i) ≤ 127 * 2 ^ (7 * i) := Int.mul_le_mul_of_nonneg_right (by omega) (by omega)
        omega
      have hbound : d % 128 * 2 ^ (7 * i) ≤ 18446744073709551615 := by
        by_cases h : i = 9
        · subst h
          have : d = 1 := by omega
          subst this
          rw [show (1 : Int) % 128 = 1 from rfl, Int.one_mul, show 7 * 9 = 63 from rfl]
          exact Int.le_of_lt (by decide)
        · have hp : (2 : Int) ^ (7 * (i + 1)) ≤ 2 ^ 63 := by
            have h : (2 : Nat) ^ (7 * (i + 1)) ≤ 2 ^ 63 := Nat.pow_le_pow_right (by decide) (by omega)
            have hc : ((2 ^ (7 * (i + 1)) : Nat) : Int) = 2 ^ (7 * (i + 1)) := by simp
            rw [← hc]
            exact Int.ofNat_le.2 h
          omega
      have e := or_add x (d % 128) i (by omega) hx0 hx (by omega) hbound
      rw [e]
      by_cases h128 : 128 ≤ d
      · rw [if_pos h128, if_pos h128]
        refine decR_dec r _ (i + 1) (by omega) ?_ hstep (fun z hz' => hz z (by simp [hz']))
        have : 0 ≤ d % 128 * 2 ^ (7 * i) := Int.mul_nonneg (by omega) (by omega)
        omega
      · rw [if_neg h128, if_neg h128]

/-- bytes: each from 0 to 255 -/
def Byt (zs : List Int) : Prop := ∀ z ∈ zs, 0 ≤ z ∧ z ≤ 255
theorem Byt.drop {zs : List Int} (h : Byt zs) (k : Nat) : Byt (zs.drop k) := fun z hz => h z (List.mem_of_mem_drop hz)
theorem Byt.take {zs : List Int} (h : Byt zs) (k : Nat) : Byt (zs.take k) := fun z hz => h z (List.mem_of_mem_take hz)
theorem Byt.append {a b : List Int} (h : Byt a) (h' : Byt b) : Byt (a ++ b) := fun z hz => (List.mem_append.1 hz).elim (h z) (h' z)

/-- the signed number that stands behind a number -/
def zig (x : Int) : Int := if x % 2 = 0 then x / 2 else -(x / 2) - 1
theorem and_one {x : Int} (h0 : 0 ≤ x) (h1 : x ≤ 18446744073709551615) : Go.bits .and .u64 x 1 = x % 2 := by
  obtain ⟨n, rfl⟩ := Int.eq_ofNat_of_zero_le h0
  rw [show (1 : Int) = ((1 : Nat) : Int) from rfl, bits_and_u64_nat n 1 (by omega) (by omega), Nat.and_one_is_mod]
  omega
theorem zig_of {x : Int} (h0 : 0 ≤ x) (h1 : x ≤ 18446744073709551615) : Go.bits .xor .i64 (x / 2) (-(x % 2)) = zig x := by
  obtain ⟨n, hn⟩ := Int.eq_ofNat_of_zero_le (show 0 ≤ x / 2 by omega)
  have hb : n < 9223372036854775808 := by omega
  unfold zig Go.bits
  rw [hn]
  have h1 : (BitVec.ofInt 64 ((n : Nat) : Int)) = BitVec.ofNat 64 n := by rw [BitVec.ofInt_natCast]
  show IntKind.i64.wrap ((BitVec.ofInt 64 (n : Int) ^^^ BitVec.ofInt 64 (-(x % 2))).toNat : Int) = _
  rw [h1]
  by_cases he : x % 2 = 0
  · rw [he, if_pos rfl]
    have : BitVec.ofInt 64 (-0) = 0#64 := by decide
    rw [this, BitVec.xor_zero, BitVec.toNat_ofNat, Nat.mod_eq_of_lt (by omega), IntKind.wrap_i64]
    omega
  · rw [show x % 2 = 1 by omega, if_neg (by decide)]
    have : BitVec.ofInt 64 (-1) = BitVec.allOnes 64 := by decide
    rw [this, BitVec.xor_allOnes, BitVec.toNat_not, BitVec.toNat_ofNat, Nat.mod_eq_of_lt (by omega), IntKind.wrap_i64]
    omega
/-- what dec tells lies within its bounds -/
def DecOk (m : Nat) (R : Int × Int × Int) : Prop :=
  ∃ (X : Int) (n : Nat) (E : Int), R = (X, (n : Int), E) ∧ 0 ≤ X ∧ X ≤ 18446744073709551615 ∧ n ≤ m ∧ (E = 0 → 1 ≤ n) ∧ (E ≠ 0 → X = 0 ∧ n = 0) ∧ (E = 0 ∨ E = 3 ∨ E = 4 ∨ E = 5)

theorem pow_split (i : Nat) : (2 : Int) ^ (7 * (i + 1)) = 128 * 2 ^ (7 * i) := by
  rw [show 7 * (i + 1) = 7 * i + 7 by omega, Int.pow_add, Int.mul_comm]; rfl
theorem pow_63 (i : Nat) (h : i ≤ 9) : (2 : Int) ^ (7 * i) ≤ 9223372036854775808 := by
  have h : (2 : Nat) ^ (7 * i) ≤ 2 ^ 63 := Nat.pow_le_pow_right (by decide) (by omega)
  have hc : ((2 ^ (7 * i) : Nat) : Int) = 2 ^ (7 * i) := by simp
  rw [← hc]
  omega

theorem dec_ok : ∀ (l : List Int) (x : Int) (i : Nat), i ≤ 9 → 0 ≤ x → x < 2 ^ (7 * i) → Byt l → DecOk (i + l.length) (dec x i l)
  | [], _, i, _, _, _, _ => ⟨0, 0, 4, rfl, by omega, by omega, by omega, by omega, by omega, by omega⟩
  | d :: r, x, i, hi, hx0, hx, hz => by
    have hd := hz d (by simp)
    unfold dec
    by_cases h9 : i = 9 ∧ d ≠ 1
    · rw [if_pos h9]; exact ⟨0, 0, 5, rfl, by omega, by omega, by omega, by omega, by omega, by omega⟩
    · rw [if_neg h9]
      have hpos : (0 : Int) < 2 ^ (7 * i) := Int.pow_pos (by decide)
      have h1 : d % 128 * 2 ^ (7 * i) ≤ 127 * 2 ^ (7 * i) := Int.mul_le_mul_of_nonneg_right (by omega) (by omega)
      have h2 : 0 ≤ d % 128 * 2 ^ (7 * i) := Int.mul_nonneg (by omega) (by omega)
      have hstep : x + d % 128 * 2 ^ (7 * i) < 2 ^ (7 * (i + 1)) := by rw [pow_split]; omega
      by_cases h128 : 128 ≤ d
      · rw [if_pos h128]
        obtain ⟨X, n, E, h⟩ := dec_ok r _ (i + 1) (by omega) (by omega) hstep (fun z hz' => hz z (by simp [hz']))
        exact ⟨X, n, E, h.1, h.2.1, h.2.2.1, by have := h.2.2.2.1; simp; omega, h.2.2.2.2⟩
      · rw [if_neg h128]
        by_cases h0 : d = 0 ∧ 0 < i
        · rw [if_pos h0]; exact ⟨0, 0, 5, rfl, by omega, by omega, by omega, by omega, by omega, by omega⟩
        · rw [if_neg h0]
          refine ⟨_, i + 1, 0, rfl, by omega, ?_, by rw [List.length_cons]; omega, by omega, by omega, by omega⟩
          have hp := pow_63 i hi
          by_cases h : i = 9
          · have : d = 1 := by omega
            subst this
            rw [show (1 : Int) % 128 = 1 from rfl, Int.one_mul]
            omega
          · have hp2 := pow_63 (i + 1) (by omega)
            omega

/-- a number that may not be above most, from the beginning of l: the number, how many bytes, the error -/
def num (most : Int) (l : List Int) : Int × Int × Int :=
  if (dec 0 0 l).2.2 = 0 then (if most < (dec 0 0 l).1 then (0, 0, 3) else ((dec 0 0 l).1, (dec 0 0 l).2.1, 0))
  else (0, 0, (dec 0 0 l).2.2)
theorem num_ok (most : Int) (l : List Int) (hz : Byt l) (h0 : 0 ≤ most) : DecOk l.length (num most l) ∧ (num most l).1 ≤ most := by
  obtain ⟨X, n, E, h⟩ := dec_ok l 0 0 (by omega) (by omega) (by decide) hz
  unfold num
  rw [h.1]
  simp only
  by_cases hE : E = 0
  · rw [if_pos hE]
    by_cases hX : most < X
    · rw [if_pos hX]
      exact ⟨⟨0, 0, 3, rfl, by omega, by omega, by omega, by omega, by omega, by omega⟩, h0⟩
    · rw [if_neg hX]
      exact ⟨⟨X, n, 0, rfl, h.2.1, h.2.2.1, by have := h.2.2.2.1; omega, fun _ => h.2.2.2.2.1 hE, by omega, by omega⟩, by simp; omega⟩
  · rw [if_neg hE]
    exact ⟨⟨0, 0, E, rfl, by omega, by omega, by omega, by omega, by omega, h.2.2.2.2.2.2⟩, h0⟩

theorem dec_enc : ∀ (l : List Int) (x : Int) (i : Nat) (X N : Int), i ≤ 9 → (∀ z ∈ l, 0 ≤ z ∧ z ≤ 255) → dec x i l = (X, N, 0) →
    ∃ (Y : Int) (m : Nat), X = x + Y * 2 ^ (7 * i) ∧ N = i + m ∧ 1 ≤ m ∧ m ≤ l.length ∧ 0 ≤ Y ∧ encF (9 - i) Y = l.take m ∧ (0 < i → 0 < Y)
  | [], x, i, X, N, _, _, h => by simp [dec] at h
  | d :: r, x, i, X, N, hi, hz, h => by
    have hd := hz d (by simp)
    unfold dec at h
    by_cases h9 : i = 9 ∧ d ≠ 1
    · rw [if_pos h9] at h; simp at h
    · rw [if_neg h9] at h
      by_cases h128 : 128 ≤ d
      · rw [if_pos h128] at h
        have hi9 : i < 9 := by
          rcases Nat.lt_or_ge i 9 with h' | h'
          · exact h'
          · exact absurd ⟨by omega, by omega⟩ h9
        obtain ⟨Y, m, h1, h2, h3, h4, h5, h6, h7⟩ := dec_enc r _ (i + 1) X N (by omega) (fun z hz' => hz z (by simp [hz'])) h
        have hY := h7 (by omega)
        refine ⟨d % 128 + 128 * Y, m + 1, ?_, by omega, by omega, by rw [List.length_cons]; omega, by omega, ?_, fun _ => by omega⟩
        · rw [h1, pow_split, Int.add_mul, Int.mul_comm 128 Y, Int.mul_assoc Y 128]
          omega
        · rw [show 9 - i = (9 - (i + 1)) + 1 by omega]
          show (if d % 128 + 128 * Y < 128 then [d % 128 + 128 * Y] else ((d % 128 + 128 * Y) % 128 + 128) :: encF (9 - (i + 1)) ((d % 128 + 128 * Y) / 128)) = _
          rw [if_neg (by omega), show (d % 128 + 128 * Y) / 128 = Y by omega, show (d % 128 + 128 * Y) % 128 + 128 = d by omega, h6]
          rfl
      · rw [if_neg h128] at h
        by_cases h0 : d = 0 ∧ 0 < i
        · rw [if_pos h0] at h; simp at h
        · rw [if_neg h0] at h
          simp only [Prod.mk.injEq] at h
          refine ⟨d, 1, ?_, by omega, by omega, by rw [List.length_cons]; omega, by omega, ?_, fun hi0 => by omega⟩
          · rw [← h.1, Int.emod_eq_of_lt hd.1 (by omega)]
          · cases hk : 9 - i with
            | zero => rfl
            | succ k => simp [encF, show d < 128 by omega]

theorem dec_enc0 {l : List Int} {X N : Int} (hz : Byt l) (h : dec 0 0 l = (X, N, 0)) : ∃ m : Nat, N = m ∧ 1 ≤ m ∧ m ≤ l.length ∧ enc X = l.take m := by
  obtain ⟨Y, m, h1, h2, h3, h4, _, h6, _⟩ := dec_enc l 0 0 X N (by omega) hz h
  refine ⟨m, by omega, h3, h4, ?_⟩
  have : X = Y := by rw [h1]; simp
  subst this
  exact h6

/-- digits that are read back, whatever stands behind them -/
theorem enc_dec : ∀ (k : Nat) (Y x : Int) (i : Nat) (more : List Int), i + k = 9 → 0 ≤ Y → Y < 2 ^ (64 - 7 * i) → (0 < i → 0 < Y) → dec x i (encF k Y ++ more) = (x + Y * 2 ^ (7 * i), (i : Int) + (encF k Y).length, 0)
  | 0, Y, x, i, more, hi, h0, h1, hp => by
    have h9 : i = 9 := by omega
    subst h9
    have hY : Y = 1 := by
      have : Y < 2 := by simpa using h1
      have := hp (by omega)
      omega
    subst hY
    simp [encF, dec]
  | k + 1, Y, x, i, more, hi, h0, h1, hp => by
    unfold encF
    by_cases hlt : Y < 128
    · rw [if_pos hlt]
      show dec x i (Y :: more) = _
      unfold dec
      rw [if_neg (by omega), if_neg (by omega), if_neg (by omega), Int.emod_eq_of_lt h0 hlt]
      simp
    · rw [if_neg hlt]
      show dec x i ((Y % 128 + 128) :: (encF k (Y / 128) ++ more)) = _
      unfold dec
      rw [if_neg (by omega), if_pos (by omega), enc_dec k (Y / 128) _ (i + 1) more (by omega) (by omega) ?_ (fun _ => by omega)]
      · have e : x + (Y % 128 + 128) % 128 * 2 ^ (7 * i) + Y / 128 * 2 ^ (7 * (i + 1)) = x + Y * 2 ^ (7 * i) := by
          rw [pow_split, show (Y % 128 + 128) % 128 = Y % 128 by omega, ← Int.mul_assoc, Int.add_assoc, ← Int.add_mul]
          congr 2
          omega
        rw [e, List.length_cons]
        simp only [Prod.mk.injEq, true_and, and_true]
        omega
      · have e : (2 : Int) ^ (64 - 7 * i) = 128 * 2 ^ (64 - 7 * (i + 1)) := by
          rw [show 64 - 7 * i = (64 - 7 * (i + 1)) + 7 by omega, Int.pow_add, Int.mul_comm]; rfl
        rw [e] at h1
        omega
theorem enc_dec0 {Y : Int} (h0 : 0 ≤ Y) (h1 : Y ≤ 18446744073709551615) (more : List Int) : dec 0 0 (enc Y ++ more) = (Y, ((enc Y).length : Int), 0) := by
  have := enc_dec 9 Y 0 0 more (by omega) h0 (by show Y < 2 ^ 64; omega) (by omega)
  rw [show encF 9 Y = enc Y from rfl] at this
  rw [this]
  simp

/-- a first part of a number's digits is too short -/
theorem enc_short : ∀ (k : Nat) (Y x : Int) (i j : Nat), i + k = 9 → 0 ≤ Y → j < (encF k Y).length → dec x i ((encF k Y).take j) = (0, 0, 4)
  | _, _, _, _, 0, _, _, _ => by simp [dec]
  | 0, Y, x, i, j + 1, _, _, hj => by simp [encF] at hj
  | k + 1, Y, x, i, j + 1, hi, h0, hj => by
    unfold encF at hj ⊢
    by_cases hlt : Y < 128
    · rw [if_pos hlt] at hj; simp at hj
    · rw [if_neg hlt] at hj ⊢
      show dec x i ((Y % 128 + 128) :: (encF k (Y / 128)).take j) = _
      unfold dec
      rw [if_neg (by omega), if_pos (by omega)]
      exact enc_short k (Y / 128) _ (i + 1) j (by omega) (by omega) (by simpa using hj)
theorem enc_short0 {Y : Int} (h0 : 0 ≤ Y) {j : Nat} (hj : j < (enc Y).length) : dec 0 0 ((enc Y).take j) = (0, 0, 4) := enc_short 9 Y 0 0 j (by omega) h0 hj

/-- the number that a signed number is written as -/
def zag (x : Int) : Int := if 0 ≤ x then 2 * x else -2 * x - 1
theorem zag_range {x : Int} (h : -9223372036854775808 ≤ x ∧ x ≤ 9223372036854775807) : 0 ≤ zag x ∧ zag x ≤ 18446744073709551615 := by unfold zag; split <;> omega
theorem zig_zag (x : Int) : zig (zag x) = x := by
  unfold zig zag
  by_cases h : 0 ≤ x
  · rw [if_pos h, if_pos (by omega)]; omega
  · rw [if_neg h, if_neg (by omega)]; omega

theorem xor_zero64 (a : Int) : Go.bits .xor .i64 a 0 = IntKind.i64.wrap a := by
  show IntKind.i64.wrap ((BitVec.ofInt 64 a ^^^ BitVec.ofInt 64 0).toNat : Int) = _
  rw [show BitVec.ofInt 64 0 = 0#64 by decide, BitVec.xor_zero, BitVec.toNat_ofInt, IntKind.wrap_i64, IntKind.wrap_i64]
  omega
theorem xor_ones64 (a : Int) : Go.bits .xor .i64 a (-1) = IntKind.i64.wrap (-a - 1) := by
  show IntKind.i64.wrap ((BitVec.ofInt 64 a ^^^ BitVec.ofInt 64 (-1)).toNat : Int) = _
  rw [show BitVec.ofInt 64 (-1) = BitVec.allOnes 64 by decide, BitVec.xor_allOnes, BitVec.toNat_not, BitVec.toNat_ofInt, IntKind.wrap_i64, IntKind.wrap_i64]
  omega
theorem zag_of {x : Int} (h : -9223372036854775808 ≤ x ∧ x ≤ 9223372036854775807) : IntKind.u64.wrap (Go.bits .xor .i64 (RowKit.wrap64 (x * 2)) (x / 9223372036854775808)) = zag x := by
  unfold zag
  by_cases h0 : 0 ≤ x
  · rw [if_pos h0, show x / 9223372036854775808 = 0 by omega, xor_zero64, IntKind.wrap_u64, IntKind.wrap_i64]
    unfold RowKit.wrap64
    omega
  · rw [if_neg h0, show x / 9223372036854775808 = -1 by omega, xor_ones64, IntKind.wrap_u64, IntKind.wrap_i64]
    unfold RowKit.wrap64
    omega

theorem num_enc {Y most : Int} (h0 : 0 ≤ Y) (h1 : Y ≤ most) (h2 : most ≤ 18446744073709551615) (more : List Int) : num most (enc Y ++ more) = (Y, ((enc Y).length : Int), 0) := by
  unfold num
  rw [enc_dec0 h0 (by omega)]
  simp only
  rw [if_pos trivial, if_neg (by omega)]
end Go.Proofs.YtbobakfcmkaijaaGreatDoor
end

section
/- What every seat's walks stand on: the imports, and the row of the type of bytes. -/
namespace Go.Proofs.YtbobakfcmkaijaaGreatDoor
open Go.RowKit
set_option linter.unusedVariables false

theorem info8 : (Tryz.prog.info? 5).map (fun i => (i.zero, i.size, i.bytes)) = some (some (.int .u8 0), 1, 1) := by kernel_rfl

end Go.Proofs.YtbobakfcmkaijaaGreatDoor
end
