/- Appends of bytes to a row of the call's own that may come some 2^22 bytes above 2^47. No program is named here. -/
import Derived.Test.YtbmllljieoeihaaWords
import Derived.Test.YtbmllljieoeihaaMath
import Derived.Lib.AppendStr
import Derived.Deep.DeepAppendRoom
namespace Go.Proofs.Ytbmllljieoeihaa
open Go.RowKit Go.Lib
set_option linter.unusedVariables false

theorem big_cap {need old : Nat} (h : old < need) (hb : need ≤ 140737492549632) : Builtin.nextslicecap need old ≤ 281474976710656 := by
  unfold Builtin.nextslicecap
  split
  · omega
  · split
    · omega
    · rw [growBy_four]
      repeat' split
      all_goals omega

theorem big_row (w : World) (e : TypeId) (B : Nat) (z : Value) (hz : z.cells.size = 1) (xs news : List Value) (n m old : Nat) (hx : xs.length = n) (hm : news.length = m) (hB : B ≤ w.heap.size) (h63 : n + m ≤ maxLen) :
    (w.drew.alloc (.cells (xs.toArray ++ news.toArray ++ Builtin.zeroCells z.cells (grownCap w (n + m) old e - (n + m))) e)).ownsRow B e 1 (.slice (some ⟨w.heap.size, 0, none⟩) (n + m) (grownCap w (n + m) old e)) (n + m) (xs ++ news) ∧
    Below B w (w.drew.alloc (.cells (xs.toArray ++ news.toArray ++ Builtin.zeroCells z.cells (grownCap w (n + m) old e - (n + m))) e)) := by
  have hge := grownCap_ge w (n + m) old e
  have hl : (xs ++ news).length = n + m := by rw [List.length_append, hx, hm]
  refine ⟨⟨by rw [hl, Nat.mul_one], .inr ⟨w.heap.size, _, _, rfl, hB, heap_alloc_new w.drew _, hge, grownCap_le_maxLen w (n + m) old e h63, ?_, ?_⟩⟩, ((Below.refl B w).drew).alloc hB _⟩
  · simp only [Array.size_append, List.size_toArray, size_zeroCells, hz, hx, hm]
    omega
  · simp only [Array.toList_append, Nat.mul_one]
    rw [← hl]
    exact List.take_left

section
variable {P : Program} (w : World) (t ty e : TypeId) (i : TypeInfo) (z : Value) (ht : P.underlying t = some (.slice e)) (hi : P.info? e = some i) (hz : i.zero = some z) (hsize : i.size = 1) (hby : i.bytes = 1) (hzs : z.cells.size = 1)
include ht hi hz hsize hby hzs

/-- a slice's bytes, appended -/
theorem run_app_big {B : Nat} {v : Value} {n : Nat} {xs : List Value} (hown : w.ownsRow B e 1 v n xs) {A : Option Addr} {c lim : Nat} {news : List Value} (hr : Rds w lim A news) (hA : A = none → c = 0) (h1 : ∀ u ∈ news, u.oneCell' = true)
    (hn : n + news.length ≤ 140737492549632) (hm : news.length ≤ 140737488355328) (hB : B ≤ w.heap.size) :
    ∃ v' w', (Builtin.append_ #[t, t] ty #[v, .slice A news.length c]).run P w = .ok v' w' ∧ w'.ownsRow B e 1 v' (n + news.length) (xs ++ news) ∧ Below B w w' := by
  have small : n + news.length ≤ 140737488355328 → ∃ v' w', (Builtin.append_ #[t, t] ty #[v, .slice A news.length c]).run P w = .ok v' w' ∧ w'.ownsRow B e 1 v' (n + news.length) (xs ++ news) ∧ Below B w w' := fun h =>
    run_app_many w t ty e i z 1 ht hi hz hsize hby hzs B v n xs hown A c lim news hr hA h1 (by unfold maxLen; omega) (by omega) hB
  by_cases hs : n + news.length ≤ 140737488355328
  · exact small hs
  · rcases hown.2 with ⟨_, h0⟩ | ⟨g, cap, cur, rfl, hb, hg, hnc, hcm, hcs, htake⟩
    · exact small (by omega)
    · cases A with
      | none =>
        have hnews : news = [] := by
          cases news with
          | nil => rfl
          | cons u us => obtain ⟨ad, e, _⟩ := hr (by simp); cases e
        subst hnews
        obtain rfl := hA rfl
        exact ⟨_, w, run_append_owned_none (P := P) w B t ty e i 1 ht hi _ n xs hown, by simpa using hown, Below.refl _ _⟩
      | some ad =>
      have hcells : ∀ j u, news[j]? = some u → w.cell? (ad.add j) = some u := fun j u hu => by
        obtain ⟨ad', e, _, hc⟩ := hr.at_ hu
        obtain rfl := Option.some.inj e
        exact hc
      have hxl : xs.length = n := by simpa using hown.1
      by_cases hroom : n + news.length ≤ cap
      · obtain ⟨w', hrun, h2, h3⟩ := run_append_own_spare (P := P) w B t ty e i 1 ht hi hsize g n cap xs hown ad news.length c news (by simp) hcells h1 hroom
        exact ⟨_, w', hrun, h2, (Below.refl B w).grown h3 hB (fun k hk => by cases hk; exact hb)⟩
      · have hrun := run_append_grow (P := P) w t ty e i z ht hi hz ⟨g, 0, none⟩ n cap xs (by rw [hsize]; simpa using hxl) (hown.cells (g := g) rfl) ad news.length c news (by rw [hsize]; simp) hcells (by omega) (by omega) (by rw [hby, Nat.mul_one]; exact big_cap (by omega) hn)
        obtain ⟨h2, h3⟩ := big_row w e B z hzs xs news n news.length cap hxl rfl hB (by unfold maxLen; omega)
        exact ⟨_, _, hrun, h2, h3⟩

/-- a slice's bytes, appended: only the row's own block, and what is new, has turned -/
theorem run_app_grow {B : Nat} {v : Value} {n : Nat} {xs : List Value} (hown : w.ownsRow B e 1 v n xs) {A : Option Addr} {c lim : Nat} {news : List Value} (hr : Rds w lim A news) (hA : A = none → c = 0) (h1 : ∀ u ∈ news, u.oneCell' = true)
    (hn : n + news.length ≤ 140737492549632) (hm : news.length ≤ 140737488355328) (hB : B ≤ w.heap.size) :
    ∃ v' w', (Builtin.append_ #[t, t] ty #[v, .slice A news.length c]).run P w = .ok v' w' ∧ w'.ownsRow B e 1 v' (n + news.length) (xs ++ news) ∧ w.grownBy w' v.ownBlock := by
  cases A with
  | none =>
    have hnews : news = [] := by
      cases news with
      | nil => rfl
      | cons u us => obtain ⟨ad, e, _⟩ := hr (by simp); cases e
    subst hnews
    obtain rfl := hA rfl
    exact ⟨v, w, run_append_owned_none (P := P) w B t ty e i 1 ht hi v n xs hown, by simpa using hown, World.grownBy.refl w _⟩
  | some ad =>
    have hcells : ∀ j u, news[j]? = some u → w.cell? (ad.add j) = some u := fun j u hu => by
      obtain ⟨ad', e, _, hc⟩ := hr.at_ hu
      obtain rfl := Option.some.inj e
      exact hc
    have small : n + news.length ≤ 140737488355328 → ∃ v' w', (Builtin.append_ #[t, t] ty #[v, .slice (some ad) news.length c]).run P w = .ok v' w' ∧ w'.ownsRow B e 1 v' (n + news.length) (xs ++ news) ∧ w.grownBy w' v.ownBlock := fun h => by
      obtain ⟨v', w', hrun, h2, h3, _⟩ := run_append_own (P := P) w B t ty e i z 1 1 ht hi hz hsize hby hzs (by decide) v n xs hown ad news.length c news (by simp) hcells h1 (by unfold maxLen; omega) (by omega) hB
      exact ⟨v', w', hrun, h2, h3⟩
    by_cases hs : n + news.length ≤ 140737488355328
    · exact small hs
    · rcases hown.2 with ⟨_, h0⟩ | ⟨g, cap, cur, rfl, hb, hg, hnc, hcm, hcs, htake⟩
      · exact small (by omega)
      · have hxl : xs.length = n := by simpa using hown.1
        by_cases hroom : n + news.length ≤ cap
        · obtain ⟨w', hrun, h2, h3⟩ := run_append_own_spare (P := P) w B t ty e i 1 ht hi hsize g n cap xs hown ad news.length c news (by simp) hcells h1 hroom
          exact ⟨_, w', hrun, h2, h3⟩
        · have hrun := run_append_grow (P := P) w t ty e i z ht hi hz ⟨g, 0, none⟩ n cap xs (by rw [hsize]; simpa using hxl) (hown.cells (g := g) rfl) ad news.length c news (by rw [hsize]; simp) hcells (by omega) (by omega) (by rw [hby, Nat.mul_one]; exact big_cap (by omega) hn)
          obtain ⟨h2, h3⟩ := big_row w e B z hzs xs news n news.length cap hxl rfl hB (by unfold maxLen; omega)
          refine ⟨_, _, hrun, h2, ⟨rfl, rfl, rfl, h3.size, fun k hk _ => ?_⟩⟩
          exact Below.heap_alloc w.drew _ k hk

/-- a text's bytes, appended to a row that is not nil -/
theorem run_app_text {B u : Nat} (hu : P.underlying u = some .string) {v : Value} {n : Nat} {xs : List Value} (hown : w.ownsRow B e 1 v n xs) (hz0 : z = .int .u8 0) (s : ByteArray)
    (hn : n + s.size ≤ 140737492549632) (hm : s.size ≤ 140737488355328) (hB : B ≤ w.heap.size) :
    ∃ v' w', (Builtin.append_ #[t, u] ty #[v, .string s]).run P w = .ok v' w' ∧ w'.ownsRow B e 1 v' (n + s.size) (xs ++ strCells s) ∧ Below B w w' := by
  subst hz0
  have small : n + s.size ≤ 140737488355328 → ∃ v' w', (Builtin.append_ #[t, u] ty #[v, .string s]).run P w = .ok v' w' ∧ w'.ownsRow B e 1 v' (n + s.size) (xs ++ strCells s) ∧ Below B w w' := fun h => by
    obtain ⟨v', w', h1, h2, h3, _⟩ := run_append_own_string (P := P) w B t u ty e i ht hu hi hz hsize hby v n xs hown s (by unfold maxLen; omega) h hB
    exact ⟨v', w', h1, h2, (Below.refl B w).grown h3 hB (fun k hk => (hown.lt k hk).1)⟩
  by_cases hs : n + s.size ≤ 140737488355328
  · exact small hs
  · rcases hown.2 with ⟨_, h0⟩ | ⟨g, cap, cur, rfl, hb, hg, hnc, hcm, hcs, htake⟩
    · exact small (by omega)
    · have hxl : xs.length = n := by simpa using hown.1
      have hcs' : cur.size = cap := by simpa using hcs
      by_cases hroom : n + s.size ≤ cap
      · have hrun := run_append_room_string (P := P) w t u ty e i ht hu hi hsize g n cap cur hg s hroom (by omega)
        refine ⟨_, _, hrun, ⟨by simp [hxl, strCells_length], .inr ⟨g, cap, _, rfl, hb, setRow_heap w g cur _ e _ hg, hroom, hcm, ?_, ?_⟩⟩, (Below.refl B w).trans ⟨rfl, rfl, rfl, by simp [World.setRow], fun k hk => setRow_other w g k _ (by omega)⟩⟩
        · simp only [List.size_toArray, List.length_append, List.length_take, List.length_drop, Array.length_toList, strCells_length]
          omega
        · have ht' : cur.toList.take n = xs := by simpa using htake
          have hl : (xs ++ strCells s).length = (n + s.size) * 1 := by rw [List.length_append, hxl, strCells_length, Nat.mul_one]
          rw [ht', ← hl]
          exact List.take_left
      · have hrun := run_append_grow_string (P := P) w t u ty e i (.int .u8 0) ht hu hi hz ⟨g, 0, none⟩ n cap xs (by rw [hsize]; simpa using hxl) (hown.cells (g := g) rfl) s (by omega) (by omega) (by rw [hby, Nat.mul_one]; exact big_cap (by omega) hn)
        obtain ⟨h2, h3⟩ := big_row w e B (.int .u8 0) hzs xs (strCells s) n s.size cap hxl (strCells_length s) hB (by unfold maxLen; omega)
        exact ⟨_, _, hrun, h2, h3⟩
end

theorem app_text {P : Program} (w : World) {ops : Array Oper} {rest : List Oper} {o : Oper} {a : Act} {Q : Exit → Act → World → Prop} (hgd : o.guard = none) (sl x : Operand) (t u : TypeId)
    (ho : o.op = .call { callee := .builtin .append, args := #[sl, x], argTypes := #[t, u] })
    (B : Nat) (e : TypeId) (i : TypeInfo) (ht : P.underlying t = some (.slice e)) (hi : P.info? e = some i) (hz : i.zero = some (.int .u8 0))
    (hsize : i.size = 1) (hby : i.bytes = 1) (hu : P.underlying u = some .string) (v : Value) (n : Nat) (xs : List Value) (hs : a.eval sl = v) (hown : w.ownsRow B e 1 v n xs)
    (s : ByteArray) (hx : a.eval x = .string s) (hn : n + s.size ≤ 140737492549632) (hm : s.size ≤ 140737488355328) (hB : B ≤ w.heap.size)
    (h : ∀ v' w', w'.ownsRow B e 1 v' (n + s.size) (xs ++ strCells s) → Below B w w' → wpList P ops Q rest (a.put o.dst v') w') : wpList P ops Q (o :: rest) a w := by
  refine wpList_plain hgd fun K hK => ?_
  obtain ⟨v', w', hrun, h2, h3⟩ := run_app_text (P := P) w t o.type e i (.int .u8 0) ht hi hz hsize hby rfl hu hown rfl s hn hm hB
  unfold Oper.wp
  simp [execOp, ho, resolve, invoke, builtin, hs, hx, hrun, Result.andThen]
  exact hK _ _ (h v' w' h2 h3)

/-- the same at a step of a region that draws its order -/
theorem step_app_big {P : Program} {w : World} {ops : Array Oper} {o : Oper} {a : Act} {K : Act → World → Prop} {Q : Exit → Act → World → Prop} {E : Prop} (hgd : o.guard = none) (s x : Operand) (t : TypeId)
    (ho : o.op = .call { callee := .builtin .append, args := #[s, x], argTypes := #[t, t] })
    (B : Nat) (e : TypeId) (i : TypeInfo) (z : Value) (ht : P.underlying t = some (.slice e)) (hi : P.info? e = some i) (hz : i.zero = some z)
    (hsize : i.size = 1) (hby : i.bytes = 1) (hzs : z.cells.size = 1) (v : Value) (n : Nat) (xs : List Value) (hs : a.eval s = v) (hown : w.ownsRow B e 1 v n xs)
    (A : Option Addr) (m c lim : Nat) (news : List Value) (hx : a.eval x = .slice A m c) (hm : m = news.length) (hr : Rds w lim A news) (hA : A = none → c = 0) (h1 : ∀ u ∈ news, u.oneCell' = true) (hn : n + m ≤ 140737492549632) (hm1 : m ≤ 140737488355328) (hB : B ≤ w.heap.size)
    (h : ∀ v' w', w'.ownsRow B e 1 v' (n + m) (xs ++ news) → w.grownBy w' v.ownBlock → Below B w w' → K (a.put o.dst v') w') : if Region.wanted o (yielded ops a.tmps) = true then Oper.wp P o a w K Q else E := by
  have hw : Region.wanted o (yielded ops a.tmps) = true := by simp [Region.wanted, hgd]
  rw [if_pos hw]
  subst hm
  obtain ⟨v', w', hrun, h2, h3⟩ := run_app_grow (P := P) w t o.type e i z ht hi hz hsize hby hzs hown hr hA h1 hn hm1 hB
  unfold Oper.wp
  simp [execOp, ho, resolve, invoke, builtin, hs, hx, hrun, Result.andThen]
  exact h v' w' h2 h3 ((Below.refl B w).grown h3 hB (fun k hk => (hown.lt k hk).1))

/-- a text's bytes as numbers -/
def nums (s : ByteArray) : List Int := s.data.toList.map fun b => (b.toNat : Int)
theorem nums_length (s : ByteArray) : (nums s).length = s.size := by simp [nums]
theorem strCells_c8 (s : ByteArray) : strCells s = c8 (nums s) := by simp [strCells, c8, nums]
theorem nums_byt (s : ByteArray) : Byt (nums s) := by
  intro z hz
  obtain ⟨b, _, rfl⟩ := List.mem_map.1 hz
  have := b.toNat_lt
  omega
theorem nums_back (s : ByteArray) : strOfNums (nums s) = s := by
  apply ByteArray.ext
  apply Array.toList_inj.1
  rw [strOfNums_data, nums, List.map_map]
  conv => rhs; rw [← List.map_id s.data.toList]
  apply List.map_congr_left
  intro x _
  simp

theorem app_big {P : Program} (w : World) {ops : Array Oper} {rest : List Oper} {o : Oper} {a : Act} {Q : Exit → Act → World → Prop} (hgd : o.guard = none) (s x : Operand) (t : TypeId)
    (ho : o.op = .call { callee := .builtin .append, args := #[s, x], argTypes := #[t, t] })
    (B : Nat) (e : TypeId) (i : TypeInfo) (z : Value) (ht : P.underlying t = some (.slice e)) (hi : P.info? e = some i) (hz : i.zero = some z)
    (hsize : i.size = 1) (hby : i.bytes = 1) (hzs : z.cells.size = 1) (v : Value) (n : Nat) (xs : List Value) (hs : a.eval s = v) (hown : w.ownsRow B e 1 v n xs)
    (A : Option Addr) (m c lim : Nat) (news : List Value) (hx : a.eval x = .slice A m c) (hm : m = news.length) (hr : Rds w lim A news) (hA : A = none → c = 0) (h1 : ∀ u ∈ news, u.oneCell' = true) (hn : n + m ≤ 140737492549632) (hm1 : m ≤ 140737488355328) (hB : B ≤ w.heap.size)
    (h : ∀ v' w', w'.ownsRow B e 1 v' (n + m) (xs ++ news) → Below B w w' → wpList P ops Q rest (a.put o.dst v') w') : wpList P ops Q (o :: rest) a w := by
  subst hm
  refine wpList_plain hgd fun K hK => ?_
  obtain ⟨v', w', hrun, h2, h3⟩ := run_app_big (P := P) w t o.type e i z ht hi hz hsize hby hzs hown hr hA h1 hn hm1 hB
  unfold Oper.wp
  simp [execOp, ho, resolve, invoke, builtin, hs, hx, hrun, Result.andThen]
  exact hK _ _ (h v' w' h2 h3)
end Go.Proofs.Ytbmllljieoeihaa
