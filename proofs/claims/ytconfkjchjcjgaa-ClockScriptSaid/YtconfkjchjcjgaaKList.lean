/- A watch as plain mathematics: its names and ends in the order in which they are told. -/
import Derived.Test.YtconfkjchjcjgaaKRem
namespace Go.Proofs.Ytconfkjchjcjgaa
set_option linter.unusedVariables false

structure It where
  nm : ByteArray
  at_ : Int
deriving DecidableEq
def En.it (e : En) : It := ⟨e.nm, e.at_⟩
def ltI (a b : It) : Bool := decide (a.at_ < b.at_ ∨ (a.at_ = b.at_ ∧ lst a.nm < lst b.nm))
theorem ltE_it (a b : En) : ltE a b = ltI a.it b.it := rfl
theorem ltI_tot {a b : It} (h1 : ltI a b = false) (h2 : ltI b a = false) : a.nm = b.nm := by
  simp only [ltI, decide_eq_false_iff_not] at h1 h2
  have e : a.at_ = b.at_ := by
    rcases Int.lt_trichotomy a.at_ b.at_ with q | q | q
    · exact absurd (.inl q) h1
    · exact q
    · exact absurd (.inl q) h2
  have e1 : ¬ lst a.nm < lst b.nm := fun q => h1 (.inr ⟨e, q⟩)
  have e2 : ¬ lst b.nm < lst a.nm := fun q => h2 (.inr ⟨e.symm, q⟩)
  exact lst_inj (List.le_antisymm (List.not_lt.1 e2) (List.not_lt.1 e1))
theorem ltI_trans {a b c : It} (h1 : ltI a b = true) (h2 : ltI b c = true) : ltI a c = true := by
  simp only [ltI, decide_eq_true_eq] at h1 h2 ⊢
  rcases h1 with h1 | ⟨h1, g1⟩
  · rcases h2 with h2 | ⟨h2, g2⟩ <;> left <;> omega
  · rcases h2 with h2 | ⟨h2, g2⟩
    · left; omega
    · right; exact ⟨by omega, List.lt_trans g1 g2⟩
theorem ltI_at {a b : It} (h : ltI a b = true) : a.at_ ≤ b.at_ := by
  simp only [ltI, decide_eq_true_eq] at h
  rcases h with h | ⟨h, _⟩ <;> omega
def Srt (L : List It) : Prop := L.Pairwise (fun a b => ltI a b = true)
def Nod (L : List It) : Prop := L.Pairwise (fun a b => a.nm ≠ b.nm)
def rmv (nm : ByteArray) (L : List It) : List It := L.filter fun x => !decide (x.nm = nm)
theorem mem_rmv {nm : ByteArray} {L : List It} {x : It} : x ∈ rmv nm L ↔ x ∈ L ∧ x.nm ≠ nm := by simp [rmv]
theorem srt_rmv {L : List It} (h : Srt L) (nm : ByteArray) : Srt (rmv nm L) := List.Pairwise.filter _ h
theorem nod_rmv {L : List It} (h : Nod L) (nm : ByteArray) : Nod (rmv nm L) := List.Pairwise.filter _ h
theorem rmv_none {nm : ByteArray} {L : List It} (h : ∀ x ∈ L, x.nm ≠ nm) : rmv nm L = L := List.filter_eq_self.2 fun x hx => by simp [h x hx]
def ins (x : It) : List It → List It
  | [] => [x]
  | y :: L => if ltI y x = true then y :: ins x L else x :: y :: L
theorem mem_ins {x y : It} : ∀ {L : List It}, y ∈ ins x L ↔ y = x ∨ y ∈ L
  | [] => by simp [ins]
  | z :: L => by
    unfold ins
    split
    · simp [mem_ins (L := L)]; grind
    · simp
theorem srt_ins {x : It} : ∀ {L : List It}, Srt L → (∀ y ∈ L, y.nm ≠ x.nm) → Srt (ins x L)
  | [], _, _ => by simp [ins, Srt]
  | z :: L, h, hn => by
    unfold Srt at h
    rw [List.pairwise_cons] at h
    unfold ins
    split
    · rename_i hz
      unfold Srt
      rw [List.pairwise_cons]
      refine ⟨fun y hy => ?_, srt_ins h.2 fun y hy => hn y (List.mem_cons_of_mem _ hy)⟩
      rcases mem_ins.1 hy with rfl | hy
      · exact hz
      · exact h.1 y hy
    · rename_i hz
      have hxz : ltI x z = true := by
        cases e : ltI x z
        · exact absurd (ltI_tot e (by simpa using hz)).symm (hn z List.mem_cons_self)
        · rfl
      unfold Srt
      rw [List.pairwise_cons, List.pairwise_cons]
      refine ⟨fun y hy => ?_, h⟩
      rcases List.mem_cons.1 hy with rfl | hy
      · exact hxz
      · exact ltI_trans hxz (h.1 y hy)
theorem nod_ins {x : It} : ∀ {L : List It}, Nod L → (∀ y ∈ L, y.nm ≠ x.nm) → Nod (ins x L)
  | [], _, _ => by simp [ins, Nod]
  | z :: L, h, hn => by
    unfold Nod at h
    rw [List.pairwise_cons] at h
    unfold ins
    split
    · unfold Nod
      rw [List.pairwise_cons]
      refine ⟨fun y hy => ?_, nod_ins h.2 fun y hy => hn y (List.mem_cons_of_mem _ hy)⟩
      rcases mem_ins.1 hy with rfl | hy
      · exact hn z List.mem_cons_self
      · exact h.1 y hy
    · unfold Nod
      rw [List.pairwise_cons, List.pairwise_cons]
      exact ⟨fun y hy => (hn y hy).symm, h⟩
theorem ins_length (x : It) : ∀ L : List It, (ins x L).length = L.length + 1
  | [] => rfl
  | z :: L => by unfold ins; split <;> simp [ins_length]
theorem rmv_length (nm : ByteArray) (L : List It) : (rmv nm L).length ≤ L.length := List.length_filter_le _ _
/-- a name's end, set anew -/
def setL (L : List It) (x : It) : List It := ins x (rmv x.nm L)
theorem rmv_other {nm : ByteArray} {L : List It} : ∀ y ∈ rmv nm L, y.nm ≠ nm := fun y hy => (mem_rmv.1 hy).2
theorem srt_set {L : List It} (h : Srt L) (x : It) : Srt (setL L x) := srt_ins (srt_rmv h _) rmv_other
theorem nod_set {L : List It} (h : Nod L) (x : It) : Nod (setL L x) := nod_ins (nod_rmv h _) rmv_other
theorem mem_set {L : List It} {x y : It} : y ∈ setL L x ↔ y = x ∨ (y ∈ L ∧ y.nm ≠ x.nm) := by unfold setL; rw [mem_ins, mem_rmv]
/-- the one of a name -/
def getL (L : List It) (nm : ByteArray) : Option It := L.find? fun x => decide (x.nm = nm)
theorem getL_some {L : List It} {nm : ByteArray} {x : It} (h : getL L nm = some x) : x ∈ L ∧ x.nm = nm := ⟨List.mem_of_find?_eq_some h, by have := List.find?_some h; simpa using this⟩
theorem getL_none {L : List It} {nm : ByteArray} (h : getL L nm = none) : ∀ x ∈ L, x.nm ≠ nm := by
  intro x hx
  have := List.find?_eq_none.1 h x hx
  simpa using this
theorem nod_eq {L : List It} (h : Nod L) {x y : It} (hx : x ∈ L) (hy : y ∈ L) (e : x.nm = y.nm) : x = y := by
  induction L with
  | nil => cases hx
  | cons z L ih =>
    unfold Nod at h
    rw [List.pairwise_cons] at h
    rcases List.mem_cons.1 hx with rfl | hx' <;> rcases List.mem_cons.1 hy with rfl | hy'
    · rfl
    · exact absurd e (h.1 _ hy')
    · exact absurd e.symm (h.1 _ hx')
    · exact ih h.2 hx' hy'
theorem getL_mem {L : List It} (h : Nod L) {x : It} (hx : x ∈ L) : getL L x.nm = some x := by
  cases e : getL L x.nm with
  | none => exact absurd rfl (getL_none e x hx)
  | some y =>
    obtain ⟨hy, hn⟩ := getL_some e
    rw [nod_eq h hy hx hn]

/-- the heap's ends are those of the list -/
structure Like (f : Nat → En) (n : Nat) (L : List It) : Prop where
  to : ∀ k, k < n → (f k).it ∈ L
  of : ∀ x ∈ L, ∃ k, k < n ∧ (f k).it = x
section
variable {f f' : Nat → En} {n : Nat} {L : List It}
theorem Like.nil (f : Nat → En) : Like f 0 [] := ⟨fun k hk => by omega, fun x hx => by cases hx⟩
theorem Like.rea (h : Like f n L) (hr : Rea f f' n) : Like f' n L :=
  ⟨fun k hk => by
    obtain ⟨j, hj, e⟩ := hr.to k hk
    rw [e]; exact h.to j hj,
   fun x hx => by
    obtain ⟨k, hk, e⟩ := h.of x hx
    obtain ⟨j, hj, e'⟩ := hr.of k hk
    exact ⟨j, hj, by rw [← e', e]⟩⟩
theorem Like.zero (h : Like f n L) : n = 0 ↔ L = [] := by
  constructor
  · intro e
    cases L with
    | nil => rfl
    | cons x L =>
      obtain ⟨k, hk, _⟩ := h.of x List.mem_cons_self
      omega
  · intro e
    subst e
    rcases Nat.eq_zero_or_pos n with q | q
    · exact q
    · have := h.to 0 q; cases this
/-- the first one stands first -/
theorem Like.first (h : Like f n L) (hp : Hp ltE f n) (hs : Srt L) {x : It} {L' : List It} (hL : L = x :: L') : 0 < n ∧ (f 0).it = x := by
  subst hL
  obtain ⟨k, hk, e⟩ := h.of x List.mem_cons_self
  have hn : 0 < n := by omega
  refine ⟨hn, ?_⟩
  rcases List.mem_cons.1 (h.to 0 hn) with q | q
  · exact q
  · exfalso
    unfold Srt at hs
    rw [List.pairwise_cons] at hs
    have h1 := hs.1 _ q
    have h2 := hp.top ltE_ord k hk
    rw [ltE_it, e, h1] at h2
    cases h2
theorem Like.less (h : Like f (n + 1) L) (hn : Nod L) {i : Nat} (hi : i < n + 1) (hinj : ∀ j k, j < n + 1 → k < n + 1 → (f j).nm = (f k).nm → j = k) (hl : Less1 f f' n i) : Like f' n (rmv (f i).nm L) :=
  ⟨fun k hk => by
    obtain ⟨j, hj, hne, e⟩ := hl.to k hk
    rw [e]
    exact mem_rmv.2 ⟨h.to j hj, fun q => hne (hinj j i hj hi q)⟩,
   fun x hx => by
    obtain ⟨h1, h2⟩ := mem_rmv.1 hx
    obtain ⟨j, hj, e⟩ := h.of x h1
    obtain ⟨k, hk, e'⟩ := hl.of j hj (fun q => by subst q; exact h2 (by rw [← e]; rfl))
    exact ⟨k, hk, by rw [e', e]⟩⟩
theorem Like.add (h : Like f n L) (e : En) : Like (fun k => if k = n then e else f k) (n + 1) (ins e.it L) :=
  ⟨fun k hk => by
    by_cases q : k = n
    · simp only [q, if_true]; exact mem_ins.2 (.inl rfl)
    · simp only [q, if_false]; exact mem_ins.2 (.inr (h.to k (by omega))),
   fun x hx => by
    rcases mem_ins.1 hx with rfl | hx
    · exact ⟨n, by omega, by simp⟩
    · obtain ⟨k, hk, q⟩ := h.of x hx
      exact ⟨k, by omega, by simp [show k ≠ n by omega, q]⟩⟩
theorem Like.anew (h : Like f n L) {i : Nat} (hi : i < n) (hinj : ∀ j k, j < n → k < n → (f j).nm = (f k).nm → j = k) (t : Int) :
    Like (fun k => if k = i then { f i with at_ := t } else f k) n (setL L ⟨(f i).nm, t⟩) :=
  ⟨fun k hk => by
    by_cases q : k = i
    · simp only [q, if_true]; exact mem_set.2 (.inl rfl)
    · simp only [q, if_false]; exact mem_set.2 (.inr ⟨h.to k hk, fun e => q (hinj k i hk hi e)⟩),
   fun x hx => by
    rcases mem_set.1 hx with rfl | ⟨h1, h2⟩
    · exact ⟨i, hi, by simp [En.it]⟩
    · obtain ⟨k, hk, q⟩ := h.of x h1
      have hki : k ≠ i := fun e => by subst e; exact h2 (by rw [← q]; rfl)
      exact ⟨k, hk, by simp [hki, q]⟩⟩
end

/-- who is told at a reading -/
def due (t : Int) (L : List It) : List It := L.takeWhile fun x => decide (x.at_ ≤ t)
def rest (t : Int) (L : List It) : List It := L.dropWhile fun x => decide (x.at_ ≤ t)
theorem due_rest {t : Int} : ∀ {T L1 : List It}, (∀ x ∈ T, x.at_ ≤ t) → (L1 = [] ∨ ∃ x L', L1 = x :: L' ∧ t < x.at_) → due t (T ++ L1) = T ∧ rest t (T ++ L1) = L1
  | [], L1, _, h => by
    rcases h with rfl | ⟨x, L', rfl, h⟩
    · exact ⟨rfl, rfl⟩
    · have : decide (x.at_ ≤ t) = false := decide_eq_false (by omega)
      simp [due, rest, this]
  | y :: T, L1, hT, h => by
    have ih := due_rest (T := T) (L1 := L1) (fun x hx => hT x (List.mem_cons_of_mem _ hx)) h
    have : decide (y.at_ ≤ t) = true := decide_eq_true (hT y List.mem_cons_self)
    simp only [due, rest] at ih ⊢
    simp only [List.cons_append, List.takeWhile_cons, List.dropWhile_cons, this, if_true]
    exact ⟨by rw [ih.1], ih.2⟩
end Go.Proofs.Ytconfkjchjcjgaa
