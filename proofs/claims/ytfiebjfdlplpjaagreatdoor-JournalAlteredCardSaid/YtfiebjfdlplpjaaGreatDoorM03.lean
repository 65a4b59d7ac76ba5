/- Several texts, each a section: JMath, JScan, JTest. -/
import Derived.Test.YtfiebjfdlplpjaaGreatDoorM01
import Derived.Test.YtfiebjfdlplpjaaGreatDoorM02
import Derived.Lib.Strings
section
/- A journal as plain mathematics: its segments, what each call answers and makes of it and of its disk; what Open finds. No program is named here. -/
namespace Go.Proofs.YtfiebjfdlplpjaaGreatDoor
set_option linter.unusedVariables false

/-- a segment: the number of its first record, its records -/
structure Sg where
  num : Nat
  recs : List (List Int)
/-- a journal in memory -/
structure Jn where
  off : Bool
  next : Nat
  segs : List Sg

def rcF (r : List Int) : Fr := ⟨1, r⟩
def rsz (rs : List (List Int)) : Nat := (rs.map (fun r => r.length + 12)).sum
def Sg.size (s : Sg) : Nat := rsz s.recs
/-- the bytes that records take -/
def sby (rs : List (List Int)) : List Int := fbs (rs.map rcF)
theorem sby_length : ∀ rs : List (List Int), (sby rs).length = rsz rs
  | [] => rfl
  | r :: rs => by
    have ih := sby_length rs
    unfold sby fbs rsz at ih ⊢
    simp only [List.map_cons, List.flatten_cons, List.length_append, List.sum_cons, fby_length] at ih ⊢
    rw [ih]
    rfl
theorem sby_append (a b : List (List Int)) : sby (a ++ b) = sby a ++ sby b := by simp [sby, fbs]
theorem sby_one (b : List Int) : sby [b] = fby (rcF b) := by simp [sby, fbs]
theorem rsz_append (a b : List (List Int)) : rsz (a ++ b) = rsz a + rsz b := by simp [rsz]
theorem rsz_one (b : List Int) : rsz [b] = b.length + 12 := by simp [rsz]

/-! ## the calls -/
def Jn.last (J : Jn) : Sg := J.segs.getLastD ⟨0, []⟩
def jEnd (J : Jn) (e : Int) : Jn := if e = 10 then { J with off := true } else J
/-- a step of the disk's, and what it makes of the journal -/
def jStep (J : Jn) (r : Int × Dsk) : Int × Dsk × Jn := (r.1, r.2, jEnd J r.1)
def jBegin (J : Jn) (n : Nat) : Jn := { J with segs := J.segs ++ [⟨n, []⟩], next := n }
def addRec (l : List Sg) (r : List Int) : List Sg := l.dropLast ++ [⟨(l.getLastD ⟨0, []⟩).num, (l.getLastD ⟨0, []⟩).recs ++ [r]⟩]
def jNote (J : Jn) (r : List Int) : Jn := { J with segs := addRec J.segs r, next := J.next + 1 }
def jSyncLast (l : Nm) (D : Dsk) (J : Jn) : Int × Dsk × Jn := if J.segs = [] then (0, D, J) else jStep J (dSync D (segN l J.last.num))
def jNew (l : Nm) (D : Dsk) (J : Jn) : Int × Dsk × Jn :=
  if (dMake D (segN l J.next)).1 = 0 then (0, (dMake D (segN l J.next)).2, jBegin J J.next) else jStep J (dMake D (segN l J.next))
def jExtend (l : Nm) (D : Dsk) (J : Jn) : Int × Dsk × Jn :=
  if J.segs ≠ [] ∧ J.last.size < 4096 then (0, D, J)
  else if maxNo < J.next then (2, D, J)
  else if (jSyncLast l D J).1 = 0 then jNew l (jSyncLast l D J).2.1 (jSyncLast l D J).2.2 else jSyncLast l D J
def jPut (l : Nm) (D : Dsk) (J : Jn) (b : List Int) : Nat × Int × Dsk × Jn :=
  if (dAppend D (segN l J.last.num) (fby (rcF b))).1 = 0 then (J.next, 0, (dAppend D (segN l J.last.num) (fby (rcF b))).2, jNote J b)
  else (0, jStep J (dAppend D (segN l J.last.num) (fby (rcF b))))
def jAppend (l : Nm) (D : Dsk) (J : Jn) (b : List Int) : Nat × Int × Dsk × Jn :=
  if J.off then (0, 10, D, J) else if 65536 < b.length then (0, 3, D, J)
  else if (jExtend l D J).1 = 0 then jPut l (jExtend l D J).2.1 (jExtend l D J).2.2 b else (0, jExtend l D J)
def jRefused (D : Dsk) (J : Jn) : Bool := J.off || D.off
def jSync (l : Nm) (D : Dsk) (J : Jn) : Int × Dsk × Jn := if jRefused D J then (10, D, { J with off := true }) else jSyncLast l D J
def jAll (J : Jn) : List (List Int) := J.segs.flatMap (·.recs)
def jFirst (J : Jn) : Nat := match J.segs with | [] => J.next | s :: _ => s.num

/-! ## what Open finds -/
def recsOf (b : List Int) : List (List Int) := ((scn b).1.takeWhile (fun f => decide (f.k = 1))).map (·.body)
/-- a file's bytes; nothing where it is not there -/
def byts (D : Dsk) (l : Nm) : List Int := match find D.files l with | some f => f.bs | none => []
/-- the segments that are gone into, of those numbers, where the next one's is asked -/
def goOver (look : Nat → List Int) : Option Nat → List Nat → List Sg
  | _, [] => []
  | nx, n :: r =>
    if nx.isSome && nx != some n then []
    else if rsz (recsOf (look n)) = (look n).length then ⟨n, recsOf (look n)⟩ :: goOver look (some (n + (recsOf (look n)).length)) r
    else [⟨n, recsOf (look n)⟩]
/-- steps of a disk, one after another, until one has an error -/
def seqD : Dsk → List (Dsk → Int × Dsk) → Int × Dsk
  | D, [] => (0, D)
  | D, f :: r => if (f D).1 = 0 then seqD (f D).2 r else f D
def cutSteps (l : Nm) (b : List Int) (n : Nat) : List (Dsk → Int × Dsk) :=
  [fun D => dMake D (cutN l), fun D => dAppend D (cutN l) b, fun D => dSync D (cutN l), fun D => dRename D (cutN l) (segN l n)]
def remSteps (l : Nm) (ns : List Nat) : List (Dsk → Int × Dsk) := ns.map fun n D => dRemove D (segN l n)
def half (l : Nm) (D : Dsk) : Bool := (names D).contains (cutN l)
def rid (l : Nm) (D : Dsk) : Int × Dsk := if half l D then dRemove D (cutN l) else (0, D)
def found (l : Nm) (D : Dsk) (ns : List Nat) : List Sg := goOver (fun n => byts D (segN l n)) none ns
def lastOf (ss : List Sg) : Sg := ss.getLastD ⟨0, []⟩
def nextOf (ss : List Sg) : Nat := if ss = [] then 1 else (lastOf ss).num + (lastOf ss).recs.length
/-- is the last segment cut? -/
def isCut (l : Nm) (D : Dsk) (ss : List Sg) : Bool := decide (ss ≠ [] ∧ (lastOf ss).size ≠ (byts D (segN l (lastOf ss).num)).length)
def cutD (l : Nm) (D : Dsk) (ss : List Sg) : Int × Dsk :=
  if isCut l D ss then seqD D (cutSteps l ((byts D (segN l (lastOf ss).num)).take (lastOf ss).size) (lastOf ss).num) else (0, D)
def jnOf (ss : List Sg) : Jn := ⟨false, nextOf ss, ss⟩
/-- the numbers of a journal's segments on a disk -/
def jnums (l : Nm) (D : Dsk) : List Nat := nos l (names D)
def restD (l : Nm) (D : Dsk) (ns : List Nat) (ss : List Sg) : Int × Dsk :=
  if (cutD l D ss).1 = 0 then seqD (cutD l D ss).2 (remSteps l (ns.drop ss.length)) else cutD l D ss
def jOpen (l : Nm) (D : Dsk) : Int × Dsk :=
  if (rid l D).1 = 0 then restD l (rid l D).2 (jnums l D) (found l (rid l D).2 (jnums l D)) else rid l D
def opened (l : Nm) (D : Dsk) : Jn := jnOf (found l (rid l D).2 (jnums l D))

/-! ## what whole bytes say -/
def Goodr (r : List Int) : Prop := Byt r ∧ r.length ≤ 65536
theorem fok_rc {r : List Int} (h : Goodr r) : Fok (rcF r) := ⟨by simp [rcF], h.1, by have := h.2; show r.length ≤ _; omega⟩
theorem fok_all {rs : List (List Int)} (h : ∀ r ∈ rs, Goodr r) : ∀ f ∈ rs.map rcF, Fok f := by
  intro f hf
  obtain ⟨r, hr, rfl⟩ := List.mem_map.1 hf
  exact fok_rc (h r hr)
theorem takeW_rc : ∀ rs : List (List Int), ((rs.map rcF).takeWhile (fun f => decide (f.k = 1))).map (·.body) = rs
  | [] => rfl
  | r :: rs => by
    have ih := takeW_rc rs
    rw [List.map_cons, List.takeWhile_cons]
    simp only [show (rcF r).k = 1 from rfl, decide_true, if_true, List.map_cons, ih]
    rfl
/-- how many records lie whole in the first n bytes -/
def whr (rs : List (List Int)) (n : Nat) : Nat := (whl (rs.map rcF) n).1
theorem whl_size : ∀ (rs : List (List Int)) (n : Nat), (whl (rs.map rcF) n).2 = rsz (rs.take (whr rs n))
  | [], n => rfl
  | r :: rs, n => by
    have ih := whl_size rs (n - ((rcF r).body.length + 12))
    unfold whr at ih ⊢
    rw [List.map_cons, whl]
    split
    · simp only [List.take_succ_cons]
      rw [show rsz (r :: List.take (whl (rs.map rcF) (n - ((rcF r).body.length + 12))).1 rs) = (r.length + 12) + rsz (List.take (whl (rs.map rcF) (n - ((rcF r).body.length + 12))).1 rs) by simp [rsz], ← ih]
      rfl
    · rfl
theorem recsOf_take {rs : List (List Int)} (h : ∀ r ∈ rs, Goodr r) {n : Nat} (hn : n ≤ (sby rs).length) : recsOf ((sby rs).take n) = rs.take (whr rs n) := by
  unfold recsOf
  rw [sby, scn_torn _ (fok_all h) n hn]
  show (((rs.map rcF).take (whr rs n)).takeWhile _).map _ = _
  rw [← List.map_take, takeW_rc]
theorem whr_le (rs : List (List Int)) (n : Nat) : whr rs n ≤ rs.length := by
  unfold whr
  induction rs generalizing n with
  | nil => exact Nat.le_refl _
  | cons r rs ih =>
    rw [List.map_cons, whl]
    split
    · have := ih (n - ((rcF r).body.length + 12))
      simp only [List.length_cons]
      omega
    · exact Nat.zero_le _
theorem whr_size_le (rs : List (List Int)) (n : Nat) : rsz (rs.take (whr rs n)) ≤ n := by
  rw [← whl_size]
  induction rs generalizing n with
  | nil => exact Nat.zero_le _
  | cons r rs ih =>
    rw [List.map_cons, whl]
    split
    · have := ih (n - ((rcF r).body.length + 12))
      show (rcF r).body.length + 12 + _ ≤ n
      omega
    · exact Nat.zero_le _
/-- what lies whole in fewer bytes lies whole in more -/
theorem whr_mono (rs : List (List Int)) {n m : Nat} (h : n ≤ m) : whr rs n ≤ whr rs m := by
  unfold whr
  induction rs generalizing n m with
  | nil => exact Nat.le_refl _
  | cons r rs ih =>
    rw [List.map_cons, whl, whl]
    by_cases h1 : (rcF r).body.length + 12 ≤ n
    · rw [if_pos h1, if_pos (by omega)]
      have := ih (n := n - ((rcF r).body.length + 12)) (m := m - ((rcF r).body.length + 12)) (by omega)
      show _ + 1 ≤ _ + 1
      omega
    · rw [if_neg h1]
      exact Nat.zero_le _
theorem whr_append (rs ts : List (List Int)) (n : Nat) : whr rs n ≤ whr (rs ++ ts) n := by
  unfold whr
  induction rs generalizing n with
  | nil => exact Nat.zero_le _
  | cons r rs ih =>
    rw [List.cons_append, List.map_cons, List.map_cons, whl, whl]
    split
    · have := ih (n - ((rcF r).body.length + 12))
      show _ + 1 ≤ _ + 1
      omega
    · exact Nat.zero_le _
theorem whr_all (rs : List (List Int)) : whr rs (rsz rs) = rs.length := by
  unfold whr
  have := whl_all (rs.map rcF)
  rw [show (fbs (rs.map rcF)).length = rsz rs from sby_length rs] at this
  rw [this]
  simp
theorem whr_ge {rs : List (List Int)} {n : Nat} (h : rsz rs ≤ n) : whr rs n = rs.length := by
  have h1 := whr_mono rs h
  rw [whr_all] at h1
  have := whr_le rs n
  omega
/-- all of the bytes are records: just where they are all there -/
theorem whole_iff (rs : List (List Int)) {n : Nat} (hn : n ≤ rsz rs) : rsz (rs.take (whr rs n)) = n ∧ whr rs n = rs.length → n = rsz rs := by
  rintro ⟨h1, h2⟩
  rw [h2, List.take_length] at h1
  exact h1.symm

/-! ## chains -/
def Chn : Nat → List Sg → Prop
  | _, [] => True
  | a, s :: r => s.num = a ∧ Chn (a + s.recs.length) r
def cnt (ss : List Sg) : Nat := (ss.map (·.recs.length)).sum
theorem chn_append : ∀ (a : Nat) (p q : List Sg), Chn a (p ++ q) ↔ Chn a p ∧ Chn (a + cnt p) q
  | a, [], q => by simp [Chn, cnt]
  | a, s :: p, q => by
    have ih := chn_append (a + s.recs.length) p q
    simp only [List.cons_append, Chn, ih, cnt, List.map_cons, List.sum_cons]
    rw [Nat.add_assoc]
    constructor
    · rintro ⟨h1, h2, h3⟩; exact ⟨⟨h1, h2⟩, h3⟩
    · rintro ⟨⟨h1, h2⟩, h3⟩; exact ⟨h1, h2, h3⟩
theorem cnt_append (p q : List Sg) : cnt (p ++ q) = cnt p + cnt q := by simp [cnt]
theorem cnt_all (ss : List Sg) : (ss.flatMap (·.recs)).length = cnt ss := by
  induction ss with
  | nil => rfl
  | cons s r ih => simp only [List.flatMap_cons, List.length_append, ih, cnt, List.map_cons, List.sum_cons]

theorem getLastD_snoc (p : List Sg) (s d : Sg) : (p ++ [s]).getLastD d = s := by simp
theorem lastOf_snoc (p : List Sg) (s : Sg) : lastOf (p ++ [s]) = s := getLastD_snoc p s _

/-- the walk over whole segments up to the last one -/
theorem goOver_lies (look : Nat → List Int) (a : Nat) (s : Sg) (k : Nat) (hk : k ≤ rsz s.recs) : ∀ (p : List Sg) (more : List Nat) (nx : Option Nat) (b : Nat), (nx = none ∨ nx = some b) → Chn b (p ++ [s]) →
    (∀ x ∈ p ++ [s], ∀ r ∈ x.recs, Goodr r) → (∀ x ∈ p, look x.num = sby x.recs) → look s.num = (sby s.recs).take k → (k = rsz s.recs → more = []) →
    goOver look nx (p.map (·.num) ++ s.num :: more) = p ++ [⟨s.num, s.recs.take (whr s.recs k)⟩] ∨ (more ≠ [] ∧ rsz (s.recs.take (whr s.recs k)) = k)
  | [], more, nx, b, hnx, hc, hg, hp, hl, hmore => by
    have hn : s.num = b := hc.1
    have hgs : ∀ r ∈ s.recs, Goodr r := hg s (by simp)
    have hrec : recsOf (look s.num) = s.recs.take (whr s.recs k) := by rw [hl, recsOf_take hgs (by rw [sby_length]; exact hk)]
    have hlen : (look s.num).length = k := by rw [hl, List.length_take, sby_length]; omega
    have h0 : (nx.isSome && nx != some s.num) = false := by rcases hnx with rfl | rfl <;> simp [hn]
    by_cases he : rsz (s.recs.take (whr s.recs k)) = k
    · cases more with
      | nil =>
        left
        simp only [List.map_nil, List.nil_append, goOver, h0, hrec, hlen, he, if_true, Bool.false_eq_true, if_false]
      | cons x r => exact .inr ⟨by simp, he⟩
    · left
      simp only [List.map_nil, List.nil_append, goOver, h0, hrec, hlen, he, Bool.false_eq_true, if_false]
  | x :: p, more, nx, b, hnx, hc, hg, hp, hl, hmore => by
    have hn : x.num = b := hc.1
    have hgx : ∀ r ∈ x.recs, Goodr r := hg x (by simp)
    have hlx := hp x (by simp)
    have hrec : recsOf (look x.num) = x.recs := by
      have := recsOf_take hgx (n := (sby x.recs).length) (Nat.le_refl _)
      rw [List.take_length] at this
      rw [hlx, this, sby_length, whr_all, List.take_length]
    have hlen : rsz x.recs = (look x.num).length := by rw [hlx, sby_length]
    have h0 : (nx.isSome && nx != some x.num) = false := by rcases hnx with rfl | rfl <;> simp [hn]
    have ih := goOver_lies look a s k hk p more (some (b + x.recs.length)) (b + x.recs.length) (.inr rfl) hc.2 (fun y hy => hg y (by simp at hy ⊢; exact .inr hy)) (fun y hy => hp y (by simp [hy])) hl hmore
    rcases ih with ih | ih
    · left
      simp only [List.map_cons, List.cons_append, goOver, h0, hrec, hlen, Bool.false_eq_true, if_false, if_true]
      rw [hn, ih, ← hn]
    · exact .inr ih
end Go.Proofs.YtfiebjfdlplpjaaGreatDoor
end

section
/- What goes over a journal's segments, step by step, as plain mathematics. No program is named here. -/
namespace Go.Proofs.YtfiebjfdlplpjaaGreatDoor
set_option linter.unusedVariables false

theorem rsz_count (rs : List (List Int)) : rs.length ≤ rsz rs := by
  induction rs with
  | nil => exact Nat.le_refl _
  | cons r rs ih =>
    simp only [rsz, List.map_cons, List.sum_cons, List.length_cons] at ih ⊢
    omega
/-- the bytes of frames -/
def fsz (fs : List Fr) : Nat := (fs.map (fun f => f.body.length + 12)).sum
theorem fsz_rsz (fs : List Fr) : rsz (fs.map (·.body)) = fsz fs := by
  unfold rsz fsz
  rw [List.map_map]
  rfl
theorem fsz_append (a b : List Fr) : fsz (a ++ b) = fsz a + fsz b := by simp [fsz]
theorem fsz_cons (f : Fr) (fs : List Fr) : fsz (f :: fs) = f.body.length + 12 + fsz fs := by simp [fsz]
theorem scn_sum : ∀ (n : Nat) (b : List Int), b.length ≤ n → fsz (scn b).1 = (scn b).2.1 ∧ (scn b).2.1 ≤ b.length := by
  intro n
  induction n with
  | zero =>
    intro b hb
    obtain rfl := List.eq_nil_of_length_eq_zero (Nat.le_zero.1 hb)
    rw [scn_nil]
    exact ⟨rfl, Nat.le_refl _⟩
  | succ n ih =>
    intro b hb
    by_cases h : (mea b).2 = 0
    · have hm := mea_le h
      have hf := fra_length h
      have := ih (b.drop (mea b).1) (by rw [List.length_drop]; omega)
      rw [List.length_drop] at this
      rw [scn_more h]
      simp only [fsz_cons]
      omega
    · rw [scn_end h]
      exact ⟨rfl, Nat.zero_le _⟩
theorem scn_fits (b : List Int) : fsz (scn b).1 ≤ b.length := by
  have := scn_sum b.length b (Nat.le_refl _)
  omega
/-- the records that lie ahead of the first frame of another kind -/
theorem recsOf_stop {b : List Int} {q : Nat} (hq : q < (scn b).1.length) (hall : ∀ k (h : k < q), ((scn b).1[k]'(by omega)).k = 1) (hk : ((scn b).1[q]).k ≠ 1) :
    recsOf b = ((scn b).1.take q).map (·.body) ∧ rsz (recsOf b) ≠ b.length := by
  have hsplit : (scn b).1 = (scn b).1.take q ++ (scn b).1[q] :: (scn b).1.drop (q + 1) := by rw [List.getElem_cons_drop, List.take_append_drop]
  have htake : (scn b).1.takeWhile (fun f => decide (f.k = 1)) = (scn b).1.take q := by
    conv => lhs; rw [hsplit]
    rw [List.takeWhile_append_of_pos, List.takeWhile_cons, if_neg (by simpa using hk), List.append_nil]
    intro f hf
    obtain ⟨k, hkl, rfl⟩ := List.mem_iff_getElem.1 hf
    rw [List.length_take] at hkl
    rw [List.getElem_take]
    simpa using hall k (by omega)
  have h1 : recsOf b = ((scn b).1.take q).map (·.body) := by rw [recsOf, htake]
  refine ⟨h1, ?_⟩
  rw [h1, fsz_rsz]
  have hfit := scn_fits b
  conv at hfit => lhs; rw [hsplit]
  rw [fsz_append, fsz_cons] at hfit
  omega
theorem takeW_self {α : Type} (p : α → Bool) : ∀ l : List α, (∀ x ∈ l, p x = true) → l.takeWhile p = l
  | [], _ => rfl
  | x :: l, h => by
    rw [List.takeWhile_cons, if_pos (h x (by simp)), takeW_self p l fun y hy => h y (by simp [hy])]
theorem recsOf_all {b : List Int} (hall : ∀ k (h : k < (scn b).1.length), ((scn b).1[k]).k = 1) : recsOf b = (scn b).1.map (·.body) := by
  unfold recsOf
  congr 1
  refine takeW_self _ _ fun f hf => ?_
  obtain ⟨k, hkl, rfl⟩ := List.mem_iff_getElem.1 hf
  simpa using hall k hkl
theorem recsOf_fits (b : List Int) : rsz (recsOf b) ≤ b.length := by
  refine Nat.le_trans ?_ (scn_fits b)
  unfold recsOf
  rw [fsz_rsz]
  have h := List.takeWhile_append_dropWhile (p := fun f => decide (f.k = 1)) (l := (scn b).1)
  conv => rhs; rw [← h]
  rw [fsz_append]
  omega
theorem recsOf_byt {b : List Int} (hb : Byt b) : ∀ r ∈ recsOf b, Byt r := by
  have : ∀ (n : Nat) (b : List Int), b.length ≤ n → Byt b → ∀ f ∈ (scn b).1, Byt f.body := by
    intro n
    induction n with
    | zero =>
      intro b hl hb f hf
      obtain rfl := List.eq_nil_of_length_eq_zero (Nat.le_zero.1 hl)
      rw [scn_nil] at hf
      cases hf
    | succ n ih =>
      intro b hl hb f hf
      by_cases h : (mea b).2 = 0
      · rw [scn_more h] at hf
        rcases List.mem_cons.1 hf with rfl | hf
        · exact fra_byt hb
        · have hm := mea_le h
          exact ih _ (by rw [List.length_drop]; omega) (hb.drop _) f hf
      · rw [scn_end h] at hf
        cases hf
  intro r hr
  obtain ⟨f, hf, rfl⟩ := List.mem_map.1 hr
  exact this b.length b (Nat.le_refl _) hb f (List.takeWhile_subset _ hf)

/-! ## step by step -/
/-- what stands ahead of number k: all gone into -/
structure GoIn (look : Nat → List Int) (ns : List Nat) (k : Nat) (nx : Nat) (ss : List Sg) : Prop where
  split : goOver look none ns = ss ++ goOver look (if k = 0 then none else some nx) (ns.drop k)
  len : ss.length = k
  mem : ∀ x ∈ ss, x.num ∈ ns ∧ x.recs = recsOf (look x.num) ∧ rsz x.recs = (look x.num).length
  nx : k ≠ 0 → nx = nextOf ss
theorem GoIn.start (look : Nat → List Int) (ns : List Nat) (nx : Nat) : GoIn look ns 0 nx [] := ⟨rfl, rfl, (fun x hx => (by cases hx)), fun h => absurd rfl h⟩
theorem nextOf_snoc (ss : List Sg) (s : Sg) : nextOf (ss ++ [s]) = s.num + s.recs.length := by
  unfold nextOf
  rw [if_neg (by simp), lastOf_snoc]
section
variable {look : Nat → List Int} {ns : List Nat} {k nx : Nat} {ss : List Sg}
theorem GoIn.done (h : GoIn look ns k nx ss) (hk : ns.length ≤ k) : goOver look none ns = ss := by
  rw [h.split, List.drop_eq_nil_of_le hk]
  simp [goOver]
/-- another number than the next one -/
theorem GoIn.other (h : GoIn look ns k nx ss) (hk : k < ns.length) (h0 : k ≠ 0) (hn : ns[k] ≠ nx) : goOver look none ns = ss := by
  rw [h.split, if_neg h0, ← List.getElem_cons_drop hk]
  have hne : ¬ nx = ns[k] := Ne.symm hn
  simp [goOver, hne]
theorem GoIn.goes (h : GoIn look ns k nx ss) (hk : k < ns.length) (hn : k = 0 ∨ ns[k] = nx) : goOver look none ns = ss ++ if rsz (recsOf (look ns[k])) = (look ns[k]).length then ⟨ns[k], recsOf (look ns[k])⟩ :: goOver look (some (ns[k] + (recsOf (look ns[k])).length)) (ns.drop (k + 1)) else [⟨ns[k], recsOf (look ns[k])⟩] := by
  rw [h.split, ← List.getElem_cons_drop hk]
  congr 1
  rcases hn with hn | hn
  · rw [if_pos hn]
    simp [goOver]
  · by_cases h0 : k = 0
    · rw [if_pos h0]
      simp [goOver]
    · rw [if_neg h0, ← hn]
      simp [goOver]
theorem GoIn.next (h : GoIn look ns k nx ss) (hk : k < ns.length) (hn : k = 0 ∨ ns[k] = nx) (he : rsz (recsOf (look ns[k])) = (look ns[k]).length) : GoIn look ns (k + 1) (ns[k] + (recsOf (look ns[k])).length) (ss ++ [⟨ns[k], recsOf (look ns[k])⟩]) := by
  refine ⟨?_, by simp [h.len], fun x hx => ?_, fun _ => by rw [nextOf_snoc]⟩
  · rw [h.goes hk hn, if_pos he, if_neg (by omega)]
    simp
  · rcases List.mem_append.1 hx with hx | hx
    · exact h.mem x hx
    · obtain rfl := List.mem_singleton.1 hx
      exact ⟨List.getElem_mem _, rfl, he⟩
theorem GoIn.stop (h : GoIn look ns k nx ss) (hk : k < ns.length) (hn : k = 0 ∨ ns[k] = nx) (he : rsz (recsOf (look ns[k])) ≠ (look ns[k]).length) : goOver look none ns = ss ++ [⟨ns[k], recsOf (look ns[k])⟩] := by
  rw [h.goes hk hn, if_neg he]
end
end Go.Proofs.YtfiebjfdlplpjaaGreatDoor
end

section
/- The program's test of a journal's name. -/
namespace Go.Proofs.YtfiebjfdlplpjaaGreatDoor
open Go.RowKit
set_option linter.unusedVariables false

def okL (b : UInt8) : Bool := decide (97 ≤ b.toNat) && decide (b.toNat ≤ 122)
/-- a journal's name: 1 to 8 small letters -/
def okJ (l : Nm) : Bool := decide (1 ≤ l.length) && (decide (l.length ≤ 8) && l.all okL)

theorem okJ_long {l : Nm} (h : 8 < l.length) : okJ l = false := by simp [okJ]; omega
theorem okJ_short {l : Nm} (h1 : 1 ≤ l.length) (h2 : l.length ≤ 8) : okJ l = l.all okL := by
  have a : decide (1 ≤ l.length) = true := by simpa using h1
  have b : decide (l.length ≤ 8) = true := by simpa using h2
  unfold okJ
  rw [a, b]
  rfl
theorem okJ_len {l : Nm} (h : okJ l = true) : 1 ≤ l.length ∧ l.length ≤ 8 := by
  simp only [okJ, Bool.and_eq_true, decide_eq_true_eq] at h
  exact ⟨h.1, h.2.1⟩
theorem okJ_all {l : Nm} (h : okJ l = true) : l.all okL = true := by
  simp only [okJ, Bool.and_eq_true] at h
  exact h.2.2
theorem okN_of {l : Nm} (h1 : 1 ≤ l.length) (h2 : l.length ≤ 24) (h : ∀ b ∈ l, 33 ≤ b.toNat ∧ b.toNat ≤ 126) : okN l = true := by
  simp only [okN, Bool.and_eq_true, decide_eq_true_eq, List.all_eq_true]
  exact ⟨h1, h2, h⟩
theorem dig_chars : ∀ (k n : Nat), ∀ b ∈ dig k n, 48 ≤ b.toNat ∧ b.toNat ≤ 57
  | 0, n, b, hb => by cases hb
  | k + 1, n, b, hb => by
    rw [dig, List.mem_append] at hb
    rcases hb with hb | hb
    · exact dig_chars k _ b hb
    · obtain rfl := List.mem_singleton.1 hb
      rw [d1_toNat]
      have := Nat.mod_lt n (show 10 > 0 by decide)
      omega
theorem okL_chars {l : Nm} (h : okJ l = true) : ∀ b ∈ l, 33 ≤ b.toNat ∧ b.toNat ≤ 126 := by
  intro b hb
  have := List.all_eq_true.1 (okJ_all h) b hb
  simp only [okL, Bool.and_eq_true, decide_eq_true_eq] at this
  omega
/-- the names that a journal gives its files may be -/
theorem okN_seg {l : Nm} (h : okJ l = true) (n : Nat) : okN (segN l n) = true := by
  obtain ⟨h1, h2⟩ := okJ_len h
  refine okN_of (by simp [segN]; omega) (by simp [segN, dig_length]; omega) fun b hb => ?_
  rcases List.mem_append.1 hb with hb | hb
  · exact okL_chars h b hb
  · rcases List.mem_cons.1 hb with rfl | hb
    · decide
    · have := dig_chars 12 n b hb; omega
theorem okN_cut {l : Nm} (h : okJ l = true) : okN (cutN l) = true := by
  obtain ⟨h1, h2⟩ := okJ_len h
  refine okN_of (by simp [cutN]) (by simp [cutN]; omega) fun b hb => ?_
  rcases List.mem_append.1 hb with hb | hb
  · exact okL_chars h b hb
  · simp only [List.mem_cons, List.not_mem_nil, or_false] at hb
    rcases hb with rfl | rfl | rfl | rfl <;> decide

set_option maxHeartbeats 800000 in
theorem jmayNot_any (s : ByteArray) (hs : s.size ≤ 9223372036854775807) (w : World) :
    Calls Tryz.prog 57 #[.string s] w fun e w' => e = .returned (.bool (!okJ s.data.toList)) ∧ ∃ n, w' = w.drewN n := by
  have hsz : s.size = s.data.toList.length := by simp
  have hl : s.toList = s.data.toList := Lib.toList_data s
  have he : (ByteArray.mk #[]).toList = [] := by rw [Lib.toList_data]
  by_cases h0 : s.size = 0
  · have hn : s.data.toList = [] := List.eq_nil_of_length_eq_zero (by omega)
    have hq : s.toList = [] := by rw [hl, hn]
    have hf : okJ s.data.toList = false := by rw [hn]; rfl
    rw [hf]
    clear hf hn hl he hsz
    go_enter Tryz.func57, Tryz.ntmps57
    go_wp2
    go_ret
    exact ⟨by simp, 0, rfl⟩
  · have hq : ¬ s.toList = [] := by
      rw [hl]
      intro hn
      rw [hn] at hsz
      exact h0 hsz
    have hq1 : s.toList.isEmpty = false := by simpa using hq
    by_cases h24 : 8 < s.size
    · rw [okJ_long (by omega)]
      have h24' : (8 : Int) < s.size := by omega
      clear hl he hsz h24
      go_enter Tryz.func57, Tryz.ntmps57
      go_wp2
      go_ret
      exact ⟨by simp, 0, rfl⟩
    · rw [okJ_short (by omega) (by omega)]
      have h24' : ¬ (8 : Int) < s.size := by omega
      have HL := Lib.hid hl
      have HS := Lib.hid hsz
      generalize hr : s.data.toList.all okL = r
      have HR := Lib.hid hr
      clear hr
      clear hl he hsz h24
      go_enter Tryz.func57, Tryz.ntmps57
      go_wp2
      go_loopw [13] (fun i wr => ∃ k : Nat, k ≤ s.size ∧ i = .int .i64 k ∧ (s.data.toList.take k).all okL = true ∧ ∃ n, wr = w.drewN n) (fun i _ => s.size - (intOf i).toNat)
      case atStart => exact ⟨0, Nat.zero_le _, rfl, rfl, 0, rfl⟩
      case round =>
        obtain ⟨k, hk, rfl, hall, n, rfl⟩ := hrel
        have HA := Lib.hid hall
        clear hall
        by_cases hlt : k < s.size
        · have hg : s.data[k]'(by exact hlt) = s.data.toList[k]'(by rw [← HS.out]; exact hlt) := by simp
          have hkl : k < s.data.toList.length := by rw [← HS.out]; exact hlt
          have hb : okL (s.data.toList[k]'hkl) = decide (97 ≤ ((s[k]'hlt).toNat : Int) ∧ ((s[k]'hlt).toNat : Int) ≤ 122) := by
            have e : s[k]'hlt = s.data.toList[k]'hkl := by rw [← hg]; rfl
            rw [e]
            simp only [okL, Bool.decide_and]
            congr 1 <;> exact decide_eq_decide.2 (by omega)
          have bad : okL (s.data.toList[k]'hkl) = false → s.data.toList.all okL = false := fun h => by
            rw [List.all_eq_false]
            exact ⟨_, List.getElem_mem hkl, by rw [h]; decide⟩
          have HB := Lib.hid hb
          have HBad := Lib.hid bad
          clear hg hb bad
          go_wp2
          all_goals first
            | (go_roundw
               case rel =>
                 refine ⟨k + 1, by omega, by go_num, ?_, n, rfl⟩
                 rw [List.take_add_one, List.getElem?_eq_getElem hkl, List.all_append, HA.out]
                 simp only [Option.toList_some, List.all_cons, List.all_nil, Bool.and_true, Bool.true_and]
                 rw [HB.out]
                 exact decide_eq_true (by omega)
               case measure => simp [intOf]; omega)
            | (go_ret
               refine ⟨?_, n, rfl⟩
               rw [← HR.out, HBad.out (by rw [HB.out]; exact decide_eq_false (by omega))]
               rfl)
        · go_wp2
          go_ret
          refine ⟨?_, n, rfl⟩
          have := HA.out
          rw [List.take_of_length_le (by rw [← HS.out]; omega)] at this
          rw [← HR.out, this]
          rfl
end Go.Proofs.YtfiebjfdlplpjaaGreatDoor
end
