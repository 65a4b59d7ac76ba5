/- Two disks side by side, the program's and the document's, and their calls. The kit's Pick. -/
import Derived.Test.YtnpomiidkdnebaaDRCrash
import Derived.Test.YtnpomiidkdnebaaSame
namespace Go.Proofs.Ytnpomiidkdnebaa
open Go.RowKit
set_option linter.unusedVariables false

def pk (x n : Int) : Int := (x.tmod n + n) % n
theorem pk_range (x : Int) {n : Int} (hn : 1 ≤ n) : 0 ≤ pk x n ∧ pk x n < n := ⟨Int.emod_nonneg _ (by omega), Int.emod_lt_of_pos _ (by omega)⟩
theorem pk_any (x n : Int) (w : World) (h1 : 1 ≤ n) (h2 : n ≤ 4611686018427387904) (hx : -9223372036854775808 ≤ x ∧ x ≤ 9223372036854775807) :
    Calls Try.prog 32 #[.int .i64 x, .int .i64 n] w fun e w' => e = .returned (.int .i64 (pk x n)) ∧ w' = w := by
  have hx1 := hx.1
  have hx2 := hx.2
  clear hx
  have hm1 : -n < Int.tmod x n := by have := Int.tmod_lt_of_pos (-x) (show 0 < n by omega); rw [Int.neg_tmod] at this; omega
  have hm2 : Int.tmod x n < n := Int.tmod_lt_of_pos x (by omega)
  have hn0 : ¬ n = 0 := by omega
  have hn1 : ¬ n = -1 := by omega
  go_enter Try.func32, Try.ntmps32
  go_wp2
  go_ret
  have hm3 := Int.emod_nonneg (x.tmod n + n) hn0
  have hm4 := Int.emod_lt_of_pos (x.tmod n + n) (show 0 < n by omega)
  exact ⟨rfl, rfl⟩

/-- both disks -/
def Pair (S : Nat → Prop) (w : World) (d x : Nat) (Dd Dx : Dsk) : Prop := ∃ Sd Sx, Dk 0 w Sd d Dd ∧ Rf w Sx x Dx ∧ (∀ k, Sd k → ¬ Sx k) ∧ ∀ k, S k ↔ Sd k ∨ Sx k
/-- both disks, in a world that has come about from w -/
def At (S : Nat → Prop) (w : World) (d x : Nat) (Dd Dx : Dsk) (W : World) : Prop := ∃ S', Pair S' W d x Dd Dx ∧ Turn S S' w W

section
variable {S S' : Nat → Prop} {w W W' : World} {d x : Nat} {Dd Dx Dd' Dx' : Dsk}
theorem Pair.lt (h : Pair S w d x Dd Dx) : ∀ k, S k → k < w.heap.size := by
  obtain ⟨Sd, Sx, hd, hx, _, hS⟩ := h
  intro k hk
  rcases (hS k).1 hk with h | h
  · exact hd.lt k h
  · exact hx.lt k h
theorem Pair.go (h : Pair S w d x Dd Dx) (hb : Below w.heap.size w W) : Pair S W d x Dd Dx := by
  obtain ⟨Sd, Sx, hd, hx, h3, h4⟩ := h
  exact ⟨Sd, Sx, hd.go hb, hx.go hb, h3, h4⟩
theorem Pair.at_ (h : Pair S w d x Dd Dx) : At S w d x Dd Dx w := ⟨S, h, Turn.refl _ _⟩
theorem At.go (h : At S w d x Dd Dx W) (hb : Below W.heap.size W W') : At S w d x Dd Dx W' := by
  obtain ⟨S', hp, hT⟩ := h
  exact ⟨S', hp.go hb, hT.trans (Turn.below hb)⟩
theorem At.outs (h : At S w d x Dd Dx W) : Outs S w W := h.elim fun _ h => h.2.outs
/-- a call of the program's disk -/
theorem At.ofD {f : Nat} {a : Array Value} {r : Value} (h : At S w d x Dd Dx W)
    (c : ∀ Sd, Dk 0 W Sd d Dd → (∀ k, Sd k → S k ∨ w.heap.size ≤ k) → Calls Try.prog f a W fun e w' => e = .returned r ∧ ∃ S', Dk 0 w' S' d Dd' ∧ Turn Sd S' W w') :
    Calls Try.prog f a W fun e w' => e = .returned r ∧ At S w d x Dd' Dx w' := by
  obtain ⟨S', ⟨Sd, Sx, hd, hx, hdis, hS⟩, hT⟩ := h
  have hsd : ∀ k, Sd k → S k ∨ w.heap.size ≤ k := fun k hk => hT.new k ((hS k).2 (.inl hk))
  refine (c Sd hd hsd).mono ?_
  rintro e w' ⟨rfl, Sd', hd', hT'⟩
  refine ⟨rfl, fun k => Sd' k ∨ Sx k, ⟨Sd', Sx, hd', hx.outs hT'.outs (fun k hk hk' => hdis k hk' hk), fun k hk hk' => ?_, fun k => Iff.rfl⟩, hT.outs.trans hT'.outs hsd, fun k hk => ?_⟩
  · rcases hT'.new k hk with h | h
    · exact hdis k h hk'
    · have := hx.lt k hk'; omega
  · rcases hk with hk | hk
    · rcases hT'.new k hk with h | h
      · exact hsd k h
      · exact .inr (Nat.le_trans hT.outs.size h)
    · exact hT.new k ((hS k).2 (.inr hk))
/-- a call of the document's disk -/
theorem At.ofX {f : Nat} {a : Array Value} {r : Value} (h : At S w d x Dd Dx W)
    (c : ∀ Sx v rs fz, RfAt W Sx x v rs fz Dx → (∀ k, Sx k → S k ∨ w.heap.size ≤ k) → Calls Try.prog f a W fun e w' => e = .returned r ∧ ∃ S', Rf w' S' x Dx' ∧ Turn Sx S' W w') :
    Calls Try.prog f a W fun e w' => e = .returned r ∧ At S w d x Dd Dx' w' := by
  obtain ⟨S', ⟨Sd, Sx, hd, hx, hdis, hS⟩, hT⟩ := h
  have hsx : ∀ k, Sx k → S k ∨ w.heap.size ≤ k := fun k hk => hT.new k ((hS k).2 (.inr hk))
  obtain ⟨v, rs, fz, hxa⟩ := hx
  refine (c Sx v rs fz hxa hsx).mono ?_
  rintro e w' ⟨rfl, Sx', hx', hT'⟩
  refine ⟨rfl, fun k => Sd k ∨ Sx' k, ⟨Sd, Sx', hd.outs hT'.outs (fun k hk hk' => hdis k hk hk'), hx', fun k hk hk' => ?_, fun k => Iff.rfl⟩, hT.outs.trans hT'.outs hsx, fun k hk => ?_⟩
  · rcases hT'.new k hk' with h | h
    · exact hdis k hk h
    · have := hd.lt k hk; omega
  · rcases hk with hk | hk
    · exact hT.new k ((hS k).2 (.inl hk))
    · rcases hT'.new k hk with h | h
      · exact hsx k h
      · exact .inr (Nat.le_trans hT.outs.size h)
theorem At.back (h : At S W d x Dd Dx W') (hb : Below w.heap.size w W) : At S w d x Dd Dx W' := by
  obtain ⟨S', hp, hT⟩ := h
  exact ⟨S', hp, (Turn.below hb).trans hT⟩
/-- reads of both -/
theorem At.open_ (h : At S w d x Dd Dx W) : ∃ Sd Sx v rs fz, Dk 0 W Sd d Dd ∧ RfAt W Sx x v rs fz Dx := by
  obtain ⟨S', ⟨Sd, Sx, hd, ⟨v, rs, fz, hx⟩, _⟩, _⟩ := h
  exact ⟨Sd, Sx, v, rs, fz, hd, hx⟩
end

/-- a disk whose calls are told -/
structure Gd (D : Dsk) : Prop where
  ok : Okd D
  room : Room D
  few : D.files.length ≤ D.steps

section
variable {S S' : Nat → Prop} {w W W' : World} {d x : Nat} {Dd Dx Dd' Dx' : Dsk}
theorem slice_in {A : Option Addr} {xs : List Value} (ho : Outs S w W) (hr : Rds w w.heap.size A xs) (hS : ∀ ad, A = some ad → xs ≠ [] → ¬ S ad.block) : Rds W W.heap.size A xs := Rds.outs hr ho hS
theorem slice_out {Sd : Nat → Prop} {A : Option Addr} {xs : List Value} (hr : Rds w w.heap.size A xs) (hS : ∀ ad, A = some ad → xs ≠ [] → ¬ S ad.block) (hsd : ∀ k, Sd k → S k ∨ w.heap.size ≤ k) : ∀ ad, A = some ad → xs ≠ [] → ¬ Sd ad.block := fun ad e hne hk => by
  rcases hsd _ hk with h | h
  · exact hS ad e hne h
  · obtain ⟨ad', e', hb, _⟩ := hr hne
    rw [e] at e'
    obtain rfl := Option.some.inj e'
    omega

theorem q_make_d (s : ByteArray) (hs : s.size ≤ 9223372036854775807) (h : At S w d x Dd Dx W) (g : Gd Dd) :
    Calls Try.prog 10 #[.pointer (some ⟨d, 0, none⟩), .string s] W fun e w' => e = .returned (.int .i64 (dMake Dd (lst s)).1) ∧ At S w d x ((dMake Dd (lst s)).2) Dx w' :=
  h.ofD fun Sd hd hsd => make_any s hs W hd g.room
theorem q_make_x (s : ByteArray) (hs : s.size ≤ 9223372036854775807) (h : At S w d x Dd Dx W) (g : Gd Dx) :
    Calls Try.prog 49 #[.pointer (some ⟨x, 0, none⟩), .string s] W fun e w' => e = .returned (.int .i64 (dMake Dx (lst s)).1) ∧ At S w d x Dd ((dMake Dx (lst s)).2) w' :=
  h.ofX fun Sx v rs fz hx hsx => rmake_any s hs W hx g.ok g.room g.few
theorem q_sync_d (s : ByteArray) (hs : s.size ≤ 9223372036854775807) (h : At S w d x Dd Dx W) (g : Gd Dd) :
    Calls Try.prog 12 #[.pointer (some ⟨d, 0, none⟩), .string s] W fun e w' => e = .returned (.int .i64 (dSync Dd (lst s)).1) ∧ At S w d x ((dSync Dd (lst s)).2) Dx w' :=
  h.ofD fun Sd hd hsd => sync_any s hs W hd g.room
theorem q_sync_x (s : ByteArray) (hs : s.size ≤ 9223372036854775807) (h : At S w d x Dd Dx W) (g : Gd Dx) :
    Calls Try.prog 51 #[.pointer (some ⟨x, 0, none⟩), .string s] W fun e w' => e = .returned (.int .i64 (dSync Dx (lst s)).1) ∧ At S w d x Dd ((dSync Dx (lst s)).2) w' :=
  h.ofX fun Sx v rs fz hx hsx => (rsync_any s hs W hx g.ok g.room).mono fun e w' he => ⟨he.1, Sx, he.2.1, he.2.2⟩
theorem q_rename_d (s r : ByteArray) (hs : s.size ≤ 9223372036854775807) (hr : r.size ≤ 9223372036854775807) (h : At S w d x Dd Dx W) (g : Gd Dd) :
    Calls Try.prog 19 #[.pointer (some ⟨d, 0, none⟩), .string s, .string r] W fun e w' => e = .returned (.int .i64 (dRename Dd (lst s) (lst r)).1) ∧ At S w d x ((dRename Dd (lst s) (lst r)).2) Dx w' :=
  h.ofD fun Sd hd hsd => rename_any s r hs hr W hd g.room g.ok
theorem q_rename_x (s r : ByteArray) (hs : s.size ≤ 9223372036854775807) (hr : r.size ≤ 9223372036854775807) (h : At S w d x Dd Dx W) (g : Gd Dx) :
    Calls Try.prog 52 #[.pointer (some ⟨x, 0, none⟩), .string s, .string r] W fun e w' => e = .returned (.int .i64 (dRename Dx (lst s) (lst r)).1) ∧ At S w d x Dd ((dRename Dx (lst s) (lst r)).2) w' :=
  h.ofX fun Sx v rs fz hx hsx => rrename_any s r hs hr W hx g.ok g.room g.few
theorem q_remove_d (s : ByteArray) (hs : s.size ≤ 9223372036854775807) (h : At S w d x Dd Dx W) (g : Gd Dd) :
    Calls Try.prog 26 #[.pointer (some ⟨d, 0, none⟩), .string s] W fun e w' => e = .returned (.int .i64 (dRemove Dd (lst s)).1) ∧ At S w d x ((dRemove Dd (lst s)).2) Dx w' :=
  h.ofD fun Sd hd hsd => remove_any s hs W hd g.room g.ok
theorem q_remove_x (s : ByteArray) (hs : s.size ≤ 9223372036854775807) (h : At S w d x Dd Dx W) (g : Gd Dx) :
    Calls Try.prog 53 #[.pointer (some ⟨x, 0, none⟩), .string s] W fun e w' => e = .returned (.int .i64 (dRemove Dx (lst s)).1) ∧ At S w d x Dd ((dRemove Dx (lst s)).2) w' :=
  h.ofX fun Sx v rs fz hx hsx => rremove_any s hs W hx g.ok g.room g.few
theorem q_fuse_d (n : Int) (h : At S w d x Dd Dx W) (g : Gd Dd) :
    Calls Try.prog 16 #[.pointer (some ⟨d, 0, none⟩), .int .i64 n] W fun e w' => e = .returned (.int .i64 (dFuse Dd n).1) ∧ At S w d x ((dFuse Dd n).2) Dx w' :=
  h.ofD fun Sd hd hsd => (fuse_any n W hd).mono fun e w' he => ⟨he.1, Sd, he.2.1, he.2.2⟩
theorem q_fuse_x (n : Int) (h : At S w d x Dd Dx W) (g : Gd Dx) :
    Calls Try.prog 54 #[.pointer (some ⟨x, 0, none⟩), .int .i64 n] W fun e w' => e = .returned (.int .i64 (dFuse Dx n).1) ∧ At S w d x Dd ((dFuse Dx n).2) w' :=
  h.ofX fun Sx v rs fz hx hsx => (rfuse_any n W ⟨_, _, _, hx⟩).mono fun e w' he => ⟨he.1, Sx, he.2.1, he.2.2⟩
theorem q_free_d (h : At S w d x Dd Dx W) (g : Gd Dd) :
    Calls Try.prog 27 #[.pointer (some ⟨d, 0, none⟩)] W fun e w' => e = .returned (.int .i64 0) ∧ At S w d x (dFree Dd) Dx w' :=
  h.ofD fun Sd hd hsd => (free_any W hd).mono fun e w' he => ⟨he.1, Sd, he.2.1, he.2.2⟩
theorem q_free_x (h : At S w d x Dd Dx W) (g : Gd Dx) :
    Calls Try.prog 55 #[.pointer (some ⟨x, 0, none⟩)] W fun e w' => e = .returned (.int .i64 0) ∧ At S w d x Dd (dFree Dx) w' :=
  h.ofX fun Sx v rs fz hx hsx => (rfree_any W ⟨_, _, _, hx⟩).mono fun e w' he => ⟨he.1, Sx, he.2.1, he.2.2⟩
theorem q_crash_d (Ak : Option Addr) (ks : List Int) (n c : Nat) (hn : ks.length = n) (hnl : n ≤ 9223372036854775807) (hk64 : ∀ z ∈ ks, z ≤ 9223372036854775807) (hkr : Rds w w.heap.size Ak (cN ks)) (hkS : ∀ ad, Ak = some ad → cN ks ≠ [] → ¬ S ad.block) (h : At S w d x Dd Dx W) (g : Gd Dd) :
    Calls Try.prog 13 #[.pointer (some ⟨d, 0, none⟩), .slice Ak n c] W fun e w' => e = .returned (.int .i64 (dCrash Dd ks).1) ∧ At S w d x ((dCrash Dd ks).2) Dx w' :=
  h.ofD fun Sd hd hsd => crash_any Ak ks n c W hd g.room g.ok hn hnl hk64 (slice_in h.outs hkr hkS) (slice_out hkr hkS hsd)
theorem q_crash_x (Ak : Option Addr) (ks : List Int) (n c : Nat) (hn : ks.length = n) (hnl : n ≤ 9223372036854775807) (hk64 : ∀ z ∈ ks, z ≤ 9223372036854775807) (hkr : Rds w w.heap.size Ak (cN ks)) (hkS : ∀ ad, Ak = some ad → cN ks ≠ [] → ¬ S ad.block) (h : At S w d x Dd Dx W) (g : Gd Dx) :
    Calls Try.prog 56 #[.pointer (some ⟨x, 0, none⟩), .slice Ak n c] W fun e w' => e = .returned (.int .i64 (dCrash Dx ks).1) ∧ At S w d x Dd ((dCrash Dx ks).2) w' :=
  h.ofX fun Sx v rs fz hx hsx => rcrash_any Ak ks n c W hx g.ok hn hnl hk64 (slice_in h.outs hkr hkS) (slice_out hkr hkS hsx)
theorem q_turn_d (s : ByteArray) (hs : s.size ≤ 9223372036854775807) (i c : Int) (h : At S w d x Dd Dx W) (g : Gd Dd) :
    Calls Try.prog 22 #[.pointer (some ⟨d, 0, none⟩), .string s, .int .i64 i, .int .u8 c] W fun e w' => e = .returned (.int .i64 (dTurn (xr c) Dd (lst s) i).1) ∧ At S w d x ((dTurn (xr c) Dd (lst s) i).2) Dx w' :=
  h.ofD fun Sd hd hsd => turn_any s hs i c W hd g.ok
theorem q_turn_x (s : ByteArray) (hs : s.size ≤ 9223372036854775807) (i c : Int) (h : At S w d x Dd Dx W) (g : Gd Dx) :
    Calls Try.prog 57 #[.pointer (some ⟨x, 0, none⟩), .string s, .int .i64 i, .int .u8 c] W fun e w' => e = .returned (.int .i64 (dTurn (xr c) Dx (lst s) i).1) ∧ At S w d x Dd ((dTurn (xr c) Dx (lst s) i).2) w' :=
  h.ofX fun Sx v rs fz hx hsx => rturn_any s hs i c W hx g.ok
theorem q_append_d (s : ByteArray) (hs : s.size ≤ 9223372036854775807) (b : List Int) (A : Option Addr) (L c : Nat) (hbL : b.length = L) (hLc : L ≤ c) (hL63 : L ≤ 9223372036854775807) (hA0 : A = none → c = 0) (hrd : Rds w w.heap.size A (c8 b)) (hbS : ∀ ad, A = some ad → c8 b ≠ [] → ¬ S ad.block) (h : At S w d x Dd Dx W) (g : Gd Dd) :
    Calls Try.prog 11 #[.pointer (some ⟨d, 0, none⟩), .string s, .slice A L c] W fun e w' => e = .returned (.int .i64 (dAppend Dd (lst s) b).1) ∧ At S w d x ((dAppend Dd (lst s) b).2) Dx w' :=
  h.ofD fun Sd hd hsd => append_any s hs b A L c W hd g.room g.ok hbL hLc hL63 hA0 (slice_in h.outs hrd hbS) (slice_out hrd hbS hsd)
theorem q_append_x (s : ByteArray) (hs : s.size ≤ 9223372036854775807) (b : List Int) (A : Option Addr) (L c : Nat) (hbL : b.length = L) (hLc : L ≤ c) (hL63 : L ≤ 9223372036854775807) (hA0 : A = none → c = 0) (hrd : Rds w w.heap.size A (c8 b)) (hbS : ∀ ad, A = some ad → c8 b ≠ [] → ¬ S ad.block) (h : At S w d x Dd Dx W) (g : Gd Dx) :
    Calls Try.prog 50 #[.pointer (some ⟨x, 0, none⟩), .string s, .slice A L c] W fun e w' => e = .returned (.int .i64 (dAppend Dx (lst s) b).1) ∧ At S w d x Dd ((dAppend Dx (lst s) b).2) w' :=
  h.ofX fun Sx v rs fz hx hsx => rappend_any s hs b A L c W hx g.ok g.room hbL hLc hL63 hA0 (slice_in h.outs hrd hbS) (slice_out hrd hbS hsx)
end
end Go.Proofs.Ytnpomiidkdnebaa
