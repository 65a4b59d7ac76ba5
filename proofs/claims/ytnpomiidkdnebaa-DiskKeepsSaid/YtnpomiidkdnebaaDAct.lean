/- An act, as the law's step takes it. -/
import Derived.Test.YtnpomiidkdnebaaDPair
import Derived.Deep.RegionHeld3
namespace Go.Proofs.Ytnpomiidkdnebaa
open Go.RowKit
set_option linter.unusedVariables false

structure Ac where
  kd : Int
  nm : ByteArray
  to : ByteArray
  A : Option Addr
  L : Nat
  c : Nat
  b : List Int
  n : Int
  Ak : Option Addr
  m : Nat
  ck : Nat
  ks : List Int
def acCells (a : Ac) : Array Value := #[.int .i64 a.kd, .string a.nm, .string a.to, .slice a.A a.L a.c, .int .i64 a.n, .slice a.Ak a.m a.ck]
structure AcOk (S : Nat → Prop) (w : World) (a : Ac) : Prop where
  kd : -9223372036854775808 ≤ a.kd ∧ a.kd ≤ 9223372036854775807
  nm : a.nm.size ≤ 9223372036854775807
  to : a.to.size ≤ 9223372036854775807
  bl : a.b.length = a.L
  Lc : a.L ≤ a.c
  l47 : a.L ≤ 140737488355328
  A0 : a.A = none → a.c = 0
  rd : Rds w w.heap.size a.A (c8 a.b)
  bS : ∀ ad, a.A = some ad → c8 a.b ≠ [] → ¬ S ad.block
  kl : a.ks.length = a.m
  mc : a.m ≤ a.ck
  m44 : a.m ≤ 17592186044416
  K0 : a.Ak = none → a.ck = 0
  kr : Rds w w.heap.size a.Ak (cN a.ks)
  kS : ∀ ad, a.Ak = some ad → cN a.ks ≠ [] → ¬ S ad.block
  kb : ∀ z ∈ a.ks, -9223372036854775808 ≤ z ∧ z ≤ 9223372036854775807
  nb : -9223372036854775808 ≤ a.n ∧ a.n ≤ 9223372036854775807

section
variable {S S' : Nat → Prop} {w W : World} {a : Ac}
theorem AcOk.go (h : AcOk S w a) (hb : Below w.heap.size w W) : AcOk S W a :=
  { kd := h.kd, nm := h.nm, to := h.to, bl := h.bl, Lc := h.Lc, l47 := h.l47, A0 := h.A0, rd := (h.rd.below hb).more hb.size, bS := h.bS, kl := h.kl, mc := h.mc, m44 := h.m44, K0 := h.K0, kr := (h.kr.below hb).more hb.size, kS := h.kS, kb := h.kb, nb := h.nb }
end

/-- what a call makes of a disk, and what it answers -/
def turned (a : Ac) (cc : Int) (D : Dsk) : Dsk :=
  if pk a.kd 11 = 0 then (dMake D (lst a.nm)).2 else if pk a.kd 11 = 1 then (dAppend D (lst a.nm) a.b).2 else if pk a.kd 11 = 2 then (dSync D (lst a.nm)).2
  else if pk a.kd 11 = 3 then (dRename D (lst a.nm) (lst a.to)).2 else if pk a.kd 11 = 4 then (dRemove D (lst a.nm)).2 else if pk a.kd 11 = 5 then (dFuse D a.n).2
  else if pk a.kd 11 = 6 then dFree D else if pk a.kd 11 = 7 then (dCrash D a.ks).2 else if pk a.kd 11 = 8 then (dTurn (xr cc) D (lst a.nm) a.n).2 else D
def bits1 (a : Ac) : Int := match a.b with | [] => 1 | z :: _ => z
def after (a : Ac) (D : Dsk) : Dsk := turned a (bits1 a) D

/-- the world in which an act's own turn begins: its box, its lent bytes -/
structure Begun (S : Nat → Prop) (w w7 : World) (a : Ac) (v7 : Value) : Prop where
  below : Below w.heap.size w w7
  box : Whole w7 w.heap.size 48 (acCells a)
  lent : w7.ownsRow (w.heap.size + 1) 5 1 v7 a.L (c8 a.b)
theorem Begun.made {w : World} {a : Ac} {v7 : Value} {w7 : World} (S : Nat → Prop)
    (hb : Below (w.heap.size + 1) ((w.alloc (.cells (acCells a) 48)).alloc (.cells #[] 5)) w7) (ho : w7.ownsRow (w.heap.size + 1) 5 1 v7 a.L (c8 a.b)) : Begun S w w7 a v7 :=
  { below := (((Below.refl _ w).alloc (Nat.le_refl _) _).alloc (by simp) _).trans (hb.mono (Nat.le_succ _))
    box := ((Whole.new w _ _).alloc _).below hb (Nat.lt_succ_self _)
    lent := ho }
theorem lent_own (w : World) (a : Ac) : ((w.alloc (.cells (acCells a) 48)).alloc (.cells #[] 5)).ownsRow (w.heap.size + 1) 5 1 (.slice (some ⟨w.heap.size + 1, 0, none⟩) 0 0) 0 [] := by
  have := World.ownsRow_made (base := w.heap.size + 1) (e := 5) (size := 1) (w.alloc (.cells (acCells a) 48)) #[] 0 (by simp) (by unfold maxLen; omega) rfl
  rwa [show (w.alloc (.cells (acCells a) 48)).heap.size = w.heap.size + 1 by simp] at this
/-- the cells of the box, in whatever has come about since -/
theorem Begun.cell {S : Nat → Prop} {w w7 W : World} {a : Ac} {v7 : Value} (h : Begun S w w7 a v7) (hS : ∀ k, S k → k < w.heap.size) (ho : Outs S w7 W) (i : Nat) : W.cell? ⟨w.heap.size, i, none⟩ = (acCells a)[i]? := by
  rw [ho.cell (p := ⟨w.heap.size, i, none⟩) h.box.lt (fun hk => Nat.lt_irrefl _ (hS _ hk))]
  exact h.box.cell i
end Go.Proofs.Ytnpomiidkdnebaa
