/- The predicate that To hands to slices.DeleteFunc. -/
import Derived.Test.YtkoalpbognpphaaNRise
namespace Go.Proofs.Ytkoalpbognpphaa
open Go.RowKit Go.Maps
set_option linter.unusedVariables false

/-- the node that a number's letter goes to -/
def toOf (es : List (Le × Pl)) (x : Int) : Int := match pick es x with | some p => p.1.to_ | none => 0
/-- what DeleteFunc is handed, in memory -/
structure Pd (W : World) (S : Nat → Prop) (b mb : Nat) (es : List (Le × Pl)) (sent : Nat) (ba bn : Nat) (node : Int) : Prop where
  net : Nt W S b mb es sent
  ask : Whole W ba 66 #[.func (.func 38) #[.int .i64 node] #[]]
  box : Whole W bn 23 #[.pointer (some ⟨b, 0, none⟩)]
theorem Pd.outs {w w' : World} {S T : Nat → Prop} {b mb : Nat} {es : List (Le × Pl)} {sent : Nat} {ba bn : Nat} {node : Int} (h : Pd w S b mb es sent ba bn node) (ho : Outs T w w') (hn : ∀ i, S i → ¬ T i) (h1 : ¬ T ba) (h2 : ¬ T bn) : Pd w' S b mb es sent ba bn node :=
  ⟨h.net.outs ho hn, h.ask.outs ho h1, h.box.outs ho h2⟩
theorem Pd.go {w w' : World} {S : Nat → Prop} {b mb : Nat} {es : List (Le × Pl)} {sent : Nat} {ba bn : Nat} {node : Int} (h : Pd w S b mb es sent ba bn node) (hb : Below w.heap.size w w') : Pd w' S b mb es sent ba bn node :=
  h.outs (T := fun _ => False) (Outs.of hb) (fun _ _ e => e) (fun e => e) (fun e => e)

theorem look_run {w : World} {S : Nat → Prop} {b mb : Nat} {es : List (Le × Pl)} {sent : Nat} (h : Nt w S b mb es sent) (x : Int) (hx : 0 ≤ x ∧ x ≤ 18446744073709551615) :
    (Instr.lookup 55 (.map (some mb)) (.int .u64 x) false).run Try.prog w = .ok (hitV es x) w := by
  obtain ⟨v, ps, hrun, hv⟩ := h.map.lookup keyed64 Try.underlying55 (zero_letter w) (zd := .held zeroL) (zp := []) rfl (key_u64 hx)
  rw [hrun, look_at hv]

set_option maxHeartbeats 2000000 in
set_option maxRecDepth 100000 in
theorem pred_any {w : World} {S : Nat → Prop} {b mb : Nat} {es : List (Le × Pl)} {sent : Nat} {ba bn : Nat} {node : Int} (h : Pd w S b mb es sent ba bn node) (x : Int) (hx : 0 ≤ x ∧ x ≤ 18446744073709551615) {p : Le × Pl} (hp : pick es x = some p) :
    Calls Try.prog 44 #[.int .u64 x, .pointer (some ⟨ba, 0, none⟩), .pointer (some ⟨bn, 0, none⟩)] w fun e w' => e = .returned (.bool (!decide (toOf es x = node))) ∧ Below w.heap.size w w' := by
  obtain ⟨hV, hE, hmem, -⟩ := hit_some hp
  have hT : toOf es x = p.1.to_ := by unfold toOf; rw [hp]
  have c1 : w.cell? ⟨ba, 0, none⟩ = some (.func (.func 38) #[.int .i64 node] #[]) := by simpa using h.ask.cell 0
  have c2 : w.cell? ⟨bn, 0, none⟩ = some (.pointer (some ⟨b, 0, none⟩)) := by simpa using h.box.cell 0
  have c3 : w.cell? ⟨b, 2, none⟩ = some (.map (some mb)) := by simpa using h.net.blk.cell 2
  have hl := fun n => look_run (h.net.drewN n) x hx
  rw [hV] at hl
  simp only [val] at hl
  have hh := has_any w.drew node p.1 p.2
  simp only [val] at hh
  have HH := Lib.hid hh
  clear h hh
  go_enter Try.func44, Try.ntmps44
  go_wp2
  have hl2 : (Instr.lookup 55 (.map (some mb)) (.int .u64 x) false).run Try.prog w.drew = .ok (.agg #[.int .u64 p.1.num, .int .u64 p.1.first, .int .i64 p.1.frm, .int .i64 p.1.to_, .slice p.2.1 p.1.body.length p.2.2]) w.drew := hl 1
  clear hl
  go_still_tail 7, (by kernel_rfl)
  change wpList _ _ _ _ _ w.drew
  clear hl2
  go_wp2_with fail
  go_at_call 38
  refine HH.out.mono ?_
  rintro e w1 ⟨rfl, hb⟩
  have HB := Lib.hid hb
  clear hb
  go_wp2
  go_ret
  rw [hT]
  exact ⟨rfl, (show Below w.heap.size w w.drew from bDrewN (Below.refl _ _) 1).trans HB.out⟩
end Go.Proofs.Ytkoalpbognpphaa
