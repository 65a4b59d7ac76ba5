/- The numbers in flight, rising; what was sent; is a letter for a node? -/
import Derived.Test.YtkoalpbognpphaaNLose
import Derived.Test.YtkoalpbognpphaaNApp
namespace Go.Proofs.Ytkoalpbognpphaa
open Go.RowKit Go.Maps
set_option linter.unusedVariables false

def nums (es : List (Le × Pl)) : List Int := es.map (·.1.num)
theorem ents_nums (es : List (Le × Pl)) : (ents es).map (·.1) = nums es := by unfold ents nums; rw [List.map_map]; rfl

set_option maxRecDepth 100000 in
theorem rising_any {w : World} {S : Nat → Prop} {b mb : Nat} {es : List (Le × Pl)} {sent : Nat} (h : Nt w S b mb es sent) :
    Calls Try.prog 42 #[.pointer (some ⟨b, 0, none⟩)] w fun e w' => ∃ v, e = .returned v ∧ w'.ownsRow w.heap.size 25 1 v es.length (cU (nums es)) ∧ Below w.heap.size w w' := by
  have hc2 : w.cell? ⟨b, 2, none⟩ = some (.map (some mb)) := by simpa using h.blk.cell 2
  have hB : Below w.heap.size w (w.alloc (.cells #[.map (some mb)] 55)) := (Below.refl _ _).alloc (Nat.le_refl _) _
  have hn1 := h.go hB
  have hlen : (ents es).length = es.length := by simp [ents]
  have ct := sorted_any w.heap.size mb sent (ents es) hn1.ris (by have := h.ok.most; simp at this; simp [ents]; omega) (w.alloc (.cells #[.map (some mb)] 55)) (by simp) ((Whole.new w 55 #[.map (some mb)]).cell 0) hn1.map
  rw [hlen, ents_nums] at ct
  have CT := Lib.hid ct
  have HB := Lib.hid hB
  clear h hn1 ct hB hlen
  go_enter Try.func42, Try.ntmps42
  go_wp2_with fail
  go_at_call 46
  refine (keys_any _ _).mono ?_
  rintro e w1 ⟨rfl, hw⟩
  rw [hw]
  clear hw
  go_wp2_with fail
  go_at_call 45
  refine CT.out.mono ?_
  rintro e w2 ⟨v, rfl, hrow, hb2⟩
  have HROW := Lib.hid hrow
  have HB2 := Lib.hid hb2
  clear hrow hb2
  go_wp2
  go_ret
  have hsz : (w.alloc (.cells #[.map (some mb)] 55)).heap.size = w.heap.size + 1 := by simp
  exact ⟨v, rfl, ownRow_base HROW.out (fun g hg => by have := (HROW.out.lt g hg).1; omega), HB.out.trans (HB2.out.mono (by omega))⟩
theorem sent_any {w : World} {S : Nat → Prop} {b mb : Nat} {es : List (Le × Pl)} {sent : Nat} (h : Nt w S b mb es sent) :
    Calls Try.prog 25 #[.pointer (some ⟨b, 0, none⟩)] w fun e w' => e = .returned (.int .u64 sent) ∧ w' = w := by
  have hc1 : w.cell? ⟨b, 1, none⟩ = some (.int .u64 sent) := by simpa using h.blk.cell 1
  have H := Lib.hid h
  clear h
  go_enter Try.func25, Try.ntmps25
  go_wp2_with fail
  go_at_call 31
  refine (nobodys_any H.out).mono ?_
  rintro e w1 ⟨rfl, hw⟩
  rw [hw]
  clear hw
  go_wp2
  go_ret
  exact ⟨rfl, rfl⟩
set_option maxRecDepth 100000 in
theorem has_any (w : World) (node : Int) (x : Le) (k : Pl) :
    Calls Try.prog 38 #[.int .i64 node, val x k] w fun e w' => e = .returned (.bool (decide (x.to_ = node))) ∧ Below w.heap.size w w' := by
  simp only [val]
  have hb : Below w.heap.size w (w.alloc (.cells #[.int .u64 x.num, .int .u64 x.first, .int .i64 x.frm, .int .i64 x.to_, .slice k.1 x.body.length k.2] 32)) := (Below.refl _ _).alloc (Nat.le_refl _) _
  have HB := Lib.hid hb
  clear hb
  go_enter Try.func38, Try.ntmps38
  go_wp2
  go_ret
  exact ⟨rfl, HB.out⟩
end Go.Proofs.Ytkoalpbognpphaa
