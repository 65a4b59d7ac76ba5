/- The walk over the examples that every statement of the layer asks first. -/
import Derived.Test.YtbmllljieoeihaaFApp
import Derived.Test.YtbmllljieoeihaaCPick
namespace Go.Proofs.Ytbmllljieoeihaa
open Go.RowKit
set_option linter.unusedVariables false

theorem fread_len (A : Option Addr) (zs : List Int) (n c : Nat) (w : World) (hn : zs.length = n) (hl : n ≤ 140737492549632) (hc : n ≤ c) (hz : Byt zs) (hr : Rds w w.heap.size A (c8 zs))
    {M E : Nat} {f : Fr} (hM : mea zs = (M, E)) (hf : frd zs = f) :
    Calls Try.prog 11 #[.slice A n c] w fun e w' => ∃ A' c', e = .returned (.tuple #[.agg #[.int .u8 f.k, .slice A' f.body.length c'], .int .i64 (M : Nat), .int .i64 (E : Nat)]) ∧
      w'.ownsRow w.heap.size 5 1 (.slice A' f.body.length c') f.body.length (c8 f.body) ∧ Below w.heap.size w w' := by
  subst hn
  have h := fread_any A zs c w hl hc hz hr
  rw [hM, hf] at h
  exact h

theorem fread_at (A : Option Addr) (zs : List Int) (n c : Nat) (w : World) (hn : zs.length = n) (hl : n ≤ 140737492549632) (hc : n ≤ c) (hz : Byt zs) (hr : Rds w w.heap.size A (c8 zs)) :
    Calls Try.prog 11 #[.slice A n c] w fun e w' => ∃ A' c', e = .returned (.tuple #[.agg #[.int .u8 (frd zs).k, .slice A' (frd zs).body.length c'], .int .i64 ((mea zs).1 : Nat), .int .i64 ((mea zs).2 : Nat)]) ∧
      w'.ownsRow w.heap.size 5 1 (.slice A' (frd zs).body.length c') (frd zs).body.length (c8 (frd zs).body) ∧ Below w.heap.size w w' := by
  subst hn
  exact fread_any A zs c w hl hc hz hr

theorem frd_fby (f : Fr) (hf : Fok f) (more : List Int) : frd (fby f ++ more) = f := by
  unfold frd
  rw [mea_fby f hf more]
  exact fra_fby f hf more
theorem frd_bad {b : List Int} {M E : Nat} (h : mea b = (M, E)) (hE : E ≠ 0) : frd b = ⟨0, []⟩ := by
  unfold frd
  rw [h]
  exact if_neg hE

def f1 : Fr := ⟨1, []⟩
theorem f1_ok : Fok f1 := ⟨by decide, (fun z hz => by cases hz), by decide⟩
theorem f1_fby : fby f1 = [1, 0, 0, 0, 121, 184, 248, 153, 121, 184, 248, 153] := by decide +kernel

set_option maxHeartbeats 800000 in
theorem flives_any (w : World) : Calls Try.prog 9 #[] w fun e w' => e = .returned (.bool true) ∧ Below w.heap.size w w' := by
  go_enter Try.func9, Try.ntmps9
  go_wp2_with fail
  refine (fapp_any none none [] [] 0 0 0 1 w rfl (by simp) (by omega) (by decide) (fun z hz => by cases hz) (fun z hz => by cases hz) Rds.nil_ Rds.nil_).mono ?_
  rintro e w1 ⟨g, rfl, hw1, hg1, hb1⟩
  rw [show ([] : List Int) ++ fby ⟨1, []⟩ = fby f1 from rfl] at hw1
  have hr1 := hw1.reads
  clear hw1
  go_wp2_with fail
  refine (fread_len (some ⟨g, 0, none⟩) (fby f1) 12 12 w1 (by rw [fby_length]; rfl) (by omega) (by omega) (fby_byt f1_ok) hr1 (show mea (fby f1) = (12, 0) by have h := mea_fby f1 f1_ok []; rw [List.append_nil] at h; exact h) (by simpa using frd_fby f1 f1_ok [])).mono ?_
  rintro e w2 ⟨A2, c2, rfl, _, hb2⟩
  have hb := belowGo hb1 (Nat.le_refl _) hb2
  simp only [show f1.body.length = 0 from rfl, show f1.k = 1 from rfl]
  go_wp2
  go_ret
  exact ⟨rfl, hb.alloc hb.size _⟩

end Go.Proofs.Ytbmllljieoeihaa
