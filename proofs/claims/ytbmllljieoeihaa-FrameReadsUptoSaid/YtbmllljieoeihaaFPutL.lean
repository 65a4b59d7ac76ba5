/- The walk over the law package's put: frames' bytes, one behind the other. -/
import Derived.Test.YtbmllljieoeihaaFSame
namespace Go.Proofs.Ytbmllljieoeihaa
open Go.RowKit
set_option linter.unusedVariables false

theorem fbs_append (a b : List Fr) : fbs (a ++ b) = fbs a ++ fbs b := by simp [fbs]
theorem fbs_snoc (a : List Fr) (f : Fr) : fbs (a ++ [f]) = fbs a ++ fby f := by simp [fbs]
theorem fbs_byt : ∀ {fs : List Fr}, (∀ f ∈ fs, Fok f) → Byt (fbs fs)
  | [], _ => fun z hz => by simp [fbs] at hz
  | f :: r, h => by
    have e : fbs (f :: r) = fby f ++ fbs r := by simp [fbs]
    rw [e]
    exact (fby_byt (h f (List.mem_cons_self ..))).append (fbs_byt fun g hg => h g (List.mem_cons_of_mem _ hg))
theorem fbs_length : ∀ {fs : List Fr}, (∀ f ∈ fs, f.body.length ≤ 2000) → (fbs fs).length ≤ fs.length * 2012
  | [], _ => by simp [fbs]
  | f :: r, h => by
    have e : fbs (f :: r) = fby f ++ fbs r := by simp [fbs]
    have h1 := h f (List.mem_cons_self ..)
    have ih := fbs_length (fs := r) fun g hg => h g (List.mem_cons_of_mem _ hg)
    rw [e, List.length_append, fby_length, List.length_cons]
    omega

/-- frames that the statements go through: few, and none long -/
def Few (rs : List FR) : Prop := rs.length ≤ 40 ∧ ∀ r ∈ rs, Fok r.f ∧ r.f.body.length ≤ 2000

set_option maxHeartbeats 1600000 in
theorem put_any' (A : Option Addr) (rs : List FR) (n c : Nat) (w : World) (hn : rs.length = n) (hf : Few rs) (hr : Rdf w w.heap.size A rs) :
    Calls Try.prog 23 #[.slice A n c] w fun e w' => ∃ D k, e = .returned (.tuple #[.slice D (fbs (rs.map FR.f)).length k, .bool true]) ∧ (fbs (rs.map FR.f)).length ≤ k ∧ Rds w' w'.heap.size D (c8 (fbs (rs.map FR.f))) ∧ Below w.heap.size w w' := by
  subst hn
  have hlen := hf.1
  go_enter Try.func23, Try.ntmps23
  go_wp2
  go_loopw [4, 5] (fun b i wr => ∃ (j : Nat) (D : Option Addr) (k : Nat), j ≤ rs.length ∧ i = .int .i64 j ∧ b = .slice D (fbs ((rs.take j).map FR.f)).length k ∧ (fbs ((rs.take j).map FR.f)).length ≤ k ∧ Rds wr wr.heap.size D (c8 (fbs ((rs.take j).map FR.f))) ∧ Below w.heap.size w wr) (fun _ i _ => rs.length - (intOf i).toNat)
  case atStart => exact ⟨0, none, 0, by omega, rfl, by simp [fbs], by simp [fbs], by rw [List.take_zero]; exact Rds.nil_, Below.refl _ _⟩
  case round =>
    obtain ⟨j, D, k, hj, rfl, rfl, hk, hd, hb⟩ := hrel
    by_cases hlt : j < rs.length
    · have hr1 : Rdf wr wr.heap.size A rs := (hr.below hb).more hb.size
      obtain ⟨ad, rfl, _, hc0, hc1⟩ := hr1.at_ hlt
      have hok := hf.2 _ (List.getElem_mem hlt)
      have hbd := hr1.2 _ (List.getElem_mem hlt)
      have hok' : ∀ f ∈ (rs.take j).map FR.f, Fok f := fun f h => by
        obtain ⟨r, hr, rfl⟩ := List.mem_map.1 h
        exact (hf.2 r (List.mem_of_mem_take hr)).1
      have hsh : (fbs ((rs.take j).map FR.f)).length ≤ 40 * 2012 := Nat.le_trans (fbs_length fun f h => by
        obtain ⟨r, hr, rfl⟩ := List.mem_map.1 h
        exact (hf.2 r (List.mem_of_mem_take hr)).2) (Nat.mul_le_mul_right _ (by simp; omega))
      have hbz := fbs_byt hok'
      have hnx : fbs ((rs.take (j + 1)).map FR.f) = fbs ((rs.take j).map FR.f) ++ fby rs[j].f := by
        rw [List.take_add_one, List.getElem?_eq_getElem hlt, Option.toList_some, List.map_append]
        exact fbs_snoc _ _
      have HNX := Lib.hid hnx
      generalize rs[j].f = f at *
      generalize rs[j].A = E at *
      generalize rs[j].c = x at *
      generalize fbs ((rs.take j).map FR.f) = zs at *
      have hA := fapp_any D E zs f.body k x f.body.length f.k wr rfl (by omega) (by omega) hok.1.1 hbz hok.1.2.1 hd hbd
      clear hnx
      go_wp2_with fail
      refine hA.mono ?_
      rintro e w2 ⟨g, rfl, hw2, hg2, hb2⟩
      go_wp2
      go_roundw
      case rel =>
        have hl2 : (zs ++ fby f).length = zs.length + (f.body.length + 12) := by rw [List.length_append, fby_length]
        refine ⟨j + 1, some ⟨g, 0, none⟩, zs.length + (f.body.length + 12), by omega, by go_num, by rw [HNX.out, hl2], by rw [HNX.out, hl2]; exact Nat.le_refl _, by rw [HNX.out]; exact hw2.reads, belowGo hb (Nat.le_refl _) hb2⟩
      case measure => simp [intOf]; omega
    · obtain rfl : j = rs.length := by omega
      rw [List.take_length] at hk hd
      have hd' := hd
      go_wp2
      go_returns
      exact ⟨D, k, by simp, hk, hd', hb⟩

end Go.Proofs.Ytbmllljieoeihaa
