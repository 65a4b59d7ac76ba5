/- The walk over the law package's sameFrames: true where the frames are the same. -/
import Derived.Test.YtbmllljieoeihaaFScan
import Derived.Test.YtbmllljieoeihaaSame
namespace Go.Proofs.Ytbmllljieoeihaa
open Go.RowKit
set_option linter.unusedVariables false

/-- the frames of a list can be read, and their bodies -/
def Rdf (w : World) (lim : Nat) (A : Option Addr) (rs : List FR) : Prop := Rds w lim A (cF rs) ∧ ∀ r ∈ rs, Rds w lim r.A (c8 r.f.body)
theorem Rdf.drewN {w : World} {lim : Nat} {A : Option Addr} {rs : List FR} (h : Rdf w lim A rs) (n : Nat) : Rdf (w.drewN n) lim A rs := h
theorem Rdf.below {w w' : World} {lim : Nat} {A : Option Addr} {rs : List FR} (h : Rdf w lim A rs) (hb : Below lim w w') : Rdf w' lim A rs := ⟨h.1.below hb, fun r hr => (h.2 r hr).below hb⟩
theorem Rdf.more {w : World} {lim lim' : Nat} {A : Option Addr} {rs : List FR} (h : Rdf w lim A rs) (hl : lim ≤ lim') : Rdf w lim' A rs := ⟨h.1.more hl, fun r hr => (h.2 r hr).more hl⟩
theorem cF_take (rs : List FR) (k : Nat) : cF (rs.take k) = (cF rs).take (k * 2) := by
  induction rs generalizing k with
  | nil => simp [cF]
  | cons r rs ih =>
    cases k with
    | zero => simp [cF]
    | succ k =>
      have e : cF (r :: rs) = .int .u8 r.f.k :: r.v :: cF rs := rfl
      rw [List.take_succ_cons, show cF (r :: rs.take k) = .int .u8 r.f.k :: r.v :: cF (rs.take k) from rfl, ih, e, show (k + 1) * 2 = k * 2 + 1 + 1 by omega, List.take_succ_cons, List.take_succ_cons]
theorem Rdf.take {w : World} {lim : Nat} {A : Option Addr} {rs : List FR} (h : Rdf w lim A rs) (k : Nat) : Rdf w lim A (rs.take k) :=
  ⟨by rw [cF_take]; exact h.1.take _, fun r hr => h.2 r (List.mem_of_mem_take hr)⟩
theorem Rdf.ofOwn {w : World} {B B' n c : Nat} {A : Option Addr} {rs : List FR} (h : w.ownsRow B 28 2 (.slice A n c) n (cF rs)) (hb : Bds w B' rs) : Rdf w w.heap.size A rs := by
  refine ⟨?_, fun r hr => Rds.ofOwn (hb r hr)⟩
  intro hne
  rcases h.2 with ⟨hv, hn⟩ | ⟨g, cap, cur, hv, _, hh, _⟩
  · have := h.1
    rw [hn] at this
    exact absurd (List.eq_nil_of_length_eq_zero (by simpa using this)) hne
  · injection hv with hA
    subst hA
    exact ⟨_, rfl, (Array.getElem?_eq_some_iff.1 hh).1, h.cells (g := g) rfl⟩

/-- one frame's cells -/
theorem Rdf.at_ {w : World} {lim : Nat} {A : Option Addr} {rs : List FR} (h : Rdf w lim A rs) {i : Nat} (hi : i < rs.length) :
    ∃ ad, A = some ad ∧ ad.block < lim ∧ w.cell? (ad.add (i * 2)) = some (.int .u8 rs[i].f.k) ∧ w.cell? ⟨(ad.add (i * 2)).block, (ad.add (i * 2)).off + 1, none⟩ = some (.slice rs[i].A rs[i].f.body.length rs[i].c) := by
  obtain ⟨h0, h1⟩ := cF_get hi
  obtain ⟨ad, rfl, hl, hc0⟩ := h.1.at_ h0
  obtain ⟨ad', e, _, hc1⟩ := h.1.at_ h1
  obtain rfl := Option.some.inj e
  refine ⟨ad, rfl, hl, hc0, ?_⟩
  rw [← add_ne (by decide), add_twice]
  exact hc1

set_option maxHeartbeats 1600000 in
theorem sameFrames_yes (A A' : Option Addr) (rs rs' : List FR) (n m c c' lim : Nat) (w : World) (hn : rs.length = n) (hm : rs'.length = m) (hl : n ≤ 9223372036854775807) (he : rs.map FR.f = rs'.map FR.f) (hlen : ∀ r ∈ rs, r.f.body.length ≤ 9223372036854775807)
    (hr : Rdf w lim A rs) (hr' : Rdf w lim A' rs') :
    Calls Try.prog 19 #[.slice A n c, .slice A' m c'] w fun e w' => e = .returned (.bool true) ∧ ∃ k, w' = w.drewN k := by
  have hnm : m = n := by have := congrArg List.length he; simp only [List.length_map] at this; omega
  subst hnm
  have hlb : ((m : Int) != (m : Int)) = false := by simp
  go_enter Try.func19, Try.ntmps19
  go_wp2
  go_loopw [5] (fun i wr => ∃ k : Nat, k ≤ m ∧ i = .int .i64 k ∧ ∃ n, wr = w.drewN n) (fun i _ => m - (intOf i).toNat)
  case atStart => exact ⟨0, Nat.zero_le _, rfl, 0, rfl⟩
  case round =>
    obtain ⟨k, hk, rfl, n, rfl⟩ := hrel
    by_cases hlt : k < m
    · have h1 : k < rs.length := by omega
      have h2 : k < rs'.length := by omega
      obtain ⟨ad, rfl, _, hc0, hc1⟩ := hr.at_ h1
      obtain ⟨ad', rfl, _, hc0', hc1'⟩ := hr'.at_ h2
      have hf : rs[k].f = rs'[k].f := by
        have h := congrArg (fun l => l[k]?) he
        simpa [h1, h2] using h
      have hb := hr.2 _ (List.getElem_mem h1)
      have hb' := hr'.2 _ (List.getElem_mem h2)
      have hbl := hlen _ (List.getElem_mem h1)
      rw [← hf] at hc0' hc1' hb'
      generalize rs[k].f = f at *
      generalize rs[k].A = D at *
      generalize rs'[k].A = D' at *
      generalize rs[k].c = x at *
      generalize rs'[k].c = x' at *
      have hkk : (f.k != f.k) = false := by simp
      have hS : ∀ j, Calls Try.prog 15 #[.slice D f.body.length x, .slice D' f.body.length x'] (w.drewN (n + j)) fun e w' => e = .returned (.bool true) ∧ ∃ q, w' = w.drewN (n + q) := fun j =>
        (sameBytes_yes D D' f.body f.body f.body.length f.body.length x x' lim (w.drewN (n + j)) rfl rfl hbl rfl (hb.drewN _) (hb'.drewN _)).mono fun e w' ⟨h1, q, h2⟩ => ⟨h1, j + q, by rw [h2, World.drewN_drewN, Nat.add_assoc]⟩
      clear hf
      go_wp2
      go_quiet (first | with_reducible exact hS _)
      go_wp2
      go_roundw
      case rel => exact ⟨k + 1, by omega, by go_num, _, rfl⟩
      case measure => simp [intOf]; omega
    · go_wp2
      go_ret
      exact ⟨rfl, n, rfl⟩

end Go.Proofs.Ytbmllljieoeihaa
