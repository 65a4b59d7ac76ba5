/- The names of a watch, rising. -/
import Derived.Test.YtconfkjchjcjgaaKSameT
import Derived.Sort.KeysCollected
namespace Go.Proofs.Ytconfkjchjcjgaa
open Go.RowKit Go.Maps Go.WideMaps
set_option linter.unusedVariables false

/-- the names of a list, rising -/
def nmsOf (L : List It) : List Nm := (L.map fun x => lst x.nm).mergeSort leB
theorem nmsOf_length (L : List It) : (nmsOf L).length = L.length := by unfold nmsOf; rw [List.length_mergeSort, List.length_map]
section
variable {w w' : World} {S T : Nat → Prop} {b mb nn : Nat} {M : DataW Unit} {v : Value} {now : Int} {f : Nat → En} {n q : Nat} {L : List It}
theorem names_perm (h : WtAt w S b mb nn M v now f n L) : (L.map fun x => lst x.nm).Perm (strKeys M) := by
  have hc : Collected M (fun _ => false) (L.map fun x => lst x.nm) := by
    refine ⟨?_, fun x => ?_⟩
    · have hn := h.nod
      unfold Nod at hn
      exact List.pairwise_map.2 (hn.imp fun e q => e (lst_inj q))
    · rw [and_iff_left rfl]
      constructor
      · intro hx
        obtain ⟨y, hy, rfl⟩ := List.mem_map.1 hx
        obtain ⟨k, hk, e⟩ := h.like.of y hy
        have hnm : y.nm = (f k).nm := by rw [← e]; rfl
        rw [hnm]
        exact has_true_of_atKey (h.keys.at_ k hk)
      · intro hx
        by_cases e : ∃ k, k < n ∧ lst (f k).nm = x
        · obtain ⟨k, hk, rfl⟩ := e
          exact List.mem_map.2 ⟨_, h.like.to k hk, rfl⟩
        · have : has M (.string x) = false := has_false_of_atKey fun z => h.keys.no x z fun k hk q => e ⟨k, hk, q⟩
          rw [this] at hx
          cases hx
  exact hc.perm h.map lawS Try.underlying9 (fun _ => rfl)

set_option maxHeartbeats 1000000 in
theorem namesW_any (h : Wt w S b now L q) (hq : q ≤ 1000000) :
    Calls Try.prog 29 #[.pointer (some ⟨b, 0, none⟩)] w fun e w' => ∃ v, e = .returned v ∧ w'.ownsRow w.heap.size 9 1 v (nmsOf L).length (cS (nmsOf L)) ∧ Below w.heap.size w w' := by
  obtain ⟨mb, nn, M, v, f, n, h, h1, h2, h3⟩ := h
  have c3 := h.c3
  have cn := Lib.hid (nobodys_any b w h.c0)
  have hz := h.map.size_le
  have hk := callsIn_wide.1 (Try.maps_Keys_43 (some mb) w)
  have hso := callsIn_wide.1 (Try.slices_Sorted_keys_42_43 mb nn M ptrR w h.map (by unfold maxLen; omega) (by omega))
  have HPM := Lib.hid (names_perm h)
  have HK := Lib.hid hk
  have HSO := Lib.hid hso
  clear h hk hso
  go_enter Try.func29, Try.ntmps29
  go_wp2_with (go_at_call 37; refine cn.out.mono ?_; rintro e w' ⟨rfl, rfl⟩)
  refine HK.out.mono ?_
  rintro e w1 ⟨rfl, rfl⟩
  go_wp2_with fail
  refine HSO.out.mono ?_
  rintro e w2 ⟨v, ss, rfl, hp, ho, _, hb⟩
  have hm : ss.mergeSort (fun x y => decide (x ≤ y)) = nmsOf L := mergeSort_of_perm (hp.trans HPM.out.symm)
  have hl : ss.length = (nmsOf L).length := by rw [← hm, List.length_mergeSort]
  rw [hm, hl] at ho
  have hb2 : Below w.heap.size w w2 := ((Below.refl _ w).alloc (Nat.le_refl _) _).trans (hb.mono (by simp))
  have HO := Lib.hid (ownRow_base ho (B' := w.heap.size) (fun g hg => by have := (ownRow_block ho hg).1; simp at this; omega))
  have HB := Lib.hid hb2
  clear ho hb hb2 hm hl hp
  go_wp2
  go_ret
  exact ⟨v, rfl, HO.out, HB.out⟩
end
end Go.Proofs.Ytconfkjchjcjgaa
