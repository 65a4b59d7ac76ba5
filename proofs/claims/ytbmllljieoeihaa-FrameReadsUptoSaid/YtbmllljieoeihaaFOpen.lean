/- An argument that is a list of frames: what is known of it. -/
import Derived.Test.YtbmllljieoeihaaFSame
import Derived.Test.YtbmllljieoeihaaEnd
namespace Go.Proofs.Ytbmllljieoeihaa
open Go.RowKit Go.ChangeShapes Go.WideShapes Go.ChangeAt
set_option linter.unusedVariables false

theorem cells28 : Try.prog.cellsOf 28 = 2 := by kernel_rfl
theorem cells23 : Try.prog.cellsOf 23 = 1 := by kernel_rfl

section
variable {H : Type} {enc : TypeId × Value → H}

theorem bytes_read {W : World} {fuel : Nat} {u : Value} {y : DataW H × List MemPlace} (h : DataW.trod enc Try.prog W 0 (fun _ => true) true fuel 23 [u] = some y) :
    ∃ A zs c, u = .slice A zs.length c ∧ Byt zs ∧ Rds W W.heap.size A (c8 zs) := by
  rcases open_ints Try.underlying23 Try.underlying5 cells8 h with ⟨h1, h2⟩ | ⟨a, len', cap', zs, h1, _, hle, hmax, hlen, h2, hcell, hwf⟩
  · obtain rfl : u = .slice none 0 0 := by simpa using h1
    exact ⟨none, [], 0, rfl, (fun z hz => by cases hz), Rds.none_⟩
  · obtain rfl : u = .slice (some a) len' cap' := by simpa using h1
    simp only [if_true] at hlen
    have hl : (zs.take len').length = len' := by rw [List.length_take]; omega
    refine ⟨some a, zs.take len', cap', by rw [hl], (fun z hz => bounds_u8 (hwf z (List.mem_of_mem_take hz))), ?_⟩
    intro hne
    have hcells : ∀ j u, (c8 (zs.take len'))[j]? = some u → W.cell? (a.add j) = some u := by
      intro j u hu
      have hj : j < (zs.take len').length := by
        have := (List.getElem?_eq_some_iff.1 hu).1
        simpa [c8] using this
      rw [c8_get hj] at hu
      have hu' := Option.some.inj hu
      subst hu'
      rw [hcell j (by omega)]
      simp [List.getD, show j < zs.length by omega]
    refine ⟨a, rfl, ?_, hcells⟩
    have hpos : 0 < (zs.take len').length := by
      rcases Nat.eq_zero_or_pos (zs.take len').length with h0 | h0
      · exact absurd (by rw [List.eq_nil_of_length_eq_zero h0]; rfl) hne
      · exact h0
    have := World.block_lt_of_cell? W _ (hcells 0 _ (c8_get hpos))
    rwa [blk_add] at this

/-- an argument that is a list of frames: what is known of it -/
structure FramesArg (W : World) (v : Value) (A : Option Addr) (rs : List FR) (c : Nat) : Prop where
  val : v = .slice A rs.length c
  cap : rs.length ≤ c
  kinds : ∀ r ∈ rs, (0 ≤ r.f.k ∧ r.f.k ≤ 255) ∧ Byt r.f.body
  rds : Rdf W W.heap.size A rs

theorem frame_read {W : World} {fuel : Nat} {a : Addr} {y : DataW H × List MemPlace} (h : (W.cells? 0 a 2).bind (DataW.trod enc Try.prog W 0 (fun _ => true) true fuel 28) = some y) :
    ∃ r : FR, W.cell? a = some (.int .u8 r.f.k) ∧ W.cell? (a.add 1) = some r.v ∧ (0 ≤ r.f.k ∧ r.f.k ≤ 255) ∧ Byt r.f.body ∧ Rds W W.heap.size r.A (c8 r.f.body) := by
  obtain ⟨cs, hcs, hy⟩ := Option.bind_eq_some_iff.1 h
  obtain ⟨y0, y1, n, _, hl, h0, h1⟩ := trod_struct2 Try.underlying28 hy
  obtain ⟨_, hlen, hc⟩ := World.cells?_some hcs
  rw [cells8] at h0
  rw [cells23] at h1
  match cs, hlen with
  | [u0, u1], _ =>
    obtain ⟨k, hk, _, hw⟩ := DataW.trod_int Try.underlying5 h0
    obtain ⟨D, zs, x, hu, hz, hr⟩ := bytes_read (u := u1) h1
    have hk' : u0 = .int .u8 k := by simpa using hk
    refine ⟨⟨⟨k, zs⟩, D, x⟩, ?_, ?_, bounds_u8 hw, hz, hr⟩
    · rw [← hk']; exact hc 0 (by omega)
    · rw [show FR.v ⟨⟨k, zs⟩, D, x⟩ = u1 from hu.symm]; exact hc 1 (by omega)

theorem cF_at {rs : List FR} {j : Nat} {u : Value} (h : (cF rs)[j]? = some u) : ∃ i, ∃ hi : i < rs.length, (j = i * 2 ∧ u = .int .u8 rs[i].f.k) ∨ (j = i * 2 + 1 ∧ u = rs[i].v) := by
  have hj : j < rs.length * 2 := by rw [← cF_length]; exact (List.getElem?_eq_some_iff.1 h).1
  have hi : j / 2 < rs.length := by omega
  obtain ⟨h0, h1⟩ := cF_get hi
  refine ⟨j / 2, hi, ?_⟩
  rcases Nat.mod_two_eq_zero_or_one j with hm | hm
  · have e : j / 2 * 2 = j := by omega
    rw [e, h] at h0
    exact .inl ⟨e.symm, Option.some.inj h0⟩
  · have e : j / 2 * 2 + 1 = j := by omega
    rw [e, h] at h1
    exact .inr ⟨e.symm, Option.some.inj h1⟩

theorem open_frames {W : World} {v : Value} {d : DataW H} {ps : List MemPlace} {base : Nat} (hval : Value.okWide Try.prog W .any base 31 v) (h : DataW.Trod enc Try.prog W 0 (fun _ => true) true 31 v d ps) : ∃ A rs c, FramesArg W v A rs c := by
  obtain ⟨a0, len, cap, rfl⟩ := okWide_slice Try.underlying31 hval
  obtain ⟨fuel, hf⟩ := h
  rcases DataW.trod_slice Try.underlying31 hf with ⟨h1, _⟩ | ⟨a, len', cap', elems, rest, n, _, h1, _, _, hle, hmax, hlen, hel, _⟩
  · have h1' : Value.slice a0 len cap = .slice none 0 0 := by simpa [Value.cells] using h1
    injection h1' with e1 e2 e3
    subst e1 e2 e3
    exact ⟨none, [], 0, rfl, Nat.le_refl _, (fun r hr => by cases hr), Rds.nil_, (fun r hr => by cases hr)⟩
  · have h1' : Value.slice a0 len cap = .slice (some a) len' cap' := by simpa [Value.cells] using h1
    injection h1' with e1 e2 e3
    subst e1 e2 e3
    rw [cells28] at hel
    have each : ∀ i, ∃ r : FR, i < len → W.cell? (a.add (i * 2)) = some (.int .u8 r.f.k) ∧ W.cell? ((a.add (i * 2)).add 1) = some r.v ∧ (0 ≤ r.f.k ∧ r.f.k ≤ 255) ∧ Byt r.f.body ∧ Rds W W.heap.size r.A (c8 r.f.body) := by
      intro i
      by_cases hi : i < len
      · have he := hel i hi
        rw [List.getElem?_eq_getElem (by omega)] at he
        obtain ⟨r, hr⟩ := frame_read he
        exact ⟨r, fun _ => hr⟩
      · exact ⟨⟨⟨0, []⟩, none, 0⟩, fun h => absurd h hi⟩
    obtain ⟨fr, hfr⟩ := Classical.axiomOfChoice each
    have hrl : ((List.range len).map fr).length = len := by simp
    have hget : ∀ i (hi : i < ((List.range len).map fr).length), ((List.range len).map fr)[i] = fr i := fun i hi => by simp
    refine ⟨some a, (List.range len).map fr, cap, by rw [hrl], by rw [hrl]; exact hle, ?_, ?_, ?_⟩
    · intro r hr
      obtain ⟨i, hi, rfl⟩ := List.mem_map.1 hr
      obtain ⟨_, _, h3, h4, _⟩ := hfr i (List.mem_range.1 hi)
      exact ⟨h3, h4⟩
    · intro hne
      have hcells : ∀ j u, (cF ((List.range len).map fr))[j]? = some u → W.cell? (a.add j) = some u := by
        intro j u hu
        obtain ⟨i, hi, hc⟩ := cF_at hu
        obtain ⟨h0, h1, _⟩ := hfr i (by rw [hrl] at hi; exact hi)
        rcases hc with ⟨rfl, rfl⟩ | ⟨rfl, rfl⟩
        · rw [hget i hi]; exact h0
        · rw [hget i hi, ← add_twice]; exact h1
      have hpos : 0 < ((List.range len).map fr).length := by
        rcases Nat.eq_zero_or_pos ((List.range len).map fr).length with h0 | h0
        · exact absurd (by rw [List.eq_nil_of_length_eq_zero h0]; rfl) hne
        · exact h0
      refine ⟨a, rfl, ?_, hcells⟩
      have := World.block_lt_of_cell? W _ (hcells _ _ (cF_get hpos).1)
      rwa [blk_add] at this
    · intro r hr
      obtain ⟨i, hi, rfl⟩ := List.mem_map.1 hr
      exact (hfr i (List.mem_range.1 hi)).2.2.2.2
end

end Go.Proofs.Ytbmllljieoeihaa
