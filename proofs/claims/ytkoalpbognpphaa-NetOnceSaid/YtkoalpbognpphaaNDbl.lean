/- Doubling a letter. -/
import Derived.Test.YtkoalpbognpphaaNLose
namespace Go.Proofs.Ytkoalpbognpphaa
open Go.RowKit Go.Maps
set_option linter.unusedVariables false

set_option maxHeartbeats 4000000 in
set_option maxRecDepth 100000 in
theorem double_any {w : World} {S : Nat → Prop} {b mb : Nat} {es : List (Le × Pl)} {sent : Nat} (h : Nt w S b mb es sent) (x : Int) (hx : 0 ≤ x ∧ x ≤ 18446744073709551615) {p : Le × Pl} (hp : pick es x = some p) (hs : sent < 4000) (hm : es.length < 4000) :
    Calls Try.prog 10 #[.pointer (some ⟨b, 0, none⟩), .int .u64 x] w fun e w' => e = .returned (.tuple #[.int .u64 (sent + 1 : Nat), .int .i64 0]) ∧ Nt w' S b mb (es ++ [({ p.1 with num := (sent + 1 : Nat) }, p.2)]) (sent + 1) ∧ Outs (fun i => i = b ∨ i = mb) w w' := by
  obtain ⟨hV, hE, hmem, -⟩ := hit_some hp
  have ct := find_any h x hx
  rw [hV, hE] at ct
  simp only [val] at ct
  have CT := Lib.hid ct
  have H := Lib.hid h
  clear ct h
  go_enter Try.func10, Try.ntmps10
  go_wp2_with fail
  go_at_call 35
  refine CT.out.mono ?_
  rintro e w1 ⟨rfl, hb⟩
  have HB := Lib.hid hb
  clear hb
  go_upto_region 4 with fail
  have hb2 := HB.out.alloc HB.out.size (.cells #[.int .u64 p.1.num, .int .u64 p.1.first, .int .i64 p.1.frm, .int .i64 p.1.to_, .slice p.2.1 p.1.body.length p.2.2] 32)
  have hw2 := Whole.new w1 32 #[.int .u64 p.1.num, .int .u64 p.1.first, .int .i64 p.1.frm, .int .i64 p.1.to_, .slice p.2.1 p.1.body.length p.2.2]
  generalize w1.alloc (.cells #[.int .u64 p.1.num, .int .u64 p.1.first, .int .i64 p.1.frm, .int .i64 p.1.to_, .slice p.2.1 p.1.body.length p.2.2] 32) = w2 at hb2 hw2 ⊢
  obtain ⟨c0, c1, c2, c3, c4⟩ := cells5 hw2
  have hn2 := H.out.go hb2
  have hmm : p.1 ∈ es.map (·.1) := List.mem_map_of_mem hmem
  have hf := hn2.ok.first p.1 hmm
  have hnm := hn2.ok.num p.1 hmm
  have ct := put_any (T := S) hn2 p.1 { p.1 with num := (sent + 1 : Nat) } p.2 rfl ⟨hf.1, by show p.1.first ≤ ((sent + 1 : Nat) : Int); omega⟩ (hn2.ok.frm p.1 hmm) (hn2.ok.to_ p.1 hmm) (hn2.ok.len p.1 hmm) hs hm (hn2.bd p hmem) hn2.lt
  simp only [val] at ct
  have CT2 := Lib.hid ct
  have HB2 := Lib.hid hb2
  clear ct hn2 hb2 hw2 hmm hf hnm
  go_wp2_with fail
  go_at_call 33
  refine CT2.out.mono ?_
  rintro e w3 ⟨rfl, hn3, ho3⟩
  have HN3 := Lib.hid hn3
  have HO3 := Lib.hid ho3
  clear hn3 ho3
  go_wp2
  go_returns
  refine ⟨by simp, ?_, (Outs.of HB2.out).same HO3.out⟩
  have := HN3.out
  exact ⟨this.blk, this.map, this.sb.elim id id, this.sm.elim id id, fun q hq => (this.bd q hq).mono (fun i hi => ⟨hi.1.elim id id, hi.2⟩), this.ok, fun i hi => this.lt i (.inl hi)⟩
end Go.Proofs.Ytkoalpbognpphaa
