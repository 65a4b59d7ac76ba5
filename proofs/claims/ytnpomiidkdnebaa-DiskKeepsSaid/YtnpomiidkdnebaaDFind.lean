/- The program's refusals, and its search for a file. -/
import Derived.Test.YtnpomiidkdnebaaDName
namespace Go.Proofs.Ytnpomiidkdnebaa
open Go.RowKit Go.Maps Go.WideMaps
set_option linter.unusedVariables false

def lst (s : ByteArray) : Nm := s.data.toList
theorem bDrewN {B : Nat} {a w : World} (h : Below B a w) (n : Nat) : Below B a (w.drewN n) := ⟨h.os, h.tape, h.output, h.size, h.block⟩
theorem lst_length (s : ByteArray) : (lst s).length = s.size := by simp [lst]
theorem lst_inj {a b : ByteArray} (h : lst a = lst b) : a = b := by
  apply ByteArray.ext
  exact Array.toList_inj.1 h

theorem refusal_any {S : Nat → Prop} {d : Nat} {D : Dsk} (ss : List Txt) (b n c : Nat) (w : World) (h : Dk 0 w S d D) (hn : ss.length = n) (hbig : n ≤ 9223372036854775807) (hc : ∀ j, j < ss.length → w.cell? ⟨b, j, none⟩ = some (encT ss[j]!)) :
    Calls Try.prog 33 #[.pointer (some ⟨d, 0, none⟩), .slice (some ⟨b, 0, none⟩) n c] w fun e w' => e = .returned (.int .i64 (ask D (ss.map (lst ·.1)))) ∧ ∃ q, w' = w.drewN q := by
  obtain ⟨mb, nn, M, blk, vs, h, hnn⟩ := h
  have c0 := h.c0
  have c1 := h.c1
  have hcon := names_any ss b n c w hn hbig hc
  have ha : ask D (ss.map (lst ·.1)) = if D.off then 10 else if (ss.map (·.1.data.toList)).all okN then 0 else 2 := rfl
  rw [ha]
  clear hc ha
  generalize (ss.map (·.1.data.toList)).all okN = r at hcon ⊢
  generalize D.off = o at c1 ⊢
  cases o
  · cases r
    all_goals
      go_enter Try.func33, Try.ntmps33
      go_wp2_with (first
        | (go_at_call 40; refine (nobodys_no d w c0).mono ?_; rintro e w' ⟨rfl, rfl⟩)
        | (go_at_call 63; refine hcon.mono ?_; rintro e w' ⟨rfl, q, rfl⟩))
      go_ret
      exact ⟨by simp, q, rfl⟩
  · go_enter Try.func33, Try.ntmps33
    go_wp2_with (first
      | (go_at_call 40; refine (nobodys_no d w c0).mono ?_; rintro e w' ⟨rfl, rfl⟩)
      | (go_at_call 63; refine hcon.mono ?_; rintro e w' ⟨rfl, q, rfl⟩))
    go_ret
    exact ⟨by simp, 0, rfl⟩
theorem refusal_none {e : Nat} {S : Nat → Prop} {d : Nat} {D : Dsk} (w : World) (h : Dk e w S d D) :
    Calls Try.prog 33 #[.pointer (some ⟨d, 0, none⟩), .slice none 0 0] w fun e w' => e = .returned (.int .i64 (if D.off then 10 else 0)) ∧ w' = w := by
  obtain ⟨mb, nn, M, blk, vs, h, hnn⟩ := h
  have c0 := h.c0
  have c1 := h.c1
  have hcon := Try.slices_ContainsFunc_empty_f63 (α := Txt) none 0 (.func (.func 48) #[] #[]) w
  generalize D.off = o at c1 ⊢
  cases o
  all_goals
    go_enter Try.func33, Try.ntmps33
    go_wp2_with (first
      | (go_at_call 40; refine (nobodys_no d w c0).mono ?_; rintro e w' ⟨rfl, rfl⟩)
      | (go_at_call 63; refine hcon.mono ?_; rintro e w' ⟨rfl, rfl⟩))
    go_ret
    exact ⟨by simp, rfl⟩
theorem refusal_no (p : Option Addr) (v : Value) (w : World) (h : Nobody w p) :
    Calls Try.prog 33 #[.pointer p, v] w fun e w' => e = .returned (.int .i64 1) ∧ w' = w := by
  go_enter Try.func33, Try.ntmps33
  go_wp2_with (first
    | (go_at_call 40; refine (nobodys_yes p w h).mono ?_; rintro e w' ⟨rfl, rfl⟩))
  go_ret
  exact ⟨by simp, rfl⟩

theorem keyS (s : ByteArray) (hs : s.size ≤ maxLen) : keyOf Try.prog 9 (.string s) = some (.string (lst s)) := keyOf_string_mk Try.underlying9 hs
theorem lawS : Keyed Try.prog 9 := string_keyed Try.underlying9
theorem zeroP (w : World) : (zeroValue 66).run Try.prog w = .ok (.pointer none) w := by kernel_rfl

def fptr (D : Dsk) (blk : Nm → Nat) (l : Nm) : Value := match find D.files l with | none => .pointer none | some _ => .pointer (some ⟨blk l, 0, none⟩)

/-- 'd.files[name]' -/
theorem look_at {S : Nat → Prop} {w : World} {d mb nn : Nat} {M : DataW Unit} {blk : Nm → Nat} {vs : Nm → Value} {D : Dsk} (h : DkAt w S d mb nn M blk vs D) (s : ByteArray) (hs : s.size ≤ maxLen) :
    (Instr.lookup 52 (.map (some mb)) (.string s) false).run Try.prog w = .ok (fptr D blk (lst s)) w := by
  obtain ⟨v, ps, hrun, hv⟩ := h.map.lookup lawS Try.underlying52 (zeroP w) (zd := .nil) (zp := []) rfl (keyS s hs)
  rw [h.key] at hv
  rw [hrun]
  unfold fptr
  cases hf : find D.files (lst s) with
  | none =>
    rw [hf] at hv
    rw [ptrR_nil hv]
  | some f =>
    rw [hf] at hv
    rw [ptrR_at hv]

/-- what find answers -/
def fcode (D : Dsk) (l : Nm) : Int := if ask D [l] ≠ 0 then ask D [l] else if (find D.files l).isNone then 6 else 0
def fpt (D : Dsk) (blk : Nm → Nat) (l : Nm) : Value := if fcode D l = 0 then .pointer (some ⟨blk l, 0, none⟩) else .pointer none

theorem ask_one (D : Dsk) (l : Nm) : ask D [l] = 10 ∨ ask D [l] = 2 ∨ ask D [l] = 0 := by
  unfold ask
  split
  · exact .inl rfl
  · split
    · exact .inr (.inr rfl)
    · exact .inr (.inl rfl)

theorem one_text (s : ByteArray) (hs : s.size ≤ 9223372036854775807) (w : World) (t : TypeId) : ∀ j, j < ([⟨s, hs⟩] : List Txt).length → (w.alloc (.cells #[.string s] t)).cell? ⟨w.heap.size, j, none⟩ = some (encT ([⟨s, hs⟩] : List Txt)[j]!) := by
  intro j hj
  obtain rfl : j = 0 := by simpa using hj
  exact (Whole.new w t #[.string s]).cell 0

set_option maxHeartbeats 800000 in
theorem find_any {S : Nat → Prop} {d mb nn : Nat} {M : DataW Unit} {blk : Nm → Nat} {vs : Nm → Value} {D : Dsk} (s : ByteArray) (hs : s.size ≤ 9223372036854775807) (w : World) (h : DkAt w S d mb nn M blk vs D) (hnn : nn ≤ D.steps) :
    Calls Try.prog 36 #[.pointer (some ⟨d, 0, none⟩), .string s] w fun e w' => e = .returned (.tuple #[fpt D blk (lst s), .int .i64 (fcode D (lst s))]) ∧ Below w.heap.size w w' := by
  have hb : Below w.heap.size w (w.alloc (.cells #[.string s] 9)) := (Below.refl _ w).alloc (Nat.le_refl _) _
  have h1 := h.go hb
  have c5 := h.c5
  have hcon := refusal_any [⟨s, hs⟩] w.heap.size 1 1 (w.alloc (.cells #[.string s] 9)) ⟨mb, nn, M, blk, vs, h1, hnn⟩ rfl (by decide) (one_text s hs w _)
  have he : ask D ([(⟨s, hs⟩ : Txt)].map (lst ·.1)) = ask D [lst s] := rfl
  rw [he] at hcon
  have hlook : ∀ q, (Instr.lookup 52 (.map (some mb)) (.string s) false).run Try.prog ((w.alloc (.cells #[.string s] 9)).drewN q) = .ok (fptr D blk (lst s)) ((w.alloc (.cells #[.string s] 9)).drewN q) := fun q =>
    look_at (h1.go (bDrewN (Below.refl _ _) q)) s hs
  have hB : ∀ q, Below w.heap.size w ((w.alloc (.cells #[.string s] 9)).drewN q) := fun q => ⟨hb.os, hb.tape, hb.output, hb.size, hb.block⟩
  have HB := Lib.hid hB
  clear hB he
  have c5' : ∀ q, ((w.alloc (.cells #[.string s] 9)).drewN q).cell? ⟨d, 5, none⟩ = some (.map (some mb)) := fun q => h1.c5
  cases hf : find D.files (lst s) with
  | none =>
    have e1 : fptr D blk (lst s) = .pointer none := by simp [fptr, hf]
    rw [e1] at hlook
    have e2 : fpt D blk (lst s) = .pointer none := by
      unfold fpt fcode
      rw [hf]
      rcases ask_one D (lst s) with e | e | e <;> simp [e]
    have e3 : fcode D (lst s) = if ask D [lst s] ≠ 0 then ask D [lst s] else 6 := by simp [fcode, hf]
    rw [e2, e3]
    clear e1 e2 e3 hf
    rcases ask_one D (lst s) with e | e | e
    all_goals
      rw [e] at hcon ⊢
      clear e
      go_enter Try.func36, Try.ntmps36
      go_wp2_with (refine hcon.mono ?_; rintro e w' ⟨rfl, q, rfl⟩)
      go_returns
      exact ⟨by simp, HB.out _⟩
  | some f =>
    have e1 : fptr D blk (lst s) = .pointer (some ⟨blk (lst s), 0, none⟩) := by simp [fptr, hf]
    rw [e1] at hlook
    have e2 : fpt D blk (lst s) = if ask D [lst s] ≠ 0 then .pointer none else .pointer (some ⟨blk (lst s), 0, none⟩) := by
      unfold fpt fcode
      rw [hf]
      rcases ask_one D (lst s) with e | e | e <;> simp [e]
    have e3 : fcode D (lst s) = ask D [lst s] := by
      unfold fcode
      rw [hf]
      rcases ask_one D (lst s) with e | e | e <;> simp [e]
    rw [e2, e3]
    clear e1 e2 e3 hf
    generalize blk (lst s) = bk at *
    rcases ask_one D (lst s) with e | e | e
    all_goals
      rw [e] at hcon ⊢
      clear e
      go_enter Try.func36, Try.ntmps36
      go_wp2_with (refine hcon.mono ?_; rintro e w' ⟨rfl, q, rfl⟩)
      go_returns
      exact ⟨by simp, HB.out _⟩
theorem find_no (p : Option Addr) (s : ByteArray) (w : World) (h : Nobody w p) :
    Calls Try.prog 36 #[.pointer p, .string s] w fun e w' => e = .returned (.tuple #[.pointer none, .int .i64 1]) ∧ Below w.heap.size w w' := by
  have hb : Below w.heap.size w (w.alloc (.cells #[.string s] 9)) := (Below.refl _ w).alloc (Nat.le_refl _) _
  have h1 : Nobody (w.alloc (.cells #[.string s] 9)) p := by
    rcases h with rfl | ⟨d, rfl, h⟩
    · exact .inl rfl
    · exact .inr ⟨d, rfl, Lib.cell?_alloc_some _ h⟩
  have HB := Lib.hid hb
  clear hb
  go_enter Try.func36, Try.ntmps36
  go_wp2_with (refine (refusal_no p _ _ h1).mono ?_; rintro e w' ⟨rfl, rfl⟩)
  go_returns
  exact ⟨by simp, HB.out⟩
end Go.Proofs.Ytnpomiidkdnebaa
