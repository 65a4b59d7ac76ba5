/- The walks over the document's own four, number and Append of frames. -/
import Derived.Test.YtbmllljieoeihaaFScan
import Derived.Deep.RegionHeld3
import Derived.Test.YtbmllljieoeihaaBig
namespace Go.Proofs.Ytbmllljieoeihaa
open Go.RowKit
set_option linter.unusedVariables false

theorem le4_eq (x : Nat) : le 4 x = [((x % 256 : Nat) : Int), ((x / 256 % 256 : Nat) : Int), ((x / 65536 % 256 : Nat) : Int), ((x / 16777216 % 256 : Nat) : Int)] := by
  simp only [le, Nat.div_div_eq_div_mul]

theorem four_any (x : Nat) (w : World) (hx : x < 4294967296) :
    Calls Try.prog 31 #[.int .u32 x] w fun e w' => ∃ g, e = .returned (.slice (some ⟨g, 0, none⟩) 4 4) ∧ Whole w' g 5 (c8 (le 4 x)).toArray ∧ w.heap.size ≤ g ∧ Below w.heap.size w w' := by
  go_enter Try.func31, Try.ntmps31
  go_wp2
  go_ret
  refine ⟨w.heap.size, rfl, ?_, Nat.le_refl _, (Below.refl _ _).alloc (Nat.le_refl _) _⟩
  have e : (c8 (le 4 x)).toArray = #[.int .u8 ((x : Int) % 256), .int .u8 ((x : Int) / 256 % 256), .int .u8 ((x : Int) / 65536 % 256), .int .u8 ((x : Int) / 16777216)] := by
    rw [le4_eq, show x / 16777216 % 256 = x / 16777216 by omega]
    simp [c8]
  rw [e]
  exact Whole.new w _ _

theorem sum_at_ref (zs : List Int) (hz : Byt zs) (h4 : zs.length = 4) (A : Option Addr) (c lim : Nat) (w : World) (hr : Rds w lim A (c8 zs)) :
    Calls Try.prog 30 #[.slice A 4 c] w fun e w' => e = .returned (.int .u32 (mor 0 zs)) ∧ w' = w := by
  have h := refSum_any A zs c lim w (by omega) hz hr
  rwa [h4] at h

theorem refMore_len (s : Nat) (A : Option Addr) (zs : List Int) (n c lim : Nat) (w : World) (hn : zs.length = n) (hs : s < 4294967296) (hl : n ≤ 9223372036854775807) (hz : Byt zs) (hr : Rds w lim A (c8 zs)) :
    Calls Try.prog 32 #[.int .u32 s, .slice A n c] w fun e w' => e = .returned (.int .u32 (mor s zs)) ∧ w' = w := by
  subst hn
  exact refMore_any s A zs c lim w hs hl hz hr

theorem ref_long (A A' : Option Addr) (n c m c' : Nat) (k : Int) (w : World) (hm : 1048576 < m) (hm2 : m ≤ 9223372036854775807) :
    Calls Try.prog 14 #[.slice A n c, .agg #[.int .u8 k, .slice A' m c']] w fun e w' => e = .returned (.tuple #[.slice none 0 0, .int .i64 3]) ∧ Below w.heap.size w w' := by
  have hm' : (1048576 : Int) < (m : Int) := by omega
  go_enter Try.func14, Try.ntmps14
  go_wp2
  go_ret2
  exact ⟨rfl, (Below.refl _ _).alloc (Nat.le_refl _) _⟩

theorem own_empty' (w : World) {B : Nat} (hB : B ≤ w.heap.size) (t : TypeId) : (w.alloc (.cells #[] t)).ownsRow B t 1 (.slice (some ⟨w.heap.size, 0, none⟩) 0 0) 0 [] := World.ownsRow_made (base := B) (e := t) (size := 1) w #[] 0 hB (by unfold maxLen; omega) rfl

theorem hd4_cells {k : Int} {n : Nat} (hn : n < 16777216) : (c8 (hd4 k n)).toArray = #[.int .u8 k, .int .u8 ((n : Int) % 256), .int .u8 ((n : Int) / 256 % 256), .int .u8 ((n : Int) / 65536)] := by
  simp only [hd4, le, Nat.div_div_eq_div_mul]
  rw [show n / (256 * 256) % 256 = n / 65536 by omega]
  simp [c8]

theorem seg_drew {a : Addr} {v : Value} {B F : Nat} {A : Option Addr} {xs : List Value} {w w' : World} (h : w'.cell? a = some v ∧ Rds w' B A xs ∧ B ≤ w'.heap.size ∧ Below F w w') : w'.drew.cell? a = some v ∧ Rds w'.drew B A xs ∧ B ≤ w'.drew.heap.size ∧ Below F w w'.drew :=
  ⟨h.1, h.2.1, h.2.2.1, h.2.2.2.drew⟩
theorem seg_app {a : Addr} {v : Value} {B F : Nat} {A : Option Addr} {xs : List Value} {w w' w2 : World} (h : w'.cell? a = some v ∧ Rds w' B A xs ∧ B ≤ w'.heap.size ∧ Below F w w') (ha : a.block < B) (hF : F ≤ B) (hb : Below B w' w2) : w2.cell? a = some v ∧ Rds w2 B A xs ∧ B ≤ w2.heap.size ∧ Below F w w2 :=
  ⟨(hb.cell ha).trans h.1, h.2.1.below hb, Nat.le_trans h.2.2.1 hb.size, h.2.2.2.trans (hb.mono hF)⟩
theorem seg_call {a : Addr} {v : Value} {B F : Nat} {A : Option Addr} {xs : List Value} {w w' w2 : World} (h : w'.cell? a = some v ∧ Rds w' B A xs ∧ B ≤ w'.heap.size ∧ Below F w w') (ha : a.block < B) (hF : F ≤ B) (hb : Below w'.heap.size w' w2) : w2.cell? a = some v ∧ Rds w2 B A xs ∧ B ≤ w2.heap.size ∧ Below F w w2 :=
  seg_app h ha hF (hb.mono h.2.2.1)
theorem own_ne {w : World} {B k n g : Nat} {e : TypeId} {v : Value} {xs : List Value} (h : w.ownsRow B e k v n xs) (hg : w.heap.size ≤ g) : some g ≠ v.ownBlock := by
  intro hb
  obtain ⟨_, h2⟩ := h.lt g hb.symm
  omega

set_option maxHeartbeats 3200000 in
theorem refapp_any (A A' : Option Addr) (zs body : List Int) (c c' n m : Nat) (k : Int) (w : World) (hn : zs.length = n) (hbm : body.length = m) (hl : n ≤ 140737488351232) (hm : m ≤ 1048576) (hk : 0 ≤ k ∧ k ≤ 255) (hz : Byt zs) (hzb : Byt body)
    (hA : A = none → c = 0) (hA' : A' = none → c' = 0) (hr : Rds w w.heap.size A (c8 zs)) (hr' : Rds w w.heap.size A' (c8 body)) :
    Calls Try.prog 14 #[.slice A n c, .agg #[.int .u8 k, .slice A' m c']] w fun e w' =>
      ∃ D d, e = .returned (.tuple #[.slice D (n + (m + 12)) d, .int .i64 0]) ∧ Rds w' w'.heap.size D (c8 (zs ++ fby ⟨k, body⟩)) ∧ Below w.heap.size w w' := by
  obtain ⟨i0, hi, hz0, hz1, hz2⟩ := info_parts info8
  have hm' : ¬ (1048576 : Int) < (m : Int) := by omega
  have hbx : Below w.heap.size w (w.alloc (.cells #[.int .u8 k, .slice A' m c'] 28)) := (Below.refl _ _).alloc (Nat.le_refl _) _
  have hwx := Whole.new w 28 #[.int .u8 k, .slice A' m c']
  have hc := @hd4_cells k m (by omega)
  have hS0 := sum_at_ref (hd4 k m) (hd4_byt hk m) (hd4_length k m)
  go_enter Try.func14, Try.ntmps14
  go_wp2_with fail
  have hwx2 := hwx.alloc (.cells #[.int .u8 k, .int .u8 ((m : Int) % 256), .int .u8 ((m : Int) / 256 % 256), .int .u8 ((m : Int) / 65536)] 5)
  have hbx2 := hbx.alloc hbx.size (.cells #[.int .u8 k, .int .u8 ((m : Int) % 256), .int .u8 ((m : Int) / 256 % 256), .int .u8 ((m : Int) / 65536)] 5)
  have hsz2 : ((w.alloc (.cells #[.int .u8 k, .slice A' m c'] 28)).alloc (.cells #[.int .u8 k, .int .u8 ((m : Int) % 256), .int .u8 ((m : Int) / 256 % 256), .int .u8 ((m : Int) / 65536)] 5)).heap.size = w.heap.size + 2 := by simp
  have hsz1 : (w.alloc (.cells #[.int .u8 k, .slice A' m c'] 28)).heap.size = w.heap.size + 1 := by simp
  have hwh : Whole ((w.alloc (.cells #[.int .u8 k, .slice A' m c'] 28)).alloc (.cells #[.int .u8 k, .int .u8 ((m : Int) % 256), .int .u8 ((m : Int) / 256 % 256), .int .u8 ((m : Int) / 65536)] 5)) (w.heap.size + 1) 5 (c8 (hd4 k m)).toArray := by
    have h := Whole.new (w.alloc (.cells #[.int .u8 k, .slice A' m c'] 28)) 5 #[.int .u8 k, .int .u8 ((m : Int) % 256), .int .u8 ((m : Int) / 256 % 256), .int .u8 ((m : Int) / 65536)]
    rw [hsz1] at h
    rw [hc]
    exact h
  generalize (w.alloc (.cells #[.int .u8 k, .slice A' m c'] 28)).alloc (.cells #[.int .u8 k, .int .u8 ((m : Int) % 256), .int .u8 ((m : Int) / 256 % 256), .int .u8 ((m : Int) / 65536)] 5) = v1 at *
  refine (hS0 (some ⟨w.heap.size + 1, 0, none⟩) 4 v1.heap.size v1 hwh.reads).mono ?_
  rintro e v2 ⟨rfl, rfl⟩
  have hsl : hsum k m < 4294967296 := mor_lt _ _
  have HSM := Lib.hid (show mor 0 (hd4 k m) = hsum k m from rfl)
  rw [HSM.out]
  generalize hSg : hsum k m = S at *
  have hrz : Rds v2 (w.heap.size + 2) A (c8 zs) := (hr.below hbx2).more (by omega)
  have hown0 := own_empty' v2 (B := w.heap.size + 2) (by omega) 5
  have hrh : Rds v2 (w.heap.size + 2) (some ⟨w.heap.size + 1, 0, none⟩) (c8 (hd4 k m)) := by rw [← hsz2]; exact hwh.reads
  have hrb : Rds v2 (w.heap.size + 2) A' (c8 body) := (hr'.below hbx2).more (by omega)
  rw [hsz2] at hown0
  clear hS0 hbx hwx hwh hc hsz1
  go_wp2_with (at_builtin; go_loud (refine app_many (v2.alloc (.cells #[] 5)) rfl (.tmp 28) (.tmp 29) 23 rfl (w.heap.size + 2) 5 i0 (.int .u8 0) 1 Try.underlying23 hi hz0 hz1 hz2 rfl _ 0 [] (by simp [Act.eval, Act.put, hsz2]) hown0 A n c _ (c8 zs) rfl (by rw [c8_length, hn]) (hrz.alloc (by omega) (.cells #[] 5)) hA (c8_one zs) (by unfold maxLen; omega) (by omega) (by simp; omega) ?_))
  intro v3 w3 hown3 hb3
  have hb3' : Below (w.heap.size + 2) v2 w3 := ((Below.refl _ _).alloc (by omega) _).trans hb3
  have hrh3 := hrh.below hb3'
  have hrb3 := hrb.below hb3'
  have hx3 := hwx2.below hb3' (by omega)
  have hbw3 := hbx2.trans (hb3'.mono (by omega))
  have hsz3 : w.heap.size + 2 ≤ w3.heap.size := by have := hb3'.size; omega
  clear hown0 hrz hrh hrb hwx2 hb3 hb3' hbx2
  go_wp2_with (at_builtin; go_loud (refine app_big w3 rfl (.tmp 30) (.tmp 31) 23 rfl (w.heap.size + 2) 5 i0 (.int .u8 0) Try.underlying23 hi hz0 hz1 hz2 rfl v3 n (c8 zs) rfl hown3 (some ⟨w.heap.size + 1, 0, none⟩) 4 4 _ (c8 (hd4 k m)) rfl (by rw [c8_length, hd4_length]) hrh3 (fun h => by cases h) (c8_one _) (by omega) (by omega) hsz3 ?_))
  intro v4 w4 hown4 hb4
  have hrb4 := hrb3.below hb4
  have hx4 := hx3.below hb4 (by omega)
  have hbw4 := hbw3.trans (hb4.mono (by omega))
  have hsz4 : w.heap.size + 2 ≤ w4.heap.size := Nat.le_trans hsz3 hb4.size
  clear hown3 hrh3 hrb3 hx3 hb4 hbw3
  go_wp2_with fail
  refine (four_any S w4 hsl).mono ?_
  rintro e w5 ⟨g5, rfl, hw5, hg5, hb5⟩
  have hown5 := own_below hown4 hb5
  have hrb5 := hrb4.below (hb5.mono hsz4)
  have hx5 := hx4.go hb5
  have hbw5 := hbw4.trans (hb5.mono (by omega))
  have hsz5 : w.heap.size + 2 ≤ w5.heap.size := Nat.le_trans hsz4 hb5.size
  clear hown4 hrb4 hx4 hb5 hbw4
  go_wp2_with (at_builtin; go_loud (refine app_big w5 rfl (.tmp 32) (.tmp 34) 23 rfl (w.heap.size + 2) 5 i0 (.int .u8 0) Try.underlying23 hi hz0 hz1 hz2 rfl v4 (n + 4) (c8 zs ++ c8 (hd4 k m)) rfl hown5 (some ⟨g5, 0, none⟩) 4 4 _ (c8 (le 4 S)) rfl (by rw [c8_length, le_length]) hw5.reads (fun h => by cases h) (c8_one _) (by omega) (by omega) hsz5 ?_))
  intro v6 w6 hown6 hb6
  have hrb6 := hrb5.below hb6
  have hx6 := hx5.below hb6 (by omega)
  have hbw6 := hbw5.trans (hb6.mono (by omega))
  have hsz6 : w.heap.size + 2 ≤ w6.heap.size := Nat.le_trans hsz5 hb6.size
  clear hown5 hrb5 hx5 hb6 hbw5 hw5 hg5
  go_wp2_with fail
  obtain ⟨B, hB⟩ : ∃ B, B = w.heap.size + 2 := ⟨_, rfl⟩
  have hwB : w.heap.size + 2 ≤ B := Nat.le_of_eq hB.symm
  rw [← hB] at hown6 hrb6 hsz6
  rw [← c8_append, ← c8_append] at hown6
  generalize hL : zs ++ (hd4 k m ++ le 4 S) = L at *
  have hcx := hx6.cell 1
  have hml := mor_lt S body
  have hfl : w.heap.size < B := by omega
  clear hsz2 hB hx6
  have hown6d : w6.drew.ownsRow B 5 1 v6 (n + 4 + 4) (c8 L) := hown6
  have hS6 : w6.cell? ⟨w.heap.size, 1, none⟩ = some (.slice A' m c') ∧ Rds w6 B A' (c8 body) ∧ B ≤ w6.heap.size ∧ Below w.heap.size w w6 := ⟨hcx, hrb6, hsz6, hbw6⟩
  have ha : (⟨w.heap.size, 1, none⟩ : Addr).block < B := hfl
  have hF : w.heap.size ≤ B := by omega
  have hMo := fun w' (h : Rds w' B A' (c8 body)) => refMore_len S A' body m c' B w' hbm hsl (by omega) hzb h
  clear hcx hrb6 hsz6 hbw6 hown6
  go_region_held3 (fun w' => w'.cell? ⟨w.heap.size, 1, none⟩ = some (.slice A' m c') ∧ Rds w' B A' (c8 body) ∧ B ≤ w'.heap.size ∧ Below w.heap.size w w')
    (first | assumption | exact seg_drew (by assumption) | exact seg_app (by assumption) ha hF (by assumption) | exact seg_call (by assumption) ha hF (by assumption))
    (first
      | (go_at_call 32; refine (hMo _ (by assumption : _ ∧ _ ∧ _ ∧ _).2.1).mono ?_; rintro e w9 ⟨rfl, rfl⟩)
      | (go_at_call 31; refine (four_any (mor S body) _ hml).mono ?_; rintro e w9 ⟨g9, rfl, hw9, hg9, hb9⟩; have hrow9 := own_below (by assumption) hb9; have hne9 := own_ne (by assumption) hg9)
      | (refine step_app_big rfl (.tmp 36) (.tmp 38) 23 rfl B 5 i0 (.int .u8 0) Try.underlying23 hi hz0 hz1 hz2 rfl v6 (n + 4 + 4) (c8 L) rfl (by assumption) A' m c' B (c8 body) rfl (by rw [c8_length, hbm]) (by assumption : _ ∧ _ ∧ _ ∧ _).2.1 hA' (c8_one _) (by omega) (by omega) (by assumption : _ ∧ _ ∧ _ ∧ _).2.2.1 ?_; intro v7 w7 hown7 hgr7 hb7; try (have hw7 := Whole.grown (by assumption) hgr7 (by assumption)))
      | (refine step_app_big rfl (.tmp 39) (.tmp 44) 23 rfl B 5 i0 (.int .u8 0) Try.underlying23 hi hz0 hz1 hz2 rfl v7 (n + 4 + 4 + m) (c8 L ++ c8 body) rfl (by assumption) (some ⟨g9, 0, none⟩) 4 4 _ (c8 (le 4 (mor S body))) rfl (by rw [c8_length, le_length]) (Whole.reads (by assumption)) (fun h => by cases h) (c8_one _) (by omega) (by omega) (by assumption : _ ∧ _ ∧ _ ∧ _).2.2.1 ?_; intro v8 w8 hown8 hgr8 hb8))
  all_goals (
    rw [show n + 4 + 4 + m + 4 = n + (m + 12) by omega, ← c8_append, ← c8_append] at hown8
    obtain ⟨D, d, rfl, hrd, _, _, _⟩ := own_open hown8
    have hfin : L ++ body ++ le 4 (mor S body) = zs ++ fby ⟨k, body⟩ := by
      rw [← hL]
      unfold fby
      simp only [hbm, hSg, List.append_assoc]
    have hS8 := (by assumption : _ ∧ _ ∧ _ ∧ Below _ _ w8).2.2.2
    rw [List.append_assoc] at hrd
    rw [List.append_assoc] at hfin
    rw [hfin] at hrd
    have HRD := Lib.hid hrd
    have HS8 := Lib.hid hS8
    clear hrd hS8 hown8
    go_wp2
    go_ret2
    exact ⟨D, d, rfl, HRD.out, HS8.out⟩)

end Go.Proofs.Ytbmllljieoeihaa
