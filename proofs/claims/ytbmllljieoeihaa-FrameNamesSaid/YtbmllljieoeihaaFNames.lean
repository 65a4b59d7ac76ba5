/- The worked examples of the chapter on frames come out as they are written. A closed statement; no condition. -/
import Derived.Test.YtbmllljieoeihaaFBack
namespace Go.Proofs.Ytbmllljieoeihaa
open Go.RowKit
set_option linter.unusedVariables false

def F1 : List Int := [1, 0, 0, 0, 121, 184, 248, 153, 121, 184, 248, 153]
theorem F1_byt : Byt F1 := by unfold Byt F1; decide
theorem f1_F1 : fby f1 = F1 := f1_fby
def F1a : List Int := [0, 0, 0, 0, 121, 184, 248, 153, 121, 184, 248, 153]
def F1b : List Int := [1, 0, 0, 0, 121, 184, 248, 153, 121, 184, 248, 25]
theorem mea_F1a : mea F1a = (0, 5) := by decide +kernel
theorem mea_F1b : mea F1b = (0, 5) := by decide +kernel
theorem mea_11 : mea (F1.take 11) = (0, 4) := by decide +kernel
theorem mea_7 : mea (F1.take 7) = (0, 4) := by decide +kernel
theorem scn_two : scn (F1 ++ F1 ++ [1, 2, 3]) = ([f1, f1], 24, 4) := by
  have h3 : mea [1, 2, 3] = (0, 4) := by decide +kernel
  rw [← f1_F1, List.append_assoc, scn_fby f1 f1_ok, scn_fby f1 f1_ok, scn_end (by rw [h3]; decide), h3]
  rfl

theorem own_empty (w : World) {B : Nat} (hB : B ≤ w.heap.size) (t : TypeId) : (w.alloc (.cells #[] t)).ownsRow B t 1 (.slice (some ⟨w.heap.size, 0, none⟩) 0 0) 0 [] := World.ownsRow_made (base := B) (e := t) (size := 1) w #[] 0 hB (by unfold maxLen; omega) rfl

set_option maxHeartbeats 6400000 in
set_option maxRecDepth 1000000 in
theorem fnames_walk (w : World) : Calls Try.prog 3 #[] w fun e w' => e = .returned (.bool true) ∧ Below w.heap.size w w' := by
  obtain ⟨i0, hi, hz0, hz1, hz2⟩ := info_parts info8
  go_enter Try.func3, Try.ntmps3
  go_wp2_with fail
  refine (flives_any _).mono ?_
  rintro e w1 ⟨rfl, hb1⟩
  go_wp2_with fail
  refine (fapp_any none none [] [] 0 0 0 1 w1 rfl (by simp) (by omega) (by decide) (fun z hz => by cases hz) (fun z hz => by cases hz) Rds.nil_ Rds.nil_).mono ?_
  rintro e w2 ⟨g, rfl, hw2, hg2, hb2'⟩
  rw [show ([] : List Int) ++ fby ⟨1, []⟩ = F1 from f1_F1] at hw2
  have hb2 := belowGo hb1 (Nat.le_refl _) hb2'
  have hr2 := hw2.reads
  clear hw2 hb1 hb2'
  go_wp2_with fail
  refine (fread_len (some ⟨g, 0, none⟩) (F1.take 11) 11 12 w2 rfl (by omega) (by omega) (F1_byt.take 11) (by rw [c8_take]; exact hr2.take 11) mea_11 (frd_bad mea_11 (by decide))).mono ?_
  rintro e w3 ⟨A3, c3, rfl, _, hb3⟩
  have hr3 := hr2.go hb3
  have hb3' := belowGo hb2 (Nat.le_refl _) hb3
  clear hb2 hb3 hr2
  simp only [List.length_nil]
  go_wp2_with fail
  generalize hv4 : w3.alloc (.cells #[.int .u8 0, .slice A3 0 c3] 28) = v4
  have hr4 : Rds v4 v4.heap.size (some ⟨g, 0, none⟩) (c8 F1) := by rw [← hv4]; exact (hr3.alloc (Nat.le_refl _) _).more (by simp)
  have hb4 : Below w.heap.size w v4 := by rw [← hv4]; exact hb3'.alloc hb3'.size _
  clear hr3 hb3' hv4
  refine (fread_len (some ⟨g, 0, none⟩) (F1.take 7) 7 12 v4 rfl (by omega) (by omega) (F1_byt.take 7) (by rw [c8_take]; exact hr4.take 7) mea_7 (frd_bad mea_7 (by decide))).mono ?_
  rintro e w5 ⟨A5, c5, rfl, _, hb5⟩
  have hr5 := hr4.go hb5
  have hb5' := belowGo hb4 (Nat.le_refl _) hb5
  clear hb4 hb5 hr4
  simp only [List.length_nil]
  have hrA : Rds (w5.alloc (.cells #[.int .u8 0, .slice A5 0 c5] 28)) (w5.alloc (.cells #[.int .u8 0, .slice A5 0 c5] 28)).heap.size (some ⟨g, 0, none⟩) (c8 F1) := (hr5.alloc (Nat.le_refl _) _).more (by simp)
  have hbA : Below w.heap.size w (w5.alloc (.cells #[.int .u8 0, .slice A5 0 c5] 28)) := hb5'.alloc hb5'.size _
  clear hr5 hb5'
  go_wp2_with (at_builtin; go_loud (refine app_many _ rfl (.tmp 43) (.tmp 44) 23 rfl _ 5 i0 (.int .u8 0) 1 Try.underlying23 hi hz0 hz1 hz2 rfl _ 0 [] (by simp [Act.eval, Act.put]) (own_empty _ (Nat.le_refl _) 5) (some ⟨g, 0, none⟩) 12 12 _ (c8 F1) rfl rfl (hrA.alloc (Nat.le_refl _) (.cells #[] 5)) (fun h => by cases h) (c8_one F1) (by unfold maxLen; omega) (by omega) (by simp) ?_))
  intro v6 w6 hown6 hb6
  have hszA : (w5.alloc (.cells #[.int .u8 0, .slice A5 0 c5] 28)).heap.size = w5.heap.size + 1 := by simp
  obtain ⟨B6, hB6⟩ : ∃ B, B = w5.heap.size + 1 := ⟨_, rfl⟩
  rw [← hB6] at hszA hb6 hown6
  have hb6' : Below B6 (w5.alloc (.cells #[.int .u8 0, .slice A5 0 c5] 28)) w6 := ((Below.refl _ _).alloc (by rw [hszA]; exact Nat.le_refl _) _).trans hb6
  have hwB : w.heap.size ≤ B6 := by rw [← hszA]; exact hbA.size
  have hb7 : Below w.heap.size w w6 := hbA.trans (hb6'.mono hwB)
  have hr7 : Rds w6 B6 (some ⟨g, 0, none⟩) (c8 F1) := by rw [hszA] at hrA; exact hrA.below hb6'
  rcases hown6.2 with ⟨_, hn⟩ | ⟨g6, cap6, cur6, hv, hg6, _⟩
  · exact absurd hn (by omega)
  subst hv
  have hcl6 := hown6.cellAt 0 (by omega)
  have hfr6 := hown6.frozenAt 0
  have hst6 := (hown6.stored 0 (.int .u8 0)).1
  rw [show (c8 F1).set 0 (.int .u8 0) = c8 F1a from rfl] at hst6
  rw [show (c8 F1)[0]? = some (.int .u8 1) from rfl] at hcl6
  have hx1 : bits .xor .u8 (1 : Int) 1 = 0 := by decide
  clear hrA hbA hb6 hb6' hB6 hszA
  have hr8 : Rds (w6.setCell ⟨g6, 0, none⟩ (.int .u8 0)) B6 (some ⟨g, 0, none⟩) (c8 F1) := hr7.below ((Below.refl B6 w6).setCell (p := ⟨g6, 0, none⟩) hg6 _)
  have hb8 : Below w.heap.size w (w6.setCell ⟨g6, 0, none⟩ (.int .u8 0)) := hb7.setCell (p := ⟨g6, 0, none⟩) (Nat.le_trans hwB hg6) _
  have hsz6 : B6 ≤ (w6.setCell ⟨g6, 0, none⟩ (.int .u8 0)).heap.size := by have := (hst6.lt g6 rfl).2; omega
  have hr9 := hr8.more hsz6
  go_wp2_with (at_builtin; go_loud (refine app_many _ rfl (.tmp 52) (.tmp 53) 23 rfl _ 5 i0 (.int .u8 0) 1 Try.underlying23 hi hz0 hz1 hz2 rfl _ 0 [] (by simp [Act.eval, Act.put]) (own_empty _ (Nat.le_refl _) 5) (some ⟨g, 0, none⟩) 12 12 _ (c8 F1) rfl rfl (hr9.alloc (Nat.le_refl _) (.cells #[] 5)) (fun h => by cases h) (c8_one F1) (by unfold maxLen; omega) (by omega) (by simp) ?_))
  intro v10 w10 hown10 hb10
  have hszB : (w6.setCell ⟨g6, 0, none⟩ (.int .u8 0)).heap.size = w6.heap.size := by simp
  have hr8' : Rds (w6.setCell ⟨g6, 0, none⟩ (.int .u8 0)) w6.heap.size (some ⟨g, 0, none⟩) (c8 F1) := by rw [hszB] at hr9; exact hr9
  obtain ⟨B10, hB10⟩ : ∃ B, B = w6.heap.size := ⟨_, rfl⟩
  rw [← hB10] at hszB hb10 hown10 hr8'
  generalize w6.setCell ⟨g6, 0, none⟩ (.int .u8 0) = w7 at *
  have hb10' : Below B10 w7 w10 := ((Below.refl _ _).alloc (by rw [hszB]; exact Nat.le_refl _) _).trans hb10
  have hwB10 : w.heap.size ≤ B10 := by rw [← hszB]; exact hb8.size
  have hr10 : Rds w10 B10 (some ⟨g, 0, none⟩) (c8 F1) := hr8'.below hb10'
  have hc10 : w10.ownsRow B6 5 1 (.slice (some ⟨g6, 0, none⟩) 12 cap6) 12 (c8 F1a) := own_below hst6 (by rw [hszB]; exact hb10')
  have hb11 : Below w.heap.size w w10 := hb8.trans (hb10'.mono hwB10)
  rcases hown10.2 with ⟨_, hn⟩ | ⟨g10, cap10, cur10, hv, hg10, _⟩
  · exact absurd hn (by omega)
  subst hv
  have hcl10 := hown10.cellAt 11 (by omega)
  have hfr10 := hown10.frozenAt 11
  have hst10 := (hown10.stored 11 (.int .u8 25)).1
  rw [show (c8 F1).set 11 (.int .u8 25) = c8 F1b from rfl] at hst10
  rw [show (c8 F1)[11]? = some (.int .u8 153) from rfl] at hcl10
  have hx2 : bits .xor .u8 (153 : Int) 128 = 25 := by decide
  have hg6l : g6 < B10 := by
    have := (hst6.lt g6 rfl).2
    omega
  have hbS : Below B10 w10 (w10.setCell ⟨g10, 11, none⟩ (.int .u8 25)) := (Below.refl B10 w10).setCell (p := ⟨g10, 11, none⟩) hg10 _
  have hr12 : Rds (w10.setCell ⟨g10, 11, none⟩ (.int .u8 25)) B10 (some ⟨g, 0, none⟩) (c8 F1) := hr10.below hbS
  have hc12 : Rds (w10.setCell ⟨g10, 11, none⟩ (.int .u8 25)) B10 (some ⟨g6, 0, none⟩) (c8 F1a) := by
    intro hne
    refine ⟨_, rfl, hg6l, fun j u hu => ?_⟩
    rw [hbS.cell (by rw [addr_add]; exact hg6l)]
    obtain ⟨ad, e, _, hcc⟩ := Rds.ofOwn hc10 hne
    obtain rfl := Option.some.inj e
    exact hcc j u hu
  have hd12 := Rds.ofOwn hst10
  have hb12 : Below w.heap.size w (w10.setCell ⟨g10, 11, none⟩ (.int .u8 25)) := hb11.setCell (p := ⟨g10, 11, none⟩) (Nat.le_trans hwB10 hg10) _
  have hsz12 : B10 ≤ (w10.setCell ⟨g10, 11, none⟩ (.int .u8 25)).heap.size := by have := (hst10.lt g10 rfl).2; omega
  clear hr7 hb7 hown6 hcl6 hfr6 hst6 hx1 hr8 hr9 hb8 hr8' hb10 hb10' hr10 hc10 hb11 hszB hB10 hbS
  go_wp2_with fail
  clear hcl10 hfr10 hown10
  generalize w10.setCell ⟨g10, 11, none⟩ (.int .u8 25) = w12 at *
  have hr12 := hr12.more hsz12
  have hc12 := hc12.more hsz12
  clear hst10
  refine (fread_len (some ⟨g6, 0, none⟩) F1a 12 cap6 w12 rfl (by omega) (by omega) (by unfold Byt F1a; decide) hc12 mea_F1a (frd_bad mea_F1a (by decide))).mono ?_
  rintro e w13 ⟨A13, c13, rfl, _, hb13⟩
  have hb13' := belowGo hb12 (Nat.le_refl _) hb13
  have hr13 := hr12.go hb13
  have hd13 := hd12.go hb13
  clear hc12 hr12 hd12 hb12 hb13 hsz12 hsz6
  simp only [List.length_nil]
  go_wp2_with fail
  generalize hv14 : w13.alloc (.cells #[.int .u8 0, .slice A13 0 c13] 28) = v14
  have hr14 : Rds v14 v14.heap.size (some ⟨g, 0, none⟩) (c8 F1) := by rw [← hv14]; exact (hr13.alloc (Nat.le_refl _) _).more (by simp)
  have hd14 : Rds v14 v14.heap.size (some ⟨g10, 0, none⟩) (c8 F1b) := by rw [← hv14]; exact (hd13.alloc (Nat.le_refl _) _).more (by simp)
  have hb14 : Below w.heap.size w v14 := by rw [← hv14]; exact hb13'.alloc hb13'.size _
  clear hr13 hd13 hb13' hv14
  refine (fread_len (some ⟨g10, 0, none⟩) F1b 12 cap10 v14 rfl (by omega) (by omega) (by unfold Byt F1b; decide) hd14 mea_F1b (frd_bad mea_F1b (by decide))).mono ?_
  rintro e w15 ⟨A15, c15, rfl, _, hb15⟩
  have hr15 := hr14.go hb15
  have hb15' := belowGo hb14 (Nat.le_refl _) hb15
  clear hr14 hd14 hb14 hb15
  simp only [List.length_nil]
  have hr16 : Rds (w15.alloc (.cells #[.int .u8 0, .slice A15 0 c15] 28)) (w15.heap.size + 1) (some ⟨g, 0, none⟩) (c8 F1) := (hr15.alloc (Nat.le_refl _) _).more (by omega)
  have hb16 : Below w.heap.size w (w15.alloc (.cells #[.int .u8 0, .slice A15 0 c15] 28)) := hb15'.alloc hb15'.size _
  have hs16 := hb15'.size
  clear hr15 hb15'
  go_wp2_with (at_builtin; go_loud (refine app_many _ rfl (.tmp 74) (.tmp 75) 23 rfl (w15.heap.size + 1) 5 i0 (.int .u8 0) 1 Try.underlying23 hi hz0 hz1 hz2 rfl _ 0 [] (by simp [Act.eval, Act.put]) (own_empty _ (by simp) 5) (some ⟨g, 0, none⟩) 12 12 _ (c8 F1) rfl rfl (hr16.alloc (by simp) (.cells #[] 5)) (fun h => by cases h) (c8_one F1) (by unfold maxLen; omega) (by omega) (by simp) ?_))
  intro v17 w17 hown17 hb17
  have hb17' : Below (w15.heap.size + 1) (w15.alloc (.cells #[.int .u8 0, .slice A15 0 c15] 28)) w17 := ((Below.refl _ _).alloc (by simp) _).trans hb17
  have hr17 : Rds w17 (w15.heap.size + 1) (some ⟨g, 0, none⟩) (c8 F1) := hr16.below hb17'
  have hb18 : Below w.heap.size w w17 := hb16.trans (hb17'.mono (by omega))
  have hsz17 : w15.heap.size + 1 ≤ w17.heap.size := by have := hb17'.size; simpa using this
  clear hr16 hb16 hb17 hb17'
  go_wp2_with (at_builtin; go_loud (refine app_many _ rfl (.tmp 76) (.tmp 77) 23 rfl (w15.heap.size + 1) 5 i0 (.int .u8 0) 1 Try.underlying23 hi hz0 hz1 hz2 rfl v17 12 (c8 F1) rfl hown17 (some ⟨g, 0, none⟩) 12 12 _ (c8 F1) rfl rfl hr17 (fun h => by cases h) (c8_one F1) (by unfold maxLen; omega) (by omega) hsz17 ?_))
  intro v19 w19 hown19 hb19
  have hb20 : Below w.heap.size w w19 := hb18.trans (hb19.mono (by omega))
  have hsz19 : w15.heap.size + 1 ≤ w19.heap.size := Nat.le_trans hsz17 hb19.size
  clear hr17 hb18 hb19 hown17
  have hr20 := Rds.made w19 5 [1, 2, 3] #[.int .u8 1, .int .u8 2, .int .u8 3] rfl
  have hown20 := hown19.alloc (.cells #[.int .u8 1, .int .u8 2, .int .u8 3] 5)
  go_wp2_with (at_builtin; go_loud (refine app_many _ rfl (.tmp 78) (.tmp 79) 23 rfl (w15.heap.size + 1) 5 i0 (.int .u8 0) 1 Try.underlying23 hi hz0 hz1 hz2 rfl v19 24 (c8 F1 ++ c8 F1) rfl hown20 (some ⟨w19.heap.size, 0, none⟩) 3 3 _ (c8 [1, 2, 3]) rfl rfl hr20 (fun h => by cases h) (c8_one _) (by unfold maxLen; omega) (by omega) (by simp; omega) ?_))
  intro v21 w21 hown21 hb21
  have hb22 : Below w.heap.size w w21 := (hb20.alloc hb20.size _).trans (hb21.mono (by omega))
  obtain ⟨A21, c21, rfl, hr21, hc21, _, _⟩ := own_open hown21
  rw [← c8_append, ← c8_append] at hr21
  clear hown21 hown20 hown19 hr20 hb21 hb20
  go_wp2_with fail
  refine (fscan_len A21 (F1 ++ F1 ++ [1, 2, 3]) 27 c21 w21 rfl (by omega) hc21 (by unfold Byt F1; decide) hr21 scn_two).mono ?_
  rintro e w23 ⟨A23, c23, rs, rfl, hm, _, _, hb23⟩
  have hl2 : rs.length = 2 := by have := congrArg List.length hm; simpa using this
  have hb24 := belowGo hb22 (Nat.le_refl _) hb23
  have hl2' : (rs.length : Int) = 2 := by omega
  clear hm hr21 hb22 hb23
  go_wp2
  go_ret
  exact ⟨rfl, hb24⟩

open Go.ChangeShapes Go.WideShapes Go.ChangeAt
set_option maxRecDepth 100000 in
theorem fnames_lifted (os : Os) (started : os.Started) (H : Type) (enc : TypeId × Value → H) :
    ReturnsInHanded {} Try.checked os 3 .any (Rows.frameNamesSpec.pre6 enc Try.prog Try.f3 Rows.frameNamesRow.domain false) (Rows.frameNamesSpec.post enc Try.prog Try.f3 false true false false) := by
  refine returnsInHanded_of_change_sized (C := Try.checked) own started (by kernel_rfl) Try.func3
    (ChangeSpec.witness6 (enc := enc) (C := Try.checked) false ⟨#[], #[], []⟩ 8 (by kernel_rfl) (by kernel_rfl) (by kernel_rfl) (by kernel_rfl)) ?_
  intro W base args ds gs before hval0 hW _ hsz0 _
  have hsz : (DataW.weightsEach Try.prog (Try.f3.params.toList ++ Rows.frameNamesSpec.plain.varTypes Try.prog) (ds ++ gs)).all (· ≤ reachBytes) = true := hsz0
  have hval : ∀ (j : Nat) t v, Try.f3.params[j]? = some t → args[j]? = some v → Value.okWide Try.prog W .any base t v := hval0
  have hW' := hW
  obtain ⟨p, q, hA0, hV, rfl, _, _⟩ := hW
  have hA : DataW.TrodAll enc Try.prog W 0 (fun _ => true) true Try.f3.params.toList args.toList ds p := hA0
  rw [Try.params3] at hA hval hsz
  obtain ⟨hargs, rfl, rfl⟩ := trodAll_nil hA
  obtain rfl : args = #[] := by cases args; simp_all
  exact law_close laid rfl hW' (by kernel_rfl) rfl Try.underlying4 rfl (fnames_walk W)

theorem frameNames_holds : Rows.FrameNamesSaid :=
  OpenClaim.holds_of_wide 3 Try.f3 rfl rfl rfl rfl rfl rfl rfl ⟨rfl, rfl, rfl, rfl, rfl⟩ rfl rfl rfl rfl rfl (by kernel_rfl) Try.func3 (by kernel_rfl)
    (of_decide_eq_true (by kernel_rfl)) (by unfold Func.isWrapper; first | (rw [if_pos (by decide +kernel)]; kernel_rfl) | (rw [if_neg (by decide +kernel)]; exact ⟨rfl, rfl⟩))
    (fun os started H enc _ => fnames_lifted os started H enc)

#print axioms frameNames_holds

end Go.Proofs.Ytbmllljieoeihaa
