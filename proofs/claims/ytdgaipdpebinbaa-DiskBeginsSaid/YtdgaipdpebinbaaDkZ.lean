/- 'awake' of the laws: the chapter's examples. A contract over the translated program; no condition. -/
import Derived.Test.YtdgaipdpebinbaaDkY
set_option linter.unusedVariables false
set_option linter.unusedSimpArgs false
namespace Go.Proofs.Ytdgaipdpebinbaa
open Go.RowKit Go.Maps Go.Shelf Go.Sort

theorem all7 : ∀ x ∈ [dA, dSy, dNm, dZ, dB, dBs, dTo], x.small ∧ x.b.length ≤ 100 := by
  intro x hx
  simp only [List.mem_cons, List.not_mem_nil, or_false] at hx
  rcases hx with rfl | rfl | rfl | rfl | rfl | rfl | rfl
  all_goals exact ⟨⟨by decide, by decide⟩, by decide⟩
set_option maxHeartbeats 8000000 in
set_option maxRecDepth 40000 in
theorem awake_any (w : World) : Calls Try.prog 14 #[] w (GotYes w true) := by
  have kc : ∀ (w : World) (C : Array Value) (n c g : Nat), g = w.heap.size → (convert 30 30 (.slice (some ⟨g, 0, none⟩) n c)).run Try.prog (w.alloc (.cells C 5)) = .ok (.slice (some ⟨g, 0, none⟩) n c) (w.alloc (.cells C 5 (C.size, C.size + 1))) := fun w C n c g hg => by
    subst hg
    exact Lib.run_convert_bytes_const w 30 5 C n c Try.underlying30 Try.underlying5
  obtain ⟨W, hW, hAw⟩ : ∃ W, W = (((((((((w.alloc (.cells #[.int .u8 120, .int .u8 121] 5 (2, 3))).alloc (.cells #[.int .i64 0, .string ⟨#[97]⟩, .string ⟨#[]⟩, .slice (some ⟨w.heap.size, 0, none⟩) 2 2, .int .i64 0, .int .i64 0, .slice none 0 0] 32)).alloc (.cells #[.int .i64 1, .string ⟨#[97]⟩, .string ⟨#[]⟩, .slice none 0 0, .int .i64 0, .int .i64 0, .slice none 0 0] 32)).alloc (.cells #[.int .i64 4, .string ⟨#[]⟩, .string ⟨#[]⟩, .slice none 0 0, .int .i64 0, .int .i64 0, .slice none 0 0] 32)).alloc (.cells #[.int .u8 122] 5 (1, 2))).alloc (.cells #[.int .u8 49] 5 (1, 2))).alloc (.cells #[.int .i64 0, .string ⟨#[97]⟩, .string ⟨#[]⟩, .slice (some ⟨w.heap.size + 1 + 1 + 1 + 1, 0, none⟩) 1 1, .int .i64 0, .int .i64 0, .slice none 0 0] 32)).alloc (.cells #[.int .i64 0, .string ⟨#[98]⟩, .string ⟨#[]⟩, .slice (some ⟨w.heap.size + 1 + 1 + 1 + 1 + 1, 0, none⟩) 1 1, .int .i64 0, .int .i64 0, .slice none 0 0] 32)).alloc (.cells #[.int .i64 1, .string ⟨#[98]⟩, .string ⟨#[]⟩, .slice none 0 0, .int .i64 0, .int .i64 0, .slice none 0 0] 32)).alloc (.cells #[.int .i64 2, .string ⟨#[98]⟩, .string ⟨#[97]⟩, .slice none 0 0, .int .i64 0, .int .i64 0, .slice none 0 0] 32) ∧ Aw w W w.heap.size := ⟨_, rfl, aw_of w⟩
  have hf1 := Lib.hid fun X hB Ak mk ck hkl hkr h64 => aw_fell (X := X) hAw hB Ak mk ck ([] : List Int) hkl hkr h64 [mdA w.heap.size, mdSy] 2 rfl (by omega) (by simp [awM]) [dA, dSy] rfl
  have hf2 := Lib.hid fun X hB Ak mk ck hkl hkr h64 => aw_fell (X := X) hAw hB Ak mk ck ([] : List Int) hkl hkr h64 [mdA w.heap.size, mdNm] 2 rfl (by omega) (by simp [awM]) [dA, dNm] rfl
  have hf3 := Lib.hid fun X hB Ak mk ck hkl hkr h64 => aw_fell (X := X) hAw hB Ak mk ck ([] : List Int) hkl hkr h64 [mdA w.heap.size, mdSy, mdNm, mdZ (w.heap.size + 1 + 1 + 1 + 1)] 4 rfl (by omega) (by simp [awM]) [dA, dSy, dNm, dZ] rfl
  have hf4 := Lib.hid fun X hB Ak mk ck hkl hkr h64 => aw_fell (X := X) hAw hB Ak mk ck ([] : List Int) hkl hkr h64 [mdA w.heap.size, mdSy, mdNm, mdZ (w.heap.size + 1 + 1 + 1 + 1), mdB (w.heap.size + 1 + 1 + 1 + 1 + 1), mdBs, mdTo] 7 rfl (by omega) (by simp [awM]) [dA, dSy, dNm, dZ, dB, dBs, dTo] rfl
  have hf5 := Lib.hid fun X hB Ak mk ck hkl hkr h64 => aw_fell (X := X) hAw hB Ak mk ck [2] hkl hkr h64 [mdA w.heap.size, mdSy, mdNm, mdZ (w.heap.size + 1 + 1 + 1 + 1), mdB (w.heap.size + 1 + 1 + 1 + 1 + 1), mdBs, mdTo] 7 rfl (by omega) (by simp [awM]) [dA, dSy, dNm, dZ, dB, dBs, dTo] rfl
  have HA := Lib.hid hAw
  have h64 : In64 [] := fun z hz => by simp at hz
  have h642 : In64 [2] := fun z hz => by simp at hz; omega
  clear hAw
  go_enter Try.func14, Try.ntmps14
  go_upto_region 3 with fail
  rw [← hW]
  clear hW kc
  have hB0 : Below W.heap.size W W := Below.refl _ _
  have qt1_0 := HA.out.b1.ever 0 (.int .i64 0) rfl W hB0
  have qt1_1 := HA.out.b1.ever 1 (.string ⟨#[97]⟩) rfl W hB0
  have qt1_2 := HA.out.b1.ever 2 (.string ⟨#[]⟩) rfl W hB0
  have qt1_3 := HA.out.b1.ever 3 (.slice (some ⟨w.heap.size, 0, none⟩) 2 2) rfl W hB0
  have qt1_4 := HA.out.b1.ever 4 (.int .i64 0) rfl W hB0
  have qt1_5 := HA.out.b1.ever 5 (.int .i64 0) rfl W hB0
  have qt1_6 := HA.out.b1.ever 6 (.slice none 0 0) rfl W hB0
  have qt2_0 := HA.out.b2.ever 0 (.int .i64 1) rfl W hB0
  have qt2_1 := HA.out.b2.ever 1 (.string ⟨#[97]⟩) rfl W hB0
  have qt2_2 := HA.out.b2.ever 2 (.string ⟨#[]⟩) rfl W hB0
  have qt2_3 := HA.out.b2.ever 3 (.slice none 0 0) rfl W hB0
  have qt2_4 := HA.out.b2.ever 4 (.int .i64 0) rfl W hB0
  have qt2_5 := HA.out.b2.ever 5 (.int .i64 0) rfl W hB0
  have qt2_6 := HA.out.b2.ever 6 (.slice none 0 0) rfl W hB0
  go_wp2_with fail
  refine (hf1.out W hB0 none 0 0 rfl (RdI.nil _ _) h64 _ rfl _ (by simp only [List.map_cons, List.map_nil, List.flatten_cons, List.flatten_nil, MD.cells, deedCells, mdA, mdSy, mdNm, mdZ, mdB, mdBs, mdTo, List.cons_append, List.nil_append])).mono ?_
  rintro e w1 ⟨own1, d1, rfl, hD1, _, hb1⟩
  replace hb1 := bl_trans hB0 hb1
  clear qt1_0 qt1_1 qt1_2 qt1_3 qt1_4 qt1_5 qt1_6 qt2_0 qt2_1 qt2_2 qt2_3 qt2_4 qt2_5 qt2_6
  have hR1 : Rdy (fellE [] [dA, dSy]) := rdy_fell _ _ (by simp) (fun x hx => all7 x (by simp only [List.mem_cons, List.not_mem_nil, or_false] at hx ⊢; grind))
  have hn1 := fell_names hR1 hD1
  rw [ex1] at hn1
  clear hD1 hR1 hB0
  go_wp2_with fail
  refine hn1.mono ?_
  rintro e w1b ⟨g1, cap1, rfl, _, hb1b⟩
  have hB1 := bl_trans hb1 hb1b
  clear hb1 hb1b hn1 hf1
  have qt1_0 := HA.out.b1.ever 0 (.int .i64 0) rfl w1b hB1
  have qt1_1 := HA.out.b1.ever 1 (.string ⟨#[97]⟩) rfl w1b hB1
  have qt1_2 := HA.out.b1.ever 2 (.string ⟨#[]⟩) rfl w1b hB1
  have qt1_3 := HA.out.b1.ever 3 (.slice (some ⟨w.heap.size, 0, none⟩) 2 2) rfl w1b hB1
  have qt1_4 := HA.out.b1.ever 4 (.int .i64 0) rfl w1b hB1
  have qt1_5 := HA.out.b1.ever 5 (.int .i64 0) rfl w1b hB1
  have qt1_6 := HA.out.b1.ever 6 (.slice none 0 0) rfl w1b hB1
  have qt3_0 := HA.out.b3.ever 0 (.int .i64 4) rfl w1b hB1
  have qt3_1 := HA.out.b3.ever 1 (.string ⟨#[]⟩) rfl w1b hB1
  have qt3_2 := HA.out.b3.ever 2 (.string ⟨#[]⟩) rfl w1b hB1
  have qt3_3 := HA.out.b3.ever 3 (.slice none 0 0) rfl w1b hB1
  have qt3_4 := HA.out.b3.ever 4 (.int .i64 0) rfl w1b hB1
  have qt3_5 := HA.out.b3.ever 5 (.int .i64 0) rfl w1b hB1
  have qt3_6 := HA.out.b3.ever 6 (.slice none 0 0) rfl w1b hB1
  go_wp2_with fail
  refine (hf2.out w1b hB1 none 0 0 rfl (RdI.nil _ _) h64 _ rfl _ (by simp only [List.map_cons, List.map_nil, List.flatten_cons, List.flatten_nil, MD.cells, deedCells, mdA, mdSy, mdNm, mdZ, mdB, mdBs, mdTo, List.cons_append, List.nil_append])).mono ?_
  rintro e w2 ⟨own2, d2, rfl, hD2, _, hb2⟩
  replace hb2 := bl_trans hB1 hb2
  clear qt1_0 qt1_1 qt1_2 qt1_3 qt1_4 qt1_5 qt1_6 qt3_0 qt3_1 qt3_2 qt3_3 qt3_4 qt3_5 qt3_6
  have hR2 : Rdy (fellE [] [dA, dNm]) := rdy_fell _ _ (by simp) (fun x hx => all7 x (by simp only [List.mem_cons, List.not_mem_nil, or_false] at hx ⊢; grind))
  have hn2 := fell_has hR2 hD2 ⟨#[97]⟩ ⟨#[]⟩ (by unfold maxLen; decide) _ _ rfl rfl ex2
  clear hD2 hR2 hB1
  go_wp2_with fail
  refine hn2.mono ?_
  rintro e w2b ⟨rfl, hb2b⟩
  have hB2 := bl_trans hb2 hb2b
  clear hb2 hb2b hn2 hf2
  have qt1_0 := HA.out.b1.ever 0 (.int .i64 0) rfl w2b hB2
  have qt1_1 := HA.out.b1.ever 1 (.string ⟨#[97]⟩) rfl w2b hB2
  have qt1_2 := HA.out.b1.ever 2 (.string ⟨#[]⟩) rfl w2b hB2
  have qt1_3 := HA.out.b1.ever 3 (.slice (some ⟨w.heap.size, 0, none⟩) 2 2) rfl w2b hB2
  have qt1_4 := HA.out.b1.ever 4 (.int .i64 0) rfl w2b hB2
  have qt1_5 := HA.out.b1.ever 5 (.int .i64 0) rfl w2b hB2
  have qt1_6 := HA.out.b1.ever 6 (.slice none 0 0) rfl w2b hB2
  have qt2_0 := HA.out.b2.ever 0 (.int .i64 1) rfl w2b hB2
  have qt2_1 := HA.out.b2.ever 1 (.string ⟨#[97]⟩) rfl w2b hB2
  have qt2_2 := HA.out.b2.ever 2 (.string ⟨#[]⟩) rfl w2b hB2
  have qt2_3 := HA.out.b2.ever 3 (.slice none 0 0) rfl w2b hB2
  have qt2_4 := HA.out.b2.ever 4 (.int .i64 0) rfl w2b hB2
  have qt2_5 := HA.out.b2.ever 5 (.int .i64 0) rfl w2b hB2
  have qt2_6 := HA.out.b2.ever 6 (.slice none 0 0) rfl w2b hB2
  have qt3_0 := HA.out.b3.ever 0 (.int .i64 4) rfl w2b hB2
  have qt3_1 := HA.out.b3.ever 1 (.string ⟨#[]⟩) rfl w2b hB2
  have qt3_2 := HA.out.b3.ever 2 (.string ⟨#[]⟩) rfl w2b hB2
  have qt3_3 := HA.out.b3.ever 3 (.slice none 0 0) rfl w2b hB2
  have qt3_4 := HA.out.b3.ever 4 (.int .i64 0) rfl w2b hB2
  have qt3_5 := HA.out.b3.ever 5 (.int .i64 0) rfl w2b hB2
  have qt3_6 := HA.out.b3.ever 6 (.slice none 0 0) rfl w2b hB2
  have qt4_0 := HA.out.b6.ever 0 (.int .i64 0) rfl w2b hB2
  have qt4_1 := HA.out.b6.ever 1 (.string ⟨#[97]⟩) rfl w2b hB2
  have qt4_2 := HA.out.b6.ever 2 (.string ⟨#[]⟩) rfl w2b hB2
  have qt4_3 := HA.out.b6.ever 3 (.slice (some ⟨w.heap.size + 1 + 1 + 1 + 1, 0, none⟩) 1 1) rfl w2b hB2
  have qt4_4 := HA.out.b6.ever 4 (.int .i64 0) rfl w2b hB2
  have qt4_5 := HA.out.b6.ever 5 (.int .i64 0) rfl w2b hB2
  have qt4_6 := HA.out.b6.ever 6 (.slice none 0 0) rfl w2b hB2
  go_wp2_with fail
  refine (hf3.out w2b hB2 none 0 0 rfl (RdI.nil _ _) h64 _ rfl _ (by simp only [List.map_cons, List.map_nil, List.flatten_cons, List.flatten_nil, MD.cells, deedCells, mdA, mdSy, mdNm, mdZ, mdB, mdBs, mdTo, List.cons_append, List.nil_append])).mono ?_
  rintro e w3 ⟨own3, d3, rfl, hD3, _, hb3⟩
  replace hb3 := bl_trans hB2 hb3
  clear qt1_0 qt1_1 qt1_2 qt1_3 qt1_4 qt1_5 qt1_6 qt2_0 qt2_1 qt2_2 qt2_3 qt2_4 qt2_5 qt2_6 qt3_0 qt3_1 qt3_2 qt3_3 qt3_4 qt3_5 qt3_6 qt4_0 qt4_1 qt4_2 qt4_3 qt4_4 qt4_5 qt4_6
  have hR3 : Rdy (fellE [] [dA, dSy, dNm, dZ]) := rdy_fell _ _ (by simp) (fun x hx => all7 x (by simp only [List.mem_cons, List.not_mem_nil, or_false] at hx ⊢; grind))
  have hn3 := fell_has hR3 hD3 ⟨#[97]⟩ ⟨#[120, 121]⟩ (by unfold maxLen; decide) _ _ rfl rfl ex3
  clear hD3 hR3 hB2
  go_wp2_with fail
  refine hn3.mono ?_
  rintro e w3b ⟨rfl, hb3b⟩
  have hB3 := bl_trans hb3 hb3b
  clear hb3 hb3b hn3 hf3
  have qt1_0 := HA.out.b1.ever 0 (.int .i64 0) rfl w3b hB3
  have qt1_1 := HA.out.b1.ever 1 (.string ⟨#[97]⟩) rfl w3b hB3
  have qt1_2 := HA.out.b1.ever 2 (.string ⟨#[]⟩) rfl w3b hB3
  have qt1_3 := HA.out.b1.ever 3 (.slice (some ⟨w.heap.size, 0, none⟩) 2 2) rfl w3b hB3
  have qt1_4 := HA.out.b1.ever 4 (.int .i64 0) rfl w3b hB3
  have qt1_5 := HA.out.b1.ever 5 (.int .i64 0) rfl w3b hB3
  have qt1_6 := HA.out.b1.ever 6 (.slice none 0 0) rfl w3b hB3
  have qt2_0 := HA.out.b2.ever 0 (.int .i64 1) rfl w3b hB3
  have qt2_1 := HA.out.b2.ever 1 (.string ⟨#[97]⟩) rfl w3b hB3
  have qt2_2 := HA.out.b2.ever 2 (.string ⟨#[]⟩) rfl w3b hB3
  have qt2_3 := HA.out.b2.ever 3 (.slice none 0 0) rfl w3b hB3
  have qt2_4 := HA.out.b2.ever 4 (.int .i64 0) rfl w3b hB3
  have qt2_5 := HA.out.b2.ever 5 (.int .i64 0) rfl w3b hB3
  have qt2_6 := HA.out.b2.ever 6 (.slice none 0 0) rfl w3b hB3
  have qt3_0 := HA.out.b3.ever 0 (.int .i64 4) rfl w3b hB3
  have qt3_1 := HA.out.b3.ever 1 (.string ⟨#[]⟩) rfl w3b hB3
  have qt3_2 := HA.out.b3.ever 2 (.string ⟨#[]⟩) rfl w3b hB3
  have qt3_3 := HA.out.b3.ever 3 (.slice none 0 0) rfl w3b hB3
  have qt3_4 := HA.out.b3.ever 4 (.int .i64 0) rfl w3b hB3
  have qt3_5 := HA.out.b3.ever 5 (.int .i64 0) rfl w3b hB3
  have qt3_6 := HA.out.b3.ever 6 (.slice none 0 0) rfl w3b hB3
  have qt4_0 := HA.out.b6.ever 0 (.int .i64 0) rfl w3b hB3
  have qt4_1 := HA.out.b6.ever 1 (.string ⟨#[97]⟩) rfl w3b hB3
  have qt4_2 := HA.out.b6.ever 2 (.string ⟨#[]⟩) rfl w3b hB3
  have qt4_3 := HA.out.b6.ever 3 (.slice (some ⟨w.heap.size + 1 + 1 + 1 + 1, 0, none⟩) 1 1) rfl w3b hB3
  have qt4_4 := HA.out.b6.ever 4 (.int .i64 0) rfl w3b hB3
  have qt4_5 := HA.out.b6.ever 5 (.int .i64 0) rfl w3b hB3
  have qt4_6 := HA.out.b6.ever 6 (.slice none 0 0) rfl w3b hB3
  have qt5_0 := HA.out.b7.ever 0 (.int .i64 0) rfl w3b hB3
  have qt5_1 := HA.out.b7.ever 1 (.string ⟨#[98]⟩) rfl w3b hB3
  have qt5_2 := HA.out.b7.ever 2 (.string ⟨#[]⟩) rfl w3b hB3
  have qt5_3 := HA.out.b7.ever 3 (.slice (some ⟨w.heap.size + 1 + 1 + 1 + 1 + 1, 0, none⟩) 1 1) rfl w3b hB3
  have qt5_4 := HA.out.b7.ever 4 (.int .i64 0) rfl w3b hB3
  have qt5_5 := HA.out.b7.ever 5 (.int .i64 0) rfl w3b hB3
  have qt5_6 := HA.out.b7.ever 6 (.slice none 0 0) rfl w3b hB3
  have qt6_0 := HA.out.b8.ever 0 (.int .i64 1) rfl w3b hB3
  have qt6_1 := HA.out.b8.ever 1 (.string ⟨#[98]⟩) rfl w3b hB3
  have qt6_2 := HA.out.b8.ever 2 (.string ⟨#[]⟩) rfl w3b hB3
  have qt6_3 := HA.out.b8.ever 3 (.slice none 0 0) rfl w3b hB3
  have qt6_4 := HA.out.b8.ever 4 (.int .i64 0) rfl w3b hB3
  have qt6_5 := HA.out.b8.ever 5 (.int .i64 0) rfl w3b hB3
  have qt6_6 := HA.out.b8.ever 6 (.slice none 0 0) rfl w3b hB3
  have qt7_0 := HA.out.b9.ever 0 (.int .i64 2) rfl w3b hB3
  have qt7_1 := HA.out.b9.ever 1 (.string ⟨#[98]⟩) rfl w3b hB3
  have qt7_2 := HA.out.b9.ever 2 (.string ⟨#[97]⟩) rfl w3b hB3
  have qt7_3 := HA.out.b9.ever 3 (.slice none 0 0) rfl w3b hB3
  have qt7_4 := HA.out.b9.ever 4 (.int .i64 0) rfl w3b hB3
  have qt7_5 := HA.out.b9.ever 5 (.int .i64 0) rfl w3b hB3
  have qt7_6 := HA.out.b9.ever 6 (.slice none 0 0) rfl w3b hB3
  go_wp2_with fail
  refine (hf4.out w3b hB3 none 0 0 rfl (RdI.nil _ _) h64 _ rfl _ (by simp only [List.map_cons, List.map_nil, List.flatten_cons, List.flatten_nil, MD.cells, deedCells, mdA, mdSy, mdNm, mdZ, mdB, mdBs, mdTo, List.cons_append, List.nil_append])).mono ?_
  rintro e w4 ⟨own4, d4, rfl, hD4, _, hb4⟩
  replace hb4 := bl_trans hB3 hb4
  clear qt1_0 qt1_1 qt1_2 qt1_3 qt1_4 qt1_5 qt1_6 qt2_0 qt2_1 qt2_2 qt2_3 qt2_4 qt2_5 qt2_6 qt3_0 qt3_1 qt3_2 qt3_3 qt3_4 qt3_5 qt3_6 qt4_0 qt4_1 qt4_2 qt4_3 qt4_4 qt4_5 qt4_6 qt5_0 qt5_1 qt5_2 qt5_3 qt5_4 qt5_5 qt5_6 qt6_0 qt6_1 qt6_2 qt6_3 qt6_4 qt6_5 qt6_6 qt7_0 qt7_1 qt7_2 qt7_3 qt7_4 qt7_5 qt7_6
  have hR4 : Rdy (fellE [] [dA, dSy, dNm, dZ, dB, dBs, dTo]) := rdy_fell _ _ (by simp) (fun x hx => all7 x (by simp only [List.mem_cons, List.not_mem_nil, or_false] at hx ⊢; grind))
  have hn4 := fell_has hR4 hD4 ⟨#[97]⟩ ⟨#[120, 121]⟩ (by unfold maxLen; decide) _ _ rfl rfl ex4
  clear hD4 hR4 hB3
  go_wp2_with fail
  refine hn4.mono ?_
  rintro e w4b ⟨rfl, hb4b⟩
  have hB4 := bl_trans hb4 hb4b
  clear hb4 hb4b hn4 hf4
  have hB4x : Below W.heap.size W (w4b.alloc (.cells #[.int .i64 2] 3)) := bl_alloc hB4 _
  have hrk : RdI (w4b.alloc (.cells #[.int .i64 2] 3)) (some ⟨w4b.heap.size, 0, none⟩) [2] := fun _ => ⟨_, rfl, fun j hj => by
    have hj0 : j = 0 := by simp at hj; omega
    subst hj0
    simp [Addr.add]⟩
  have qt1_0 := HA.out.b1.ever 0 (.int .i64 0) rfl (w4b.alloc (.cells #[.int .i64 2] 3)) hB4x
  have qt1_1 := HA.out.b1.ever 1 (.string ⟨#[97]⟩) rfl (w4b.alloc (.cells #[.int .i64 2] 3)) hB4x
  have qt1_2 := HA.out.b1.ever 2 (.string ⟨#[]⟩) rfl (w4b.alloc (.cells #[.int .i64 2] 3)) hB4x
  have qt1_3 := HA.out.b1.ever 3 (.slice (some ⟨w.heap.size, 0, none⟩) 2 2) rfl (w4b.alloc (.cells #[.int .i64 2] 3)) hB4x
  have qt1_4 := HA.out.b1.ever 4 (.int .i64 0) rfl (w4b.alloc (.cells #[.int .i64 2] 3)) hB4x
  have qt1_5 := HA.out.b1.ever 5 (.int .i64 0) rfl (w4b.alloc (.cells #[.int .i64 2] 3)) hB4x
  have qt1_6 := HA.out.b1.ever 6 (.slice none 0 0) rfl (w4b.alloc (.cells #[.int .i64 2] 3)) hB4x
  have qt2_0 := HA.out.b2.ever 0 (.int .i64 1) rfl (w4b.alloc (.cells #[.int .i64 2] 3)) hB4x
  have qt2_1 := HA.out.b2.ever 1 (.string ⟨#[97]⟩) rfl (w4b.alloc (.cells #[.int .i64 2] 3)) hB4x
  have qt2_2 := HA.out.b2.ever 2 (.string ⟨#[]⟩) rfl (w4b.alloc (.cells #[.int .i64 2] 3)) hB4x
  have qt2_3 := HA.out.b2.ever 3 (.slice none 0 0) rfl (w4b.alloc (.cells #[.int .i64 2] 3)) hB4x
  have qt2_4 := HA.out.b2.ever 4 (.int .i64 0) rfl (w4b.alloc (.cells #[.int .i64 2] 3)) hB4x
  have qt2_5 := HA.out.b2.ever 5 (.int .i64 0) rfl (w4b.alloc (.cells #[.int .i64 2] 3)) hB4x
  have qt2_6 := HA.out.b2.ever 6 (.slice none 0 0) rfl (w4b.alloc (.cells #[.int .i64 2] 3)) hB4x
  have qt3_0 := HA.out.b3.ever 0 (.int .i64 4) rfl (w4b.alloc (.cells #[.int .i64 2] 3)) hB4x
  have qt3_1 := HA.out.b3.ever 1 (.string ⟨#[]⟩) rfl (w4b.alloc (.cells #[.int .i64 2] 3)) hB4x
  have qt3_2 := HA.out.b3.ever 2 (.string ⟨#[]⟩) rfl (w4b.alloc (.cells #[.int .i64 2] 3)) hB4x
  have qt3_3 := HA.out.b3.ever 3 (.slice none 0 0) rfl (w4b.alloc (.cells #[.int .i64 2] 3)) hB4x
  have qt3_4 := HA.out.b3.ever 4 (.int .i64 0) rfl (w4b.alloc (.cells #[.int .i64 2] 3)) hB4x
  have qt3_5 := HA.out.b3.ever 5 (.int .i64 0) rfl (w4b.alloc (.cells #[.int .i64 2] 3)) hB4x
  have qt3_6 := HA.out.b3.ever 6 (.slice none 0 0) rfl (w4b.alloc (.cells #[.int .i64 2] 3)) hB4x
  have qt4_0 := HA.out.b6.ever 0 (.int .i64 0) rfl (w4b.alloc (.cells #[.int .i64 2] 3)) hB4x
  have qt4_1 := HA.out.b6.ever 1 (.string ⟨#[97]⟩) rfl (w4b.alloc (.cells #[.int .i64 2] 3)) hB4x
  have qt4_2 := HA.out.b6.ever 2 (.string ⟨#[]⟩) rfl (w4b.alloc (.cells #[.int .i64 2] 3)) hB4x
  have qt4_3 := HA.out.b6.ever 3 (.slice (some ⟨w.heap.size + 1 + 1 + 1 + 1, 0, none⟩) 1 1) rfl (w4b.alloc (.cells #[.int .i64 2] 3)) hB4x
  have qt4_4 := HA.out.b6.ever 4 (.int .i64 0) rfl (w4b.alloc (.cells #[.int .i64 2] 3)) hB4x
  have qt4_5 := HA.out.b6.ever 5 (.int .i64 0) rfl (w4b.alloc (.cells #[.int .i64 2] 3)) hB4x
  have qt4_6 := HA.out.b6.ever 6 (.slice none 0 0) rfl (w4b.alloc (.cells #[.int .i64 2] 3)) hB4x
  have qt5_0 := HA.out.b7.ever 0 (.int .i64 0) rfl (w4b.alloc (.cells #[.int .i64 2] 3)) hB4x
  have qt5_1 := HA.out.b7.ever 1 (.string ⟨#[98]⟩) rfl (w4b.alloc (.cells #[.int .i64 2] 3)) hB4x
  have qt5_2 := HA.out.b7.ever 2 (.string ⟨#[]⟩) rfl (w4b.alloc (.cells #[.int .i64 2] 3)) hB4x
  have qt5_3 := HA.out.b7.ever 3 (.slice (some ⟨w.heap.size + 1 + 1 + 1 + 1 + 1, 0, none⟩) 1 1) rfl (w4b.alloc (.cells #[.int .i64 2] 3)) hB4x
  have qt5_4 := HA.out.b7.ever 4 (.int .i64 0) rfl (w4b.alloc (.cells #[.int .i64 2] 3)) hB4x
  have qt5_5 := HA.out.b7.ever 5 (.int .i64 0) rfl (w4b.alloc (.cells #[.int .i64 2] 3)) hB4x
  have qt5_6 := HA.out.b7.ever 6 (.slice none 0 0) rfl (w4b.alloc (.cells #[.int .i64 2] 3)) hB4x
  have qt6_0 := HA.out.b8.ever 0 (.int .i64 1) rfl (w4b.alloc (.cells #[.int .i64 2] 3)) hB4x
  have qt6_1 := HA.out.b8.ever 1 (.string ⟨#[98]⟩) rfl (w4b.alloc (.cells #[.int .i64 2] 3)) hB4x
  have qt6_2 := HA.out.b8.ever 2 (.string ⟨#[]⟩) rfl (w4b.alloc (.cells #[.int .i64 2] 3)) hB4x
  have qt6_3 := HA.out.b8.ever 3 (.slice none 0 0) rfl (w4b.alloc (.cells #[.int .i64 2] 3)) hB4x
  have qt6_4 := HA.out.b8.ever 4 (.int .i64 0) rfl (w4b.alloc (.cells #[.int .i64 2] 3)) hB4x
  have qt6_5 := HA.out.b8.ever 5 (.int .i64 0) rfl (w4b.alloc (.cells #[.int .i64 2] 3)) hB4x
  have qt6_6 := HA.out.b8.ever 6 (.slice none 0 0) rfl (w4b.alloc (.cells #[.int .i64 2] 3)) hB4x
  have qt7_0 := HA.out.b9.ever 0 (.int .i64 2) rfl (w4b.alloc (.cells #[.int .i64 2] 3)) hB4x
  have qt7_1 := HA.out.b9.ever 1 (.string ⟨#[98]⟩) rfl (w4b.alloc (.cells #[.int .i64 2] 3)) hB4x
  have qt7_2 := HA.out.b9.ever 2 (.string ⟨#[97]⟩) rfl (w4b.alloc (.cells #[.int .i64 2] 3)) hB4x
  have qt7_3 := HA.out.b9.ever 3 (.slice none 0 0) rfl (w4b.alloc (.cells #[.int .i64 2] 3)) hB4x
  have qt7_4 := HA.out.b9.ever 4 (.int .i64 0) rfl (w4b.alloc (.cells #[.int .i64 2] 3)) hB4x
  have qt7_5 := HA.out.b9.ever 5 (.int .i64 0) rfl (w4b.alloc (.cells #[.int .i64 2] 3)) hB4x
  have qt7_6 := HA.out.b9.ever 6 (.slice none 0 0) rfl (w4b.alloc (.cells #[.int .i64 2] 3)) hB4x
  go_wp2_with fail
  refine (hf5.out (w4b.alloc (.cells #[.int .i64 2] 3)) hB4x (some ⟨w4b.heap.size, 0, none⟩) 1 1 rfl hrk h642 _ (by simp) _ (by simp only [List.map_cons, List.map_nil, List.flatten_cons, List.flatten_nil, MD.cells, deedCells, mdA, mdSy, mdNm, mdZ, mdB, mdBs, mdTo, List.cons_append, List.nil_append])).mono ?_
  rintro e w5 ⟨own5, d5, rfl, hD5, _, hb5⟩
  replace hb5 := bl_trans hB4x hb5
  clear qt1_0 qt1_1 qt1_2 qt1_3 qt1_4 qt1_5 qt1_6 qt2_0 qt2_1 qt2_2 qt2_3 qt2_4 qt2_5 qt2_6 qt3_0 qt3_1 qt3_2 qt3_3 qt3_4 qt3_5 qt3_6 qt4_0 qt4_1 qt4_2 qt4_3 qt4_4 qt4_5 qt4_6 qt5_0 qt5_1 qt5_2 qt5_3 qt5_4 qt5_5 qt5_6 qt6_0 qt6_1 qt6_2 qt6_3 qt6_4 qt6_5 qt6_6 qt7_0 qt7_1 qt7_2 qt7_3 qt7_4 qt7_5 qt7_6
  have hR5 : Rdy (fellE [2] [dA, dSy, dNm, dZ, dB, dBs, dTo]) := rdy_fell _ _ (by simp) (fun x hx => all7 x (by simp only [List.mem_cons, List.not_mem_nil, or_false] at hx ⊢; grind))
  have hn5 := fell_has hR5 hD5 ⟨#[97]⟩ ⟨#[49]⟩ (by unfold maxLen; decide) _ _ rfl rfl ex5
  clear hD5 hR5 hB4x
  go_wp2_with fail
  refine hn5.mono ?_
  rintro e w5b ⟨rfl, hb5b⟩
  have hB5 := bl_trans hb5 hb5b
  clear hb5 hb5b hn5 hf5
  go_wp2_with fail
  go_ret
  exact ⟨rfl, bl_trans HA.out.bl hB5⟩
end Go.Proofs.Ytdgaipdpebinbaa
