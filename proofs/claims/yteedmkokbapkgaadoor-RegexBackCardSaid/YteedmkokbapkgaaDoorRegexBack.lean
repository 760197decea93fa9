/- RegexBack: what was printed is parsed as it was, whatever pattern is handed in. Under: math/bits' table as the row lists it. -/
import Derived.Test.YteedmkokbapkgaaDoorRgWorks
import Derived.Test.YteedmkokbapkgaaDoorRgLw
import Derived.Test.YteedmkokbapkgaaDoorRgRow
set_option linter.unusedVariables false
set_option linter.unusedSimpArgs false
namespace Go.Proofs.YteedmkokbapkgaaDoor
open Go.ChangeShapes Go.WideShapes Go.ChangeAt Go.RowKit

set_option maxRecDepth 100000 in
set_option maxHeartbeats 8000000 in
theorem back_walk (l : List RN) (A : Option Addr) (n c : Nat) (hn : l.length = n) (hc : n ≤ c) (hm : c * 56 ≤ 140737488351232) (w : World) (hT : Tab w) (hr : RdR w A l) :
    Calls Tryd.prog 5 #[.agg #[.slice A n c]] w (Yes w) := by
  generalize hQ : Yes w = Q
  have HQ := Lib.hid hQ
  have HT := Lib.hid hT
  have HR := Lib.hid hr
  have HN := Lib.hid hn
  have HM := Lib.hid hm
  clear hQ hT hr hn hm
  have k1 := heap_alloc_new w (.cells #[.slice A n c] 24)
  have b1 := bl_alloc (Below.refl w.heap.size w) (.cells #[.slice A n c] 24)
  go_enter Tryd.func5, Tryd.ntmps5
  go_wp2_with fail
  refine (works_any _ (HT.out.below b1)).mono ?_
  rintro e w2 ⟨rfl, hb2⟩
  have k2 := (hb2.block w.heap.size (by simp)).trans k1
  have c2 : w2.cell? ⟨w.heap.size, 0, none⟩ = some (.slice A n c) := cell_of_row w2 _ 0 _ _ _ k2
  have B2 := Lib.hid (bl_trans b1 hb2)
  have R2 := Lib.hid (HR.out.below B2.out)
  have T2 := Lib.hid (HT.out.below B2.out)
  clear k1 b1 hb2 HT HR
  by_cases hk : checkE l = 0
  · obtain ⟨t, rfl, hts, ht2⟩ := tree_or hk
    have hnt : t.size = n := by rw [hts, HN.out]
    have hn2 : n ≤ 256 := by omega
    clear hts
    go_wp2_with fail
    refine (print_tree t A n c hnt hn2 _ T2.out R2.out hc).mono ?_
    rintro e w3 ⟨rfl, hb3⟩
    have k3 := (hb3.block w.heap.size (Array.getElem?_eq_some_iff.1 k2).1).trans k2
    have c3 : w3.cell? ⟨w.heap.size, 0, none⟩ = some (.slice A n c) := cell_of_row w3 _ 0 _ _ _ k3
    have B3 := Lib.hid (bl_trans B2.out hb3)
    have R3 := Lib.hid (R2.out.below hb3)
    clear k2 c2 hb3 B2 R2 T2
    by_cases hlen : 1024 < (bareW t).length
    · rw [if_pos hlen]
      clear hlen
      go_wp2_with fail
      refine (check_any (flat 0 t) A n c HN.out _ R3.out hc).mono ?_
      rw [hk]
      rintro e w4 ⟨rfl, hb4⟩
      have B4 := Lib.hid (bl_trans B3.out hb4)
      have k4 := (hb4.block w.heap.size (Array.getElem?_eq_some_iff.1 k3).1).trans k3
      have c4 : w4.cell? ⟨w.heap.size, 0, none⟩ = some (.slice A n c) := cell_of_row w4 _ 0 _ _ _ k4
      have R4 := Lib.hid (R3.out.below hb4)
      clear k3 c3 hb4 B3 R3
      go_wp2_with fail
      refine (check_any (flat 0 t) A n c HN.out _ R4.out hc).mono ?_
      rw [hk]
      rintro e w5 ⟨rfl, hb5⟩
      have B5 := Lib.hid (bl_trans B4.out hb5)
      clear hb5 k4 c4 B4 R4
      go_wp2_with fail
      exact post_is HQ ⟨rfl, B5.out⟩
    · rw [if_neg hlen]
      obtain ⟨f, hf, hp⟩ := parse_back t (by omega)
      have hpar := parse_short (bareW t) (by omega) f hf
      rw [hp] at hpar
      have HPAR := Lib.hid hpar
      clear hf hp hpar hlen
      generalize bareW t = s at *
      go_wp2_with fail
      refine (HPAR.out _).mono ?_
      rintro e w4 ⟨v, rfl, ho, hb4⟩
      obtain ⟨A4, n4, c4, rfl, HL4, hc4, hm4, hr4⟩ := ho.form
      have b5 := bl_alloc hb4 (.cells #[.slice A4 n4 c4] 24)
      have k4 := (b5.block w.heap.size (Array.getElem?_eq_some_iff.1 k3).1).trans k3
      have k5 := heap_alloc_new w4 (.cells #[.slice A4 n4 c4] 24)
      have c5 : (w4.alloc (.cells #[.slice A4 n4 c4] 24)).cell? ⟨w.heap.size, 0, none⟩ = some (.slice A n c) := cell_of_row _ _ 0 _ _ _ k4
      have d5 : (w4.alloc (.cells #[.slice A4 n4 c4] 24)).cell? ⟨w4.heap.size, 0, none⟩ = some (.slice A4 n4 c4) := cell_of_row _ _ 0 _ _ _ k5
      have B5 := Lib.hid (bl_trans B3.out b5)
      have R5 := Lib.hid (R3.out.below b5)
      have S5 := Lib.hid (hr4.below (bl_alloc (Below.refl _ _) (.cells #[.slice A4 n4 c4] 24)))
      have hsm := same_true (flat 0 t) (flat 0 t) rfl A n c A4 n4 c4 HN.out HL4.out (by simp only [maxLen]; omega) _ R5.out S5.out
      have HSM := Lib.hid hsm
      clear hsm ho hb4 b5 k4 k5 k3 c3 hr4 hm4 hc4 B3 R3 R5 S5 HPAR
      go_wp2_with fail
      refine HSM.out.mono ?_
      rintro e w6 ⟨rfl, hb6⟩
      have B6 := Lib.hid (bl_trans B5.out hb6)
      clear hb6
      go_wp2_with fail
      exact post_is HQ ⟨rfl, B6.out⟩
  · go_wp2_with fail
    refine (print_bad l A n c HN.out _ R2.out hc hk).mono ?_
    rintro e w3 ⟨rfl, hb3⟩
    have k3 := (hb3.block w.heap.size (Array.getElem?_eq_some_iff.1 k2).1).trans k2
    have c3 : w3.cell? ⟨w.heap.size, 0, none⟩ = some (.slice A n c) := cell_of_row w3 _ 0 _ _ _ k3
    have B3 := Lib.hid (bl_trans B2.out hb3)
    have R3 := Lib.hid (R2.out.below hb3)
    clear k2 c2 hb3 B2 R2 T2
    have hck := check_any l A n c HN.out w3 R3.out hc
    have HCK := Lib.hid hck
    clear hck
    generalize checkE l = k at *
    have h' : ((k : Int) == 0) = false := by simp; omega
    go_wp2_with fail
    refine HCK.out.mono ?_
    rintro e w4 ⟨rfl, hb4⟩
    have B4 := Lib.hid (bl_trans B3.out hb4)
    clear hb4
    go_wp2_with fail
    exact post_is HQ ⟨rfl, B4.out⟩

theorem laid_met (os : Os) : laidMet Tryd.prog laidL ((laidWorld os).forCall (fun _ _ => 0) ⟨#[], #[.agg #[.slice none 0 0]], []⟩).memory :=
  laidMet_of_run' 8 (by kernel_rfl) (by kernel_rfl)
theorem reads (os : Os) {H : Type} (enc : TypeId × Value → H) : ∃ places, DataW.whole enc Tryd.prog ((laidWorld os).forCall (fun _ _ => 0) ⟨#[], #[.agg #[.slice none 0 0]], []⟩).memory Tryd.f5.params.toList Rows.regexBackSpec.vars false (#[.agg #[.slice none 0 0]] : Array Value).toList 8 = some ([.agg [.nil]], [], places) :=
  ⟨[], by kernel_rfl⟩
set_option maxRecDepth 100000 in
theorem RegexBack_said : Rows.RegexBackSaid :=
  OpenClaim.holds_of_cond 5 Tryd.f5 rfl rfl rfl rfl rfl rfl rfl ⟨rfl, rfl, rfl, rfl, rfl⟩ rfl rfl rfl rfl rfl (by kernel_rfl) Tryd.func5 (by kernel_rfl)
    (of_decide_eq_true (by kernel_rfl)) (by unfold Func.isWrapper; first | (rw [if_pos (by decide +kernel)]; kernel_rfl) | (rw [if_neg (by decide +kernel)]; exact ⟨rfl, rfl⟩))
    (fun os started H enc _ F => by
      rw [OpenClaim.pre_eq_preRow]
      obtain ⟨places, hx⟩ := reads os enc
      exact law_lifted_laid (s := Rows.regexBackSpec) (conds := Rows.regexBackRow.domain) Tryd.func5 (by kernel_rfl) rfl
        (fun H ds h => by rw [Tryd.params5] at h; match ds, h with | [_], _ => rfl) (by kernel_rfl) (by kernel_rfl) os started H enc F
        (witness_row_at (enc := enc) (C := Tryd.checked) false (laidWorld os) #[.agg #[.slice none 0 0]] rfl (by kernel_rfl) (by kernel_rfl) (by kernel_rfl)
          (OpenSpec.preRow_of_cond 8 hx (by kernel_rfl) (fun k hk => by cases hk) (by kernel_rfl) (laid_met os)))
        (fun W args ds p h hT => by
          obtain ⟨⟨base, hok⟩, hA, hl⟩ := h
          rw [Tryd.params5] at hok hA hl
          obtain ⟨v0, d0, rfl, rfl, g0⟩ := trodAll_one hA
          obtain ⟨A0, n0, c0, l0, rfl, e0, a0, b0, r0⟩ := open_rex (hok 0 24 v0 rfl rfl) g0 (hl 0 24 d0 rfl rfl)
          exact back_walk l0 A0 n0 c0 e0 a0 b0 W hT r0))

theorem plain_params (f : FuncId) (fn : Func) (hf : Tryd.pinned.checked.prog.funcNamed "incunable/incunablelaw09.RegexBack" = some f) (hfn : Tryd.pinned.checked.prog.funcs[f]? = some fn) :
    true = Tryd.pinned.checked.prog.looks [] ∧ ∀ (j : Nat) t, fn.params[j]? = some t → Tryd.pinned.checked.prog.wantsStandIn t = false := by
  obtain rfl : f = 5 := Option.some.inj ((show Tryd.prog.funcNamed "incunable/incunablelaw09.RegexBack" = some 5 by kernel_rfl).symm.trans hf) |>.symm
  obtain rfl : fn = Tryd.f5 := (Option.some.inj (Tryd.func5.symm.trans hfn)).symm
  refine ⟨by kernel_rfl, fun j t ht => ?_⟩
  rw [Tryd.params5] at ht
  have hm : t ∈ [24] := by simpa using Array.mem_of_getElem? ht
  have hall : ([24].all fun u => !Tryd.prog.wantsStandIn u) = true := by kernel_rfl
  exact (show Tryd.prog.wantsStandIn t = false by simpa using List.all_eq_true.1 hall t hm)

/-- The card. -/
theorem RegexBackCard_holds : Rows.RegexBackCardSaid :=
  Claim7.holds_tied_plain_at .later [] _ _ _ _ RegexBack_said (fun _ h => by cases h) (by kernel_rfl) (fun _ h => by cases h) regexBack_row_tie rfl ⟨rfl, rfl⟩ (by kernel_rfl) rfl plain_params (by kernel_rfl)

end Go.Proofs.YteedmkokbapkgaaDoor
