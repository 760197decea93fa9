/- RegexAgain: what is parsed may be; printed and parsed it is the same, whatever text is handed in. Under: math/bits' table as the row lists it. -/
import Derived.Test.YteedmkokbapkgaaDoorRgWorks
import Derived.Test.YteedmkokbapkgaaDoorRgLw
import Derived.Test.YteedmkokbapkgaaDoorRgRow
set_option linter.unusedVariables false
set_option linter.unusedSimpArgs false
namespace Go.Proofs.YteedmkokbapkgaaDoor
open Go.ChangeShapes Go.WideShapes Go.ChangeAt Go.RowKit

/-- What a text is read as: a tree, or why not. -/
def Fine (s : List UInt8) (p : List RN × Nat × Nat) : Prop :=
  (p.2.2 = 0 ∧ p.2.1 = 0 ∧ ∃ t : Rx, p.1 = flat 0 t ∧ t.size ≤ 256) ∨ (p.1 = [] ∧ p.2.1 ≤ s.length ∧ (p.2.2 = 90 ∨ p.2.1 = 0 ∧ p.2.2 = 5))
theorem parse_sum (s : List UInt8) (hs : s.length ≤ maxLen) : ∃ p, Fine s p ∧ ∀ w, Calls Tryd.prog 22 #[.string ⟨s.toArray⟩] w (GotP w p) := by
  by_cases h : 1024 < s.length
  · exact ⟨([], 0, 5), Or.inr ⟨rfl, Nat.zero_le _, Or.inr ⟨rfl, rfl⟩⟩, parse_long s h hs⟩
  · have hf := parM_out (fuelM .ways s.length + 1) .ways s (by omega)
    refine ⟨_, ?_, parse_short s (by omega) _ hf⟩
    generalize parM (fuelM .ways s.length + 1) .ways s = r at hf
    cases r with
    | out => exact absurd rfl hf
    | bad r => exact Or.inr ⟨rfl, Nat.sub_le _ _, Or.inl rfl⟩
    | ok t r =>
      cases r with
      | nil =>
        rw [ReadE, ParseE]
        by_cases ht : 256 < t.size
        · rw [if_pos ht]
          exact Or.inr ⟨rfl, Nat.zero_le _, Or.inr ⟨rfl, rfl⟩⟩
        · rw [if_neg ht]
          exact Or.inl ⟨rfl, rfl, t, rfl, by omega⟩
      | cons x r => exact Or.inr ⟨rfl, Nat.sub_le _ _, Or.inl rfl⟩

set_option maxRecDepth 100000 in
set_option maxHeartbeats 8000000 in
theorem again_walk (s : List UInt8) (hs : s.length ≤ maxLen) (w : World) (hT : Tab w) : Calls Tryd.prog 6 #[.string ⟨s.toArray⟩] w (Yes w) := by
  have hlen := fun ty => len_at s #[9] ty rfl
  have hsm : (s.length : Int) ≤ 9223372036854775807 := by simp only [maxLen] at hs; omega
  obtain ⟨⟨l, at', er⟩, hfine, hpar⟩ := parse_sum s hs
  have HPAR := Lib.hid hpar
  generalize hQ : Yes w = Q
  have HQ := Lib.hid hQ
  have HT := Lib.hid hT
  clear hQ hT hpar hs
  go_enter Tryd.func6, Tryd.ntmps6
  go_wp2_with fail
  refine (works_any _ HT.out).mono ?_
  rintro e w2 ⟨rfl, hb2⟩
  have B2 := Lib.hid hb2
  have T2 := Lib.hid (HT.out.below hb2)
  clear hb2 HT
  go_wp2_with fail
  refine (HPAR.out _).mono ?_
  rintro e w3 ⟨v, rfl, ho, hb3⟩
  obtain ⟨A3, n3, c3, rfl, HL3, hc3, hm3, hr3⟩ := ho.form
  have b4 := bl_alloc hb3 (.cells #[.slice A3 n3 c3] 24)
  have k4 := heap_alloc_new w3 (.cells #[.slice A3 n3 c3] 24)
  have d4 : (w3.alloc (.cells #[.slice A3 n3 c3] 24)).cell? ⟨w3.heap.size, 0, none⟩ = some (.slice A3 n3 c3) := cell_of_row _ _ 0 _ _ _ k4
  have B4 := Lib.hid (bl_trans B2.out b4)
  have R4 := Lib.hid (hr3.below (bl_alloc (Below.refl _ _) (.cells #[.slice A3 n3 c3] 24)))
  have T4 := Lib.hid (T2.out.below b4)
  clear ho hb3 b4 hr3 B2 T2 HPAR
  rcases hfine with ⟨h1, h2, t, h3, h4⟩ | ⟨h1, h2, h3⟩
  · simp only [] at h1 h2 h3
    subst h1 h2 h3
    have hnt : t.size = n3 := by have := HL3.out; simp only [flat_len] at this; exact this
    clear hlen
    go_wp2_with fail
    refine (check_any (flat 0 t) A3 n3 c3 HL3.out _ R4.out hc3).mono ?_
    rw [check_flat h4]
    rintro e w5 ⟨rfl, hb5⟩
    have k5 := (hb5.block w3.heap.size (by simp)).trans k4
    have d5 : w5.cell? ⟨w3.heap.size, 0, none⟩ = some (.slice A3 n3 c3) := cell_of_row _ _ 0 _ _ _ k5
    have B5 := Lib.hid (bl_trans B4.out hb5)
    have R5 := Lib.hid (R4.out.below hb5)
    have T5 := Lib.hid (T4.out.below hb5)
    clear hb5 k4 d4 B4 R4 T4
    go_wp2_with fail
    refine (print_tree t A3 n3 c3 hnt (by omega) _ T5.out R5.out hc3).mono ?_
    rintro e w6 ⟨rfl, hb6⟩
    have k6 := (hb6.block w3.heap.size (Array.getElem?_eq_some_iff.1 k5).1).trans k5
    have d6 : w6.cell? ⟨w3.heap.size, 0, none⟩ = some (.slice A3 n3 c3) := cell_of_row _ _ 0 _ _ _ k6
    have B6 := Lib.hid (bl_trans B5.out hb6)
    have R6 := Lib.hid (R5.out.below hb6)
    clear hb6 k5 d5 B5 R5 T5
    by_cases hlen : 1024 < (bareW t).length
    · rw [if_pos hlen]
      clear hlen
      go_wp2_with fail
      exact post_is HQ ⟨rfl, B6.out⟩
    · rw [if_neg hlen]
      obtain ⟨f, hf, hp⟩ := parse_back t (by omega)
      have hpar := parse_short (bareW t) (by omega) f hf
      rw [hp] at hpar
      have HPAR := Lib.hid hpar
      clear hf hp hpar hlen
      generalize bareW t = s2 at *
      go_wp2_with fail
      refine (HPAR.out _).mono ?_
      rintro e w7 ⟨v, rfl, ho, hb7⟩
      obtain ⟨A7, n7, c7, rfl, HL7, hc7, hm7, hr7⟩ := ho.form
      have b8 := bl_alloc hb7 (.cells #[.slice A7 n7 c7] 24)
      have k8 := (b8.block w3.heap.size (Array.getElem?_eq_some_iff.1 k6).1).trans k6
      have k9 := heap_alloc_new w7 (.cells #[.slice A7 n7 c7] 24)
      have d8 : (w7.alloc (.cells #[.slice A7 n7 c7] 24)).cell? ⟨w3.heap.size, 0, none⟩ = some (.slice A3 n3 c3) := cell_of_row _ _ 0 _ _ _ k8
      have d9 : (w7.alloc (.cells #[.slice A7 n7 c7] 24)).cell? ⟨w7.heap.size, 0, none⟩ = some (.slice A7 n7 c7) := cell_of_row _ _ 0 _ _ _ k9
      have B8 := Lib.hid (bl_trans B6.out b8)
      have hsm := same_true (flat 0 t) (flat 0 t) rfl A3 n3 c3 A7 n7 c7 HL3.out HL7.out (Nat.le_trans hc3 hm3) _ (R6.out.below b8) (hr7.below (bl_alloc (Below.refl _ _) (.cells #[.slice A7 n7 c7] 24)))
      have HSM := Lib.hid hsm
      clear hsm ho hb7 b8 k8 k9 k6 d6 hr7 hm7 hc7 B6 R6 HPAR
      go_wp2_with fail
      refine HSM.out.mono ?_
      rintro e w9 ⟨rfl, hb9⟩
      have B9 := Lib.hid (bl_trans B8.out hb9)
      clear hb9
      go_wp2_with fail
      exact post_is HQ ⟨rfl, B9.out⟩
  · simp only [] at h1 h2 h3
    subst h1
    have hn3 : n3 = 0 := by have := HL3.out; simpa using this.symm
    subst hn3
    have q1 : decide ((0 : Int) ≤ (at' : Int)) = true := by simp
    have q2 : decide (at' ≤ s.length) = true := by simpa using h2
    have q3 : decide ((at' : Int) ≤ (s.length : Int)) = true := by simpa using h2
    clear HL3 R4 T4 h2
    rcases h3 with rfl | ⟨rfl, rfl⟩
    · go_wp2_with fail
      all_goals exact post_is HQ ⟨rfl, B4.out⟩
    · go_wp2_with fail
      all_goals exact post_is HQ ⟨rfl, B4.out⟩

theorem laid_met (os : Os) : laidMet Tryd.prog laidL ((laidWorld os).forCall (fun _ _ => 0) ⟨#[], #[.string ⟨#[]⟩], []⟩).memory :=
  laidMet_of_run' 8 (by kernel_rfl) (by kernel_rfl)
theorem reads (os : Os) {H : Type} (enc : TypeId × Value → H) : ∃ places, DataW.whole enc Tryd.prog ((laidWorld os).forCall (fun _ _ => 0) ⟨#[], #[.string ⟨#[]⟩], []⟩).memory Tryd.f6.params.toList Rows.regexAgainSpec.vars false (#[.string ⟨#[]⟩] : Array Value).toList 8 = some ([.lit (.string [])], [], places) :=
  ⟨[], by kernel_rfl⟩
set_option maxRecDepth 100000 in
theorem RegexAgain_said : Rows.RegexAgainSaid :=
  OpenClaim.holds_of_cond 6 Tryd.f6 rfl rfl rfl rfl rfl rfl rfl ⟨rfl, rfl, rfl, rfl, rfl⟩ rfl rfl rfl rfl rfl (by kernel_rfl) Tryd.func6 (by kernel_rfl)
    (of_decide_eq_true (by kernel_rfl)) (by unfold Func.isWrapper; first | (rw [if_pos (by decide +kernel)]; kernel_rfl) | (rw [if_neg (by decide +kernel)]; exact ⟨rfl, rfl⟩))
    (fun os started H enc _ F => by
      rw [OpenClaim.pre_eq_preRow]
      obtain ⟨places, hx⟩ := reads os enc
      exact law_lifted_laid (s := Rows.regexAgainSpec) (conds := Rows.regexAgainRow.domain) Tryd.func6 (by kernel_rfl) rfl
        (fun H ds h => by rw [Tryd.params6] at h; match ds, h with | [_], _ => rfl) (by kernel_rfl) (by kernel_rfl) os started H enc F
        (witness_row_at (enc := enc) (C := Tryd.checked) false (laidWorld os) #[.string ⟨#[]⟩] rfl (by kernel_rfl) (by kernel_rfl) (by kernel_rfl)
          (OpenSpec.preRow_of_cond 8 hx (by kernel_rfl) (fun k hk => by cases hk) (by kernel_rfl) (laid_met os)))
        (fun W args ds p h hT => by
          obtain ⟨⟨base, hok⟩, hA, hl⟩ := h
          rw [Tryd.params6] at hok hA hl
          obtain ⟨v0, d0, rfl, rfl, g0⟩ := trodAll_one hA
          obtain ⟨l0, rfl, a0⟩ := open_str9 (hok 0 9 v0 rfl rfl) g0
          exact again_walk l0 a0 W hT))

theorem plain_params (f : FuncId) (fn : Func) (hf : Tryd.pinned.checked.prog.funcNamed "incunable/incunablelaw09.RegexAgain" = some f) (hfn : Tryd.pinned.checked.prog.funcs[f]? = some fn) :
    true = Tryd.pinned.checked.prog.looks [] ∧ ∀ (j : Nat) t, fn.params[j]? = some t → Tryd.pinned.checked.prog.wantsStandIn t = false := by
  obtain rfl : f = 6 := Option.some.inj ((show Tryd.prog.funcNamed "incunable/incunablelaw09.RegexAgain" = some 6 by kernel_rfl).symm.trans hf) |>.symm
  obtain rfl : fn = Tryd.f6 := (Option.some.inj (Tryd.func6.symm.trans hfn)).symm
  refine ⟨by kernel_rfl, fun j t ht => ?_⟩
  rw [Tryd.params6] at ht
  have hm : t ∈ [9] := by simpa using Array.mem_of_getElem? ht
  have hall : ([9].all fun u => !Tryd.prog.wantsStandIn u) = true := by kernel_rfl
  exact (show Tryd.prog.wantsStandIn t = false by simpa using List.all_eq_true.1 hall t hm)

/-- The card. -/
theorem RegexAgainCard_holds : Rows.RegexAgainCardSaid :=
  Claim7.holds_tied_plain_at .later [] _ _ _ _ RegexAgain_said (fun _ h => by cases h) (by kernel_rfl) (fun _ h => by cases h) regexAgain_row_tie rfl ⟨rfl, rfl⟩ (by kernel_rfl) rfl plain_params (by kernel_rfl)

end Go.Proofs.YteedmkokbapkgaaDoor
