/- DfaReached: states are numbered as they are reached, classes by their least bytes. No condition but those of the statement. -/
import Derived.Test.YtcgfogdfcdndgaaGreatDoorDhHP
import Derived.Test.YtcgfogdfcdndgaaGreatDoorDgRoP
import Derived.Test.YtcgfogdfcdndgaaGreatDoorRows
set_option linter.unusedVariables false
namespace Go.Proofs.YtcgfogdfcdndgaaGreatDoor
open Go.RowKit Go.ChangeShapes Go.WideShapes Go.ChangeAt

theorem laid_met (os : Os) : laidMet Tryz.prog laidL ((laidWorld os).forCall (fun _ _ => 0) ⟨#[], #[.agg #[.int .i64 0, .slice none 0 0, .slice none 0 0]], []⟩).memory :=
  laidMet_of_run' 8 (by kernel_rfl) (by kernel_rfl)
theorem reads (os : Os) {H : Type} (enc : TypeId × Value → H) : ∃ places, DataW.whole enc Tryz.prog ((laidWorld os).forCall (fun _ _ => 0) ⟨#[], #[.agg #[.int .i64 0, .slice none 0 0, .slice none 0 0]], []⟩).memory Tryz.f7.params.toList Rows.dfaReachedSpec.vars false (#[.agg #[.int .i64 0, .slice none 0 0, .slice none 0 0]] : Array Value).toList 8 = some ([.agg [.lit (.int .i64 0), .nil, .nil]], [], places) :=
  ⟨[], by kernel_rfl⟩
set_option maxRecDepth 100000 in
theorem DfaReached_said : Rows.DfaReachedSaid :=
  OpenClaim.holds_of_cond 7 Tryz.f7 rfl rfl rfl rfl rfl rfl rfl ⟨rfl, rfl, rfl, rfl, rfl⟩ rfl rfl rfl rfl rfl (by kernel_rfl) Tryz.func7 (by kernel_rfl)
    (of_decide_eq_true (by kernel_rfl)) (by unfold Func.isWrapper; first | (rw [if_pos (by decide +kernel)]; kernel_rfl) | (rw [if_neg (by decide +kernel)]; exact ⟨rfl, rfl⟩))
    (fun os started H enc _ F => by
      rw [OpenClaim.pre_eq_preRow]
      obtain ⟨places, hx⟩ := reads os enc
      exact law_lifted_laid (s := Rows.dfaReachedSpec) (conds := Rows.dfaReachedRow.domain) Tryz.func7 (by kernel_rfl) rfl
        (fun H ds h => by rw [Tryz.params7] at h; match ds, h with | [_], _ => rfl) (by kernel_rfl) (by kernel_rfl) os started H enc F
        (witness_row_at (enc := enc) (C := Tryz.checked) false (laidWorld os) #[.agg #[.int .i64 0, .slice none 0 0, .slice none 0 0]] rfl (by kernel_rfl) (by kernel_rfl) (by kernel_rfl)
          (OpenSpec.preRow_of_cond 8 hx (by kernel_rfl) (fun k hk => by cases hk) (by kernel_rfl) (laid_met os)))
        (fun W args ds p h hT => by
          obtain ⟨⟨base, hok⟩, hA, hl⟩ := h
          rw [Tryz.params7] at hok hA hl
          obtain ⟨v0, d0, rfl, rfl, g0⟩ := trodAll_one hA
          obtain ⟨S0, A0, n0, c0, E0, B0, m0, k0, X0, rfl, s0, e0, x0⟩ := open_nfa (hok 0 25 v0 rfl rfl) g0 (hl 0 25 d0 rfl rfl)
          exact dreached_walk S0 A0 B0 n0 c0 m0 k0 E0 X0 W hT e0 ⟨x0.1, x0.2.1, x0.2.2.1, x0.2.2.2.1⟩))

theorem plain_params (f : FuncId) (fn : Func) (hf : Tryz.pinned.checked.prog.funcNamed "incunable/incunablelaw11.DfaReached" = some f) (hfn : Tryz.pinned.checked.prog.funcs[f]? = some fn) :
    true = Tryz.pinned.checked.prog.looks [] ∧ ∀ (j : Nat) t, fn.params[j]? = some t → Tryz.pinned.checked.prog.wantsStandIn t = false := by
  obtain rfl : f = 7 := Option.some.inj ((show Tryz.prog.funcNamed "incunable/incunablelaw11.DfaReached" = some 7 by kernel_rfl).symm.trans hf) |>.symm
  obtain rfl : fn = Tryz.f7 := (Option.some.inj (Tryz.func7.symm.trans hfn)).symm
  refine ⟨by kernel_rfl, fun j t ht => ?_⟩
  rw [Tryz.params7] at ht
  have hm : t ∈ [25] := by simpa using Array.mem_of_getElem? ht
  have hall : ([25].all fun u => !Tryz.prog.wantsStandIn u) = true := by kernel_rfl
  exact (show Tryz.prog.wantsStandIn t = false by simpa using List.all_eq_true.1 hall t hm)

/-- The card. -/
theorem DfaReachedCard_holds : Rows.DfaReachedCardSaid :=
  Claim7.holds_tied_plain_at .later [] _ _ _ _ DfaReached_said (fun _ h => by cases h) (by kernel_rfl) (fun _ h => by cases h) dfaReached_row_tie rfl ⟨rfl, rfl⟩ (by kernel_rfl) rfl plain_params (by kernel_rfl)

end Go.Proofs.YtcgfogdfcdndgaaGreatDoor
