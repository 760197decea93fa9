/- DfaSteps: Check and Step answer as the chapter says, of all machines, states and bytes. No condition but those of the statement. -/
import Derived.Test.YtcgfogdfcdndgaaGreatDoorDhKQ
import Derived.Test.YtcgfogdfcdndgaaGreatDoorDgRoQ
import Derived.Test.YtcgfogdfcdndgaaGreatDoorRows
set_option linter.unusedVariables false
namespace Go.Proofs.YtcgfogdfcdndgaaGreatDoor
open Go.RowKit Go.ChangeShapes Go.WideShapes Go.ChangeAt

theorem laid_met (os : Os) : laidMet Tryz.prog laidL ((laidWorld os).forCall (fun _ _ => 0) ⟨#[], #[.agg (mkT (fun _ => 0) [.slice none 0 0, .slice none 0 0]), .int .i64 0, .int .u8 0], []⟩).memory :=
  laidMet_of_run' 8 (by kernel_rfl) (by kernel_rfl)
theorem reads (os : Os) {H : Type} (enc : TypeId × Value → H) : ∃ places, DataW.whole enc Tryz.prog ((laidWorld os).forCall (fun _ _ => 0) ⟨#[], #[.agg (mkT (fun _ => 0) [.slice none 0 0, .slice none 0 0]), .int .i64 0, .int .u8 0], []⟩).memory Tryz.f4.params.toList Rows.dfaStepsSpec.vars false (#[.agg (mkT (fun _ => 0) [.slice none 0 0, .slice none 0 0]), .int .i64 0, .int .u8 0] : Array Value).toList 8 = some ([.agg [.agg (List.replicate 256 (.lit (.int .i64 0))), .nil, .nil], .lit (.int .i64 0), .lit (.int .u8 0)], [], places) :=
  ⟨[], by kernel_rfl⟩
set_option maxRecDepth 100000 in
theorem DfaSteps_said : Rows.DfaStepsSaid :=
  OpenClaim.holds_of_cond 4 Tryz.f4 rfl rfl rfl rfl rfl rfl rfl ⟨rfl, rfl, rfl, rfl, rfl⟩ rfl rfl rfl rfl rfl (by kernel_rfl) Tryz.func4 (by kernel_rfl)
    (of_decide_eq_true (by kernel_rfl)) (by unfold Func.isWrapper; first | (rw [if_pos (by decide +kernel)]; kernel_rfl) | (rw [if_neg (by decide +kernel)]; exact ⟨rfl, rfl⟩))
    (fun os started H enc _ F => by
      rw [OpenClaim.pre_eq_preRow]
      obtain ⟨places, hx⟩ := reads os enc
      exact law_lifted_laid (s := Rows.dfaStepsSpec) (conds := Rows.dfaStepsRow.domain) Tryz.func4 (by kernel_rfl) rfl
        (fun H ds h => by rw [Tryz.params4] at h; match ds, h with | [_, _, _], _ => rfl) (by kernel_rfl) (by kernel_rfl) os started H enc F
        (witness_row_at (enc := enc) (C := Tryz.checked) false (laidWorld os) #[.agg (mkT (fun _ => 0) [.slice none 0 0, .slice none 0 0]), .int .i64 0, .int .u8 0] rfl (by kernel_rfl) (by kernel_rfl) (by kernel_rfl)
          (OpenSpec.preRow_of_cond 8 hx (by kernel_rfl) (fun k hk => by cases hk) (by kernel_rfl) (laid_met os)))
        (fun W args ds p h hT => by
          obtain ⟨⟨base, hok⟩, hA, hl⟩ := h
          rw [Tryz.params4] at hok hA hl
          obtain ⟨v0, v1, v2, d0, d1, d2, p0, p1, p2, rfl, rfl, rfl, g0, g1, g2⟩ := trodAll_three hA
          obtain ⟨cl0, An0, nn0, cn0, T0, Ax0, nx0, cx0, X0, rfl, z0, e0, x0⟩ := open_dfa (hok 0 33 v0 rfl rfl) g0 (hl 0 33 d0 rfl rfl)
          obtain ⟨n1, rfl, a1, b1⟩ := open_i64 (hok 1 3 v1 rfl rfl) g1
          obtain ⟨n2, rfl, a2⟩ := open_u8 (hok 2 5 v2 rfl rfl) g2
          exact dsteps_walk cl0 T0 X0 An0 Ax0 nn0 cn0 nx0 cx0 n1 n2 a2 W hT e0 ⟨x0.1, x0.2.1, x0.2.2.1, x0.2.2.2.1⟩))

theorem plain_params (f : FuncId) (fn : Func) (hf : Tryz.pinned.checked.prog.funcNamed "incunable/incunablelaw11.DfaSteps" = some f) (hfn : Tryz.pinned.checked.prog.funcs[f]? = some fn) :
    true = Tryz.pinned.checked.prog.looks [] ∧ ∀ (j : Nat) t, fn.params[j]? = some t → Tryz.pinned.checked.prog.wantsStandIn t = false := by
  obtain rfl : f = 4 := Option.some.inj ((show Tryz.prog.funcNamed "incunable/incunablelaw11.DfaSteps" = some 4 by kernel_rfl).symm.trans hf) |>.symm
  obtain rfl : fn = Tryz.f4 := (Option.some.inj (Tryz.func4.symm.trans hfn)).symm
  refine ⟨by kernel_rfl, fun j t ht => ?_⟩
  rw [Tryz.params4] at ht
  have hm : t ∈ [33, 3, 5] := by simpa using Array.mem_of_getElem? ht
  have hall : ([33, 3, 5].all fun u => !Tryz.prog.wantsStandIn u) = true := by kernel_rfl
  exact (show Tryz.prog.wantsStandIn t = false by simpa using List.all_eq_true.1 hall t hm)

/-- The card. -/
theorem DfaStepsCard_holds : Rows.DfaStepsCardSaid :=
  Claim7.holds_tied_plain_at .later [] _ _ _ _ DfaSteps_said (fun _ h => by cases h) (by kernel_rfl) (fun _ h => by cases h) dfaSteps_row_tie rfl ⟨rfl, rfl⟩ (by kernel_rfl) rfl plain_params (by kernel_rfl)

end Go.Proofs.YtcgfogdfcdndgaaGreatDoor
