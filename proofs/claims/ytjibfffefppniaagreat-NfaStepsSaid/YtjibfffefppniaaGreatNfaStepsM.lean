/- NfaSteps: Check, Close and Step answer as the chapter says, of all nets, states and bytes; what is handed in stays. No condition but those of the statement. -/
import Derived.Test.YtjibfffefppniaaGreatNfStM
import Derived.Test.YtjibfffefppniaaGreatRows
set_option linter.unusedVariables false
namespace Go.Proofs.YtjibfffefppniaaGreat
open Go.RowKit Go.ChangeShapes Go.WideShapes Go.ChangeAt

set_option maxRecDepth 20000 in
/-- An argument of type byte, opened. -/
theorem open_u8 {H : Type} {enc : TypeId × Value → H} {W : World} {base : Nat} {v : Value} {d : DataW H} {p : List MemPlace} (hv : Value.okWide Tryz.prog W .any base 5 v)
    (h0 : DataW.Trod enc Tryz.prog W 0 (fun _ => true) true 5 v d p) : ∃ n : Nat, v = .int .u8 (n : Int) ∧ n < 256 := by
  obtain ⟨n, rfl, rfl, rfl, hw⟩ := open_int Tryz.underlying5 hv h0
  have hb : 0 ≤ n ∧ n ≤ 255 := by simpa [Lit.wf, IntKind.min, IntKind.max, IntKind.signed, IntKind.bits] using hw
  exact ⟨n.toNat, by rw [Int.toNat_of_nonneg hb.1], by omega⟩

set_option maxRecDepth 100000 in
theorem NfaSteps_holds : Rows.NfaStepsSaid :=
  OpenClaim.holds_of_wide 4 Tryz.f4 rfl rfl rfl rfl rfl rfl rfl ⟨rfl, rfl, rfl, rfl, rfl⟩ rfl rfl rfl rfl rfl (by kernel_rfl) Tryz.func4 (by kernel_rfl)
    (of_decide_eq_true (by kernel_rfl)) (by unfold Func.isWrapper; first | (rw [if_pos (by decide +kernel)]; kernel_rfl) | (rw [if_neg (by decide +kernel)]; exact ⟨rfl, rfl⟩))
    (fun os started H enc _ => law_lifted (s := Rows.nfaStepsSpec) Tryz.func4 (by kernel_rfl) rfl
      (fun H ds h => by rw [Tryz.params4] at h; match ds, h with | [_, _, _], _ => rfl) (by kernel_rfl) (by kernel_rfl)
      os started H enc
      (ChangeSpec.witness6 (enc := enc) (C := Tryz.checked) false ⟨#[], #[.agg #[.int .i64 0, .slice none 0 0, .slice none 0 0], .slice none 0 0, .int .u8 0], []⟩ 8 (by kernel_rfl) (by kernel_rfl) (by kernel_rfl) (by kernel_rfl))
      (fun W args ds p h => by
        obtain ⟨⟨base, hok⟩, hA, hl⟩ := h
        rw [Tryz.params4] at hok hA hl
        obtain ⟨v0, v1, v2, d0, d1, d2, p0, p1, p2, rfl, rfl, rfl, g0, g1, g2⟩ := trodAll_three hA
        obtain ⟨S0, A0, n0, c0, E0, B0, m0, k0, X0, rfl, s0, e0, x0⟩ := open_nfa (hok 0 29 v0 rfl rfl) g0 (hl 0 29 d0 rfl rfl)
        obtain ⟨A1, n1, c1, l1, rfl, e1, a1, b1, r1, i1⟩ := open_intl (hok 1 27 v1 rfl rfl) g1 (hl 1 27 d1 rfl rfl)
        obtain ⟨n2, rfl, b2⟩ := open_u8 (hok 2 5 v2 rfl rfl) g2
        exact steps_walk S0 A0 B0 A1 n0 c0 m0 k0 n1 c1 n2 b2 E0 X0 l1 W e0 ⟨x0.1, x0.2.1, x0.2.2.1, x0.2.2.2.1⟩ e1 a1 b1 r1))

end Go.Proofs.YtjibfffefppniaaGreat
