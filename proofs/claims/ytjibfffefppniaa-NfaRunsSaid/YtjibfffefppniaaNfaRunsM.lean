/- NfaRuns: Run answers as the chapter says, of all nets and texts. No condition but those of the statement. -/
import Derived.Test.YtjibfffefppniaaNfRnM
import Derived.Test.YtjibfffefppniaaRows
set_option linter.unusedVariables false
namespace Go.Proofs.Ytjibfffefppniaa
open Go.RowKit Go.ChangeShapes Go.WideShapes Go.ChangeAt

set_option maxRecDepth 100000 in
theorem NfaRuns_holds : Rows.NfaRunsSaid :=
  OpenClaim.holds_of_wide 3 Try.f3 rfl rfl rfl rfl rfl rfl rfl ⟨rfl, rfl, rfl, rfl, rfl⟩ rfl rfl rfl rfl rfl (by kernel_rfl) Try.func3 (by kernel_rfl)
    (of_decide_eq_true (by kernel_rfl)) (by unfold Func.isWrapper; first | (rw [if_pos (by decide +kernel)]; kernel_rfl) | (rw [if_neg (by decide +kernel)]; exact ⟨rfl, rfl⟩))
    (fun os started H enc _ => law_lifted (s := Rows.nfaRunsSpec) Try.func3 (by kernel_rfl) rfl
      (fun H ds h => by rw [Try.params3] at h; match ds, h with | [_, _], _ => rfl) (by kernel_rfl) (by kernel_rfl)
      os started H enc
      (ChangeSpec.witness6 (enc := enc) (C := Try.checked) false ⟨#[], #[.agg #[.int .i64 0, .slice none 0 0, .slice none 0 0], .slice none 0 0], []⟩ 8 (by kernel_rfl) (by kernel_rfl) (by kernel_rfl) (by kernel_rfl))
      (fun W args ds p h => by
        obtain ⟨⟨base, hok⟩, hA, hl⟩ := h
        rw [Try.params3] at hok hA hl
        obtain ⟨v0, v1, d0, d1, p0, p1, rfl, rfl, rfl, g0, g1⟩ := trodAll_two hA
        obtain ⟨S0, A0, n0, c0, E0, B0, m0, k0, X0, rfl, s0, e0, x0⟩ := open_nfa (hok 0 25 v0 rfl rfl) g0 (hl 0 25 d0 rfl rfl)
        obtain ⟨A1, n1, c1, l1, rfl, e1, a1, b1, r1⟩ := open_bytes (hok 1 26 v1 rfl rfl) g1 (hl 1 26 d1 rfl rfl)
        exact runs_walk S0 A0 B0 A1 n0 c0 m0 k0 n1 c1 E0 X0 l1 W e0 ⟨x0.1, x0.2.1, x0.2.2.1, x0.2.2.2.1⟩ e1 a1 b1 r1))

end Go.Proofs.Ytjibfffefppniaa
