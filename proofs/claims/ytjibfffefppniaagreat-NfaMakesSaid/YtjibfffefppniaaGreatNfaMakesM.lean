/- NfaMakes: Of answers as the chapter says, of all lists of patterns; what is handed in stays; two answers share no memory. No condition but those of the statement. -/
import Derived.Test.YtjibfffefppniaaGreatNfMkM
import Derived.Test.YtjibfffefppniaaGreatNfRowM
import Derived.Test.YtjibfffefppniaaGreatRows
set_option linter.unusedVariables false
namespace Go.Proofs.YtjibfffefppniaaGreat
open Go.RowKit Go.ChangeShapes Go.WideShapes Go.ChangeAt

set_option maxRecDepth 100000 in
theorem NfaMakes_holds : Rows.NfaMakesSaid :=
  OpenClaim.holds_of_wide 3 Tryz.f3 rfl rfl rfl rfl rfl rfl rfl ⟨rfl, rfl, rfl, rfl, rfl⟩ rfl rfl rfl rfl rfl (by kernel_rfl) Tryz.func3 (by kernel_rfl)
    (of_decide_eq_true (by kernel_rfl)) (by unfold Func.isWrapper; first | (rw [if_pos (by decide +kernel)]; kernel_rfl) | (rw [if_neg (by decide +kernel)]; exact ⟨rfl, rfl⟩))
    (fun os started H enc _ => law_lifted (s := Rows.nfaMakesSpec) Tryz.func3 (by kernel_rfl) rfl
      (fun H ds h => by rw [Tryz.params3] at h; match ds, h with | [_], _ => rfl) (by kernel_rfl) (by kernel_rfl)
      os started H enc
      (ChangeSpec.witness6 (enc := enc) (C := Tryz.checked) false ⟨#[], #[.slice none 0 0], []⟩ 8 (by kernel_rfl) (by kernel_rfl) (by kernel_rfl) (by kernel_rfl))
      (fun W args ds p h => by
        obtain ⟨⟨base, hok⟩, hA, hl⟩ := h
        rw [Tryz.params3] at hok hA hl
        obtain ⟨v0, d0, rfl, rfl, g0⟩ := trodAll_one hA
        obtain ⟨A0, n0, c0, L0, rfl, e0, a0, b0, r0, z0⟩ := open_rexl (hok 0 22 v0 rfl rfl) g0 (hl 0 22 d0 rfl rfl)
        exact makes_walk A0 n0 c0 L0 W e0 a0 b0 r0 z0))

end Go.Proofs.YtjibfffefppniaaGreat
