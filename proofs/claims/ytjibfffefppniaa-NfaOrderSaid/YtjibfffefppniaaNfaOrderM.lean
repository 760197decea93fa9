/- NfaOrder: rules behind change nothing of who is told ahead of them. No condition but those of the statement. -/
import Derived.Test.YtjibfffefppniaaNfOrM
import Derived.Test.YtjibfffefppniaaRows
set_option linter.unusedVariables false
namespace Go.Proofs.Ytjibfffefppniaa
open Go.RowKit Go.ChangeShapes Go.WideShapes Go.ChangeAt

set_option maxRecDepth 100000 in
theorem NfaOrder_holds : Rows.NfaOrderSaid :=
  OpenClaim.holds_of_wide 6 Try.f6 rfl rfl rfl rfl rfl rfl rfl ⟨rfl, rfl, rfl, rfl, rfl⟩ rfl rfl rfl rfl rfl (by kernel_rfl) Try.func6 (by kernel_rfl)
    (of_decide_eq_true (by kernel_rfl)) (by unfold Func.isWrapper; first | (rw [if_pos (by decide +kernel)]; kernel_rfl) | (rw [if_neg (by decide +kernel)]; exact ⟨rfl, rfl⟩))
    (fun os started H enc _ => law_lifted (s := Rows.nfaOrderSpec) Try.func6 (by kernel_rfl) rfl
      (fun H ds h => by rw [Try.params6] at h; match ds, h with | [_, _, _], _ => rfl) (by kernel_rfl) (by kernel_rfl)
      os started H enc
      (ChangeSpec.witness6 (enc := enc) (C := Try.checked) false ⟨#[], #[.slice none 0 0, .slice none 0 0, .slice none 0 0], []⟩ 8 (by kernel_rfl) (by kernel_rfl) (by kernel_rfl) (by kernel_rfl))
      (fun W args ds p h => by
        obtain ⟨⟨base, hok⟩, hA, hl⟩ := h
        rw [Try.params6] at hok hA hl
        obtain ⟨v0, v1, v2, d0, d1, d2, p0, p1, p2, rfl, rfl, rfl, g0, g1, g2⟩ := trodAll_three hA
        obtain ⟨A0, n0, c0, L0, rfl, e0, a0, b0, r0, z0⟩ := open_rexl (hok 0 40 v0 rfl rfl) g0 (hl 0 40 d0 rfl rfl)
        obtain ⟨A1, n1, c1, L1, rfl, e1, a1, b1, r1, z1⟩ := open_rexl (hok 1 40 v1 rfl rfl) g1 (hl 1 40 d1 rfl rfl)
        obtain ⟨A2, n2, c2, l2, rfl, e2, a2, b2, r2⟩ := open_bytes (hok 2 26 v2 rfl rfl) g2 (hl 2 26 d2 rfl rfl)
        exact order_walk A0 A1 A2 n0 c0 n1 c1 n2 c2 L0 L1 l2 W e0 a0 b0 r0 e1 a1 b1 r1 e2 a2 b2 r2))

end Go.Proofs.Ytjibfffefppniaa
