/- CrcAnswers: for every sum and all bytes the law answers true: Of and On answer as the chapter says, and what is handed in stays. No condition. -/
import Derived.Test.YtobfmlgoelmcpaaCrcC
import Derived.Test.YtobfmlgoelmcpaaRow32
set_option linter.unusedVariables false
namespace Go.Proofs.Ytobfmlgoelmcpaa
open Go.ChangeShapes Go.WideShapes Go.ChangeAt Go.RowKit

set_option maxHeartbeats 1000000 in
set_option maxRecDepth 20000 in
theorem answers_walk (s : BitVec 32) (A : Option Addr) (m c : Nat) (l : List UInt8) (w : World) (hl : l.length = m) (hmc : m ≤ c) (hc : c ≤ 140737488351232) (hr : Rd w A l) :
    Calls Try.prog 3 #[.int .u32 (s.toNat : Int), .slice A m c] w (Yes w) := by
  have HL := Lib.hid hl
  clear hl
  go_enter Try.func3, Try.ntmps3
  go_wp2_with fail
  refine (copy_any A m c l w HL.out hr (by omega)).mono ?_
  rintro e w1 ⟨v1, rfl, ho1, hB1⟩
  obtain ⟨A1, n1, c1, rfl, HL1, hc1, hc1', hr1⟩ := ho1.form
  clear ho1
  go_wp2_with fail
  refine (of_any A1 n1 c1 l w1 HL1.out hr1 (by omega)).mono ?_
  rintro e w2 ⟨rfl, hb2⟩
  have hB2 := bl_trans hB1 hb2
  go_wp2_with fail
  refine (refOf_any A m c l w2 HL.out (hr.below hB2) (by simp [maxLen]; omega)).mono ?_
  rintro e w2' ⟨rfl, rfl⟩
  go_wp2_with fail
  refine (on_any s A1 n1 c1 l w2 HL1.out (hr1.below hb2) (by omega)).mono ?_
  rintro e w3 ⟨rfl, hb3⟩
  have hB3 := bl_trans hB2 hb3
  have hr3 := (hr1.below hb2).below hb3
  clear hb2 hr1
  go_wp2_with fail
  refine (refOn_any s A m c l w3 HL.out (hr.below hB3) (by simp [maxLen]; omega)).mono ?_
  rintro e w3' ⟨rfl, rfl⟩
  go_wp2_with fail
  refine (eq_same A1 A n1 c1 m c l w3 HL1.out HL.out hr3 (hr.below hB3) (by omega)).mono ?_
  rintro e w4 ⟨rfl, hb4⟩
  have hB4 := bl_trans hB3 hb4
  go_wp2_with fail
  refine (works_any w4).mono ?_
  rintro e w5 ⟨rfl, hb5⟩
  go_wp2
  go_ret
  exact ⟨rfl, bl_trans hB4 hb5⟩

set_option maxRecDepth 100000 in
theorem CrcAnswers_holds : Rows.CrcAnswersSaid :=
  OpenClaim.holds_of_wide 3 Try.f3 rfl rfl rfl rfl rfl rfl rfl ⟨rfl, rfl, rfl, rfl, rfl⟩ rfl rfl rfl rfl rfl (by kernel_rfl) Try.func3 (by kernel_rfl)
    (of_decide_eq_true (by kernel_rfl)) (by unfold Func.isWrapper; first | (rw [if_pos (by decide +kernel)]; kernel_rfl) | (rw [if_neg (by decide +kernel)]; exact ⟨rfl, rfl⟩))
    (fun os started H enc _ => law_lifted (s := Rows.crcAnswersSpec) Try.func3 (by kernel_rfl) rfl
      (fun H ds h => by rw [Try.params3] at h; match ds, h with | [_, _], _ => rfl) (by kernel_rfl) (by kernel_rfl)
      os started H enc
      (ChangeSpec.witness6 (enc := enc) (C := Try.checked) false ⟨#[], #[.int .u32 0, .slice none 0 0], []⟩ 8 (by kernel_rfl) (by kernel_rfl) (by kernel_rfl) (by kernel_rfl))
      (fun W args ds p h => by
        obtain ⟨⟨base, hok⟩, hA, hl⟩ := h
        rw [Try.params3] at hok hA hl
        obtain ⟨v0, v1, d0, d1, p0, p1, rfl, rfl, rfl, g0, g1⟩ := trodAll_two hA
        obtain ⟨n0, rfl⟩ := open_u32 (hok 0 22 v0 rfl rfl) g0
        obtain ⟨A1, n1, c1, l1, rfl, e1, a1, b1, r1⟩ := open_bytes (hok 1 23 v1 rfl rfl) g1 (hl 1 23 d1 rfl rfl)
        exact answers_walk n0 A1 n1 c1 l1 W e1 a1 b1 r1))

end Go.Proofs.Ytobfmlgoelmcpaa
