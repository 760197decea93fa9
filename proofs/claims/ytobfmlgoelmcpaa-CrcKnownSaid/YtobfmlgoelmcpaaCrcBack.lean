/- CrcBack: for every two sums and all bytes the law answers true: the sum ahead of some bytes can be told from the one behind them, and there is just one. No condition. -/
import Derived.Test.YtobfmlgoelmcpaaCrcC
import Derived.Test.YtobfmlgoelmcpaaRow32
set_option linter.unusedVariables false
namespace Go.Proofs.Ytobfmlgoelmcpaa
open Go.ChangeShapes Go.WideShapes Go.ChangeAt Go.RowKit

theorem onE_inj {s o : BitVec 32} {l : List UInt8} (h : onE o l = onE s l) : o = s := by rw [← ahead_on o l, h, ahead_on]

theorem cut_to {l : List UInt8} {m k : Nat} (hl : l.length = m) (hk : k ≤ m) : (l.take k).length = k := by rw [List.length_take, hl]; omega

set_option maxHeartbeats 1000000 in
set_option maxRecDepth 20000 in
theorem back_walk (s o : BitVec 32) (A : Option Addr) (m c : Nat) (l : List UInt8) (w : World) (hl : l.length = m) (hmc : m ≤ c) (hc : c ≤ 140737488351232) (hr : Rd w A l) :
    Calls Try.prog 5 #[.int .u32 (s.toNat : Int), .int .u32 (o.toNat : Int), .slice A m c] w (Yes w) := by
  obtain ⟨k, _, hk1, hk2, hmin⟩ := min_lit m 2000 2000 rfl
  have hlk := cut_to hl hk1
  have hrk := hr.take k
  generalize l.take k = l' at *
  have HL := Lib.hid hlk
  clear hl hlk hr
  go_enter Try.func5, Try.ntmps5
  go_wp2_with fail
  refine (works_any w).mono ?_
  rintro e w1 ⟨rfl, hB1⟩
  go_wp2_with fail
  refine (on_any s A k c l' w1 HL.out (hrk.below hB1) (by simp [maxLen]; omega)).mono ?_
  rintro e w2 ⟨rfl, hb2⟩
  have hB2 := bl_trans hB1 hb2
  clear hb2 hB1
  have c2 := ahead_any (onE s l') A k c l' w2 HL.out (hrk.below hB2) (by simp [maxLen]; omega)
  rw [ahead_on] at c2
  go_wp2_with fail
  refine c2.mono ?_
  rintro e w2' ⟨rfl, rfl⟩
  clear c2
  go_wp2_with fail
  refine (ahead_any o A k c l' w2 HL.out (hrk.below hB2) (by simp [maxLen]; omega)).mono ?_
  rintro e w2' ⟨rfl, rfl⟩
  have c3 := on_any (aheadE o l') A k c l' w2 HL.out (hrk.below hB2) (by simp [maxLen]; omega)
  rw [on_ahead] at c3
  go_wp2_with fail
  refine c3.mono ?_
  rintro e w3 ⟨rfl, hb3⟩
  have hB3 := bl_trans hB2 hb3
  clear c3 hb3
  go_wp2_with fail
  refine (on_any o A k c l' w3 HL.out (hrk.below hB3) (by simp [maxLen]; omega)).mono ?_
  rintro e w4 ⟨rfl, hb4⟩
  have hB4 := bl_trans hB3 hb4
  clear hb4
  by_cases h : o = s
  · subst h
    go_wp2
    go_ret
    exact ⟨rfl, hB4⟩
  · have g1 := ne32 h
    have g2 := ne32 (fun e => h (onE_inj (l := l') e))
    clear h
    go_wp2
    go_ret
    exact ⟨rfl, hB4⟩

set_option maxRecDepth 100000 in
theorem CrcBack_holds : Rows.CrcBackSaid :=
  OpenClaim.holds_of_wide 5 Try.f5 rfl rfl rfl rfl rfl rfl rfl ⟨rfl, rfl, rfl, rfl, rfl⟩ rfl rfl rfl rfl rfl (by kernel_rfl) Try.func5 (by kernel_rfl)
    (of_decide_eq_true (by kernel_rfl)) (by unfold Func.isWrapper; first | (rw [if_pos (by decide +kernel)]; kernel_rfl) | (rw [if_neg (by decide +kernel)]; exact ⟨rfl, rfl⟩))
    (fun os started H enc _ => law_lifted (s := Rows.crcBackSpec) Try.func5 (by kernel_rfl) rfl
      (fun H ds h => by rw [Try.params5] at h; match ds, h with | [_, _, _], _ => rfl) (by kernel_rfl) (by kernel_rfl)
      os started H enc
      (ChangeSpec.witness6 (enc := enc) (C := Try.checked) false ⟨#[], #[.int .u32 0, .int .u32 0, .slice none 0 0], []⟩ 8 (by kernel_rfl) (by kernel_rfl) (by kernel_rfl) (by kernel_rfl))
      (fun W args ds p h => by
        obtain ⟨⟨base, hok⟩, hA, hl⟩ := h
        rw [Try.params5] at hok hA hl
        obtain ⟨v0, v1, v2, d0, d1, d2, p0, p1, p2, rfl, rfl, rfl, g0, g1, g2⟩ := trodAll_three hA
        obtain ⟨n0, rfl⟩ := open_u32 (hok 0 22 v0 rfl rfl) g0
        obtain ⟨n1, rfl⟩ := open_u32 (hok 1 22 v1 rfl rfl) g1
        obtain ⟨A2, n2, c2, l2, rfl, e2, a2, b2, r2⟩ := open_bytes (hok 2 23 v2 rfl rfl) g2 (hl 2 23 d2 rfl rfl)
        exact back_walk n0 n1 A2 n2 c2 l2 W e2 a2 b2 r2))

end Go.Proofs.Ytobfmlgoelmcpaa
