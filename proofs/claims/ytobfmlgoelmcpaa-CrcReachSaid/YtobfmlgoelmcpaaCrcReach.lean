/- CrcReach: for all bytes and every two sums the law answers true: for each sum, behind any bytes, there are just four bytes that make it the sum of all. No condition. -/
import Derived.Test.YtobfmlgoelmcpaaCrcBack
import Derived.Test.YtobfmlgoelmcpaaCrcD
set_option linter.unusedVariables false
namespace Go.Proofs.Ytobfmlgoelmcpaa
open Go.ChangeShapes Go.WideShapes Go.ChangeAt Go.RowKit

/-- The four bytes' number that reaches a sum. -/
def reachN (own want : BitVec 32) : BitVec 32 := own ^^^ aheadE want [0, 0, 0, 0]

theorem not_xor_self (x : BitVec 32) : ~~~ x ^^^ x = BitVec.allOnes 32 := by
  rw [← BitVec.allOnes_xor (x := x), BitVec.xor_assoc, BitVec.xor_self, BitVec.xor_zero]
theorem reach_sum (b : List UInt8) (n : BitVec 32) : ofE (b ++ fourE n) = ~~~ (stpN 32 (~~~ ofE b ^^^ n)) := by
  have h := reach (own := ofE b) (l := fourE n) rfl b rfl
  rw [leVal_four] at h
  exact h
theorem reach_want (b : List UInt8) (want : BitVec 32) : ofE (b ++ fourE (reachN (ofE b) want)) = want := by
  rw [reach_sum, reachN, ← BitVec.xor_assoc, not_xor_self, BitVec.allOnes_xor, ahead_four, BitVec.not_not, stpN_ustN, BitVec.not_not]
theorem reach_own (b : List UInt8) : ofE (b ++ fourE (ofE b)) = 558161692#32 := by
  rw [reach_sum, not_xor_self, all_four, BitVec.not_not]
theorem reach_just (b : List UInt8) (want o : BitVec 32) (h : ofE (b ++ fourE o) = want) : o = reachN (ofE b) want := by
  have h2 := reach_want b want
  generalize reachN (ofE b) want = r at *
  rw [← h, reach_sum, reach_sum] at h2
  have h3 : stpN 32 (~~~ ofE b ^^^ r) = stpN 32 (~~~ ofE b ^^^ o) := by rw [← BitVec.not_not (b := stpN 32 (~~~ ofE b ^^^ r)), h2, BitVec.not_not]
  exact ((BitVec.xor_right_inj _).1 (stpN_inj h3)).symm

theorem noughts4 (w : World) : Rd (w.alloc (.cells (nulls 4) 5)) (some ⟨w.heap.size, 0, none⟩) [0, 0, 0, 0] := rd_nulls w 4
theorem xor_own (x y : BitVec 32) : bits .xor .u32 (x.toNat : Int) ((aheadE y [0, 0, 0, 0]).toNat : Int) = ((reachN x y).toNat : Int) := xor32 _ _
set_option maxHeartbeats 1000000 in
set_option maxRecDepth 20000 in
theorem reach_walk (A : Option Addr) (m c : Nat) (l : List UInt8) (s o : BitVec 32) (w : World) (hl : l.length = m) (hmc : m ≤ c) (hc : c ≤ 140737488351232) (hr : Rd w A l) :
    Calls Try.prog 6 #[.slice A m c, .int .u32 (s.toNat : Int), .int .u32 (o.toNat : Int)] w (Yes w) := by
  obtain ⟨k, _, hk1, hk2, hmin⟩ := min_lit m 2000 2000 rfl
  have hlk := cut_to hl hk1
  have hrk := hr.take k
  generalize l.take k = l' at *
  have HL := Lib.hid hlk
  clear hl hlk hr
  go_enter Try.func6, Try.ntmps6
  go_wp2_with fail
  refine (works_any w).mono ?_
  rintro e w1 ⟨rfl, hB1⟩
  go_wp2_with fail
  refine (of_any A k c l' w1 HL.out (hrk.below hB1) (by simp [maxLen]; omega)).mono ?_
  rintro e w2 ⟨rfl, hb2⟩
  have hB2 := bl_trans hB1 hb2
  clear hb2 hB1
  have mk := make_bytes 4 4 rfl (by omega)
  go_wp2_with fail
  refine (ahead_any s _ 4 4 [0, 0, 0, 0] _ rfl (noughts4 w2) (by simp [maxLen])).mono ?_
  rintro e w3 ⟨rfl, rfl⟩
  clear mk
  have hB3 := bl_alloc hB2 (.cells (nulls 4) 5)
  generalize w2.alloc (.cells (nulls 4) 5) = w3 at *
  have ex := xor_own (ofE l') s
  go_wp2_with fail
  clear ex
  refine (four_any _ _).mono ?_
  rintro e w4 ⟨v4, rfl, ho4, hb4⟩
  obtain ⟨A4, n4, c4, rfl, HL4, hc4, hc4', hr4⟩ := ho4.form
  have hn4 : n4 ≤ 4 := by have := HL4.out; simp [fourE] at this; omega
  have hB4 := bl_trans hB3 hb4
  clear ho4 hb4
  go_wp2_with fail
  refine (behind_any A A4 k c n4 c4 l' _ w4 HL.out HL4.out (hrk.below hB4) hr4 (by omega)).mono ?_
  rintro e w5 ⟨v5, rfl, ho5, hb5⟩
  obtain ⟨A5, n5, c5, rfl, HL5, hc5, hc5', hr5⟩ := ho5.form
  have hB5 := bl_trans hB4 hb5
  clear ho5 hb5 hn4
  have c5 := of_any A5 n5 c5 _ w5 HL5.out hr5 (by omega)
  rw [reach_want] at c5
  go_wp2_with fail
  refine c5.mono ?_
  rintro e w6 ⟨rfl, hb6⟩
  have hB6 := bl_trans hB5 hb6
  clear c5 hb6 hr5 hr4
  have ex : ((s.toNat : Int) != (s.toNat : Int)) = false := by simp
  go_wp2_with fail
  refine (four_any _ _).mono ?_
  rintro e w7 ⟨v7, rfl, ho7, hb7⟩
  obtain ⟨A7, n7, c7, rfl, HL7, hc7, hc7', hr7⟩ := ho7.form
  have hn7 : n7 ≤ 4 := by have := HL7.out; simp [fourE] at this; omega
  have hB7 := bl_trans hB6 hb7
  clear ho7 hb7
  go_wp2_with fail
  refine (behind_any A A7 k c n7 c7 l' _ w7 HL.out HL7.out (hrk.below hB7) hr7 (by omega)).mono ?_
  rintro e w8 ⟨v8, rfl, ho8, hb8⟩
  obtain ⟨A8, n8, c8, rfl, HL8, hc8, hc8', hr8⟩ := ho8.form
  have hB8 := bl_trans hB7 hb8
  clear ho8 hb8 hn7
  have c8 := of_any A8 n8 c8 _ w8 HL8.out hr8 (by omega)
  rw [reach_own] at c8
  have ez : (((558161692#32 : BitVec 32).toNat : Nat) : Int) = 558161692 := by decide
  unfold Got32 at c8
  rw [ez] at c8
  go_wp2_with fail
  refine c8.mono ?_
  rintro e w9 ⟨rfl, hb9⟩
  have hB9 := bl_trans hB8 hb9
  clear c8 hb9 hr8 hr7 ez
  go_wp2_with fail
  refine (four_any o _).mono ?_
  rintro e w10 ⟨v10, rfl, ho10, hb10⟩
  obtain ⟨A10, n10, c10, rfl, HL10, hc10, hc10', hr10⟩ := ho10.form
  have hn10 : n10 ≤ 4 := by have := HL10.out; simp [fourE] at this; omega
  have hB10 := bl_trans hB9 hb10
  clear ho10 hb10
  go_wp2_with fail
  refine (behind_any A A10 k c n10 c10 l' _ w10 HL.out HL10.out (hrk.below hB10) hr10 (by omega)).mono ?_
  rintro e w11 ⟨v11, rfl, ho11, hb11⟩
  obtain ⟨A11, n11, c11, rfl, HL11, hc11, hc11', hr11⟩ := ho11.form
  have hB11 := bl_trans hB10 hb11
  clear ho11 hb11 hn10
  go_wp2_with fail
  refine (of_any A11 n11 c11 _ w11 HL11.out hr11 (by omega)).mono ?_
  rintro e w12 ⟨rfl, hb12⟩
  have hB12 := bl_trans hB11 hb12
  by_cases h : o = reachN (ofE l') s
  · have g := reach_want l' s
    rw [← h] at g
    have g1 : (((ofE (l' ++ fourE o)).toNat : Int) == (s.toNat : Int)) = true := by rw [g]; simp
    have g2 : ((o.toNat : Int) == ((reachN (ofE l') s).toNat : Int)) = true := by rw [← h]; simp
    clear g h
    go_wp2
    go_ret
    exact ⟨rfl, hB12⟩
  · have g1 := ne32 (fun e => h (reach_just l' s o e))
    have g2 := ne32 h
    clear h
    go_wp2
    go_ret
    exact ⟨rfl, hB12⟩

set_option maxRecDepth 100000 in
theorem CrcReach_holds : Rows.CrcReachSaid :=
  OpenClaim.holds_of_wide 6 Try.f6 rfl rfl rfl rfl rfl rfl rfl ⟨rfl, rfl, rfl, rfl, rfl⟩ rfl rfl rfl rfl rfl (by kernel_rfl) Try.func6 (by kernel_rfl)
    (of_decide_eq_true (by kernel_rfl)) (by unfold Func.isWrapper; first | (rw [if_pos (by decide +kernel)]; kernel_rfl) | (rw [if_neg (by decide +kernel)]; exact ⟨rfl, rfl⟩))
    (fun os started H enc _ => law_lifted (s := Rows.crcReachSpec) Try.func6 (by kernel_rfl) rfl
      (fun H ds h => by rw [Try.params6] at h; match ds, h with | [_, _, _], _ => rfl) (by kernel_rfl) (by kernel_rfl)
      os started H enc
      (ChangeSpec.witness6 (enc := enc) (C := Try.checked) false ⟨#[], #[.slice none 0 0, .int .u32 0, .int .u32 0], []⟩ 8 (by kernel_rfl) (by kernel_rfl) (by kernel_rfl) (by kernel_rfl))
      (fun W args ds p h => by
        obtain ⟨⟨base, hok⟩, hA, hl⟩ := h
        rw [Try.params6] at hok hA hl
        obtain ⟨v0, v1, v2, d0, d1, d2, p0, p1, p2, rfl, rfl, rfl, g0, g1, g2⟩ := trodAll_three hA
        obtain ⟨A0, n0, c0, l0, rfl, e0, a0, b0, r0⟩ := open_bytes (hok 0 23 v0 rfl rfl) g0 (hl 0 23 d0 rfl rfl)
        obtain ⟨n1, rfl⟩ := open_u32 (hok 1 22 v1 rfl rfl) g1
        obtain ⟨n2, rfl⟩ := open_u32 (hok 2 22 v2 rfl rfl) g2
        exact reach_walk A0 n0 c0 l0 n1 n2 W e0 a0 b0 r0))

end Go.Proofs.Ytobfmlgoelmcpaa
