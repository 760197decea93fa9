/- VarnumCut: for every int, every text and every place the law answers true: what is cut is told by ErrTrunc. No condition. -/
import Derived.Test.YthoocdgaiojkmaaWalkE
import Derived.Test.YthoocdgaiojkmaaRow
set_option linter.unusedVariables false
namespace Go.Proofs.Ythoocdgaiojkmaa
open Go.ChangeShapes Go.WideShapes Go.ChangeAt Go.RowKit

set_option maxHeartbeats 1000000 in
set_option maxRecDepth 20000 in
theorem cut_walk (n : Int) (A : Option Addr) (m c : Nat) (l : List UInt8) (i : Int) (w : World) (h1 : -9223372036854775808 ≤ n) (h2 : n ≤ 9223372036854775807) (hl : l.length = m) (hmc : m ≤ c) (hc : c ≤ 140737488351232) (hr : Rd w A l)
    (h3 : -9223372036854775808 ≤ i) (h4 : i ≤ 9223372036854775807) :
    Calls Try.prog 9 #[.int .i64 n, .slice A m c, .int .i64 i] w (Yes w) := by
  have hN := nb_le n
  have HL := Lib.hid hl
  clear hl
  obtain ⟨k, HK, hk1, hk2, hmin⟩ := min_5000 m
  go_enter Try.func9, Try.ntmps9
  go_wp2_with (go_at_call 19; refine (works_any _).mono ?_; rintro e w1 ⟨rfl, hb1⟩)
  refine (number_any n w1 h1 h2).mono ?_
  rintro e w1' ⟨rfl, rfl⟩
  go_wp2_with fail
  refine (num_ok (nb n) w1 hN).mono ?_
  rintro e w2 ⟨v2, rfl, ho2, hb2⟩
  obtain ⟨A2, n2, c2, rfl, HL2, hc2, hc2', hr2⟩ := ho2.form
  have hB2 := bl_trans hb1 hb2
  clear ho2 hb2 hb1
  have hlt : (l.take k).length = k := by rw [List.length_take, HL.out]; omega
  have HLT := Lib.hid hlt
  have ctx := text_any A k c 5000 (l.take k) w2 hlt ((hr.below hB2).take k) (by omega) (by omega) (by omega)
  have etx : textE (l.take k) 5000 = (digs k ++ l.take k, 0) := by
    unfold textE
    rw [hlt, if_neg (by omega), if_neg (by omega)]
  rw [etx] at ctx
  have CTX := Lib.hid ctx
  clear ctx etx hlt hr
  go_wp2_with fail
  refine (CTX.out).mono ?_
  rintro e w3 ⟨v3, rfl, ho3, hb3⟩
  obtain ⟨A3, n3, c3, rfl, HL3, hc3, hc3', hr3⟩ := ho3.form
  have hB3 := bl_trans hB2 hb3
  have hn2 : 0 < n2 ∧ n2 ≤ 8 := by
    have := HL2.out
    have := digs_len_pos (nb n)
    have := digs_len8 hN
    omega
  have hn3 : 0 < n3 ∧ n3 ≤ 6000 := by
    have a1 := HL3.out
    rw [List.length_append, HLT.out] at a1
    have := digs_len_pos k
    have := digs_len8 (n := k) (by omega)
    omega
  have b2 : ((n2 : Int) == 0) = false := by simp; omega
  have b3 : ((n3 : Int) == 0) = false := by simp; omega
  obtain ⟨j2, hj2, _, HB2⟩ := bring_nat i n2 h3 h4 hn2.1 (by omega)
  obtain ⟨j3, hj3, _, HB3⟩ := bring_nat i n3 h3 h4 hn3.1 (by omega)
  clear ho3 CTX
  unfold maxLen at hc2' hc3'
  go_wp2_with fail
  refine (HB2.out w3).mono ?_
  rintro e w3' ⟨rfl, rfl⟩
  have ct2 := take_any A2 j2 c2 ((digs (nb n)).take j2) w3 (by rw [List.length_take, HL2.out]; omega) ((hr2.below hb3).take j2) (by omega) (by simp only [maxLen]; omega) (by omega)
  rw [takeN_cut hN (by rw [HL2.out]; omega)] at ct2
  have CT2 := Lib.hid ct2
  clear ct2
  go_wp2_with fail
  refine (CT2.out).mono ?_
  rintro e w4 ⟨v4, rfl, _, hb4⟩
  go_wp2_with fail
  refine (HB3.out w4).mono ?_
  rintro e w4' ⟨rfl, rfl⟩
  have ct3 := takeT_any A3 j3 c3 5000 ((digs k ++ l.take k).take j3) w4 (by rw [List.length_take, HL3.out]; omega) ((hr3.below hb4).take j3) (by omega) (by simp only [maxLen]; omega) (by omega) (by omega) (by omega)
  have ek : k = (l.take k).length := HLT.out.symm
  have eg : takeT ((digs k ++ l.take k).take j3) 5000 = ([], [], 3) := by
    have h := takeT_cut (t := l.take k) (i := j3) (most := 5000) (by rw [HLT.out]; omega) (by rw [HLT.out]; omega) (by rw [HLT.out, HL3.out]; exact hj3)
    rw [HLT.out] at h
    exact h
  rw [eg] at ct3
  have CT3 := Lib.hid ct3
  clear ct3 ek eg
  go_wp2_with fail
  refine (CT3.out).mono ?_
  rintro e w5 ⟨v5, u5, rfl, _, _, _, hb5⟩
  go_wp2
  go_ret
  exact ⟨rfl, bl_trans (bl_trans hB3 hb4) hb5⟩

set_option maxRecDepth 100000 in
theorem VarnumCut_holds : Rows.VarnumCutSaid :=
  OpenClaim.holds_of_wide 9 Try.f9 rfl rfl rfl rfl rfl rfl rfl ⟨rfl, rfl, rfl, rfl, rfl⟩ rfl rfl rfl rfl rfl (by kernel_rfl) Try.func9 (by kernel_rfl)
    (of_decide_eq_true (by kernel_rfl)) (by unfold Func.isWrapper; first | (rw [if_pos (by decide +kernel)]; kernel_rfl) | (rw [if_neg (by decide +kernel)]; exact ⟨rfl, rfl⟩))
    (fun os started H enc _ => law_lifted (s := Rows.varnumCutSpec) Try.func9 (by kernel_rfl) rfl
      (fun H ds h => by rw [Try.params9] at h; match ds, h with | [_, _, _], _ => rfl) (by kernel_rfl) (by kernel_rfl)
      os started H enc
      (ChangeSpec.witness6 (enc := enc) (C := Try.checked) false ⟨#[], #[.int .i64 0, .slice none 0 0, .int .i64 0], []⟩ 8 (by kernel_rfl) (by kernel_rfl) (by kernel_rfl) (by kernel_rfl))
      (fun W args ds p h => by
        obtain ⟨⟨base, hok⟩, hA, hl⟩ := h
        rw [Try.params9] at hok hA hl
        obtain ⟨v0, v1, v2, d0, d1, d2, p0, p1, p2, rfl, rfl, rfl, g0, g1, g2⟩ := trodAll_three hA
        obtain ⟨n0, rfl, a0, b0⟩ := open_i64 (hok 0 3 v0 rfl rfl) g0
        obtain ⟨A1, n1, c1, l1, rfl, e1, a1, b1, r1⟩ := open_bytes (hok 1 22 v1 rfl rfl) g1 (hl 1 22 d1 rfl rfl)
        obtain ⟨n2, rfl, a2, b2⟩ := open_i64 (hok 2 3 v2 rfl rfl) g2
        exact cut_walk n0 A1 n1 c1 l1 n2 W a0 b0 e1 a1 b1 r1 a2 b2))

end Go.Proofs.Ythoocdgaiojkmaa
