/- VarnumBack: for every int, every text and whatever stands behind, the law answers true: what was written is read as it was, and what stands behind it is left. No condition. -/
import Derived.Test.YthoocdgaiojkmaaWalkE
import Derived.Test.YthoocdgaiojkmaaRow
set_option linter.unusedVariables false
namespace Go.Proofs.Ythoocdgaiojkmaa
open Go.ChangeShapes Go.WideShapes Go.ChangeAt Go.RowKit

set_option maxHeartbeats 1000000 in
set_option maxRecDepth 20000 in
theorem back_walk (n : Int) (A : Option Addr) (m c : Nat) (l : List UInt8) (A' : Option Addr) (m' c' : Nat) (l' : List UInt8) (w : World) (h1 : -9223372036854775808 ≤ n) (h2 : n ≤ 9223372036854775807)
    (hl : l.length = m) (hmc : m ≤ c) (hc : c ≤ 140737488351232) (hr : Rd w A l) (hl' : l'.length = m') (hmc' : m' ≤ c') (hc' : c' ≤ 140737488351232) (hr' : Rd w A' l') :
    Calls Try.prog 6 #[.int .i64 n, .slice A m c, .slice A' m' c'] w (Yes w) := by
  have hN := nb_le n
  have HL := Lib.hid hl
  have HL' := Lib.hid hl'
  clear hl hl'
  obtain ⟨k, HK, hk1, hk2, hmin⟩ := min_5000 m
  have hlt : (l.take k).length = k := by rw [List.length_take, HL.out]; omega
  have HLT := Lib.hid hlt
  clear hlt
  go_enter Try.func6, Try.ntmps6
  go_wp2_with (go_at_call 19; refine (works_any _).mono ?_; rintro e w1 ⟨rfl, hb1⟩)
  refine (number_any n w1 h1 h2).mono ?_
  rintro e w1' ⟨rfl, rfl⟩
  go_wp2_with fail
  refine (num_ok (nb n) w1 hN).mono ?_
  rintro e w2 ⟨v2, rfl, ho2, hb2⟩
  obtain ⟨A2, n2, c2, rfl, HL2, hc2, hc2', hr2⟩ := ho2.form
  have hB2 := bl_trans hb1 hb2
  have ctx := text_any A k c 5000 (l.take k) w2 HLT.out ((hr.below hB2).take k) (by omega) (by omega) (by omega)
  obtain ⟨T, HT⟩ : ∃ T, Hid (T = digs k ++ l.take k) := ⟨_, rfl⟩
  have etx : textE (l.take k) 5000 = (T, 0) := by
    unfold textE
    rw [HT.out, HLT.out, if_neg (by omega), if_neg (by omega)]
  rw [etx] at ctx
  have CTX := Lib.hid ctx
  clear ctx etx ho2
  go_wp2_with fail
  refine (CTX.out).mono ?_
  rintro e w3 ⟨v3, rfl, ho3, hb3⟩
  obtain ⟨A3, n3, c3, rfl, HL3, hc3, hc3', hr3⟩ := ho3.form
  have hB3 := bl_trans hB2 hb3
  clear ho3 CTX
  have hn2 : n2 ≤ 8 := by
    have := HL2.out
    have := digs_len8 hN
    omega
  have hn3 : n3 ≤ 6000 := by
    have a1 := HL3.out
    rw [HT.out, List.length_append, HLT.out] at a1
    have := digs_len8 (n := k) (by omega)
    omega
  go_wp2_with fail
  refine (copy_any A2 n2 c2 (digs (nb n)) w3 HL2.out (hr2.below hb3) (by omega)).mono ?_
  rintro e w4 ⟨v4, rfl, ho4, hb4⟩
  have hsz4 := hb4.size
  go_wp2_with (at_builtin; refine wpList_append_bytes _ rfl (.tmp 37) (.tmp 38) rfl w3.heap.size _ (digs (nb n)) rfl ho4 A3 n3 c3 T rfl HL3.out (hr3.below hb4) (by have := HL3.out; have := HL2.out; omega) hsz4 ?_)
  intro v5 w5 ho5 hg5 _
  have hb5 : Below w3.heap.size w3 w5 := bl_grown hb4 hg5 (fun k hk => (ho4.lt k hk).1)
  have hsz5 := hb5.size
  have hB5 := bl_trans hB3 hb5
  have hlen5 : (digs (nb n) ++ T).length + l'.length ≤ 200000000000000 := by
    rw [List.length_append, HL3.out, HL2.out, HL'.out]
    omega
  go_wp2_with (at_builtin; refine wpList_append_bytes _ rfl (.tmp 39) (.tmp 40) rfl w3.heap.size _ _ rfl ho5 A' m' c' l' rfl HL'.out (hr'.below hB5) hlen5 hsz5 ?_)
  intro v6 w6 ho6 hg6 _
  have hb6 : Below w3.heap.size w3 w6 := bl_grown hb5 hg6 (fun k hk => (ho5.lt k hk).1)
  have hB6 := bl_trans hB3 hb6
  obtain ⟨A6, n6, c6, rfl, HL6, hc6, hc6', hr6⟩ := ho6.form
  have hn6 : n6 ≤ 200000000000000 := by
    have a1 := HL6.out
    rw [List.length_append, List.length_append, HL3.out, HL2.out, HL'.out] at a1
    omega
  have ct := take_any A6 n6 c6 (digs (nb n) ++ (T ++ l')) w6 HL6.out hr6 hc6 hc6' hn6
  rw [takeN_digs _ hN] at ct
  have CT := Lib.hid ct
  clear ct ho4 ho5 ho6 hg5 hg6 hlen5
  go_wp2_with fail
  refine (CT.out).mono ?_
  rintro e w7 ⟨v7, rfl, ho7, hb7⟩
  obtain ⟨A7, n7, c7, rfl, HL7, hc7, hc7', hr7⟩ := ho7.form
  have hB7 := bl_trans hB6 hb7
  have hn7 : n7 ≤ 200000000000000 := by
    have a1 := HL7.out
    rw [List.length_append, HL3.out, HL'.out] at a1
    omega
  have cu := takeT_any A7 n7 c7 5000 (T ++ l') w7 HL7.out hr7 hc7 hc7' hn7 (by omega) (by omega)
  have eu : takeT (T ++ l') 5000 = (l.take k, l', 0) := by
    have h := takeT_text (t := l.take k) (r := l') (most := 5000) (by rw [HLT.out]; omega) (by rw [HLT.out]; omega)
    rw [HLT.out, ← HT.out] at h
    exact h
  rw [eu] at cu
  have CU := Lib.hid cu
  clear cu eu ho7
  go_wp2_with fail
  refine (CU.out).mono ?_
  rintro e w8 ⟨v8, u8, rfl, ho8, hp8, _, hb8⟩
  obtain ⟨A8, n8, c8, rfl, HL8, hc8, hc8', hr8⟩ := ho8.form
  obtain ⟨A9, n9, c9, rfl, HL9, hc9, hc9', hr9⟩ := hp8.form
  have hB8 := bl_trans hB7 hb8
  clear ho8 hp8
  go_wp2_with fail
  refine (number_any n w8 h1 h2).mono ?_
  rintro e w8' ⟨rfl, rfl⟩
  go_wp2_with fail
  refine (eq_true A8 A n8 c8 k c (l.take k) w8 HL8.out HLT.out hr8 ((hr.below hB8).take k) (by omega)).mono ?_
  rintro e w9 ⟨rfl, hb9⟩
  go_wp2_with fail
  refine (eq_true A9 A' n9 c9 m' c' l' w9 HL9.out HL'.out (hr9.below hb9) (hr'.below (bl_trans hB8 hb9)) (by omega)).mono ?_
  rintro e w10 ⟨rfl, hb10⟩
  go_wp2
  go_ret
  exact ⟨rfl, bl_trans (bl_trans hB8 hb9) hb10⟩

set_option maxRecDepth 100000 in
theorem VarnumBack_holds : Rows.VarnumBackSaid :=
  OpenClaim.holds_of_wide 6 Try.f6 rfl rfl rfl rfl rfl rfl rfl ⟨rfl, rfl, rfl, rfl, rfl⟩ rfl rfl rfl rfl rfl (by kernel_rfl) Try.func6 (by kernel_rfl)
    (of_decide_eq_true (by kernel_rfl)) (by unfold Func.isWrapper; first | (rw [if_pos (by decide +kernel)]; kernel_rfl) | (rw [if_neg (by decide +kernel)]; exact ⟨rfl, rfl⟩))
    (fun os started H enc _ => law_lifted (s := Rows.varnumBackSpec) Try.func6 (by kernel_rfl) rfl
      (fun H ds h => by rw [Try.params6] at h; match ds, h with | [_, _, _], _ => rfl) (by kernel_rfl) (by kernel_rfl)
      os started H enc
      (ChangeSpec.witness6 (enc := enc) (C := Try.checked) false ⟨#[], #[.int .i64 0, .slice none 0 0, .slice none 0 0], []⟩ 8 (by kernel_rfl) (by kernel_rfl) (by kernel_rfl) (by kernel_rfl))
      (fun W args ds p h => by
        obtain ⟨⟨base, hok⟩, hA, hl⟩ := h
        rw [Try.params6] at hok hA hl
        obtain ⟨v0, v1, v2, d0, d1, d2, p0, p1, p2, rfl, rfl, rfl, g0, g1, g2⟩ := trodAll_three hA
        obtain ⟨n0, rfl, a0, b0⟩ := open_i64 (hok 0 3 v0 rfl rfl) g0
        obtain ⟨A1, n1, c1, l1, rfl, e1, a1, b1, r1⟩ := open_bytes (hok 1 22 v1 rfl rfl) g1 (hl 1 22 d1 rfl rfl)
        obtain ⟨A2, n2, c2, l2, rfl, e2, a2, b2, r2⟩ := open_bytes (hok 2 22 v2 rfl rfl) g2 (hl 2 22 d2 rfl rfl)
        exact back_walk n0 A1 n1 c1 l1 A2 n2 c2 l2 W a0 b0 e1 a1 b1 r1 e2 a2 b2 r2))

end Go.Proofs.Ythoocdgaiojkmaa
