/- VarnumApart: for every two ints and every two texts the law answers true: no number's bytes, no text's bytes, are the beginning of another one's. No condition. -/
import Derived.Test.YthoocdgaiojkmaaWalkF
import Derived.Test.YthoocdgaiojkmaaRow
set_option linter.unusedVariables false
namespace Go.Proofs.Ythoocdgaiojkmaa
open Go.ChangeShapes Go.WideShapes Go.ChangeAt Go.RowKit

set_option maxHeartbeats 2000000 in
set_option maxRecDepth 20000 in
theorem apart_walk (x y : Int) (A : Option Addr) (m c : Nat) (l : List UInt8) (A' : Option Addr) (m' c' : Nat) (l' : List UInt8) (w : World) (h1 : -9223372036854775808 ≤ x) (h2 : x ≤ 9223372036854775807) (h3 : -9223372036854775808 ≤ y) (h4 : y ≤ 9223372036854775807)
    (hl : l.length = m) (hmc : m ≤ c) (hc : c ≤ 140737488351232) (hr : Rd w A l) (hl' : l'.length = m') (hmc' : m' ≤ c') (hc' : c' ≤ 140737488351232) (hr' : Rd w A' l') :
    Calls Try.prog 8 #[.agg #[.int .i64 x, .int .i64 y], .slice A m c, .slice A' m' c'] w (Yes w) := by
  have hX := nb_le x
  have hY := nb_le y
  have HL := Lib.hid hl
  have HL' := Lib.hid hl'
  clear hl hl'
  obtain ⟨k, HK, hk1, hk2, hmin⟩ := min_5000 m
  obtain ⟨k', HK', hk1', hk2', hmin'⟩ := min_5000 m'
  go_enter Try.func8, Try.ntmps8
  go_wp2_with fail
  refine (works_any _).mono ?_
  rintro e w1 ⟨rfl, hb1⟩
  have hx1 : w1.cell? ⟨w.heap.size, 0, none⟩ = some (.int .i64 x) := (hb1.cell (by simp)).trans (by simp)
  have hy1 : w1.cell? ⟨w.heap.size, 1, none⟩ = some (.int .i64 y) := (hb1.cell (by simp)).trans (by simp)
  have hB1 := bl_of_alloc hb1
  have hlt1 : w.heap.size < w1.heap.size := by have := hb1.size; simp at this; omega
  clear hb1
  go_wp2_with fail
  go_quiet (fail)
  have hxq : (w1.drewN nq).cell? ⟨w.heap.size, 0, none⟩ = some (.int .i64 x) := hx1
  have hyq : (w1.drewN nq).cell? ⟨w.heap.size, 1, none⟩ = some (.int .i64 y) := hy1
  have hBq := bl_drewN hB1 nq
  have hltq : w.heap.size < (w1.drewN nq).heap.size := hlt1
  clear hx1 hy1 hB1 hlt1
  generalize w1.drewN nq = wq at *
  go_wp2_with fail
  refine (number_any x wq h1 h2).mono ?_
  rintro e wq' ⟨rfl, rfl⟩
  go_wp2_with fail
  refine (num_ok (nb x) wq hX).mono ?_
  rintro e w2 ⟨v2, rfl, ho2, hb2⟩
  obtain ⟨A2, n2, c2, rfl, HL2, hc2, hc2', hr2⟩ := ho2.form
  have hx2 := (hb2.cell (p := ⟨w.heap.size, 0, none⟩) hltq).trans hxq
  have hy2 := (hb2.cell (p := ⟨w.heap.size, 1, none⟩) hltq).trans hyq
  have hB2 := bl_trans hBq hb2
  have hlt2 : w.heap.size < w2.heap.size := Nat.lt_of_lt_of_le hltq hb2.size
  clear ho2 hb2 hxq hyq hBq hltq
  go_wp2_with fail
  refine (number_any y w2 h3 h4).mono ?_
  rintro e w2' ⟨rfl, rfl⟩
  go_wp2_with fail
  refine (num_ok (nb y) w2 hY).mono ?_
  rintro e w3 ⟨v3, rfl, ho3, hb3⟩
  obtain ⟨A3, n3, c3, rfl, HL3, hc3, hc3', hr3⟩ := ho3.form
  have hx3 := (hb3.cell (p := ⟨w.heap.size, 0, none⟩) hlt2).trans hx2
  have hy3 := (hb3.cell (p := ⟨w.heap.size, 1, none⟩) hlt2).trans hy2
  have hB3 := bl_trans hB2 hb3
  have hlt3 : w.heap.size < w3.heap.size := Nat.lt_of_lt_of_le hlt2 hb3.size
  replace hr2 := hr2.below hb3
  clear ho3 hb3 hx2 hy2 hB2 hlt2
  have hlt : (l.take k).length = k := by rw [List.length_take, HL.out]; omega
  have HLT := Lib.hid hlt
  have hlt' : (l'.take k').length = k' := by rw [List.length_take, HL'.out]; omega
  have HLT' := Lib.hid hlt'
  obtain ⟨T, HT⟩ : ∃ T, Hid (T = digs k ++ l.take k) := ⟨_, rfl⟩
  obtain ⟨T', HT'⟩ : ∃ T, Hid (T = digs k' ++ l'.take k') := ⟨_, rfl⟩
  have etx : textE (l.take k) 5000 = (T, 0) := by
    unfold textE
    rw [HT.out, HLT.out, if_neg (by omega), if_neg (by omega)]
  have etx' : textE (l'.take k') 5000 = (T', 0) := by
    unfold textE
    rw [HT'.out, HLT'.out, if_neg (by omega), if_neg (by omega)]
  have ctx := text_any A k c 5000 (l.take k) w3 hlt ((hr.below hB3).take k) (by omega) (by omega) (by omega)
  rw [etx] at ctx
  have CTX := Lib.hid ctx
  have ETX := Lib.hid etx'
  clear ctx etx etx' hlt hlt'
  go_wp2_with fail
  refine (CTX.out).mono ?_
  rintro e w4 ⟨v4, rfl, ho4, hb4⟩
  obtain ⟨A4, n4, c4, rfl, HL4, hc4, hc4', hr4⟩ := ho4.form
  have hx4 := (hb4.cell (p := ⟨w.heap.size, 0, none⟩) hlt3).trans hx3
  have hy4 := (hb4.cell (p := ⟨w.heap.size, 1, none⟩) hlt3).trans hy3
  have hB4 := bl_trans hB3 hb4
  have hlt4 : w.heap.size < w4.heap.size := Nat.lt_of_lt_of_le hlt3 hb4.size
  replace hr2 := hr2.below hb4
  replace hr3 := hr3.below hb4
  clear ho4 hb4 hx3 hy3 hB3 hlt3 CTX
  have ctx := text_any A' k' c' 5000 (l'.take k') w4 HLT'.out ((hr'.below hB4).take k') (by omega) (by omega) (by omega)
  rw [ETX.out] at ctx
  have CTX := Lib.hid ctx
  clear ctx
  go_wp2_with fail
  refine (CTX.out).mono ?_
  rintro e w5 ⟨v5, rfl, ho5, hb5⟩
  obtain ⟨A5, n5, c5, rfl, HL5, hc5, hc5', hr5⟩ := ho5.form
  have hx5 := (hb5.cell (p := ⟨w.heap.size, 0, none⟩) hlt4).trans hx4
  have hy5 := (hb5.cell (p := ⟨w.heap.size, 1, none⟩) hlt4).trans hy4
  have hB5 := bl_trans hB4 hb5
  replace hr2 := hr2.below hb5
  replace hr3 := hr3.below hb5
  replace hr4 := hr4.below hb5
  have hrl := (hr.below hB5).take k
  have hrl' := (hr'.below hB5).take k'
  clear ho5 hb5 hx4 hy4 hB4 hlt4 CTX hr hr'
  -- what the last line holds against each other
  have q1 : ∀ W : World, Rd W A2 (digs (nb x)) → Rd W A3 (digs (nb y)) → Calls Try.prog 27 #[.slice A2 n2 c2, .slice A3 n3 c3] W fun e w' => e = .returned (.bool (decide (nb x = nb y))) ∧ w' = W := fun W g g' => by
    have h := prefix_any A2 A3 n2 c2 n3 c3 _ _ W HL2.out HL3.out g g' hc2 hc2'
    have e : begins (digs (nb x)) (digs (nb y)) = decide (nb x = nb y) := by
      unfold begins
      rw [decide_eq_decide]
      exact ⟨fun g => (digs_inj_pre hX hY g).symm, fun g => by rw [g]; exact List.prefix_refl _⟩
    rw [e] at h
    exact h
  have q2 : ∀ W : World, Rd W A4 T → Rd W A5 T' → Calls Try.prog 27 #[.slice A4 n4 c4, .slice A5 n5 c5] W fun e w' => e = .returned (.bool (decide (l.take k = l'.take k'))) ∧ w' = W := fun W g g' => by
    have h := prefix_any A4 A5 n4 c4 n5 c5 _ _ W HL4.out HL5.out g g' hc4 hc4'
    have e : begins T T' = decide (l.take k = l'.take k') := by
      unfold begins
      rw [decide_eq_decide, HT.out, HT'.out]
      have e1 : k = (l.take k).length := HLT.out.symm
      have e2 : k' = (l'.take k').length := HLT'.out.symm
      constructor
      · intro g
        rw [show digs k = digs (l.take k).length by rw [HLT.out], show digs k' = digs (l'.take k').length by rw [HLT'.out]] at g
        exact (text_inj_pre (by rw [HLT.out]; omega) (by rw [HLT'.out]; omega) g).symm
      · intro g
        have : k = k' := by rw [e1, e2, g]
        subst this
        rw [g]
        exact List.prefix_refl _
    rw [e] at h
    exact h
  have q3 : ∀ W : World, Rd W A (l.take k) → Rd W A' (l'.take k') → Calls Try.prog 28 #[.slice A k c, .slice A' k' c'] W fun e w' => e = .returned (.bool (decide (l.take k = l'.take k'))) ∧ w' = W := fun W g g' =>
    equal_any A A' k c k' c' _ _ W HLT.out HLT'.out g g'
  have q4 : ∀ (i : Int) (W : World), -9223372036854775808 ≤ i → i ≤ 9223372036854775807 → Calls Try.prog 26 #[.int .i64 i] W fun e w' => e = .returned (.int .i64 (nb i : Int)) ∧ w' = W := fun i W g g' =>
    (number_any i W g g').mono fun e w' h => ⟨h.1, h.2.symm⟩
  have e1 : ((nb x : Int) == (nb y : Int)) = decide (nb x = nb y) := by
    by_cases h : nb x = nb y
    · simp [h]
    · simp only [h, decide_false, beq_eq_false_iff_ne, ne_eq]; omega
  generalize decide (nb x = nb y) = b1 at *
  generalize decide (l.take k = l'.take k') = b2 at *
  have f1 : (b1 == b1) = true := by simp
  have f2 : (b2 == b2) = true := by simp
  have Q1 := Lib.hid q1
  have Q2 := Lib.hid q2
  have Q3 := Lib.hid q3
  have Q4 := Lib.hid q4
  clear q1 q2 q3 q4
  go_wp2_with fail
  go_quiet ((first
    | (go_at_call_of 27 A2; exact Calls.quiet_of_same (Q1.out _ hr2 hr3))
    | (go_at_call_of 27 A4; exact Calls.quiet_of_same (Q2.out _ hr4 hr5))
    | (go_at_call 28; exact Calls.quiet_of_same (Q3.out _ hrl hrl'))
    | (go_at_call 26; exact Calls.quiet_of_same (Q4.out _ _ (by omega) (by omega)))))
  go_wp2
  go_ret
  exact ⟨by simp, bl_drewN hB5 _⟩

set_option maxRecDepth 100000 in
theorem VarnumApart_holds : Rows.VarnumApartSaid :=
  OpenClaim.holds_of_wide 8 Try.f8 rfl rfl rfl rfl rfl rfl rfl ⟨rfl, rfl, rfl, rfl, rfl⟩ rfl rfl rfl rfl rfl (by kernel_rfl) Try.func8 (by kernel_rfl)
    (of_decide_eq_true (by kernel_rfl)) (by unfold Func.isWrapper; first | (rw [if_pos (by decide +kernel)]; kernel_rfl) | (rw [if_neg (by decide +kernel)]; exact ⟨rfl, rfl⟩))
    (fun os started H enc _ => law_lifted (s := Rows.varnumApartSpec) Try.func8 (by kernel_rfl) rfl
      (fun H ds h => by rw [Try.params8] at h; match ds, h with | [_, _, _], _ => rfl) (by kernel_rfl) (by kernel_rfl)
      os started H enc
      (ChangeSpec.witness6 (enc := enc) (C := Try.checked) false ⟨#[], #[.agg #[.int .i64 0, .int .i64 0], .slice none 0 0, .slice none 0 0], []⟩ 8 (by kernel_rfl) (by kernel_rfl) (by kernel_rfl) (by kernel_rfl))
      (fun W args ds p h => by
        obtain ⟨⟨base, hok⟩, hA, hl⟩ := h
        rw [Try.params8] at hok hA hl
        obtain ⟨v0, v1, v2, d0, d1, d2, p0, p1, p2, rfl, rfl, rfl, g0, g1, g2⟩ := trodAll_three hA
        obtain ⟨x0, y0, rfl, a0, b0, a0', b0'⟩ := open_i64x2 (hok 0 44 v0 rfl rfl) g0
        obtain ⟨A1, n1, c1, l1, rfl, e1, a1, b1, r1⟩ := open_bytes (hok 1 22 v1 rfl rfl) g1 (hl 1 22 d1 rfl rfl)
        obtain ⟨A2, n2, c2, l2, rfl, e2, a2, b2, r2⟩ := open_bytes (hok 2 22 v2 rfl rfl) g2 (hl 2 22 d2 rfl rfl)
        exact apart_walk x0 y0 A1 n1 c1 l1 A2 n2 c2 l2 W a0 b0 a0' b0' e1 a1 b1 r1 e2 a2 b2 r2))

end Go.Proofs.Ythoocdgaiojkmaa
