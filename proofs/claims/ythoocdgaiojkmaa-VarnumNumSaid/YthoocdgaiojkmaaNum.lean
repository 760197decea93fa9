/- VarnumNum: for every int and all bytes the law answers true: Num and TakeNum answer as the chapter says; what is handed in stays, what is answered is memory of its own. No condition. -/
import Derived.Test.YthoocdgaiojkmaaWalkH
import Derived.Test.YthoocdgaiojkmaaRow
set_option linter.unusedVariables false
namespace Go.Proofs.Ythoocdgaiojkmaa
open Go.ChangeShapes Go.WideShapes Go.ChangeAt Go.RowKit

set_option maxHeartbeats 2000000 in
set_option maxRecDepth 20000 in
theorem num_walk (n : Int) (A : Option Addr) (m c : Nat) (l : List UInt8) (w : World) (h1 : -9223372036854775808 ≤ n) (h2 : n ≤ 9223372036854775807) (hl : l.length = m) (hmc : m ≤ c) (hc : c ≤ 140737488351232) (hr : Rd w A l) :
    Calls Try.prog 3 #[.int .i64 n, .slice A m c] w (Yes w) := by
  have HL := Lib.hid hl
  clear hl
  have cn := fun W : World => num_any n W h1 h2
  have cm := fun W : World => refnum_any n W h1 h2
  obtain ⟨p, hp⟩ : ∃ p, p = numE n := ⟨_, rfl⟩
  rw [← hp] at cn cm
  obtain ⟨X, er⟩ := p
  have HX8 : Hid (X.length ≤ 8) := Lib.hid (by
    have : X = (numE n).1 := by rw [← hp]
    rw [this]
    unfold numE
    split
    · simp
    · exact digs_len8 (by omega))
  have CN := Lib.hid cn
  have CM := Lib.hid cm
  clear cn cm hp
  dsimp only at CN CM
  obtain ⟨q, hq⟩ : ∃ q, q = takeN l := ⟨_, rfl⟩
  have ct : ∀ (B : Option Addr) (k d : Nat) (W : World), l.length = k → Rd W B l → k ≤ d → d ≤ maxLen → k ≤ 200000000000000 → Calls Try.prog 15 #[.slice B k d] W (GotNumE W q.1 q.2.1 q.2.2) := fun B k d W g1 g2 g3 g4 g5 => by
    rw [hq]
    exact take_any B k d l W g1 g2 g3 g4 g5
  have cu : ∀ (B : Option Addr) (k d : Nat) (W : World), l.length = k → Rd W B l → k ≤ d → d ≤ maxLen → k ≤ 200000000000000 → Calls Try.prog 16 #[.slice B k d] W (GotNumE W q.1 q.2.1 q.2.2) := fun B k d W g1 g2 g3 g4 g5 => by
    rw [hq]
    exact reftake_any B k d l W g1 g2 g3 g4 g5
  have hql : q.2.1.length ≤ l.length := by
    rw [hq]
    unfold takeN
    split
    · simp
    · simp
  obtain ⟨M, R, g⟩ := q
  have CT := Lib.hid ct
  have CU := Lib.hid cu
  clear ct cu hq
  dsimp only at CT CU hql
  have HQL := Lib.hid hql
  clear hql
  have fe : ((er : Int) != (er : Int)) = false := by simp
  have fm : ((M : Int) != (M : Int)) = false := by simp
  have fg : ((g : Int) != (g : Int)) = false := by simp
  have hmax : maxLen = 9223372036854775807 := rfl
  have HM := Lib.hid hmax
  clear hmax
  go_enter Try.func3, Try.ntmps3
  go_wp2_with fail
  refine (CN.out w).mono ?_
  rintro e w1 ⟨v1, rfl, ho1, hb1⟩
  obtain ⟨A1, n1, c1, rfl, HL1, hc1, hc1', hr1⟩ := ho1.form
  go_wp2_with fail
  refine (CM.out w1).mono ?_
  rintro e w2 ⟨v2, rfl, ho2, hb2⟩
  obtain ⟨A2, n2, c2, rfl, HL2, hc2, hc2', hr2⟩ := ho2.form
  have hB2 := bl_trans hb1 hb2
  go_wp2_with fail
  refine (copy_any A m c l w2 HL.out (hr.below hB2) (by omega)).mono ?_
  rintro e w3 ⟨v3, rfl, ho3, hb3⟩
  obtain ⟨A3, n3, c3, rfl, HL3, hc3, hc3', hr3⟩ := ho3.form
  have hB3 := bl_trans hB2 hb3
  have hn3 : n3 ≤ 140737488351232 := by have := HL3.out; have := HL.out; omega
  go_wp2_with fail
  refine (CT.out A3 n3 c3 w3 HL3.out hr3 hc3 hc3' (by omega)).mono ?_
  rintro e w4 ⟨v4, rfl, ho4, hb4⟩
  obtain ⟨A4, n4, c4, rfl, HL4, hc4, hc4', hr4⟩ := ho4.form
  have hB4 := bl_trans hB3 hb4
  have hn4 : n4 ≤ 140737488351232 := by have := HL4.out; have := HQL.out; have := HL.out; omega
  go_wp2_with fail
  refine (CU.out A m c w4 HL.out (hr.below hB4) hmc (by rw [HM.out]; omega) (by omega)).mono ?_
  rintro e w5 ⟨v5, rfl, ho5, hb5⟩
  obtain ⟨A5, n5, c5, rfl, HL5, hc5, hc5', hr5⟩ := ho5.form
  have hB5 := bl_trans hB4 hb5
  have hn1 : n1 ≤ 8 := by have := HL1.out; have := HX8.out; omega
  have hn2 : n2 ≤ 8 := by have := HL2.out; have := HX8.out; omega
  -- where each of them lies
  have k1 : Own w5 w.heap.size (.slice A1 n1 c1) X := (((ho1.below hb2).below hb3).below hb4).below hb5
  have k2 : Own w5 w1.heap.size (.slice A2 n2 c2) X := ((ho2.below hb3).below hb4).below hb5
  have k3 : Own w5 w2.heap.size (.slice A3 n3 c3) l := (ho3.below hb4).below hb5
  have k4 : Own w5 w3.heap.size (.slice A4 n4 c4) R := ho4.below hb5
  have p21 := own_apart' ho1 ho2 (Nat.le_refl _)
  have p31 := own_apart' ho1 ho3 hb2.size
  have p41 := own_apart' ho1 ho4 (Nat.le_trans hb2.size hb3.size)
  have p24 := own_apart ((ho2.below hb3)) ho4
  have p34 := own_apart ho3 ho4
  clear ho1 ho2 ho3 ho4 ho5
  go_wp2_with fail
  refine (eq_true A1 A2 n1 c1 n2 c2 X w5 HL1.out HL2.out (k1.rd) (k2.rd) (by rw [HM.out]; omega)).mono ?_
  rintro e w6 ⟨rfl, hb6⟩
  go_wp2_with fail
  refine (eq_true A4 A5 n4 c4 n5 c5 R w6 HL4.out HL5.out (k4.rd.below hb6) (hr5.below hb6) (by rw [HM.out]; omega)).mono ?_
  rintro e w7 ⟨rfl, hb7⟩
  have hb57 := bl_trans hb6 hb7
  have hB7 := bl_trans hB5 hb57
  replace k1 := k1.below hb57
  replace k2 := k2.below hb57
  replace k3 := k3.below hb57
  replace k4 := k4.below hb57
  clear hb6 hb7 hb57
  go_wp2_with fail
  refine (spoil_any A1 n1 c1 _ X w7 k1 (by rw [HM.out]; omega)).mono ?_
  rintro e w8 ⟨rfl, hg8⟩
  replace k2 := k2.kept hg8 p21
  replace k3 := k3.kept hg8 p31
  replace k4 := k4.kept hg8 p41
  have hB8 := bl_grown hB7 hg8 (fun k hk => (k1.lt k hk).1)
  clear k1 hg8
  go_wp2_with fail
  refine (spoil_any A4 n4 c4 _ R w8 k4 (by rw [HM.out]; omega)).mono ?_
  rintro e w9 ⟨rfl, hg9⟩
  replace k2 := k2.kept hg9 p24
  replace k3 := k3.kept hg9 p34
  have hB9 := bl_grown hB8 hg9 (fun k hk => Nat.le_trans hB3.size (k4.lt k hk).1)
  clear k4 hg9
  go_wp2_with fail
  refine (CN.out w9).mono ?_
  rintro e w10 ⟨v10, rfl, ho10, hb10⟩
  obtain ⟨A10, n10, c10, rfl, HL10, hc10, hc10', hr10⟩ := ho10.form
  have hn10 : n10 ≤ 8 := by have := HL10.out; have := HX8.out; omega
  have hB10 := bl_trans hB9 hb10
  replace k2 := k2.below hb10
  replace k3 := k3.below hb10
  go_wp2_with fail
  refine (eq_true A10 A2 n10 c10 n2 c2 X w10 HL10.out HL2.out hr10 k2.rd (by rw [HM.out]; omega)).mono ?_
  rintro e w11 ⟨rfl, hb11⟩
  have hB11 := bl_trans hB10 hb11
  go_wp2_with fail
  refine (eq_true A3 A n3 c3 m c l w11 HL3.out HL.out (k3.rd.below hb11) (hr.below hB11) (by rw [HM.out]; omega)).mono ?_
  rintro e w12 ⟨rfl, hb12⟩
  go_wp2_with fail
  refine (works_any w12).mono ?_
  rintro e w13 ⟨rfl, hb13⟩
  go_wp2
  go_ret
  exact ⟨rfl, bl_trans (bl_trans hB11 hb12) hb13⟩

set_option maxRecDepth 100000 in
theorem VarnumNum_holds : Rows.VarnumNumSaid :=
  OpenClaim.holds_of_wide 3 Try.f3 rfl rfl rfl rfl rfl rfl rfl ⟨rfl, rfl, rfl, rfl, rfl⟩ rfl rfl rfl rfl rfl (by kernel_rfl) Try.func3 (by kernel_rfl)
    (of_decide_eq_true (by kernel_rfl)) (by unfold Func.isWrapper; first | (rw [if_pos (by decide +kernel)]; kernel_rfl) | (rw [if_neg (by decide +kernel)]; exact ⟨rfl, rfl⟩))
    (fun os started H enc _ => law_lifted (s := Rows.varnumNumSpec) Try.func3 (by kernel_rfl) rfl
      (fun H ds h => by rw [Try.params3] at h; match ds, h with | [_, _], _ => rfl) (by kernel_rfl) (by kernel_rfl)
      os started H enc
      (ChangeSpec.witness6 (enc := enc) (C := Try.checked) false ⟨#[], #[.int .i64 0, .slice none 0 0], []⟩ 8 (by kernel_rfl) (by kernel_rfl) (by kernel_rfl) (by kernel_rfl))
      (fun W args ds p h => by
        obtain ⟨⟨base, hok⟩, hA, hl⟩ := h
        rw [Try.params3] at hok hA hl
        obtain ⟨v0, v1, d0, d1, p0, p1, rfl, rfl, rfl, g0, g1⟩ := trodAll_two hA
        obtain ⟨n0, rfl, a0, b0⟩ := open_i64 (hok 0 3 v0 rfl rfl) g0
        obtain ⟨A1, n1, c1, l1, rfl, e1, a1, b1, r1⟩ := open_bytes (hok 1 22 v1 rfl rfl) g1 (hl 1 22 d1 rfl rfl)
        exact num_walk n0 A1 n1 c1 l1 W a0 b0 e1 a1 b1 r1))

end Go.Proofs.Ythoocdgaiojkmaa
