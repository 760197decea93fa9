/- VarnumText: for all bytes and every int the law answers true: Text and TakeText answer as the chapter says; what is handed in stays, what is answered is memory of its own. No condition. -/
import Derived.Test.YthoocdgaiojkmaaWalkI
import Derived.Test.YthoocdgaiojkmaaRow
set_option linter.unusedVariables false
namespace Go.Proofs.Ythoocdgaiojkmaa
open Go.ChangeShapes Go.WideShapes Go.ChangeAt Go.RowKit

theorem apart_swap {v u : Value} (h : v.ownBlock = none ∨ v.ownBlock ≠ u.ownBlock) : u.ownBlock = none ∨ u.ownBlock ≠ v.ownBlock := by
  rcases hu : u.ownBlock with _ | k
  · exact .inl rfl
  · right
    rcases h with h | h
    · rw [h]; simp
    · intro e
      exact h (by rw [hu, e])

set_option maxHeartbeats 2000000 in
set_option maxRecDepth 20000 in
theorem text_walk (A : Option Addr) (m c : Nat) (l : List UInt8) (most : Int) (w : World) (hl : l.length = m) (hmc : m ≤ c) (hc : c ≤ 140737488351232) (hr : Rd w A l) (h1 : -9223372036854775808 ≤ most) (h2 : most ≤ 9223372036854775807) :
    Calls Try.prog 4 #[.slice A m c, .int .i64 most] w (Yes w) := by
  have HL := Lib.hid hl
  clear hl
  obtain ⟨q, hq⟩ : ∃ q, q = textE l most := ⟨_, rfl⟩
  have cx : ∀ (B : Option Addr) (d : Nat) (W : World), Rd W B l → Calls Try.prog 20 #[.slice B m d, .int .i64 most] W (GotBytesE W q.1 q.2) := fun B d W g => by
    rw [hq]
    exact text_any B m d most l W HL.out g (by omega) h1 h2
  have cy : ∀ (B : Option Addr) (d : Nat) (W : World), Rd W B l → Calls Try.prog 21 #[.slice B m d, .int .i64 most] W (GotBytesE W q.1 q.2) := fun B d W g => by
    rw [hq]
    exact reftext_any B m d most l W HL.out g (by omega) h1 h2
  obtain ⟨X, er⟩ := q
  have CX := Lib.hid cx
  have CY := Lib.hid cy
  clear cx cy hq
  dsimp only at CX CY
  obtain ⟨q, hq⟩ : ∃ q, q = takeT l most := ⟨_, rfl⟩
  have ct : ∀ (B : Option Addr) (d : Nat) (W : World), Rd W B l → m ≤ d → d ≤ maxLen → Calls Try.prog 22 #[.slice B m d, .int .i64 most] W (GotTextsE W q.1 q.2.1 q.2.2) := fun B d W g1 g2 g3 => by
    rw [hq]
    exact takeT_any B m d most l W HL.out g1 g2 g3 (by omega) h1 h2
  have cu : ∀ (B : Option Addr) (d : Nat) (W : World), Rd W B l → m ≤ d → d ≤ maxLen → Calls Try.prog 23 #[.slice B m d, .int .i64 most] W (GotTextsE W q.1 q.2.1 q.2.2) := fun B d W g1 g2 g3 => by
    rw [hq]
    exact reftakeT_any B m d most l W HL.out g1 g2 g3 (by omega) h1 h2
  obtain ⟨T, R, g⟩ := q
  have CT := Lib.hid ct
  have CU := Lib.hid cu
  clear ct cu hq
  dsimp only at CT CU
  have fe : ((er : Int) != (er : Int)) = false := by simp
  have fg : ((g : Int) != (g : Int)) = false := by simp
  have HM : Hid (maxLen = 9223372036854775807) := rfl
  obtain ⟨L, HLL⟩ : ∃ L, Hid (L = l ++ [7, 7]) := ⟨l ++ [7, 7], Lib.hid rfl⟩
  have HLT : Hid (L.take m = l) := Lib.hid (by rw [HLL.out, ← HL.out]; simp)
  have HLN : Hid (L.length = m + 2) := Lib.hid (by rw [HLL.out, List.length_append, HL.out]; rfl)
  go_enter Try.func4, Try.ntmps4
  go_wp2_with fail
  refine (copy_any A m c l w HL.out hr (by omega)).mono ?_
  rintro e w1 ⟨v1, rfl, ho1, hb1⟩
  have hsz1 := hb1.size
  go_wp2_with (at_builtin; refine wpList_append_bytes _ rfl _ _ rfl w.heap.size _ l rfl (ho1.alloc _) _ 2 2 [7, 7] rfl rfl (Rd.lit w1 [7, 7]) (by have := HL.out; simp; omega) (by simp; omega) ?_)
  intro v2 w2 ho2 hg2 _
  have hB2 : Below w.heap.size w w2 := bl_grown (bl_alloc hb1 _) hg2 (fun k hk => (ho1.lt k hk).1)
  rw [← HLL.out] at ho2
  obtain ⟨A2, n2, c2, rfl, HL2, hc2, hc2', hr2⟩ := ho2.form
  have hn2 : n2 = m + 2 := by have := HL2.out; have := HLN.out; omega
  subst hn2
  have hrl2 : Rd w2 A2 l := by
    have h := hr2.take m
    rw [HLT.out] at h
    exact h
  have hcm2 : c2 ≤ 9223372036854775807 := by have := HM.out; omega
  clear ho1 hb1 hg2 hsz1
  go_wp2_with fail
  refine (CX.out A2 c2 w2 hrl2).mono ?_
  rintro e w3 ⟨v3, rfl, ho3, hb3⟩
  obtain ⟨A3, n3, c3, rfl, HL3, hc3, hc3', hr3⟩ := ho3.form
  have hB3 := bl_trans hB2 hb3
  go_wp2_with fail
  refine (CY.out A c w3 (hr.below hB3)).mono ?_
  rintro e w4 ⟨v4, rfl, ho4, hb4⟩
  obtain ⟨A4, n4, c4, rfl, HL4, hc4, hc4', hr4⟩ := ho4.form
  have hB4 := bl_trans hB3 hb4
  go_wp2_with fail
  refine (CT.out A2 c2 w4 ((hrl2.below hb3).below hb4) (by omega) hc2').mono ?_
  rintro e w5 ⟨v5, u5, rfl, ho5, hp5, hap5, hb5⟩
  obtain ⟨A5, n5, c5, rfl, HL5, hc5, hc5', hr5⟩ := ho5.form
  obtain ⟨A6, n6, c6, rfl, HL6, hc6, hc6', hr6⟩ := hp5.form
  have hB5 := bl_trans hB4 hb5
  go_wp2_with fail
  refine (CU.out A c w5 (hr.below hB5) hmc (by have := HM.out; omega)).mono ?_
  rintro e w6 ⟨v7, u7, rfl, ho7, hp7, _, hb6⟩
  obtain ⟨A7, n7, c7, rfl, HL7, hc7, hc7', hr7⟩ := ho7.form
  obtain ⟨A8, n8, c8, rfl, HL8, hc8, hc8', hr8⟩ := hp7.form
  have hB6 := bl_trans hB5 hb6
  -- where each of them lies
  have k2 : Own w6 w.heap.size (.slice A2 (m + 2) c2) L := (((ho2.below hb3).below hb4).below hb5).below hb6
  have k3 : Own w6 w2.heap.size (.slice A3 n3 c3) X := ((ho3.below hb4).below hb5).below hb6
  have k5 : Own w6 w4.heap.size (.slice A5 n5 c5) T := ho5.below hb6
  have k6 : Own w6 w4.heap.size (.slice A6 n6 c6) R := hp5.below hb6
  have p23 := own_apart ho2 ho3
  have p25 := apart_swap (own_apart' ho2 ho5 (Nat.le_trans hb3.size hb4.size))
  have p26 := apart_swap (own_apart' ho2 hp5 (Nat.le_trans hb3.size hb4.size))
  have p53 := own_apart' ho3 ho5 hb4.size
  have p63 := own_apart' ho3 hp5 hb4.size
  have p65 := apart_swap hap5
  have hs24 := Nat.le_trans hB2.size (Nat.le_trans hb3.size hb4.size)
  clear ho2 ho3 ho4 ho5 hp5 ho7 hp7 hap5
  go_wp2_with fail
  refine (eq_true A3 A4 n3 c3 n4 c4 X w6 HL3.out HL4.out k3.rd ((hr4.below hb5).below hb6) (Nat.le_trans hc3 hc3')).mono ?_
  rintro e w7 ⟨rfl, hb7⟩
  go_wp2_with fail
  refine (eq_true A5 A7 n5 c5 n7 c7 T w7 HL5.out HL7.out (k5.rd.below hb7) (hr7.below hb7) (Nat.le_trans hc5 hc5')).mono ?_
  rintro e w8 ⟨rfl, hb8⟩
  have hb68 := bl_trans hb7 hb8
  go_wp2_with fail
  refine (eq_true A6 A8 n6 c6 n8 c8 R w8 HL6.out HL8.out (k6.rd.below hb68) (hr8.below hb68) (Nat.le_trans hc6 hc6')).mono ?_
  rintro e w9 ⟨rfl, hb9⟩
  have hb69 := bl_trans hb68 hb9
  have hB9 := bl_trans hB6 hb69
  replace k2 := k2.below hb69
  replace k3 := k3.below hb69
  replace k5 := k5.below hb69
  replace k6 := k6.below hb69
  clear hb7 hb8 hb9 hb68 hb69
  go_wp2_with fail
  refine (spoil_any A3 n3 c3 _ X w9 k3 (Nat.le_trans hc3 hc3')).mono ?_
  rintro e w10 ⟨rfl, hg10⟩
  replace k2 := k2.kept hg10 p23
  replace k5 := k5.kept hg10 p53
  replace k6 := k6.kept hg10 p63
  have hB10 := bl_grown hB9 hg10 (fun k hk => Nat.le_trans hB2.size (k3.lt k hk).1)
  clear k3 hg10
  go_wp2_with fail
  refine (spoil_any A5 n5 c5 _ T w10 k5 (Nat.le_trans hc5 hc5')).mono ?_
  rintro e w11 ⟨rfl, hg11⟩
  replace k2 := k2.kept hg11 p25
  replace k6 := k6.kept hg11 p65
  have hB11 := bl_grown hB10 hg11 (fun k hk => Nat.le_trans hs24 (k5.lt k hk).1)
  clear k5 hg11
  go_wp2_with fail
  refine (spoil_any A6 n6 c6 _ R w11 k6 (Nat.le_trans hc6 hc6')).mono ?_
  rintro e w12 ⟨rfl, hg12⟩
  replace k2 := k2.kept hg12 p26
  have hB12 := bl_grown hB11 hg12 (fun k hk => Nat.le_trans hs24 (k6.lt k hk).1)
  clear k6 hg12
  go_wp2_with fail
  refine (copy_any A m c l w12 HL.out (hr.below hB12) (by omega)).mono ?_
  rintro e w13 ⟨v13, rfl, ho13, hb13⟩
  have hsz13 := hb13.size
  go_wp2_with (at_builtin; refine wpList_append_bytes _ rfl _ _ rfl w12.heap.size _ l rfl (ho13.alloc _) _ 2 2 [7, 7] rfl rfl (Rd.lit w13 [7, 7]) (by have := HL.out; simp; omega) (by simp; omega) ?_)
  intro v14 w14 ho14 hg14 _
  have hb14 : Below w12.heap.size w12 w14 := bl_grown (bl_alloc hb13 _) hg14 (fun k hk => (ho13.lt k hk).1)
  rw [← HLL.out] at ho14
  obtain ⟨A14, n14, c14, rfl, HL14, hc14, hc14', hr14⟩ := ho14.form
  have hB14 := bl_trans hB12 hb14
  clear ho13 ho14 hg14
  go_wp2_with fail
  refine (eq_true A2 A14 (m + 2) c2 n14 c14 L w14 HL2.out HL14.out (k2.rd.below hb14) hr14 (Nat.le_trans hc2 hc2')).mono ?_
  rintro e w15 ⟨rfl, hb15⟩
  go_wp2_with fail
  refine (works_any w15).mono ?_
  rintro e w16 ⟨rfl, hb16⟩
  go_wp2
  go_ret
  exact ⟨rfl, bl_trans (bl_trans hB14 hb15) hb16⟩

set_option maxRecDepth 100000 in
theorem VarnumText_holds : Rows.VarnumTextSaid :=
  OpenClaim.holds_of_wide 4 Try.f4 rfl rfl rfl rfl rfl rfl rfl ⟨rfl, rfl, rfl, rfl, rfl⟩ rfl rfl rfl rfl rfl (by kernel_rfl) Try.func4 (by kernel_rfl)
    (of_decide_eq_true (by kernel_rfl)) (by unfold Func.isWrapper; first | (rw [if_pos (by decide +kernel)]; kernel_rfl) | (rw [if_neg (by decide +kernel)]; exact ⟨rfl, rfl⟩))
    (fun os started H enc _ => law_lifted (s := Rows.varnumTextSpec) Try.func4 (by kernel_rfl) rfl
      (fun H ds h => by rw [Try.params4] at h; match ds, h with | [_, _], _ => rfl) (by kernel_rfl) (by kernel_rfl)
      os started H enc
      (ChangeSpec.witness6 (enc := enc) (C := Try.checked) false ⟨#[], #[.slice none 0 0, .int .i64 0], []⟩ 8 (by kernel_rfl) (by kernel_rfl) (by kernel_rfl) (by kernel_rfl))
      (fun W args ds p h => by
        obtain ⟨⟨base, hok⟩, hA, hl⟩ := h
        rw [Try.params4] at hok hA hl
        obtain ⟨v0, v1, d0, d1, p0, p1, rfl, rfl, rfl, g0, g1⟩ := trodAll_two hA
        obtain ⟨A0, n0, c0, l0, rfl, e0, a0, b0, r0⟩ := open_bytes (hok 0 22 v0 rfl rfl) g0 (hl 0 22 d0 rfl rfl)
        obtain ⟨n1, rfl, a1, b1⟩ := open_i64 (hok 1 3 v1 rfl rfl) g1
        exact text_walk A0 n0 c0 l0 n1 W e0 a0 b0 r0 a1 b1))

end Go.Proofs.Ythoocdgaiojkmaa
