/- VarnumKnown: the closed law answers true: the chapter's examples, both ends. No condition. -/
import Derived.Test.YthoocdgaiojkmaaWalkE
import Derived.Test.YthoocdgaiojkmaaRow
set_option linter.unusedVariables false
namespace Go.Proofs.Ythoocdgaiojkmaa
open Go.ChangeShapes Go.WideShapes Go.ChangeAt Go.RowKit

theorem digs_lit {l : List UInt8} {n : Nat} (h : headE l = (n, l.length, 0)) : digs n = l := by
  have h1 := digs_of_head (l := l) (by rw [h])
  rw [h] at h1
  dsimp only at h1
  rw [h1, List.take_length]

theorem num_is (z : Int) (l : List UInt8) (er : Nat) (w : World) (h1 : -9223372036854775808 ≤ z) (h2 : z ≤ 9223372036854775807) (he : numE z = (l, er)) : Calls Try.prog 12 #[.int .i64 z] w (GotBytesE w l er) := by
  have h := num_any z w h1 h2
  rw [he] at h
  exact h
theorem text_is (A : Option Addr) (n c : Nat) (most : Int) (l r : List UInt8) (er : Nat) (w : World) (hl : l.length = n) (hr : Rd w A l) (hn : n + 8 ≤ 200000000000000) (h1 : -9223372036854775808 ≤ most) (h2 : most ≤ 9223372036854775807) (he : textE l most = (r, er)) :
    Calls Try.prog 20 #[.slice A n c, .int .i64 most] w (GotBytesE w r er) := by
  have h := text_any A n c most l w hl hr hn h1 h2
  rw [he] at h
  exact h
theorem takeT_is (A : Option Addr) (n c : Nat) (most : Int) (l t r : List UInt8) (er : Nat) (w : World) (hl : l.length = n) (hr : Rd w A l) (hnc : n ≤ c) (hc : c ≤ maxLen) (hn : n ≤ 200000000000000) (h1 : -9223372036854775808 ≤ most) (h2 : most ≤ 9223372036854775807)
    (he : takeT l most = (t, r, er)) : Calls Try.prog 22 #[.slice A n c, .int .i64 most] w (GotTextsE w t r er) := by
  have h := takeT_any A n c most l w hl hr hnc hc hn h1 h2
  rw [he] at h
  exact h

theorem RdL.three {w : World} {A B C : Option Addr} {c d e : Nat} {x y z : List UInt8} (h1 : Rd w A x) (h2 : Rd w B y) (h3 : Rd w C z) (t : TypeId) :
    RdL (w.alloc (.cells #[.slice A x.length c, .slice B y.length d, .slice C z.length e] t)) (some ⟨w.heap.size, 0, none⟩) [x, y, z] := fun _ => by
  refine ⟨_, rfl, fun j hj => ?_⟩
  have hj2 : j = 0 ∨ j = 1 ∨ j = 2 := by simp at hj; omega
  rcases hj2 with rfl | rfl | rfl
  · exact ⟨A, c, by simp [Addr.add], h1.alloc _⟩
  · exact ⟨B, d, by simp [Addr.add], h2.alloc _⟩
  · exact ⟨C, e, by simp [Addr.add], h3.alloc _⟩

set_option maxHeartbeats 4000000 in
set_option maxRecDepth 100000 in
theorem known_walk (w0 : World) : Calls Try.prog 11 #[] w0 (Yes w0) := by
  go_enter Try.func11, Try.ntmps11
  have hB0 : Below w0.heap.size w0 w0 := Below.refl _ _
  go_wp2_with fail
  refine (is_lit _ 9007199254740991 [255, 255, 255, 255, 255, 255, 255, 15] _ 8 8 _ rfl (by omega) (digs_lit (by rfl)) rfl (Rd.lit w0 [255, 255, 255, 255, 255, 255, 255, 15])).mono ?_
  rintro e w1 ⟨rfl, hb1⟩
  have hB1 := bl_trans hB0 (bl_of_alloc hb1)
  clear hb1 hB0
  go_wp2_with fail
  refine (is_lit _ 562949953421312 [128, 128, 128, 128, 128, 128, 128, 1] _ 8 8 _ rfl (by omega) (digs_lit (by rfl)) rfl (Rd.lit w1 [128, 128, 128, 128, 128, 128, 128, 1])).mono ?_
  rintro e w2 ⟨rfl, hb2⟩
  have hB2 := bl_trans hB1 (bl_of_alloc hb2)
  clear hb2 hB1
  go_wp2_with fail
  refine (is_lit _ 562949953421311 [255, 255, 255, 255, 255, 255, 127] _ 7 7 _ rfl (by omega) (digs_lit (by rfl)) rfl (Rd.lit w2 [255, 255, 255, 255, 255, 255, 127])).mono ?_
  rintro e w3 ⟨rfl, hb3⟩
  have hB3 := bl_trans hB2 (bl_of_alloc hb3)
  clear hb3 hB2
  go_wp2_with fail
  refine (is_lit _ 16383 [255, 127] _ 2 2 _ rfl (by omega) (digs_lit (by rfl)) rfl (Rd.lit w3 [255, 127])).mono ?_
  rintro e w4 ⟨rfl, hb4⟩
  have hB4 := bl_trans hB3 (bl_of_alloc hb4)
  clear hb4 hB3
  go_wp2_with fail
  refine (is_lit _ 16384 [128, 128, 1] _ 3 3 _ rfl (by omega) (digs_lit (by rfl)) rfl (Rd.lit w4 [128, 128, 1])).mono ?_
  rintro e w5 ⟨rfl, hb5⟩
  have hB5 := bl_trans hB4 (bl_of_alloc hb5)
  clear hb5 hB4
  go_wp2_with fail
  refine (num_is (-1) [] 2 _ (by omega) (by omega) (by rfl)).mono ?_
  rintro e w6 ⟨v6, rfl, _, hb6⟩
  have hB6 := bl_trans hB5 ( hb6)
  clear hb6 hB5
  go_wp2_with fail
  refine (num_is 9007199254740992 [] 2 _ (by omega) (by omega) (by rfl)).mono ?_
  rintro e w7 ⟨v7, rfl, _, hb7⟩
  have hB7 := bl_trans hB6 ( hb7)
  clear hb7 hB6
  go_wp2_with fail
  refine (fails_lit _ 3 _ 0 0 [] _ rfl (.inl rfl) (by omega) rfl (Rd.nil _ _) (by omega) (by simp [maxLen]) (by rfl)).mono ?_
  rintro e w8 ⟨rfl, hb8⟩
  have hB8 := bl_trans hB7 ( hb8)
  clear hb8 hB7
  go_wp2_with fail
  refine (fails_lit _ 4 _ 8 8 [255, 255, 255, 255, 255, 255, 255, 16] _ rfl (.inr rfl) (by omega) rfl (Rd.lit w8 [255, 255, 255, 255, 255, 255, 255, 16]) (by omega) (by simp [maxLen]) (by rfl)).mono ?_
  rintro e w9 ⟨rfl, hb9⟩
  have hB9 := bl_trans hB8 (bl_of_alloc hb9)
  clear hb9 hB8
  go_wp2_with fail
  refine (fails_lit _ 4 _ 8 8 [255, 255, 255, 255, 255, 255, 255, 255] _ rfl (.inr rfl) (by omega) rfl (Rd.lit w9 [255, 255, 255, 255, 255, 255, 255, 255]) (by omega) (by simp [maxLen]) (by rfl)).mono ?_
  rintro e w10 ⟨rfl, hb10⟩
  have hB10 := bl_trans hB9 (bl_of_alloc hb10)
  clear hb10 hB9
  go_wp2_with fail
  refine (fails_lit _ 4 _ 9 9 [128, 128, 128, 128, 128, 128, 128, 128, 1] _ rfl (.inr rfl) (by omega) rfl (Rd.lit w10 [128, 128, 128, 128, 128, 128, 128, 128, 1]) (by omega) (by simp [maxLen]) (by rfl)).mono ?_
  rintro e w11 ⟨rfl, hb11⟩
  have hB11 := bl_trans hB10 (bl_of_alloc hb11)
  clear hb11 hB10
  go_wp2_with fail
  refine (fails_lit _ 3 _ 7 7 [255, 255, 255, 255, 255, 255, 255] _ rfl (.inl rfl) (by omega) rfl (Rd.lit w11 [255, 255, 255, 255, 255, 255, 255]) (by omega) (by simp [maxLen]) (by rfl)).mono ?_
  rintro e w12 ⟨rfl, hb12⟩
  have hB12 := bl_trans hB11 (bl_of_alloc hb12)
  clear hb12 hB11
  go_wp2_with fail
  refine (fails_lit _ 4 _ 2 2 [129, 0] _ rfl (.inr rfl) (by omega) rfl (Rd.lit w12 [129, 0]) (by omega) (by simp [maxLen]) (by rfl)).mono ?_
  rintro e w13 ⟨rfl, hb13⟩
  have hB13 := bl_trans hB12 (bl_of_alloc hb13)
  clear hb13 hB12
  go_wp2_with fail
  refine (fails_lit _ 4 _ 3 3 [128, 128, 0] _ rfl (.inr rfl) (by omega) rfl (Rd.lit w13 [128, 128, 0]) (by omega) (by simp [maxLen]) (by rfl)).mono ?_
  rintro e w14 ⟨rfl, hb14⟩
  have hB14 := bl_trans hB13 (bl_of_alloc hb14)
  clear hb14 hB13
  go_wp2_with fail
  refine (text_is none 0 0 (-1) [] [] 2 _ rfl (Rd.nil _ _) (by omega) (by omega) (by omega) (by rfl)).mono ?_
  rintro e w15 ⟨v15, rfl, _, hb15⟩
  have hB15 := bl_trans hB14 ( hb15)
  clear hb15 hB14
  go_wp2_with fail
  refine (text_is _ 1 1 0 [1] [] 5 _ rfl (Rd.lit w15 [1]) (by omega) (by omega) (by omega) (by rfl)).mono ?_
  rintro e w16 ⟨v16, rfl, _, hb16⟩
  have hB16 := bl_trans hB15 (bl_of_alloc hb16)
  clear hb16 hB15
  go_wp2_with fail
  refine (text_is none 0 0 0 [] [0] 0 _ rfl (Rd.nil _ _) (by omega) (by omega) (by omega) (by unfold textE; rw [if_neg (by omega), if_neg (by simp)]; show (digs 0 ++ [], 0) = _; rw [dg0]; rfl)).mono ?_
  rintro e w17 ⟨v17, rfl, ho, hb17⟩
  obtain ⟨A1, n1, c1, rfl, HL1, hc1, hc1', hr1⟩ := ho.form
  have hB17 := bl_trans hB16 hb17
  clear hb17 ho hB16
  have hP17 : Below w17.heap.size w17 w17 := Below.refl _ _
  go_wp2_with fail
  refine (takeT_is _ 1 1 (-1) [9] [] [] 2 _ rfl (Rd.lit w17 [9]) (by omega) (by simp [maxLen]) (by omega) (by omega) (by omega) (by rfl)).mono ?_
  rintro e w18 ⟨v18, u18, rfl, _, _, _, hb18⟩
  have hq18 := bl_of_alloc hb18
  have hB18 := bl_trans hB17 hq18
  have hP18 := bl_trans hP17 hq18
  clear hb18 hB17 hP17 hq18
  go_wp2_with fail
  refine (takeT_is _ 2 2 (1) [2, 1] [] [] 5 _ rfl (Rd.lit w18 [2, 1]) (by omega) (by simp [maxLen]) (by omega) (by omega) (by omega) (by rfl)).mono ?_
  rintro e w19 ⟨v19, u19, rfl, _, _, _, hb19⟩
  have hq19 := bl_of_alloc hb19
  have hB19 := bl_trans hB18 hq19
  have hP19 := bl_trans hP18 hq19
  clear hb19 hB18 hP18 hq19
  go_wp2_with fail
  refine (takeT_is _ 2 2 (2) [2, 1] [] [] 3 _ rfl (Rd.lit w19 [2, 1]) (by omega) (by simp [maxLen]) (by omega) (by omega) (by omega) (by rfl)).mono ?_
  rintro e w20 ⟨v20, u20, rfl, _, _, _, hb20⟩
  have hq20 := bl_of_alloc hb20
  have hB20 := bl_trans hB19 hq20
  have hP20 := bl_trans hP19 hq20
  clear hb20 hB19 hP19 hq20
  go_wp2_with fail
  refine (takeT_is _ 2 2 (2) [128, 0] [] [] 4 _ rfl (Rd.lit w20 [128, 0]) (by omega) (by simp [maxLen]) (by omega) (by omega) (by omega) (by rfl)).mono ?_
  rintro e w21 ⟨v21, u21, rfl, _, _, _, hb21⟩
  have hq21 := bl_of_alloc hb21
  have hB21 := bl_trans hB20 hq21
  have hP21 := bl_trans hP20 hq21
  clear hb21 hB20 hP20 hq21
  go_wp2_with fail
  refine (takeT_is _ 2 2 0 [0, 5] [] [5] 0 _ rfl (Rd.lit w21 [0, 5]) (by omega) (by simp [maxLen]) (by omega) (by omega) (by omega) (by rfl)).mono ?_
  rintro e w22 ⟨v22, u22, rfl, ho, hp, _, hb22⟩
  obtain ⟨A2, n2, c2, rfl, HL2, hc2, hc2', hr2⟩ := ho.form
  obtain ⟨A3, n3, c3, rfl, HL3, hc3, hc3', hr3⟩ := hp.form
  obtain rfl : n2 = 0 := HL2.out.symm
  have hq := bl_of_alloc hb22
  have hB22 := bl_trans hB21 hq
  have hP22 := bl_trans hP21 hq
  clear hb22 hB21 hP21 hq ho hp
  go_wp2_with fail
  refine (eq_true A1 _ n1 c1 1 1 [0] _ HL1.out rfl ((hr1.below hP22).alloc _) (Rd.lit w22 [0]) (by omega)).mono ?_
  rintro e w23 ⟨rfl, hb23⟩
  have hB23 := bl_trans hB22 (bl_of_alloc hb23)
  have hr3' := hr3.below (bl_of_alloc hb23)
  clear hb23 hB22 hP22 hr3
  go_wp2_with fail
  refine (eq_true A3 _ n3 c3 1 1 [5] _ HL3.out rfl (hr3'.alloc _) (Rd.lit w23 [5]) (by omega)).mono ?_
  rintro e w24 ⟨rfl, hb24⟩
  have hB24 := bl_trans hB23 (bl_of_alloc hb24)
  clear hb24 hB23
  go_wp2_with fail
  refine (works_any _).mono ?_
  rintro e w25 ⟨rfl, hb25⟩
  have hB25 := bl_trans hB24 ( hb25)
  clear hb25 hB24
  go_wp2_with fail
  refine (join_any none 0 0 [] _ rfl (fun h => absurd h (by simp)) (by simp [maxLen]) (by simp)).mono ?_
  rintro e w26 ⟨v26, rfl, ho, hb26⟩
  obtain ⟨A4, n4, c4, rfl, HL4, hc4, hc4', hr4⟩ := ho.form
  obtain rfl : n4 = 0 := HL4.out.symm
  have hB26 := bl_trans hB25 hb26
  clear hb26 hB25 ho
  go_wp2_with fail
  have hx1 : Rd ((w26.alloc (.cells #[.int .u8 1] 5)).alloc (.cells #[.int .u8 2, .int .u8 3] 5)) (some ⟨w26.heap.size, 0, none⟩) [1] := (Rd.lit w26 [1]).alloc _
  have hx3 : Rd ((w26.alloc (.cells #[.int .u8 1] 5)).alloc (.cells #[.int .u8 2, .int .u8 3] 5)) (some ⟨w26.heap.size + 1, 0, none⟩) [2, 3] := by
    have h := Rd.lit (w26.alloc (.cells #[.int .u8 1] 5)) [2, 3]
    have e : (w26.alloc (.cells #[.int .u8 1] 5)).heap.size = w26.heap.size + 1 := by simp
    rw [e] at h
    exact h
  have hj := RdL.three (c := 1) (d := 0) (e := 2) hx1 (Rd.nil _ none) hx3 22
  have e2 : ((w26.alloc (.cells #[.int .u8 1] 5)).alloc (.cells #[.int .u8 2, .int .u8 3] 5)).heap.size = w26.heap.size + 1 + 1 := by simp
  rw [e2] at hj
  refine (join_any _ 3 3 [[1], [], [2, 3]] _ rfl hj (by simp [maxLen]) (by simp)).mono ?_
  rintro e w27 ⟨v, rfl, ho, hb27⟩
  obtain ⟨A5, n5, c5, rfl, HL5, hc5, hc5', hr5⟩ := ho.form
  have hB27 := bl_trans hB26 (bl_of_alloc (bl_of_alloc (bl_of_alloc hb27)))
  clear hb27 ho
  go_wp2_with fail
  refine (eq_true A5 _ n5 c5 3 3 [1, 2, 3] _ HL5.out rfl (hr5.alloc _) (Rd.lit w27 [1, 2, 3]) (by omega)).mono ?_
  rintro e w28 ⟨rfl, hb28⟩
  go_wp2
  go_ret
  exact ⟨rfl, bl_trans hB27 (bl_of_alloc hb28)⟩

set_option maxRecDepth 100000 in
theorem VarnumKnown_holds : Rows.VarnumKnownSaid :=
  OpenClaim.holds_of_wide 11 Try.f11 rfl rfl rfl rfl rfl rfl rfl ⟨rfl, rfl, rfl, rfl, rfl⟩ rfl rfl rfl rfl rfl (by kernel_rfl) Try.func11 (by kernel_rfl)
    (of_decide_eq_true (by kernel_rfl)) (by unfold Func.isWrapper; first | (rw [if_pos (by decide +kernel)]; kernel_rfl) | (rw [if_neg (by decide +kernel)]; exact ⟨rfl, rfl⟩))
    (fun os started H enc _ => law_lifted (s := Rows.varnumKnownSpec) Try.func11 (by kernel_rfl) rfl
      (fun H ds h => by rw [Try.params11] at h; match ds, h with | [], _ => rfl) (by kernel_rfl) (by kernel_rfl)
      os started H enc
      (ChangeSpec.witness6 (enc := enc) (C := Try.checked) false ⟨#[], #[], []⟩ 8 (by kernel_rfl) (by kernel_rfl) (by kernel_rfl) (by kernel_rfl))
      (fun W args ds p h => by
        obtain ⟨⟨base, hok⟩, hA, hl⟩ := h
        rw [Try.params11] at hok hA hl
        obtain ⟨hargs, rfl, rfl⟩ := trodAll_nil hA
        obtain rfl : args = #[] := by cases args; simp_all
        exact known_walk W))

end Go.Proofs.Ythoocdgaiojkmaa
