/- VarnumAgain: for all bytes the law answers true: what can be read, as a number and as a text, is written so; else the errors are as the chapter says. No condition. -/
import Derived.Test.YthoocdgaiojkmaaWalkE
import Derived.Test.YthoocdgaiojkmaaRow
set_option linter.unusedVariables false
namespace Go.Proofs.Ythoocdgaiojkmaa
open Go.ChangeShapes Go.WideShapes Go.ChangeAt Go.RowKit

/-- The bytes of what was read, and what stands behind. -/
theorem again_num {l : List UInt8} {N s : Nat} (h : headE l = (N, s, 0)) : digs N ++ l.drop s = l := by
  have h1 := digs_of_head (l := l) (by rw [h])
  rw [h] at h1
  dsimp only at h1
  rw [h1, List.take_append_drop]

set_option maxHeartbeats 1000000 in
set_option maxRecDepth 20000 in
theorem again_walk (A : Option Addr) (m c : Nat) (l : List UInt8) (w : World) (hl : l.length = m) (hmc : m ≤ c) (hc : c ≤ 140737488351232) (hr : Rd w A l) :
    Calls Try.prog 7 #[.slice A m c] w (Yes w) := by
  have HL := Lib.hid hl
  clear hl
  have hf := head_facts l
  have HA : ∀ N s : Nat, Hid (headE l = (N, s, 0) → digs N ++ l.drop s = l) := fun N s => Lib.hid again_num
  have hct : ∀ W : World, Below w.heap.size w W → Calls Try.prog 15 #[.slice A m c] W (GotNumE W (takeN l).1 (takeN l).2.1 (takeN l).2.2) := fun W hb => take_any A m c l W HL.out (hr.below hb) hmc (by simp only [maxLen]; omega) (by omega)
  have hcu : ∀ W : World, Below w.heap.size w W → Calls Try.prog 22 #[.slice A m c, .int .i64 1073741824] W (GotTextsE W (takeT l 1073741824).1 (takeT l 1073741824).2.1 (takeT l 1073741824).2.2) := fun W hb => takeT_any A m c 1073741824 l W HL.out (hr.below hb) hmc (by simp only [maxLen]; omega) (by omega) (by omega) (by omega)
  unfold takeN at hct
  unfold takeT at hcu
  rw [if_neg (by omega)] at hcu
  generalize hh : headE l = q at *
  obtain ⟨N, s, er⟩ := q
  have HH := Lib.hid hh
  clear hh
  dsimp only at hf hct hcu
  rcases hf with ⟨rfl, g1, g2, g3, g4⟩ | ⟨rfl, rfl, g4⟩
  · rw [if_neg (by simp)] at hcu
    have HCT := Lib.hid hct
    have HCU := Lib.hid hcu
    clear hct hcu
    have hld : (l.drop s).length = m - s := by rw [List.length_drop, HL.out]
    have HLD := Lib.hid hld
    have hagain : digs N ++ l.drop s = l := (HA N s).out rfl
    have HAG := Lib.hid hagain
    clear hld hagain HA
    have hsm : s ≤ m := by have := HL.out; omega
    go_enter Try.func7, Try.ntmps7
    go_wp2_with (go_at_call 19; refine (works_any _).mono ?_; rintro e w1 ⟨rfl, hb1⟩)
    have c1 := HCT.out w1 hb1
    rw [if_neg (by simp)] at c1
    have C1 := Lib.hid c1
    clear c1
    refine (C1.out).mono ?_
    rintro e w2 ⟨v2, rfl, ho2, hb2⟩
    obtain ⟨A2, n2, c2, rfl, HL2, hc2, hc2', hr2⟩ := ho2.form
    have hB2 := bl_trans hb1 hb2
    clear ho2
    have hn2 : n2 ≤ m - s ∧ m - s ≤ n2 := by
      have := HL2.out
      have := HLD.out
      dsimp only at *
      omega
    go_wp2_with fail
    refine (num_ok N w2 g1).mono ?_
    rintro e w3 ⟨v3, rfl, ho3, hb3⟩
    have hB3 := bl_trans hB2 hb3
    have hsz3 := hb3.size
    have hlen3 : (digs N).length + (l.drop s).length ≤ 200000000000000 := by
      rw [← List.length_append, HAG.out, HL.out]
      omega
    go_wp2_with (at_builtin; refine wpList_append_bytes _ rfl _ _ rfl w2.heap.size _ (digs N) rfl ho3 A2 n2 c2 (l.drop s) rfl HL2.out (hr2.below hb3) hlen3 hsz3 ?_)
    intro v4 w4 ho4 hg4 _
    rw [HAG.out] at ho4
    obtain ⟨A4, n4, c4, rfl, HL4, hc4, hc4', hr4⟩ := ho4.form
    have hb4 : Below w2.heap.size w2 w4 := bl_grown hb3 hg4 (fun k hk => (ho3.lt k hk).1)
    have hB4 := bl_trans hB2 hb4
    clear ho3 ho4 hg4
    go_wp2_with fail
    refine (eq_true A4 A n4 c4 m c l w4 HL4.out HL.out hr4 (hr.below hB4) (by omega)).mono ?_
    rintro e w5 ⟨rfl, hb5⟩
    have hB5 := bl_trans hB4 hb5
    go_wp2_with fail
    have c5 := HCU.out w5 hB5
    by_cases hbig : (1073741824 : Int) < N
    · rw [if_pos hbig] at c5
      have C5 := Lib.hid c5
      clear c5
      refine (C5.out).mono ?_
      rintro e w6 ⟨v6, u6, rfl, _, _, _, hb6⟩
      have b1 : decide ((1073741824 : Int) < N) = true := by simp; omega
      go_wp2_with fail
      go_ret
      exact ⟨rfl, bl_trans hB5 hb6⟩
    · rw [if_neg hbig, HLD.out] at c5
      by_cases hsh : m - s < N
      · rw [if_pos hsh] at c5
        have C5 := Lib.hid c5
        clear c5
        refine (C5.out).mono ?_
        rintro e w6 ⟨v6, u6, rfl, _, _, _, hb6⟩
        have b1 : decide ((n2 : Int) < N) = true := by simp; omega
        have b2 : decide (n2 < N) = true := by simp; omega
        go_wp2_with fail
        go_ret
        exact ⟨rfl, bl_trans hB5 hb6⟩
      · rw [if_neg hsh] at c5
        have htl : ((l.drop s).take N).length = N := by rw [List.length_take, HLD.out]; omega
        have HTL := Lib.hid htl
        have htd : (l.drop s).take N ++ (l.drop s).drop N = l.drop s := List.take_append_drop _ _
        generalize ht : (l.drop s).take N = t at *
        generalize hd : (l.drop s).drop N = d at *
        have HTD := Lib.hid htd
        have C5 := Lib.hid c5
        clear c5 htl htd ht hd
        refine (C5.out).mono ?_
        rintro e w6 ⟨v6, u6, rfl, ho6, hp6, _, hb6⟩
        obtain ⟨A6, n6, c6, rfl, HL6, hc6, hc6', hr6⟩ := ho6.form
        obtain ⟨A7, n7, c7, rfl, HL7, hc7, hc7', hr7⟩ := hp6.form
        have hB6 := bl_trans hB5 hb6
        clear ho6 hp6
        obtain rfl : n6 = N := by have h6 := HL6.out; have := HTL.out; dsimp only at h6; omega
        have ctx := text_any A6 n6 c6 n6 t w6 HL6.out hr6 (by omega) (by omega) (by omega)
        have etx : textE t n6 = (digs n6 ++ t, 0) := by
          unfold textE
          rw [HL6.out, if_neg (by omega), if_neg (by omega)]
        rw [etx] at ctx
        have CTX := Lib.hid ctx
        clear ctx etx
        go_wp2_with fail
        refine (CTX.out).mono ?_
        rintro e w7 ⟨v8, rfl, ho8, hb7⟩
        have hB7 := bl_trans hB6 hb7
        have hsz7 := hb7.size
        have hlen8 : (digs n6 ++ t).length + d.length ≤ 200000000000000 := by
          rw [← List.length_append, List.append_assoc, HTD.out, HAG.out, HL.out]
          omega
        go_wp2_with (at_builtin; refine wpList_append_bytes _ rfl _ _ rfl w6.heap.size _ (digs n6 ++ t) rfl ho8 A7 n7 c7 d rfl HL7.out (hr7.below hb7) hlen8 hsz7 ?_)
        intro v9 w8 ho9 hg9 _
        have hb8 : Below w6.heap.size w6 w8 := bl_grown hb7 hg9 (fun k hk => (ho8.lt k hk).1)
        have hB8 := bl_trans hB6 hb8
        rw [HTD.out, HAG.out] at ho9
        obtain ⟨A9, n9, c9, rfl, HL9, hc9, hc9', hr9⟩ := ho9.form
        clear ho8 ho9 hg9
        go_wp2_with fail
        refine (eq_true A9 A n9 c9 m c l w8 HL9.out HL.out hr9 (hr.below hB8) (by omega)).mono ?_
        rintro e w10 ⟨rfl, hb10⟩
        go_wp2
        go_ret
        exact ⟨rfl, bl_trans hB8 hb10⟩
  · have HCT := Lib.hid hct
    clear hct hcu hr
    rcases g4 with rfl | rfl
    all_goals
      go_enter Try.func7, Try.ntmps7
      go_wp2_with (go_at_call 19; refine (works_any _).mono ?_; rintro e w1 ⟨rfl, hb1⟩)
      have c1 := HCT.out w1 hb1
      rw [if_pos (by simp)] at c1
      have C1 := Lib.hid c1
      clear c1
      refine (C1.out).mono ?_
      rintro e w2 ⟨v2, rfl, ho2, hb2⟩
      obtain ⟨A2, n2, c2, rfl, HL2, hc2, hc2', hr2⟩ := ho2.form
      obtain rfl : n2 = 0 := HL2.out.symm
      go_wp2_with fail
      go_ret
      exact ⟨rfl, bl_trans hb1 hb2⟩

set_option maxRecDepth 100000 in
theorem VarnumAgain_holds : Rows.VarnumAgainSaid :=
  OpenClaim.holds_of_wide 7 Try.f7 rfl rfl rfl rfl rfl rfl rfl ⟨rfl, rfl, rfl, rfl, rfl⟩ rfl rfl rfl rfl rfl (by kernel_rfl) Try.func7 (by kernel_rfl)
    (of_decide_eq_true (by kernel_rfl)) (by unfold Func.isWrapper; first | (rw [if_pos (by decide +kernel)]; kernel_rfl) | (rw [if_neg (by decide +kernel)]; exact ⟨rfl, rfl⟩))
    (fun os started H enc _ => law_lifted (s := Rows.varnumAgainSpec) Try.func7 (by kernel_rfl) rfl
      (fun H ds h => by rw [Try.params7] at h; match ds, h with | [_], _ => rfl) (by kernel_rfl) (by kernel_rfl)
      os started H enc
      (ChangeSpec.witness6 (enc := enc) (C := Try.checked) false ⟨#[], #[.slice none 0 0], []⟩ 8 (by kernel_rfl) (by kernel_rfl) (by kernel_rfl) (by kernel_rfl))
      (fun W args ds p h => by
        obtain ⟨⟨base, hok⟩, hA, hl⟩ := h
        rw [Try.params7] at hok hA hl
        obtain ⟨v0, d0, rfl, rfl, g0⟩ := trodAll_one hA
        obtain ⟨A0, n0, c0, l0, rfl, e0, a0, b0, r0⟩ := open_bytes (hok 0 22 v0 rfl rfl) g0 (hl 0 22 d0 rfl rfl)
        exact again_walk A0 n0 c0 l0 W e0 a0 b0 r0))

end Go.Proofs.Ythoocdgaiojkmaa
