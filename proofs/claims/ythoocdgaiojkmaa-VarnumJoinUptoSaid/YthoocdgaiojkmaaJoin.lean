/- VarnumJoin, the second form: for all lists of bytes that hold together at most 1048576 values the law answers true: Join answers as the chapter says; what is handed in stays, what is answered is memory of its own. The condition: that size. -/
import Derived.Test.YthoocdgaiojkmaaWalkJ
import Derived.Test.YthoocdgaiojkmaaWalkE
set_option linter.unusedVariables false
namespace Go.Proofs.Ythoocdgaiojkmaa
open Go.ChangeShapes Go.WideShapes Go.ChangeAt Go.RowKit

set_option maxHeartbeats 2000000 in
set_option maxRecDepth 20000 in
theorem join_walk (A : Option Addr) (n c : Nat) (ll : List (List UInt8)) (w : World) (hl : ll.length = n) (hn : n ≤ 1048576) (hs : ll.flatten.length ≤ 1048576) (hr : RdL w A ll) :
    Calls Try.prog 5 #[.slice A n c] w (Yes w) := by
  have HL := Lib.hid hl
  have hcl : ∀ k, (h : k < ll.length) → ll[k].length ≤ 1048576 := fun k h => by
    have h1 := catLen_le ll (k + 1)
    rw [catLen_more h] at h1
    omega
  have HC := Lib.hid hcl
  have HS := Lib.hid hs
  clear hl hcl hs
  obtain ⟨i0, hi, hz0, hz1, hz2⟩ := info_parts info_bs
  go_enter Try.func5, Try.ntmps5
  go_wp2_with fail
  go_loopw [3, 4] (fun v i wr => ∃ k : Nat, k ≤ n ∧ i = .int .i64 k ∧ OwnL wr w.heap.size v (ll.take k) ∧ Below w.heap.size w wr) (fun _ i _ => n - (intOf i).toNat)
  case atStart => exact ⟨0, Nat.zero_le _, rfl, OwnL.nil _ _, Below.refl _ _⟩
  case round =>
    obtain ⟨k, hk, rfl, hown, hbl⟩ := hrel
    have hsz := hbl.size
    by_cases hlt : k < n
    · have hk' : k < ll.length := by have := HL.out; omega
      obtain ⟨ad, Ak, ck, rfl, hcell, hrk⟩ := (hr.below hbl).at hk'
      have hck := HC.out k hk'
      have htl : (ll.take k).length = k := by rw [List.length_take]; omega
      obtain ⟨x, hx⟩ : ∃ x, x = ll[k] := ⟨_, rfl⟩
      obtain ⟨nx, hnx⟩ : ∃ nx, x.length = nx := ⟨_, rfl⟩
      rw [← hx] at hcell hrk hck
      rw [hnx] at hcell hck
      have HX := Lib.hid hx
      have HNX := Lib.hid hnx
      clear hx hnx
      obtain ⟨xs, hrow, hels⟩ := hown
      go_wp2_with fail
      refine (copy_any Ak nx ck x wr HNX.out hrk (by omega)).mono ?_
      rintro e w1 ⟨u, rfl, hou, hb1⟩
      obtain ⟨Au, nu, cu, rfl, _, _, _, _⟩ := hou.form
      have hsz1 := hb1.size
      have hrow1 : (w1.alloc (.cells #[.slice Au nu cu] 22)).ownsRow w.heap.size 22 1 _ (ll.take k).length xs := World.ownsRow.alloc (World.ownsRow.kept hrow (grown_of_below hb1 none) (by cases hv : Value.ownBlock _ <;> simp)) _
      have hels1 : ∀ j (h : j < (ll.take k).length), ∃ y, xs[j]? = some y ∧ Own (w1.alloc (.cells #[.slice Au nu cu] 22)) w.heap.size y (ll.take k)[j] := fun j hj => by
        obtain ⟨y, e, ho⟩ := hels j hj
        exact ⟨y, e, (ho.below hb1).alloc _⟩
      have hou1 : Own (w1.alloc (.cells #[.slice Au nu cu] 22)) w.heap.size (.slice Au nu cu) x := (hou.more hsz).alloc _
      have HR1 := Lib.hid hrow1
      have HE1 := Lib.hid hels1
      have HTL := Lib.hid htl
      clear hrow hels hrow1 hels1 htl hou
      go_wp2_with (at_builtin; refine wpList_append_own _ rfl _ _ 37 rfl w.heap.size 22 i0 (.slice none 0 0) 1 24 Try.underlying37 hi hz0 hz1 hz2 rfl (by decide) _ _ xs rfl HR1.out ⟨w1.heap.size, 0, none⟩ 1 1 [.slice Au nu cu] rfl rfl (one_cell w1 _ _) (by simp [Value.oneCell']) (by rw [HTL.out]; simp only [maxLen]; omega) (by rw [HTL.out]; omega) (by simp; omega) ?_)
      intro v' w' ho' hg' _
      go_wp2
      refine ⟨⟨k + 1, by omega, by go_num, ?_, ?_⟩, by simp [intOf]; omega⟩
      · rw [List.take_succ_eq_append_getElem hk', ← HX.out]
        exact OwnL.more HR1.out HE1.out hou1 (by rw [List.length_take]; exact ho') hg'
      · exact bl_grown (bl_alloc (bl_trans hbl hb1) _) hg' (fun k hk => (World.ownsRow.lt HR1.out k hk).1)
    · have hfull : ll.take k = ll := List.take_of_length_le (by have := HL.out; omega)
      rw [hfull] at hown
      clear hfull
      obtain ⟨A1, n1, c1, rfl, HL1, hc1, hc1', hr1⟩ := hown.form
      obtain rfl : n1 = n := by have := HL1.out; have := HL.out; omega
      have HM : Hid (maxLen = 9223372036854775807) := rfl
      go_wp2_with fail
      refine (join_any A1 n1 c1 ll wr HL.out hr1 (by have := HM.out; omega) (by have := HS.out; omega)).mono ?_
      rintro e w2 ⟨v2, rfl, ho2, hb2⟩
      obtain ⟨A2, n2, c2, rfl, HL2, hc2, hc2', hr2⟩ := ho2.form
      have hB2 := bl_trans hbl hb2
      go_wp2_with fail
      refine (refjoin_any A n1 c ll w2 HL.out (hr.below hB2) (by have := HM.out; omega) (by have := HS.out; omega)).mono ?_
      rintro e w3 ⟨v3, rfl, ho3, hb3⟩
      obtain ⟨A3, n3, c3, rfl, HL3, hc3, hc3', hr3⟩ := ho3.form
      have hB3 := bl_trans hB2 hb3
      go_wp2_with fail
      refine (eq_true A2 A3 n2 c2 n3 c3 ll.flatten w3 HL2.out HL3.out (hr2.below hb3) hr3 (Nat.le_trans hc2 hc2')).mono ?_
      rintro e w4 ⟨rfl, hb4⟩
      have hB4 := bl_trans hB3 hb4
      go_wp2_with fail
      refine (spoil_any A2 n2 c2 _ ll.flatten w4 ((ho2.below hb3).below hb4) (Nat.le_trans hc2 hc2')).mono ?_
      rintro e w5 ⟨rfl, hg5⟩
      -- what was there ahead of Join's answer stands as it stood
      have hw25 : Below wr.heap.size wr w5 := by
        have h24 := bl_trans (bl_trans hb2 hb3) hb4
        exact bl_grown h24 hg5 (fun k hk => (ho2.lt k hk).1)
      have hB5 := bl_trans hbl hw25
      have hin := hr1.below hw25
      have harg := hr.below hB5
      clear ho2 ho3 hg5 hr2 hr3 hb2 hb3 hb4 hB2 hB3 hB4 hw25 hr hr1 hown hbl
      go_wp2_with fail
      go_loopw [6] (fun i wr => ∃ q m : Nat, q ≤ n1 ∧ i = .int .i64 q ∧ Hid (wr = w5.drewN m)) (fun i _ => n1 - (intOf i).toNat)
      case atStart => exact ⟨0, 0, Nat.zero_le _, rfl, rfl⟩
      case round =>
        obtain ⟨q, m, hq, rfl, HW⟩ := hrel
        rename World => wq
        by_cases hqn : q < n1
        · have hq' : q < ll.length := by have := HL.out; omega
          have hin' : RdL wq A1 ll := by rw [HW.out]; exact hin
          have harg' : RdL wq A ll := by rw [HW.out]; exact harg
          obtain ⟨ad1, B1, d1, rfl, hcell1, hrd1⟩ := hin'.at hq'
          obtain ⟨ad2, B2, d2, rfl, hcell2, hrd2⟩ := harg'.at hq'
          have hqb := HC.out q hq'
          obtain ⟨x, hx⟩ : ∃ x, x = ll[q] := ⟨_, rfl⟩
          obtain ⟨nx, hnx⟩ : ∃ nx, x.length = nx := ⟨_, rfl⟩
          rw [← hx] at hcell1 hcell2 hrd1 hrd2 hqb
          rw [hnx] at hcell1 hcell2 hqb
          have HNX := Lib.hid hnx
          clear hx hnx hin' harg' hin harg
          go_wp2_with fail
          go_quiet ((go_at_call 17; exact Calls.quiet_of (eq_quiet B1 B2 nx d1 nx d2 x _ HNX.out HNX.out hrd1 hrd2 (by simp only [maxLen]; omega))))
          go_wp2
          exact ⟨⟨q + 1, m + nq, by omega, by go_num, by rw [HW.out]; exact World.drewN_drewN ..⟩, by simp [intOf]; omega⟩
        · have hBq : Below w.heap.size w wq := by rw [HW.out]; exact bl_drewN hB5 m
          go_wp2_with fail
          refine (works_any wq).mono ?_
          rintro e w6 ⟨rfl, hb6⟩
          go_wp2
          go_ret
          exact ⟨rfl, bl_trans hBq hb6⟩

set_option maxRecDepth 100000 in
theorem VarnumJoinUpto_holds : Rows.VarnumJoinUptoSaid :=
  OpenClaim.holds_of_cond 5 Try.f5 rfl rfl rfl rfl rfl rfl rfl ⟨rfl, rfl, rfl, rfl, rfl⟩ rfl rfl rfl rfl rfl (by kernel_rfl) Try.func5 (by kernel_rfl)
    (of_decide_eq_true (by kernel_rfl)) (by unfold Func.isWrapper; first | (rw [if_pos (by decide +kernel)]; kernel_rfl) | (rw [if_neg (by decide +kernel)]; exact ⟨rfl, rfl⟩))
    (fun os started H enc _ F => law_lifted_upto (s := Rows.varnumJoinSpec) Try.func5 (by kernel_rfl) rfl
      (fun H ds h => by rw [Try.params5] at h; match ds, h with | [_], _ => rfl) (by kernel_rfl) (by kernel_rfl)
      os started H enc F
      (OpenSpec.witness (enc := enc) (C := Try.checked) (s := Rows.OpenSpec.upto Rows.varnumJoinSpec) (k := Rows.uptoSmall) rfl false ⟨#[], #[.slice none 0 0], []⟩ 8 (by kernel_rfl) (by kernel_rfl) (by kernel_rfl) (x := ([.nil], [], [])) (by kernel_rfl) rfl (by kernel_rfl))
      (fun W args ds p h hbulk => by
        obtain ⟨⟨base, hok⟩, hA, hl⟩ := h
        rw [Try.params5] at hok hA hl
        obtain ⟨v0, d0, rfl, rfl, g0⟩ := trodAll_one hA
        obtain ⟨A0, n0, c0, l0, rfl, e0, a0, b0, r0⟩ := open_lists (hok 0 37 v0 rfl rfl) g0 hbulk
        exact join_walk A0 n0 c0 l0 W e0 a0 b0 r0))

end Go.Proofs.Ythoocdgaiojkmaa
