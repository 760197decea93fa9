/- What the document's own Text and TakeText do: contracts over the translated program. -/
import Derived.Test.YtlblcligjelbgaaWalkH
set_option linter.unusedVariables false
namespace Go.Proofs.Ytlblcligjelbgaa
open Go.RowKit

set_option maxHeartbeats 1000000 in
set_option maxRecDepth 20000 in
theorem reftext_any (A : Option Addr) (n c : Nat) (most : Int) (l : List UInt8) (w : World) (hl : l.length = n) (hr : Rd w A l) (hn : n + 8 ≤ 200000000000000) (h1 : -9223372036854775808 ≤ most) (h2 : most ≤ 9223372036854775807) :
    Calls Try.prog 33 #[.slice A n c, .int .i64 most] w (GotBytesE w (textE l most).1 (textE l most).2) := by
  have HT : Hid (textE l most = _) := Lib.hid (textE.eq_1 l most)
  have HL := Lib.hid hl
  clear hl
  by_cases ha : most < 0
  · have hb : decide (most < 0) = true := by simp [ha]
    go_enter Try.func33, Try.ntmps33
    go_wp2_with fail
    go_ret2
    rw [HT.out, if_pos ha]
    exact ⟨_, rfl, Own.nil _ _, Below.refl _ _⟩
  · by_cases hb : most < n
    · go_enter Try.func33, Try.ntmps33
      go_wp2_with fail
      go_ret2
      rw [HT.out, if_neg (by omega), if_pos (by rw [HL.out]; exact hb)]
      exact ⟨_, rfl, Own.nil _ _, Below.refl _ _⟩
    · have hd8 := digs_len8 (n := n) (by omega)
      go_enter Try.func33, Try.ntmps33
      go_wp2_with fail
      refine (refnum_nat _ _ (by omega)).mono ?_
      rintro e w1 ⟨v, rfl, ho, hb1⟩
      have hsz := hb1.size
      go_wp2_with (at_builtin; refine wpList_append_bytes _ rfl _ _ rfl w.heap.size _ (digs n) rfl ho A n c l rfl HL.out (hr.below hb1) (by have := HL.out; omega) hsz ?_)
      intro v' w' ho' hg' _
      go_wp2
      go_ret2
      rw [HT.out, if_neg (by omega), if_neg (by rw [HL.out]; omega), HL.out]
      exact ⟨_, rfl, ho', bl_grown hb1 hg' (fun k hk => (ho.lt k hk).1)⟩

set_option maxHeartbeats 1000000 in
set_option maxRecDepth 20000 in
theorem reftakeT_any (A : Option Addr) (n c : Nat) (most : Int) (l : List UInt8) (w : World) (hl : l.length = n) (hr : Rd w A l) (hnc : n ≤ c) (hc : c ≤ maxLen) (hn : n ≤ 200000000000000) (h1 : -9223372036854775808 ≤ most) (h2 : most ≤ 9223372036854775807) :
    Calls Try.prog 42 #[.slice A n c, .int .i64 most] w (GotTextsE w (takeT l most).1 (takeT l most).2.1 (takeT l most).2.2) := by
  have cx := reftake_any A n c l w hl hr hnc hc hn
  unfold takeN at cx
  have hf := head_facts l
  have HT : Hid (takeT l most = _) := Lib.hid (takeT.eq_1 l most)
  unfold maxLen at hc
  generalize headE l = p at *
  obtain ⟨m, s, er⟩ := p
  dsimp only at hf cx HT
  have HL := Lib.hid hl
  clear hl
  by_cases ha : most < 0
  · have hb : decide (most < 0) = true := by simp [ha]
    clear cx
    go_enter Try.func42, Try.ntmps42
    go_wp2_with fail
    go_ret3
    rw [HT.out, if_pos ha]
    exact ⟨_, _, rfl, Own.nil _ _, Own.nil _ _, .inl rfl, Below.refl _ _⟩
  · have hb : decide (most < 0) = false := by simp; omega
    rcases hf with ⟨rfl, g1, g2, g3, g4⟩ | ⟨rfl, rfl, g4⟩
    · rw [if_neg (by simp)] at cx
      have HX := Lib.hid cx
      clear cx
      have hsn : s ≤ n := by have := HL.out; omega
      have hld : (l.drop s).length = n - s := by rw [List.length_drop, HL.out]
      rw [hld] at HT
      have HLD := Lib.hid hld
      clear hr hld
      by_cases hm : most < m
      · go_enter Try.func42, Try.ntmps42
        go_wp2_with (go_at_call 50; refine (HX.out).mono ?_; rintro e w' ⟨v, rfl, ho, hb'⟩; obtain ⟨A', n', c', rfl, HL', hc1, hc2, hr'⟩ := ho.form)
        go_ret3
        rw [HT.out, if_neg (by omega), if_neg (by simp), if_pos hm]
        exact ⟨_, _, rfl, Own.nil _ _, Own.nil _ _, .inl rfl, hb'⟩
      · by_cases hq : n - s < m
        · go_enter Try.func42, Try.ntmps42
          go_wp2_with fail
          refine (HX.out).mono ?_
          rintro e w' ⟨v, rfl, ho, hb'⟩
          obtain ⟨A', n', c', rfl, HL', hc1, hc2, hr'⟩ := ho.form
          have e' : n' = n - s := by have h9 := HL'.out; have := HLD.out; (try dsimp only at h9); omega
          subst e'
          go_wp2_with fail
          go_ret3
          rw [HT.out, if_neg (by omega), if_neg (by simp), if_neg (by omega), if_pos hq]
          exact ⟨_, _, rfl, Own.nil _ _, Own.nil _ _, .inl rfl, hb'⟩
        · go_enter Try.func42, Try.ntmps42
          go_wp2_with fail
          refine (HX.out).mono ?_
          rintro e w0 ⟨v, rfl, ho, hb'⟩
          obtain ⟨A', n', c', rfl, HL', hc1, hc2, hr'⟩ := ho.form
          have e' : n' = n - s := by have h9 := HL'.out; have := HLD.out; (try dsimp only at h9); omega
          subst e'
          obtain ⟨A'', hcut2, hr''⟩ := cut_from A' (n - s) c' m (l.drop s) w0 HLD.out hr' (by omega) hc1
          have HK1 : Hid (((l.drop s).take m).length = m) := Lib.hid (by rw [List.length_take, HLD.out]; omega)
          have HK2 : Hid (((l.drop s).drop m).length = n - s - m) := Lib.hid (by rw [List.length_drop, HLD.out])
          have hrt := hr'.take m
          unfold maxLen at hc2
          clear hr' ho
          go_wp2_with fail
          go_region_with (first
            | (go_at_call_of 20 A''; refine (copy_any _ _ _ ((l.drop s).drop m) _ HK2.out ?_ (by omega)).mono ?_; exact Rd.below (w := w0.drew) hr'' hb1; rintro e w2 ⟨v2, rfl, ho2, hb2⟩)
            | (go_at_call_of 20 A'; refine (copy_any _ _ _ ((l.drop s).take m) _ HK1.out ?_ (by omega)).mono ?_; exact hrt; rintro e w1 ⟨v1, rfl, ho1, hb1⟩))
          go_wp2
          go_ret3
          rw [HT.out, if_neg (by omega), if_neg (by simp), if_neg (by omega), if_neg hq]
          have hb1' : Below w.heap.size w w1 := bl_trans (bl_trans hb' (Below.drew (Below.refl _ _))) hb1
          have hz : w.heap.size ≤ w0.drew.heap.size := hb'.size
          exact ⟨v1, v2, rfl, (ho1.more hz).below hb2, ho2.more hb1'.size, own_apart ho1 ho2, bl_trans hb1' hb2⟩
    · clear hr
      rcases g4 with rfl | rfl
      all_goals
        rw [if_pos (by simp)] at cx
        have HX := Lib.hid cx
        clear cx
        go_enter Try.func42, Try.ntmps42
        go_wp2_with (go_at_call 50; refine (HX.out).mono ?_; rintro e w' ⟨v, rfl, ho, hb'⟩)
        go_ret3
        rw [HT.out, if_neg (by omega)]
        exact ⟨_, _, rfl, Own.nil _ _, Own.nil _ _, .inl rfl, hb'⟩

end Go.Proofs.Ytlblcligjelbgaa
