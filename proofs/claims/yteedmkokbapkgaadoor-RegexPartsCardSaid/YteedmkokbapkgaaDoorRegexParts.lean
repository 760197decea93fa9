/- RegexParts: a pattern takes a text as its parts do, whatever two patterns and text are handed in. Under: math/bits' table as the row lists it. -/
import Derived.Test.YteedmkokbapkgaaDoorRgPs
import Derived.Test.YteedmkokbapkgaaDoorRgRow
set_option linter.unusedVariables false
set_option linter.unusedSimpArgs false
namespace Go.Proofs.YteedmkokbapkgaaDoor
open Go.ChangeShapes Go.WideShapes Go.ChangeAt Go.RowKit

set_option maxRecDepth 100000 in
set_option maxHeartbeats 16000000 in
theorem parts_walk (l1 l2 : List RN) (l3 : List UInt8) (A1 A2 A3 : Option Addr) (n1 c1 n2 c2 n3 c3 : Nat) (hn1 : l1.length = n1) (hn2 : l2.length = n2) (hn3 : l3.length = n3) (hc1 : n1 ≤ c1) (hc2 : n2 ≤ c2) (hc3 : n3 ≤ c3)
    (hm1 : c1 * 56 ≤ 140737488351232) (hm2 : c2 * 56 ≤ 140737488351232) (hm3 : c3 ≤ 140737488351232) (w : World) (hT : Tab w) (hr1 : RdR w A1 l1) (hr2 : RdR w A2 l2) (hr3 : Rd w A3 l3) :
    Calls Tryd.prog 7 #[.agg #[.slice A1 n1 c1], .agg #[.slice A2 n2 c2], .slice A3 n3 c3] w (Yes w) := by
  obtain ⟨m, HM, hm12, hm13, hmin⟩ := min_lit n3 12 12 rfl
  have hcut := cut_to2 A3 n3 c3 m hm12 hc3
  generalize hQ : Yes w = Q
  have HQ := Lib.hid hQ
  have S0 := Lib.hid (PS.begin w A1 A2 A3 n1 c1 n2 c2 l1 l2 l3 hT hr1 hr2 hr3)
  have HN1 := Lib.hid hn1
  have HN2 := Lib.hid hn2
  have HN3 := Lib.hid hn3
  clear hQ hT hr1 hr2 hr3 hn1 hn2 hn3
  go_enter Tryd.func7, Tryd.ntmps7
  go_wp2_with fail
  refine (works_any _ S0.out.tab).mono ?_
  rintro e w2 ⟨rfl, hb2⟩
  have S2 := Lib.hid (S0.out.then hb2)
  clear hb2 S0
  generalize w.heap.size = g at *
  have q1 := S2.out.q1
  have q2 := S2.out.q2
  go_wp2_with fail
  refine (check_any l1 A1 n1 c1 HN1.out _ S2.out.r1 hc1).mono ?_
  rintro e w3 ⟨rfl, hb3⟩
  have S3 := Lib.hid (S2.out.then hb3)
  clear hb3 S2 q1 q2
  by_cases hk1 : ¬ checkE l1 = 0
  · generalize checkE l1 = k at *
    have h' : ((k : Int) == 0) = false := by simp; omega
    go_wp2_with fail
    exact post_is HQ ⟨rfl, S3.out.below⟩
  rw [Decidable.not_not] at hk1
  rw [hk1]
  have q1 := S3.out.q1
  have q2 := S3.out.q2
  go_wp2_with fail
  refine (check_any l2 A2 n2 c2 HN2.out _ S3.out.r2 hc2).mono ?_
  rintro e w4 ⟨rfl, hb4⟩
  have S4 := Lib.hid (S3.out.then hb4)
  clear hb4 S3 q1 q2
  by_cases hk2 : ¬ checkE l2 = 0
  · generalize checkE l2 = k at *
    have h' : ((k : Int) == 0) = false := by simp; omega
    go_wp2_with fail
    exact post_is HQ ⟨rfl, S4.out.below⟩
  rw [Decidable.not_not] at hk2
  rw [hk2]
  have q1 := S4.out.q1
  have q2 := S4.out.q2
  obtain ⟨t1, rfl, hs1, hs2⟩ := tree_or hk1
  obtain ⟨t2, rfl, hs3, hs4⟩ := tree_or hk2
  clear hk1 hk2
  have hz1 : t1.size = n1 := by rw [hs1, HN1.out]
  have hz2 : t2.size = n2 := by rw [hs3, HN2.out]
  clear hs1 hs3
  by_cases h200 : 200 < n1 + n2
  · have hgt : decide ((200 : Int) < (n1 : Int) + (n2 : Int)) = true := by simp; omega
    go_wp2_with fail
    exact post_is HQ ⟨rfl, S4.out.below⟩
  have hgt : decide ((200 : Int) < (n1 : Int) + (n2 : Int)) = false := by simp; omega
  have S5 := Lib.hid (S4.out.cut m)
  have hT3 : (l3.take m).length = m := by rw [List.length_take, HN3.out]; omega
  have HT3 := Lib.hid hT3
  clear S4 hT3
  generalize l3.take m = T at *
  go_wp2_with fail
  refine (join_alt_any t1 t2 A1 n1 c1 A2 n2 c2 HN1.out HN2.out (by omega) _ S5.out.r1 S5.out.r2).mono ?_
  rintro e w6 ⟨v, rfl, ho, hb⟩
  obtain ⟨A, n, c, rfl, HL, hc, hm, hr⟩ := ho.form
  have S6 := Lib.hid (S5.out.then hb)
  have HR := Lib.hid hr
  clear ho hb S5 q1 q2 hr
  have q1 := S6.out.q1
  have q2 := S6.out.q2
  go_wp2_with fail
  refine (takes_tree (.alt t1 t2) (by simp only [Rx.size]; omega) A n c HL.out hc A3 m c3 T HT3.out (by omega) _ S6.out.tab HR.out S6.out.r3).mono ?_
  rintro e w7 ⟨rfl, hb⟩
  have S7 := Lib.hid (S6.out.then hb)
  clear hb S6 q1 q2 HR HL hc hm
  have q1 := S7.out.q1
  have q2 := S7.out.q2
  go_wp2_with fail
  refine (join_seq_any t1 t2 A1 n1 c1 A2 n2 c2 HN1.out HN2.out (by omega) _ S7.out.r1 S7.out.r2).mono ?_
  rintro e w8 ⟨v, rfl, ho, hb⟩
  obtain ⟨A, n, c, rfl, HL, hc, hm, hr⟩ := ho.form
  have S8 := Lib.hid (S7.out.then hb)
  have HR := Lib.hid hr
  clear ho hb S7 q1 q2 hr
  have q1 := S8.out.q1
  have q2 := S8.out.q2
  go_wp2_with fail
  refine (takes_tree (.seq t1 t2) (by simp only [Rx.size]; omega) A n c HL.out hc A3 m c3 T HT3.out (by omega) _ S8.out.tab HR.out S8.out.r3).mono ?_
  rintro e w9 ⟨rfl, hb⟩
  have S9 := Lib.hid (S8.out.then hb)
  clear hb S8 q1 q2 HR HL hc hm
  have q1 := S9.out.q1
  have q2 := S9.out.q2
  go_wp2_with fail
  refine (over_star_any t1 A1 n1 c1 HN1.out (by omega) _ S9.out.r1).mono ?_
  rintro e w10 ⟨v, rfl, ho, hb⟩
  obtain ⟨A, n, c, rfl, HL, hc, hm, hr⟩ := ho.form
  have S10 := Lib.hid (S9.out.then hb)
  have HR := Lib.hid hr
  clear ho hb S9 q1 q2 hr
  have q1 := S10.out.q1
  have q2 := S10.out.q2
  go_wp2_with fail
  refine (takes_tree (.star t1) (by simp only [Rx.size]; omega) A n c HL.out hc A3 m c3 T HT3.out (by omega) _ S10.out.tab HR.out S10.out.r3).mono ?_
  rintro e w11 ⟨rfl, hb⟩
  have S11 := Lib.hid (S10.out.then hb)
  clear hb S10 q1 q2 HR HL hc hm
  have q1 := S11.out.q1
  have q2 := S11.out.q2
  go_wp2_with fail
  refine (over_plus_any t1 A1 n1 c1 HN1.out (by omega) _ S11.out.r1).mono ?_
  rintro e w12 ⟨v, rfl, ho, hb⟩
  obtain ⟨A, n, c, rfl, HL, hc, hm, hr⟩ := ho.form
  have S12 := Lib.hid (S11.out.then hb)
  have HR := Lib.hid hr
  clear ho hb S11 q1 q2 hr
  have q1 := S12.out.q1
  have q2 := S12.out.q2
  go_wp2_with fail
  refine (takes_tree (.plus t1) (by simp only [Rx.size]; omega) A n c HL.out hc A3 m c3 T HT3.out (by omega) _ S12.out.tab HR.out S12.out.r3).mono ?_
  rintro e w13 ⟨rfl, hb⟩
  have S13 := Lib.hid (S12.out.then hb)
  clear hb S12 q1 q2 HR HL hc hm
  have q1 := S13.out.q1
  have q2 := S13.out.q2
  go_wp2_with fail
  refine (takes_tree t1 (by omega) A1 n1 c1 HN1.out hc1 A3 m c3 T HT3.out (by omega) _ S13.out.tab S13.out.r1 S13.out.r3).mono ?_
  rintro e w14 ⟨rfl, hb⟩
  have S14 := Lib.hid (S13.out.then hb)
  clear hb S13 q1 q2
  have q1 := S14.out.q1
  have q2 := S14.out.q2
  go_wp2_with fail
  refine (takes_tree t2 (by omega) A2 n2 c2 HN2.out hc2 A3 m c3 T HT3.out (by omega) _ S14.out.tab S14.out.r2 S14.out.r3).mono ?_
  rintro e w15 ⟨rfl, hb⟩
  have S15 := Lib.hid (S14.out.then hb)
  clear hb S14 q1 q2
  have q1 := S15.out.q1
  have q2 := S15.out.q2
  have dz : ((m : Int) == 0) = decide (T.length = 0) := by rw [HT3.out, Bool.eq_iff_iff]; simp
  rw [parts_alt t1 t2 T, parts_seq t1 t2 T, parts_star t1 T, parts_plus t1 T, HT3.out]
  have P0 := Lib.hid (manyK_zero t1 T)
  generalize hbx : tk t1 T = bx
  generalize hby : tk t2 T = byy
  generalize hbc : cutK t1 t2 T (m + 1) = bcut
  generalize hbm : manyK t1 T (m + 1) = bmany
  have HBC := Lib.hid hbc
  have HBM := Lib.hid hbm
  clear hbx hby hbc hbm
  have S15 := Lib.hid (S15.out.drew)
  clear S15
  go_wp2_with fail
  go_loopw [19, 20, 21] (fun vc vm vk wr => ∃ k : Nat, k ≤ m + 1 ∧ vc = .bool (cutK t1 t2 T k) ∧ vm = .bool (manyK t1 T k) ∧ vk = .int .i64 (k : Int) ∧ Hid (PS w g A1 n1 c1 (flat 0 t1) A2 n2 c2 (flat 0 t2) A3 T wr)) (fun _ _ vk _ => m + 1 - (intOf vk).toNat)
  case atStart => exact ⟨0, by omega, rfl, by rw [P0.out]; simp, rfl, S15⟩
  case round =>
    obtain ⟨k, hk, rfl, rfl, rfl, SR⟩ := hrel
    clear S15 P0 q1 q2
    by_cases hlt : k ≤ m
    · have cutA := cut_to2 A3 m c3 k hlt (by omega)
      obtain ⟨A', cutB, hrB⟩ := cut_from A3 m c3 k T wr HT3.out SR.out.r3 hlt (by omega)
      have HRB := Lib.hid hrB
      obtain ⟨b1, hb1⟩ : ∃ b, tk t1 (T.take k) = b := ⟨_, rfl⟩
      obtain ⟨b2, hb2⟩ : ∃ b, tk t2 (T.drop k) = b := ⟨_, rfl⟩
      obtain ⟨b3, hb3⟩ : ∃ b, tk (.star t1) (T.drop k) = b := ⟨_, rfl⟩
      have HB1 := Lib.hid hb1
      have HB2 := Lib.hid hb2
      have HB3 := Lib.hid hb3
      have NC := Lib.hid (cutK_succ t1 t2 T k)
      have NM := Lib.hid (manyK_succ t1 T k)
      have LT := Lib.hid (show (T.take k).length = k by rw [List.length_take, HT3.out]; omega)
      have LD := Lib.hid (show (T.drop k).length = m - k by rw [List.length_drop, HT3.out])
      clear hb1 hb2 hb3 hrB
      go_wp2_with fail
      refine wp_region_held_drew (S := fun W => PS w g A1 n1 c1 (flat 0 t1) A2 n2 c2 (flat 0 t2) A3 T W ∧ Below wr.heap.size wr W) (by kernel_rfl) ⟨SR.out.drew, bl_drewN (Below.refl _ _) 1⟩ (fun hHeld => ?_)
      try simp only [List.getElem_toArray, List.getElem_cons_zero, List.getElem_cons_succ, Act.put, List.setIfInBounds_toArray, List.set_cons_zero, List.set_cons_succ]
      refine wpAnyH_take (i := 0) (v := ?vza0) rfl (by kernel_rfl) (by kernel_rfl) (by kernel_rfl) (fun _ _ _ h => h) (Or.inl ⟨by rfl, ?yza0⟩) hHeld ?rza0
      case yza0 => (intro wS hSw; have q1 := hSw.1.q1; clear hSw; go_simp; try (with_reducible rfl))
      try simp only [List.getElem_toArray, List.getElem_cons_zero, List.getElem_cons_succ, Act.put, List.setIfInBounds_toArray, List.set_cons_zero, List.set_cons_succ]
      refine wpAnyH_take (i := 1) (v := ?vza1) rfl (by kernel_rfl) (by kernel_rfl) (by kernel_rfl) (fun _ _ _ h => h) (Or.inl ⟨by rfl, ?yza1⟩) hHeld ?rza1
      case yza1 => (intro wS hSw; clear hSw; go_simp; try (with_reducible rfl))
      try simp only [List.getElem_toArray, List.getElem_cons_zero, List.getElem_cons_succ, Act.put, List.setIfInBounds_toArray, List.set_cons_zero, List.set_cons_succ]
      refine wpAnyH_take (i := 2) (v := ?vza2) rfl (by kernel_rfl) (by kernel_rfl) (by kernel_rfl) (fun _ _ _ h => h) (Or.inl ⟨by rfl, ?yza2⟩) hHeld ?rza2
      case yza2 => (intro wS hSw; clear hSw; go_simp; try (with_reducible rfl))
      try simp only [List.getElem_toArray, List.getElem_cons_zero, List.getElem_cons_succ, Act.put, List.setIfInBounds_toArray, List.set_cons_zero, List.set_cons_succ]
      refine wpAnyH_take (i := 3) (v := ?vza3) rfl (by kernel_rfl) (by kernel_rfl) (by kernel_rfl) (fun _ _ _ h => h) (Or.inl ⟨by rfl, ?yza3⟩) hHeld ?rza3
      case yza3 => (intro wS hSw; clear hSw; go_simp; try (with_reducible rfl))
      try simp only [List.getElem_toArray, List.getElem_cons_zero, List.getElem_cons_succ, Act.put, List.setIfInBounds_toArray, List.set_cons_zero, List.set_cons_succ]
      refine wpAnyH_ready (rs := [4]) (by kernel_rfl) (by simp) (AllReadyH.cons rfl (fun K hK => ?_) AllReadyH.nil)
      try rw [if_pos (by rfl)]
      go_simp
      go_at_call 18
      refine (takes_tree t1 (by omega) A1 n1 c1 HN1.out hc1 A3 k c3 (T.take k) LT.out (by omega) _ hHeld.1.tab hHeld.1.r1 (hHeld.1.r3.take k)).mono ?_
      rw [HB1.out]
      rintro e x1 ⟨rfl, hb⟩
      have hS1 := And.intro (hHeld.1.then hb) (bl_trans hHeld.2 hb)
      clear hHeld hb
      go_wp2_with fail
      refine hK.out _ _ hS1 (fun hHeld => ?_)
      clear hK K hS1
      try simp only [List.getElem_toArray, List.getElem_cons_zero, List.getElem_cons_succ, Act.put, List.setIfInBounds_toArray, List.set_cons_zero, List.set_cons_succ]
      refine wpAnyH_take (i := 5) (v := ?vza5) rfl (by kernel_rfl) (by kernel_rfl) (by kernel_rfl) (fun _ _ _ h => h) (Or.inl ⟨by rfl, ?yza5⟩) hHeld ?rza5
      case yza5 => (intro wS hSw; clear hSw; go_simp; try (with_reducible rfl))
      try simp only [List.getElem_toArray, List.getElem_cons_zero, List.getElem_cons_succ, Act.put, List.setIfInBounds_toArray, List.set_cons_zero, List.set_cons_succ]
      refine wpAnyH_take (i := 6) (v := ?vza6) rfl (by kernel_rfl) (by kernel_rfl) (by kernel_rfl) (fun _ _ _ h => h) (Or.inl ⟨by rfl, ?yza6⟩) hHeld ?rza6
      case yza6 => (intro wS hSw; clear hSw; go_simp; try (with_reducible rfl))
      try simp only [List.getElem_toArray, List.getElem_cons_zero, List.getElem_cons_succ, Act.put, List.setIfInBounds_toArray, List.set_cons_zero, List.set_cons_succ]
      refine wpAnyH_take (i := 7) (v := ?vza7) rfl (by kernel_rfl) (by kernel_rfl) (by kernel_rfl) (fun _ _ _ h => h) (Or.inl ⟨by rfl, ?yza7⟩) hHeld ?rza7
      case yza7 => (intro wS hSw; clear hSw; go_simp; try (with_reducible rfl))
      try simp only [List.getElem_toArray, List.getElem_cons_zero, List.getElem_cons_succ, Act.put, List.setIfInBounds_toArray, List.set_cons_zero, List.set_cons_succ]
      refine wpAnyH_take (i := 8) (v := ?vza8) rfl (by kernel_rfl) (by kernel_rfl) (by kernel_rfl) (fun _ _ _ h => h) (Or.inl ⟨by rfl, ?yza8⟩) hHeld ?rza8
      case yza8 => (intro wS hSw; clear hSw; go_simp; try (with_reducible rfl))
      try simp only [List.getElem_toArray, List.getElem_cons_zero, List.getElem_cons_succ, Act.put, List.setIfInBounds_toArray, List.set_cons_zero, List.set_cons_succ]
      refine wpAnyH_take (i := 9) (v := ?vza9) rfl (by kernel_rfl) (by kernel_rfl) (by kernel_rfl) (fun _ _ _ h => h) (Or.inl ⟨by rfl, ?yza9⟩) hHeld ?rza9
      case yza9 => (intro wS hSw; clear hSw; go_simp; try (with_reducible rfl))
      try simp only [List.getElem_toArray, List.getElem_cons_zero, List.getElem_cons_succ, Act.put, List.setIfInBounds_toArray, List.set_cons_zero, List.set_cons_succ]
      refine wpAnyH_done (by kernel_rfl) ?_ _
      have SR2 := Lib.hid hHeld.1
      have BR2 := Lib.hid hHeld.2
      clear hHeld
      go_wp2_with fail
      refine wp_region_held_drew (S := fun W => PS w g A1 n1 c1 (flat 0 t1) A2 n2 c2 (flat 0 t2) A3 T W ∧ Below wr.heap.size wr W) (by kernel_rfl) ⟨SR2.out.drew, bl_drewN BR2.out 1⟩ (fun hHeld => ?_)
      try simp only [List.getElem_toArray, List.getElem_cons_zero, List.getElem_cons_succ, Act.put, List.setIfInBounds_toArray, List.set_cons_zero, List.set_cons_succ]
      refine wpAnyH_take (i := 0) (v := ?vzb0) rfl (by kernel_rfl) (by kernel_rfl) (by kernel_rfl) (fun _ _ _ h => h) (Or.inl ⟨by rfl, ?yzb0⟩) hHeld ?rzb0
      case yzb0 => (intro wS hSw; have q2 := hSw.1.q2; clear hSw; go_simp; try (with_reducible rfl))
      try simp only [List.getElem_toArray, List.getElem_cons_zero, List.getElem_cons_succ, Act.put, List.setIfInBounds_toArray, List.set_cons_zero, List.set_cons_succ]
      refine wpAnyH_take (i := 1) (v := ?vzb1) rfl (by kernel_rfl) (by kernel_rfl) (by kernel_rfl) (fun _ _ _ h => h) (Or.inl ⟨by rfl, ?yzb1⟩) hHeld ?rzb1
      case yzb1 => (intro wS hSw; clear hSw; go_simp; try (with_reducible rfl))
      try simp only [List.getElem_toArray, List.getElem_cons_zero, List.getElem_cons_succ, Act.put, List.setIfInBounds_toArray, List.set_cons_zero, List.set_cons_succ]
      refine wpAnyH_take (i := 2) (v := ?vzb2) rfl (by kernel_rfl) (by kernel_rfl) (by kernel_rfl) (fun _ _ _ h => h) (Or.inl ⟨by rfl, ?yzb2⟩) hHeld ?rzb2
      case yzb2 => (intro wS hSw; clear hSw; go_simp; try (with_reducible rfl))
      try simp only [List.getElem_toArray, List.getElem_cons_zero, List.getElem_cons_succ, Act.put, List.setIfInBounds_toArray, List.set_cons_zero, List.set_cons_succ]
      refine wpAnyH_take (i := 3) (v := ?vzb3) rfl (by kernel_rfl) (by kernel_rfl) (by kernel_rfl) (fun _ _ _ h => h) (Or.inl ⟨by rfl, ?yzb3⟩) hHeld ?rzb3
      case yzb3 => (intro wS hSw; clear hSw; go_simp; try (with_reducible rfl))
      try simp only [List.getElem_toArray, List.getElem_cons_zero, List.getElem_cons_succ, Act.put, List.setIfInBounds_toArray, List.set_cons_zero, List.set_cons_succ]
      refine wpAnyH_ready (rs := [4]) (by kernel_rfl) (by simp) (AllReadyH.cons rfl (fun K hK => ?_) AllReadyH.nil)
      try rw [if_pos (by rfl)]
      go_simp
      go_at_call 18
      refine (takes_tree t2 (by omega) A2 n2 c2 HN2.out hc2 A' (m - k) (c3 - k) (T.drop k) LD.out (by omega) _ hHeld.1.tab hHeld.1.r2 (HRB.out.below hHeld.2)).mono ?_
      rw [HB2.out]
      rintro e x2 ⟨rfl, hb⟩
      have hS1 := And.intro (hHeld.1.then hb) (bl_trans hHeld.2 hb)
      clear hHeld hb
      go_wp2_with fail
      refine hK.out _ _ hS1 (fun hHeld => ?_)
      clear hK K hS1
      try simp only [List.getElem_toArray, List.getElem_cons_zero, List.getElem_cons_succ, Act.put, List.setIfInBounds_toArray, List.set_cons_zero, List.set_cons_succ]
      refine wpAnyH_take (i := 5) (v := ?vzb5) rfl (by kernel_rfl) (by kernel_rfl) (by kernel_rfl) (fun _ _ _ h => h) (Or.inl ⟨by rfl, ?yzb5⟩) hHeld ?rzb5
      case yzb5 => (intro wS hSw; clear hSw; go_simp; try (with_reducible rfl))
      try simp only [List.getElem_toArray, List.getElem_cons_zero, List.getElem_cons_succ, Act.put, List.setIfInBounds_toArray, List.set_cons_zero, List.set_cons_succ]
      refine wpAnyH_take (i := 6) (v := ?vzb6) rfl (by kernel_rfl) (by kernel_rfl) (by kernel_rfl) (fun _ _ _ h => h) (Or.inl ⟨by rfl, ?yzb6⟩) hHeld ?rzb6
      case yzb6 => (intro wS hSw; clear hSw; go_simp; try (with_reducible rfl))
      try simp only [List.getElem_toArray, List.getElem_cons_zero, List.getElem_cons_succ, Act.put, List.setIfInBounds_toArray, List.set_cons_zero, List.set_cons_succ]
      refine wpAnyH_take (i := 7) (v := ?vzb7) rfl (by kernel_rfl) (by kernel_rfl) (by kernel_rfl) (fun _ _ _ h => h) (Or.inl ⟨by rfl, ?yzb7⟩) hHeld ?rzb7
      case yzb7 => (intro wS hSw; clear hSw; go_simp; try (with_reducible rfl))
      try simp only [List.getElem_toArray, List.getElem_cons_zero, List.getElem_cons_succ, Act.put, List.setIfInBounds_toArray, List.set_cons_zero, List.set_cons_succ]
      refine wpAnyH_take (i := 8) (v := ?vzb8) rfl (by kernel_rfl) (by kernel_rfl) (by kernel_rfl) (fun _ _ _ h => h) (Or.inl ⟨by rfl, ?yzb8⟩) hHeld ?rzb8
      case yzb8 => (intro wS hSw; clear hSw; go_simp; try (with_reducible rfl))
      try simp only [List.getElem_toArray, List.getElem_cons_zero, List.getElem_cons_succ, Act.put, List.setIfInBounds_toArray, List.set_cons_zero, List.set_cons_succ]
      refine wpAnyH_take (i := 9) (v := ?vzb9) rfl (by kernel_rfl) (by kernel_rfl) (by kernel_rfl) (fun _ _ _ h => h) (Or.inl ⟨by rfl, ?yzb9⟩) hHeld ?rzb9
      case yzb9 => (intro wS hSw; clear hSw; go_simp; try (with_reducible rfl))
      try simp only [List.getElem_toArray, List.getElem_cons_zero, List.getElem_cons_succ, Act.put, List.setIfInBounds_toArray, List.set_cons_zero, List.set_cons_succ]
      refine wpAnyH_done (by kernel_rfl) ?_ _
      have SR3 := Lib.hid hHeld.1
      have BR3 := Lib.hid hHeld.2
      clear hHeld
      clear SR2 BR2
      go_wp2_with fail
      · have h1 : cutK t1 t2 T k = true := by assumption
        have E1 := Lib.hid (show cutK t1 t2 T (k + 1) = true by rw [NC.out, HB1.out, HB2.out]; simp [h1])
        clear h1
        refine wp_region_held_drew (S := fun W => PS w g A1 n1 c1 (flat 0 t1) A2 n2 c2 (flat 0 t2) A3 T W ∧ Below wr.heap.size wr W) (by kernel_rfl) ⟨SR3.out.drew, bl_drewN BR3.out 1⟩ (fun hHeld => ?_)
        try simp only [List.getElem_toArray, List.getElem_cons_zero, List.getElem_cons_succ, Act.put, List.setIfInBounds_toArray, List.set_cons_zero, List.set_cons_succ]
        refine wpAnyH_take (i := 0) (v := ?vzc00) rfl (by kernel_rfl) (by kernel_rfl) (by kernel_rfl) (fun _ _ _ h => h) (Or.inl ⟨by rfl, ?yzc00⟩) hHeld ?rzc00
        case yzc00 => (intro wS hSw; have q1 := hSw.1.q1; clear hSw; go_simp; try (with_reducible rfl))
        try simp only [List.getElem_toArray, List.getElem_cons_zero, List.getElem_cons_succ, Act.put, List.setIfInBounds_toArray, List.set_cons_zero, List.set_cons_succ]
        refine wpAnyH_take (i := 2) (v := ?vzc02) rfl (by kernel_rfl) (by kernel_rfl) (by kernel_rfl) (fun _ _ _ h => h) (Or.inl ⟨by rfl, ?yzc02⟩) hHeld ?rzc02
        case yzc02 => (intro wS hSw; clear hSw; go_simp; try (with_reducible rfl))
        try simp only [List.getElem_toArray, List.getElem_cons_zero, List.getElem_cons_succ, Act.put, List.setIfInBounds_toArray, List.set_cons_zero, List.set_cons_succ]
        refine wpAnyH_take (i := 3) (v := ?vzc03) rfl (by kernel_rfl) (by kernel_rfl) (by kernel_rfl) (fun _ _ _ h => h) (Or.inl ⟨by rfl, ?yzc03⟩) hHeld ?rzc03
        case yzc03 => (intro wS hSw; clear hSw; go_simp; try (with_reducible rfl))
        try simp only [List.getElem_toArray, List.getElem_cons_zero, List.getElem_cons_succ, Act.put, List.setIfInBounds_toArray, List.set_cons_zero, List.set_cons_succ]
        refine wpAnyH_take (i := 4) (v := ?vzc04) rfl (by kernel_rfl) (by kernel_rfl) (by kernel_rfl) (fun _ _ _ h => h) (Or.inl ⟨by rfl, ?yzc04⟩) hHeld ?rzc04
        case yzc04 => (intro wS hSw; clear hSw; go_simp; try (with_reducible rfl))
        try simp only [List.getElem_toArray, List.getElem_cons_zero, List.getElem_cons_succ, Act.put, List.setIfInBounds_toArray, List.set_cons_zero, List.set_cons_succ]
        refine wpAnyH_ready (rs := [1]) (by kernel_rfl) (by simp) (AllReadyH.cons rfl (fun K hK => ?_) AllReadyH.nil)
        try rw [if_pos (by rfl)]
        go_simp
        go_at_call 24
        refine (over_star_any t1 A1 n1 c1 HN1.out (by omega) _ hHeld.1.r1).mono ?_
        rintro e x3 ⟨v, rfl, ho, hb⟩
        obtain ⟨A, n, c, rfl, HL, hc, hm, hr⟩ := ho.form
        have HR := Lib.hid hr
        clear ho hr
        have hS1 := And.intro (hHeld.1.then hb) (bl_trans hHeld.2 hb)
        clear hHeld hb
        go_wp2_with fail
        refine hK.out _ _ hS1 (fun hHeld => ?_)
        clear hK K hS1
        try simp only [List.getElem_toArray, List.getElem_cons_zero, List.getElem_cons_succ, Act.put, List.setIfInBounds_toArray, List.set_cons_zero, List.set_cons_succ]
        refine wpAnyH_ready (rs := [5]) (by kernel_rfl) (by simp) (AllReadyH.cons rfl (fun K hK => ?_) AllReadyH.nil)
        try rw [if_pos (by rfl)]
        go_simp
        go_at_call 18
        refine (takes_tree (.star t1) (by simp only [Rx.size]; omega) A n c HL.out hc A' (m - k) (c3 - k) (T.drop k) LD.out (by omega) _ hHeld.1.tab HR.out (HRB.out.below hHeld.2)).mono ?_
        rw [HB3.out]
        rintro e x4 ⟨rfl, hb⟩
        have hS1 := And.intro (hHeld.1.then hb) (bl_trans hHeld.2 hb)
        clear hHeld hb
        go_wp2_with fail
        refine hK.out _ _ hS1 (fun hHeld => ?_)
        clear hK K hS1
        try simp only [List.getElem_toArray, List.getElem_cons_zero, List.getElem_cons_succ, Act.put, List.setIfInBounds_toArray, List.set_cons_zero, List.set_cons_succ]
        refine wpAnyH_take (i := 6) (v := ?vzc06) rfl (by kernel_rfl) (by kernel_rfl) (by kernel_rfl) (fun _ _ _ h => h) (Or.inl ⟨by rfl, ?yzc06⟩) hHeld ?rzc06
        case yzc06 => (intro wS hSw; clear hSw; go_simp; try (with_reducible rfl))
        try simp only [List.getElem_toArray, List.getElem_cons_zero, List.getElem_cons_succ, Act.put, List.setIfInBounds_toArray, List.set_cons_zero, List.set_cons_succ]
        refine wpAnyH_take (i := 7) (v := ?vzc07) rfl (by kernel_rfl) (by kernel_rfl) (by kernel_rfl) (fun _ _ _ h => h) (Or.inl ⟨by rfl, ?yzc07⟩) hHeld ?rzc07
        case yzc07 => (intro wS hSw; clear hSw; go_simp; try (with_reducible rfl))
        try simp only [List.getElem_toArray, List.getElem_cons_zero, List.getElem_cons_succ, Act.put, List.setIfInBounds_toArray, List.set_cons_zero, List.set_cons_succ]
        refine wpAnyH_take (i := 8) (v := ?vzc08) rfl (by kernel_rfl) (by kernel_rfl) (by kernel_rfl) (fun _ _ _ h => h) (Or.inl ⟨by rfl, ?yzc08⟩) hHeld ?rzc08
        case yzc08 => (intro wS hSw; clear hSw; go_simp; try (with_reducible rfl))
        try simp only [List.getElem_toArray, List.getElem_cons_zero, List.getElem_cons_succ, Act.put, List.setIfInBounds_toArray, List.set_cons_zero, List.set_cons_succ]
        refine wpAnyH_take (i := 9) (v := ?vzc09) rfl (by kernel_rfl) (by kernel_rfl) (by kernel_rfl) (fun _ _ _ h => h) (Or.inl ⟨by rfl, ?yzc09⟩) hHeld ?rzc09
        case yzc09 => (intro wS hSw; clear hSw; go_simp; try (with_reducible rfl))
        try simp only [List.getElem_toArray, List.getElem_cons_zero, List.getElem_cons_succ, Act.put, List.setIfInBounds_toArray, List.set_cons_zero, List.set_cons_succ]
        refine wpAnyH_take (i := 10) (v := ?vzc010) rfl (by kernel_rfl) (by kernel_rfl) (by kernel_rfl) (fun _ _ _ h => h) (Or.inl ⟨by rfl, ?yzc010⟩) hHeld ?rzc010
        case yzc010 => (intro wS hSw; clear hSw; go_simp; try (with_reducible rfl))
        try simp only [List.getElem_toArray, List.getElem_cons_zero, List.getElem_cons_succ, Act.put, List.setIfInBounds_toArray, List.set_cons_zero, List.set_cons_succ]
        refine wpAnyH_done (by kernel_rfl) ?_ _
        have SR4 := Lib.hid hHeld.1
        have BR4 := Lib.hid hHeld.2
        clear hHeld
        clear SR3 BR3
        go_wp2_with fail
        all_goals (try go_wp2_with fail)
        all_goals refine ⟨⟨k + 1, by omega, by rw [E1.out], by rw [NM.out, HB1.out, HB3.out]; first | (simp [*]; done) | (have hk0 : 0 < k := (by omega); simp [*]; done) | (have hk0 : k = 0 := (by omega); simp [*]; done), by go_num, SR4⟩, by simp [intOf]; omega⟩
      · have h1 : ¬cutK t1 t2 T k = true := by assumption
        have h2 : b1 = true := by assumption
        have E1 := Lib.hid (show cutK t1 t2 T (k + 1) = b2 by rw [NC.out, HB1.out, HB2.out]; simp [h1, h2])
        clear h1 h2
        refine wp_region_held_drew (S := fun W => PS w g A1 n1 c1 (flat 0 t1) A2 n2 c2 (flat 0 t2) A3 T W ∧ Below wr.heap.size wr W) (by kernel_rfl) ⟨SR3.out.drew, bl_drewN BR3.out 1⟩ (fun hHeld => ?_)
        try simp only [List.getElem_toArray, List.getElem_cons_zero, List.getElem_cons_succ, Act.put, List.setIfInBounds_toArray, List.set_cons_zero, List.set_cons_succ]
        refine wpAnyH_take (i := 0) (v := ?vzc10) rfl (by kernel_rfl) (by kernel_rfl) (by kernel_rfl) (fun _ _ _ h => h) (Or.inl ⟨by rfl, ?yzc10⟩) hHeld ?rzc10
        case yzc10 => (intro wS hSw; have q1 := hSw.1.q1; clear hSw; go_simp; try (with_reducible rfl))
        try simp only [List.getElem_toArray, List.getElem_cons_zero, List.getElem_cons_succ, Act.put, List.setIfInBounds_toArray, List.set_cons_zero, List.set_cons_succ]
        refine wpAnyH_take (i := 2) (v := ?vzc12) rfl (by kernel_rfl) (by kernel_rfl) (by kernel_rfl) (fun _ _ _ h => h) (Or.inl ⟨by rfl, ?yzc12⟩) hHeld ?rzc12
        case yzc12 => (intro wS hSw; clear hSw; go_simp; try (with_reducible rfl))
        try simp only [List.getElem_toArray, List.getElem_cons_zero, List.getElem_cons_succ, Act.put, List.setIfInBounds_toArray, List.set_cons_zero, List.set_cons_succ]
        refine wpAnyH_take (i := 3) (v := ?vzc13) rfl (by kernel_rfl) (by kernel_rfl) (by kernel_rfl) (fun _ _ _ h => h) (Or.inl ⟨by rfl, ?yzc13⟩) hHeld ?rzc13
        case yzc13 => (intro wS hSw; clear hSw; go_simp; try (with_reducible rfl))
        try simp only [List.getElem_toArray, List.getElem_cons_zero, List.getElem_cons_succ, Act.put, List.setIfInBounds_toArray, List.set_cons_zero, List.set_cons_succ]
        refine wpAnyH_take (i := 4) (v := ?vzc14) rfl (by kernel_rfl) (by kernel_rfl) (by kernel_rfl) (fun _ _ _ h => h) (Or.inl ⟨by rfl, ?yzc14⟩) hHeld ?rzc14
        case yzc14 => (intro wS hSw; clear hSw; go_simp; try (with_reducible rfl))
        try simp only [List.getElem_toArray, List.getElem_cons_zero, List.getElem_cons_succ, Act.put, List.setIfInBounds_toArray, List.set_cons_zero, List.set_cons_succ]
        refine wpAnyH_ready (rs := [1]) (by kernel_rfl) (by simp) (AllReadyH.cons rfl (fun K hK => ?_) AllReadyH.nil)
        try rw [if_pos (by rfl)]
        go_simp
        go_at_call 24
        refine (over_star_any t1 A1 n1 c1 HN1.out (by omega) _ hHeld.1.r1).mono ?_
        rintro e x3 ⟨v, rfl, ho, hb⟩
        obtain ⟨A, n, c, rfl, HL, hc, hm, hr⟩ := ho.form
        have HR := Lib.hid hr
        clear ho hr
        have hS1 := And.intro (hHeld.1.then hb) (bl_trans hHeld.2 hb)
        clear hHeld hb
        go_wp2_with fail
        refine hK.out _ _ hS1 (fun hHeld => ?_)
        clear hK K hS1
        try simp only [List.getElem_toArray, List.getElem_cons_zero, List.getElem_cons_succ, Act.put, List.setIfInBounds_toArray, List.set_cons_zero, List.set_cons_succ]
        refine wpAnyH_ready (rs := [5]) (by kernel_rfl) (by simp) (AllReadyH.cons rfl (fun K hK => ?_) AllReadyH.nil)
        try rw [if_pos (by rfl)]
        go_simp
        go_at_call 18
        refine (takes_tree (.star t1) (by simp only [Rx.size]; omega) A n c HL.out hc A' (m - k) (c3 - k) (T.drop k) LD.out (by omega) _ hHeld.1.tab HR.out (HRB.out.below hHeld.2)).mono ?_
        rw [HB3.out]
        rintro e x4 ⟨rfl, hb⟩
        have hS1 := And.intro (hHeld.1.then hb) (bl_trans hHeld.2 hb)
        clear hHeld hb
        go_wp2_with fail
        refine hK.out _ _ hS1 (fun hHeld => ?_)
        clear hK K hS1
        try simp only [List.getElem_toArray, List.getElem_cons_zero, List.getElem_cons_succ, Act.put, List.setIfInBounds_toArray, List.set_cons_zero, List.set_cons_succ]
        refine wpAnyH_take (i := 6) (v := ?vzc16) rfl (by kernel_rfl) (by kernel_rfl) (by kernel_rfl) (fun _ _ _ h => h) (Or.inl ⟨by rfl, ?yzc16⟩) hHeld ?rzc16
        case yzc16 => (intro wS hSw; clear hSw; go_simp; try (with_reducible rfl))
        try simp only [List.getElem_toArray, List.getElem_cons_zero, List.getElem_cons_succ, Act.put, List.setIfInBounds_toArray, List.set_cons_zero, List.set_cons_succ]
        refine wpAnyH_take (i := 7) (v := ?vzc17) rfl (by kernel_rfl) (by kernel_rfl) (by kernel_rfl) (fun _ _ _ h => h) (Or.inl ⟨by rfl, ?yzc17⟩) hHeld ?rzc17
        case yzc17 => (intro wS hSw; clear hSw; go_simp; try (with_reducible rfl))
        try simp only [List.getElem_toArray, List.getElem_cons_zero, List.getElem_cons_succ, Act.put, List.setIfInBounds_toArray, List.set_cons_zero, List.set_cons_succ]
        refine wpAnyH_take (i := 8) (v := ?vzc18) rfl (by kernel_rfl) (by kernel_rfl) (by kernel_rfl) (fun _ _ _ h => h) (Or.inl ⟨by rfl, ?yzc18⟩) hHeld ?rzc18
        case yzc18 => (intro wS hSw; clear hSw; go_simp; try (with_reducible rfl))
        try simp only [List.getElem_toArray, List.getElem_cons_zero, List.getElem_cons_succ, Act.put, List.setIfInBounds_toArray, List.set_cons_zero, List.set_cons_succ]
        refine wpAnyH_take (i := 9) (v := ?vzc19) rfl (by kernel_rfl) (by kernel_rfl) (by kernel_rfl) (fun _ _ _ h => h) (Or.inl ⟨by rfl, ?yzc19⟩) hHeld ?rzc19
        case yzc19 => (intro wS hSw; clear hSw; go_simp; try (with_reducible rfl))
        try simp only [List.getElem_toArray, List.getElem_cons_zero, List.getElem_cons_succ, Act.put, List.setIfInBounds_toArray, List.set_cons_zero, List.set_cons_succ]
        refine wpAnyH_take (i := 10) (v := ?vzc110) rfl (by kernel_rfl) (by kernel_rfl) (by kernel_rfl) (fun _ _ _ h => h) (Or.inl ⟨by rfl, ?yzc110⟩) hHeld ?rzc110
        case yzc110 => (intro wS hSw; clear hSw; go_simp; try (with_reducible rfl))
        try simp only [List.getElem_toArray, List.getElem_cons_zero, List.getElem_cons_succ, Act.put, List.setIfInBounds_toArray, List.set_cons_zero, List.set_cons_succ]
        refine wpAnyH_done (by kernel_rfl) ?_ _
        have SR4 := Lib.hid hHeld.1
        have BR4 := Lib.hid hHeld.2
        clear hHeld
        clear SR3 BR3
        go_wp2_with fail
        all_goals (try go_wp2_with fail)
        all_goals refine ⟨⟨k + 1, by omega, by rw [E1.out], by rw [NM.out, HB1.out, HB3.out]; first | (simp [*]; done) | (have hk0 : 0 < k := (by omega); simp [*]; done) | (have hk0 : k = 0 := (by omega); simp [*]; done), by go_num, SR4⟩, by simp [intOf]; omega⟩
      · have h1 : ¬cutK t1 t2 T k = true := by assumption
        have h2 : ¬b1 = true := by assumption
        have E1 := Lib.hid (show cutK t1 t2 T (k + 1) = false by rw [NC.out, HB1.out, HB2.out]; simp [h1, h2])
        clear h1 h2
        refine wp_region_held_drew (S := fun W => PS w g A1 n1 c1 (flat 0 t1) A2 n2 c2 (flat 0 t2) A3 T W ∧ Below wr.heap.size wr W) (by kernel_rfl) ⟨SR3.out.drew, bl_drewN BR3.out 1⟩ (fun hHeld => ?_)
        try simp only [List.getElem_toArray, List.getElem_cons_zero, List.getElem_cons_succ, Act.put, List.setIfInBounds_toArray, List.set_cons_zero, List.set_cons_succ]
        refine wpAnyH_take (i := 0) (v := ?vzc20) rfl (by kernel_rfl) (by kernel_rfl) (by kernel_rfl) (fun _ _ _ h => h) (Or.inl ⟨by rfl, ?yzc20⟩) hHeld ?rzc20
        case yzc20 => (intro wS hSw; have q1 := hSw.1.q1; clear hSw; go_simp; try (with_reducible rfl))
        try simp only [List.getElem_toArray, List.getElem_cons_zero, List.getElem_cons_succ, Act.put, List.setIfInBounds_toArray, List.set_cons_zero, List.set_cons_succ]
        refine wpAnyH_take (i := 2) (v := ?vzc22) rfl (by kernel_rfl) (by kernel_rfl) (by kernel_rfl) (fun _ _ _ h => h) (Or.inl ⟨by rfl, ?yzc22⟩) hHeld ?rzc22
        case yzc22 => (intro wS hSw; clear hSw; go_simp; try (with_reducible rfl))
        try simp only [List.getElem_toArray, List.getElem_cons_zero, List.getElem_cons_succ, Act.put, List.setIfInBounds_toArray, List.set_cons_zero, List.set_cons_succ]
        refine wpAnyH_take (i := 3) (v := ?vzc23) rfl (by kernel_rfl) (by kernel_rfl) (by kernel_rfl) (fun _ _ _ h => h) (Or.inl ⟨by rfl, ?yzc23⟩) hHeld ?rzc23
        case yzc23 => (intro wS hSw; clear hSw; go_simp; try (with_reducible rfl))
        try simp only [List.getElem_toArray, List.getElem_cons_zero, List.getElem_cons_succ, Act.put, List.setIfInBounds_toArray, List.set_cons_zero, List.set_cons_succ]
        refine wpAnyH_take (i := 4) (v := ?vzc24) rfl (by kernel_rfl) (by kernel_rfl) (by kernel_rfl) (fun _ _ _ h => h) (Or.inl ⟨by rfl, ?yzc24⟩) hHeld ?rzc24
        case yzc24 => (intro wS hSw; clear hSw; go_simp; try (with_reducible rfl))
        try simp only [List.getElem_toArray, List.getElem_cons_zero, List.getElem_cons_succ, Act.put, List.setIfInBounds_toArray, List.set_cons_zero, List.set_cons_succ]
        refine wpAnyH_ready (rs := [1]) (by kernel_rfl) (by simp) (AllReadyH.cons rfl (fun K hK => ?_) AllReadyH.nil)
        try rw [if_pos (by rfl)]
        go_simp
        go_at_call 24
        refine (over_star_any t1 A1 n1 c1 HN1.out (by omega) _ hHeld.1.r1).mono ?_
        rintro e x3 ⟨v, rfl, ho, hb⟩
        obtain ⟨A, n, c, rfl, HL, hc, hm, hr⟩ := ho.form
        have HR := Lib.hid hr
        clear ho hr
        have hS1 := And.intro (hHeld.1.then hb) (bl_trans hHeld.2 hb)
        clear hHeld hb
        go_wp2_with fail
        refine hK.out _ _ hS1 (fun hHeld => ?_)
        clear hK K hS1
        try simp only [List.getElem_toArray, List.getElem_cons_zero, List.getElem_cons_succ, Act.put, List.setIfInBounds_toArray, List.set_cons_zero, List.set_cons_succ]
        refine wpAnyH_ready (rs := [5]) (by kernel_rfl) (by simp) (AllReadyH.cons rfl (fun K hK => ?_) AllReadyH.nil)
        try rw [if_pos (by rfl)]
        go_simp
        go_at_call 18
        refine (takes_tree (.star t1) (by simp only [Rx.size]; omega) A n c HL.out hc A' (m - k) (c3 - k) (T.drop k) LD.out (by omega) _ hHeld.1.tab HR.out (HRB.out.below hHeld.2)).mono ?_
        rw [HB3.out]
        rintro e x4 ⟨rfl, hb⟩
        have hS1 := And.intro (hHeld.1.then hb) (bl_trans hHeld.2 hb)
        clear hHeld hb
        go_wp2_with fail
        refine hK.out _ _ hS1 (fun hHeld => ?_)
        clear hK K hS1
        try simp only [List.getElem_toArray, List.getElem_cons_zero, List.getElem_cons_succ, Act.put, List.setIfInBounds_toArray, List.set_cons_zero, List.set_cons_succ]
        refine wpAnyH_take (i := 6) (v := ?vzc26) rfl (by kernel_rfl) (by kernel_rfl) (by kernel_rfl) (fun _ _ _ h => h) (Or.inl ⟨by rfl, ?yzc26⟩) hHeld ?rzc26
        case yzc26 => (intro wS hSw; clear hSw; go_simp; try (with_reducible rfl))
        try simp only [List.getElem_toArray, List.getElem_cons_zero, List.getElem_cons_succ, Act.put, List.setIfInBounds_toArray, List.set_cons_zero, List.set_cons_succ]
        refine wpAnyH_take (i := 7) (v := ?vzc27) rfl (by kernel_rfl) (by kernel_rfl) (by kernel_rfl) (fun _ _ _ h => h) (Or.inl ⟨by rfl, ?yzc27⟩) hHeld ?rzc27
        case yzc27 => (intro wS hSw; clear hSw; go_simp; try (with_reducible rfl))
        try simp only [List.getElem_toArray, List.getElem_cons_zero, List.getElem_cons_succ, Act.put, List.setIfInBounds_toArray, List.set_cons_zero, List.set_cons_succ]
        refine wpAnyH_take (i := 8) (v := ?vzc28) rfl (by kernel_rfl) (by kernel_rfl) (by kernel_rfl) (fun _ _ _ h => h) (Or.inl ⟨by rfl, ?yzc28⟩) hHeld ?rzc28
        case yzc28 => (intro wS hSw; clear hSw; go_simp; try (with_reducible rfl))
        try simp only [List.getElem_toArray, List.getElem_cons_zero, List.getElem_cons_succ, Act.put, List.setIfInBounds_toArray, List.set_cons_zero, List.set_cons_succ]
        refine wpAnyH_take (i := 9) (v := ?vzc29) rfl (by kernel_rfl) (by kernel_rfl) (by kernel_rfl) (fun _ _ _ h => h) (Or.inl ⟨by rfl, ?yzc29⟩) hHeld ?rzc29
        case yzc29 => (intro wS hSw; clear hSw; go_simp; try (with_reducible rfl))
        try simp only [List.getElem_toArray, List.getElem_cons_zero, List.getElem_cons_succ, Act.put, List.setIfInBounds_toArray, List.set_cons_zero, List.set_cons_succ]
        refine wpAnyH_take (i := 10) (v := ?vzc210) rfl (by kernel_rfl) (by kernel_rfl) (by kernel_rfl) (fun _ _ _ h => h) (Or.inl ⟨by rfl, ?yzc210⟩) hHeld ?rzc210
        case yzc210 => (intro wS hSw; clear hSw; go_simp; try (with_reducible rfl))
        try simp only [List.getElem_toArray, List.getElem_cons_zero, List.getElem_cons_succ, Act.put, List.setIfInBounds_toArray, List.set_cons_zero, List.set_cons_succ]
        refine wpAnyH_done (by kernel_rfl) ?_ _
        have SR4 := Lib.hid hHeld.1
        have BR4 := Lib.hid hHeld.2
        clear hHeld
        clear SR3 BR3
        go_wp2_with fail
        all_goals (try go_wp2_with fail)
        all_goals refine ⟨⟨k + 1, by omega, by rw [E1.out], by rw [NM.out, HB1.out, HB3.out]; first | (simp [*]; done) | (have hk0 : 0 < k := (by omega); simp [*]; done) | (have hk0 : k = 0 := (by omega); simp [*]; done), by go_num, SR4⟩, by simp [intOf]; omega⟩
    · obtain rfl : k = m + 1 := by omega
      have hnl := nil_all (flat 0 t1) A1 n1 c1 HN1.out wr SR.out.tab SR.out.r1 hc1
      rw [takes_tk t1 [] (by omega) (by simp)] at hnl
      have HNL := Lib.hid hnl
      clear hnl
      have q1 := SR.out.q1
      rw [HBC.out, HBM.out]
      generalize tk t1 [] = bn at *
      go_wp2_with fail
      refine HNL.out.mono ?_
      rintro e wz ⟨rfl, hb⟩
      have SZ := Lib.hid (SR.out.then hb)
      clear hb SR q1 HNL
      go_wp2_with fail
      all_goals first | exact post_is HQ ⟨rfl, SZ.out.below⟩ | (rw [show (decide (0 < m) || bn) = true by rw [decide_eq_true (by omega : 0 < m)]; rfl]; exact post_is HQ ⟨rfl, SZ.out.below⟩)

theorem laid_met (os : Os) : laidMet Tryd.prog laidL ((laidWorld os).forCall (fun _ _ => 0) ⟨#[], #[.agg #[.slice none 0 0], .agg #[.slice none 0 0], .slice none 0 0], []⟩).memory :=
  laidMet_of_run' 8 (by kernel_rfl) (by kernel_rfl)
theorem reads (os : Os) {H : Type} (enc : TypeId × Value → H) : ∃ places, DataW.whole enc Tryd.prog ((laidWorld os).forCall (fun _ _ => 0) ⟨#[], #[.agg #[.slice none 0 0], .agg #[.slice none 0 0], .slice none 0 0], []⟩).memory Tryd.f7.params.toList Rows.regexPartsSpec.vars false (#[.agg #[.slice none 0 0], .agg #[.slice none 0 0], .slice none 0 0] : Array Value).toList 8 = some ([.agg [.nil], .agg [.nil], .nil], [], places) :=
  ⟨[], by kernel_rfl⟩
set_option maxRecDepth 100000 in
theorem RegexParts_said : Rows.RegexPartsSaid :=
  OpenClaim.holds_of_cond 7 Tryd.f7 rfl rfl rfl rfl rfl rfl rfl ⟨rfl, rfl, rfl, rfl, rfl⟩ rfl rfl rfl rfl rfl (by kernel_rfl) Tryd.func7 (by kernel_rfl)
    (of_decide_eq_true (by kernel_rfl)) (by unfold Func.isWrapper; first | (rw [if_pos (by decide +kernel)]; kernel_rfl) | (rw [if_neg (by decide +kernel)]; exact ⟨rfl, rfl⟩))
    (fun os started H enc _ F => by
      rw [OpenClaim.pre_eq_preRow]
      obtain ⟨places, hx⟩ := reads os enc
      exact law_lifted_laid (s := Rows.regexPartsSpec) (conds := Rows.regexPartsRow.domain) Tryd.func7 (by kernel_rfl) rfl
        (fun H ds h => by rw [Tryd.params7] at h; match ds, h with | [_, _, _], _ => rfl) (by kernel_rfl) (by kernel_rfl) os started H enc F
        (witness_row_at (enc := enc) (C := Tryd.checked) false (laidWorld os) #[.agg #[.slice none 0 0], .agg #[.slice none 0 0], .slice none 0 0] rfl (by kernel_rfl) (by kernel_rfl) (by kernel_rfl)
          (OpenSpec.preRow_of_cond 8 hx (by kernel_rfl) (fun k hk => by cases hk) (by kernel_rfl) (laid_met os)))
        (fun W args ds p h hT => by
          obtain ⟨⟨base, hok⟩, hA, hl⟩ := h
          rw [Tryd.params7] at hok hA hl
          obtain ⟨v0, v1, v2, d0, d1, d2, p0, p1, p2, rfl, rfl, rfl, g0, g1, g2⟩ := trodAll_three hA
          obtain ⟨A0, n0, c0, l0, rfl, e0, a0, b0, r0⟩ := open_rex (hok 0 24 v0 rfl rfl) g0 (hl 0 24 d0 rfl rfl)
          obtain ⟨A1, n1, c1, l1, rfl, e1, a1, b1, r1⟩ := open_rex (hok 1 24 v1 rfl rfl) g1 (hl 1 24 d1 rfl rfl)
          obtain ⟨A2, n2, c2, l2, rfl, e2, a2, b2, r2⟩ := open_bytes (hok 2 35 v2 rfl rfl) g2 (hl 2 35 d2 rfl rfl)
          exact parts_walk l0 l1 l2 A0 A1 A2 n0 c0 n1 c1 n2 c2 e0 e1 e2 a0 a1 a2 b0 b1 b2 W hT r0 r1 r2))

theorem plain_params (f : FuncId) (fn : Func) (hf : Tryd.pinned.checked.prog.funcNamed "incunable/incunablelaw09.RegexParts" = some f) (hfn : Tryd.pinned.checked.prog.funcs[f]? = some fn) :
    true = Tryd.pinned.checked.prog.looks [] ∧ ∀ (j : Nat) t, fn.params[j]? = some t → Tryd.pinned.checked.prog.wantsStandIn t = false := by
  obtain rfl : f = 7 := Option.some.inj ((show Tryd.prog.funcNamed "incunable/incunablelaw09.RegexParts" = some 7 by kernel_rfl).symm.trans hf) |>.symm
  obtain rfl : fn = Tryd.f7 := (Option.some.inj (Tryd.func7.symm.trans hfn)).symm
  refine ⟨by kernel_rfl, fun j t ht => ?_⟩
  rw [Tryd.params7] at ht
  have hm : t ∈ [24, 24, 35] := by simpa using Array.mem_of_getElem? ht
  have hall : ([24, 24, 35].all fun u => !Tryd.prog.wantsStandIn u) = true := by kernel_rfl
  exact (show Tryd.prog.wantsStandIn t = false by simpa using List.all_eq_true.1 hall t hm)

/-- The card. -/
theorem RegexPartsCard_holds : Rows.RegexPartsCardSaid :=
  Claim7.holds_tied_plain_at .later [] _ _ _ _ RegexParts_said (fun _ h => by cases h) (by kernel_rfl) (fun _ h => by cases h) regexParts_row_tie rfl ⟨rfl, rfl⟩ (by kernel_rfl) rfl plain_params (by kernel_rfl)

end Go.Proofs.YteedmkokbapkgaaDoor
