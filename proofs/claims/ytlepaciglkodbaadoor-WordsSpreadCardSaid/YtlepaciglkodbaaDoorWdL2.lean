/- Words of the grammar language: what is put in between changes nothing but places: the walk. No condition. -/
import Derived.Test.YtlepaciglkodbaaDoorWdL
set_option linter.unusedVariables false
set_option linter.unusedSimpArgs false
namespace Go.Proofs.YtlepaciglkodbaaDoor
open Go.RowKit

set_option maxRecDepth 20000 in
set_option maxHeartbeats 2000000 in
theorem spread_walk (A : Option Addr) (n c : Nat) (b0 : List UInt8) (z z2 : Int) (w : World) (hT : Tab w) (hl0 : b0.length = n) (hnc : n ≤ c) (hcm : c ≤ 140737488351232) (hr0 : Rd w A b0) (hz1 : -9223372036854775808 ≤ z) (hz2 : z ≤ 9223372036854775807) (hy1 : -9223372036854775808 ≤ z2) (hy2 : z2 ≤ 9223372036854775807) : Calls Tryd.prog 8 #[.slice A n c, .int .i64 z, .int .i64 z2] w (Yes w) := by
  generalize hQ : Yes w = Q
  have HQ := Lib.hid hQ
  obtain ⟨m, HMIN, hm1, hm2, hmin⟩ := min_lit n 7000 7000 rfl
  have hct := cut_to A n c m hm1 hnc (m : Int) rfl
  have hr := hr0.take m
  have hl : (b0.take m).length = m := by rw [List.length_take]; omega
  have hcut := cut_any A m c (b0.take m) w hl hr (by unfold maxLen; omega) hT
  have HR0 := Lib.hid hr0
  have HL0 := Lib.hid hl0
  clear hQ hr hr0
  by_cases hgo : ∃ l, cutE (b0.take m) = .ok l ∧ l ≠ []
  · obtain ⟨l, hok, hne⟩ := hgo
    have ha : ansE (b0.take m) = (l, 0, 0) := by unfold ansE; rw [if_neg (by omega), hok]
    have hl1 : 0 < l.length := List.length_pos_iff.2 hne
    rw [ha] at hcut
    have HOK := Lib.hid hok
    clear ha hok hne
    go_enter Tryd.func8, Tryd.ntmps8
    go_wp2_with fail
    refine hcut.mono ?_
    rintro e w1 ⟨v, rfl, ho, hb1⟩
    obtain ⟨At, k, ct, rfl, HK, h1, h2, hrt⟩ := ho.shape
    have hlk : l.length = k := HK.out
    have hk0 : ((k : Int) == 0) = false := by simp; omega
    obtain ⟨j, hj, HJ⟩ := bring_to z k (k : Int) rfl hz1 hz2 (by omega) (by unfold maxLen at h2; omega)
    obtain ⟨j2, hj2, HJ2⟩ := bring_to z2 5 5 rfl hy1 hy2 (by omega) (by omega)
    have hjl : j < l.length := by omega
    obtain ⟨ad, hA, q0, q1, q2⟩ := hrt j hjl
    subst hA
    obtain ⟨o1, o2, o3⟩ := word_at HOK.out j hjl
    rw [hl] at o2
    obtain ⟨l', hsp, hkd⟩ := spread_cut HOK.out j hjl (sepE j2) (sep_gap j2) (sep_ne j2)
    have hT1 := hT.below hb1
    have HB1 := Lib.hid hb1
    have HRT := Lib.hid hrt
    have hk8 : k ≤ 1000000 := by
      have h9 := cut_few HOK.out
      omega
    unfold nv at *
    have hw4 : l[j].to ≤ n := by omega
    generalize l[j].kind = x at *
    generalize hy : l[j].from' = y at *
    generalize hzz : l[j].to = zt at *
    have hct2 := cut_to A n c zt hw4 hnc (zt : Int) rfl
    have by1 : decide ((zt : Int) < 0) = false := by simp
    have by2 : decide (n < zt) = false := by simp; omega
    have e1 : (b0.take m).take zt = b0.take zt := by rw [List.take_take, Nat.min_eq_left o2]
    rw [e1] at hsp
    have htl : (b0.take zt).length = zt := by rw [List.length_take]; omega
    have hans : ansE (b0.take zt ++ sepE j2 ++ (b0.take m).drop zt) = (l', 0, 0) := by
      unfold ansE
      have := sep_len j2
      rw [if_neg (by simp only [List.length_append, List.length_drop, hl, htl]; omega), hsp]
    have HANS := Lib.hid hans
    have HKD := Lib.hid hkd
    have HTL := Lib.hid htl
    have hsl := sep_len j2
    have HR1 := Lib.hid (HR0.out.below hb1)
    have HBA := Lib.hid (bl_alloc (Below.refl w1.heap.size w1) (.cells #[.int .i64 (x : Int), .int .i64 (y : Int), .int .i64 (zt : Int)] 36))
    have t2 : (w1.alloc (.cells #[.int .i64 (x : Int), .int .i64 (y : Int), .int .i64 (zt : Int)] 36)).cell? ⟨w1.heap.size, 2, none⟩ = some (.int .i64 (zt : Int)) := agg3 w1 _ _ _ 2 (by omega)
    have T2 := Lib.hid t2
    clear ho hrt hcut hsp hans hkd o1 o3 hy e1 htl hb1 t2 hlk hl1
    go_wp2_with fail
    refine (HJ.out _).mono ?_
    rintro e w' ⟨rfl, hw'⟩
    subst hw'
    go_wp2_with (at_builtin; refine wpList_append_bytes _ rfl _ _ rfl w1.heap.size _ [] rfl (Own.nil _ _) A zt c (b0.take zt) rfl HTL.out ((HR1.out.below HBA.out).take zt) (by simp [HTL.out]; omega) (by have := HBA.out.size; exact this) ?_)
    intro v1 w2 ho2 hg2 hvb
    have hvb : v1.ownBlock ≠ some w1.heap.size := by
      rcases hvb with e | e <;> rw [e] <;> simp [Value.ownBlock]
    have HVB := Lib.hid hvb
    have hb2 := bl_grown HBA.out hg2 (by simp [Value.ownBlock])
    have hT2 := hT1.below hb2
    have t22 : w2.cell? ⟨w1.heap.size, 2, none⟩ = some (.int .i64 (zt : Int)) := hg2.cell T2.out (by simp [Value.ownBlock])
    have hsc := sep_cells w2 9 j2 hj2
    have HO2 := Lib.hid ho2
    have HB2 := Lib.hid (bl_alloc hb2 (.cells #[.string ⟨#[32]⟩, .string ⟨#[10, 10]⟩, .string ⟨#[9]⟩, .string ⟨#[35, 32, 114, 101, 109, 97, 114, 107, 32, 59, 10]⟩, .string ⟨#[13]⟩] 9))
    have T22 := Lib.hid (show (w2.alloc (.cells #[.string ⟨#[32]⟩, .string ⟨#[10, 10]⟩, .string ⟨#[9]⟩, .string ⟨#[35, 32, 114, 101, 109, 97, 114, 107, 32, 59, 10]⟩, .string ⟨#[13]⟩] 9)).cell? ⟨w1.heap.size, 2, none⟩ = some (.int .i64 (zt : Int)) from (World.cell?_alloc_lt _ _ _ (World.block_lt_of_cell? _ _ t22)).trans t22)
    clear ho2 hg2 hb2 t22 hvb
    go_wp2_with fail
    refine (HJ2.out _).mono ?_
    rintro e w' ⟨rfl, hw'⟩
    subst hw'
    have HO3 := Lib.hid (HO2.out.alloc (.cells #[.string ⟨#[32]⟩, .string ⟨#[10, 10]⟩, .string ⟨#[9]⟩, .string ⟨#[35, 32, 114, 101, 109, 97, 114, 107, 32, 59, 10]⟩, .string ⟨#[13]⟩] 9))
    generalize sepE j2 = sp at *
    go_wp2_with (at_builtin; refine wpList_append_str _ rfl _ _ rfl w1.heap.size v1 (b0.take zt) rfl HO3.out sp rfl (by rw [HTL.out]; omega) HB2.out.size ?_)
    intro v3 w3 ho3 hg3
    have hb3 := bl_grown HB2.out hg3 (fun k hk => (World.ownsRow.lt HO3.out k hk).1)
    have t23 : w3.cell? ⟨w1.heap.size, 2, none⟩ = some (.int .i64 (zt : Int)) := hg3.cell T22.out (fun e => HVB.out e.symm)
    obtain ⟨A', hcm3, hrd', hlen'⟩ := cut_mid A n c zt (m - zt) b0 _ HL0.out (HR1.out.below hb3) (by omega) hnc (zt : Int) (m : Int) rfl (by omega)
    rw [show zt + (m - zt) = m by omega] at hrd' hlen'
    have HO4 := Lib.hid ho3
    have HB3 := Lib.hid hb3
    have HRD := Lib.hid hrd'
    have HLE := Lib.hid hlen'.out
    have hlen2 : (b0.take zt ++ sp).length + ((b0.take m).drop zt).length ≤ 100000 := by rw [List.length_append, HLE.out, HTL.out]; omega
    have HLEN := Lib.hid hlen2
    have hT3 := hT1.below hb3
    clear ho3 hg3 hb3 hrd' hlen' hlen2
    generalize hpre : b0.take zt ++ sp = pre at *
    generalize hpost : (b0.take m).drop zt = post at *
    have HPRE := Lib.hid hpre
    have HPOST := Lib.hid hpost
    clear hpre hpost hsc
    generalize hdz : m - zt = dz at *
    have HDZ := Lib.hid hdz
    clear hdz
    go_wp2_with (at_builtin; refine wpList_append_bytes _ rfl _ _ rfl w1.heap.size v3 pre rfl HO4.out A' dz (c - zt) post rfl HLE.out HRD.out (by have := HLEN.out; omega) HB3.out.size ?_)
    intro v4 w4 ho4 hg4 _
    have hb4 := bl_grown HB3.out hg4 (fun k hk => (World.ownsRow.lt HO4.out k hk).1)
    have hT4 := hT1.below hb4
    obtain ⟨A4, n4, c4, rfl, HN4, g1, g2, hrd4⟩ := ho4.form
    have hcut2 := cut_any A4 n4 c4 (pre ++ post) w4 HN4.out hrd4 (by omega) hT4
    rw [HANS.out] at hcut2
    have HC2 := Lib.hid hcut2
    have HB4 := Lib.hid hb4
    clear ho4 hg4 hb4 hcut2 hrd4 hT3 hT4
    go_wp2_with fail
    refine HC2.out.mono ?_
    rintro e w5 ⟨v5, rfl, ho5, hb5⟩
    obtain ⟨A5, k5, c5, rfl, HK5, f1, f2, hrt5⟩ := ho5.shape
    have HB5 := Lib.hid (bl_trans HB4.out hb5)
    have hk5 : k5 = k := by
      have e1 : l'.length = k5 := HK5.out
      have e2 := congrArg List.length HKD.out
      simp only [List.length_map] at e2
      have e3 : l.length = k := HK.out
      omega
    have hr0t := HRT.out.below HB5.out
    have hT5 := hT1.below HB5.out
    subst hk5
    have hkn1 := fun W hr => kinds_any (some ad) k5 ct l W HK.out hr hk8
    have hkn2 := fun W hr => kinds_any A5 k5 c5 l' W HK5.out hr hk8
    rw [HKD.out] at hkn2
    have HRT5 := Lib.hid hrt5
    have HR0T := Lib.hid hr0t
    generalize hkk : l.map (·.kind) = kk at *
    have HKK := Lib.hid hkk
    clear ho5 hb5 hrt5 hr0t hkk
    go_wp2_with fail
    refine (hkn1 _ HR0T.out).mono ?_
    rintro e w6 ⟨v6, rfl, ho6, hb6⟩
    have hr6 := HRT5.out.below hb6
    have HB6 := Lib.hid (bl_trans HB5.out hb6)
    have HO6 := Lib.hid ho6
    clear ho6
    obtain ⟨A6, k6, c6, rfl, HK6, _, hc6, hi6⟩ := HO6.out.shape
    go_wp2_with fail
    refine (hkn2 _ hr6).mono ?_
    rintro e w7 ⟨v7, rfl, ho7, hb7⟩
    obtain ⟨A7, k7, c7, rfl, HK7, _, hc7, hi7⟩ := ho7.shape
    have HB7 := Lib.hid (bl_trans HB6.out hb7)
    have hi67 := hi6.below hb7
    have hk67 : kk.length ≤ 1000000 := by
      have e3 : l.length = k5 := HK.out
      rw [← HKK.out, List.length_map]; omega
    have e6 : kk.length = k6 := HK6.out
    have e7 : kk.length = k7 := HK7.out
    have heq := fun W r1 r2 => eqInts_any A6 A7 k6 c6 k7 c7 kk kk W e6 e7 r1 r2 (by omega) (by omega)
    rw [decide_eq_true rfl] at heq
    have HI67 := Lib.hid hi67
    have HI7 := Lib.hid hi7
    clear ho7 hi6 hi7 hi67 hb6 hb7 hr6 e6 e7
    go_wp2_with fail
    refine (heq _ HI67.out HI7.out).mono ?_
    rintro e w8 ⟨rfl, hb8⟩
    have HB8 := Lib.hid (bl_trans HB7.out hb8)
    have hT8 := hT1.below HB8.out
    clear hb8
    go_wp2_with fail
    refine (awake_any _ hT8).mono ?_
    rintro e w9 ⟨rfl, hb9⟩
    go_wp2_with fail
    exact post_is HQ ⟨rfl, bl_trans (bl_trans HB1.out HB8.out) hb9⟩
  · have hcases : (∃ p, ansE (b0.take m) = ([], p, 140)) ∨ ansE (b0.take m) = ([], 0, 0) := by
      unfold ansE
      rw [if_neg (by omega)]
      cases hc : cutE (b0.take m) with
      | bad p => exact Or.inl ⟨p, rfl⟩
      | ok l =>
        cases l with
        | nil => exact Or.inr rfl
        | cons x l => exact absurd ⟨_, hc, by simp⟩ hgo
    clear hgo
    rcases hcases with ⟨p, ha⟩ | ha
    · rw [ha] at hcut
      clear ha
      go_enter Tryd.func8, Tryd.ntmps8
      go_wp2_with fail
      refine hcut.mono ?_
      rintro e w1 ⟨v, rfl, ho, hb1⟩
      obtain ⟨At, k, ct, rfl, HK, h1, h2, hrt⟩ := ho.shape
      obtain rfl : k = 0 := HK.out.symm
      have hT1 := hT.below hb1
      clear ho hrt
      go_wp2_with fail
      refine (awake_any _ hT1).mono ?_
      rintro e2 w2 ⟨rfl, hb2⟩
      go_wp2_with fail
      exact post_is HQ ⟨rfl, bl_trans hb1 hb2⟩
    · rw [ha] at hcut
      clear ha
      go_enter Tryd.func8, Tryd.ntmps8
      go_wp2_with fail
      refine hcut.mono ?_
      rintro e w1 ⟨v, rfl, ho, hb1⟩
      obtain ⟨At, k, ct, rfl, HK, h1, h2, hrt⟩ := ho.shape
      obtain rfl : k = 0 := HK.out.symm
      have hT1 := hT.below hb1
      clear ho hrt
      go_wp2_with fail
      refine (awake_any _ hT1).mono ?_
      rintro e2 w2 ⟨rfl, hb2⟩
      go_wp2_with fail
      exact post_is HQ ⟨rfl, bl_trans hb1 hb2⟩


end Go.Proofs.YtlepaciglkodbaaDoor
