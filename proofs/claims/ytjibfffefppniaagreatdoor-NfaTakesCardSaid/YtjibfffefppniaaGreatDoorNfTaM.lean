/- The law on who is told: the walk. -/
import Derived.Test.YtjibfffefppniaaGreatDoorNfOrM
import Derived.Test.YtjibfffefppniaaGreatDoorRgYM
set_option linter.unusedVariables false
set_option linter.unusedSimpArgs false
namespace Go.Proofs.YtjibfffefppniaaGreatDoor
open Go.RowKit
attribute [local go_sem] Oper.semAt_some

theorem takes_tkN (t : Rx) (w : List UInt8) (hs : t.size ≤ 256) (hw : w.length ≤ 8192) : takesE (flat 0 t) w = (tkN t w, 0) := by
  rw [takesE, show checkE (flat 0 t) = 0 from by rw [checkE, if_neg (by rw [flat_len]; omega), if_pos (tree_of_flat t)], if_neg (by simp), if_neg (by omega), takesL_flat]
  congr 1
  rw [Bool.eq_iff_iff, takes_flat t hs, tkN_iff]
set_option maxHeartbeats 16000000 in
set_option maxRecDepth 20000 in
theorem takes_walk (A0 At : Option Addr) (n0 c0 nt ct : Nat) (La : List (List RN)) (T : List UInt8) (W : World) (hT : Tab W) (e0 : La.length = n0) (a0 : n0 ≤ c0) (b0 : c0 * 24 ≤ 140737488351232) (r0 : RdX W A0 La)
    (ht : T.length = nt) (htc : nt ≤ ct) (hct : ct ≤ 140737488351232) (rt : Rd W At T) :
    Calls Tryz.prog 3 #[.slice A0 n0 c0, .slice At nt ct] W (Yes W) := by
  generalize hQ : Yes W = Q
  have HQ := Lib.hid hQ
  have E0 := Lib.hid e0
  have X0 := Lib.hid r0
  have HT := Lib.hid ht
  have R0 := Lib.hid rt
  have TB := Lib.hid hT
  clear hQ e0 r0 ht rt hT
  go_enter Tryz.func3, Tryz.ntmps3
  go_wp2_with fail
  refine (works_any _).mono ?_
  rintro e w1 ⟨rfl, hb1⟩
  have B1 := Lib.hid hb1
  have HC := Lib.hid (few_any La A0 n0 c0 E0.out (by omega) w1 (X0.out.below hb1))
  clear hb1
  obtain ⟨fa, hfa⟩ : ∃ x, fewE La = x := ⟨_, rfl⟩
  rw [hfa] at HC
  have HFA := Lib.hid hfa
  clear hfa
  go_wp2_with fail
  refine HC.out.mono ?_
  rintro e w3 ⟨rfl, hb⟩
  have B3 := Lib.hid (bl_trans B1.out hb)
  clear HC hb B1
  cases fa with
  | false =>
    go_wp2_with fail
    exact post_is HQ ⟨rfl, B3.out⟩
  | true =>
  obtain ⟨fa1, fa2⟩ := few_true HFA.out
  obtain ⟨ta, hta, sa⟩ := trees_of fa2
  have hn6 : n0 ≤ 6 := by rw [← E0.out]; exact fa1
  have la : ta.length = n0 := by have := E0.out; rw [hta, flats_len] at this; exact this
  obtain ⟨oa, na⟩ := few_net sa (by omega)
  have HTA := Lib.hid hta
  have HLA := Lib.hid la
  have HOA := Lib.hid oa
  have HNA := Lib.hid na
  have SA := Lib.hid sa
  clear fa1 fa2 hta la oa na sa HFA
  obtain ⟨q, hq, hq1, hq2, hmin⟩ := min_litN nt 20 20 rfl
  have hcut := cut_t At nt ct q hq1 htc
  have R3 := Lib.hid (show Rd w3 At (T.take q) from (R0.out.below B3.out).take q)
  have HT2 := Lib.hid (show (T.take q).length = q by rw [List.length_take, HT.out]; omega)
  generalize T.take q = ts at *
  clear R0 HT hq
  have X03 := Lib.hid (X0.out.below B3.out)
  have TB3 := Lib.hid (TB.out.below B3.out)
  clear X0 TB
  have HC := of_net La A0 n0 c0 E0.out (by omega) (by rw [HTA.out]; exact HOA.out) (by rw [HTA.out]; exact HNA.out) (by omega) w3 X03.out
  rw [HTA.out] at HC
  have HC2 := Lib.hid HC
  clear HC
  go_wp2_with fail
  refine HC2.out.mono ?_
  rintro e w4 ⟨Aa, na, ca, Ab, nb, cb, rfl, p1, p2, p3, p4, p5, p6, p7, p8, p9⟩
  have bx := bl_alloc (Below.refl w4.heap.size w4) (.cells #[.int .i64 ((netS (flats ta) : Nat) : Int), .slice Aa na ca, .slice Ab nb cb] 29)
  have NA := Lib.hid (show NetB W w4.heap.size ((netS (flats ta) : Nat) : Int) (netE 1 (flats ta)) (zl (netX 1 (flats ta))) Aa Ab na ca nb cb (w4.alloc (.cells #[.int .i64 ((netS (flats ta) : Nat) : Int), .slice Aa na ca, .slice Ab nb cb] 29)) from
    ⟨heap_alloc_new w4 _, p1.below bx, p2.below bx, bl_trans (bl_trans B3.out p9) bx, p3.out, p4.out, p5, p6, p7, p8⟩)
  have R4 := Lib.hid ((R3.out.below p9).below bx)
  have X04 := Lib.hid ((X03.out.below p9).below bx)
  have TB4 := Lib.hid ((TB3.out.below p9).below bx)
  clear p1 p2 p3 p4 p5 p6 p7 p8 p9 bx HC2 X03 R3 B3 TB3
  go_upto_region 7 with fail
  generalize w4.alloc (.cells #[.int .i64 ((netS (flats ta) : Nat) : Int), .slice Aa na ca, .slice Ab nb cb] 29) = w5 at *
  generalize w4.heap.size = ga at *
  have RNA := Lib.hid (run_net HOA.out ts (by rw [HT2.out]; omega))
  have LC := Lib.hid NA.out.load
  have HC := NA.out.run ts At q ct HT2.out (by omega) (by omega) (by omega) R4.out
  rw [RNA.out] at HC
  have HC2 := Lib.hid HC
  clear HC RNA HOA HNA
  go_wp2_with (refine wpList_load_part 29 3 _ rfl rfl ⟨ga, 0, none⟩ rfl [.int .i64 ((netS (flats ta) : Nat) : Int), .slice Aa na ca, .slice Ab nb cb] (agg_net _) (sz_net _) rfl LC.out ?_)
  refine HC2.out.mono ?_
  rintro e w6 ⟨rfl, hb⟩
  have B6 := Lib.hid (bl_trans NA.out.low hb)
  have R6 := Lib.hid (R4.out.below hb)
  have X6 := Lib.hid (X04.out.below hb)
  have TB6 := Lib.hid (TB4.out.below hb)
  clear hb HC2 LC NA R4 X04 TB4
  have HX0 := Lib.hid (show fstT (ta.drop n0) ts n0 = -1 from by rw [List.drop_of_length_le (by rw [HLA.out]; exact Nat.le_refl _)]; rfl)
  have hw : IntKind.i64.wrap ((n0 : Int) - 1) = (n0 : Int) - 1 := IntWalk.i64_in _ (by omega)
  dsimp only
  go_wp2_with fail
  go_loopw [9, 10] (fun wv rv wq => ∃ (j : Nat) (z : Int), j ≤ n0 ∧ rv = .int .i64 z ∧ Hid (z = (j : Int) - 1) ∧ wv = .int .i64 (fstT (ta.drop j) ts j) ∧ Hid (Below W.heap.size W wq) ∧ Hid (RdX wq A0 La) ∧ Hid (Rd wq At ts) ∧ Hid (Tab wq)) (fun _ rv _ => (intOf rv + 1).toNat)
  case atStart => exact ⟨n0, _, Nat.le_refl _, rfl, rfl, by rw [HX0.out], B6, X6, R6, TB6⟩
  case round =>
    obtain ⟨j, z, hj, rfl, HZ, rfl, BQ, XQ, RQ, TQ⟩ := hrel
    clear B6 X6 R6 TB6 HX0 hw
    cases j with
    | zero =>
      have hz : z = -1 := by have := HZ.out; omega
      subst hz
      rw [List.drop_zero]
      generalize fstT ta ts 0 = r at *
      have t9 : (r == r) = true := by simp
      go_wp2_with fail
      exact post_is HQ ⟨rfl, BQ.out⟩
    | succ j =>
      have hz : z = (j : Int) := by have := HZ.out; omega
      subst hz
      have h2 : j < ta.length := by rw [HLA.out]; exact hj
      have h3 : j < La.length := by rw [E0.out]; exact hj
      obtain ⟨ad, B, m, d, hA, hc, hm, hmd, hrr⟩ := XQ.out j h3
      subst hA
      have hlj : La[j] = flat 0 ta[j] := by
        have h := HTA.out
        subst h
        simp [flats]
      rw [hlj] at hm hrr
      have HBK := Lib.hid (fst_back ts ta j h2)
      have hsz := SA.out ta[j] (List.getElem_mem h2)
      have HC := takes_all (flat 0 ta[j]) B m d At q ct ts hm HT2.out wr TQ.out hrr RQ.out hmd
      rw [takes_tkN ta[j] ts (by omega) (by rw [HT2.out]; omega)] at HC
      have HC2 := Lib.hid HC
      have LX := Lib.hid (show ∀ k u, [Value.slice B m d][k]? = some u → wr.cell? ((ad.add j).add k) = some u from fun k u hu => by
        match k, hu with
        | 0, hu =>
          simp at hu
          subst hu
          rw [Addr.add_add]
          exact hc)
      have hw2 : IntKind.i64.wrap ((j : Int) - 1) = (j : Int) - 1 := IntWalk.i64_in _ (by omega)
      have hji : (j : Int) < (n0 : Int) := by omega
      clear HC hlj hm hrr hc h3 hsz
      generalize ta[j] = t at *
      clear h2
      go_wp2_with (refine wpList_load_part 39 1 _ rfl rfl (ad.add j) rfl [.slice B m d] (agg_rex' _) (sz_rex' _) rfl LX.out ?_)
      refine HC2.out.mono ?_
      rintro e w8 ⟨rfl, hb8⟩
      have B8 := Lib.hid (bl_trans BQ.out hb8)
      have X8 := Lib.hid (XQ.out.below hb8)
      have R8 := Lib.hid (RQ.out.below hb8)
      have T8 := Lib.hid (TQ.out.below hb8)
      clear hb8 HC2 BQ XQ RQ TQ LX
      dsimp only
      cases hin : tkN t ts with
      | true =>
        have HB2 := Lib.hid (show fstT (ta.drop j) ts j = (j : Int) from by rw [HBK.out, if_pos hin])
        clear hin
        go_wp2_with fail
        go_roundw
        case rel =>
          repeat apply Exists.intro
          refine ⟨?_, rfl⟩
          exact ⟨j, _, by omega, rfl, rfl, by rw [HB2.out], B8, X8, R8, T8⟩
        all_goals (simp [intOf] <;> omega)
      | false =>
        have HB2 := Lib.hid (show fstT (ta.drop j) ts j = fstT (ta.drop (j + 1)) ts (j + 1) from by rw [HBK.out, if_neg (by rw [hin]; simp)])
        clear hin
        go_wp2_with fail
        go_roundw
        case rel =>
          repeat apply Exists.intro
          refine ⟨?_, rfl⟩
          exact ⟨j, _, by omega, rfl, rfl, by rw [HB2.out], B8, X8, R8, T8⟩
        all_goals (simp [intOf] <;> omega)

end Go.Proofs.YtjibfffefppniaaGreatDoor
