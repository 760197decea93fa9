/- Machines: a net's machine in a box; small nets; the law on what machines tell: the walk. -/
import Derived.Test.YtcgfogdfcdndgaaGreatDoorDhEP
set_option linter.unusedVariables false
set_option linter.unusedSimpArgs false
namespace Go.Proofs.YtcgfogdfcdndgaaGreatDoor
open Go.RowKit
attribute [local go_sem] Oper.semAt_some

set_option maxRecDepth 20000 in
theorem small_any (S : Int) (E : List Ed) (X : List Int) (A A2 : Option Addr) (n c n2 c2 : Nat) (he : E.length = n) (W : World) :
    Calls Tryz.prog 10 #[.agg #[.int .i64 S, .slice A n c, .slice A2 n2 c2]] W (GotBl W (decide (E.length ≤ 200) && decide (S ≤ 200))) := by
  rw [he]
  generalize hQ : GotBl W (decide (n ≤ 200) && decide (S ≤ 200)) = Q
  have HQ := Lib.hid hQ
  clear hQ
  have b0 := Lib.hid (bl_alloc (Below.refl W.heap.size W) (.cells #[.int .i64 S, .slice A n c, .slice A2 n2 c2] 25))
  have K0 := heap_alloc_new W (.cells #[.int .i64 S, .slice A n c, .slice A2 n2 c2] 25)
  have q0 := cell_of_row _ W.heap.size 0 _ _ _ K0
  have q1 := cell_of_row _ W.heap.size 1 _ _ _ K0
  clear K0
  by_cases h1 : n ≤ 200
  · have d1 : decide ((n : Int) ≤ 200) = true := by simp; omega
    obtain ⟨b, hb⟩ : ∃ b, decide (S ≤ 200) = b := ⟨_, rfl⟩
    have HB := Lib.hid hb
    go_enter Tryz.func10, Tryz.ntmps10
    go_wp2_with fail
    refine post_is HQ ⟨?_, b0.out⟩
    rw [HB.out, show decide (n ≤ 200) = true from by simpa using h1]
    rfl
  · have d1 : decide ((n : Int) ≤ 200) = false := by simp; omega
    go_enter Tryz.func10, Tryz.ntmps10
    go_wp2_with fail
    refine post_is HQ ⟨?_, b0.out⟩
    rw [show decide (n ≤ 200) = false from by simpa using h1]
    rfl
set_option maxHeartbeats 16000000 in
set_option maxRecDepth 20000 in
theorem dtells_walk (S : Int) (A A2 At : Option Addr) (n c n2 c2 nt ct : Nat) (E : List Ed) (X : List Int) (T : List UInt8) (W : World) (hTab : Tab W) (he : E.length = n ∧ n ≤ c ∧ c * 56 ≤ 140737488351232 ∧ RdE W A E) (hx : X.length = n2 ∧ n2 ≤ c2 ∧ c2 * 8 ≤ 140737488351232 ∧ RdW W A2 X) (ht : T.length = nt) (htc : nt ≤ ct) (hct : ct ≤ 140737488351232) (rt : Rd W At T) :
    Calls Tryz.prog 6 #[.agg #[.int .i64 S, .slice A n c, .slice A2 n2 c2], .slice At nt ct] W (Yes W) := by
  generalize hQ : Yes W = Q
  have HQ := Lib.hid hQ
  have b0 := bl_alloc (Below.refl W.heap.size W) (.cells #[.int .i64 S, .slice A n c, .slice A2 n2 c2] 25)
  obtain ⟨he1, he2, he3, he4⟩ := he
  obtain ⟨hx1, hx2, hx3, hx4⟩ := hx
  have N0 := Lib.hid (show NetB W W.heap.size S E X A A2 n c n2 c2 (W.alloc (.cells #[.int .i64 S, .slice A n c, .slice A2 n2 c2] 25)) from
    ⟨heap_alloc_new W _, he4.below b0, hx4.below b0, b0, he1, hx1, he2, hx2, by omega, by omega⟩)
  have HT := Lib.hid ht
  have R0 := Lib.hid (rt.below b0)
  have TB0 := Lib.hid (hTab.below b0)
  have hz := zeroD
  clear he1 he2 he4 hx1 hx2 hx4 ht rt b0 hTab hQ
  go_enter Tryz.func6, Tryz.ntmps6
  go_upto_region 1 with fail
  generalize W.alloc (.cells #[.int .i64 S, .slice A n c, .slice A2 n2 c2] 25) = w0 at *
  generalize W.heap.size = g at *
  go_wp2_with fail
  refine (works_any _ TB0.out).mono ?_
  rintro e w1 ⟨rfl, hb⟩
  have N1 := Lib.hid (N0.out.then hb)
  have R1 := Lib.hid (R0.out.below hb)
  have TB1 := Lib.hid (TB0.out.below hb)
  clear hb N0 R0 TB0
  have L1 := Lib.hid N1.out.load
  go_wp2_with (refine wpList_load_part 25 3 _ rfl rfl ⟨g, 0, none⟩ rfl [.int .i64 S, .slice A n c, .slice A2 n2 c2] (agg_net _) (sz_net _) rfl L1.out ?_)
  refine N1.out.check.mono ?_
  rintro e w2 ⟨rfl, hb⟩
  have N2 := Lib.hid (N1.out.then hb)
  have R2 := Lib.hid (R1.out.below hb)
  have TB2 := Lib.hid (TB1.out.below hb)
  clear hb N1 R1 L1 TB1
  obtain ⟨ck, hck⟩ : ∃ x, checkN S E X = x := ⟨_, rfl⟩
  have HK := Lib.hid hck
  rw [hck]
  clear hck
  by_cases hz0 : ck = 0
  · subst hz0
    have hb1 : ((0 : Int) != 0) = false := rfl
    have L2 := Lib.hid N2.out.load
    go_wp2_with (refine wpList_load_partG 25 3 _ (by rfl) rfl ⟨g, 0, none⟩ rfl [.int .i64 S, .slice A n c, .slice A2 n2 c2] (agg_net _) (sz_net _) rfl L2.out ?_)
    refine (small_any S E X A A2 n c n2 c2 N2.out.ln w2).mono ?_
    rintro e w3 ⟨rfl, hb⟩
    have N3 := Lib.hid (N2.out.then hb)
    have R3 := Lib.hid (R2.out.below hb)
    have TB3 := Lib.hid (TB2.out.below hb)
    clear hb N2 R2 L2 TB2
    cases (decide (E.length ≤ 200) && decide (S ≤ 200)) with
    | false =>
      go_wp2_with fail
      exact post_is HQ ⟨rfl, N3.out.low⟩
    | true =>
      obtain ⟨s, hs, h1, h2, h3, h4, h5, _⟩ := check_ok HK.out
      subst hs
      have HE := Lib.hid h4
      obtain ⟨q, hq, hq1, hq2, hmin⟩ := min_litN nt 30 30 rfl
      have hcut := cut_t At nt ct q hq1 htc
      have R4 := Lib.hid (show Rd w3 At (T.take q) from R3.out.take q)
      have HT2 := Lib.hid (show (T.take q).length = q by rw [List.length_take, HT.out]; omega)
      generalize T.take q = ts at *
      clear R3 HT hq
      have L3 := Lib.hid N3.out.load
      go_wp2_with (refine wpList_load_part 25 3 _ rfl rfl ⟨g, 0, none⟩ rfl [.int .i64 (s : Int), .slice A n c, .slice A2 n2 c2] (agg_net _) (sz_net _) rfl L3.out ?_)
      refine (of_net (s : Int) E X A A2 n c n2 c2 N3.out.ln N3.out.lx N3.out.cn N3.out.cx N3.out.bn N3.out.bx w3 N3.out.re N3.out.rx TB3.out).mono ?_
      rintro e w4 ⟨hb4, h | ⟨_, s2, hs2, _, h⟩⟩
      · exact absurd HK.out h.1
      obtain rfl : s = s2 := by omega
      have N4 := Lib.hid (N3.out.then hb4)
      have R5 := Lib.hid (R4.out.below hb4)
      clear hs2 L3 N3 R4 TB3
      have K2 := heap_alloc_new w4 (.cells dz 33)
      rcases h with ⟨hno, rfl⟩ | ⟨F, n1, vT, vR, ex, hF, rfl, _, hT1, hR1, _⟩
      · have ZS := zero_stored N4.out.low
        have hds := dz_size
        have hdo := dz_one
        go_upto_region 7 with (refine wpList_store_row rfl 33 _ _ rfl w4.heap.size dz rfl rfl _ _ K2 (by rw [sizeD, dz_size]) rfl dz_one ?_)
        generalize (w4.alloc (.cells dz 33)).setRow w4.heap.size dz = w5 at *
        generalize w4.heap.size = g5 at *
        have c1 := ZS.out.next
        clear K2
        go_wp2_with fail
        exact post_is HQ ⟨rfl, ZS.out.low⟩
      · have HF := Lib.hid hF
        have hFl := found_len hF
        have hTl : (tabD s E F).length = F.length := by unfold tabD; rw [List.length_map]
        have hRl : (rulesD F X).length = F.length := by unfold rulesD; rw [List.length_map]
        obtain ⟨An, nn, cn, Ax, nx, cx, dv, rfl, rfl, hdv, hds, hdo, MB⟩ := mach_stored (cl := fun c => ((classE E c : Nat) : Int)) hT1 hR1 N4.out.low (by omega) (by omega)
        have HMO := Lib.hid (mach_ok (X := X) (by omega) (close_zero h4 h1 h2) hF)
        have HMR := Lib.hid (mach_run (X := X) h4 h1 h2 hF ts)
        rw [hdv]
        have bs : Below w4.heap.size w4 ((w4.alloc (.cells dz 33)).setRow w4.heap.size dv) := bl_setRow (bl_alloc (Below.refl _ _) _) (Nat.le_refl _) _
        have N5 := Lib.hid (N4.out.then bs)
        have R6 := Lib.hid (R5.out.below bs)
        clear hT1 hR1 hFl hTl hRl hF h4 N4 R5 bs
        have HRD := Lib.hid (show runD (clL fun c => ((classE E c : Nat) : Int)) (tabD s E F) (rulesD F X) ts = (idxE (goneE E (forE E [0]) ts) X 0, 0) from by
          unfold runD
          rw [if_neg (by rw [show checkD (clL fun c => ((classE E c : Nat) : Int)) (tabD s E F) (rulesD F X) = 0 from HMO.out]; simp), if_neg (by rw [HT2.out]; omega), show walkD (clL fun c => ((classE E c : Nat) : Int)) (tabD s E F) 0 ts = walkD (clsD E) (tabD s E F) 0 ts from rfl, HMR.out])
        have HRN := Lib.hid (show runE (s : Int) E X ts = (idxE (goneE E (forE E [0]) ts) X 0, 0) from by
          unfold runE
          rw [if_neg (by rw [HK.out]; simp), if_neg (by rw [HT2.out]; omega)])
        generalize idxE (goneE E (forE E [0]) ts) X 0 = rx at *
        have HMO2 := Lib.hid (show checkD (clL fun c => ((classE E c : Nat) : Int)) (tabD s E F) (rulesD F X) = 0 from HMO.out)
        clear HMO HMR
        go_upto_region 7 with (refine wpList_store_row rfl 33 _ _ rfl w4.heap.size dv rfl rfl _ _ K2 (by rw [sizeD, hds]) (by rw [dz_size, hds]) hdo ?_)
        generalize (w4.alloc (.cells dz 33)).setRow w4.heap.size dv = w5 at *
        generalize w4.heap.size = g5 at *
        clear K2 hdo
        have hsz2 := MB.out.len
        have HCS := Lib.hid MB.out.load
        have HC := MB.out.call_run ts At q ct HT2.out (by omega) R6.out
        rw [HRD.out] at HC
        have HC := Lib.hid HC
        go_wp2_with (refine wpList_load_part 33 258 _ rfl rfl ⟨g5, 0, none⟩ rfl dv.toList (aggD _) (szD _) hsz2 HCS.out ?_)
        refine HC.out.mono ?_
        rintro e w6 ⟨rfl, hb6⟩
        have M6 := Lib.hid (MB.out.then hb6)
        have N6 := Lib.hid (N5.out.then hb6)
        have R7 := Lib.hid (R6.out.below hb6)
        clear hb6 HC MB N5 R6 HCS
        have L6 := Lib.hid N6.out.load
        have HC := N6.out.run ts At q ct HT2.out (by omega) (by omega) (by omega) R7.out
        rw [HRN.out] at HC
        have HC := Lib.hid HC
        go_wp2_with (refine wpList_load_part 25 3 _ rfl rfl ⟨g, 0, none⟩ rfl [.int .i64 (s : Int), .slice A n c, .slice A2 n2 c2] (agg_net _) (sz_net _) rfl L6.out ?_)
        refine HC.out.mono ?_
        rintro e w7 ⟨rfl, hb7⟩
        have M7 := Lib.hid (M6.out.then hb7)
        clear hb7 HC M6 N6 R7 L6
        have HCS := Lib.hid M7.out.load
        have HC := M7.out.call_check
        rw [HMO2.out] at HC
        have HC := Lib.hid HC
        have e9 : (rx == rx) = true := beq_self_eq_true _
        go_wp2_with (refine wpList_load_part 33 258 _ rfl rfl ⟨g5, 0, none⟩ rfl dv.toList (aggD _) (szD _) hsz2 HCS.out ?_)
        refine HC.out.mono ?_
        rintro e w8 ⟨rfl, hb8⟩
        go_wp2_with fail
        exact post_is HQ ⟨rfl, bl_trans M7.out.low hb8⟩
  · have hb1 : ((ck : Int) != 0) = true := by simp; omega
    go_wp2_with fail
    exact post_is HQ ⟨rfl, N2.out.low⟩

end Go.Proofs.YtcgfogdfcdndgaaGreatDoor
