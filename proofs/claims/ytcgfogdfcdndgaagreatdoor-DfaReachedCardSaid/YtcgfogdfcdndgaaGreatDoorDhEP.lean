/- Machines: the law on steps of runs: the walk. -/
import Derived.Test.YtcgfogdfcdndgaaGreatDoorDhDP
set_option linter.unusedVariables false
set_option linter.unusedSimpArgs false
namespace Go.Proofs.YtcgfogdfcdndgaaGreatDoor
open Go.RowKit
attribute [local go_sem] Oper.semAt_some

theorem load_dv {w : World} {g : Nat} {dv : Array Value} {t : TypeId} {z : Nat × Nat} (h : w.heap[g]? = some (.cells dv t z)) : ∀ j u, dv.toList[j]? = some u → w.cell? ((⟨g, 0, none⟩ : Addr).add j) = some u := fun j u hu => by
  rw [addr_mk, Nat.zero_add, cell_of_row w g j _ _ _ h]
  simpa using hu
set_option maxHeartbeats 16000000 in
set_option maxRecDepth 20000 in
theorem dstepwise_walk (cl : Nat → Int) (T : List (List Int)) (X : List Int) (An Ax At : Option Addr) (nn cn nx cx nt ct : Nat) (ts : List UInt8) (W : World) (hTab : Tab W)
    (p1 : T.length = nn ∧ nn ≤ cn ∧ cn * 24 ≤ 140737488351232 ∧ RdTb W An T ∧ ∀ r ∈ T, r.length * 8 ≤ 140737488351232) (p2 : X.length = nx ∧ nx ≤ cx ∧ cx * 8 ≤ 140737488351232 ∧ RdW W Ax X) (ht : ts.length = nt) (htc : nt ≤ ct) (hct : ct ≤ 140737488351232) (rt : Rd W At ts) :
    Calls Tryz.prog 9 #[.agg (mkT cl [.slice An nn cn, .slice Ax nx cx]), .slice At nt ct] W (Yes W) := by
  generalize hQ : Yes W = Q
  have HQ := Lib.hid hQ
  obtain ⟨hnn, hcn, hc8, hr, hrb⟩ := p1
  obtain ⟨hnx, hcx, hx8, hx⟩ := p2
  have b0 := bl_alloc (Below.refl W.heap.size W) (.cells (mkT cl [.slice An nn cn, .slice Ax nx cx]) 33)
  have M0 := Lib.hid (show MachB W W.heap.size cl T X An Ax nn cn nx cx (mkT cl [.slice An nn cn, .slice Ax nx cx]) (W.alloc (.cells (mkT cl [.slice An nn cn, .slice Ax nx cx]) 33)) from
    ⟨heap_alloc_new W _, rfl, hr.below b0, hx.below b0, b0, hnn, hnx, by omega, by omega⟩)
  have HT0 := Lib.hid (rt.below b0)
  have TB0 := Lib.hid (hTab.below b0)
  have HTN := Lib.hid ht
  clear hQ hr hx hnn hnx b0 hrb rt hTab ht
  generalize mkT cl [.slice An nn cn, .slice Ax nx cx] = dv at *
  go_enter Tryz.func9, Tryz.ntmps9
  go_upto_region 1 with fail
  generalize W.alloc (.cells dv 33) = wA at *
  generalize W.heap.size = g at *
  have hsz2 := M0.out.len
  go_wp2_with fail
  refine (works_any _ TB0.out).mono ?_
  rintro e w1 ⟨rfl, hb1⟩
  have M1 := Lib.hid (M0.out.then hb1)
  have HT1 := Lib.hid (HT0.out.below hb1)
  clear hb1 M0 HT0 TB0
  have HCS := Lib.hid M1.out.load
  go_wp2_with (refine wpList_load_part 33 258 _ rfl rfl ⟨g, 0, none⟩ rfl dv.toList (aggD _) (szD _) hsz2 HCS.out ?_)
  refine M1.out.call_check.mono ?_
  rintro e w2 ⟨rfl, hb2⟩
  have M2 := Lib.hid (M1.out.then hb2)
  have HT2 := Lib.hid (HT1.out.below hb2)
  clear hb2 HCS M1 HT1
  obtain ⟨ck, hck⟩ : ∃ q, checkD (clL cl) T X = q := ⟨_, rfl⟩
  have HK := Lib.hid hck
  rw [hck]
  clear hck
  by_cases hz : ck = 0
  · subst hz
    have HM := Lib.hid (may_of HK.out)
    have e0 : ((0 : Int) != 0) = false := rfl
    obtain ⟨q, hq, hq1, hq2, hmin⟩ := min_litN nt 30 30 rfl
    have hcut := cut_t At nt ct q hq1 htc
    have R3 := Lib.hid (show Rd w2 At (ts.take q) from HT2.out.take q)
    have HL3 := Lib.hid (show (ts.take q).length = q by rw [List.length_take, HTN.out]; omega)
    generalize ts.take q = tz at *
    clear HT2 HTN hq
    go_wp2_with fail
    go_loopw [5, 6] (fun vs vi wr => ∃ (k : Nat) (s : Int), k ≤ q ∧ vi = .int .i64 (k : Int) ∧ vs = .int .i64 s ∧ (s = -1 ∨ (0 ≤ s ∧ s < (nn : Int))) ∧ Hid (walkD (clL cl) T 0 tz = if s = -1 then -1 else walkD (clL cl) T s (tz.drop k)) ∧ Hid (Below w2.heap.size w2 wr)) (fun _ vi _ => q - (intOf vi).toNat)
    case atStart => exact ⟨0, 0, Nat.zero_le _, rfl, rfl, Or.inr ⟨by omega, by have := HM.out.pos; rw [M2.out.lt] at this; omega⟩, rfl, Below.refl _ _⟩
    case round =>
      obtain ⟨k, s, hk, rfl, rfl, hs, HWK, HBW⟩ := hrel
      have M3 := Lib.hid (M2.out.then HBW.out)
      have HCS := Lib.hid M3.out.load
      rcases hs with rfl | ⟨hs1, hs2⟩
      · have HRU := Lib.hid (show runD (clL cl) T X tz = (-1, 0) from by
          unfold runD
          rw [if_neg (by rw [HK.out]; simp), if_neg (by rw [HL3.out]; omega), HWK.out]
          rfl)
        have HC := M3.out.call_run tz At q ct HL3.out (by omega) (R3.out.below HBW.out)
        rw [HRU.out] at HC
        have HC := Lib.hid HC
        have d9 : ((-1 : Int) == -1) = true := rfl
        by_cases hlt : k < q
        · go_wp2_with (refine wpList_load_part 33 258 _ rfl rfl ⟨g, 0, none⟩ rfl dv.toList (aggD _) (szD _) hsz2 HCS.out ?_)
          refine HC.out.mono ?_
          rintro e w4 ⟨rfl, hb4⟩
          go_wp2_with fail
          exact post_is HQ ⟨rfl, bl_trans M3.out.low hb4⟩
        · obtain rfl : k = q := by omega
          go_wp2_with (refine wpList_load_part 33 258 _ rfl rfl ⟨g, 0, none⟩ rfl dv.toList (aggD _) (szD _) hsz2 HCS.out ?_)
          refine HC.out.mono ?_
          rintro e w4 ⟨rfl, hb4⟩
          go_wp2_with fail
          exact post_is HQ ⟨rfl, bl_trans M3.out.low hb4⟩
      · obtain ⟨sn, rfl⟩ : ∃ n : Nat, s = (n : Int) := ⟨s.toNat, by omega⟩
        have d2 : decide ((0 : Int) ≤ (sn : Int)) = true := by simp
        have hsl : sn < T.length := by rw [M2.out.lt]; omega
        have HWK2 := Lib.hid (show walkD (clL cl) T 0 tz = walkD (clL cl) T (sn : Int) (tz.drop k) from by rw [HWK.out, if_neg (by omega)])
        clear HWK
        by_cases hlt : k < q
        · have hkl : k < tz.length := by rw [HL3.out]; exact hlt
          obtain ⟨adt, hAt, hct2⟩ := (R3.out.below HBW.out).cell hkl
          subst hAt
          have HNXT := Lib.hid (walk_next (clL cl) T hkl (sn : Int))
          generalize tz[k] = ch at *
          obtain ⟨cn8, hcn⟩ : ∃ q, ch.toNat = q := ⟨_, rfl⟩
          have hc : cn8 < 256 := by rw [← hcn]; exact ch.toNat_lt
          rw [hcn] at hct2 HNXT
          have HSV := Lib.hid (show stepD (clL cl) T X (sn : Int) cn8 = (nextD (clL cl) T (sn : Int) cn8, 0) from by
            unfold stepD
            rw [if_neg (by rw [HK.out]; simp), if_neg (by rw [M2.out.lt]; omega)])
          have HRG := Lib.hid (show -1 ≤ nextD (clL cl) T (sn : Int) cn8 ∧ nextD (clL cl) T (sn : Int) cn8 < (nn : Int) from by
            obtain ⟨k1, k2⟩ := HM.out.cls cn8 hc
            rw [← (HM.out.row sn hsl).1] at k2
            obtain ⟨kc, hkc⟩ : ∃ n : Nat, cl cn8 = (n : Int) := ⟨(cl cn8).toNat, by omega⟩
            have hkl2 : kc < T[sn].length := by omega
            rw [next_cl cl T hsl hc hkc hkl2]
            have := (HM.out.row sn hsl).2 kc hkl2
            rwa [M2.out.lt] at this)
          obtain ⟨rv, hrv⟩ : ∃ q, nextD (clL cl) T (sn : Int) cn8 = q := ⟨_, rfl⟩
          rw [hrv] at HSV HRG HNXT
          clear hrv
          have hrg := HRG.out
          have i4 : (k : Int) < (q : Int) := by omega
          have d3 : decide (rv < -1) = false := by simp; omega
          have d4 : decide ((nn : Int) ≤ rv) = false := by simp; omega
          clear hkl hcn hs1 hs2 hsl
          go_wp2_with fail
          refine wp_region_held_drew (S := fun W' => W'.heap[g]? = some (.cells dv 33 (0, 0)) ∧ W'.cell? (adt.add k) = some (.int .u8 (cn8 : Int))) (by kernel_rfl) ⟨M3.out.box, hct2⟩ (fun hHeld => ?_)
          have MD := Lib.hid (M3.out.then (Below.drew (Below.refl wr.heap.size wr)))
          have BD := Lib.hid (bl_trans HBW.out (Below.drew (Below.refl wr.heap.size wr)))
          clear hct2 M3 HBW HCS
          generalize wr.drew = wd at *
          try simp only [zzA, zzB, zzC, Act.put, zzD, zzE, zzF]
          refine wpAnyH_take (i := 0) (v := .agg dv) rfl (by kernel_rfl) (by kernel_rfl) (by kernel_rfl) (fun _ _ _ h => h) (yields_part 33 258 (by rfl) (.tmp 2) rfl ⟨g, 0, none⟩ rfl dv.toList aggD szD hsz2 (fun w hw => load_dv hw.1)) hHeld ?_
          try simp only [zzA, zzB, zzC, Act.put, zzD, zzE, zzF]
          refine wpAnyH_take (i := 1) (v := ?vzw1) rfl (by kernel_rfl) (by kernel_rfl) (by kernel_rfl) (fun _ _ _ h => h) (Or.inl ⟨by rfl, ?yzw1⟩) hHeld ?rzw1
          case yzw1 => (intro wS hSw; clear hSw; go_simp; try (with_reducible rfl))
          try simp only [zzA, zzB, zzC, Act.put, zzD, zzE, zzF]
          refine wpAnyH_take (i := 2) (v := ?vzw2) rfl (by kernel_rfl) (by kernel_rfl) (by kernel_rfl) (fun _ _ _ h => h) (Or.inl ⟨by rfl, ?yzw2⟩) hHeld ?rzw2
          case yzw2 => (intro wS hSw; clear hSw; go_simp; try (with_reducible rfl))
          try simp only [zzA, zzB, zzC, Act.put, zzD, zzE, zzF]
          refine wpAnyH_take (i := 3) (v := ?vzw3) rfl (by kernel_rfl) (by kernel_rfl) (by kernel_rfl) (fun _ _ _ h => h) (Or.inl ⟨by rfl, ?yzw3⟩) hHeld ?rzw3
          case yzw3 => (intro wS hSw; clear hSw; go_simp; try (with_reducible rfl))
          try simp only [zzA, zzB, zzC, Act.put, zzD, zzE, zzF]
          refine wpAnyH_take (i := 4) (v := ?vzw4) rfl (by kernel_rfl) (by kernel_rfl) (by kernel_rfl) (fun _ _ _ h => h) (Or.inl ⟨by rfl, ?yzw4⟩) hHeld ?rzw4
          case yzw4 => (intro wS hSw; clear hSw; go_simp; try (with_reducible rfl))
          try simp only [zzA, zzB, zzC, Act.put, zzD, zzE, zzF]
          refine wpAnyH_take (i := 5) (v := ?vzw5) rfl (by kernel_rfl) (by kernel_rfl) (by kernel_rfl) (fun _ _ _ h => h) (Or.inl ⟨by rfl, ?yzw5⟩) hHeld ?rzw5
          case yzw5 => (intro wS hSw; have q1 := hSw.2; clear hSw; go_simp; try (with_reducible rfl))
          try simp only [zzA, zzB, zzC, Act.put, zzD, zzE, zzF]
          refine wpAnyH_ready (rs := [6]) (by kernel_rfl) (by simp) (AllReadyH.cons rfl (fun K hK => ?_) AllReadyH.nil)
          go_simp
          go_at_call 19
          have HC := MD.out.call_step (sn : Int) cn8 hc
          rw [HSV.out] at HC
          refine HC.mono ?_
          rintro e w4 ⟨rfl, hb⟩
          have N4 := Lib.hid (bl_trans BD.out hb)
          have M4 := Lib.hid (MD.out.then hb)
          have hS1 := And.intro M4.out.box ((hb.cell (World.block_lt_of_cell? _ _ hHeld.2)).trans hHeld.2)
          clear hHeld hb HC BD MD
          go_wp2_with fail
          refine hK.out _ _ hS1 (fun hHeld => ?_)
          clear hK K hS1
          try simp only [zzA, zzB, zzC, Act.put, zzD, zzE, zzF]
          refine wpAnyH_take (i := 7) (v := ?vzw7) rfl (by kernel_rfl) (by kernel_rfl) (by kernel_rfl) (fun _ _ _ h => h) (Or.inl ⟨by rfl, ?yzw7⟩) hHeld ?rzw7
          case yzw7 => (intro wS hSw; clear hSw; go_simp; try (with_reducible rfl))
          try simp only [zzA, zzB, zzC, Act.put, zzD, zzE, zzF]
          refine wpAnyH_take (i := 8) (v := ?vzw8) rfl (by kernel_rfl) (by kernel_rfl) (by kernel_rfl) (fun _ _ _ h => h) (Or.inl ⟨by rfl, ?yzw8⟩) hHeld ?rzw8
          case yzw8 => (intro wS hSw; clear hSw; go_simp; try (with_reducible rfl))
          try simp only [zzA, zzB, zzC, Act.put, zzD, zzE, zzF]
          refine wpAnyH_take (i := 9) (v := ?vzw9) rfl (by kernel_rfl) (by kernel_rfl) (by kernel_rfl) (fun _ _ _ h => h) (Or.inl ⟨by rfl, ?yzw9⟩) hHeld ?rzw9
          case yzw9 => (intro wS hSw; clear hSw; go_simp; try (with_reducible rfl))
          try simp only [zzA, zzB, zzC, Act.put, zzD, zzE, zzF]
          refine wpAnyH_take (i := 10) (v := ?vzw10) rfl (by kernel_rfl) (by kernel_rfl) (by kernel_rfl) (fun _ _ _ h => h) (Or.inl ⟨by rfl, ?yzw10⟩) hHeld ?rzw10
          case yzw10 => (intro wS hSw; clear hSw; go_simp; try (with_reducible rfl))
          try simp only [zzA, zzB, zzC, Act.put, zzD, zzE, zzF]
          refine wpAnyH_take (i := 11) (v := ?vzw11) rfl (by kernel_rfl) (by kernel_rfl) (by kernel_rfl) (fun _ _ _ h => h) (Or.inl ⟨by rfl, ?yzw11⟩) hHeld ?rzw11
          case yzw11 => (intro wS hSw; clear hSw; go_simp; try (with_reducible rfl))
          try simp only [zzA, zzB, zzC, Act.put, zzD, zzE, zzF]
          refine wpAnyH_done (by kernel_rfl) ?_ _
          have c1 := M4.out.next
          have e7 : ((0 : Int) != 0) = false := rfl
          go_wp2_with fail
          refine ⟨⟨k + 1, rv, by omega, by go_num, rfl, by omega, ?_, N4.out⟩, by simp [intOf]; omega⟩
          unfold Hid
          rw [HWK2.out, HNXT.out]
        · obtain rfl : k = q := by omega
          have c2 := M3.out.rule
          have hxl : sn < X.length := by rw [HM.out.rules]; exact hsl
          obtain ⟨adx, hAx, hcx2⟩ := M3.out.rx sn hxl
          subst hAx
          have HRU := Lib.hid (show runD (clL cl) T X tz = (X[sn], 0) from by
            unfold runD
            rw [if_neg (by rw [HK.out]; simp), if_neg (by rw [HL3.out]; omega), HWK2.out, List.drop_eq_nil_of_le (by rw [HL3.out]; exact Nat.le_refl _)]
            show (ruleD X (sn : Int), 0) = _
            unfold ruleD
            rw [if_neg (by omega)]
            simp [List.getD, hxl])
          have HC := M3.out.call_run tz At k ct HL3.out (by omega) (R3.out.below HBW.out)
          rw [HRU.out] at HC
          have HC := Lib.hid HC
          have i1 : (sn : Int) < (nx : Int) := by have := M2.out.lx; omega
          generalize X[sn] = rx at *
          have d9 : (rx == rx) = true := beq_self_eq_true _
          clear hxl hsl
          go_wp2_with (refine wpList_load_part 33 258 _ rfl rfl ⟨g, 0, none⟩ rfl dv.toList (aggD _) (szD _) hsz2 HCS.out ?_)
          refine HC.out.mono ?_
          rintro e w4 ⟨rfl, hb4⟩
          go_wp2_with fail
          exact post_is HQ ⟨rfl, bl_trans M3.out.low hb4⟩
  · have hz1 : ((ck : Int) = 0) = False := by simp; omega
    have hz2 : ((ck : Int) != 0) = true := by simp; omega
    go_wp2_with fail
    exact post_is HQ ⟨rfl, M2.out.low⟩

end Go.Proofs.YtcgfogdfcdndgaaGreatDoor
