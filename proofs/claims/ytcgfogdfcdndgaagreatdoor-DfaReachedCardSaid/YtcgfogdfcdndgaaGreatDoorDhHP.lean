/- Machines: the law on how states and classes are numbered: the walk. -/
import Derived.Test.YtcgfogdfcdndgaaGreatDoorDhGP
import Derived.Test.YtcgfogdfcdndgaaGreatDoorDfRP
set_option linter.unusedVariables false
set_option linter.unusedSimpArgs false
namespace Go.Proofs.YtcgfogdfcdndgaaGreatDoor
open Go.RowKit
attribute [local go_sem] Oper.semAt_some

theorem fo_pres (S : Nat) (E : List Ed) (i : Nat) : ∀ j, i ≤ j → foD S E i <+: foD S E j
  | 0, h => by
    obtain rfl : i = 0 := by omega
    exact List.prefix_refl _
  | j + 1, h => by
    by_cases hij : i = j + 1
    · subst hij
      exact List.prefix_refl _
    · exact (fo_pres S E i j (by omega)).trans (fo_pre S E j)
/-- As many rows are made as states are found. -/
theorem found_stages {S : Nat} {E : List Ed} {F : List (List Nat)} (h : foundD S E = some F) : F = foD S E F.length ∧ ∀ i, i < F.length → i < (foD S E i).length := by
  obtain ⟨N, h1, _, h3, h4⟩ := build_stg (cs := leastsE E) (F0 := [closeL S E [0]]) 514 0 F h
  have h1 : F = foD S E N := h1
  have hN : N = F.length := by
    cases N with
    | zero =>
      have := fo_le S E 0
      rw [← h1] at this
      omega
    | succ n =>
      have h5 := (h4 n (Nat.zero_le _) (Nat.lt_succ_self _)).1
      have h6 := (fo_pre S E n).length_le
      rw [← h1] at h6
      have h5 : n < (foD S E n).length := h5
      omega
  subst hN
  exact ⟨h1, fun i hi => (h4 i (Nat.zero_le _) hi).1⟩
theorem found_state {S : Nat} {E : List Ed} {F : List (List Nat)} (h : foundD S E = some F) {i : Nat} (hi : i < F.length) : ∃ h2 : i < (foD S E i).length, (foD S E i)[i] = F[i] := by
  obtain ⟨h1, h3⟩ := found_stages h
  refine ⟨h3 i hi, ?_⟩
  have hp := fo_pres S E i F.length (by omega)
  rw [← h1] at hp
  exact (List.prefix_iff_getElem.1 hp).2 i (h3 i hi) |>.symm ▸ rfl
/-- How many states are found in row s behind k classes. -/
def lenD (S : Nat) (E : List Ed) (F : List (List Nat)) (s k : Nat) : Nat := (rowD S E (F.getD s []) (foD S E s) ((leastsE E).take k)).length
theorem len_row {S : Nat} {E : List Ed} {F : List (List Nat)} (h : foundD S E = some F) {s : Nat} (hs : s < F.length) : rowD S E (F.getD s []) (foD S E s) (leastsE E) = foD S E (s + 1) := by
  obtain ⟨h1, h2⟩ := found_state h hs
  rw [show F.getD s [] = F[s] from by simp [List.getD, hs], ← h2]
  exact (fo_next S E h1).symm
theorem len_all {S : Nat} {E : List Ed} {F : List (List Nat)} (h : foundD S E = some F) {s : Nat} (hs : s < F.length) : lenD S E F s (leastsE E).length = (foD S E (s + 1)).length := by
  unfold lenD
  rw [List.take_length, len_row h hs]
theorem len_next {S : Nat} {E : List Ed} {F : List (List Nat)} (h : foundD S E = some F) {s : Nat} (hs : s < F.length) {k : Nat} (hk : k < (leastsE E).length) :
    valD F (toD S E (leastsE E)[k] F[s]) ≤ (lenD S E F s k : Int) ∧ (lenD S E F s (k + 1) : Int) - 1 = max ((lenD S E F s k : Int) - 1) (valD F (toD S E (leastsE E)[k] F[s])) ∧ lenD S E F s (k + 1) ≤ F.length ∧ 1 ≤ lenD S E F s k := by
  have hG : rowD S E (F.getD s []) (foD S E s) ((leastsE E).take (k + 1)) <+: F := by
    have h1 := row_take S E (F.getD s []) (foD S E s) (leastsE E) (k + 1)
    rw [len_row h hs] at h1
    have h2 := fo_pres S E (s + 1) F.length (by omega)
    rw [← (found_stages h).1] at h2
    exact h1.trans h2
  have h0 := fo_le S E s
  have hm := row_most (l := F.getD s []) hk hG h0
  rw [show F.getD s [] = F[s] from by simp [List.getD, hs]] at hm
  unfold lenD
  rw [show F.getD s [] = F[s] from by simp [List.getD, hs]] at hG ⊢
  exact ⟨hm.1, hm.2, hG.length_le, Nat.le_trans h0 (row_pre S E F[s] ((leastsE E).take k) (foD S E s)).length_le⟩
theorem tab_get (S : Nat) (E : List Ed) (F : List (List Nat)) {s : Nat} (hs : s < F.length) (h1 : s < (tabD S E F).length) : (tabD S E F)[s] = (leastsE E).map fun c => valD F (toD S E c F[s]) :=
  List.getElem_map (f := fun l => (leastsE E).map fun c => valD F (toD S E c l)) (l := F) (i := s) (h := h1)
theorem tab_at (S : Nat) (E : List Ed) (F : List (List Nat)) {s k : Nat} (hs : s < F.length) (hk : k < (leastsE E).length) (h1 : s < (tabD S E F).length) (h2 : k < (tabD S E F)[s].length) : (tabD S E F)[s][k] = valD F (toD S E (leastsE E)[k] F[s]) := by
  have h3 : ((tabD S E F)[s])[k]? = some (valD F (toD S E (leastsE E)[k] F[s])) := by
    rw [tab_get S E F hs h1]
    simp [hk]
  exact Option.some.inj ((List.getElem?_eq_getElem h2).symm.trans h3)
theorem tab_row (S : Nat) (E : List Ed) (F : List (List Nat)) {s : Nat} (h1 : s < (tabD S E F).length) : (tabD S E F)[s].length = (leastsE E).length := by
  have hs : s < F.length := by
    have e : (tabD S E F).length = F.length := List.length_map _
    omega
  rw [tab_get S E F hs h1, List.length_map]
set_option maxHeartbeats 16000000 in
set_option maxRecDepth 20000 in
theorem dreached_walk (S : Int) (A A2 : Option Addr) (n c n2 c2 : Nat) (E : List Ed) (X : List Int) (W : World) (hTab : Tab W) (he : E.length = n ∧ n ≤ c ∧ c * 56 ≤ 140737488351232 ∧ RdE W A E) (hx : X.length = n2 ∧ n2 ≤ c2 ∧ c2 * 8 ≤ 140737488351232 ∧ RdW W A2 X) :
    Calls Tryz.prog 7 #[.agg #[.int .i64 S, .slice A n c, .slice A2 n2 c2]] W (Yes W) := by
  generalize hQ : Yes W = Q
  have HQ := Lib.hid hQ
  have b0 := bl_alloc (Below.refl W.heap.size W) (.cells #[.int .i64 S, .slice A n c, .slice A2 n2 c2] 25)
  obtain ⟨he1, he2, he3, he4⟩ := he
  obtain ⟨hx1, hx2, hx3, hx4⟩ := hx
  have N0 := Lib.hid (show NetB W W.heap.size S E X A A2 n c n2 c2 (W.alloc (.cells #[.int .i64 S, .slice A n c, .slice A2 n2 c2] 25)) from
    ⟨heap_alloc_new W _, he4.below b0, hx4.below b0, b0, he1, hx1, he2, hx2, by omega, by omega⟩)
  have TB0 := Lib.hid (hTab.below b0)
  have hz := zeroD
  clear he1 he2 he4 hx1 hx2 hx4 b0 hTab hQ
  go_enter Tryz.func7, Tryz.ntmps7
  go_upto_region 1 with fail
  generalize W.alloc (.cells #[.int .i64 S, .slice A n c, .slice A2 n2 c2] 25) = w0 at *
  generalize W.heap.size = g at *
  go_wp2_with fail
  refine (works_any _ TB0.out).mono ?_
  rintro e w1 ⟨rfl, hb⟩
  have N1 := Lib.hid (N0.out.then hb)
  have TB1 := Lib.hid (TB0.out.below hb)
  clear hb N0 TB0
  have L1 := Lib.hid N1.out.load
  go_wp2_with (refine wpList_load_part 25 3 _ rfl rfl ⟨g, 0, none⟩ rfl [.int .i64 S, .slice A n c, .slice A2 n2 c2] (agg_net _) (sz_net _) rfl L1.out ?_)
  refine N1.out.check.mono ?_
  rintro e w2 ⟨rfl, hb⟩
  have N2 := Lib.hid (N1.out.then hb)
  have TB2 := Lib.hid (TB1.out.below hb)
  clear hb N1 L1 TB1
  obtain ⟨ck, hck⟩ : ∃ x, checkN S E X = x := ⟨_, rfl⟩
  have HK := Lib.hid hck
  rw [hck]
  clear hck
  by_cases hz0 : ck = 0
  · subst hz0
    have hb1 : ((0 : Int) != 0) = false := rfl
    have L2 := Lib.hid N2.out.load
    go_wp2_with (refine wpList_load_partG 25 3 _ (by rfl) rfl ⟨g, 0, none⟩ rfl [.int .i64 S, .slice A n c, .slice A2 n2 c2] (agg_net _) (sz_net _) rfl L2.out ?_)
    refine (small_any S E X A A2 n c n2 c2 N2.out.ln w2).mono ?_
    rintro e w3 ⟨rfl, hb⟩
    have N3 := Lib.hid (N2.out.then hb)
    have TB3 := Lib.hid (TB2.out.below hb)
    clear hb N2 L2 TB2
    cases (decide (E.length ≤ 200) && decide (S ≤ 200)) with
    | false =>
      go_wp2_with fail
      exact post_is HQ ⟨rfl, N3.out.low⟩
    | true =>
      obtain ⟨s, hs, h1, h2, h3, h4, h5, _⟩ := check_ok HK.out
      subst hs
      have L3 := Lib.hid N3.out.load
      go_wp2_with (refine wpList_load_part 25 3 _ rfl rfl ⟨g, 0, none⟩ rfl [.int .i64 (s : Int), .slice A n c, .slice A2 n2 c2] (agg_net _) (sz_net _) rfl L3.out ?_)
      refine (of_net (s : Int) E X A A2 n c n2 c2 N3.out.ln N3.out.lx N3.out.cn N3.out.cx N3.out.bn N3.out.bx w3 N3.out.re N3.out.rx TB3.out).mono ?_
      rintro e w4 ⟨hb4, h | ⟨_, s2, hs2, _, h⟩⟩
      · exact absurd HK.out h.1
      obtain rfl : s = s2 := by omega
      have N4 := Lib.hid (N3.out.then hb4)
      clear hs2 L3 N3 TB3
      have K2 := heap_alloc_new w4 (.cells dz 33)
      rcases h with ⟨hno, rfl⟩ | ⟨F, n1, vT, vR, ex, hF, rfl, _, hT1, hR1, _⟩
      · have ZS := zero_stored N4.out.low
        go_wp2_with (refine wpList_store_row rfl 33 _ _ rfl w4.heap.size dz rfl rfl _ _ K2 (by rw [sizeD, dz_size]) rfl dz_one ?_)
        exact post_is HQ ⟨rfl, ZS.out.low⟩
      · have HF := Lib.hid hF
        have hFl := found_len hF
        have hTl : (tabD s E F).length = F.length := by unfold tabD; rw [List.length_map]
        have hRl : (rulesD F X).length = F.length := by unfold rulesD; rw [List.length_map]
        obtain ⟨An, nn, cn, Ax, nx, cx, dv, rfl, rfl, hdv, hds, hdo, MB⟩ := mach_stored (cl := fun c => ((classE E c : Nat) : Int)) hT1 hR1 N4.out.low (by omega) (by omega)
        have hnF : F.length = nn := by rw [← hTl]; exact MB.out.lt
        have HNF := Lib.hid hnF
        have HCC := MB.out.call_check
        have HMO : checkD (clL fun c => ((classE E c : Nat) : Int)) (tabD s E F) (rulesD F X) = 0 := mach_ok (X := X) (by omega) (close_zero h4 h1 h2) hF
        rw [HMO] at HCC
        have HCK := Lib.hid HCC
        rw [hdv]
        clear hT1 hR1 hTl hRl hF h4 N4 HMO HCC
        go_upto_region 6 with (refine wpList_store_row rfl 33 _ _ rfl w4.heap.size dv rfl rfl _ _ K2 (by rw [sizeD, hds]) (by rw [dz_size, hds]) hdo ?_)
        generalize (w4.alloc (.cells dz 33)).setRow w4.heap.size dv = w5 at *
        generalize w4.heap.size = g5 at *
        clear K2 hdo
        have hsz2 := MB.out.len
        have HCS := Lib.hid MB.out.load
        go_wp2_with (refine wpList_load_part 33 258 _ rfl rfl ⟨g5, 0, none⟩ rfl dv.toList (aggD _) (szD _) hsz2 HCS.out ?_)
        refine HCK.out.mono ?_
        rintro e w6 ⟨rfl, hb6⟩
        have M6 := Lib.hid (MB.out.then hb6)
        clear hb6 HCK MB HCS
        have hLL := leasts_len E
        have HST := Lib.hid (found_stages HF.out)
        have HLP := Lib.hid (fo_le s E)
        obtain ⟨nl, hnl⟩ : ∃ q, (leastsE E).length = q := ⟨_, rfl⟩
        have HNL := Lib.hid hnl
        rw [hnl] at hLL
        clear hnl
        have e7 : ((0 : Int) != 0) = false := rfl
        go_wp2_with fail
        go_loopw [5, 6] (fun vm vs wr => ∃ (k m : Nat), k ≤ nn ∧ vs = .int .i64 (k : Int) ∧ vm = .int .i64 (m : Int) ∧ m + 1 = (foD s E k).length ∧ m + 1 ≤ nn ∧ Hid (Below w6.heap.size w6 wr)) (fun _ vs _ => nn - (intOf vs).toNat)
        case atStart => exact ⟨0, 0, Nat.zero_le _, rfl, rfl, rfl, by have := HLP.out nn; have h2 := HST.out.1; rw [hnF] at h2; rw [← h2, hnF] at this; omega, Below.refl _ _⟩
        case round =>
          obtain ⟨k, m, hk, rfl, rfl, hm, hmn, HBW⟩ := hrel
          have M7 := Lib.hid (M6.out.then HBW.out)
          have c1 := M7.out.next
          by_cases hlt : k < nn
          · have hkF : k < F.length := by rw [hnF]; exact hlt
            have hkT : k < (tabD s E F).length := by rw [M7.out.lt]; exact hlt
            obtain ⟨ad, hA, B9, m9, d9, hc9, hm9, hmd9, hr9⟩ := M7.out.row hkT
            subst hA
            have hml : m9 = nl := by rw [← hm9, tab_row, HNL.out]
            subst hml
            have i1 : (k : Int) < (nn : Int) := by omega
            have hkm := HST.out.2 k hkF
            have d1 : decide ((m : Int) < (k : Int)) = false := by rw [decide_eq_false_iff_not]; omega
            have HR9 := Lib.hid hr9
            have HLZ := Lib.hid (show m + 1 = lenD s E F k 0 from hm)
            have HLA := Lib.hid (len_all HF.out hkF)
            have HLN := Lib.hid (fun j (hj : j < (leastsE E).length) => len_next HF.out hkF hj)
            have HTA := Lib.hid (fun j (hj : j < (leastsE E).length) (h2 : j < (tabD s E F)[k].length) => tab_at s E F hkF hj hkT h2)
            have HM9 := Lib.hid hm9
            generalize (tabD s E F)[k] = row at *
            clear hr9 hm9
            have K9 := Lib.hid (World.block_lt_of_cell? wr _ hc9)
            have HC9 := Lib.hid hc9
            go_wp2_with fail
            obtain ⟨wz, hwz⟩ : ∃ x, x = wr := ⟨_, rfl⟩
            subst hwz
            clear c1 hc9 M7
            go_loopw [5, 7] (fun vm vk wr => ∃ (j m : Nat), j ≤ m9 ∧ vk = .int .i64 (j : Int) ∧ vm = .int .i64 (m : Int) ∧ m + 1 = lenD s E F k j ∧ m + 1 ≤ nn ∧ Hid (Below wz.heap.size wz wr)) (fun _ vk _ => m9 - (intOf vk).toNat)
            case atStart => exact ⟨0, m, Nat.zero_le _, rfl, rfl, HLZ.out, hmn, Below.refl _ _⟩
            case round =>
              obtain ⟨j, m2, hj, rfl, rfl, hm2, hmn2, HBZ⟩ := hrel
              have M8 := Lib.hid (M6.out.then (bl_trans HBW.out HBZ.out))
              have c1 := M8.out.next
              have hc9 := (HBZ.out.cell K9.out).trans HC9.out
              by_cases hlt2 : j < m9
              · have hjl : j < (leastsE E).length := by rw [HNL.out]; exact hlt2
                have hjr : j < row.length := by rw [HM9.out]; exact hlt2
                obtain ⟨adr, hAr, hcr⟩ := (HR9.out.below HBZ.out) j hjr
                subst hAr
                have i2 : (j : Int) < (m9 : Int) := by omega
                obtain ⟨q1, q2, q3, q4⟩ := HLN.out j hjl
                rw [← HTA.out j hjl hjr] at q1 q2
                generalize row[j] = rv at *
                have d2 : decide ((m2 : Int) + 1 < rv) = false := by rw [decide_eq_false_iff_not]; omega
                obtain ⟨m3, hm3⟩ : ∃ m3 : Nat, max (m2 : Int) rv = (m3 : Int) := ⟨(max (m2 : Int) rv).toNat, by omega⟩
                have hm3' : m3 + 1 = lenD s E F k (j + 1) := by omega
                clear hjr hjl
                go_wp2_with fail
                refine ⟨⟨j + 1, m3, by omega, by go_num, by first | rfl | exact congrArg (Value.int .i64) hm3, hm3', by omega, HBZ.out⟩, by simp [intOf]; omega⟩
              · obtain rfl : j = m9 := by omega
                go_wp2_with fail
                go_roundw
                case rel =>
                  exact ⟨k + 1, m2, by omega, by go_num, rfl, by rw [hm2, ← HNL.out]; exact HLA.out, hmn2, bl_trans HBW.out HBZ.out⟩
                all_goals (simp [intOf] <;> omega)
          · obtain rfl : k = nn := by omega
            have hm1 : m + 1 = k := by
              have h2 := HST.out.1
              rw [hnF] at h2
              rw [hm, ← h2, hnF]
            clear hm hmn
            have BW0 := Lib.hid HBW.out
            clear HBW
            go_wp2_with fail
            clear c1 M7
            go_loopw [8, 9] (fun vk vc wr => ∃ c : Nat, c ≤ 256 ∧ vc = .int .i64 (c : Int) ∧ vk = .int .i64 ((nD E c : Nat) : Int) ∧ Hid (Below w6.heap.size w6 wr)) (fun _ vc _ => 256 - (intOf vc).toNat)
            case atStart => exact ⟨0, Nat.zero_le _, rfl, rfl, BW0.out⟩
            case round =>
              obtain ⟨c, hc, rfl, rfl, HBC⟩ := hrel
              have M9 := Lib.hid (M6.out.then HBC.out)
              by_cases hlt3 : c < 256
              · have cc := M9.out.cls hlt3
                obtain ⟨p1, p2⟩ := class_le E hlt3
                have HNX := Lib.hid (nd_next E c)
                have HP2 := Lib.hid p2
                have hq1 : nD E c ≤ 256 := Nat.le_trans (List.length_filter_le _ _) (by rw [List.length_range]; omega)
                generalize classE E c = ce at *
                generalize nD E c = d0 at *
                have e1 : decide ((d0 : Int) < (ce : Int)) = false := by rw [decide_eq_false_iff_not]; omega
                have i3 : (c : Int) < 256 := by omega
                by_cases hl : leastC E c = true
                · have hce : ce = d0 := HP2.out.2 hl
                  have e2 : ((ce : Int) == (d0 : Int)) = true := by rw [hce]; simp
                  have hd1 : nD E (c + 1) = d0 + 1 := by rw [HNX.out, if_pos hl]
                  clear p2
                  go_wp2_with fail
                  exact ⟨⟨c + 1, by omega, by go_num, by rw [hd1]; go_num, HBC.out⟩, by simp [intOf]; omega⟩
                · have e2 : ((ce : Int) == (d0 : Int)) = false := by
                    rw [beq_eq_false_iff_ne]
                    intro h
                    exact hl (HP2.out.1 (by omega))
                  have hd1 : nD E (c + 1) = d0 := by rw [HNX.out, if_neg hl]; rfl
                  clear p2
                  go_wp2_with fail
                  exact ⟨⟨c + 1, by omega, by go_num, by rw [hd1], HBC.out⟩, by simp [intOf]; omega⟩
              · obtain rfl : c = 256 := by omega
                have hk0 : 0 < (tabD s E F).length := by rw [M9.out.lt]; omega
                obtain ⟨ad, hA, B9, m9, d9, hc9, hm9, hmd9, hr9⟩ := M9.out.row hk0
                subst hA
                have c1 := M9.out.next
                have hc00 : wr.cell? ad = some (.slice B9 m9 d9) := by rwa [add_zero_a] at hc9
                have hml : m9 = nD E 256 := by rw [← hm9, tab_row, nd_all]
                subst hml
                have e3 : ((m : Int) == (k : Int) - 1) = true := by rw [beq_iff_eq]; omega
                have e4 : (((nD E 256 : Nat) : Int) == ((nD E 256 : Nat) : Int)) = true := by simp
                have i4 : (0 : Int) < (k : Int) := by omega
                clear hr9 hm9 hc9
                go_wp2_with fail
                exact post_is HQ ⟨rfl, M9.out.low⟩
  · have hb1 : ((ck : Int) != 0) = true := by simp; omega
    go_wp2_with fail
    exact post_is HQ ⟨rfl, N2.out.low⟩

end Go.Proofs.YtcgfogdfcdndgaaGreatDoor
