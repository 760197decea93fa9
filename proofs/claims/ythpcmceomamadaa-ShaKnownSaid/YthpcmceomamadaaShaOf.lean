/- The document's Of. No condition but that the bytes can be read, and are 5000 at most. -/
import Derived.Test.YthpcmceomamadaaShaBk
set_option linter.unusedVariables false
set_option linter.unusedSimpArgs false
namespace Go.Proofs.Ythpcmceomamadaa
open Go.RowKit

theorem RdW.row {w : World} {g n H : Nat} {f : Nat → BitVec 32} {cs : Array Value} (h : RdW w g n f) (hne : g ≠ H) : RdW (w.setRow H cs) g n f :=
  ⟨by rw [size_setRow]; exact h.1, fun j hj => (World.cell?_of_block (a := ⟨g, j, none⟩) (setRow_other _ _ _ _ (by omega))).trans (h.2 j hj)⟩
theorem rd_rowX {w : World} {g H : Nat} {l : List UInt8} {cs : Array Value} (h : Rd w (some ⟨g, 0, none⟩) l) (hne : g ≠ H) : Rd (w.setRow H cs) (some ⟨g, 0, none⟩) l := fun h0 => by
  obtain ⟨ad, e, hc⟩ := h h0
  cases e
  exact ⟨_, rfl, fun j hj => (World.cell?_of_block (a := (⟨g, 0, none⟩ : Addr).add j) (by rw [add_block]; exact setRow_other _ _ _ _ (by omega))).trans (hc j hj)⟩

set_option maxHeartbeats 4000000 in
set_option maxRecDepth 100000 in
theorem refOf_any (A : Option Addr) (n c : Nat) (l : List UInt8) (w : World) (hl : l.length = n) (hr : Rd w A l) (hn : n ≤ 5000) :
    Calls Try.prog 20 #[.slice A n c] w (GotD w (stateE l)) := by
  have hz := zero8
  have hz32 := zero32
  have HL := Lib.hid hl
  have HR := Lib.hid hr
  have r0 : (w.alloc (.cells tab32 37)).heap[w.heap.size]? = some (.cells tab32 37 (0, 0)) := heap_alloc_new w _
  have R0 := Lib.hid r0
  have B0 := Lib.hid (bl_alloc (Below.refl w.heap.size w) (.cells tab32 37))
  clear hl hr r0
  go_enter Try.func20, Try.ntmps20
  go_wp2_with fail
  have hR0 : w.heap.size < (w.alloc (.cells tab32 37)).heap.size := by simp
  generalize w.alloc (.cells tab32 37) = w0 at *
  refine (refBegin_any _).mono ?_
  rintro e w1 ⟨rfl, hb1⟩
  have hR1 : w.heap.size < w1.heap.size := Nat.lt_of_lt_of_le hR0 hb1.size
  have j1 : Hw (w1.alloc (.cells tab8 31)) w1.heap.size 31 8 (fun _ => 0) := Hw.new tab8_row
  have J1 := Lib.hid j1
  have R1 : Hid ((w1.alloc (.cells tab8 31)).heap[w.heap.size]? = some (.cells tab32 37 (0, 0))) := Lib.hid ((Below.heap_alloc w1 _ _ hR1).trans ((hb1.block _ hR0).trans R0.out))
  have B1 := Lib.hid (bl_alloc (bl_trans B0.out hb1) (.cells tab8 31))
  clear j1 R0 B0 hb1
  go_wp2_with (refine wpList_store_row rfl 31 _ _ rfl w1.heap.size _ rfl rfl 31 _ J1.out (by rw [size8, rowF_size]) (by rw [rowF_size, rowF_size]) (rowF_one _ _) ?_)
  have k1 : Hw ((w1.alloc (.cells tab8 31)).setRow w1.heap.size (rowF 8 hW)) w1.heap.size 31 8 beginE.get := by
    have h := setRow_heap _ _ _ (rowF 8 hW) _ _ J1.out
    have e : rowF 8 hW = rowF 8 beginE.get := rowF_congr 8 (fun j hj => (S8.of_get hW j hj).symm)
    unfold Hw
    rw [← e]
    exact h
  have kR : ((w1.alloc (.cells tab8 31)).setRow w1.heap.size (rowF 8 hW)).heap[w.heap.size]? = some (.cells tab32 37 (0, 0)) := (setRow_other _ _ _ _ (by omega)).trans R1.out
  have kB : Below w.heap.size w ((w1.alloc (.cells tab8 31)).setRow w1.heap.size (rowF 8 hW)) := bl_setRow B1.out (by omega) _
  generalize (w1.alloc (.cells tab8 31)).setRow w1.heap.size (rowF 8 hW) = w2 at *
  generalize w1.heap.size = X at *
  have K1 := Lib.hid k1
  have KR := Lib.hid kR
  have KB := Lib.hid kB
  have hX2 : X < w2.heap.size := k1.lt
  clear k1 kR kB J1 R1 B1
  refine (refRoots_k _).mono ?_
  rintro e w3 ⟨gk, ck, rfl, hgk, hck, hrk, hb3⟩
  have L1 := Lib.hid (K1.out.below hb3)
  have hR3 : w.heap.size < w2.heap.size := by omega
  have LR := Lib.hid ((hb3.block _ hR3).trans KR.out)
  have LB := Lib.hid (bl_trans KB.out hb3)
  have LK := Lib.hid hrk
  have hs3 : w2.heap.size ≤ w3.heap.size := hb3.size
  clear hrk hb3 K1 KR KB
  go_wp2_with fail
  refine (refPad_any A n c l _ HL.out (HR.out.below LB.out) hn).mono ?_
  rintro e w4 ⟨v4, rfl, ho4, hb4⟩
  obtain ⟨P, hP⟩ : ∃ P, padE l = P := ⟨_, rfl⟩
  obtain ⟨N, hN⟩ : ∃ N, P.length = N := ⟨_, rfl⟩
  obtain ⟨q1, q2, q3⟩ := padN_room l.length
  have hPN : padN l.length = N := by rw [← hN, ← hP, padE_len]
  rw [hPN] at q1 q2 q3
  rw [HL.out] at q1 q2
  obtain ⟨M, hM⟩ : ∃ M, N = 64 * M := ⟨N / 64, by omega⟩
  rw [hP] at ho4
  obtain ⟨gp, cp, cur, rfl, hgp, hgc, hcp, _⟩ := own_block ho4 (by rw [hN]; omega)
  obtain ⟨A', cc, hv, _, _, hrp⟩ := ho4.shape
  cases hv
  rw [hN]
  have hgl : gp < w4.heap.size := (Array.getElem?_eq_some_iff.1 hgc).1
  rw [hN] at hcp
  have M1 := Lib.hid (L1.out.below hb4)
  have hR4 : w.heap.size < w3.heap.size := by omega
  have MR := Lib.hid ((hb4.block _ hR4).trans LR.out)
  have MB := Lib.hid (bl_trans LB.out hb4)
  have MK := Lib.hid (LK.out.below hb4)
  have MP := Lib.hid hrp
  have HP := Lib.hid hP
  have HN := Lib.hid hN
  have HPN := Lib.hid hPN
  have HM := Lib.hid hM
  have hN6 : N ≤ 6000 := by omega
  have hkX : X < gk := by omega
  have hpX : X < gp := by omega
  have hRX : w.heap.size < X := hR1
  clear hP hN hPN hM ho4 hb4 hrp hgc L1 LR LB LK q3 HR HL
  go_wp2_with fail
  go_loopw [6] (fun i wr => ∃ q s : Nat, q ≤ M ∧ i = .int .i64 (s : Int) ∧ Hid (s = 64 * q) ∧ s ≤ N ∧ gp < wr.heap.size ∧ Hid (Hw wr X 31 8 (foldE beginE P q).get) ∧ Hid (wr.heap[w.heap.size]? = some (.cells tab32 37 (0, 0))) ∧ Hid (RdW wr gk 64 kW) ∧ Hid (Rd wr (some ⟨gp, 0, none⟩) P) ∧ Hid (Below w.heap.size w wr)) (fun i _ => N - (intOf i).toNat)
  case atStart => exact ⟨0, 0, by omega, rfl, rfl, by omega, hgl, M1, MR, MK, MP, MB⟩
  case round =>
    clear M1 MR MK MP MB hgl
    obtain ⟨q, s, hq, rfl, HS, hsN, hgl, M1, MR, MK, MP, MB⟩ := hrel
    by_cases hlt : q < M
    · obtain ⟨t, ht⟩ : ∃ t, t = s + 64 := ⟨_, rfl⟩
      have hM := HM.out
      have hs := HS.out
      have htn : t ≤ N := by omega
      have et : (s : Int) + 64 = (t : Int) := by omega
      have et2 : IntKind.i64.wrap (t : Int) = (t : Int) := IntWalk.i64_in _ (by omega)
      have hslt : (s : Int) < (N : Int) := by omega
      have hcut := cut_two ⟨gp, 0, none⟩ N cp s t ht htn hcp
      obtain ⟨hrb, hlb⟩ := rd_block MP.out q M (by rw [HN.out]; exact hM) hlt
      rw [← hs] at hrb
      obtain ⟨x, hx⟩ : ∃ x, foldE beginE P q = x := ⟨_, rfl⟩
      have hstep : foldE beginE P (q + 1) = blockE x (blockAt P q) := by rw [foldE, hx]
      have hm1 := M1.out
      rw [hx] at hm1
      have M1 := Lib.hid hm1
      have hbl : ((⟨gp, 0, none⟩ : Addr).add s).block = gp := add_block _ _
      generalize (⟨gp, 0, none⟩ : Addr).add s = ad at *
      generalize blockAt P q = bl at *
      have HRb := Lib.hid hrb
      have HLb := Lib.hid hlb
      have HSt := Lib.hid hstep
      have HT := Lib.hid ht
      have HBl := Lib.hid hbl
      have hu8 := Try.underlying31
      have hi8 : (Try.prog.info? 31).map (·.size) = some (rowF 8 x.get).toList.length := by rw [size8, Array.length_toList, rowF_size]
      clear hM hs hrb hlb hx hstep hm1 hbl ht
      go_upto_region 7 with fail
      refine wp_region_any (by kernel_rfl) ?_
      have hb0 : Below wr.heap.size wr wr.drew := Below.drew (Below.refl _ _)
      show wpAny _ _ _ _ _ _ _ wr.drew
      refine wpAny_take (i := 1) (v := ?vq1) rfl (by kernel_rfl) (by kernel_rfl) (by kernel_rfl) (fun _ _ _ h => h) (Or.inl ⟨by rfl, ?yq1⟩) ?rq1
      case yq1 => (intro wS; go_simp; try (with_reducible rfl))
      simp only [List.getElem_toArray, List.getElem_cons_zero, List.getElem_cons_succ, Act.put, List.setIfInBounds_toArray, List.set_cons_zero, List.set_cons_succ]
      refine wpAny_take (i := 2) (v := ?vq2) rfl (by kernel_rfl) (by kernel_rfl) (by kernel_rfl) (fun _ _ _ h => h) (Or.inl ⟨by rfl, ?yq2⟩) ?rq2
      case yq2 => (intro wS; go_simp; try (with_reducible rfl))
      simp only [List.getElem_toArray, List.getElem_cons_zero, List.getElem_cons_succ, Act.put, List.setIfInBounds_toArray, List.set_cons_zero, List.set_cons_succ]
      refine wpAny_take (i := 3) (v := ?vq3) rfl (by kernel_rfl) (by kernel_rfl) (by kernel_rfl) (fun _ _ _ h => h) (Or.inl ⟨by rfl, ?yq3⟩) ?rq3
      case yq3 => (intro wS; go_simp; try (with_reducible rfl))
      simp only [List.getElem_toArray, List.getElem_cons_zero, List.getElem_cons_succ, Act.put, List.setIfInBounds_toArray, List.set_cons_zero, List.set_cons_succ]
      refine wpAny_take (i := 4) (v := ?vq4) rfl (by kernel_rfl) (by kernel_rfl) (by kernel_rfl) (fun _ _ _ h => h) (Or.inl ⟨by rfl, ?yq4⟩) ?rq4
      case yq4 => (intro wS; go_simp; try (with_reducible rfl))
      simp only [List.getElem_toArray, List.getElem_cons_zero, List.getElem_cons_succ, Act.put, List.setIfInBounds_toArray, List.set_cons_zero, List.set_cons_succ]
      refine wpAny_take (i := 5) (v := ?vq5) rfl (by kernel_rfl) (by kernel_rfl) (by kernel_rfl) (fun _ _ _ h => h) (Or.inl ⟨by rfl, ?yq5⟩) ?rq5
      case yq5 => (intro wS; go_simp; try (with_reducible rfl))
      simp only [List.getElem_toArray, List.getElem_cons_zero, List.getElem_cons_succ, Act.put, List.setIfInBounds_toArray, List.set_cons_zero, List.set_cons_succ]
      refine wpAny_take (i := 7) (v := ?vq7) rfl (by kernel_rfl) (by kernel_rfl) (by kernel_rfl) (fun _ _ _ h => h) (Or.inl ⟨by rfl, ?yq7⟩) ?rq7
      case yq7 => (intro wS; go_simp; try (with_reducible rfl))
      simp only [List.getElem_toArray, List.getElem_cons_zero, List.getElem_cons_succ, Act.put, List.setIfInBounds_toArray, List.set_cons_zero, List.set_cons_succ]
      refine wpAny_ready (rs := [0, 6]) (by kernel_rfl) (by simp) (AllReady.cons rfl (fun K hK => ?_) (AllReady.cons rfl (fun K hK => ?_) AllReady.nil))
      · have HK := Lib.hid hK
        clear hK
        rw [if_pos (by rfl)]
        refine wp_load_row 31 _ rfl X rfl 31 _ (0, 0) _ (M1.out.below hb0) Try.underlying31 rfl (by rw [size8, rowF_size]) ?_
        refine HK.out _ _ ?_
        clear HK K
        try simp only [List.getElem_toArray, List.getElem_cons_zero, List.getElem_cons_succ, Act.put, List.setIfInBounds_toArray, List.set_cons_zero, List.set_cons_succ]
        refine wpAny_ready (rs := [6]) (by kernel_rfl) (by simp) (AllReady.cons rfl (fun K hK => ?_) AllReady.nil)
        have HK := Lib.hid hK
        clear hK
        have W1 := Lib.hid (words_any ad (cp - s) bl wr.drew HLb.out (HRb.out.below hb0) (by rw [HBl.out]; exact hgl))
        go_simp
        go_at_call 38; refine W1.out.mono ?_
        rintro e u1 ⟨g1, c1, rfl, hg1, hc1, hr1, hb1⟩
        have hB1 := bl_trans hb0 hb1
        have HR1 := Lib.hid hr1
        have HB1 := Lib.hid hB1
        clear hb0 hb1 hr1 hB1 W1
        go_wp2_with fail
        refine HK.out _ _ ?_
        clear HK K
        try simp only [List.getElem_toArray, List.getElem_cons_zero, List.getElem_cons_succ, Act.put, List.setIfInBounds_toArray, List.set_cons_zero, List.set_cons_succ]
        refine wpAny_ready (rs := [8]) (by kernel_rfl) (by simp) (AllReady.cons rfl (fun K hK => ?_) AllReady.nil)
        have HK := Lib.hid hK
        clear hK
        have W3 := Lib.hid (refRounds_k x bl g1 c1 gk ck u1 HR1.out (MK.out.below HB1.out))
        go_simp
        go_at_call 37; refine W3.out.mono ?_
        rintro e u3 ⟨rfl, hb3⟩
        have HB3 := Lib.hid (bl_trans HB1.out hb3)
        clear hb3 W3 HR1 HB1
        go_wp2_with fail
        refine HK.out _ _ ?_
        clear HK K
        try simp only [List.getElem_toArray, List.getElem_cons_zero, List.getElem_cons_succ, Act.put, List.setIfInBounds_toArray, List.set_cons_zero, List.set_cons_succ]
        refine wpAny_ready (rs := [9]) (by kernel_rfl) (by simp) (AllReady.cons rfl (fun K hK => ?_) AllReady.nil)
        have HK := Lib.hid hK
        clear hK
        rw [if_pos (by rfl)]
        have hZ := M1.out.below HB3.out
        have hY := setRow_heap _ _ _ (rowF 8 (blockE x bl).get) _ _ hZ
        have hS2 : Below w.heap.size w (u3.setRow X (rowF 8 (blockE x bl).get)) := bl_setRow (bl_trans MB.out HB3.out) (by omega) _
        have hwlt : w.heap.size < wr.heap.size := (Array.getElem?_eq_some_iff.1 MR.out).1
        have nR : (u3.setRow X (rowF 8 (blockE x bl).get)).heap[w.heap.size]? = some (.cells tab32 37 (0, 0)) := (setRow_other _ _ _ _ (by omega)).trans ((HB3.out.block _ hwlt).trans MR.out)
        have nK : RdW (u3.setRow X (rowF 8 (blockE x bl).get)) gk 64 kW := (MK.out.below HB3.out).row (by omega)
        have nP : Rd (u3.setRow X (rowF 8 (blockE x bl).get)) (some ⟨gp, 0, none⟩) P := rd_rowX (MP.out.below HB3.out) (by omega)
        have nG : gp < (u3.setRow X (rowF 8 (blockE x bl).get)).heap.size := by rw [size_setRow]; exact Nat.lt_of_lt_of_le hgl HB3.out.size
        refine wp_store_row 31 _ _ rfl X _ rfl rfl 31 _ hZ (by rw [size8, rowF_size]) (by rw [rowF_size, rowF_size]) (rowF_one _ _) ?_
        refine HK.out _ _ ?_
        clear HK K hZ
        try simp only [List.getElem_toArray, List.getElem_cons_zero, List.getElem_cons_succ, Act.put, List.setIfInBounds_toArray, List.set_cons_zero, List.set_cons_succ]
        refine wpAny_done (by kernel_rfl) ?_ _
        have Y1 : Hid (Hw (u3.setRow X (rowF 8 (blockE x bl).get)) X 31 8 (foldE beginE P (q + 1)).get) := by
          show Hw _ _ _ _ _
          rw [HSt.out]
          exact hY
        have Y2 := Lib.hid nR
        have Y3 := Lib.hid nK
        have Y4 := Lib.hid nP
        have Y5 := Lib.hid hS2
        generalize u3.setRow X (rowF 8 (blockE x bl).get) = u4 at *
        clear hY nR nK nP hS2 HB3 M1 MR MK MP MB et2 hcut hi8
        go_wp2
        exact ⟨⟨q + 1, t, by omega, by go_num, by (show t = 64 * (q + 1); have := HT.out; have := HS.out; omega), htn, nG, Y1, Y2, Y3, Y4, Y5⟩, by simp [intOf]; have := HT.out; omega⟩
      · have HK := Lib.hid hK
        clear hK
        have W1 := Lib.hid (words_any ad (cp - s) bl wr.drew HLb.out (HRb.out.below hb0) (by rw [HBl.out]; exact hgl))
        go_simp
        go_at_call 38; refine W1.out.mono ?_
        rintro e u1 ⟨g1, c1, rfl, hg1, hc1, hr1, hb1⟩
        have hB1 := bl_trans hb0 hb1
        have HR1 := Lib.hid hr1
        have HB1 := Lib.hid hB1
        clear hb0 hb1 hr1 hB1 W1
        go_wp2_with fail
        refine HK.out _ _ ?_
        clear HK K
        try simp only [List.getElem_toArray, List.getElem_cons_zero, List.getElem_cons_succ, Act.put, List.setIfInBounds_toArray, List.set_cons_zero, List.set_cons_succ]
        refine wpAny_ready (rs := [0]) (by kernel_rfl) (by simp) (AllReady.cons rfl (fun K hK => ?_) AllReady.nil)
        have HK := Lib.hid hK
        clear hK
        rw [if_pos (by rfl)]
        refine wp_load_row 31 _ rfl X rfl 31 _ (0, 0) _ (M1.out.below HB1.out) Try.underlying31 rfl (by rw [size8, rowF_size]) ?_
        refine HK.out _ _ ?_
        clear HK K
        try simp only [List.getElem_toArray, List.getElem_cons_zero, List.getElem_cons_succ, Act.put, List.setIfInBounds_toArray, List.set_cons_zero, List.set_cons_succ]
        refine wpAny_ready (rs := [8]) (by kernel_rfl) (by simp) (AllReady.cons rfl (fun K hK => ?_) AllReady.nil)
        have HK := Lib.hid hK
        clear hK
        have W3 := Lib.hid (refRounds_k x bl g1 c1 gk ck u1 HR1.out (MK.out.below HB1.out))
        go_simp
        go_at_call 37; refine W3.out.mono ?_
        rintro e u3 ⟨rfl, hb3⟩
        have HB3 := Lib.hid (bl_trans HB1.out hb3)
        clear hb3 W3 HR1 HB1
        go_wp2_with fail
        refine HK.out _ _ ?_
        clear HK K
        try simp only [List.getElem_toArray, List.getElem_cons_zero, List.getElem_cons_succ, Act.put, List.setIfInBounds_toArray, List.set_cons_zero, List.set_cons_succ]
        refine wpAny_ready (rs := [9]) (by kernel_rfl) (by simp) (AllReady.cons rfl (fun K hK => ?_) AllReady.nil)
        have HK := Lib.hid hK
        clear hK
        rw [if_pos (by rfl)]
        have hZ := M1.out.below HB3.out
        have hY := setRow_heap _ _ _ (rowF 8 (blockE x bl).get) _ _ hZ
        have hS2 : Below w.heap.size w (u3.setRow X (rowF 8 (blockE x bl).get)) := bl_setRow (bl_trans MB.out HB3.out) (by omega) _
        have hwlt : w.heap.size < wr.heap.size := (Array.getElem?_eq_some_iff.1 MR.out).1
        have nR : (u3.setRow X (rowF 8 (blockE x bl).get)).heap[w.heap.size]? = some (.cells tab32 37 (0, 0)) := (setRow_other _ _ _ _ (by omega)).trans ((HB3.out.block _ hwlt).trans MR.out)
        have nK : RdW (u3.setRow X (rowF 8 (blockE x bl).get)) gk 64 kW := (MK.out.below HB3.out).row (by omega)
        have nP : Rd (u3.setRow X (rowF 8 (blockE x bl).get)) (some ⟨gp, 0, none⟩) P := rd_rowX (MP.out.below HB3.out) (by omega)
        have nG : gp < (u3.setRow X (rowF 8 (blockE x bl).get)).heap.size := by rw [size_setRow]; exact Nat.lt_of_lt_of_le hgl HB3.out.size
        refine wp_store_row 31 _ _ rfl X _ rfl rfl 31 _ hZ (by rw [size8, rowF_size]) (by rw [rowF_size, rowF_size]) (rowF_one _ _) ?_
        refine HK.out _ _ ?_
        clear HK K hZ
        try simp only [List.getElem_toArray, List.getElem_cons_zero, List.getElem_cons_succ, Act.put, List.setIfInBounds_toArray, List.set_cons_zero, List.set_cons_succ]
        refine wpAny_done (by kernel_rfl) ?_ _
        have Y1 : Hid (Hw (u3.setRow X (rowF 8 (blockE x bl).get)) X 31 8 (foldE beginE P (q + 1)).get) := by
          show Hw _ _ _ _ _
          rw [HSt.out]
          exact hY
        have Y2 := Lib.hid nR
        have Y3 := Lib.hid nK
        have Y4 := Lib.hid nP
        have Y5 := Lib.hid hS2
        generalize u3.setRow X (rowF 8 (blockE x bl).get) = u4 at *
        clear hY nR nK nP hS2 HB3 M1 MR MK MP MB et2 hcut hi8
        go_wp2
        exact ⟨⟨q + 1, t, by omega, by go_num, by (show t = 64 * (q + 1); have := HT.out; have := HS.out; omega), htn, nG, Y1, Y2, Y3, Y4, Y5⟩, by simp [intOf]; have := HT.out; omega⟩
    · obtain rfl : q = M := by omega
      have hM := HM.out
      have hs := HS.out
      obtain rfl : s = N := by omega
      obtain ⟨st, hst⟩ : ∃ st, foldE beginE P q = st := ⟨_, rfl⟩
      have hq' : padN l.length / 64 = q := by rw [HPN.out, hM]; omega
      have hse : stateE l = st := by rw [stateE, HP.out, hq', hst]
      have HSE := Lib.hid hse
      have hm1 := M1.out
      rw [hst] at hm1
      have N1 := Lib.hid (hm1.alloc (.cells tab32 37))
      have hRl : w.heap.size < wr.heap.size := (Array.getElem?_eq_some_iff.1 MR.out).1
      have NR : Hid ((wr.alloc (.cells tab32 37)).heap[w.heap.size]? = some (.cells tab32 37 (0, 0))) := Lib.hid ((Below.heap_alloc wr _ _ hRl).trans MR.out)
      have n3 : Hb (wr.alloc (.cells tab32 37)) wr.heap.size 37 32 (fun j => if j < 0 then byteOf st j else 0) := by
        have h : Hb (wr.alloc (.cells tab32 37)) wr.heap.size 37 32 (fun _ => 0) := by rw [tab32_row]; exact heap_alloc_new wr _
        exact h.turn (fun j _ => by simp)
      have N3 := Lib.hid n3
      have NB := Lib.hid (bl_alloc MB.out (.cells tab32 37))
      have hXl : X < wr.heap.size := M1.out.lt
      clear hM hs hst hq' hse hm1 n3 M1 MR MK MP MB HS HM HN HPN HP
      go_wp2_with fail
      generalize wr.alloc (.cells tab32 37) = wv' at *
      generalize wr.heap.size = D at *
      go_loopw [8] (fun i wr => ∃ k : Nat, k ≤ 32 ∧ i = .int .i64 (k : Int) ∧ Hid (Hb wr D 37 32 (fun j => if j < k then byteOf st j else 0)) ∧ Hid (Hw wr X 31 8 st.get) ∧ Hid (wr.heap[w.heap.size]? = some (.cells tab32 37 (0, 0))) ∧ Hid (Below w.heap.size w wr)) (fun i _ => 32 - (intOf i).toNat)
      case atStart => exact ⟨0, by omega, rfl, N3, N1, NR, NB⟩
      case round =>
        clear N3 N1 NR NB
        obtain ⟨k, hk, rfl, M3, M1, MR, MB⟩ := hrel
        by_cases hlt : k < 32
        · obtain ⟨a, ha⟩ : ∃ q, k / 4 = q := ⟨_, rfl⟩
          obtain ⟨t, ht⟩ : ∃ t, 24 - 8 * (k % 4) = t := ⟨_, rfl⟩
          have hq8 : a < 8 := by omega
          have c8 := M1.out.cell hq8
          have ck := M3.out.cell hlt
          have fk := M3.out.free k
          have e1 : (k : Int) / 4 = (a : Int) := by omega
          have e2 : (24 : Int) - 8 * ((k : Int) % 4) = (t : Int) := by omega
          have ht24 : t ≤ 24 := by omega
          have HQ := Lib.hid ha
          have HT := Lib.hid ht
          clear ha ht
          go_wp2
          have hv : Value.int IntKind.u8 (((st.get a).toNat : Int) / 2 ^ t % 256) = bv (byteOf st k) := by
            rw [byte_val]
            unfold byteOf
            rw [HQ.out, HT.out]
          clear e1 e2
          refine ⟨⟨k + 1, by omega, by go_num, Lib.hid (M3.out.set k _ _ hv (fun j _ => upd_ltB (byteOf st) k j)), Lib.hid (M1.out.other (by simp; omega) _), ?_, Lib.hid (MB.out.setCell (p := ⟨D, k, none⟩) (by simp; omega) _)⟩, by simp [intOf]; omega⟩
          refine Lib.hid ?_
          rw [Below.heap_setCell _ _ _ _ (by simp; omega)]
          exact MR.out
        · obtain rfl : k = 32 := by omega
          have h32 := M3.out.turn (f' := byteOf st) (fun j hj => if_pos hj)
          have J3 := Lib.hid h32
          clear h32 M3
          go_wp2_with (first
            | (refine wpList_load_row rfl 37 _ rfl D rfl 37 _ (0, 0) _ J3.out Try.underlying37 rfl (by rw [size32, rowB_size]) ?_)
            | (refine wpList_store_row rfl 37 _ _ rfl w.heap.size _ rfl rfl 37 _ MR.out (by rw [size32, rowB_size]) (by rw [rowB_size]; rfl) (rowB_one _ _) ?_))
          refine bodyPost_ret (v := .agg (rowB 32 (byteOf st))) (results_cell_row rfl _ _ w.heap.size 37 _ (0, 0) _ rfl (setRow_heap _ _ _ _ _ _ MR.out) Try.underlying37 rfl (by rw [size32, rowB_size])) rfl ⟨by rw [HSE.out], ?_⟩
          exact bl_setRow MB.out (Nat.le_refl _) _

end Go.Proofs.Ythpcmceomamadaa
