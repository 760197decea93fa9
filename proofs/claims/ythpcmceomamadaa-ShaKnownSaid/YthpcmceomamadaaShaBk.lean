/- The document's Block. No condition but that the bytes can be read. -/
import Derived.Test.YthpcmceomamadaaShaRd
import Derived.Test.YthpcmceomamadaaShaPe
import Derived.Test.YthpcmceomamadaaShaCh
import Derived.Deep.RegionHeld3
import Derived.Deep.MidRow
import Derived.BigQuiet
import Derived.Deep.DeepCutAuto
set_option linter.unusedVariables false
set_option linter.unusedSimpArgs false
namespace Go.Proofs.Ythpcmceomamadaa
open Go.RowKit

theorem rangeH_of {w : World} {b : Nat} {t : TypeId} {f : Nat → BitVec 32} (h : Hw w b t 8 f) : w.rangeAt b 0 (rowF 8 f).toList := fun j v hv => by
  have hj : j < 8 := by
    have := (List.getElem?_eq_some_iff.1 hv).1
    rw [Array.length_toList, rowF_size] at this
    exact this
  have hc := h.cell hj
  rw [Nat.zero_add, hc]
  rw [Array.getElem?_toList, rowF_get _ _ _ hj] at hv
  rw [← hv]
  rfl

/-- What the rounds make of a block's words is what the block makes. -/
theorem rounds_block (h : S8) (l : List UInt8) : rowF 8 (fun j => h.get j + (goF kW (schW l) h 64).get j) = rowF 8 (blockE h l).get :=
  rowF_congr 8 (fun j hj => by unfold blockE; rw [S8.of_get _ j hj, goF_go])

theorem refRounds_k (h : S8) (l : List UInt8) (gw cw gk ck : Nat) (w : World) (hw : RdW w gw 64 (schW l)) (hk : RdW w gk 64 kW) :
    Calls Try.prog 37 #[.agg (rowF 8 h.get), .slice (some ⟨gw, 0, none⟩) 64 cw, .slice (some ⟨gk, 0, none⟩) 64 ck] w (GotF w 8 (blockE h l).get) := by
  refine (rounds_any h gw cw gk ck (schW l) kW w hw hk).mono ?_
  rintro e w' ⟨rfl, hb⟩
  exact ⟨by rw [rounds_block], hb⟩
theorem refRoots_k (w : World) : Calls Try.prog 34 #[.int .i64 3, .int .i64 64] w (GotWs w 64 kW) := refRoots_any 3 64 (.inr rfl) (by omega) (by omega) w

set_option maxHeartbeats 2000000 in
set_option maxRecDepth 100000 in
theorem refBlock_yes (h : S8) (ad : Addr) (c : Nat) (l : List UInt8) (w : World) (hl : l.length = 64) (hr : Rd w (some ad) l) (hadl : ad.block < w.heap.size) :
    Calls Try.prog 18 #[.agg (rowF 8 h.get), .slice (some ad) 64 c] w (GotK w h l) := by
  have hz := zero8
  have HL := Lib.hid hl
  have i0 : Hw ((w.alloc (.cells (rowF 8 h.get) 31)).alloc (.cells tab8 31)) w.heap.size 31 8 h.get := (Hw.new rfl).alloc _
  have i1 : Hw ((w.alloc (.cells (rowF 8 h.get) 31)).alloc (.cells tab8 31)) (w.heap.size + 1) 31 8 (fun _ => 0) := Hw.new2 _ tab8_row
  have iB : Below w.heap.size w ((w.alloc (.cells (rowF 8 h.get) 31)).alloc (.cells tab8 31)) := bl_alloc (bl_alloc (Below.refl _ _) _) _
  have hu8 := Try.underlying31
  have hi8 : (Try.prog.info? 31).map (·.size) = some (rowF 8 h.get).toList.length := by rw [size8, Array.length_toList, rowF_size]
  have I0 := Lib.hid i0
  have I1 := Lib.hid i1
  have IB := Lib.hid iB
  have HR := Lib.hid (hr.below iB)
  have HA : ad.block < ((w.alloc (.cells (rowF 8 h.get) 31)).alloc (.cells tab8 31)).heap.size := Nat.lt_of_lt_of_le hadl iB.size
  clear i0 i1 iB hl hr
  go_enter Try.func18, Try.ntmps18
  go_upto_region 3 with fail
  generalize (w.alloc (.cells (rowF 8 h.get) 31)).alloc (.cells tab8 31) = w0 at *
  clear hz
  refine wp_region_held_drew (S := fun w' => w'.rangeAt w.heap.size 0 (rowF 8 h.get).toList ∧ Below w.heap.size w w') (by kernel_rfl) ⟨rangeH_of (I0.out.below (Below.drew (Below.refl _ _))), Below.drew IB.out⟩ (fun hHeld => ?_)
  refine wpAnyH_take (i := 0) rfl (by kernel_rfl) (by kernel_rfl) (by kernel_rfl) (fun _ _ _ h => h) (yieldsIf_load_mid (by rfl) _ _ rfl _ _ rfl _ _ (fun _ h => h.1) hu8 rfl hi8) hHeld ?_
  simp only [List.getElem_toArray, List.getElem_cons_zero, List.getElem_cons_succ, Act.put, List.setIfInBounds_toArray, List.set_cons_zero, List.set_cons_succ]
  refine wpAnyH_take (i := 1) (v := ?vq1) rfl (by kernel_rfl) (by kernel_rfl) (by kernel_rfl) (fun _ _ _ h => h) (Or.inl ⟨by rfl, ?yq1⟩) hHeld ?rq1
  case yq1 => (intro wS hSw; clear hSw; go_simp; try (with_reducible rfl))
  simp only [List.getElem_toArray, List.getElem_cons_zero, List.getElem_cons_succ, Act.put, List.setIfInBounds_toArray, List.set_cons_zero, List.set_cons_succ]
  refine wpAnyH_ready (rs := [2]) (by kernel_rfl) (by simp) (AllReadyH.cons rfl (fun K hK => ?_) AllReadyH.nil)
  have hb0 : Below w0.heap.size w0 w0.drew := Below.drew (Below.refl _ _)
  have W1 := Lib.hid (words_any ad c l w0.drew HL.out (HR.out.below hb0) HA)
  go_simp
  go_at_call 38; refine W1.out.mono ?_
  rintro e w1 ⟨g1, c1, rfl, hg1, hc1, hr1, hb1⟩
  have hB1 := bl_trans hb0 hb1
  have HR1 := Lib.hid hr1
  have HB1 := Lib.hid hB1
  clear hHeld hb0 hb1 hr1 hB1 W1
  go_wp2_with fail
  refine hK.out _ _ ⟨rangeH_of (I0.out.below HB1.out), bl_trans IB.out HB1.out⟩ (fun hHeld => ?_)
  clear hK K
  try simp only [List.getElem_toArray, List.getElem_cons_zero, List.getElem_cons_succ, Act.put, List.setIfInBounds_toArray, List.set_cons_zero, List.set_cons_succ]
  refine wpAnyH_ready (rs := [3]) (by kernel_rfl) (by simp) (AllReadyH.cons rfl (fun K hK => ?_) AllReadyH.nil)
  have W2 := Lib.hid (refRoots_k w1)
  go_simp
  go_at_call 34; refine W2.out.mono ?_
  rintro e w2 ⟨g2, c2, rfl, hg2, hc2, hr2, hb2⟩
  have HR2 := Lib.hid hr2
  have HR3 := Lib.hid (HR1.out.below hb2)
  have HB2 := Lib.hid (bl_trans HB1.out hb2)
  clear hHeld hb2 hr2 W2 HR1 HB1
  go_wp2_with fail
  refine hK.out _ _ ⟨rangeH_of (I0.out.below HB2.out), bl_trans IB.out HB2.out⟩ (fun hHeld => ?_)
  clear hK K
  try simp only [List.getElem_toArray, List.getElem_cons_zero, List.getElem_cons_succ, Act.put, List.setIfInBounds_toArray, List.set_cons_zero, List.set_cons_succ]
  refine wpAnyH_ready (rs := [4]) (by kernel_rfl) (by simp) (AllReadyH.cons rfl (fun K hK => ?_) AllReadyH.nil)
  have W3 := Lib.hid (refRounds_k h l g1 c1 g2 c2 w2 HR3.out HR2.out)
  go_simp
  go_at_call 37; refine W3.out.mono ?_
  rintro e w3 ⟨rfl, hb3⟩
  have HB3 := Lib.hid (bl_trans HB2.out hb3)
  clear hHeld hb3 W3 HR2 HR3 HB2
  go_wp2_with fail
  refine hK.out _ _ ⟨rangeH_of (I0.out.below HB3.out), bl_trans IB.out HB3.out⟩ (fun hHeld => ?_)
  clear hK K
  try simp only [List.getElem_toArray, List.getElem_cons_zero, List.getElem_cons_succ, Act.put, List.setIfInBounds_toArray, List.set_cons_zero, List.set_cons_succ]
  refine wpAnyH_ready (rs := [5]) (by kernel_rfl) (by simp) (AllReadyH.cons rfl (fun K hK => ?_) AllReadyH.nil)
  rw [if_pos (by rfl)]
  have hZ := I1.out.below HB3.out
  have hX := I0.out.below HB3.out
  refine wp_store_row 31 _ _ rfl (w.heap.size + 1) _ rfl rfl 31 _ hZ (by rw [size8, rowF_size]) (by rw [rowF_size, rowF_size]) (rowF_one _ _) ?_
  have hY := setRow_heap _ _ _ (rowF 8 (blockE h l).get) _ _ hZ
  have hX2 : Hw (w3.setRow (w.heap.size + 1) (rowF 8 (blockE h l).get)) w.heap.size 31 8 h.get := (setRow_other _ _ _ _ (by omega)).trans hX
  have hS2 : Below w.heap.size w (w3.setRow (w.heap.size + 1) (rowF 8 (blockE h l).get)) := bl_setRow (bl_trans IB.out HB3.out) (by omega) _
  refine hK.out _ _ ⟨rangeH_of hX2, hS2⟩ (fun hHeld => ?_)
  clear hK K
  try simp only [List.getElem_toArray, List.getElem_cons_zero, List.getElem_cons_succ, Act.put, List.setIfInBounds_toArray, List.set_cons_zero, List.set_cons_succ]
  refine wpAnyH_take (i := 6) (v := ?vd6) rfl (by kernel_rfl) (by kernel_rfl) (by kernel_rfl) (fun _ _ _ h => h) (Or.inl ⟨by rfl, ?yd6⟩) hHeld ?rd6
  case yd6 => (intro wS hSw; clear hSw; go_simp; try (with_reducible rfl))
  simp only [List.getElem_toArray, List.getElem_cons_zero, List.getElem_cons_succ, Act.put, List.setIfInBounds_toArray, List.set_cons_zero, List.set_cons_succ]
  refine wpAnyH_done (by kernel_rfl) ?_ _
  go_wp2_with fail
  refine bodyPost_ret (v := .tuple #[.agg (rowF 8 (blockE h l).get), .int .i64 0]) (results_cell_row_tmp rfl _ _ (w.heap.size + 1) _ _ rfl rfl (load8 hY (by rw [rowF_size]))) rfl ⟨?_, hS2⟩
  unfold blockF blockR
  rw [if_pos HL.out, if_pos HL.out]

set_option maxHeartbeats 2000000 in
set_option maxRecDepth 100000 in
theorem refBlock_no (h : S8) (A : Option Addr) (n c : Nat) (l : List UInt8) (w : World) (hl : l.length = n) (h64 : n ≠ 64) :
    Calls Try.prog 18 #[.agg (rowF 8 h.get), .slice A n c] w (GotK w h l) := by
  have hz := zero8
  have HL := Lib.hid hl
  have hb : ((n : Int) != 64) = true := by simp; omega
  have i1 : Hw ((w.alloc (.cells (rowF 8 h.get) 31)).alloc (.cells tab8 31)) (w.heap.size + 1) 31 8 (fun _ => 0) := Hw.new2 _ tab8_row
  have iB : Below w.heap.size w ((w.alloc (.cells (rowF 8 h.get) 31)).alloc (.cells tab8 31)) := bl_alloc (bl_alloc (Below.refl _ _) _) _
  have I1 := Lib.hid i1
  have IB := Lib.hid iB
  have H := Lib.hid h64
  clear i1 iB hl h64
  go_enter Try.func18, Try.ntmps18
  go_wp2_with (refine wpList_store_row rfl 31 _ _ rfl (w.heap.size + 1) _ rfl rfl 31 _ I1.out (by rw [size8]; rfl) (by rw [rowF_size]; rfl) tab8_one ?_)
  refine bodyPost_ret (v := .tuple #[.agg tab8, .int .i64 2]) (results_cell_row_tmp rfl _ _ (w.heap.size + 1) _ _ rfl rfl (load8 (setRow_heap _ _ _ _ _ _ I1.out) rfl)) rfl ⟨?_, bl_setRow IB.out (by omega) _⟩
  have e : tab8 = rowF 8 (S8.of fun _ => 0).get := by rw [tab8_row]; exact rowF_congr 8 (fun j hj => (S8.of_get (fun _ => 0) j hj).symm)
  unfold blockF blockR
  rw [if_neg (by rw [HL.out]; exact H.out), if_neg (by rw [HL.out]; exact H.out), e]

end Go.Proofs.Ythpcmceomamadaa
