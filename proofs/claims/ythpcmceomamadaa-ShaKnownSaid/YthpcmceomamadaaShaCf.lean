/- folded of the statements. No condition but that the bytes can be read and are so many blocks. -/
import Derived.Test.YthpcmceomamadaaShaCg
set_option linter.unusedVariables false
set_option linter.unusedSimpArgs false
namespace Go.Proofs.Ythpcmceomamadaa
open Go.RowKit

set_option maxHeartbeats 8000000 in
set_option maxRecDepth 100000 in
theorem folded_any (h : S8) (g off n c m : Nat) (l : List UInt8) (w : World) (hl : l.length = n) (hn : n = 64 * m) (hn5 : n ≤ 6000) (hnc : n ≤ c) (hr : Rd w (some ⟨g, off, none⟩) l) :
    Calls Try.prog 47 #[.agg (rowF 8 h.get), .slice (some ⟨g, off, none⟩) n c] w (GotFo w (foldE h l m)) := by
  have HL := Lib.hid hl
  have HR := Lib.hid hr
  have HN := Lib.hid hn
  have hr64 : (n : Int) % 64 = 0 := by omega
  clear hl hr hn
  have i0 : Hw ((w.alloc (.cells (rowF 8 h.get) 31)).alloc (.cells #[.int .u32 0, .int .u32 0, .int .u32 0, .int .u32 0, .int .u32 0, .int .u32 0, .int .u32 0, .int .u32 0] 31)) w.heap.size 31 8 h.get := (Hw.new rfl).alloc _
  have i1 : Hw ((w.alloc (.cells (rowF 8 h.get) 31)).alloc (.cells #[.int .u32 0, .int .u32 0, .int .u32 0, .int .u32 0, .int .u32 0, .int .u32 0, .int .u32 0, .int .u32 0] 31)) (w.heap.size + 1) 31 8 (fun _ => 0) := Hw.new2 _ z8_row
  have iB : Below w.heap.size w ((w.alloc (.cells (rowF 8 h.get) 31)).alloc (.cells #[.int .u32 0, .int .u32 0, .int .u32 0, .int .u32 0, .int .u32 0, .int .u32 0, .int .u32 0, .int .u32 0] 31)) := bl_alloc (bl_alloc (Below.refl _ _) _) _
  have I0 := Lib.hid i0
  have I1 := Lib.hid i1
  have IB := Lib.hid iB
  clear i0 i1 iB
  go_enter Try.func47, Try.ntmps47
  go_wp2
  go_loopw [6] (fun i wr => ∃ k s : Nat, k ≤ m ∧ i = .int .i64 (s : Int) ∧ s = 64 * k ∧ Hw wr w.heap.size 31 8 (foldE h l k).get ∧ Hw wr (w.heap.size + 1) 31 8 (fun _ => 0) ∧ Below w.heap.size w wr) (fun i _ => n - (intOf i).toNat)
  case atStart => exact ⟨0, 0, by omega, rfl, rfl, I0.out, I1.out, IB.out⟩
  case round =>
    clear I0 I1 IB
    obtain ⟨k, s, hk, rfl, hs, h0, h1, hB⟩ := hrel
    by_cases hlt : k < m
    · obtain ⟨t, ht⟩ : ∃ t, t = s + 64 := ⟨_, rfl⟩
      have htn : t ≤ n := by have := HN.out; omega
      have et : (s : Int) + 64 = (t : Int) := by omega
      have et2 : IntKind.i64.wrap (t : Int) = (t : Int) := IntWalk.i64_in _ (by omega)
      have hcut := cut_two ⟨g, off, none⟩ n c s t ht htn hnc
      obtain ⟨hrb, hlb⟩ := rd_block (HR.out.below hB) k m (by rw [HL.out]; exact HN.out) hlt
      rw [← hs] at hrb
      obtain ⟨c0, c1, c2, c3, c4, c5, c6, c7⟩ := h0.at0
      have hlt0 : w.heap.size < wr.heap.size := h0.lt
      have H0 := Lib.hid h0
      have H1 := Lib.hid h1
      have HB := Lib.hid hB
      have HS := Lib.hid hs
      have HT := Lib.hid ht
      have HRb := Lib.hid hrb
      have HLb := Lib.hid hlb
      have htn' : (t : Int) ≤ (n : Int) := by omega
      have hx : Hid (blockE (foldE h l k) (blockAt l k) = foldE h l (k + 1)) := rfl
      generalize foldE h l k = x at *
      generalize hy : foldE h l (k + 1) = y at *
      have HY := Lib.hid hy
      clear hy
      generalize blockAt l k = bl at *
      generalize (⟨g, off, none⟩ : Addr).add s = ad at *
      clear h0 h1 hB hs ht hrb hlb
      go_wp2
      have HR1 : Rd wr.drew (some ad) bl := HRb.out
      have HR2 : Rd (wr.drew.alloc (.cells #[.int .u32 0, .int .u32 0, .int .u32 0, .int .u32 0, .int .u32 0, .int .u32 0, .int .u32 0, .int .u32 0] 31)) (some ad) bl := Rd.alloc HR1 _
      go_region_with (go_at_call 17; refine (block_lit x (some ad) (c - s) bl y _ HLb.out hx.out (by first | exact HR1 | exact HR2)).mono ?_; rintro e w1 ⟨rfl, hb1⟩; obtain ⟨hcc, hff⟩ := bcell hb1)
      · have hF := leaf_one (w := w) (wr := wr) (w1 := w1) (x := x) (y := y) hb1 H0.out H1.out HB.out
        clear hcc hff hb1 HR1 HR2 c0 c1 c2 c3 c4 c5 c6 c7 H0 H1 HB
        generalize w1.alloc (.cells #[.int .u32 (y.a.toNat : Int), .int .u32 (y.b.toNat : Int), .int .u32 (y.c.toNat : Int), .int .u32 (y.d.toNat : Int), .int .u32 (y.e.toNat : Int), .int .u32 (y.f.toNat : Int), .int .u32 (y.g.toNat : Int), .int .u32 (y.h.toNat : Int)] 31) = W at *
        obtain ⟨m7, m0, m1, mB, hX⟩ := hF
        have M7 := Lib.hid m7
        have M0 := Lib.hid m0
        have M1 := Lib.hid m1
        have MB := Lib.hid mB
        clear m7 m0 m1 mB
        go_wp2_with (first
          | (refine wpList_load_row rfl 31 (.tmp 7) rfl _ rfl 31 _ (0, 0) _ M7.out Try.underlying31 rfl (by rw [size8, rowF_size]) ?_)
          | (refine wpList_store_row rfl 31 (.tmp 2) _ rfl w.heap.size _ rfl rfl 31 _ M0.out (by rw [size8, rowF_size]) (by rw [rowF_size, rowF_size]) (rowF_one _ _) ?_))
        clear et et2
        refine ⟨⟨k + 1, t, by omega, by go_num, by rw [HT.out, HS.out]; omega, ?_, ?_, bl_setRow MB.out (Nat.le_refl _) _⟩, by simp [intOf]; have := HT.out; omega⟩
        · rw [HY.out]
          exact setRow_heap _ _ _ _ _ _ M0.out
        · exact (setRow_other _ _ _ _ (by omega)).trans M1.out
      · have hF := leaf_two (w := w) (wr := wr) (w1 := w1) (x := x) (y := y) hb1 H0.out H1.out HB.out
        clear hcc hff hb1 HR1 HR2 c0 c1 c2 c3 c4 c5 c6 c7 H0 H1 HB
        generalize ((((((((w1.setCell ⟨wr.heap.size, 0, none⟩ (.int .u32 (y.a.toNat : Int))).setCell ⟨wr.heap.size, 1, none⟩ (.int .u32 (y.b.toNat : Int))).setCell ⟨wr.heap.size, 2, none⟩ (.int .u32 (y.c.toNat : Int))).setCell ⟨wr.heap.size, 3, none⟩ (.int .u32 (y.d.toNat : Int))).setCell ⟨wr.heap.size, 4, none⟩ (.int .u32 (y.e.toNat : Int))).setCell ⟨wr.heap.size, 5, none⟩ (.int .u32 (y.f.toNat : Int))).setCell ⟨wr.heap.size, 6, none⟩ (.int .u32 (y.g.toNat : Int))).setCell ⟨wr.heap.size, 7, none⟩ (.int .u32 (y.h.toNat : Int))) = W at *
        obtain ⟨m7, m0, m1, mB, hX⟩ := hF
        have M7 := Lib.hid m7
        have M0 := Lib.hid m0
        have M1 := Lib.hid m1
        have MB := Lib.hid mB
        clear m7 m0 m1 mB
        go_wp2_with (first
          | (refine wpList_load_row rfl 31 (.tmp 7) rfl _ rfl 31 _ (0, 0) _ M7.out Try.underlying31 rfl (by rw [size8, rowF_size]) ?_)
          | (refine wpList_store_row rfl 31 (.tmp 2) _ rfl w.heap.size _ rfl rfl 31 _ M0.out (by rw [size8, rowF_size]) (by rw [rowF_size, rowF_size]) (rowF_one _ _) ?_))
        clear et et2
        refine ⟨⟨k + 1, t, by omega, by go_num, by rw [HT.out, HS.out]; omega, ?_, ?_, bl_setRow MB.out (Nat.le_refl _) _⟩, by simp [intOf]; have := HT.out; omega⟩
        · rw [HY.out]
          exact setRow_heap _ _ _ _ _ _ M0.out
        · exact (setRow_other _ _ _ _ (by omega)).trans M1.out
      · have hF := leaf_two (w := w) (wr := wr) (w1 := w1) (x := x) (y := y) hb1 H0.out H1.out HB.out
        clear hcc hff hb1 HR1 HR2 c0 c1 c2 c3 c4 c5 c6 c7 H0 H1 HB
        generalize ((((((((w1.setCell ⟨wr.heap.size, 0, none⟩ (.int .u32 (y.a.toNat : Int))).setCell ⟨wr.heap.size, 1, none⟩ (.int .u32 (y.b.toNat : Int))).setCell ⟨wr.heap.size, 2, none⟩ (.int .u32 (y.c.toNat : Int))).setCell ⟨wr.heap.size, 3, none⟩ (.int .u32 (y.d.toNat : Int))).setCell ⟨wr.heap.size, 4, none⟩ (.int .u32 (y.e.toNat : Int))).setCell ⟨wr.heap.size, 5, none⟩ (.int .u32 (y.f.toNat : Int))).setCell ⟨wr.heap.size, 6, none⟩ (.int .u32 (y.g.toNat : Int))).setCell ⟨wr.heap.size, 7, none⟩ (.int .u32 (y.h.toNat : Int))) = W at *
        obtain ⟨m7, m0, m1, mB, hX⟩ := hF
        have M7 := Lib.hid m7
        have M0 := Lib.hid m0
        have M1 := Lib.hid m1
        have MB := Lib.hid mB
        clear m7 m0 m1 mB
        go_wp2_with (first
          | (refine wpList_load_row rfl 31 (.tmp 7) rfl _ rfl 31 _ (0, 0) _ M7.out Try.underlying31 rfl (by rw [size8, rowF_size]) ?_)
          | (refine wpList_store_row rfl 31 (.tmp 2) _ rfl w.heap.size _ rfl rfl 31 _ M0.out (by rw [size8, rowF_size]) (by rw [rowF_size, rowF_size]) (rowF_one _ _) ?_))
        clear et et2
        refine ⟨⟨k + 1, t, by omega, by go_num, by rw [HT.out, HS.out]; omega, ?_, ?_, bl_setRow MB.out (Nat.le_refl _) _⟩, by simp [intOf]; have := HT.out; omega⟩
        · rw [HY.out]
          exact setRow_heap _ _ _ _ _ _ M0.out
        · exact (setRow_other _ _ _ _ (by omega)).trans M1.out
    · obtain rfl : k = m := by omega
      have hsn : s = n := by rw [hs]; exact HN.out.symm
      subst hsn
      have H0 := Lib.hid h0
      have H1 := Lib.hid h1
      have HB := Lib.hid hB
      clear h0 h1 hB hs
      have hgt : ¬ (s : Int) + 64 ≤ (s : Int) := by omega
      go_wp2_with (first
        | (refine wpList_load_row rfl 31 (.tmp 2) rfl w.heap.size rfl 31 _ (0, 0) _ H0.out Try.underlying31 rfl (by rw [size8, rowF_size]) ?_)
        | (refine wpList_store_row rfl 31 (.tmp 4) _ rfl (w.heap.size + 1) _ rfl rfl 31 _ H1.out (by rw [size8, rowF_size]) (by rw [rowF_size, rowF_size]) (rowF_one _ _) ?_))
      refine bodyPost_ret (v := .tuple #[.agg (rowF 8 (foldE h l k).get), .bool true]) (results_cell_row_tmp rfl _ _ (w.heap.size + 1) _ _ rfl rfl (load8 (setRow_heap _ _ _ _ _ _ H1.out) (by rw [rowF_size]))) rfl ⟨rfl, bl_setRow HB.out (by omega) _⟩

end Go.Proofs.Ythpcmceomamadaa
