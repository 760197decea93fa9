/- ShaBlocks: what the program's Block makes is what the document's makes. No condition. -/
import Derived.Test.YthpcmceomamadaaShaBk
import Derived.Test.YthpcmceomamadaaShaOp
set_option linter.unusedVariables false
set_option linter.unusedSimpArgs false
namespace Go.Proofs.Ythpcmceomamadaa
open Go.ChangeShapes Go.WideShapes Go.ChangeAt Go.RowKit

theorem eq_yesB (A A' : Option Addr) (n c n' c' : Nat) (l : List UInt8) (w : World) (hl : l.length = n) (hl' : l.length = n') (hr : Rd w A l) (hr' : Rd w A' l) (hn : n ≤ maxLen) (hn' : n' ≤ maxLen) :
    Calls Try.prog 12 #[.slice A n c, .slice A' n' c'] w (GotBool w true) := by
  have h := eq_any A A' n c n' c' l l w hl hl' hr hr' hn hn'
  rw [decide_eq_true rfl] at h
  exact h

theorem refBlock_any (h : S8) (A : Option Addr) (n c : Nat) (l : List UInt8) (w w0 : World) (hl : l.length = n) (hr : Rd w0 A l) (hb : Below w0.heap.size w0 w) :
    Calls Try.prog 18 #[.agg (rowF 8 h.get), .slice A n c] w (GotK w h l) := by
  by_cases h64 : n = 64
  · subst h64
    obtain ⟨ad, rfl, hc⟩ := hr (by omega)
    have hlt := World.block_lt_of_cell? w0 _ (hc 0 (by omega))
    rw [add_block] at hlt
    exact refBlock_yes h ad c l w hl (hr.below hb) (Nat.lt_of_lt_of_le hlt hb.size)
  · exact refBlock_no h A n c l w hl h64

set_option maxHeartbeats 2000000 in
set_option maxRecDepth 100000 in
theorem blocks_walk (h : S8) (A : Option Addr) (n c : Nat) (l : List UInt8) (w : World) (hl : l.length = n) (hmc : n ≤ c) (hcl : c ≤ 140737488351232) (hr : Rd w A l) :
    Calls Try.prog 5 #[.agg (rowF 8 h.get), .slice A n c] w (Yes w) := by
  have HL := Lib.hid hl
  have HR := Lib.hid hr
  have hz := zero8
  have i0 : Hw (w.alloc (.cells (rowF 8 h.get) 31)) w.heap.size 31 8 h.get := Hw.new rfl
  have I0 := Lib.hid i0
  have HB0 := Lib.hid (bl_alloc (Below.refl w.heap.size w) (.cells (rowF 8 h.get) 31))
  clear hl hr i0
  go_enter Try.func5, Try.ntmps5
  go_wp2_with fail
  generalize w.alloc (.cells (rowF 8 h.get) 31) = w0 at *
  refine (copy_any A n c l _ HL.out (HR.out.below HB0.out) (by omega)).mono ?_
  rintro e w1 ⟨v1, rfl, ho1, hb1⟩
  obtain ⟨A1, n1, c1, rfl, HL1, _, _, hr1⟩ := ho1.form
  have hn1 : n1 ≤ 140737488351232 := by rw [← HL1.out, HL.out]; omega
  have HR1 := Lib.hid hr1
  have I1 := Lib.hid (I0.out.below hb1)
  have HB1 := Lib.hid (bl_trans HB0.out hb1)
  have hx1 : w.heap.size < w1.heap.size := (I0.out.below hb1).lt
  clear ho1 hr1 hb1 I0 HB0
  go_wp2_with (refine wpList_load_row rfl 31 _ rfl w.heap.size rfl 31 _ (0, 0) _ I1.out Try.underlying31 rfl (by rw [size8, rowF_size]) ?_)
  refine (block_any h A1 n1 c1 l _ HL1.out HR1.out (by simp only [maxLen]; omega)).mono ?_
  rintro e w2 ⟨rfl, hb2⟩
  obtain ⟨x, hx⟩ : ∃ x, blockF h l = x := ⟨_, rfl⟩
  obtain ⟨z, hzz⟩ : ∃ z, blockR l = z := ⟨_, rfl⟩
  rw [hx, hzz]
  have HX := Lib.hid hx
  have HZ := Lib.hid hzz
  have I2 := Lib.hid ((I1.out.below hb2).alloc (.cells tab8 31))
  have HR2 := Lib.hid (HR1.out.below hb2)
  have HB2 := Lib.hid (bl_alloc (bl_trans HB1.out hb2) (.cells tab8 31))
  have j2 : Hw (w2.alloc (.cells tab8 31)) w2.heap.size 31 8 (fun _ => 0) := Hw.new tab8_row
  have J2 := Lib.hid j2
  have hx2 : w.heap.size < w2.heap.size := (I1.out.below hb2).lt
  clear hb2 hx hzz j2 I1 HR1 HB1
  go_wp2_with (first
    | (refine wpList_store_row rfl 31 _ _ rfl w2.heap.size _ rfl rfl 31 _ J2.out (by rw [size8, rowF_size]) (by rw [rowF_size, rowF_size]) (rowF_one _ _) ?_)
    | (refine wpList_load_row rfl 31 _ rfl w.heap.size rfl 31 _ (0, 0) _ (show ((w2.alloc (.cells tab8 31)).setRow w2.heap.size (rowF 8 x.get)).heap[w.heap.size]? = some (.cells (rowF 8 h.get) 31 (0, 0)) from (setRow_other _ _ _ _ (by omega)).trans I2.out) Try.underlying31 rfl (by rw [size8, rowF_size]) ?_))
  have k2 : Hw ((w2.alloc (.cells tab8 31)).setRow w2.heap.size (rowF 8 x.get)) w2.heap.size 31 8 x.get := setRow_heap _ _ _ _ _ _ J2.out
  have kB : Below w.heap.size w ((w2.alloc (.cells tab8 31)).setRow w2.heap.size (rowF 8 x.get)) := bl_setRow HB2.out (by omega) _
  have hg2 : (w2.alloc (.cells tab8 31)).heap.size = w2.heap.size + 1 := by simp
  have kb2 : Below w2.heap.size w2 ((w2.alloc (.cells tab8 31)).setRow w2.heap.size (rowF 8 x.get)) := bl_setRow (bl_alloc (Below.refl _ _) _) (Nat.le_refl _) _
  have kR : Rd ((w2.alloc (.cells tab8 31)).setRow w2.heap.size (rowF 8 x.get)) A1 l := HR2.out.below kb2
  clear kb2
  generalize (w2.alloc (.cells tab8 31)).setRow w2.heap.size (rowF 8 x.get) = w3 at *
  refine (refBlock_any h A n c l _ w HL.out HR.out kB).mono ?_
  rintro e w4 ⟨rfl, hb4⟩
  rw [HX.out, HZ.out]
  have K2 := Lib.hid ((k2.below hb4).alloc (.cells tab8 31))
  have KR := Lib.hid (kR.below hb4)
  have KB := Lib.hid (bl_alloc (bl_trans kB hb4) (.cells tab8 31))
  have j4 : Hw (w4.alloc (.cells tab8 31)) w4.heap.size 31 8 (fun _ => 0) := Hw.new tab8_row
  have J4 := Lib.hid j4
  have hx4 : w2.heap.size < w4.heap.size := (k2.below hb4).lt
  have hsw := fun W => same_words x.get W
  clear hb4 j4 k2 kR kB I2 HR2 HB2 J2 hg2 HX HZ
  go_wp2_with (first
    | (refine wpList_store_row rfl 31 _ _ rfl w4.heap.size _ rfl rfl 31 _ J4.out (by rw [size8, rowF_size]) (by rw [rowF_size, rowF_size]) (rowF_one _ _) ?_)
    | (refine wpList_load_row rfl 31 (.tmp 6) rfl w2.heap.size rfl 31 _ (0, 0) _ (show ((w4.alloc (.cells tab8 31)).setRow w4.heap.size (rowF 8 x.get)).heap[w2.heap.size]? = some (.cells (rowF 8 x.get) 31 (0, 0)) from (setRow_other _ _ _ _ (by omega)).trans K2.out) Try.underlying31 rfl (by rw [size8, rowF_size]) ?_)
    | (refine wpList_load_row rfl 31 (.tmp 8) rfl w4.heap.size rfl 31 _ (0, 0) _ (setRow_heap _ _ _ (rowF 8 x.get) _ _ J4.out) Try.underlying31 rfl (by rw [size8, rowF_size]) ?_))
  have mB : Below w.heap.size w ((w4.alloc (.cells tab8 31)).setRow w4.heap.size (rowF 8 x.get)) := bl_setRow KB.out (by omega) _
  have mR : Rd ((w4.alloc (.cells tab8 31)).setRow w4.heap.size (rowF 8 x.get)) A1 l := KR.out.below (bl_setRow (bl_alloc (Below.refl _ _) _) (Nat.le_refl _) _)
  generalize (w4.alloc (.cells tab8 31)).setRow w4.heap.size (rowF 8 x.get) = w5 at *
  refine (eq_yesB A1 A n1 c1 n c l _ HL1.out HL.out mR (HR.out.below mB) (by simp only [maxLen]; omega) (by simp only [maxLen]; omega)).mono ?_
  rintro e w6 ⟨rfl, hb6⟩
  have HB6 := Lib.hid (bl_trans mB hb6)
  clear hb6 mB mR
  go_wp2_with fail
  refine (awake_any _).mono ?_
  rintro e w7 ⟨rfl, hb7⟩
  clear hsw
  go_wp2
  go_ret
  exact ⟨rfl, bl_trans HB6.out hb7⟩

set_option maxRecDepth 100000 in
theorem ShaBlocks_holds : Rows.ShaBlocksSaid :=
  OpenClaim.holds_of_wide 5 Try.f5 rfl rfl rfl rfl rfl rfl rfl ⟨rfl, rfl, rfl, rfl, rfl⟩ rfl rfl rfl rfl rfl (by kernel_rfl) Try.func5 (by kernel_rfl)
    (of_decide_eq_true (by kernel_rfl)) (by unfold Func.isWrapper; first | (rw [if_pos (by decide +kernel)]; kernel_rfl) | (rw [if_neg (by decide +kernel)]; exact ⟨rfl, rfl⟩))
    (fun os started H enc _ => law_lifted (s := Rows.shaBlocksSpec) Try.func5 (by kernel_rfl) rfl
      (fun H ds h => by rw [Try.params5] at h; match ds, h with | [_, _], _ => rfl) (by kernel_rfl) (by kernel_rfl)
      os started H enc
      (ChangeSpec.witness6 (enc := enc) (C := Try.checked) false ⟨#[], #[.agg (rowF 8 (fun _ => 0)), .slice none 0 0], []⟩ 8 (by kernel_rfl) (by kernel_rfl) (by kernel_rfl) (by kernel_rfl))
      (fun W args ds p h => by
        obtain ⟨⟨base, hok⟩, hA, hl⟩ := h
        rw [Try.params5] at hok hA hl
        obtain ⟨v0, v1, d0, d1, p0, p1, rfl, rfl, rfl, g0, g1⟩ := trodAll_two hA
        obtain ⟨f0, rfl⟩ := open_eight (hok 0 31 v0 rfl rfl) g0
        obtain ⟨A1, n1, c1, l1, rfl, e1, a1, b1, r1⟩ := open_bytes (hok 1 28 v1 rfl rfl) g1 (hl 1 28 d1 rfl rfl)
        exact blocks_walk f0 A1 n1 c1 l1 W e1 a1 b1 r1))

end Go.Proofs.Ythpcmceomamadaa
