/- The document's Has and with, over the translated program. No condition. -/
import Derived.Test.YtcgoacfcdlbhdaaDoorSetF
set_option linter.unusedVariables false
set_option linter.unusedSimpArgs false
namespace Go.Proofs.YtcgoacfcdlbhdaaDoor
open Go.RowKit

set_option maxHeartbeats 2000000 in
set_option maxRecDepth 20000 in
theorem refHas_any (f : Nat → BitVec 64) (c : Nat) (hc : c < 256) (w : World) :
    Calls Tryd.prog 23 #[.agg (row4 f), .int .u8 (c : Int)] w (GotB w (has f c)) := by
  go_enter Tryd.func23, Tryd.ntmps23
  obtain ⟨q, hq⟩ : ∃ q, c / 64 = q := ⟨_, rfl⟩
  obtain ⟨r, hr⟩ : ∃ r, c % 64 = r := ⟨_, rfl⟩
  have hq4 : q < 4 := by omega
  have hr4 : r < 64 := by omega
  have eq1 : (c : Int) / 64 = (q : Int) := by omega
  have er1 : (c : Int) % 64 = (r : Int) := by omega
  have hb := bit_of (f q) r
  have hh : has f c = (f q).getLsbD r := by unfold has; rw [hq, hr]
  have hA := (H4.new w f)
  have hc1 := hA.cell hq4
  have HB := Lib.hid hb
  have HH := Lib.hid hh
  clear hA hb hh hq hr
  go_wp2
  go_ret
  rw [HB.out, HH.out]
  exact ⟨rfl, bl_alloc (Below.refl _ _) _⟩

set_option maxHeartbeats 2000000 in
set_option maxRecDepth 20000 in
theorem with_any (f : Nat → BitVec 64) (c : Nat) (hc : c < 256) (w : World) :
    Calls Tryd.prog 28 #[.agg (row4 f), .int .u8 (c : Int)] w (Got4 w (putW f c)) := by
  have hz := zero4
  rw [tab4_row] at hz
  go_enter Tryd.func28, Tryd.ntmps28
  obtain ⟨q, hq⟩ : ∃ q, c / 64 = q := ⟨_, rfl⟩
  obtain ⟨r, hr⟩ : ∃ r, c % 64 = r := ⟨_, rfl⟩
  have hq4 : q < 4 := by omega
  have hr4 : r < 64 := by omega
  have eq1 : (c : Int) / 64 = (q : Int) := by omega
  have er1 : (c : Int) % 64 = (r : Int) := by omega
  have HQ := Lib.hid hq
  have HR := Lib.hid hr
  clear hq hr
  have hb := bit_at r
  have hput := put_at f c q r HQ.out HR.out
  obtain ⟨m, hm⟩ : ∃ m, 1#64 <<< r = m := ⟨_, rfl⟩
  have ho := or64 (f q) m
  obtain ⟨y, hy⟩ : ∃ y, f q ||| m = y := ⟨_, rfl⟩
  rw [hm] at hb hput
  rw [hy] at ho hput
  clear hm hy
  have hc1 := ((H4.new w f).alloc (.cells (row4 nilW) 24)).cell hq4
  have hf1 := ((H4.new w f).alloc (.cells (row4 nilW) 24)).free q
  have er : (row4 f).setIfInBounds q (.int .u64 (y.toNat : Int)) = row4 (putW f c) := (row4_set f q y).trans (row4_congr (fun j _ => (hput j).symm))
  have hA := (H4.new w (putW f c)).alloc (.cells (row4 nilW) 24)
  have hC := H4.new1 w (.cells (row4 (putW f c)) 24) nilW
  have hL : Below w.heap.size w ((w.alloc (.cells (row4 (putW f c)) 24)).alloc (.cells (row4 nilW) 24)) := bl_alloc (bl_alloc (Below.refl _ _) _) _
  rw [← er] at hA hC hL
  have HA := Lib.hid hA
  have HC := Lib.hid hC
  have HL := Lib.hid hL
  have ER := Lib.hid er
  clear hA hC hL er hput
  unfold H4 at HA HC
  go_wp2_with (first
    | (refine wpList_load_row rfl 24 _ rfl w.heap.size rfl 24 _ (0, 0) _ HA.out Tryd.underlying24 rfl (by rw [size4, row4_size]) ?_)
    | (refine wpList_store_row rfl 24 _ _ rfl (w.heap.size + 1) _ rfl rfl 24 _ HC.out (by rw [size4, row4_size]) (by rw [row4_size, row4_size]) (row4_one _) ?_))
  have ER1 := ER.out
  rw [ER1] at HC HL ⊢
  refine bodyPost_ret (v := .agg (row4 (putW f c))) (results_cell_row rfl _ _ (w.heap.size + 1) 24 _ (0, 0) _ rfl (setRow_heap _ _ _ _ _ _ HC.out) Tryd.underlying24 rfl (by rw [size4, row4_size])) rfl ⟨rfl, ?_⟩
  exact bl_setRow HL.out (by omega) _

end Go.Proofs.YtcgoacfcdlbhdaaDoor
