/- The document's Begin, eight, Pad. No condition but that the bytes can be read, and are 5000 at most. -/
import Derived.Test.YthpcmceomamadaaShaRt
set_option linter.unusedVariables false
set_option linter.unusedSimpArgs false
namespace Go.Proofs.Ythpcmceomamadaa
open Go.RowKit

set_option maxHeartbeats 1000000 in
set_option maxRecDepth 100000 in
theorem refBegin_any (w : World) : Calls Try.prog 16 #[] w (GotF w 8 hW) := by
  have hz := zero8
  have i0 : Hw ((w.alloc (.cells tab8 31)).alloc (.cells tab8 31)) w.heap.size 31 8 (fun _ => 0) := (Hw.new tab8_row).alloc _
  have i1 : Hw ((w.alloc (.cells tab8 31)).alloc (.cells tab8 31)) (w.heap.size + 1) 31 8 (fun j => if j < 0 then hW j else 0) := Hw.new2 _ tab8_row
  have iB : Below w.heap.size w ((w.alloc (.cells tab8 31)).alloc (.cells tab8 31)) := bl_alloc (bl_alloc (Below.refl _ _) _) _
  have I0 := Lib.hid i0
  have I1 := Lib.hid i1
  have IB := Lib.hid iB
  have R := Lib.hid (fun W => (show Calls Try.prog 34 #[.int .i64 2, .int .i64 8] W (GotWs W 8 hW) from refRoots_any 2 8 (.inl rfl) (by omega) (by omega) W))
  clear i0 i1 iB
  go_enter Try.func16, Try.ntmps16
  go_wp2_with fail
  generalize (w.alloc (.cells tab8 31)).alloc (.cells tab8 31) = w0 at *
  (with_reducible refine (R.out _).mono ?_)
  rintro e w1 ⟨g, c, rfl, hg, hc, hr, hb⟩
  have J0 := Lib.hid (I0.out.below hb)
  have J1 := Lib.hid (I1.out.below hb)
  have JB := Lib.hid (bl_trans IB.out hb)
  have JR := Lib.hid hr
  have hne : w.heap.size + 1 < w0.heap.size := I1.out.lt
  clear I0 I1 IB hr hb R hz
  go_wp2_with fail
  go_loopw [3] (fun i wr => ∃ q : Nat, q ≤ 8 ∧ i = .int .i64 (q : Int) ∧ Hid (Hw wr (w.heap.size + 1) 31 8 (fun j => if j < q then hW j else 0)) ∧ Hid (Hw wr w.heap.size 31 8 (fun _ => 0)) ∧ Hid (RdW wr g 8 hW) ∧ Hid (Below w.heap.size w wr)) (fun i _ => 8 - (intOf i).toNat)
  case atStart => exact ⟨0, by omega, rfl, J1, J0, JR, JB⟩
  case round =>
    clear J0 J1 JB JR
    obtain ⟨q, hq, rfl, M1, M0, MR, MB⟩ := hrel
    by_cases hlt : q < 8
    · have c0 := MR.out.2 q hlt
      have c1 := M1.out.cell hlt
      have f1 := M1.out.free q
      obtain ⟨x, hx⟩ : ∃ x, hW q = x := ⟨_, rfl⟩
      rw [hx] at c0
      have HX := Lib.hid hx
      clear hx
      go_wp2
      refine ⟨⟨q + 1, by omega, by go_num, Lib.hid (M1.out.set q x (fun j _ => ?_)), Lib.hid (M0.out.other (by simp) _), Lib.hid ⟨?_, fun j hj => ?_⟩, Lib.hid (MB.out.setCell (p := ⟨w.heap.size + 1, q, none⟩) (by simp) _)⟩, by simp [intOf]; omega⟩
      · by_cases e : j = q
        · subst e
          rw [if_pos (by omega), if_pos rfl, HX.out]
        · rw [if_neg e]
          by_cases e2 : j < q
          · rw [if_pos (by omega), if_pos e2]
          · rw [if_neg (by omega), if_neg e2]
      · have := MR.out.1
        simpa using this
      · have h := MR.out.2 j hj
        rw [← h]
        exact World.cell?_of_block (Below.heap_setCell _ _ _ _ (by simp; omega))
    · obtain rfl : q = 8 := by omega
      have e8 : rowF 8 (fun j => if j < 8 then hW j else 0) = rowF 8 hW := rowF_congr 8 (fun j hj => if_pos hj)
      have m1 := M1.out
      unfold Hw at m1
      rw [e8] at m1
      have N1 := Lib.hid m1
      clear m1 e8 M1
      go_wp2_with (first
        | (refine wpList_load_row rfl 31 _ rfl (w.heap.size + 1) rfl 31 _ (0, 0) _ N1.out Try.underlying31 rfl (by rw [size8, rowF_size]) ?_)
        | (refine wpList_store_row rfl 31 _ _ rfl w.heap.size _ rfl rfl 31 _ M0.out (by rw [size8, rowF_size]) (by rw [rowF_size, rowF_size]) (rowF_one _ _) ?_))
      refine bodyPost_ret (v := .agg (rowF 8 hW)) (results_cell_row rfl _ _ w.heap.size 31 _ (0, 0) _ rfl (setRow_heap _ _ _ _ _ _ M0.out) Try.underlying31 rfl (by rw [size8, rowF_size])) rfl ⟨rfl, ?_⟩
      exact bl_setRow MB.out (Nat.le_refl _) _

end Go.Proofs.Ythpcmceomamadaa
