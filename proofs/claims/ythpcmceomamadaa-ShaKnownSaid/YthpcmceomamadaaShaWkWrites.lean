/- The walk of ShaWrites: Hex and Parse are the document's. No condition. -/
import Derived.Test.YthpcmceomamadaaShaRP
import Derived.Test.YthpcmceomamadaaShaWkBack
import Derived.Deep.MidRow
import Derived.Deep.RegionHeld3
set_option linter.unusedVariables false
set_option linter.unusedSimpArgs false
namespace Go.Proofs.Ythpcmceomamadaa
open Go.ChangeShapes Go.WideShapes Go.ChangeAt Go.RowKit

theorem range_of {w : World} {b : Nat} {t : TypeId} {f : Nat → UInt8} (h : Hb w b t 32 f) : w.rangeAt b 0 (rowB 32 f).toList := fun j v hv => by
  have hj : j < 32 := by
    have := (List.getElem?_eq_some_iff.1 hv).1
    rw [Array.length_toList, rowB_size] at this
    exact this
  have hc := h.cell hj
  rw [Nat.zero_add, hc]
  rw [Array.getElem?_toList] at hv
  rw [← hv]
  unfold rowB
  simp [hj]
  rfl

/-- What the last line reads. -/
def WritesS (b0 b1 b2 : Nat) (f g : Nat → UInt8) (w : World) : Prop :=
  Hb w b0 37 32 f ∧ Hb w b1 37 32 g ∧ Hb w b2 37 32 g
theorem WritesS.below {b0 b1 b2 : Nat} {f g : Nat → UInt8} {w w' : World} (h : WritesS b0 b1 b2 f g w) (hb : Below w.heap.size w w') : WritesS b0 b1 b2 f g w' :=
  ⟨h.1.below hb, h.2.1.below hb, h.2.2.below hb⟩
def WritesAll (w0 : World) (b0 b1 b2 : Nat) (f g : Nat → UInt8) (w : World) : Prop :=
  w.rangeAt b0 0 (rowB 32 f).toList ∧ w.rangeAt b1 0 (rowB 32 g).toList ∧ w.rangeAt b2 0 (rowB 32 g).toList ∧ WritesS b0 b1 b2 f g w ∧ Below w0.heap.size w0 w
theorem writes_all {w0 w : World} {b0 b1 b2 : Nat} {f g : Nat → UInt8} (h : WritesS b0 b1 b2 f g w) (hB : Below w0.heap.size w0 w) :
    w.rangeAt b0 0 (rowB 32 f).toList ∧ w.rangeAt b1 0 (rowB 32 g).toList ∧ w.rangeAt b2 0 (rowB 32 g).toList ∧ WritesS b0 b1 b2 f g w ∧ Below w0.heap.size w0 w :=
  ⟨range_of h.1, range_of h.2.1, range_of h.2.2, h, hB⟩

set_option maxHeartbeats 4000000 in
set_option maxRecDepth 100000 in
theorem writes_walk (f : Nat → UInt8) (l : List UInt8) (w : World) (hl : l.length ≤ maxLen) :
    Calls Try.prog 25 #[.agg (rowB 32 f), .string ⟨l.toArray⟩] w (Yes w) := by
  have hz := zero32
  have P := Lib.hid (fun W => parse_any l W hl)
  have R := Lib.hid (fun W => refParse_any l W hl)
  obtain ⟨h, hh⟩ : ∃ h, hexE f = h := ⟨_, rfl⟩
  have HH := Lib.hid hh
  have HX1 := Lib.hid (fun W => hex_is f h hh W)
  have HX2 : Hid (∀ W, Calls Try.prog 50 #[.agg (rowB 32 f)] W (GotS W h)) := Lib.hid (fun W => by rw [← hh]; exact refHex_any f W)
  obtain ⟨g, hg⟩ : ∃ g, parseF l = g := ⟨_, rfl⟩
  obtain ⟨r, hr⟩ : ∃ r, parseR l = r := ⟨_, rfl⟩
  have P2 : Hid (∀ W, Calls Try.prog 48 #[.string ⟨l.toArray⟩] W (fun e w' => e = .returned (.tuple #[.agg (rowB 32 g), .int .i64 r]) ∧ Below W.heap.size W w')) := Lib.hid (fun W => by rw [← hg, ← hr]; exact P.out W)
  have R2 : Hid (∀ W, Calls Try.prog 49 #[.string ⟨l.toArray⟩] W (fun e w' => e = .returned (.tuple #[.agg (rowB 32 g), .int .i64 r]) ∧ Below W.heap.size W w')) := Lib.hid (fun W => by rw [← hg, ← hr]; exact R.out W)
  clear hh P R hg hr hl
  have i0 : Hb (w.alloc (.cells (rowB 32 f) 37)) w.heap.size 37 32 f := heap_alloc_new w _
  have I0 := Lib.hid i0
  clear i0
  go_enter Try.func25, Try.ntmps25
  go_wp2_with fail
  refine (P2.out _).mono ?_
  rintro e w1 ⟨rfl, hb1⟩
  have B1 := Lib.hid (bl_trans (bl_alloc (Below.refl _ _) _) hb1)
  have J0 := Lib.hid (I0.out.below hb1)
  clear hb1 I0
  have n1 : (w1.alloc (.cells tab32 37)).heap[w1.heap.size]? = some (.cells tab32 37 (0, 0)) := heap_alloc_new w1 _
  have N1 := Lib.hid n1
  clear n1
  go_wp2_with (refine wpList_store_row rfl 37 _ _ rfl w1.heap.size _ rfl rfl 37 _ N1.out (by rw [size32, rowB_size]) (by rw [rowB_size]; rfl) (rowB_one _ _) ?_)
  have m1 : Hb ((w1.alloc (.cells tab32 37)).setRow w1.heap.size (rowB 32 g)) w1.heap.size 37 32 g := setRow_heap _ _ _ _ _ _ N1.out
  have m0 : Hb ((w1.alloc (.cells tab32 37)).setRow w1.heap.size (rowB 32 g)) w.heap.size 37 32 f := (setRow_other _ _ _ _ (by have := J0.out.lt; omega)).trans (J0.out.alloc _)
  have mB : Below w.heap.size w ((w1.alloc (.cells tab32 37)).setRow w1.heap.size (rowB 32 g)) := bl_setRow (bl_alloc B1.out _) B1.out.size _
  generalize hx3 : (w1.alloc (.cells tab32 37)).setRow w1.heap.size (rowB 32 g) = w3 at *
  clear hx3 N1
  refine (R2.out _).mono ?_
  rintro e w4 ⟨rfl, hb4⟩
  have L0 := Lib.hid (m0.below hb4)
  have L1 := Lib.hid (m1.below hb4)
  have LB := Lib.hid (bl_trans mB hb4)
  have hlt0 := (m0.below hb4).lt
  have hlt1 := (m1.below hb4).lt
  have n2 : (w4.alloc (.cells tab32 37)).heap[w4.heap.size]? = some (.cells tab32 37 (0, 0)) := heap_alloc_new w4 _
  have N2 := Lib.hid n2
  clear n2 m0 m1 mB hb4 J0 B1
  have q0 : Hb ((w4.alloc (.cells tab32 37)).setRow w4.heap.size (rowB 32 g)) w.heap.size 37 32 f := (setRow_other _ _ _ _ (by omega)).trans (L0.out.alloc _)
  have q1 : Hb ((w4.alloc (.cells tab32 37)).setRow w4.heap.size (rowB 32 g)) w1.heap.size 37 32 g := (setRow_other _ _ _ _ (by omega)).trans (L1.out.alloc _)
  have q2 : Hb ((w4.alloc (.cells tab32 37)).setRow w4.heap.size (rowB 32 g)) w4.heap.size 37 32 g := setRow_heap _ _ _ _ _ _ N2.out
  have qB : Below w.heap.size w ((w4.alloc (.cells tab32 37)).setRow w4.heap.size (rowB 32 g)) := bl_setRow (bl_alloc LB.out _) LB.out.size _
  have QS := Lib.hid (writes_all (w0 := w) (w := (w4.alloc (.cells tab32 37)).setRow w4.heap.size (rowB 32 g)) ⟨q0, q1, q2⟩ qB)
  clear q0 q1 q2 qB L0 L1 LB
  go_wp2_with (refine wpList_store_row rfl 37 _ _ rfl w4.heap.size _ rfl rfl 37 _ N2.out (by rw [size32, rowB_size]) (by rw [rowB_size]; rfl) (rowB_one _ _) ?_)
  clear N2
  generalize hx5 : (w4.alloc (.cells tab32 37)).setRow w4.heap.size (rowB 32 g) = w5 at *
  clear hx5
  generalize hb1 : w1.heap.size = b1 at *
  generalize hb2 : w4.heap.size = b2 at *
  have hsame := same_is g
  have qs := QS.out
  have hu32 := Try.underlying37
  have hi32 : (Try.prog.info? 37).map (·.size) = some (rowB 32 f).toList.length := by rw [size32, Array.length_toList, rowB_size]
  have hi32g : (Try.prog.info? 37).map (·.size) = some (rowB 32 g).toList.length := by rw [size32, Array.length_toList, rowB_size]
  have keepC : ∀ a b : World, (a.rangeAt w.heap.size 0 (rowB 32 f).toList ∧ a.rangeAt b1 0 (rowB 32 g).toList ∧ a.rangeAt b2 0 (rowB 32 g).toList ∧ WritesS w.heap.size b1 b2 f g a ∧ Below w.heap.size w a) → Below a.heap.size a b →
      (b.rangeAt w.heap.size 0 (rowB 32 f).toList ∧ b.rangeAt b1 0 (rowB 32 g).toList ∧ b.rangeAt b2 0 (rowB 32 g).toList ∧ WritesS w.heap.size b1 b2 f g b ∧ Below w.heap.size w b) := fun a b h hb => by
    have hs := h.2.2.2.1.below hb
    exact ⟨range_of hs.1, range_of hs.2.1, range_of hs.2.2, hs, bl_trans h.2.2.2.2 hb⟩
  have KC := Lib.hid keepC
  clear keepC QS
  refine wp_region_held_drew (S := (fun w' => w'.rangeAt w.heap.size 0 (rowB 32 f).toList ∧ w'.rangeAt b1 0 (rowB 32 g).toList ∧ w'.rangeAt b2 0 (rowB 32 g).toList ∧ WritesS w.heap.size b1 b2 f g w' ∧ Below w.heap.size w w')) (by kernel_rfl) (KC.out _ _ qs (Below.drew (Below.refl _ _))) (fun hHeld => ?_)
  clear qs
  refine wpAnyH_take (i := 0) rfl (by kernel_rfl) (by kernel_rfl) (by kernel_rfl) (fun _ _ _ h => h) (yieldsIf_load_mid (by rfl) _ _ rfl _ _ rfl _ _ (fun _ h => h.1) hu32 rfl hi32) hHeld ?_
  try simp only [List.getElem_toArray, List.getElem_cons_zero, List.getElem_cons_succ, Act.put, List.setIfInBounds_toArray, List.set_cons_zero, List.set_cons_succ]
  refine wpAnyH_take (i := 2) rfl (by kernel_rfl) (by kernel_rfl) (by kernel_rfl) (fun _ _ _ h => h) (yieldsIf_load_mid (by rfl) _ _ rfl _ _ rfl _ _ (fun _ h => h.1) hu32 rfl hi32) hHeld ?_
  try simp only [List.getElem_toArray, List.getElem_cons_zero, List.getElem_cons_succ, Act.put, List.setIfInBounds_toArray, List.set_cons_zero, List.set_cons_succ]
  refine wpAnyH_ready (rs := [1]) (by kernel_rfl) (by simp) (AllReadyH.cons rfl (fun K hK => ?_) AllReadyH.nil)
  go_simp
  go_at_call 21; refine (HX1.out _).mono ?_; rintro e w6 ⟨rfl, hb6⟩
  have hs6 := KC.out _ _ hHeld hb6
  clear hHeld hb6
  go_wp2_with fail
  refine hK.out _ _ hs6 (fun hHeld => ?_)
  clear hK K hs6
  try simp only [List.getElem_toArray, List.getElem_cons_zero, List.getElem_cons_succ, Act.put, List.setIfInBounds_toArray, List.set_cons_zero, List.set_cons_succ]
  refine wpAnyH_ready (rs := [3]) (by kernel_rfl) (by simp) (AllReadyH.cons rfl (fun K hK => ?_) AllReadyH.nil)
  go_simp
  go_at_call 50; refine (HX2.out _).mono ?_; rintro e w6 ⟨rfl, hb6⟩
  have hs6 := KC.out _ _ hHeld hb6
  clear hHeld hb6
  go_wp2_with fail
  refine hK.out _ _ hs6 (fun hHeld => ?_)
  clear hK K hs6
  try simp only [List.getElem_toArray, List.getElem_cons_zero, List.getElem_cons_succ, Act.put, List.setIfInBounds_toArray, List.set_cons_zero, List.set_cons_succ]
  refine wpAnyH_take (i := 4) (v := ?va4) rfl (by kernel_rfl) (by kernel_rfl) (by kernel_rfl) (fun _ _ _ h => h) (Or.inl ⟨by rfl, ?ya4⟩) hHeld ?ra4
  case ya4 => (intro wS hSw; clear hSw; go_simp; try (with_reducible rfl))
  try simp only [List.getElem_toArray, List.getElem_cons_zero, List.getElem_cons_succ, Act.put, List.setIfInBounds_toArray, List.set_cons_zero, List.set_cons_succ]
  refine wpAnyH_take (i := 5) (v := ?va5) rfl (by kernel_rfl) (by kernel_rfl) (by kernel_rfl) (fun _ _ _ h => h) (Or.inl ⟨by rfl, ?ya5⟩) hHeld ?ra5
  case ya5 => (intro wS hSw; clear hSw; go_simp; try (with_reducible rfl))
  try simp only [List.getElem_toArray, List.getElem_cons_zero, List.getElem_cons_succ, Act.put, List.setIfInBounds_toArray, List.set_cons_zero, List.set_cons_succ]
  refine wpAnyH_take (i := 6) rfl (by kernel_rfl) (by kernel_rfl) (by kernel_rfl) (fun _ _ _ h => h) (yieldsIf_load_mid (by rfl) _ _ rfl _ _ rfl _ _ (fun _ h => h.2.1) hu32 rfl hi32g) hHeld ?_
  try simp only [List.getElem_toArray, List.getElem_cons_zero, List.getElem_cons_succ, Act.put, List.setIfInBounds_toArray, List.set_cons_zero, List.set_cons_succ]
  refine wpAnyH_take (i := 7) rfl (by kernel_rfl) (by kernel_rfl) (by kernel_rfl) (fun _ _ _ h => h) (yieldsIf_load_mid (by rfl) _ _ rfl _ _ rfl _ _ (fun _ h => h.2.2.1) hu32 rfl hi32g) hHeld ?_
  try simp only [List.getElem_toArray, List.getElem_cons_zero, List.getElem_cons_succ, Act.put, List.setIfInBounds_toArray, List.set_cons_zero, List.set_cons_succ]
  refine wpAnyH_take (i := 8) (v := ?va8) rfl (by kernel_rfl) (by kernel_rfl) (by kernel_rfl) (fun _ _ _ h => h) (Or.inl ⟨by rfl, ?ya8⟩) hHeld ?ra8
  case ya8 => (intro wS hSw; clear hSw; go_simp; try (with_reducible rfl))
  try simp only [List.getElem_toArray, List.getElem_cons_zero, List.getElem_cons_succ, Act.put, List.setIfInBounds_toArray, List.set_cons_zero, List.set_cons_succ]
  refine wpAnyH_take (i := 9) (v := ?va9) rfl (by kernel_rfl) (by kernel_rfl) (by kernel_rfl) (fun _ _ _ h => h) (Or.inl ⟨by rfl, ?ya9⟩) hHeld ?ra9
  case ya9 => (intro wS hSw; clear hSw; go_simp; try (with_reducible rfl))
  try simp only [List.getElem_toArray, List.getElem_cons_zero, List.getElem_cons_succ, Act.put, List.setIfInBounds_toArray, List.set_cons_zero, List.set_cons_succ]
  refine wpAnyH_take (i := 10) (v := ?va10) rfl (by kernel_rfl) (by kernel_rfl) (by kernel_rfl) (fun _ _ _ h => h) (Or.inl ⟨by rfl, ?ya10⟩) hHeld ?ra10
  case ya10 => (intro wS hSw; clear hSw; go_simp; try (with_reducible rfl))
  try simp only [List.getElem_toArray, List.getElem_cons_zero, List.getElem_cons_succ, Act.put, List.setIfInBounds_toArray, List.set_cons_zero, List.set_cons_succ]
  refine wpAnyH_take (i := 11) (v := ?va11) rfl (by kernel_rfl) (by kernel_rfl) (by kernel_rfl) (fun _ _ _ h => h) (Or.inl ⟨by rfl, ?ya11⟩) hHeld ?ra11
  case ya11 => (intro wS hSw; clear hSw; go_simp; try (with_reducible rfl))
  try simp only [List.getElem_toArray, List.getElem_cons_zero, List.getElem_cons_succ, Act.put, List.setIfInBounds_toArray, List.set_cons_zero, List.set_cons_succ]
  refine wpAnyH_take (i := 12) (v := ?va12) rfl (by kernel_rfl) (by kernel_rfl) (by kernel_rfl) (fun _ _ _ h => h) (Or.inl ⟨by rfl, ?ya12⟩) hHeld ?ra12
  case ya12 => (intro wS hSw; clear hSw; go_simp; try (with_reducible rfl))
  try simp only [List.getElem_toArray, List.getElem_cons_zero, List.getElem_cons_succ, Act.put, List.setIfInBounds_toArray, List.set_cons_zero, List.set_cons_succ]
  refine wpAnyH_take (i := 13) (v := ?va13) rfl (by kernel_rfl) (by kernel_rfl) (by kernel_rfl) (fun _ _ _ h => h) (Or.inl ⟨by rfl, ?ya13⟩) hHeld ?ra13
  case ya13 => (intro wS hSw; clear hSw; go_simp; try (with_reducible rfl))
  try simp only [List.getElem_toArray, List.getElem_cons_zero, List.getElem_cons_succ, Act.put, List.setIfInBounds_toArray, List.set_cons_zero, List.set_cons_succ]
  refine wpAnyH_take (i := 14) (v := ?va14) rfl (by kernel_rfl) (by kernel_rfl) (by kernel_rfl) (fun _ _ _ h => h) (Or.inl ⟨by rfl, ?ya14⟩) hHeld ?ra14
  case ya14 => (intro wS hSw; clear hSw; go_simp; try (with_reducible rfl))
  try simp only [List.getElem_toArray, List.getElem_cons_zero, List.getElem_cons_succ, Act.put, List.setIfInBounds_toArray, List.set_cons_zero, List.set_cons_succ]
  refine wpAnyH_take (i := 15) (v := ?va15) rfl (by kernel_rfl) (by kernel_rfl) (by kernel_rfl) (fun _ _ _ h => h) (Or.inl ⟨by rfl, ?ya15⟩) hHeld ?ra15
  case ya15 => (intro wS hSw; clear hSw; go_simp; try (with_reducible rfl))
  try simp only [List.getElem_toArray, List.getElem_cons_zero, List.getElem_cons_succ, Act.put, List.setIfInBounds_toArray, List.set_cons_zero, List.set_cons_succ]
  refine wpAnyH_ready (rs := [16]) (by kernel_rfl) (by simp) (AllReadyH.cons rfl (fun K hK => ?_) AllReadyH.nil)
  go_simp
  go_at_call 10; refine (awake_any _).mono ?_; rintro e w6 ⟨rfl, hb6⟩
  have hs6 := KC.out _ _ hHeld hb6
  clear hHeld hb6
  go_wp2_with fail
  refine hK.out _ _ hs6 (fun hHeld => ?_)
  clear hK K hs6
  try simp only [List.getElem_toArray, List.getElem_cons_zero, List.getElem_cons_succ, Act.put, List.setIfInBounds_toArray, List.set_cons_zero, List.set_cons_succ]
  refine wpAnyH_take (i := 17) (v := ?va17) rfl (by kernel_rfl) (by kernel_rfl) (by kernel_rfl) (fun _ _ _ h => h) (Or.inl ⟨by rfl, ?ya17⟩) hHeld ?ra17
  case ya17 => (intro wS hSw; clear hSw; go_simp; try (with_reducible rfl))
  try simp only [List.getElem_toArray, List.getElem_cons_zero, List.getElem_cons_succ, Act.put, List.setIfInBounds_toArray, List.set_cons_zero, List.set_cons_succ]
  refine wpAnyH_take (i := 18) (v := ?va18) rfl (by kernel_rfl) (by kernel_rfl) (by kernel_rfl) (fun _ _ _ h => h) (Or.inl ⟨by rfl, ?ya18⟩) hHeld ?ra18
  case ya18 => (intro wS hSw; clear hSw; go_simp; try (with_reducible rfl))
  try simp only [List.getElem_toArray, List.getElem_cons_zero, List.getElem_cons_succ, Act.put, List.setIfInBounds_toArray, List.set_cons_zero, List.set_cons_succ]
  refine wpAnyH_done (by kernel_rfl) ?_ _
  have hB := Lib.hid hHeld.2.2.2.2
  clear hHeld
  go_wp2
  go_ret
  exact ⟨rfl, hB.out⟩

end Go.Proofs.Ythpcmceomamadaa
