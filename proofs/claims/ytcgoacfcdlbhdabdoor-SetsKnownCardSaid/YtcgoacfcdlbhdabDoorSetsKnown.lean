/- SetsKnown: both ends (a closed statement). Under: the table of math/bits that the row lists is as its initialiser lays it. -/
import Derived.Test.YtcgoacfcdlbhdabDoorSetRow
import Derived.Test.YtcgoacfcdlbhdabDoorSetQ
set_option linter.unusedVariables false
set_option linter.unusedSimpArgs false
namespace Go.Proofs.YtcgoacfcdlbhdabDoor
open Go.ChangeShapes Go.WideShapes Go.ChangeAt Go.RowKit

def wh : Nat → BitVec 64 := allW nilW (spanL 0 (255 + 1 - 0))
def s255 : Nat → BitVec 64 := allW nilW (natL [255])
def s4 : Nat → BitVec 64 := allW nilW (natL [255, 0, 128, 63])
def p255 : Nat → BitVec 64 := allW nilW (spanL 255 (255 + 1 - 255))
def p00 : Nat → BitVec 64 := allW nilW (spanL 0 (0 + 1 - 0))
theorem kn1 : Eq4 wh (notW nilW) := by decide +kernel
theorem kn2 : (elems wh).length = 256 := by decide +kernel
theorem kn3 : elems s255 = [255] := by decide +kernel
theorem kn4 : bytesL s4 = [0, 63, 128, 255] := by decide +kernel
theorem kn5 : elems nilW = [] := by decide +kernel
theorem kn6 : Eq4 p255 s255 := by decide +kernel
theorem kn7 : (elems wh).head? = some 0 := by decide +kernel
theorem kn8 : leastV (elems wh) = .tuple #[.int .u8 0, .bool true] := by
  have h := kn7
  cases he : elems wh with
  | nil => rw [he] at h; cases h
  | cons c r => rw [he] at h; cases h; rfl
theorem own_rd {w : World} {base : Nat} {A : Option Addr} {n c : Nat} {l : List UInt8} (h : Own w base (.slice A n c) l) : Rd w A l := by
  obtain ⟨A', n', c', e, _, _, _, hr⟩ := h.form
  cases e
  exact hr
theorem span_wh (w : World) : Calls Tryd.prog 6 #[.int .u8 0, .int .u8 255] w (Got4 w wh) := span_any 0 255 (by omega) (by omega) w
theorem span_255 (w : World) : Calls Tryd.prog 6 #[.int .u8 255, .int .u8 255] w (Got4 w p255) := span_any 255 255 (by omega) (by omega) w
theorem span_00 (w : World) : Calls Tryd.prog 6 #[.int .u8 0, .int .u8 0] w (Got4 w p00) := span_any 0 0 (by omega) (by omega) w
theorem of_s255 (w : World) : Calls Tryd.prog 11 #[.slice (some ⟨w.heap.size, 0, none⟩) 1 1] (w.alloc (.cells #[.int .u8 255] 5)) (Got4 (w.alloc (.cells #[.int .u8 255] 5)) s255) := of_lit [255] 1 _ w rfl (by omega) rfl
theorem of_s4 (w : World) : Calls Tryd.prog 11 #[.slice (some ⟨w.heap.size, 0, none⟩) 4 4] (w.alloc (.cells #[.int .u8 255, .int .u8 0, .int .u8 128, .int .u8 63] 5)) (Got4 (w.alloc (.cells #[.int .u8 255, .int .u8 0, .int .u8 128, .int .u8 63] 5)) s4) := of_lit [255, 0, 128, 63] 4 _ w rfl (by omega) rfl
theorem of_255r (w : World) (A : Option Addr) (hr : Rd w A [255]) : Calls Tryd.prog 11 #[.slice A 1 1] w (Got4 w s255) := of_any A 1 1 [255] rfl (by omega) w hr
theorem least_255 (w : World) (hT : Tab w) : Calls Tryd.prog 10 #[.agg (row4 s255)] w (fun e w' => e = .returned (.tuple #[.int .u8 255, .bool true]) ∧ Below w.heap.size w w') := by
  have h := least_any s255 w hT
  unfold GotL at h
  rw [kn3] at h
  exact h
theorem least_wh (w : World) (hT : Tab w) : Calls Tryd.prog 10 #[.agg (row4 wh)] w (fun e w' => e = .returned (.tuple #[.int .u8 0, .bool true]) ∧ Below w.heap.size w w') := by
  have h := least_any wh w hT
  unfold GotL at h
  rw [kn8] at h
  exact h
theorem not_nil (w : World) : Calls Tryd.prog 13 #[.agg #[.int .u64 0, .int .u64 0, .int .u64 0, .int .u64 0]] w (Got4 w (notW nilW)) := by
  rw [nil_row]
  exact not_any nilW w
theorem len_nil (w : World) : Calls Tryd.prog 8 #[.agg #[.int .u64 0, .int .u64 0, .int .u64 0, .int .u64 0]] w (GotN w 0) := by
  rw [nil_row]
  have h := len_any nilW w
  rw [kn5] at h
  exact h
theorem len_wh (w : World) : Calls Tryd.prog 8 #[.agg (row4 wh)] w (GotN w 256) := by
  have h := len_any wh w
  rw [kn2] at h
  exact h
/-- A list of so many bytes. -/
def GotK (w : World) (n : Nat) (e : Ending) (w' : World) : Prop := ∃ A c, e = .returned (.slice A n c) ∧ Below w.heap.size w w'
theorem all_nil (w : World) (hT : Tab w) : Calls Tryd.prog 12 #[.agg #[.int .u64 0, .int .u64 0, .int .u64 0, .int .u64 0]] w (GotK w 0) := by
  rw [nil_row]
  refine (all_any nilW w hT).mono ?_
  rintro e w' ⟨v, rfl, ho, hb⟩
  obtain ⟨A, n, c, rfl, HL, _⟩ := ho.form
  have hn : n = 0 := by rw [← HL.out, bytesL_len, kn5]; rfl
  subst hn
  exact ⟨A, c, rfl, hb⟩
theorem all_wh (w : World) (hT : Tab w) : Calls Tryd.prog 12 #[.agg (row4 wh)] w (GotK w 256) := by
  refine (all_any wh w hT).mono ?_
  rintro e w' ⟨v, rfl, ho, hb⟩
  obtain ⟨A, n, c, rfl, HL, _⟩ := ho.form
  have hn : n = 256 := by rw [← HL.out, bytesL_len, kn2]
  subst hn
  exact ⟨A, c, rfl, hb⟩

set_option maxHeartbeats 4000000 in
set_option maxRecDepth 100000 in
theorem known_walk (w : World) (hT : Tab w) : Calls Tryd.prog 4 #[] w (Yes w) := by
  have hz := zero4l
  have q1 := same_sets kn1
  have q2 := same_sets kn6
  have q3 := eq_lit p00 1 0 0 0 #[.int .u64 1, .int .u64 0, .int .u64 0, .int .u64 0] (by kernel_rfl) (by decide +kernel)
  have q4 := eq_lit (allW nilW (natL [])) 0 0 0 0 #[.int .u64 0, .int .u64 0, .int .u64 0, .int .u64 0] (by kernel_rfl) (by decide +kernel)
  have HT := Lib.hid hT
  clear hT
  go_enter Tryd.func4, Tryd.ntmps4
  go_wp2_with fail
  refine (span_wh _).mono ?_
  rintro e w1 ⟨rfl, hb1⟩
  have Bw1 := Lib.hid (bl_trans (Below.refl w.heap.size w) hb1)
  clear hb1
  have m1 := H4.new w1 nilW
  rw [← nil_row] at m1
  have M1 := Lib.hid m1
  have m2 := m1.laid (f' := wh)
  have mb := bl_setRow (bl_alloc Bw1.out (.cells #[.int .u64 0, .int .u64 0, .int .u64 0, .int .u64 0] 25)) (g := w1.heap.size) (by have := Bw1.out.size; omega) (row4 wh)
  clear m1
  go_upto_region 2 with (refine wpList_store_row rfl 25 _ _ rfl w1.heap.size _ rfl rfl 25 _ M1.out (by rw [size4, row4_size]) rfl (row4_one _) ?_)
  have hg0 : w.heap.size ≤ w1.heap.size := Bw1.out.size
  clear M1 Bw1
  generalize (w1.alloc (.cells #[.int .u64 0, .int .u64 0, .int .u64 0, .int .u64 0] 25)).setRow w1.heap.size (row4 wh) = wm at *
  generalize w1.heap.size = g at *
  have Bwm := Lib.hid mb
  have Mwm := Lib.hid m2
  clear mb m2
  go_wp2_with fail
  refine (of_s255 _).mono ?_
  rintro e w2 ⟨rfl, hb2⟩
  have Bw2 := Lib.hid (bl_trans (bl_alloc Bwm.out (.cells #[.int .u8 255] 5)) hb2)
  have Mw2 := Lib.hid ((Mwm.out.alloc (.cells #[.int .u8 255] 5)).below hb2)
  clear Mwm
  clear Bwm
  clear hb2
  go_wp2_with fail
  refine (least_255 _ (HT.out.below Bw2.out)).mono ?_
  rintro e w3 ⟨rfl, hb3⟩
  have Bw3 := Lib.hid (bl_trans Bw2.out hb3)
  have Mw3 := Lib.hid (Mw2.out.below hb3)
  clear Mw2
  clear Bw2
  clear hb3
  go_wp2_with (refine wpList_load_guarded (by rfl) 25 (.tmp 1) rfl g rfl 25 _ (0, 0) _ Mw3.out Tryd.underlying25 rfl (by rw [size4, row4_size]) ?_)
  refine (least_wh _ (HT.out.below Bw3.out)).mono ?_
  rintro e w4 ⟨rfl, hb4⟩
  have Bw4 := Lib.hid (bl_trans Bw3.out hb4)
  have Mw4 := Lib.hid (Mw3.out.below hb4)
  clear Mw3
  clear Bw3
  clear hb4
  go_wp2_with fail
  refine (of_s4 _).mono ?_
  rintro e w5 ⟨rfl, hb5⟩
  have Bw5 := Lib.hid (bl_trans (bl_alloc Bw4.out (.cells #[.int .u8 255, .int .u8 0, .int .u8 128, .int .u8 63] 5)) hb5)
  have Mw5 := Lib.hid ((Mw4.out.alloc (.cells #[.int .u8 255, .int .u8 0, .int .u8 128, .int .u8 63] 5)).below hb5)
  clear Mw4
  clear Bw4
  clear hb5
  go_wp2_with fail
  refine (all_any s4 _ (HT.out.below Bw5.out)).mono ?_
  rintro e w6 ⟨v4, rfl, ho4, hb6⟩
  have Bw6 := Lib.hid (bl_trans Bw5.out hb6)
  have Mw6 := Lib.hid (Mw5.out.below hb6)
  clear Mw5
  obtain ⟨A4, n4, c4, rfl, HL4, hnc4, hcm4, _⟩ := ho4.form
  have hm4 : n4 ≤ maxLen := Nat.le_trans hnc4 hcm4
  have ho5 := ho4.more Bw5.out.size
  have Ow6 := Lib.hid ho5
  have HM4 := Lib.hid hm4
  clear ho4 ho5 hm4 hnc4 hcm4
  clear Bw5
  clear hb6
  go_upto_region 5 with fail
  simp only [List.append_eq, List.cons_append, List.nil_append]
  refine wp_region_held_drew (S := fun w' => H4 w' g wh ∧ Own w' w.heap.size (.slice A4 n4 c4) (bytesL s4) ∧ Below w.heap.size w w') (by kernel_rfl) ⟨Mw6.out.drew, Ow6.out, Bw6.out.drew⟩ (fun hHeld => ?_)
  clear Mw6 Ow6 Bw6
  refine wpAnyH_ready (rs := [0]) (by kernel_rfl) (by simp) (AllReadyH.cons rfl (fun K hK => ?_) AllReadyH.nil)
  go_simp
  go_at_call 5
  refine (works_any _ (HT.out.below hHeld.2.2)).mono ?_
  rintro e x1 ⟨rfl, hb1⟩
  have hS1 := And.intro (hHeld.1.below hb1) (And.intro (hHeld.2.1.below hb1) (bl_trans hHeld.2.2 hb1))
  clear hHeld hb1
  go_wp2_with fail
  refine hK.out _ _ hS1 (fun hHeld => ?_)
  clear hK K hS1
  try simp only [List.getElem_toArray, List.getElem_cons_zero, List.getElem_cons_succ, Act.put, List.setIfInBounds_toArray, List.set_cons_zero, List.set_cons_succ]
  refine wpAnyH_take (i := 1) (v := ?vzk1) rfl (by kernel_rfl) (by kernel_rfl) (by kernel_rfl) (fun _ _ _ h => h) (Or.inl ⟨by rfl, ?yzk1⟩) hHeld ?rzk1
  case yzk1 => (intro wS hSw; clear hSw; go_simp; try (with_reducible rfl))
  try simp only [List.getElem_toArray, List.getElem_cons_zero, List.getElem_cons_succ, Act.put, List.setIfInBounds_toArray, List.set_cons_zero, List.set_cons_succ]
  refine wpAnyH_take (i := 2) (v := .agg (row4 wh)) rfl (by kernel_rfl) (by kernel_rfl) (by kernel_rfl) (fun _ _ _ h => h) (yields_set (by rfl) (.tmp 1) rfl g rfl wh (fun _ h => h.1)) hHeld ?_
  try simp only [List.getElem_toArray, List.getElem_cons_zero, List.getElem_cons_succ, Act.put, List.setIfInBounds_toArray, List.set_cons_zero, List.set_cons_succ]
  refine wpAnyH_take (i := 3) (v := ?vzk3) rfl (by kernel_rfl) (by kernel_rfl) (by kernel_rfl) (fun _ _ _ h => h) (Or.inl ⟨by rfl, ?yzk3⟩) hHeld ?rzk3
  case yzk3 => (intro wS hSw; clear hSw; go_simp; try (with_reducible rfl))
  try simp only [List.getElem_toArray, List.getElem_cons_zero, List.getElem_cons_succ, Act.put, List.setIfInBounds_toArray, List.set_cons_zero, List.set_cons_succ]
  refine wpAnyH_ready (rs := [4]) (by kernel_rfl) (by simp) (AllReadyH.cons rfl (fun K hK => ?_) AllReadyH.nil)
  go_simp
  go_at_call 13
  refine (not_nil _).mono ?_
  rintro e x2 ⟨rfl, hb1⟩
  have hS1 := And.intro (hHeld.1.below hb1) (And.intro (hHeld.2.1.below hb1) (bl_trans hHeld.2.2 hb1))
  clear hHeld hb1
  go_wp2_with fail
  refine hK.out _ _ hS1 (fun hHeld => ?_)
  clear hK K hS1
  try simp only [List.getElem_toArray, List.getElem_cons_zero, List.getElem_cons_succ, Act.put, List.setIfInBounds_toArray, List.set_cons_zero, List.set_cons_succ]
  refine wpAnyH_take (i := 5) (v := ?vzk5) rfl (by kernel_rfl) (by kernel_rfl) (by kernel_rfl) (fun _ _ _ h => h) (Or.inl ⟨by rfl, ?yzk5⟩) hHeld ?rzk5
  case yzk5 => (intro wS hSw; clear hSw; go_simp; try (with_reducible rfl))
  try simp only [List.getElem_toArray, List.getElem_cons_zero, List.getElem_cons_succ, Act.put, List.setIfInBounds_toArray, List.set_cons_zero, List.set_cons_succ]
  refine wpAnyH_take (i := 6) (v := ?vzk6) rfl (by kernel_rfl) (by kernel_rfl) (by kernel_rfl) (fun _ _ _ h => h) (Or.inl ⟨by rfl, ?yzk6⟩) hHeld ?rzk6
  case yzk6 => (intro wS hSw; clear hSw; go_simp; try (with_reducible rfl))
  try simp only [List.getElem_toArray, List.getElem_cons_zero, List.getElem_cons_succ, Act.put, List.setIfInBounds_toArray, List.set_cons_zero, List.set_cons_succ]
  refine wpAnyH_take (i := 7) (v := ?vzk7) rfl (by kernel_rfl) (by kernel_rfl) (by kernel_rfl) (fun _ _ _ h => h) (Or.inl ⟨by rfl, ?yzk7⟩) hHeld ?rzk7
  case yzk7 => (intro wS hSw; clear hSw; go_simp; try (with_reducible rfl))
  try simp only [List.getElem_toArray, List.getElem_cons_zero, List.getElem_cons_succ, Act.put, List.setIfInBounds_toArray, List.set_cons_zero, List.set_cons_succ]
  refine wpAnyH_take (i := 8) (v := .agg (row4 wh)) rfl (by kernel_rfl) (by kernel_rfl) (by kernel_rfl) (fun _ _ _ h => h) (yields_set (by rfl) (.tmp 1) rfl g rfl wh (fun _ h => h.1)) hHeld ?_
  try simp only [List.getElem_toArray, List.getElem_cons_zero, List.getElem_cons_succ, Act.put, List.setIfInBounds_toArray, List.set_cons_zero, List.set_cons_succ]
  refine wpAnyH_ready (rs := [9]) (by kernel_rfl) (by simp) (AllReadyH.cons rfl (fun K hK => ?_) AllReadyH.nil)
  go_simp
  go_at_call 8
  refine (len_wh _).mono ?_
  rintro e x3 ⟨rfl, hb1⟩
  have hS1 := And.intro (hHeld.1.below hb1) (And.intro (hHeld.2.1.below hb1) (bl_trans hHeld.2.2 hb1))
  clear hHeld hb1
  go_wp2_with fail
  refine hK.out _ _ hS1 (fun hHeld => ?_)
  clear hK K hS1
  try simp only [List.getElem_toArray, List.getElem_cons_zero, List.getElem_cons_succ, Act.put, List.setIfInBounds_toArray, List.set_cons_zero, List.set_cons_succ]
  refine wpAnyH_take (i := 10) (v := ?vzk10) rfl (by kernel_rfl) (by kernel_rfl) (by kernel_rfl) (fun _ _ _ h => h) (Or.inl ⟨by rfl, ?yzk10⟩) hHeld ?rzk10
  case yzk10 => (intro wS hSw; clear hSw; go_simp; try (with_reducible rfl))
  try simp only [List.getElem_toArray, List.getElem_cons_zero, List.getElem_cons_succ, Act.put, List.setIfInBounds_toArray, List.set_cons_zero, List.set_cons_succ]
  refine wpAnyH_take (i := 11) (v := ?vzk11) rfl (by kernel_rfl) (by kernel_rfl) (by kernel_rfl) (fun _ _ _ h => h) (Or.inl ⟨by rfl, ?yzk11⟩) hHeld ?rzk11
  case yzk11 => (intro wS hSw; clear hSw; go_simp; try (with_reducible rfl))
  try simp only [List.getElem_toArray, List.getElem_cons_zero, List.getElem_cons_succ, Act.put, List.setIfInBounds_toArray, List.set_cons_zero, List.set_cons_succ]
  refine wpAnyH_take (i := 12) (v := ?vzk12) rfl (by kernel_rfl) (by kernel_rfl) (by kernel_rfl) (fun _ _ _ h => h) (Or.inl ⟨by rfl, ?yzk12⟩) hHeld ?rzk12
  case yzk12 => (intro wS hSw; clear hSw; go_simp; try (with_reducible rfl))
  try simp only [List.getElem_toArray, List.getElem_cons_zero, List.getElem_cons_succ, Act.put, List.setIfInBounds_toArray, List.set_cons_zero, List.set_cons_succ]
  refine wpAnyH_take (i := 13) (v := ?vzk13) rfl (by kernel_rfl) (by kernel_rfl) (by kernel_rfl) (fun _ _ _ h => h) (Or.inl ⟨by rfl, ?yzk13⟩) hHeld ?rzk13
  case yzk13 => (intro wS hSw; clear hSw; go_simp; try (with_reducible rfl))
  try simp only [List.getElem_toArray, List.getElem_cons_zero, List.getElem_cons_succ, Act.put, List.setIfInBounds_toArray, List.set_cons_zero, List.set_cons_succ]
  refine wpAnyH_take (i := 14) (v := ?vzk14) rfl (by kernel_rfl) (by kernel_rfl) (by kernel_rfl) (fun _ _ _ h => h) (Or.inl ⟨by rfl, ?yzk14⟩) hHeld ?rzk14
  case yzk14 => (intro wS hSw; clear hSw; go_simp; try (with_reducible rfl))
  try simp only [List.getElem_toArray, List.getElem_cons_zero, List.getElem_cons_succ, Act.put, List.setIfInBounds_toArray, List.set_cons_zero, List.set_cons_succ]
  refine wpAnyH_take (i := 15) (v := ?vzk15) rfl (by kernel_rfl) (by kernel_rfl) (by kernel_rfl) (fun _ _ _ h => h) (Or.inl ⟨by rfl, ?yzk15⟩) hHeld ?rzk15
  case yzk15 => (intro wS hSw; clear hSw; go_simp; try (with_reducible rfl))
  try simp only [List.getElem_toArray, List.getElem_cons_zero, List.getElem_cons_succ, Act.put, List.setIfInBounds_toArray, List.set_cons_zero, List.set_cons_succ]
  refine wpAnyH_take (i := 16) (v := ?vzk16) rfl (by kernel_rfl) (by kernel_rfl) (by kernel_rfl) (fun _ _ _ h => h) (Or.inl ⟨by rfl, ?yzk16⟩) hHeld ?rzk16
  case yzk16 => (intro wS hSw; clear hSw; go_simp; try (with_reducible rfl))
  try simp only [List.getElem_toArray, List.getElem_cons_zero, List.getElem_cons_succ, Act.put, List.setIfInBounds_toArray, List.set_cons_zero, List.set_cons_succ]
  refine wpAnyH_take (i := 17) (v := ?vzk17) rfl (by kernel_rfl) (by kernel_rfl) (by kernel_rfl) (fun _ _ _ h => h) (Or.inl ⟨by rfl, ?yzk17⟩) hHeld ?rzk17
  case yzk17 => (intro wS hSw; clear hSw; go_simp; try (with_reducible rfl))
  try simp only [List.getElem_toArray, List.getElem_cons_zero, List.getElem_cons_succ, Act.put, List.setIfInBounds_toArray, List.set_cons_zero, List.set_cons_succ]
  refine wpAnyH_take (i := 18) (v := ?vzk18) rfl (by kernel_rfl) (by kernel_rfl) (by kernel_rfl) (fun _ _ _ h => h) (Or.inl ⟨by rfl, ?yzk18⟩) hHeld ?rzk18
  case yzk18 => (intro wS hSw; clear hSw; go_simp; try (with_reducible rfl))
  try simp only [List.getElem_toArray, List.getElem_cons_zero, List.getElem_cons_succ, Act.put, List.setIfInBounds_toArray, List.set_cons_zero, List.set_cons_succ]
  refine wpAnyH_take (i := 19) (v := ?vzk19) rfl (by kernel_rfl) (by kernel_rfl) (by kernel_rfl) (fun _ _ _ h => h) (Or.inl ⟨by rfl, ?yzk19⟩) hHeld ?rzk19
  case yzk19 => (intro wS hSw; clear hSw; go_simp; try (with_reducible rfl))
  try simp only [List.getElem_toArray, List.getElem_cons_zero, List.getElem_cons_succ, Act.put, List.setIfInBounds_toArray, List.set_cons_zero, List.set_cons_succ]
  refine wpAnyH_take (i := 20) (v := ?vzk20) rfl (by kernel_rfl) (by kernel_rfl) (by kernel_rfl) (fun _ _ _ h => h) (Or.inl ⟨by rfl, ?yzk20⟩) hHeld ?rzk20
  case yzk20 => (intro wS hSw; clear hSw; go_simp; try (with_reducible rfl))
  try simp only [List.getElem_toArray, List.getElem_cons_zero, List.getElem_cons_succ, Act.put, List.setIfInBounds_toArray, List.set_cons_zero, List.set_cons_succ]
  refine wpAnyH_take (i := 21) (v := ?vzk21) rfl (by kernel_rfl) (by kernel_rfl) (by kernel_rfl) (fun _ _ _ h => h) (Or.inl ⟨by rfl, ?yzk21⟩) hHeld ?rzk21
  case yzk21 => (intro wS hSw; clear hSw; go_simp; try (with_reducible rfl))
  try simp only [List.getElem_toArray, List.getElem_cons_zero, List.getElem_cons_succ, Act.put, List.setIfInBounds_toArray, List.set_cons_zero, List.set_cons_succ]
  refine wpAnyH_take (i := 22) (v := ?vzk22) rfl (by kernel_rfl) (by kernel_rfl) (by kernel_rfl) (fun _ _ _ h => h) (Or.inl ⟨by rfl, ?yzk22⟩) hHeld ?rzk22
  case yzk22 => (intro wS hSw; clear hSw; go_simp; try (with_reducible rfl))
  try simp only [List.getElem_toArray, List.getElem_cons_zero, List.getElem_cons_succ, Act.put, List.setIfInBounds_toArray, List.set_cons_zero, List.set_cons_succ]
  refine wpAnyH_take (i := 23) (v := ?vzk23) rfl (by kernel_rfl) (by kernel_rfl) (by kernel_rfl) (fun _ _ _ h => h) (Or.inl ⟨by rfl, ?yzk23⟩) hHeld ?rzk23
  case yzk23 => (intro wS hSw; clear hSw; go_simp; try (with_reducible rfl))
  try simp only [List.getElem_toArray, List.getElem_cons_zero, List.getElem_cons_succ, Act.put, List.setIfInBounds_toArray, List.set_cons_zero, List.set_cons_succ]
  refine wpAnyH_take (i := 24) (v := ?vzk24) rfl (by kernel_rfl) (by kernel_rfl) (by kernel_rfl) (fun _ _ _ h => h) (Or.inl ⟨by rfl, ?yzk24⟩) hHeld ?rzk24
  case yzk24 => (intro wS hSw; clear hSw; go_simp; try (with_reducible rfl))
  try simp only [List.getElem_toArray, List.getElem_cons_zero, List.getElem_cons_succ, Act.put, List.setIfInBounds_toArray, List.set_cons_zero, List.set_cons_succ]
  refine wpAnyH_take (i := 25) (v := ?vzk25) rfl (by kernel_rfl) (by kernel_rfl) (by kernel_rfl) (fun _ _ _ h => h) (Or.inl ⟨by rfl, ?yzk25⟩) hHeld ?rzk25
  case yzk25 => (intro wS hSw; clear hSw; go_simp; try (with_reducible rfl))
  try simp only [List.getElem_toArray, List.getElem_cons_zero, List.getElem_cons_succ, Act.put, List.setIfInBounds_toArray, List.set_cons_zero, List.set_cons_succ]
  refine wpAnyH_take (i := 26) (v := ?vzk26) rfl (by kernel_rfl) (by kernel_rfl) (by kernel_rfl) (fun _ _ _ h => h) (Or.inl ⟨by rfl, ?yzk26⟩) hHeld ?rzk26
  case yzk26 => (intro wS hSw; clear hSw; go_simp; try (with_reducible rfl))
  try simp only [List.getElem_toArray, List.getElem_cons_zero, List.getElem_cons_succ, Act.put, List.setIfInBounds_toArray, List.set_cons_zero, List.set_cons_succ]
  refine wpAnyH_take (i := 27) (v := ?vzk27) rfl (by kernel_rfl) (by kernel_rfl) (by kernel_rfl) (fun _ _ _ h => h) (Or.inl ⟨by rfl, ?yzk27⟩) hHeld ?rzk27
  case yzk27 => (intro wS hSw; clear hSw; go_simp; try (with_reducible rfl))
  try simp only [List.getElem_toArray, List.getElem_cons_zero, List.getElem_cons_succ, Act.put, List.setIfInBounds_toArray, List.set_cons_zero, List.set_cons_succ]
  refine wpAnyH_ready (rs := [28]) (by kernel_rfl) (by simp) (AllReadyH.cons rfl (fun K hK => ?_) AllReadyH.nil)
  go_simp
  go_at_call 8
  refine (len_nil _).mono ?_
  rintro e x4 ⟨rfl, hb1⟩
  have hS1 := And.intro (hHeld.1.below hb1) (And.intro (hHeld.2.1.below hb1) (bl_trans hHeld.2.2 hb1))
  clear hHeld hb1
  go_wp2_with fail
  refine hK.out _ _ hS1 (fun hHeld => ?_)
  clear hK K hS1
  try simp only [List.getElem_toArray, List.getElem_cons_zero, List.getElem_cons_succ, Act.put, List.setIfInBounds_toArray, List.set_cons_zero, List.set_cons_succ]
  refine wpAnyH_take (i := 29) (v := ?vzk29) rfl (by kernel_rfl) (by kernel_rfl) (by kernel_rfl) (fun _ _ _ h => h) (Or.inl ⟨by rfl, ?yzk29⟩) hHeld ?rzk29
  case yzk29 => (intro wS hSw; clear hSw; go_simp; try (with_reducible rfl))
  try simp only [List.getElem_toArray, List.getElem_cons_zero, List.getElem_cons_succ, Act.put, List.setIfInBounds_toArray, List.set_cons_zero, List.set_cons_succ]
  refine wpAnyH_take (i := 30) (v := ?vzk30) rfl (by kernel_rfl) (by kernel_rfl) (by kernel_rfl) (fun _ _ _ h => h) (Or.inl ⟨by rfl, ?yzk30⟩) hHeld ?rzk30
  case yzk30 => (intro wS hSw; clear hSw; go_simp; try (with_reducible rfl))
  try simp only [List.getElem_toArray, List.getElem_cons_zero, List.getElem_cons_succ, Act.put, List.setIfInBounds_toArray, List.set_cons_zero, List.set_cons_succ]
  refine wpAnyH_take (i := 31) (v := ?vzk31) rfl (by kernel_rfl) (by kernel_rfl) (by kernel_rfl) (fun _ _ _ h => h) (Or.inl ⟨by rfl, ?yzk31⟩) hHeld ?rzk31
  case yzk31 => (intro wS hSw; clear hSw; go_simp; try (with_reducible rfl))
  try simp only [List.getElem_toArray, List.getElem_cons_zero, List.getElem_cons_succ, Act.put, List.setIfInBounds_toArray, List.set_cons_zero, List.set_cons_succ]
  refine wpAnyH_take (i := 32) (v := ?vzk32) rfl (by kernel_rfl) (by kernel_rfl) (by kernel_rfl) (fun _ _ _ h => h) (Or.inl ⟨by rfl, ?yzk32⟩) hHeld ?rzk32
  case yzk32 => (intro wS hSw; clear hSw; go_simp; try (with_reducible rfl))
  try simp only [List.getElem_toArray, List.getElem_cons_zero, List.getElem_cons_succ, Act.put, List.setIfInBounds_toArray, List.set_cons_zero, List.set_cons_succ]
  refine wpAnyH_ready (rs := [33]) (by kernel_rfl) (by simp) (AllReadyH.cons rfl (fun K hK => ?_) AllReadyH.nil)
  go_simp
  go_at_call 12
  refine (all_nil _ (HT.out.below hHeld.2.2)).mono ?_
  rintro e x5 ⟨A0, c0, rfl, hb1⟩
  have hS1 := And.intro (hHeld.1.below hb1) (And.intro (hHeld.2.1.below hb1) (bl_trans hHeld.2.2 hb1))
  clear hHeld hb1
  go_wp2_with fail
  refine hK.out _ _ hS1 (fun hHeld => ?_)
  clear hK K hS1
  try simp only [List.getElem_toArray, List.getElem_cons_zero, List.getElem_cons_succ, Act.put, List.setIfInBounds_toArray, List.set_cons_zero, List.set_cons_succ]
  refine wpAnyH_take (i := 34) (v := ?vzk34) rfl (by kernel_rfl) (by kernel_rfl) (by kernel_rfl) (fun _ _ _ h => h) (Or.inl ⟨by rfl, ?yzk34⟩) hHeld ?rzk34
  case yzk34 => (intro wS hSw; clear hSw; go_simp; try (with_reducible rfl))
  try simp only [List.getElem_toArray, List.getElem_cons_zero, List.getElem_cons_succ, Act.put, List.setIfInBounds_toArray, List.set_cons_zero, List.set_cons_succ]
  refine wpAnyH_take (i := 35) (v := ?vzk35) rfl (by kernel_rfl) (by kernel_rfl) (by kernel_rfl) (fun _ _ _ h => h) (Or.inl ⟨by rfl, ?yzk35⟩) hHeld ?rzk35
  case yzk35 => (intro wS hSw; clear hSw; go_simp; try (with_reducible rfl))
  try simp only [List.getElem_toArray, List.getElem_cons_zero, List.getElem_cons_succ, Act.put, List.setIfInBounds_toArray, List.set_cons_zero, List.set_cons_succ]
  refine wpAnyH_take (i := 36) (v := ?vzk36) rfl (by kernel_rfl) (by kernel_rfl) (by kernel_rfl) (fun _ _ _ h => h) (Or.inl ⟨by rfl, ?yzk36⟩) hHeld ?rzk36
  case yzk36 => (intro wS hSw; clear hSw; go_simp; try (with_reducible rfl))
  try simp only [List.getElem_toArray, List.getElem_cons_zero, List.getElem_cons_succ, Act.put, List.setIfInBounds_toArray, List.set_cons_zero, List.set_cons_succ]
  refine wpAnyH_take (i := 37) (v := ?vzk37) rfl (by kernel_rfl) (by kernel_rfl) (by kernel_rfl) (fun _ _ _ h => h) (Or.inl ⟨by rfl, ?yzk37⟩) hHeld ?rzk37
  case yzk37 => (intro wS hSw; clear hSw; go_simp; try (with_reducible rfl))
  try simp only [List.getElem_toArray, List.getElem_cons_zero, List.getElem_cons_succ, Act.put, List.setIfInBounds_toArray, List.set_cons_zero, List.set_cons_succ]
  refine wpAnyH_take (i := 38) (v := .agg (row4 wh)) rfl (by kernel_rfl) (by kernel_rfl) (by kernel_rfl) (fun _ _ _ h => h) (yields_set (by rfl) (.tmp 1) rfl g rfl wh (fun _ h => h.1)) hHeld ?_
  try simp only [List.getElem_toArray, List.getElem_cons_zero, List.getElem_cons_succ, Act.put, List.setIfInBounds_toArray, List.set_cons_zero, List.set_cons_succ]
  refine wpAnyH_ready (rs := [39]) (by kernel_rfl) (by simp) (AllReadyH.cons rfl (fun K hK => ?_) AllReadyH.nil)
  go_simp
  go_at_call 12
  refine (all_wh _ (HT.out.below hHeld.2.2)).mono ?_
  rintro e x6 ⟨A1, c1, rfl, hb1⟩
  have hS1 := And.intro (hHeld.1.below hb1) (And.intro (hHeld.2.1.below hb1) (bl_trans hHeld.2.2 hb1))
  clear hHeld hb1
  go_wp2_with fail
  refine hK.out _ _ hS1 (fun hHeld => ?_)
  clear hK K hS1
  try simp only [List.getElem_toArray, List.getElem_cons_zero, List.getElem_cons_succ, Act.put, List.setIfInBounds_toArray, List.set_cons_zero, List.set_cons_succ]
  refine wpAnyH_take (i := 40) (v := ?vzk40) rfl (by kernel_rfl) (by kernel_rfl) (by kernel_rfl) (fun _ _ _ h => h) (Or.inl ⟨by rfl, ?yzk40⟩) hHeld ?rzk40
  case yzk40 => (intro wS hSw; clear hSw; go_simp; try (with_reducible rfl))
  try simp only [List.getElem_toArray, List.getElem_cons_zero, List.getElem_cons_succ, Act.put, List.setIfInBounds_toArray, List.set_cons_zero, List.set_cons_succ]
  refine wpAnyH_take (i := 41) (v := ?vzk41) rfl (by kernel_rfl) (by kernel_rfl) (by kernel_rfl) (fun _ _ _ h => h) (Or.inl ⟨by rfl, ?yzk41⟩) hHeld ?rzk41
  case yzk41 => (intro wS hSw; clear hSw; go_simp; try (with_reducible rfl))
  try simp only [List.getElem_toArray, List.getElem_cons_zero, List.getElem_cons_succ, Act.put, List.setIfInBounds_toArray, List.set_cons_zero, List.set_cons_succ]
  refine wpAnyH_take (i := 42) (v := ?vzk42) rfl (by kernel_rfl) (by kernel_rfl) (by kernel_rfl) (fun _ _ _ h => h) (Or.inl ⟨by rfl, ?yzk42⟩) hHeld ?rzk42
  case yzk42 => (intro wS hSw; clear hSw; go_simp; try (with_reducible rfl))
  try simp only [List.getElem_toArray, List.getElem_cons_zero, List.getElem_cons_succ, Act.put, List.setIfInBounds_toArray, List.set_cons_zero, List.set_cons_succ]
  refine wpAnyH_take (i := 43) (v := ?vzk43) rfl (by kernel_rfl) (by kernel_rfl) (by kernel_rfl) (fun _ _ _ h => h) (Or.inl ⟨by rfl, ?yzk43⟩) hHeld ?rzk43
  case yzk43 => (intro wS hSw; clear hSw; go_simp; try (with_reducible rfl))
  try simp only [List.getElem_toArray, List.getElem_cons_zero, List.getElem_cons_succ, Act.put, List.setIfInBounds_toArray, List.set_cons_zero, List.set_cons_succ]
  refine wpAnyH_take (i := 44) (v := ?vzk44) rfl (by kernel_rfl) (by kernel_rfl) (by kernel_rfl) (fun _ _ _ h => h) (Or.inl ⟨by rfl, ?yzk44⟩) hHeld ?rzk44
  case yzk44 => (intro wS hSw; clear hSw; go_simp; try (with_reducible rfl))
  try simp only [List.getElem_toArray, List.getElem_cons_zero, List.getElem_cons_succ, Act.put, List.setIfInBounds_toArray, List.set_cons_zero, List.set_cons_succ]
  refine wpAnyH_ready (rs := [45]) (by kernel_rfl) (by simp) (AllReadyH.cons rfl (fun K hK => ?_) AllReadyH.nil)
  go_simp
  refine hK.out _ _ ⟨hHeld.1.alloc _, hHeld.2.1.alloc _, bl_alloc hHeld.2.2 _⟩ (fun hHeld => ?_)
  clear hK K
  try simp only [List.getElem_toArray, List.getElem_cons_zero, List.getElem_cons_succ, Act.put, List.setIfInBounds_toArray, List.set_cons_zero, List.set_cons_succ]
  refine wpAnyH_ready (rs := [46]) (by kernel_rfl) (by simp) (AllReadyH.cons rfl (fun K hK => ?_) AllReadyH.nil)
  go_simp
  go_at_call 14
  refine (eq_any A4 _ n4 c4 4 4 (bytesL s4) [0, 63, 128, 255] _ HL4.out rfl (own_rd hHeld.2.1) (rd_lit _ [0, 63, 128, 255] _ rfl) HM4.out (by simp [maxLen])).mono ?_
  rintro e x7 ⟨rfl, hb1⟩
  have hS1 := And.intro (hHeld.1.below hb1) (And.intro (hHeld.2.1.below hb1) (bl_trans hHeld.2.2 hb1))
  rw [decide_eq_true kn4]
  clear hHeld hb1
  go_wp2_with fail
  refine hK.out _ _ hS1 (fun hHeld => ?_)
  clear hK K hS1
  try simp only [List.getElem_toArray, List.getElem_cons_zero, List.getElem_cons_succ, Act.put, List.setIfInBounds_toArray, List.set_cons_zero, List.set_cons_succ]
  refine wpAnyH_take (i := 47) (v := ?vzk47) rfl (by kernel_rfl) (by kernel_rfl) (by kernel_rfl) (fun _ _ _ h => h) (Or.inl ⟨by rfl, ?yzk47⟩) hHeld ?rzk47
  case yzk47 => (intro wS hSw; clear hSw; go_simp; try (with_reducible rfl))
  try simp only [List.getElem_toArray, List.getElem_cons_zero, List.getElem_cons_succ, Act.put, List.setIfInBounds_toArray, List.set_cons_zero, List.set_cons_succ]
  refine wpAnyH_take (i := 48) (v := ?vzk48) rfl (by kernel_rfl) (by kernel_rfl) (by kernel_rfl) (fun _ _ _ h => h) (Or.inl ⟨by rfl, ?yzk48⟩) hHeld ?rzk48
  case yzk48 => (intro wS hSw; clear hSw; go_simp; try (with_reducible rfl))
  try simp only [List.getElem_toArray, List.getElem_cons_zero, List.getElem_cons_succ, Act.put, List.setIfInBounds_toArray, List.set_cons_zero, List.set_cons_succ]
  refine wpAnyH_ready (rs := [49, 50]) (by kernel_rfl) (by simp) (AllReadyH.cons rfl (fun K hK => ?_) (AllReadyH.cons rfl (fun K hK => ?_) AllReadyH.nil))
  · go_simp
    go_at_call 6
    refine (span_255 _).mono ?_
    rintro e x8 ⟨rfl, hb1⟩
    have hS1 := And.intro (hHeld.1.below hb1) (And.intro (hHeld.2.1.below hb1) (bl_trans hHeld.2.2 hb1))
    clear hHeld hb1
    go_wp2_with fail
    refine hK.out _ _ hS1 (fun hHeld => ?_)
    clear hK K hS1
    try simp only [List.getElem_toArray, List.getElem_cons_zero, List.getElem_cons_succ, Act.put, List.setIfInBounds_toArray, List.set_cons_zero, List.set_cons_succ]
    refine wpAnyH_ready (rs := [50]) (by kernel_rfl) (by simp) (AllReadyH.cons rfl (fun K hK => ?_) AllReadyH.nil)
    go_simp
    refine hK.out _ _ ⟨hHeld.1.alloc _, hHeld.2.1.alloc _, bl_alloc hHeld.2.2 _⟩ (fun hHeld => ?_)
    clear hK K
    try simp only [List.getElem_toArray, List.getElem_cons_zero, List.getElem_cons_succ, Act.put, List.setIfInBounds_toArray, List.set_cons_zero, List.set_cons_succ]
    refine wpAnyH_ready (rs := [51]) (by kernel_rfl) (by simp) (AllReadyH.cons rfl (fun K hK => ?_) AllReadyH.nil)
    go_simp
    go_at_call 11
    refine (of_s255 _).mono ?_
    rintro e xb ⟨rfl, hb1⟩
    have hS1 := And.intro (hHeld.1.below hb1) (And.intro (hHeld.2.1.below hb1) (bl_trans hHeld.2.2 hb1))
    clear hHeld hb1
    go_wp2_with fail
    refine hK.out _ _ hS1 (fun hHeld => ?_)
    clear hK K hS1
    try simp only [List.getElem_toArray, List.getElem_cons_zero, List.getElem_cons_succ, Act.put, List.setIfInBounds_toArray, List.set_cons_zero, List.set_cons_succ]
    refine wpAnyH_take (i := 52) (v := ?vzu52) rfl (by kernel_rfl) (by kernel_rfl) (by kernel_rfl) (fun _ _ _ h => h) (Or.inl ⟨by rfl, ?yzu52⟩) hHeld ?rzu52
    case yzu52 => (intro wS hSw; clear hSw; go_simp; try (with_reducible rfl))
    try simp only [List.getElem_toArray, List.getElem_cons_zero, List.getElem_cons_succ, Act.put, List.setIfInBounds_toArray, List.set_cons_zero, List.set_cons_succ]
    refine wpAnyH_take (i := 53) (v := ?vzu53) rfl (by kernel_rfl) (by kernel_rfl) (by kernel_rfl) (fun _ _ _ h => h) (Or.inl ⟨by rfl, ?yzu53⟩) hHeld ?rzu53
    case yzu53 => (intro wS hSw; clear hSw; go_simp; try (with_reducible rfl))
    try simp only [List.getElem_toArray, List.getElem_cons_zero, List.getElem_cons_succ, Act.put, List.setIfInBounds_toArray, List.set_cons_zero, List.set_cons_succ]
    refine wpAnyH_take (i := 54) (v := ?vzu54) rfl (by kernel_rfl) (by kernel_rfl) (by kernel_rfl) (fun _ _ _ h => h) (Or.inl ⟨by rfl, ?yzu54⟩) hHeld ?rzu54
    case yzu54 => (intro wS hSw; clear hSw; go_simp; try (with_reducible rfl))
    try simp only [List.getElem_toArray, List.getElem_cons_zero, List.getElem_cons_succ, Act.put, List.setIfInBounds_toArray, List.set_cons_zero, List.set_cons_succ]
    refine wpAnyH_take (i := 56) (v := ?vzu56) rfl (by kernel_rfl) (by kernel_rfl) (by kernel_rfl) (fun _ _ _ h => h) (Or.inl ⟨by rfl, ?yzu56⟩) hHeld ?rzu56
    case yzu56 => (intro wS hSw; clear hSw; go_simp; try (with_reducible rfl))
    try simp only [List.getElem_toArray, List.getElem_cons_zero, List.getElem_cons_succ, Act.put, List.setIfInBounds_toArray, List.set_cons_zero, List.set_cons_succ]
    refine wpAnyH_ready (rs := [55]) (by kernel_rfl) (by simp) (AllReadyH.cons rfl (fun K hK => ?_) AllReadyH.nil)
    go_simp
    go_at_call 6
    refine (span_00 _).mono ?_
    rintro e x9 ⟨rfl, hb1⟩
    have hS1 := And.intro (hHeld.1.below hb1) (And.intro (hHeld.2.1.below hb1) (bl_trans hHeld.2.2 hb1))
    clear hHeld hb1
    go_wp2_with fail
    refine hK.out _ _ hS1 (fun hHeld => ?_)
    clear hK K hS1
    try simp only [List.getElem_toArray, List.getElem_cons_zero, List.getElem_cons_succ, Act.put, List.setIfInBounds_toArray, List.set_cons_zero, List.set_cons_succ]
    refine wpAnyH_take (i := 57) (v := ?vzu57) rfl (by kernel_rfl) (by kernel_rfl) (by kernel_rfl) (fun _ _ _ h => h) (Or.inl ⟨by rfl, ?yzu57⟩) hHeld ?rzu57
    case yzu57 => (intro wS hSw; clear hSw; go_simp; try (with_reducible rfl))
    try simp only [List.getElem_toArray, List.getElem_cons_zero, List.getElem_cons_succ, Act.put, List.setIfInBounds_toArray, List.set_cons_zero, List.set_cons_succ]
    refine wpAnyH_take (i := 58) (v := ?vzu58) rfl (by kernel_rfl) (by kernel_rfl) (by kernel_rfl) (fun _ _ _ h => h) (Or.inl ⟨by rfl, ?yzu58⟩) hHeld ?rzu58
    case yzu58 => (intro wS hSw; clear hSw; go_simp; try (with_reducible rfl))
    try simp only [List.getElem_toArray, List.getElem_cons_zero, List.getElem_cons_succ, Act.put, List.setIfInBounds_toArray, List.set_cons_zero, List.set_cons_succ]
    refine wpAnyH_take (i := 59) (v := ?vzu59) rfl (by kernel_rfl) (by kernel_rfl) (by kernel_rfl) (fun _ _ _ h => h) (Or.inl ⟨by rfl, ?yzu59⟩) hHeld ?rzu59
    case yzu59 => (intro wS hSw; clear hSw; go_simp; try (with_reducible rfl))
    try simp only [List.getElem_toArray, List.getElem_cons_zero, List.getElem_cons_succ, Act.put, List.setIfInBounds_toArray, List.set_cons_zero, List.set_cons_succ]
    refine wpAnyH_take (i := 61) (v := ?vzu61) rfl (by kernel_rfl) (by kernel_rfl) (by kernel_rfl) (fun _ _ _ h => h) (Or.inl ⟨by rfl, ?yzu61⟩) hHeld ?rzu61
    case yzu61 => (intro wS hSw; clear hSw; go_simp; try (with_reducible rfl))
    try simp only [List.getElem_toArray, List.getElem_cons_zero, List.getElem_cons_succ, Act.put, List.setIfInBounds_toArray, List.set_cons_zero, List.set_cons_succ]
    refine wpAnyH_ready (rs := [60]) (by kernel_rfl) (by simp) (AllReadyH.cons rfl (fun K hK => ?_) AllReadyH.nil)
    go_simp
    go_at_call 11
    refine (of_none _).mono ?_
    rintro e xa ⟨rfl, hb1⟩
    have hS1 := And.intro (hHeld.1.below hb1) (And.intro (hHeld.2.1.below hb1) (bl_trans hHeld.2.2 hb1))
    clear hHeld hb1
    go_wp2_with fail
    refine hK.out _ _ hS1 (fun hHeld => ?_)
    clear hK K hS1
    try simp only [List.getElem_toArray, List.getElem_cons_zero, List.getElem_cons_succ, Act.put, List.setIfInBounds_toArray, List.set_cons_zero, List.set_cons_succ]
    refine wpAnyH_take (i := 62) (v := ?vzu62) rfl (by kernel_rfl) (by kernel_rfl) (by kernel_rfl) (fun _ _ _ h => h) (Or.inl ⟨by rfl, ?yzu62⟩) hHeld ?rzu62
    case yzu62 => (intro wS hSw; clear hSw; go_simp; try (with_reducible rfl))
    try simp only [List.getElem_toArray, List.getElem_cons_zero, List.getElem_cons_succ, Act.put, List.setIfInBounds_toArray, List.set_cons_zero, List.set_cons_succ]
    refine wpAnyH_take (i := 63) (v := ?vzu63) rfl (by kernel_rfl) (by kernel_rfl) (by kernel_rfl) (fun _ _ _ h => h) (Or.inl ⟨by rfl, ?yzu63⟩) hHeld ?rzu63
    case yzu63 => (intro wS hSw; clear hSw; go_simp; try (with_reducible rfl))
    try simp only [List.getElem_toArray, List.getElem_cons_zero, List.getElem_cons_succ, Act.put, List.setIfInBounds_toArray, List.set_cons_zero, List.set_cons_succ]
    refine wpAnyH_take (i := 64) (v := ?vzu64) rfl (by kernel_rfl) (by kernel_rfl) (by kernel_rfl) (fun _ _ _ h => h) (Or.inl ⟨by rfl, ?yzu64⟩) hHeld ?rzu64
    case yzu64 => (intro wS hSw; clear hSw; go_simp; try (with_reducible rfl))
    try simp only [List.getElem_toArray, List.getElem_cons_zero, List.getElem_cons_succ, Act.put, List.setIfInBounds_toArray, List.set_cons_zero, List.set_cons_succ]
    refine wpAnyH_done (by kernel_rfl) ?_ _
    have HBb := Lib.hid hHeld.2.2
    clear hHeld
    go_wp2
    go_ret
    exact ⟨rfl, HBb.out⟩
  · have hX := rd_lit (x7) [255] #[.int .u8 255] rfl
    go_simp
    refine hK.out _ _ ⟨hHeld.1.alloc _, hHeld.2.1.alloc _, bl_alloc hHeld.2.2 _⟩ (fun hHeld => ?_)
    clear hK K
    try simp only [List.getElem_toArray, List.getElem_cons_zero, List.getElem_cons_succ, Act.put, List.setIfInBounds_toArray, List.set_cons_zero, List.set_cons_succ]
    refine wpAnyH_ready (rs := [49]) (by kernel_rfl) (by simp) (AllReadyH.cons rfl (fun K hK => ?_) AllReadyH.nil)
    go_simp
    go_at_call 6
    refine (span_255 _).mono ?_
    rintro e x8 ⟨rfl, hb1⟩
    have hS1 := And.intro (hHeld.1.below hb1) (And.intro (hHeld.2.1.below hb1) (bl_trans hHeld.2.2 hb1))
    have hX := hX.below hb1
    clear hHeld hb1
    go_wp2_with fail
    refine hK.out _ _ hS1 (fun hHeld => ?_)
    clear hK K hS1
    try simp only [List.getElem_toArray, List.getElem_cons_zero, List.getElem_cons_succ, Act.put, List.setIfInBounds_toArray, List.set_cons_zero, List.set_cons_succ]
    refine wpAnyH_ready (rs := [51]) (by kernel_rfl) (by simp) (AllReadyH.cons rfl (fun K hK => ?_) AllReadyH.nil)
    go_simp
    go_at_call 11
    refine (of_255r _ _ hX).mono ?_
    rintro e xb ⟨rfl, hb1⟩
    have hS1 := And.intro (hHeld.1.below hb1) (And.intro (hHeld.2.1.below hb1) (bl_trans hHeld.2.2 hb1))
    clear hHeld hb1
    go_wp2_with fail
    refine hK.out _ _ hS1 (fun hHeld => ?_)
    clear hK K hS1
    try simp only [List.getElem_toArray, List.getElem_cons_zero, List.getElem_cons_succ, Act.put, List.setIfInBounds_toArray, List.set_cons_zero, List.set_cons_succ]
    refine wpAnyH_take (i := 52) (v := ?vzv52) rfl (by kernel_rfl) (by kernel_rfl) (by kernel_rfl) (fun _ _ _ h => h) (Or.inl ⟨by rfl, ?yzv52⟩) hHeld ?rzv52
    case yzv52 => (intro wS hSw; clear hSw; go_simp; try (with_reducible rfl))
    try simp only [List.getElem_toArray, List.getElem_cons_zero, List.getElem_cons_succ, Act.put, List.setIfInBounds_toArray, List.set_cons_zero, List.set_cons_succ]
    refine wpAnyH_take (i := 53) (v := ?vzv53) rfl (by kernel_rfl) (by kernel_rfl) (by kernel_rfl) (fun _ _ _ h => h) (Or.inl ⟨by rfl, ?yzv53⟩) hHeld ?rzv53
    case yzv53 => (intro wS hSw; clear hSw; go_simp; try (with_reducible rfl))
    try simp only [List.getElem_toArray, List.getElem_cons_zero, List.getElem_cons_succ, Act.put, List.setIfInBounds_toArray, List.set_cons_zero, List.set_cons_succ]
    refine wpAnyH_take (i := 54) (v := ?vzv54) rfl (by kernel_rfl) (by kernel_rfl) (by kernel_rfl) (fun _ _ _ h => h) (Or.inl ⟨by rfl, ?yzv54⟩) hHeld ?rzv54
    case yzv54 => (intro wS hSw; clear hSw; go_simp; try (with_reducible rfl))
    try simp only [List.getElem_toArray, List.getElem_cons_zero, List.getElem_cons_succ, Act.put, List.setIfInBounds_toArray, List.set_cons_zero, List.set_cons_succ]
    refine wpAnyH_take (i := 56) (v := ?vzv56) rfl (by kernel_rfl) (by kernel_rfl) (by kernel_rfl) (fun _ _ _ h => h) (Or.inl ⟨by rfl, ?yzv56⟩) hHeld ?rzv56
    case yzv56 => (intro wS hSw; clear hSw; go_simp; try (with_reducible rfl))
    try simp only [List.getElem_toArray, List.getElem_cons_zero, List.getElem_cons_succ, Act.put, List.setIfInBounds_toArray, List.set_cons_zero, List.set_cons_succ]
    refine wpAnyH_ready (rs := [55]) (by kernel_rfl) (by simp) (AllReadyH.cons rfl (fun K hK => ?_) AllReadyH.nil)
    go_simp
    go_at_call 6
    refine (span_00 _).mono ?_
    rintro e x9 ⟨rfl, hb1⟩
    have hS1 := And.intro (hHeld.1.below hb1) (And.intro (hHeld.2.1.below hb1) (bl_trans hHeld.2.2 hb1))
    clear hHeld hb1
    go_wp2_with fail
    refine hK.out _ _ hS1 (fun hHeld => ?_)
    clear hK K hS1
    try simp only [List.getElem_toArray, List.getElem_cons_zero, List.getElem_cons_succ, Act.put, List.setIfInBounds_toArray, List.set_cons_zero, List.set_cons_succ]
    refine wpAnyH_take (i := 57) (v := ?vzv57) rfl (by kernel_rfl) (by kernel_rfl) (by kernel_rfl) (fun _ _ _ h => h) (Or.inl ⟨by rfl, ?yzv57⟩) hHeld ?rzv57
    case yzv57 => (intro wS hSw; clear hSw; go_simp; try (with_reducible rfl))
    try simp only [List.getElem_toArray, List.getElem_cons_zero, List.getElem_cons_succ, Act.put, List.setIfInBounds_toArray, List.set_cons_zero, List.set_cons_succ]
    refine wpAnyH_take (i := 58) (v := ?vzv58) rfl (by kernel_rfl) (by kernel_rfl) (by kernel_rfl) (fun _ _ _ h => h) (Or.inl ⟨by rfl, ?yzv58⟩) hHeld ?rzv58
    case yzv58 => (intro wS hSw; clear hSw; go_simp; try (with_reducible rfl))
    try simp only [List.getElem_toArray, List.getElem_cons_zero, List.getElem_cons_succ, Act.put, List.setIfInBounds_toArray, List.set_cons_zero, List.set_cons_succ]
    refine wpAnyH_take (i := 59) (v := ?vzv59) rfl (by kernel_rfl) (by kernel_rfl) (by kernel_rfl) (fun _ _ _ h => h) (Or.inl ⟨by rfl, ?yzv59⟩) hHeld ?rzv59
    case yzv59 => (intro wS hSw; clear hSw; go_simp; try (with_reducible rfl))
    try simp only [List.getElem_toArray, List.getElem_cons_zero, List.getElem_cons_succ, Act.put, List.setIfInBounds_toArray, List.set_cons_zero, List.set_cons_succ]
    refine wpAnyH_take (i := 61) (v := ?vzv61) rfl (by kernel_rfl) (by kernel_rfl) (by kernel_rfl) (fun _ _ _ h => h) (Or.inl ⟨by rfl, ?yzv61⟩) hHeld ?rzv61
    case yzv61 => (intro wS hSw; clear hSw; go_simp; try (with_reducible rfl))
    try simp only [List.getElem_toArray, List.getElem_cons_zero, List.getElem_cons_succ, Act.put, List.setIfInBounds_toArray, List.set_cons_zero, List.set_cons_succ]
    refine wpAnyH_ready (rs := [60]) (by kernel_rfl) (by simp) (AllReadyH.cons rfl (fun K hK => ?_) AllReadyH.nil)
    go_simp
    go_at_call 11
    refine (of_none _).mono ?_
    rintro e xa ⟨rfl, hb1⟩
    have hS1 := And.intro (hHeld.1.below hb1) (And.intro (hHeld.2.1.below hb1) (bl_trans hHeld.2.2 hb1))
    clear hHeld hb1
    go_wp2_with fail
    refine hK.out _ _ hS1 (fun hHeld => ?_)
    clear hK K hS1
    try simp only [List.getElem_toArray, List.getElem_cons_zero, List.getElem_cons_succ, Act.put, List.setIfInBounds_toArray, List.set_cons_zero, List.set_cons_succ]
    refine wpAnyH_take (i := 62) (v := ?vzv62) rfl (by kernel_rfl) (by kernel_rfl) (by kernel_rfl) (fun _ _ _ h => h) (Or.inl ⟨by rfl, ?yzv62⟩) hHeld ?rzv62
    case yzv62 => (intro wS hSw; clear hSw; go_simp; try (with_reducible rfl))
    try simp only [List.getElem_toArray, List.getElem_cons_zero, List.getElem_cons_succ, Act.put, List.setIfInBounds_toArray, List.set_cons_zero, List.set_cons_succ]
    refine wpAnyH_take (i := 63) (v := ?vzv63) rfl (by kernel_rfl) (by kernel_rfl) (by kernel_rfl) (fun _ _ _ h => h) (Or.inl ⟨by rfl, ?yzv63⟩) hHeld ?rzv63
    case yzv63 => (intro wS hSw; clear hSw; go_simp; try (with_reducible rfl))
    try simp only [List.getElem_toArray, List.getElem_cons_zero, List.getElem_cons_succ, Act.put, List.setIfInBounds_toArray, List.set_cons_zero, List.set_cons_succ]
    refine wpAnyH_take (i := 64) (v := ?vzv64) rfl (by kernel_rfl) (by kernel_rfl) (by kernel_rfl) (fun _ _ _ h => h) (Or.inl ⟨by rfl, ?yzv64⟩) hHeld ?rzv64
    case yzv64 => (intro wS hSw; clear hSw; go_simp; try (with_reducible rfl))
    try simp only [List.getElem_toArray, List.getElem_cons_zero, List.getElem_cons_succ, Act.put, List.setIfInBounds_toArray, List.set_cons_zero, List.set_cons_succ]
    refine wpAnyH_done (by kernel_rfl) ?_ _
    have HBb := Lib.hid hHeld.2.2
    clear hHeld
    go_wp2
    go_ret
    exact ⟨rfl, HBb.out⟩

theorem laid_met (os : Os) : laidMet Tryd.prog laidL ((laidWorld os).forCall (fun _ _ => 0) ⟨#[], #[], []⟩).memory :=
  laidMet_of_run' 8 (by kernel_rfl) (by kernel_rfl)
theorem reads (os : Os) {H : Type} (enc : TypeId × Value → H) : ∃ places, DataW.whole enc Tryd.prog ((laidWorld os).forCall (fun _ _ => 0) ⟨#[], #[], []⟩).memory Tryd.f4.params.toList Rows.setsKnownSpec.vars false (#[] : Array Value).toList 8 = some ([], [], places) :=
  ⟨[], by kernel_rfl⟩
set_option maxRecDepth 100000 in
theorem SetsKnown_said : Rows.SetsKnownSaid :=
  OpenClaim.holds_of_cond 4 Tryd.f4 rfl rfl rfl rfl rfl rfl rfl ⟨rfl, rfl, rfl, rfl, rfl⟩ rfl rfl rfl rfl rfl (by kernel_rfl) Tryd.func4 (by kernel_rfl)
    (of_decide_eq_true (by kernel_rfl)) (by unfold Func.isWrapper; first | (rw [if_pos (by decide +kernel)]; kernel_rfl) | (rw [if_neg (by decide +kernel)]; exact ⟨rfl, rfl⟩))
    (fun os started H enc _ F => by
      rw [OpenClaim.pre_eq_preRow]
      obtain ⟨places, hx⟩ := reads os enc
      exact law_lifted_laid (s := Rows.setsKnownSpec) (conds := Rows.setsKnownRow.domain) Tryd.func4 (by kernel_rfl) rfl
        (fun H ds h => by rw [Tryd.params4] at h; match ds, h with | [], _ => rfl) (by kernel_rfl) (by kernel_rfl) os started H enc F
        (witness_row_at (enc := enc) (C := Tryd.checked) false (laidWorld os) #[] rfl (by kernel_rfl) (by kernel_rfl) (by kernel_rfl)
          (OpenSpec.preRow_of_cond 8 hx (by kernel_rfl) (fun k hk => by cases hk) (by kernel_rfl) (laid_met os)))
        (fun W args ds p h hT => by
          obtain ⟨⟨base, hok⟩, hA, hl⟩ := h
          rw [Tryd.params4] at hok hA hl
          obtain ⟨hargs, rfl, rfl⟩ := trodAll_nil hA
          obtain rfl : args = #[] := by cases args; simp_all
          exact known_walk W hT))

theorem plain_params (f : FuncId) (fn : Func) (hf : Tryd.pinned.checked.prog.funcNamed "incunable/incunablelaw08.SetsKnown" = some f) (hfn : Tryd.pinned.checked.prog.funcs[f]? = some fn) :
    false = Tryd.pinned.checked.prog.looks [] ∧ ∀ (j : Nat) t, fn.params[j]? = some t → Tryd.pinned.checked.prog.wantsStandIn t = false := by
  obtain rfl : f = 4 := Option.some.inj ((show Tryd.prog.funcNamed "incunable/incunablelaw08.SetsKnown" = some 4 by kernel_rfl).symm.trans hf) |>.symm
  obtain rfl : fn = Tryd.f4 := (Option.some.inj (Tryd.func4.symm.trans hfn)).symm
  refine ⟨by kernel_rfl, fun j t ht => ?_⟩
  rw [Tryd.params4] at ht
  simp at ht

/-- The card. -/
theorem SetsKnownCard_holds : Rows.SetsKnownCardSaid :=
  Claim7.holds_tied_plain_at .later [] _ _ _ _ SetsKnown_said (fun _ h => by cases h) (by kernel_rfl) (fun _ h => by cases h) setsKnown_row_tie rfl ⟨rfl, rfl⟩ (by kernel_rfl) rfl plain_params (by kernel_rfl)

end Go.Proofs.YtcgoacfcdlbhdabDoor

