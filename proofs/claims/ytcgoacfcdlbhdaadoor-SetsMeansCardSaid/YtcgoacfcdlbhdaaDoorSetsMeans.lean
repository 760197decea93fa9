/- SetsMeans: for any two sets and any byte: what is in the union, the cut, the difference and the rest is just what the words say. Under: the table of math/bits that the row lists is as its initialiser lays it. -/
import Derived.Test.YtcgoacfcdlbhdaaDoorSetRow
set_option linter.unusedVariables false
set_option linter.unusedSimpArgs false
namespace Go.Proofs.YtcgoacfcdlbhdaaDoor
open Go.ChangeShapes Go.WideShapes Go.ChangeAt Go.RowKit

theorem has_is (f : Nat → BitVec 64) (c : Nat) (hc : c < 256) (b : Bool) (h : has f c = b) (w : World) :
    Calls Tryd.prog 22 #[.agg (row4 f), .int .u8 (c : Int)] w (GotB w b) := by
  subst h
  exact has_any f c hc w

set_option maxHeartbeats 4000000 in
set_option maxRecDepth 100000 in
theorem means_walk (f g : Nat → BitVec 64) (c : Nat) (w : World) (hc : c < 256) (hT : Tab w) :
    Calls Tryd.prog 6 #[.agg (row4 f), .agg (row4 g), .int .u8 (c : Int)] w (Yes w) := by
  have HT := Lib.hid hT
  have HC := Lib.hid hc
  clear hT hc
  go_enter Tryd.func6, Tryd.ntmps6
  go_wp2_with fail
  have b0 := bl_alloc (bl_alloc (Below.refl w.heap.size w) (.cells (row4 f) 24)) (.cells (row4 g) 24)
  have hA := (H4.new w f).alloc (.cells (row4 g) 24)
  have hB := H4.new1 w (.cells (row4 f) 24) g
  generalize (w.alloc (.cells (row4 f) 24)).alloc (.cells (row4 g) 24) = w0 at *
  refine (works_any _ (HT.out.below b0)).mono ?_
  rintro e w1 ⟨rfl, hb1⟩
  have h1 := hA.below hb1
  have h2 := hB.below hb1
  have hB1 := bl_trans b0 hb1
  clear b0 hA hB hb1
  go_upto_region 3 with fail
  refine wp_region_held_drew (S := fun w' => H4 w' w.heap.size f ∧ H4 w' (w.heap.size + 1) g ∧ Below w.heap.size w w') (by kernel_rfl) ⟨h1.drew, h2.drew, hB1.drew⟩ (fun hHeld => ?_)
  clear h1 h2 hB1
  refine wpAnyH_take (i := 0) (v := .agg (row4 f)) rfl (by kernel_rfl) (by kernel_rfl) (by kernel_rfl) (fun _ _ _ h => h) (yields_set (by rfl) (.tmp 3) rfl w.heap.size rfl f (fun _ h => h.1)) hHeld ?_
  try simp only [List.getElem_toArray, List.getElem_cons_zero, List.getElem_cons_succ, Act.put, List.setIfInBounds_toArray, List.set_cons_zero, List.set_cons_succ]
  refine wpAnyH_take (i := 1) (v := ?vz1) rfl (by kernel_rfl) (by kernel_rfl) (by kernel_rfl) (fun _ _ _ h => h) (Or.inl ⟨by rfl, ?yz1⟩) hHeld ?rz1
  case yz1 => (intro wS hSw; clear hSw; go_simp; try (with_reducible rfl))
  try simp only [List.getElem_toArray, List.getElem_cons_zero, List.getElem_cons_succ, Act.put, List.setIfInBounds_toArray, List.set_cons_zero, List.set_cons_succ]
  refine wpAnyH_take (i := 3) (v := .agg (row4 g)) rfl (by kernel_rfl) (by kernel_rfl) (by kernel_rfl) (fun _ _ _ h => h) (yields_set (by rfl) (.tmp 4) rfl (w.heap.size + 1) rfl g (fun _ h => h.2.1)) hHeld ?_
  try simp only [List.getElem_toArray, List.getElem_cons_zero, List.getElem_cons_succ, Act.put, List.setIfInBounds_toArray, List.set_cons_zero, List.set_cons_succ]
  refine wpAnyH_take (i := 4) (v := ?vz4) rfl (by kernel_rfl) (by kernel_rfl) (by kernel_rfl) (fun _ _ _ h => h) (Or.inl ⟨by rfl, ?yz4⟩) hHeld ?rz4
  case yz4 => (intro wS hSw; clear hSw; go_simp; try (with_reducible rfl))
  try simp only [List.getElem_toArray, List.getElem_cons_zero, List.getElem_cons_succ, Act.put, List.setIfInBounds_toArray, List.set_cons_zero, List.set_cons_succ]
  refine wpAnyH_ready (rs := [2]) (by kernel_rfl) (by simp) (AllReadyH.cons rfl (fun K hK => ?_) AllReadyH.nil)
  go_simp
  go_at_call 22
  refine (has_any f c HC.out _).mono ?_
  rintro e w2 ⟨rfl, hb1⟩
  have hS1 := And.intro (hHeld.1.below hb1) (And.intro (hHeld.2.1.below hb1) (bl_trans hHeld.2.2 hb1))
  clear hHeld hb1
  go_wp2_with fail
  refine hK.out _ _ hS1 (fun hHeld => ?_)
  clear hK K hS1
  try simp only [List.getElem_toArray, List.getElem_cons_zero, List.getElem_cons_succ, Act.put, List.setIfInBounds_toArray, List.set_cons_zero, List.set_cons_succ]
  refine wpAnyH_ready (rs := [5]) (by kernel_rfl) (by simp) (AllReadyH.cons rfl (fun K hK => ?_) AllReadyH.nil)
  go_simp
  go_at_call 22
  refine (has_any g c HC.out _).mono ?_
  rintro e w3 ⟨rfl, hb1⟩
  have hS1 := And.intro (hHeld.1.below hb1) (And.intro (hHeld.2.1.below hb1) (bl_trans hHeld.2.2 hb1))
  clear hHeld hb1
  go_wp2_with fail
  refine hK.out _ _ hS1 (fun hHeld => ?_)
  clear hK K hS1
  try simp only [List.getElem_toArray, List.getElem_cons_zero, List.getElem_cons_succ, Act.put, List.setIfInBounds_toArray, List.set_cons_zero, List.set_cons_succ]
  refine wpAnyH_take (i := 6) (v := ?vz6) rfl (by kernel_rfl) (by kernel_rfl) (by kernel_rfl) (fun _ _ _ h => h) (Or.inl ⟨by rfl, ?yz6⟩) hHeld ?rz6
  case yz6 => (intro wS hSw; clear hSw; go_simp; try (with_reducible rfl))
  try simp only [List.getElem_toArray, List.getElem_cons_zero, List.getElem_cons_succ, Act.put, List.setIfInBounds_toArray, List.set_cons_zero, List.set_cons_succ]
  refine wpAnyH_take (i := 7) (v := ?vz7) rfl (by kernel_rfl) (by kernel_rfl) (by kernel_rfl) (fun _ _ _ h => h) (Or.inl ⟨by rfl, ?yz7⟩) hHeld ?rz7
  case yz7 => (intro wS hSw; clear hSw; go_simp; try (with_reducible rfl))
  try simp only [List.getElem_toArray, List.getElem_cons_zero, List.getElem_cons_succ, Act.put, List.setIfInBounds_toArray, List.set_cons_zero, List.set_cons_succ]
  refine wpAnyH_done (by kernel_rfl) ?_ _
  obtain ⟨h1, h2, hB1⟩ := hHeld
  have o1 := has_or f g c
  have o2 := has_and f g c
  have o3 := has_and f (notW g) c
  rw [has_not] at o3
  have o4 := has_not f c
  generalize has f c = x at *
  generalize has g c = y at *
  have O1 := Lib.hid o1
  have O2 := Lib.hid o2
  have O3 := Lib.hid o3
  have O4 := Lib.hid o4
  have H1w3 := Lib.hid h1
  have H2w3 := Lib.hid h2
  have Bw3 := Lib.hid hB1
  clear o1 o2 o3 o4 h1 h2 hB1
  cases x <;> cases y
  · skip
    go_wp2_with (first
    | (refine wpList_load_guarded (by rfl) 24 (.tmp 3) rfl w.heap.size rfl 24 _ (0, 0) _ H1w3.out Tryd.underlying24 rfl (by rw [size4, row4_size]) ?_)
    | (refine wpList_load_guarded (by rfl) 24 (.tmp 4) rfl (w.heap.size + 1) rfl 24 _ (0, 0) _ H2w3.out Tryd.underlying24 rfl (by rw [size4, row4_size]) ?_))
    refine (union_any f g _).mono ?_
    rintro e w4 ⟨rfl, hb⟩
    have Bw4 := Lib.hid (bl_trans Bw3.out hb)
    have H1w4 := Lib.hid (H1w3.out.below hb)
    have H2w4 := Lib.hid (H2w3.out.below hb)
    clear hb Bw3 H1w3 H2w3
    go_wp2_with fail
    refine (has_is (orW f g) c HC.out false O1.out _).mono ?_
    rintro e w5 ⟨rfl, hb⟩
    have Bw5 := Lib.hid (bl_trans Bw4.out hb)
    have H1w5 := Lib.hid (H1w4.out.below hb)
    have H2w5 := Lib.hid (H2w4.out.below hb)
    clear hb Bw4 H1w4 H2w4
    go_wp2_with (first
    | (refine wpList_load_guarded (by rfl) 24 (.tmp 3) rfl w.heap.size rfl 24 _ (0, 0) _ H1w5.out Tryd.underlying24 rfl (by rw [size4, row4_size]) ?_)
    | (refine wpList_load_guarded (by rfl) 24 (.tmp 4) rfl (w.heap.size + 1) rfl 24 _ (0, 0) _ H2w5.out Tryd.underlying24 rfl (by rw [size4, row4_size]) ?_))
    refine (both_any f g _).mono ?_
    rintro e w6 ⟨rfl, hb⟩
    have Bw6 := Lib.hid (bl_trans Bw5.out hb)
    have H1w6 := Lib.hid (H1w5.out.below hb)
    have H2w6 := Lib.hid (H2w5.out.below hb)
    clear hb Bw5 H1w5 H2w5
    go_wp2_with fail
    refine (has_is (andW f g) c HC.out false O2.out _).mono ?_
    rintro e w7 ⟨rfl, hb⟩
    have Bw7 := Lib.hid (bl_trans Bw6.out hb)
    have H1w7 := Lib.hid (H1w6.out.below hb)
    have H2w7 := Lib.hid (H2w6.out.below hb)
    clear hb Bw6 H1w6 H2w6
    go_wp2_with (first
    | (refine wpList_load_guarded (by rfl) 24 (.tmp 3) rfl w.heap.size rfl 24 _ (0, 0) _ H1w7.out Tryd.underlying24 rfl (by rw [size4, row4_size]) ?_)
    | (refine wpList_load_guarded (by rfl) 24 (.tmp 4) rfl (w.heap.size + 1) rfl 24 _ (0, 0) _ H2w7.out Tryd.underlying24 rfl (by rw [size4, row4_size]) ?_))
    refine (less_any f g _).mono ?_
    rintro e w8 ⟨rfl, hb⟩
    have Bw8 := Lib.hid (bl_trans Bw7.out hb)
    have H1w8 := Lib.hid (H1w7.out.below hb)
    have H2w8 := Lib.hid (H2w7.out.below hb)
    clear hb Bw7 H1w7 H2w7
    go_wp2_with fail
    refine (has_is (andW f (notW g)) c HC.out false O3.out _).mono ?_
    rintro e w9 ⟨rfl, hb⟩
    have Bw9 := Lib.hid (bl_trans Bw8.out hb)
    have H1w9 := Lib.hid (H1w8.out.below hb)
    have H2w9 := Lib.hid (H2w8.out.below hb)
    clear hb Bw8 H1w8 H2w8
    go_wp2_with (first
    | (refine wpList_load_guarded (by rfl) 24 (.tmp 3) rfl w.heap.size rfl 24 _ (0, 0) _ H1w9.out Tryd.underlying24 rfl (by rw [size4, row4_size]) ?_)
    | (refine wpList_load_guarded (by rfl) 24 (.tmp 4) rfl (w.heap.size + 1) rfl 24 _ (0, 0) _ H2w9.out Tryd.underlying24 rfl (by rw [size4, row4_size]) ?_))
    refine (not_any f _).mono ?_
    rintro e w10 ⟨rfl, hb⟩
    have Bw10 := Lib.hid (bl_trans Bw9.out hb)
    have H1w10 := Lib.hid (H1w9.out.below hb)
    have H2w10 := Lib.hid (H2w9.out.below hb)
    clear hb Bw9 H1w9 H2w9
    go_wp2_with fail
    refine (has_is (notW f) c HC.out true O4.out _).mono ?_
    rintro e w11 ⟨rfl, hb⟩
    have Bw11 := Lib.hid (bl_trans Bw10.out hb)
    have H1w11 := Lib.hid (H1w10.out.below hb)
    have H2w11 := Lib.hid (H2w10.out.below hb)
    clear hb Bw10 H1w10 H2w10
    go_wp2
    go_ret
    exact ⟨rfl, Bw11.out⟩
  · skip
    go_wp2_with (first
    | (refine wpList_load_guarded (by rfl) 24 (.tmp 3) rfl w.heap.size rfl 24 _ (0, 0) _ H1w3.out Tryd.underlying24 rfl (by rw [size4, row4_size]) ?_)
    | (refine wpList_load_guarded (by rfl) 24 (.tmp 4) rfl (w.heap.size + 1) rfl 24 _ (0, 0) _ H2w3.out Tryd.underlying24 rfl (by rw [size4, row4_size]) ?_))
    refine (union_any f g _).mono ?_
    rintro e w4 ⟨rfl, hb⟩
    have Bw4 := Lib.hid (bl_trans Bw3.out hb)
    have H1w4 := Lib.hid (H1w3.out.below hb)
    have H2w4 := Lib.hid (H2w3.out.below hb)
    clear hb Bw3 H1w3 H2w3
    go_wp2_with fail
    refine (has_is (orW f g) c HC.out true O1.out _).mono ?_
    rintro e w5 ⟨rfl, hb⟩
    have Bw5 := Lib.hid (bl_trans Bw4.out hb)
    have H1w5 := Lib.hid (H1w4.out.below hb)
    have H2w5 := Lib.hid (H2w4.out.below hb)
    clear hb Bw4 H1w4 H2w4
    go_wp2_with (first
    | (refine wpList_load_guarded (by rfl) 24 (.tmp 3) rfl w.heap.size rfl 24 _ (0, 0) _ H1w5.out Tryd.underlying24 rfl (by rw [size4, row4_size]) ?_)
    | (refine wpList_load_guarded (by rfl) 24 (.tmp 4) rfl (w.heap.size + 1) rfl 24 _ (0, 0) _ H2w5.out Tryd.underlying24 rfl (by rw [size4, row4_size]) ?_))
    refine (both_any f g _).mono ?_
    rintro e w6 ⟨rfl, hb⟩
    have Bw6 := Lib.hid (bl_trans Bw5.out hb)
    have H1w6 := Lib.hid (H1w5.out.below hb)
    have H2w6 := Lib.hid (H2w5.out.below hb)
    clear hb Bw5 H1w5 H2w5
    go_wp2_with fail
    refine (has_is (andW f g) c HC.out false O2.out _).mono ?_
    rintro e w7 ⟨rfl, hb⟩
    have Bw7 := Lib.hid (bl_trans Bw6.out hb)
    have H1w7 := Lib.hid (H1w6.out.below hb)
    have H2w7 := Lib.hid (H2w6.out.below hb)
    clear hb Bw6 H1w6 H2w6
    go_wp2_with (first
    | (refine wpList_load_guarded (by rfl) 24 (.tmp 3) rfl w.heap.size rfl 24 _ (0, 0) _ H1w7.out Tryd.underlying24 rfl (by rw [size4, row4_size]) ?_)
    | (refine wpList_load_guarded (by rfl) 24 (.tmp 4) rfl (w.heap.size + 1) rfl 24 _ (0, 0) _ H2w7.out Tryd.underlying24 rfl (by rw [size4, row4_size]) ?_))
    refine (less_any f g _).mono ?_
    rintro e w8 ⟨rfl, hb⟩
    have Bw8 := Lib.hid (bl_trans Bw7.out hb)
    have H1w8 := Lib.hid (H1w7.out.below hb)
    have H2w8 := Lib.hid (H2w7.out.below hb)
    clear hb Bw7 H1w7 H2w7
    go_wp2_with fail
    refine (has_is (andW f (notW g)) c HC.out false O3.out _).mono ?_
    rintro e w9 ⟨rfl, hb⟩
    have Bw9 := Lib.hid (bl_trans Bw8.out hb)
    have H1w9 := Lib.hid (H1w8.out.below hb)
    have H2w9 := Lib.hid (H2w8.out.below hb)
    clear hb Bw8 H1w8 H2w8
    go_wp2_with (first
    | (refine wpList_load_guarded (by rfl) 24 (.tmp 3) rfl w.heap.size rfl 24 _ (0, 0) _ H1w9.out Tryd.underlying24 rfl (by rw [size4, row4_size]) ?_)
    | (refine wpList_load_guarded (by rfl) 24 (.tmp 4) rfl (w.heap.size + 1) rfl 24 _ (0, 0) _ H2w9.out Tryd.underlying24 rfl (by rw [size4, row4_size]) ?_))
    refine (not_any f _).mono ?_
    rintro e w10 ⟨rfl, hb⟩
    have Bw10 := Lib.hid (bl_trans Bw9.out hb)
    have H1w10 := Lib.hid (H1w9.out.below hb)
    have H2w10 := Lib.hid (H2w9.out.below hb)
    clear hb Bw9 H1w9 H2w9
    go_wp2_with fail
    refine (has_is (notW f) c HC.out true O4.out _).mono ?_
    rintro e w11 ⟨rfl, hb⟩
    have Bw11 := Lib.hid (bl_trans Bw10.out hb)
    have H1w11 := Lib.hid (H1w10.out.below hb)
    have H2w11 := Lib.hid (H2w10.out.below hb)
    clear hb Bw10 H1w10 H2w10
    go_wp2
    go_ret
    exact ⟨rfl, Bw11.out⟩
  · skip
    go_wp2_with (first
    | (refine wpList_load_guarded (by rfl) 24 (.tmp 3) rfl w.heap.size rfl 24 _ (0, 0) _ H1w3.out Tryd.underlying24 rfl (by rw [size4, row4_size]) ?_)
    | (refine wpList_load_guarded (by rfl) 24 (.tmp 4) rfl (w.heap.size + 1) rfl 24 _ (0, 0) _ H2w3.out Tryd.underlying24 rfl (by rw [size4, row4_size]) ?_))
    refine (union_any f g _).mono ?_
    rintro e w4 ⟨rfl, hb⟩
    have Bw4 := Lib.hid (bl_trans Bw3.out hb)
    have H1w4 := Lib.hid (H1w3.out.below hb)
    have H2w4 := Lib.hid (H2w3.out.below hb)
    clear hb Bw3 H1w3 H2w3
    go_wp2_with fail
    refine (has_is (orW f g) c HC.out true O1.out _).mono ?_
    rintro e w5 ⟨rfl, hb⟩
    have Bw5 := Lib.hid (bl_trans Bw4.out hb)
    have H1w5 := Lib.hid (H1w4.out.below hb)
    have H2w5 := Lib.hid (H2w4.out.below hb)
    clear hb Bw4 H1w4 H2w4
    go_wp2_with (first
    | (refine wpList_load_guarded (by rfl) 24 (.tmp 3) rfl w.heap.size rfl 24 _ (0, 0) _ H1w5.out Tryd.underlying24 rfl (by rw [size4, row4_size]) ?_)
    | (refine wpList_load_guarded (by rfl) 24 (.tmp 4) rfl (w.heap.size + 1) rfl 24 _ (0, 0) _ H2w5.out Tryd.underlying24 rfl (by rw [size4, row4_size]) ?_))
    refine (both_any f g _).mono ?_
    rintro e w6 ⟨rfl, hb⟩
    have Bw6 := Lib.hid (bl_trans Bw5.out hb)
    have H1w6 := Lib.hid (H1w5.out.below hb)
    have H2w6 := Lib.hid (H2w5.out.below hb)
    clear hb Bw5 H1w5 H2w5
    go_wp2_with fail
    refine (has_is (andW f g) c HC.out false O2.out _).mono ?_
    rintro e w7 ⟨rfl, hb⟩
    have Bw7 := Lib.hid (bl_trans Bw6.out hb)
    have H1w7 := Lib.hid (H1w6.out.below hb)
    have H2w7 := Lib.hid (H2w6.out.below hb)
    clear hb Bw6 H1w6 H2w6
    go_wp2_with (first
    | (refine wpList_load_guarded (by rfl) 24 (.tmp 3) rfl w.heap.size rfl 24 _ (0, 0) _ H1w7.out Tryd.underlying24 rfl (by rw [size4, row4_size]) ?_)
    | (refine wpList_load_guarded (by rfl) 24 (.tmp 4) rfl (w.heap.size + 1) rfl 24 _ (0, 0) _ H2w7.out Tryd.underlying24 rfl (by rw [size4, row4_size]) ?_))
    refine (less_any f g _).mono ?_
    rintro e w8 ⟨rfl, hb⟩
    have Bw8 := Lib.hid (bl_trans Bw7.out hb)
    have H1w8 := Lib.hid (H1w7.out.below hb)
    have H2w8 := Lib.hid (H2w7.out.below hb)
    clear hb Bw7 H1w7 H2w7
    go_wp2_with fail
    refine (has_is (andW f (notW g)) c HC.out true O3.out _).mono ?_
    rintro e w9 ⟨rfl, hb⟩
    have Bw9 := Lib.hid (bl_trans Bw8.out hb)
    have H1w9 := Lib.hid (H1w8.out.below hb)
    have H2w9 := Lib.hid (H2w8.out.below hb)
    clear hb Bw8 H1w8 H2w8
    go_wp2_with (first
    | (refine wpList_load_guarded (by rfl) 24 (.tmp 3) rfl w.heap.size rfl 24 _ (0, 0) _ H1w9.out Tryd.underlying24 rfl (by rw [size4, row4_size]) ?_)
    | (refine wpList_load_guarded (by rfl) 24 (.tmp 4) rfl (w.heap.size + 1) rfl 24 _ (0, 0) _ H2w9.out Tryd.underlying24 rfl (by rw [size4, row4_size]) ?_))
    refine (not_any f _).mono ?_
    rintro e w10 ⟨rfl, hb⟩
    have Bw10 := Lib.hid (bl_trans Bw9.out hb)
    have H1w10 := Lib.hid (H1w9.out.below hb)
    have H2w10 := Lib.hid (H2w9.out.below hb)
    clear hb Bw9 H1w9 H2w9
    go_wp2_with fail
    refine (has_is (notW f) c HC.out false O4.out _).mono ?_
    rintro e w11 ⟨rfl, hb⟩
    have Bw11 := Lib.hid (bl_trans Bw10.out hb)
    have H1w11 := Lib.hid (H1w10.out.below hb)
    have H2w11 := Lib.hid (H2w10.out.below hb)
    clear hb Bw10 H1w10 H2w10
    go_wp2
    go_ret
    exact ⟨rfl, Bw11.out⟩
  · skip
    go_wp2_with (first
    | (refine wpList_load_guarded (by rfl) 24 (.tmp 3) rfl w.heap.size rfl 24 _ (0, 0) _ H1w3.out Tryd.underlying24 rfl (by rw [size4, row4_size]) ?_)
    | (refine wpList_load_guarded (by rfl) 24 (.tmp 4) rfl (w.heap.size + 1) rfl 24 _ (0, 0) _ H2w3.out Tryd.underlying24 rfl (by rw [size4, row4_size]) ?_))
    refine (union_any f g _).mono ?_
    rintro e w4 ⟨rfl, hb⟩
    have Bw4 := Lib.hid (bl_trans Bw3.out hb)
    have H1w4 := Lib.hid (H1w3.out.below hb)
    have H2w4 := Lib.hid (H2w3.out.below hb)
    clear hb Bw3 H1w3 H2w3
    go_wp2_with fail
    refine (has_is (orW f g) c HC.out true O1.out _).mono ?_
    rintro e w5 ⟨rfl, hb⟩
    have Bw5 := Lib.hid (bl_trans Bw4.out hb)
    have H1w5 := Lib.hid (H1w4.out.below hb)
    have H2w5 := Lib.hid (H2w4.out.below hb)
    clear hb Bw4 H1w4 H2w4
    go_wp2_with (first
    | (refine wpList_load_guarded (by rfl) 24 (.tmp 3) rfl w.heap.size rfl 24 _ (0, 0) _ H1w5.out Tryd.underlying24 rfl (by rw [size4, row4_size]) ?_)
    | (refine wpList_load_guarded (by rfl) 24 (.tmp 4) rfl (w.heap.size + 1) rfl 24 _ (0, 0) _ H2w5.out Tryd.underlying24 rfl (by rw [size4, row4_size]) ?_))
    refine (both_any f g _).mono ?_
    rintro e w6 ⟨rfl, hb⟩
    have Bw6 := Lib.hid (bl_trans Bw5.out hb)
    have H1w6 := Lib.hid (H1w5.out.below hb)
    have H2w6 := Lib.hid (H2w5.out.below hb)
    clear hb Bw5 H1w5 H2w5
    go_wp2_with fail
    refine (has_is (andW f g) c HC.out true O2.out _).mono ?_
    rintro e w7 ⟨rfl, hb⟩
    have Bw7 := Lib.hid (bl_trans Bw6.out hb)
    have H1w7 := Lib.hid (H1w6.out.below hb)
    have H2w7 := Lib.hid (H2w6.out.below hb)
    clear hb Bw6 H1w6 H2w6
    go_wp2_with (first
    | (refine wpList_load_guarded (by rfl) 24 (.tmp 3) rfl w.heap.size rfl 24 _ (0, 0) _ H1w7.out Tryd.underlying24 rfl (by rw [size4, row4_size]) ?_)
    | (refine wpList_load_guarded (by rfl) 24 (.tmp 4) rfl (w.heap.size + 1) rfl 24 _ (0, 0) _ H2w7.out Tryd.underlying24 rfl (by rw [size4, row4_size]) ?_))
    refine (less_any f g _).mono ?_
    rintro e w8 ⟨rfl, hb⟩
    have Bw8 := Lib.hid (bl_trans Bw7.out hb)
    have H1w8 := Lib.hid (H1w7.out.below hb)
    have H2w8 := Lib.hid (H2w7.out.below hb)
    clear hb Bw7 H1w7 H2w7
    go_wp2_with fail
    refine (has_is (andW f (notW g)) c HC.out false O3.out _).mono ?_
    rintro e w9 ⟨rfl, hb⟩
    have Bw9 := Lib.hid (bl_trans Bw8.out hb)
    have H1w9 := Lib.hid (H1w8.out.below hb)
    have H2w9 := Lib.hid (H2w8.out.below hb)
    clear hb Bw8 H1w8 H2w8
    go_wp2_with (first
    | (refine wpList_load_guarded (by rfl) 24 (.tmp 3) rfl w.heap.size rfl 24 _ (0, 0) _ H1w9.out Tryd.underlying24 rfl (by rw [size4, row4_size]) ?_)
    | (refine wpList_load_guarded (by rfl) 24 (.tmp 4) rfl (w.heap.size + 1) rfl 24 _ (0, 0) _ H2w9.out Tryd.underlying24 rfl (by rw [size4, row4_size]) ?_))
    refine (not_any f _).mono ?_
    rintro e w10 ⟨rfl, hb⟩
    have Bw10 := Lib.hid (bl_trans Bw9.out hb)
    have H1w10 := Lib.hid (H1w9.out.below hb)
    have H2w10 := Lib.hid (H2w9.out.below hb)
    clear hb Bw9 H1w9 H2w9
    go_wp2_with fail
    refine (has_is (notW f) c HC.out false O4.out _).mono ?_
    rintro e w11 ⟨rfl, hb⟩
    have Bw11 := Lib.hid (bl_trans Bw10.out hb)
    have H1w11 := Lib.hid (H1w10.out.below hb)
    have H2w11 := Lib.hid (H2w10.out.below hb)
    clear hb Bw10 H1w10 H2w10
    go_wp2
    go_ret
    exact ⟨rfl, Bw11.out⟩

theorem laid_met (os : Os) : laidMet Tryd.prog laidL ((laidWorld os).forCall (fun _ _ => 0) ⟨#[], #[.agg (row4 nilW), .agg (row4 nilW), .int .u8 0], []⟩).memory :=
  laidMet_of_run' 8 (by kernel_rfl) (by kernel_rfl)
theorem reads (os : Os) {H : Type} (enc : TypeId × Value → H) : ∃ places, DataW.whole enc Tryd.prog ((laidWorld os).forCall (fun _ _ => 0) ⟨#[], #[.agg (row4 nilW), .agg (row4 nilW), .int .u8 0], []⟩).memory Tryd.f6.params.toList Rows.setsMeansSpec.vars false (#[.agg (row4 nilW), .agg (row4 nilW), .int .u8 0] : Array Value).toList 8 = some ([.agg [.lit (.int .u64 0), .lit (.int .u64 0), .lit (.int .u64 0), .lit (.int .u64 0)], .agg [.lit (.int .u64 0), .lit (.int .u64 0), .lit (.int .u64 0), .lit (.int .u64 0)], .lit (.int .u8 0)], [], places) :=
  ⟨[], by kernel_rfl⟩
set_option maxRecDepth 100000 in
theorem SetsMeans_said : Rows.SetsMeansSaid :=
  OpenClaim.holds_of_cond 6 Tryd.f6 rfl rfl rfl rfl rfl rfl rfl ⟨rfl, rfl, rfl, rfl, rfl⟩ rfl rfl rfl rfl rfl (by kernel_rfl) Tryd.func6 (by kernel_rfl)
    (of_decide_eq_true (by kernel_rfl)) (by unfold Func.isWrapper; first | (rw [if_pos (by decide +kernel)]; kernel_rfl) | (rw [if_neg (by decide +kernel)]; exact ⟨rfl, rfl⟩))
    (fun os started H enc _ F => by
      rw [OpenClaim.pre_eq_preRow]
      obtain ⟨places, hx⟩ := reads os enc
      exact law_lifted_laid (s := Rows.setsMeansSpec) (conds := Rows.setsMeansRow.domain) Tryd.func6 (by kernel_rfl) rfl
        (fun H ds h => by rw [Tryd.params6] at h; match ds, h with | [_, _, _], _ => rfl) (by kernel_rfl) (by kernel_rfl) os started H enc F
        (witness_row_at (enc := enc) (C := Tryd.checked) false (laidWorld os) #[.agg (row4 nilW), .agg (row4 nilW), .int .u8 0] rfl (by kernel_rfl) (by kernel_rfl) (by kernel_rfl)
          (OpenSpec.preRow_of_cond 8 hx (by kernel_rfl) (fun k hk => by cases hk) (by kernel_rfl) (laid_met os)))
        (fun W args ds p h hT => by
          obtain ⟨⟨base, hok⟩, hA, hl⟩ := h
          rw [Tryd.params6] at hok hA hl
          obtain ⟨v0, v1, v2, d0, d1, d2, p0, p1, p2, rfl, rfl, rfl, g0, g1, g2⟩ := trodAll_three hA
          obtain ⟨f0, rfl⟩ := open_set (hok 0 24 v0 rfl rfl) g0
          obtain ⟨f1, rfl⟩ := open_set (hok 1 24 v1 rfl rfl) g1
          obtain ⟨n2, rfl, a2⟩ := open_u8 (hok 2 5 v2 rfl rfl) g2
          exact means_walk f0 f1 n2 W a2 hT))

theorem plain_params (f : FuncId) (fn : Func) (hf : Tryd.pinned.checked.prog.funcNamed "incunable/incunablelaw08.SetsMeans" = some f) (hfn : Tryd.pinned.checked.prog.funcs[f]? = some fn) :
    false = Tryd.pinned.checked.prog.looks [] ∧ ∀ (j : Nat) t, fn.params[j]? = some t → Tryd.pinned.checked.prog.wantsStandIn t = false := by
  obtain rfl : f = 6 := Option.some.inj ((show Tryd.prog.funcNamed "incunable/incunablelaw08.SetsMeans" = some 6 by kernel_rfl).symm.trans hf) |>.symm
  obtain rfl : fn = Tryd.f6 := (Option.some.inj (Tryd.func6.symm.trans hfn)).symm
  refine ⟨by kernel_rfl, fun j t ht => ?_⟩
  rw [Tryd.params6] at ht
  have hm : t ∈ [24, 24, 5] := by simpa using Array.mem_of_getElem? ht
  have hall : ([24, 24, 5].all fun u => !Tryd.prog.wantsStandIn u) = true := by kernel_rfl
  exact (show Tryd.prog.wantsStandIn t = false by simpa using List.all_eq_true.1 hall t hm)

/-- The card. -/
theorem SetsMeansCard_holds : Rows.SetsMeansCardSaid :=
  Claim7.holds_tied_plain_at .later [] _ _ _ _ SetsMeans_said (fun _ h => by cases h) (by kernel_rfl) (fun _ h => by cases h) setsMeans_row_tie rfl ⟨rfl, rfl⟩ (by kernel_rfl) rfl plain_params (by kernel_rfl)

end Go.Proofs.YtcgoacfcdlbhdaaDoor

