/- The document's Mix. No condition. -/
import Derived.Test.YtcgoacfcdlbhdaaDoorSetV
set_option linter.unusedVariables false
set_option linter.unusedSimpArgs false
namespace Go.Proofs.YtcgoacfcdlbhdaaDoor
open Go.RowKit

theorem wrap8 (k : Nat) (h : k < 256) : IntKind.u8.wrap (k : Int) = (k : Int) := by
  simp [IntKind.wrap, IntKind.signed, IntKind.bits]
  omega

def mixB (h : Nat) (x y : Bool) : Bool := if h = 0 then x || y else if h = 1 then x && y else if h = 2 then x && !y else !x
def mixW (h : Nat) (f g : Nat → BitVec 64) : Nat → BitVec 64 := if h = 0 then orW f g else if h = 1 then andW f g else if h = 2 then andW f (notW g) else notW f
theorem has_mix (h : Nat) (f g : Nat → BitVec 64) (c : Nat) : has (mixW h f g) c = mixB h (has f c) (has g c) := by
  unfold mixW mixB
  by_cases h0 : h = 0
  · rw [if_pos h0, if_pos h0]
    exact has_or f g c
  · rw [if_neg h0, if_neg h0]
    by_cases h1 : h = 1
    · rw [if_pos h1, if_pos h1]
      exact has_and f g c
    · rw [if_neg h1, if_neg h1]
      by_cases h2 : h = 2
      · rw [if_pos h2, if_pos h2, has_and, has_not]
      · rw [if_neg h2, if_neg h2]
        exact has_not f c

/-- What is below k, of a set. -/
def preW (M : Nat → BitVec 64) (k : Nat) : Nat → BitVec 64 := allW nilW ((List.range k).filter (has M))
theorem preW_zero (M : Nat → BitVec 64) : preW M 0 = nilW := rfl
theorem preW_all (M : Nat → BitVec 64) : Eq4 (preW M 256) M := of_elems M
theorem preW_yes (M : Nat → BitVec 64) (k : Nat) (h : has M k = true) : preW M (k + 1) = putW (preW M k) k := by
  unfold preW
  rw [List.range_succ, List.filter_append]
  simp only [List.filter_cons, h, if_true, List.filter_nil]
  exact allW_snoc _ _ _
theorem preW_no (M : Nat → BitVec 64) (k : Nat) (h : has M k = false) : preW M (k + 1) = preW M k := by
  unfold preW
  rw [List.range_succ, List.filter_append]
  simp [List.filter_cons, h]

set_option maxHeartbeats 4000000 in
set_option maxRecDepth 100000 in
theorem mix0 (f g : Nat → BitVec 64) (w : World) :
    Calls Tryd.prog 10 #[.agg (row4 f), .agg (row4 g), .int .i64 0] w (Got4 w (mixW 0 f g)) := by
  have hz := zero4
  rw [tab4_row] at hz
  go_enter Tryd.func10, Tryd.ntmps10
  have hC0 := H4.new3 w (.cells (row4 f) 24) (.cells (row4 g) 24) (.cells (row4 nilW) 24) nilW
  have HC0 := Lib.hid hC0
  clear hC0
  go_wp2_with (refine wpList_store_row rfl 24 _ _ rfl (w.heap.size + 1 + 1 + 1) _ rfl rfl 24 _ HC0.out (by rw [size4, row4_size]) rfl (row4_one _) ?_)
  clear hz
  have hA := (((H4.new w f).alloc (.cells (row4 g) 24)).alloc (.cells (row4 nilW) 24)).alloc (.cells (row4 nilW) 24)
  have hB := ((H4.new1 w (.cells (row4 f) 24) g).alloc (.cells (row4 nilW) 24)).alloc (.cells (row4 nilW) 24)
  have hD := (H4.new2 w (.cells (row4 f) 24) (.cells (row4 g) 24) nilW).alloc (.cells (row4 nilW) 24)
  have hL : Below w.heap.size w ((((w.alloc (.cells (row4 f) 24)).alloc (.cells (row4 g) 24)).alloc (.cells (row4 nilW) 24)).alloc (.cells (row4 nilW) 24)) := bl_alloc (bl_alloc (bl_alloc (bl_alloc (Below.refl _ _) _) _) _) _
  have HC := Lib.hid (HC0.out.laid (f' := nilW))
  have HA := Lib.hid (hA.row (k := w.heap.size + 1 + 1 + 1) (by omega) (row4 nilW))
  have HB := Lib.hid (hB.row (k := w.heap.size + 1 + 1 + 1) (by omega) (row4 nilW))
  have HD := Lib.hid (hD.row (k := w.heap.size + 1 + 1 + 1) (by omega) (row4 nilW))
  have HL := Lib.hid (bl_setRow hL (g := w.heap.size + 1 + 1 + 1) (by omega) (row4 nilW))
  clear hA hB hD hL HC0
  generalize ((((w.alloc (.cells (row4 f) 24)).alloc (.cells (row4 g) 24)).alloc (.cells (row4 nilW) 24)).alloc (.cells (row4 nilW) 24)).setRow (w.heap.size + 1 + 1 + 1) (row4 nilW) = w0 at *
  go_loopw [8] (fun i wr => ∃ k : Nat, k ≤ 256 ∧ i = .int .i64 k ∧ H4 wr w.heap.size f ∧ H4 wr (w.heap.size + 1) g ∧ H4 wr (w.heap.size + 1 + 1) nilW ∧ H4 wr (w.heap.size + 1 + 1 + 1) (preW (mixW 0 f g) k) ∧ Below w.heap.size w wr) (fun i _ => 256 - (intOf i).toNat)
  case atStart => exact ⟨0, by omega, rfl, HA.out, HB.out, HD.out, HC.out, HL.out⟩
  case round =>
    clear HA HB HC HD HL
    obtain ⟨k, hk, rfl, h1, h2, h3, h4, hB⟩ := hrel
    by_cases hlt : k < 256
    · go_upto_region 5 with fail
      have hmx := has_mix 0 f g k
      refine wp_region_held_drew (S := fun w' => H4 w' w.heap.size f ∧ H4 w' (w.heap.size + 1) g ∧ H4 w' (w.heap.size + 1 + 1) nilW ∧ H4 w' (w.heap.size + 1 + 1 + 1) (preW (mixW 0 f g) k) ∧ Below w.heap.size w w') (by kernel_rfl) ⟨h1.drew, h2.drew, h3.drew, h4.drew, hB.drew⟩ (fun hHeld => ?_)
      clear h1 h2 h3 h4 hB
      refine wpAnyH_take (i := 0) (v := .agg (row4 f)) rfl (by kernel_rfl) (by kernel_rfl) (by kernel_rfl) (fun _ _ _ h => h) (yields_set (by rfl) (.tmp 3) rfl w.heap.size rfl f (fun _ h => h.1)) hHeld ?_
      try simp only [List.getElem_toArray, List.getElem_cons_zero, List.getElem_cons_succ, Act.put, List.setIfInBounds_toArray, List.set_cons_zero, List.set_cons_succ]
      refine wpAnyH_take (i := 1) (v := ?vz1) rfl (by kernel_rfl) (by kernel_rfl) (by kernel_rfl) (fun _ _ _ h => h) (Or.inl ⟨by rfl, ?yz1⟩) hHeld ?rz1
      case yz1 => (intro wS hSw; clear hSw; go_simp; try (with_reducible rfl))
      try simp only [List.getElem_toArray, List.getElem_cons_zero, List.getElem_cons_succ, Act.put, List.setIfInBounds_toArray, List.set_cons_zero, List.set_cons_succ]
      refine wpAnyH_take (i := 2) (v := ?vz2) rfl (by kernel_rfl) (by kernel_rfl) (by kernel_rfl) (fun _ _ _ h => h) (Or.inl ⟨by rfl, ?yz2⟩) hHeld ?rz2
      case yz2 => (intro wS hSw; clear hSw; go_simp; try (with_reducible rfl))
      try simp only [List.getElem_toArray, List.getElem_cons_zero, List.getElem_cons_succ, Act.put, List.setIfInBounds_toArray, List.set_cons_zero, List.set_cons_succ]
      refine wpAnyH_take (i := 4) (v := .agg (row4 g)) rfl (by kernel_rfl) (by kernel_rfl) (by kernel_rfl) (fun _ _ _ h => h) (yields_set (by rfl) (.tmp 4) rfl (w.heap.size + 1) rfl g (fun _ h => h.2.1)) hHeld ?_
      try simp only [List.getElem_toArray, List.getElem_cons_zero, List.getElem_cons_succ, Act.put, List.setIfInBounds_toArray, List.set_cons_zero, List.set_cons_succ]
      refine wpAnyH_take (i := 5) (v := ?vz5) rfl (by kernel_rfl) (by kernel_rfl) (by kernel_rfl) (fun _ _ _ h => h) (Or.inl ⟨by rfl, ?yz5⟩) hHeld ?rz5
      case yz5 => (intro wS hSw; clear hSw; go_simp; try (with_reducible rfl))
      try simp only [List.getElem_toArray, List.getElem_cons_zero, List.getElem_cons_succ, Act.put, List.setIfInBounds_toArray, List.set_cons_zero, List.set_cons_succ]
      refine wpAnyH_take (i := 6) (v := ?vz6) rfl (by kernel_rfl) (by kernel_rfl) (by kernel_rfl) (fun _ _ _ h => h) (Or.inl ⟨by rfl, ?yz6⟩) hHeld ?rz6
      case yz6 => (intro wS hSw; clear hSw; go_simp; try (with_reducible rfl))
      try simp only [List.getElem_toArray, List.getElem_cons_zero, List.getElem_cons_succ, Act.put, List.setIfInBounds_toArray, List.set_cons_zero, List.set_cons_succ]
      refine wpAnyH_ready (rs := [3]) (by kernel_rfl) (by simp) (AllReadyH.cons rfl (fun K hK => ?_) AllReadyH.nil)
      go_simp
      go_at_call 23
      try rw [wrap8 k hlt]
      refine (refHas_any f k hlt _).mono ?_
      rintro e w1 ⟨rfl, hb1⟩
      have hS1 := And.intro (hHeld.1.below hb1) (And.intro (hHeld.2.1.below hb1) (And.intro (hHeld.2.2.1.below hb1) (And.intro (hHeld.2.2.2.1.below hb1) (bl_trans hHeld.2.2.2.2 hb1))))
      clear hHeld hb1
      go_wp2_with fail
      refine hK.out _ _ hS1 (fun hHeld => ?_)
      clear hK K hS1
      try simp only [List.getElem_toArray, List.getElem_cons_zero, List.getElem_cons_succ, Act.put, List.setIfInBounds_toArray, List.set_cons_zero, List.set_cons_succ]
      refine wpAnyH_ready (rs := [7]) (by kernel_rfl) (by simp) (AllReadyH.cons rfl (fun K hK => ?_) AllReadyH.nil)
      go_simp
      go_at_call 23
      try rw [wrap8 k hlt]
      refine (refHas_any g k hlt _).mono ?_
      rintro e w2 ⟨rfl, hb1⟩
      have hS1 := And.intro (hHeld.1.below hb1) (And.intro (hHeld.2.1.below hb1) (And.intro (hHeld.2.2.1.below hb1) (And.intro (hHeld.2.2.2.1.below hb1) (bl_trans hHeld.2.2.2.2 hb1))))
      clear hHeld hb1
      go_wp2_with fail
      refine hK.out _ _ hS1 (fun hHeld => ?_)
      clear hK K hS1
      try simp only [List.getElem_toArray, List.getElem_cons_zero, List.getElem_cons_succ, Act.put, List.setIfInBounds_toArray, List.set_cons_zero, List.set_cons_succ]
      refine wpAnyH_take (i := 8) (v := ?vz8) rfl (by kernel_rfl) (by kernel_rfl) (by kernel_rfl) (fun _ _ _ h => h) (Or.inl ⟨by rfl, ?yz8⟩) hHeld ?rz8
      case yz8 => (intro wS hSw; clear hSw; go_simp; try (with_reducible rfl))
      try simp only [List.getElem_toArray, List.getElem_cons_zero, List.getElem_cons_succ, Act.put, List.setIfInBounds_toArray, List.set_cons_zero, List.set_cons_succ]
      refine wpAnyH_take (i := 9) (v := ?vz9) rfl (by kernel_rfl) (by kernel_rfl) (by kernel_rfl) (fun _ _ _ h => h) (Or.inl ⟨by rfl, ?yz9⟩) hHeld ?rz9
      case yz9 => (intro wS hSw; clear hSw; go_simp; try (with_reducible rfl))
      try simp only [List.getElem_toArray, List.getElem_cons_zero, List.getElem_cons_succ, Act.put, List.setIfInBounds_toArray, List.set_cons_zero, List.set_cons_succ]
      refine wpAnyH_done (by kernel_rfl) ?_ _
      obtain ⟨h1, h2, h3, h4, hB⟩ := hHeld
      have H1 := Lib.hid h1
      have H2 := Lib.hid h2
      have H3 := Lib.hid h3
      have H4' := Lib.hid h4
      have HB := Lib.hid hB
      have HMx := Lib.hid hmx
      clear h1 h2 h3 h4 hB hmx
      cases hxx : has f k <;> cases hyy : has g k
      · have hm : has (mixW 0 f g) k = false := by rw [HMx.out, hxx, hyy]; rfl
        have hp := Lib.hid (preW_no _ k hm)
        clear hxx hyy hm HMx
        go_wp2
        exact ⟨⟨k + 1, by omega, by go_num, H1.out, H2.out, H3.out, by rw [hp.out]; exact H4'.out, HB.out⟩, by simp [intOf]; omega⟩
      · have hm : has (mixW 0 f g) k = true := by rw [HMx.out, hxx, hyy]; rfl
        have hp := Lib.hid (preW_yes _ k hm)
        clear hxx hyy hm HMx
        go_wp2_with (refine wpList_load_row rfl 24 _ rfl (w.heap.size + 1 + 1 + 1) rfl 24 _ (0, 0) _ H4'.out Tryd.underlying24 rfl (by rw [size4, row4_size]) ?_)
        try rw [wrap8 k hlt]
        refine (with_any _ k hlt _).mono ?_
        rintro e w3 ⟨rfl, hb1⟩
        rw [← hp.out]
        have J4 := Lib.hid (H4'.out.below hb1)
        have K4 := Lib.hid (J4.out.laid (f' := preW (mixW 0 f g) (k + 1)))
        have K1 := Lib.hid ((H1.out.below hb1).row (k := w.heap.size + 1 + 1 + 1) (by omega) (row4 (preW (mixW 0 f g) (k + 1))))
        have K2 := Lib.hid ((H2.out.below hb1).row (k := w.heap.size + 1 + 1 + 1) (by omega) (row4 (preW (mixW 0 f g) (k + 1))))
        have K3 := Lib.hid ((H3.out.below hb1).row (k := w.heap.size + 1 + 1 + 1) (by omega) (row4 (preW (mixW 0 f g) (k + 1))))
        have KB := Lib.hid (bl_setRow (bl_trans HB.out hb1) (g := w.heap.size + 1 + 1 + 1) (by omega) (row4 (preW (mixW 0 f g) (k + 1))))
        clear hb1 H1 H2 H3 H4' HB
        go_wp2_with (refine wpList_store_row rfl 24 _ _ rfl (w.heap.size + 1 + 1 + 1) _ rfl rfl 24 _ J4.out (by rw [size4, row4_size]) (by rw [row4_size, row4_size]) (row4_one _) ?_)
        exact ⟨⟨k + 1, by omega, by go_num, K1.out, K2.out, K3.out, K4.out, KB.out⟩, by simp [intOf]; omega⟩
      · have hm : has (mixW 0 f g) k = true := by rw [HMx.out, hxx, hyy]; rfl
        have hp := Lib.hid (preW_yes _ k hm)
        clear hxx hyy hm HMx
        go_wp2_with (refine wpList_load_row rfl 24 _ rfl (w.heap.size + 1 + 1 + 1) rfl 24 _ (0, 0) _ H4'.out Tryd.underlying24 rfl (by rw [size4, row4_size]) ?_)
        try rw [wrap8 k hlt]
        refine (with_any _ k hlt _).mono ?_
        rintro e w3 ⟨rfl, hb1⟩
        rw [← hp.out]
        have J4 := Lib.hid (H4'.out.below hb1)
        have K4 := Lib.hid (J4.out.laid (f' := preW (mixW 0 f g) (k + 1)))
        have K1 := Lib.hid ((H1.out.below hb1).row (k := w.heap.size + 1 + 1 + 1) (by omega) (row4 (preW (mixW 0 f g) (k + 1))))
        have K2 := Lib.hid ((H2.out.below hb1).row (k := w.heap.size + 1 + 1 + 1) (by omega) (row4 (preW (mixW 0 f g) (k + 1))))
        have K3 := Lib.hid ((H3.out.below hb1).row (k := w.heap.size + 1 + 1 + 1) (by omega) (row4 (preW (mixW 0 f g) (k + 1))))
        have KB := Lib.hid (bl_setRow (bl_trans HB.out hb1) (g := w.heap.size + 1 + 1 + 1) (by omega) (row4 (preW (mixW 0 f g) (k + 1))))
        clear hb1 H1 H2 H3 H4' HB
        go_wp2_with (refine wpList_store_row rfl 24 _ _ rfl (w.heap.size + 1 + 1 + 1) _ rfl rfl 24 _ J4.out (by rw [size4, row4_size]) (by rw [row4_size, row4_size]) (row4_one _) ?_)
        exact ⟨⟨k + 1, by omega, by go_num, K1.out, K2.out, K3.out, K4.out, KB.out⟩, by simp [intOf]; omega⟩
      · have hm : has (mixW 0 f g) k = true := by rw [HMx.out, hxx, hyy]; rfl
        have hp := Lib.hid (preW_yes _ k hm)
        clear hxx hyy hm HMx
        go_wp2_with (refine wpList_load_row rfl 24 _ rfl (w.heap.size + 1 + 1 + 1) rfl 24 _ (0, 0) _ H4'.out Tryd.underlying24 rfl (by rw [size4, row4_size]) ?_)
        try rw [wrap8 k hlt]
        refine (with_any _ k hlt _).mono ?_
        rintro e w3 ⟨rfl, hb1⟩
        rw [← hp.out]
        have J4 := Lib.hid (H4'.out.below hb1)
        have K4 := Lib.hid (J4.out.laid (f' := preW (mixW 0 f g) (k + 1)))
        have K1 := Lib.hid ((H1.out.below hb1).row (k := w.heap.size + 1 + 1 + 1) (by omega) (row4 (preW (mixW 0 f g) (k + 1))))
        have K2 := Lib.hid ((H2.out.below hb1).row (k := w.heap.size + 1 + 1 + 1) (by omega) (row4 (preW (mixW 0 f g) (k + 1))))
        have K3 := Lib.hid ((H3.out.below hb1).row (k := w.heap.size + 1 + 1 + 1) (by omega) (row4 (preW (mixW 0 f g) (k + 1))))
        have KB := Lib.hid (bl_setRow (bl_trans HB.out hb1) (g := w.heap.size + 1 + 1 + 1) (by omega) (row4 (preW (mixW 0 f g) (k + 1))))
        clear hb1 H1 H2 H3 H4' HB
        go_wp2_with (refine wpList_store_row rfl 24 _ _ rfl (w.heap.size + 1 + 1 + 1) _ rfl rfl 24 _ J4.out (by rw [size4, row4_size]) (by rw [row4_size, row4_size]) (row4_one _) ?_)
        exact ⟨⟨k + 1, by omega, by go_num, K1.out, K2.out, K3.out, K4.out, KB.out⟩, by simp [intOf]; omega⟩
    · obtain rfl : k = 256 := by omega
      have H3 := Lib.hid h3
      have H4' := Lib.hid (h4.congr (preW_all _))
      have HB := Lib.hid hB
      clear h1 h2 h3 h4 hB
      go_wp2_with (first
        | (refine wpList_load_row rfl 24 _ rfl (w.heap.size + 1 + 1 + 1) rfl 24 _ (0, 0) _ H4'.out Tryd.underlying24 rfl (by rw [size4, row4_size]) ?_)
        | (refine wpList_store_row rfl 24 _ _ rfl (w.heap.size + 1 + 1) _ rfl rfl 24 _ H3.out (by rw [size4, row4_size]) (by rw [row4_size, row4_size]) (row4_one _) ?_))
      refine bodyPost_ret (v := .agg (row4 (mixW 0 f g))) (results_cell_row rfl _ _ (w.heap.size + 1 + 1) 24 _ (0, 0) _ rfl (setRow_heap _ _ _ _ _ _ H3.out) Tryd.underlying24 rfl (by rw [size4, row4_size])) rfl ⟨rfl, ?_⟩
      exact bl_setRow HB.out (by omega) _

set_option maxHeartbeats 4000000 in
set_option maxRecDepth 100000 in
theorem mix1 (f g : Nat → BitVec 64) (w : World) :
    Calls Tryd.prog 10 #[.agg (row4 f), .agg (row4 g), .int .i64 1] w (Got4 w (mixW 1 f g)) := by
  have hz := zero4
  rw [tab4_row] at hz
  go_enter Tryd.func10, Tryd.ntmps10
  have hC0 := H4.new3 w (.cells (row4 f) 24) (.cells (row4 g) 24) (.cells (row4 nilW) 24) nilW
  have HC0 := Lib.hid hC0
  clear hC0
  go_wp2_with (refine wpList_store_row rfl 24 _ _ rfl (w.heap.size + 1 + 1 + 1) _ rfl rfl 24 _ HC0.out (by rw [size4, row4_size]) rfl (row4_one _) ?_)
  clear hz
  have hA := (((H4.new w f).alloc (.cells (row4 g) 24)).alloc (.cells (row4 nilW) 24)).alloc (.cells (row4 nilW) 24)
  have hB := ((H4.new1 w (.cells (row4 f) 24) g).alloc (.cells (row4 nilW) 24)).alloc (.cells (row4 nilW) 24)
  have hD := (H4.new2 w (.cells (row4 f) 24) (.cells (row4 g) 24) nilW).alloc (.cells (row4 nilW) 24)
  have hL : Below w.heap.size w ((((w.alloc (.cells (row4 f) 24)).alloc (.cells (row4 g) 24)).alloc (.cells (row4 nilW) 24)).alloc (.cells (row4 nilW) 24)) := bl_alloc (bl_alloc (bl_alloc (bl_alloc (Below.refl _ _) _) _) _) _
  have HC := Lib.hid (HC0.out.laid (f' := nilW))
  have HA := Lib.hid (hA.row (k := w.heap.size + 1 + 1 + 1) (by omega) (row4 nilW))
  have HB := Lib.hid (hB.row (k := w.heap.size + 1 + 1 + 1) (by omega) (row4 nilW))
  have HD := Lib.hid (hD.row (k := w.heap.size + 1 + 1 + 1) (by omega) (row4 nilW))
  have HL := Lib.hid (bl_setRow hL (g := w.heap.size + 1 + 1 + 1) (by omega) (row4 nilW))
  clear hA hB hD hL HC0
  generalize ((((w.alloc (.cells (row4 f) 24)).alloc (.cells (row4 g) 24)).alloc (.cells (row4 nilW) 24)).alloc (.cells (row4 nilW) 24)).setRow (w.heap.size + 1 + 1 + 1) (row4 nilW) = w0 at *
  go_loopw [8] (fun i wr => ∃ k : Nat, k ≤ 256 ∧ i = .int .i64 k ∧ H4 wr w.heap.size f ∧ H4 wr (w.heap.size + 1) g ∧ H4 wr (w.heap.size + 1 + 1) nilW ∧ H4 wr (w.heap.size + 1 + 1 + 1) (preW (mixW 1 f g) k) ∧ Below w.heap.size w wr) (fun i _ => 256 - (intOf i).toNat)
  case atStart => exact ⟨0, by omega, rfl, HA.out, HB.out, HD.out, HC.out, HL.out⟩
  case round =>
    clear HA HB HC HD HL
    obtain ⟨k, hk, rfl, h1, h2, h3, h4, hB⟩ := hrel
    by_cases hlt : k < 256
    · go_upto_region 5 with fail
      have hmx := has_mix 1 f g k
      refine wp_region_held_drew (S := fun w' => H4 w' w.heap.size f ∧ H4 w' (w.heap.size + 1) g ∧ H4 w' (w.heap.size + 1 + 1) nilW ∧ H4 w' (w.heap.size + 1 + 1 + 1) (preW (mixW 1 f g) k) ∧ Below w.heap.size w w') (by kernel_rfl) ⟨h1.drew, h2.drew, h3.drew, h4.drew, hB.drew⟩ (fun hHeld => ?_)
      clear h1 h2 h3 h4 hB
      refine wpAnyH_take (i := 0) (v := .agg (row4 f)) rfl (by kernel_rfl) (by kernel_rfl) (by kernel_rfl) (fun _ _ _ h => h) (yields_set (by rfl) (.tmp 3) rfl w.heap.size rfl f (fun _ h => h.1)) hHeld ?_
      try simp only [List.getElem_toArray, List.getElem_cons_zero, List.getElem_cons_succ, Act.put, List.setIfInBounds_toArray, List.set_cons_zero, List.set_cons_succ]
      refine wpAnyH_take (i := 1) (v := ?vz1) rfl (by kernel_rfl) (by kernel_rfl) (by kernel_rfl) (fun _ _ _ h => h) (Or.inl ⟨by rfl, ?yz1⟩) hHeld ?rz1
      case yz1 => (intro wS hSw; clear hSw; go_simp; try (with_reducible rfl))
      try simp only [List.getElem_toArray, List.getElem_cons_zero, List.getElem_cons_succ, Act.put, List.setIfInBounds_toArray, List.set_cons_zero, List.set_cons_succ]
      refine wpAnyH_take (i := 2) (v := ?vz2) rfl (by kernel_rfl) (by kernel_rfl) (by kernel_rfl) (fun _ _ _ h => h) (Or.inl ⟨by rfl, ?yz2⟩) hHeld ?rz2
      case yz2 => (intro wS hSw; clear hSw; go_simp; try (with_reducible rfl))
      try simp only [List.getElem_toArray, List.getElem_cons_zero, List.getElem_cons_succ, Act.put, List.setIfInBounds_toArray, List.set_cons_zero, List.set_cons_succ]
      refine wpAnyH_take (i := 4) (v := .agg (row4 g)) rfl (by kernel_rfl) (by kernel_rfl) (by kernel_rfl) (fun _ _ _ h => h) (yields_set (by rfl) (.tmp 4) rfl (w.heap.size + 1) rfl g (fun _ h => h.2.1)) hHeld ?_
      try simp only [List.getElem_toArray, List.getElem_cons_zero, List.getElem_cons_succ, Act.put, List.setIfInBounds_toArray, List.set_cons_zero, List.set_cons_succ]
      refine wpAnyH_take (i := 5) (v := ?vz5) rfl (by kernel_rfl) (by kernel_rfl) (by kernel_rfl) (fun _ _ _ h => h) (Or.inl ⟨by rfl, ?yz5⟩) hHeld ?rz5
      case yz5 => (intro wS hSw; clear hSw; go_simp; try (with_reducible rfl))
      try simp only [List.getElem_toArray, List.getElem_cons_zero, List.getElem_cons_succ, Act.put, List.setIfInBounds_toArray, List.set_cons_zero, List.set_cons_succ]
      refine wpAnyH_take (i := 6) (v := ?vz6) rfl (by kernel_rfl) (by kernel_rfl) (by kernel_rfl) (fun _ _ _ h => h) (Or.inl ⟨by rfl, ?yz6⟩) hHeld ?rz6
      case yz6 => (intro wS hSw; clear hSw; go_simp; try (with_reducible rfl))
      try simp only [List.getElem_toArray, List.getElem_cons_zero, List.getElem_cons_succ, Act.put, List.setIfInBounds_toArray, List.set_cons_zero, List.set_cons_succ]
      refine wpAnyH_ready (rs := [3]) (by kernel_rfl) (by simp) (AllReadyH.cons rfl (fun K hK => ?_) AllReadyH.nil)
      go_simp
      go_at_call 23
      try rw [wrap8 k hlt]
      refine (refHas_any f k hlt _).mono ?_
      rintro e w1 ⟨rfl, hb1⟩
      have hS1 := And.intro (hHeld.1.below hb1) (And.intro (hHeld.2.1.below hb1) (And.intro (hHeld.2.2.1.below hb1) (And.intro (hHeld.2.2.2.1.below hb1) (bl_trans hHeld.2.2.2.2 hb1))))
      clear hHeld hb1
      go_wp2_with fail
      refine hK.out _ _ hS1 (fun hHeld => ?_)
      clear hK K hS1
      try simp only [List.getElem_toArray, List.getElem_cons_zero, List.getElem_cons_succ, Act.put, List.setIfInBounds_toArray, List.set_cons_zero, List.set_cons_succ]
      refine wpAnyH_ready (rs := [7]) (by kernel_rfl) (by simp) (AllReadyH.cons rfl (fun K hK => ?_) AllReadyH.nil)
      go_simp
      go_at_call 23
      try rw [wrap8 k hlt]
      refine (refHas_any g k hlt _).mono ?_
      rintro e w2 ⟨rfl, hb1⟩
      have hS1 := And.intro (hHeld.1.below hb1) (And.intro (hHeld.2.1.below hb1) (And.intro (hHeld.2.2.1.below hb1) (And.intro (hHeld.2.2.2.1.below hb1) (bl_trans hHeld.2.2.2.2 hb1))))
      clear hHeld hb1
      go_wp2_with fail
      refine hK.out _ _ hS1 (fun hHeld => ?_)
      clear hK K hS1
      try simp only [List.getElem_toArray, List.getElem_cons_zero, List.getElem_cons_succ, Act.put, List.setIfInBounds_toArray, List.set_cons_zero, List.set_cons_succ]
      refine wpAnyH_take (i := 8) (v := ?vz8) rfl (by kernel_rfl) (by kernel_rfl) (by kernel_rfl) (fun _ _ _ h => h) (Or.inl ⟨by rfl, ?yz8⟩) hHeld ?rz8
      case yz8 => (intro wS hSw; clear hSw; go_simp; try (with_reducible rfl))
      try simp only [List.getElem_toArray, List.getElem_cons_zero, List.getElem_cons_succ, Act.put, List.setIfInBounds_toArray, List.set_cons_zero, List.set_cons_succ]
      refine wpAnyH_take (i := 9) (v := ?vz9) rfl (by kernel_rfl) (by kernel_rfl) (by kernel_rfl) (fun _ _ _ h => h) (Or.inl ⟨by rfl, ?yz9⟩) hHeld ?rz9
      case yz9 => (intro wS hSw; clear hSw; go_simp; try (with_reducible rfl))
      try simp only [List.getElem_toArray, List.getElem_cons_zero, List.getElem_cons_succ, Act.put, List.setIfInBounds_toArray, List.set_cons_zero, List.set_cons_succ]
      refine wpAnyH_done (by kernel_rfl) ?_ _
      obtain ⟨h1, h2, h3, h4, hB⟩ := hHeld
      have H1 := Lib.hid h1
      have H2 := Lib.hid h2
      have H3 := Lib.hid h3
      have H4' := Lib.hid h4
      have HB := Lib.hid hB
      have HMx := Lib.hid hmx
      clear h1 h2 h3 h4 hB hmx
      cases hxx : has f k <;> cases hyy : has g k
      · have hm : has (mixW 1 f g) k = false := by rw [HMx.out, hxx, hyy]; rfl
        have hp := Lib.hid (preW_no _ k hm)
        clear hxx hyy hm HMx
        go_wp2
        exact ⟨⟨k + 1, by omega, by go_num, H1.out, H2.out, H3.out, by rw [hp.out]; exact H4'.out, HB.out⟩, by simp [intOf]; omega⟩
      · have hm : has (mixW 1 f g) k = false := by rw [HMx.out, hxx, hyy]; rfl
        have hp := Lib.hid (preW_no _ k hm)
        clear hxx hyy hm HMx
        go_wp2
        exact ⟨⟨k + 1, by omega, by go_num, H1.out, H2.out, H3.out, by rw [hp.out]; exact H4'.out, HB.out⟩, by simp [intOf]; omega⟩
      · have hm : has (mixW 1 f g) k = false := by rw [HMx.out, hxx, hyy]; rfl
        have hp := Lib.hid (preW_no _ k hm)
        clear hxx hyy hm HMx
        go_wp2
        exact ⟨⟨k + 1, by omega, by go_num, H1.out, H2.out, H3.out, by rw [hp.out]; exact H4'.out, HB.out⟩, by simp [intOf]; omega⟩
      · have hm : has (mixW 1 f g) k = true := by rw [HMx.out, hxx, hyy]; rfl
        have hp := Lib.hid (preW_yes _ k hm)
        clear hxx hyy hm HMx
        go_wp2_with (refine wpList_load_row rfl 24 _ rfl (w.heap.size + 1 + 1 + 1) rfl 24 _ (0, 0) _ H4'.out Tryd.underlying24 rfl (by rw [size4, row4_size]) ?_)
        try rw [wrap8 k hlt]
        refine (with_any _ k hlt _).mono ?_
        rintro e w3 ⟨rfl, hb1⟩
        rw [← hp.out]
        have J4 := Lib.hid (H4'.out.below hb1)
        have K4 := Lib.hid (J4.out.laid (f' := preW (mixW 1 f g) (k + 1)))
        have K1 := Lib.hid ((H1.out.below hb1).row (k := w.heap.size + 1 + 1 + 1) (by omega) (row4 (preW (mixW 1 f g) (k + 1))))
        have K2 := Lib.hid ((H2.out.below hb1).row (k := w.heap.size + 1 + 1 + 1) (by omega) (row4 (preW (mixW 1 f g) (k + 1))))
        have K3 := Lib.hid ((H3.out.below hb1).row (k := w.heap.size + 1 + 1 + 1) (by omega) (row4 (preW (mixW 1 f g) (k + 1))))
        have KB := Lib.hid (bl_setRow (bl_trans HB.out hb1) (g := w.heap.size + 1 + 1 + 1) (by omega) (row4 (preW (mixW 1 f g) (k + 1))))
        clear hb1 H1 H2 H3 H4' HB
        go_wp2_with (refine wpList_store_row rfl 24 _ _ rfl (w.heap.size + 1 + 1 + 1) _ rfl rfl 24 _ J4.out (by rw [size4, row4_size]) (by rw [row4_size, row4_size]) (row4_one _) ?_)
        exact ⟨⟨k + 1, by omega, by go_num, K1.out, K2.out, K3.out, K4.out, KB.out⟩, by simp [intOf]; omega⟩
    · obtain rfl : k = 256 := by omega
      have H3 := Lib.hid h3
      have H4' := Lib.hid (h4.congr (preW_all _))
      have HB := Lib.hid hB
      clear h1 h2 h3 h4 hB
      go_wp2_with (first
        | (refine wpList_load_row rfl 24 _ rfl (w.heap.size + 1 + 1 + 1) rfl 24 _ (0, 0) _ H4'.out Tryd.underlying24 rfl (by rw [size4, row4_size]) ?_)
        | (refine wpList_store_row rfl 24 _ _ rfl (w.heap.size + 1 + 1) _ rfl rfl 24 _ H3.out (by rw [size4, row4_size]) (by rw [row4_size, row4_size]) (row4_one _) ?_))
      refine bodyPost_ret (v := .agg (row4 (mixW 1 f g))) (results_cell_row rfl _ _ (w.heap.size + 1 + 1) 24 _ (0, 0) _ rfl (setRow_heap _ _ _ _ _ _ H3.out) Tryd.underlying24 rfl (by rw [size4, row4_size])) rfl ⟨rfl, ?_⟩
      exact bl_setRow HB.out (by omega) _

set_option maxHeartbeats 4000000 in
set_option maxRecDepth 100000 in
theorem mix2 (f g : Nat → BitVec 64) (w : World) :
    Calls Tryd.prog 10 #[.agg (row4 f), .agg (row4 g), .int .i64 2] w (Got4 w (mixW 2 f g)) := by
  have hz := zero4
  rw [tab4_row] at hz
  go_enter Tryd.func10, Tryd.ntmps10
  have hC0 := H4.new3 w (.cells (row4 f) 24) (.cells (row4 g) 24) (.cells (row4 nilW) 24) nilW
  have HC0 := Lib.hid hC0
  clear hC0
  go_wp2_with (refine wpList_store_row rfl 24 _ _ rfl (w.heap.size + 1 + 1 + 1) _ rfl rfl 24 _ HC0.out (by rw [size4, row4_size]) rfl (row4_one _) ?_)
  clear hz
  have hA := (((H4.new w f).alloc (.cells (row4 g) 24)).alloc (.cells (row4 nilW) 24)).alloc (.cells (row4 nilW) 24)
  have hB := ((H4.new1 w (.cells (row4 f) 24) g).alloc (.cells (row4 nilW) 24)).alloc (.cells (row4 nilW) 24)
  have hD := (H4.new2 w (.cells (row4 f) 24) (.cells (row4 g) 24) nilW).alloc (.cells (row4 nilW) 24)
  have hL : Below w.heap.size w ((((w.alloc (.cells (row4 f) 24)).alloc (.cells (row4 g) 24)).alloc (.cells (row4 nilW) 24)).alloc (.cells (row4 nilW) 24)) := bl_alloc (bl_alloc (bl_alloc (bl_alloc (Below.refl _ _) _) _) _) _
  have HC := Lib.hid (HC0.out.laid (f' := nilW))
  have HA := Lib.hid (hA.row (k := w.heap.size + 1 + 1 + 1) (by omega) (row4 nilW))
  have HB := Lib.hid (hB.row (k := w.heap.size + 1 + 1 + 1) (by omega) (row4 nilW))
  have HD := Lib.hid (hD.row (k := w.heap.size + 1 + 1 + 1) (by omega) (row4 nilW))
  have HL := Lib.hid (bl_setRow hL (g := w.heap.size + 1 + 1 + 1) (by omega) (row4 nilW))
  clear hA hB hD hL HC0
  generalize ((((w.alloc (.cells (row4 f) 24)).alloc (.cells (row4 g) 24)).alloc (.cells (row4 nilW) 24)).alloc (.cells (row4 nilW) 24)).setRow (w.heap.size + 1 + 1 + 1) (row4 nilW) = w0 at *
  go_loopw [8] (fun i wr => ∃ k : Nat, k ≤ 256 ∧ i = .int .i64 k ∧ H4 wr w.heap.size f ∧ H4 wr (w.heap.size + 1) g ∧ H4 wr (w.heap.size + 1 + 1) nilW ∧ H4 wr (w.heap.size + 1 + 1 + 1) (preW (mixW 2 f g) k) ∧ Below w.heap.size w wr) (fun i _ => 256 - (intOf i).toNat)
  case atStart => exact ⟨0, by omega, rfl, HA.out, HB.out, HD.out, HC.out, HL.out⟩
  case round =>
    clear HA HB HC HD HL
    obtain ⟨k, hk, rfl, h1, h2, h3, h4, hB⟩ := hrel
    by_cases hlt : k < 256
    · go_upto_region 5 with fail
      have hmx := has_mix 2 f g k
      refine wp_region_held_drew (S := fun w' => H4 w' w.heap.size f ∧ H4 w' (w.heap.size + 1) g ∧ H4 w' (w.heap.size + 1 + 1) nilW ∧ H4 w' (w.heap.size + 1 + 1 + 1) (preW (mixW 2 f g) k) ∧ Below w.heap.size w w') (by kernel_rfl) ⟨h1.drew, h2.drew, h3.drew, h4.drew, hB.drew⟩ (fun hHeld => ?_)
      clear h1 h2 h3 h4 hB
      refine wpAnyH_take (i := 0) (v := .agg (row4 f)) rfl (by kernel_rfl) (by kernel_rfl) (by kernel_rfl) (fun _ _ _ h => h) (yields_set (by rfl) (.tmp 3) rfl w.heap.size rfl f (fun _ h => h.1)) hHeld ?_
      try simp only [List.getElem_toArray, List.getElem_cons_zero, List.getElem_cons_succ, Act.put, List.setIfInBounds_toArray, List.set_cons_zero, List.set_cons_succ]
      refine wpAnyH_take (i := 1) (v := ?vz1) rfl (by kernel_rfl) (by kernel_rfl) (by kernel_rfl) (fun _ _ _ h => h) (Or.inl ⟨by rfl, ?yz1⟩) hHeld ?rz1
      case yz1 => (intro wS hSw; clear hSw; go_simp; try (with_reducible rfl))
      try simp only [List.getElem_toArray, List.getElem_cons_zero, List.getElem_cons_succ, Act.put, List.setIfInBounds_toArray, List.set_cons_zero, List.set_cons_succ]
      refine wpAnyH_take (i := 2) (v := ?vz2) rfl (by kernel_rfl) (by kernel_rfl) (by kernel_rfl) (fun _ _ _ h => h) (Or.inl ⟨by rfl, ?yz2⟩) hHeld ?rz2
      case yz2 => (intro wS hSw; clear hSw; go_simp; try (with_reducible rfl))
      try simp only [List.getElem_toArray, List.getElem_cons_zero, List.getElem_cons_succ, Act.put, List.setIfInBounds_toArray, List.set_cons_zero, List.set_cons_succ]
      refine wpAnyH_take (i := 4) (v := .agg (row4 g)) rfl (by kernel_rfl) (by kernel_rfl) (by kernel_rfl) (fun _ _ _ h => h) (yields_set (by rfl) (.tmp 4) rfl (w.heap.size + 1) rfl g (fun _ h => h.2.1)) hHeld ?_
      try simp only [List.getElem_toArray, List.getElem_cons_zero, List.getElem_cons_succ, Act.put, List.setIfInBounds_toArray, List.set_cons_zero, List.set_cons_succ]
      refine wpAnyH_take (i := 5) (v := ?vz5) rfl (by kernel_rfl) (by kernel_rfl) (by kernel_rfl) (fun _ _ _ h => h) (Or.inl ⟨by rfl, ?yz5⟩) hHeld ?rz5
      case yz5 => (intro wS hSw; clear hSw; go_simp; try (with_reducible rfl))
      try simp only [List.getElem_toArray, List.getElem_cons_zero, List.getElem_cons_succ, Act.put, List.setIfInBounds_toArray, List.set_cons_zero, List.set_cons_succ]
      refine wpAnyH_take (i := 6) (v := ?vz6) rfl (by kernel_rfl) (by kernel_rfl) (by kernel_rfl) (fun _ _ _ h => h) (Or.inl ⟨by rfl, ?yz6⟩) hHeld ?rz6
      case yz6 => (intro wS hSw; clear hSw; go_simp; try (with_reducible rfl))
      try simp only [List.getElem_toArray, List.getElem_cons_zero, List.getElem_cons_succ, Act.put, List.setIfInBounds_toArray, List.set_cons_zero, List.set_cons_succ]
      refine wpAnyH_ready (rs := [3]) (by kernel_rfl) (by simp) (AllReadyH.cons rfl (fun K hK => ?_) AllReadyH.nil)
      go_simp
      go_at_call 23
      try rw [wrap8 k hlt]
      refine (refHas_any f k hlt _).mono ?_
      rintro e w1 ⟨rfl, hb1⟩
      have hS1 := And.intro (hHeld.1.below hb1) (And.intro (hHeld.2.1.below hb1) (And.intro (hHeld.2.2.1.below hb1) (And.intro (hHeld.2.2.2.1.below hb1) (bl_trans hHeld.2.2.2.2 hb1))))
      clear hHeld hb1
      go_wp2_with fail
      refine hK.out _ _ hS1 (fun hHeld => ?_)
      clear hK K hS1
      try simp only [List.getElem_toArray, List.getElem_cons_zero, List.getElem_cons_succ, Act.put, List.setIfInBounds_toArray, List.set_cons_zero, List.set_cons_succ]
      refine wpAnyH_ready (rs := [7]) (by kernel_rfl) (by simp) (AllReadyH.cons rfl (fun K hK => ?_) AllReadyH.nil)
      go_simp
      go_at_call 23
      try rw [wrap8 k hlt]
      refine (refHas_any g k hlt _).mono ?_
      rintro e w2 ⟨rfl, hb1⟩
      have hS1 := And.intro (hHeld.1.below hb1) (And.intro (hHeld.2.1.below hb1) (And.intro (hHeld.2.2.1.below hb1) (And.intro (hHeld.2.2.2.1.below hb1) (bl_trans hHeld.2.2.2.2 hb1))))
      clear hHeld hb1
      go_wp2_with fail
      refine hK.out _ _ hS1 (fun hHeld => ?_)
      clear hK K hS1
      try simp only [List.getElem_toArray, List.getElem_cons_zero, List.getElem_cons_succ, Act.put, List.setIfInBounds_toArray, List.set_cons_zero, List.set_cons_succ]
      refine wpAnyH_take (i := 8) (v := ?vz8) rfl (by kernel_rfl) (by kernel_rfl) (by kernel_rfl) (fun _ _ _ h => h) (Or.inl ⟨by rfl, ?yz8⟩) hHeld ?rz8
      case yz8 => (intro wS hSw; clear hSw; go_simp; try (with_reducible rfl))
      try simp only [List.getElem_toArray, List.getElem_cons_zero, List.getElem_cons_succ, Act.put, List.setIfInBounds_toArray, List.set_cons_zero, List.set_cons_succ]
      refine wpAnyH_take (i := 9) (v := ?vz9) rfl (by kernel_rfl) (by kernel_rfl) (by kernel_rfl) (fun _ _ _ h => h) (Or.inl ⟨by rfl, ?yz9⟩) hHeld ?rz9
      case yz9 => (intro wS hSw; clear hSw; go_simp; try (with_reducible rfl))
      try simp only [List.getElem_toArray, List.getElem_cons_zero, List.getElem_cons_succ, Act.put, List.setIfInBounds_toArray, List.set_cons_zero, List.set_cons_succ]
      refine wpAnyH_done (by kernel_rfl) ?_ _
      obtain ⟨h1, h2, h3, h4, hB⟩ := hHeld
      have H1 := Lib.hid h1
      have H2 := Lib.hid h2
      have H3 := Lib.hid h3
      have H4' := Lib.hid h4
      have HB := Lib.hid hB
      have HMx := Lib.hid hmx
      clear h1 h2 h3 h4 hB hmx
      cases hxx : has f k <;> cases hyy : has g k
      · have hm : has (mixW 2 f g) k = false := by rw [HMx.out, hxx, hyy]; rfl
        have hp := Lib.hid (preW_no _ k hm)
        clear hxx hyy hm HMx
        go_wp2
        exact ⟨⟨k + 1, by omega, by go_num, H1.out, H2.out, H3.out, by rw [hp.out]; exact H4'.out, HB.out⟩, by simp [intOf]; omega⟩
      · have hm : has (mixW 2 f g) k = false := by rw [HMx.out, hxx, hyy]; rfl
        have hp := Lib.hid (preW_no _ k hm)
        clear hxx hyy hm HMx
        go_wp2
        exact ⟨⟨k + 1, by omega, by go_num, H1.out, H2.out, H3.out, by rw [hp.out]; exact H4'.out, HB.out⟩, by simp [intOf]; omega⟩
      · have hm : has (mixW 2 f g) k = true := by rw [HMx.out, hxx, hyy]; rfl
        have hp := Lib.hid (preW_yes _ k hm)
        clear hxx hyy hm HMx
        go_wp2_with (refine wpList_load_row rfl 24 _ rfl (w.heap.size + 1 + 1 + 1) rfl 24 _ (0, 0) _ H4'.out Tryd.underlying24 rfl (by rw [size4, row4_size]) ?_)
        try rw [wrap8 k hlt]
        refine (with_any _ k hlt _).mono ?_
        rintro e w3 ⟨rfl, hb1⟩
        rw [← hp.out]
        have J4 := Lib.hid (H4'.out.below hb1)
        have K4 := Lib.hid (J4.out.laid (f' := preW (mixW 2 f g) (k + 1)))
        have K1 := Lib.hid ((H1.out.below hb1).row (k := w.heap.size + 1 + 1 + 1) (by omega) (row4 (preW (mixW 2 f g) (k + 1))))
        have K2 := Lib.hid ((H2.out.below hb1).row (k := w.heap.size + 1 + 1 + 1) (by omega) (row4 (preW (mixW 2 f g) (k + 1))))
        have K3 := Lib.hid ((H3.out.below hb1).row (k := w.heap.size + 1 + 1 + 1) (by omega) (row4 (preW (mixW 2 f g) (k + 1))))
        have KB := Lib.hid (bl_setRow (bl_trans HB.out hb1) (g := w.heap.size + 1 + 1 + 1) (by omega) (row4 (preW (mixW 2 f g) (k + 1))))
        clear hb1 H1 H2 H3 H4' HB
        go_wp2_with (refine wpList_store_row rfl 24 _ _ rfl (w.heap.size + 1 + 1 + 1) _ rfl rfl 24 _ J4.out (by rw [size4, row4_size]) (by rw [row4_size, row4_size]) (row4_one _) ?_)
        exact ⟨⟨k + 1, by omega, by go_num, K1.out, K2.out, K3.out, K4.out, KB.out⟩, by simp [intOf]; omega⟩
      · have hm : has (mixW 2 f g) k = false := by rw [HMx.out, hxx, hyy]; rfl
        have hp := Lib.hid (preW_no _ k hm)
        clear hxx hyy hm HMx
        go_wp2
        exact ⟨⟨k + 1, by omega, by go_num, H1.out, H2.out, H3.out, by rw [hp.out]; exact H4'.out, HB.out⟩, by simp [intOf]; omega⟩
    · obtain rfl : k = 256 := by omega
      have H3 := Lib.hid h3
      have H4' := Lib.hid (h4.congr (preW_all _))
      have HB := Lib.hid hB
      clear h1 h2 h3 h4 hB
      go_wp2_with (first
        | (refine wpList_load_row rfl 24 _ rfl (w.heap.size + 1 + 1 + 1) rfl 24 _ (0, 0) _ H4'.out Tryd.underlying24 rfl (by rw [size4, row4_size]) ?_)
        | (refine wpList_store_row rfl 24 _ _ rfl (w.heap.size + 1 + 1) _ rfl rfl 24 _ H3.out (by rw [size4, row4_size]) (by rw [row4_size, row4_size]) (row4_one _) ?_))
      refine bodyPost_ret (v := .agg (row4 (mixW 2 f g))) (results_cell_row rfl _ _ (w.heap.size + 1 + 1) 24 _ (0, 0) _ rfl (setRow_heap _ _ _ _ _ _ H3.out) Tryd.underlying24 rfl (by rw [size4, row4_size])) rfl ⟨rfl, ?_⟩
      exact bl_setRow HB.out (by omega) _

set_option maxHeartbeats 4000000 in
set_option maxRecDepth 100000 in
theorem mix3 (f g : Nat → BitVec 64) (w : World) :
    Calls Tryd.prog 10 #[.agg (row4 f), .agg (row4 g), .int .i64 3] w (Got4 w (mixW 3 f g)) := by
  have hz := zero4
  rw [tab4_row] at hz
  go_enter Tryd.func10, Tryd.ntmps10
  have hC0 := H4.new3 w (.cells (row4 f) 24) (.cells (row4 g) 24) (.cells (row4 nilW) 24) nilW
  have HC0 := Lib.hid hC0
  clear hC0
  go_wp2_with (refine wpList_store_row rfl 24 _ _ rfl (w.heap.size + 1 + 1 + 1) _ rfl rfl 24 _ HC0.out (by rw [size4, row4_size]) rfl (row4_one _) ?_)
  clear hz
  have hA := (((H4.new w f).alloc (.cells (row4 g) 24)).alloc (.cells (row4 nilW) 24)).alloc (.cells (row4 nilW) 24)
  have hB := ((H4.new1 w (.cells (row4 f) 24) g).alloc (.cells (row4 nilW) 24)).alloc (.cells (row4 nilW) 24)
  have hD := (H4.new2 w (.cells (row4 f) 24) (.cells (row4 g) 24) nilW).alloc (.cells (row4 nilW) 24)
  have hL : Below w.heap.size w ((((w.alloc (.cells (row4 f) 24)).alloc (.cells (row4 g) 24)).alloc (.cells (row4 nilW) 24)).alloc (.cells (row4 nilW) 24)) := bl_alloc (bl_alloc (bl_alloc (bl_alloc (Below.refl _ _) _) _) _) _
  have HC := Lib.hid (HC0.out.laid (f' := nilW))
  have HA := Lib.hid (hA.row (k := w.heap.size + 1 + 1 + 1) (by omega) (row4 nilW))
  have HB := Lib.hid (hB.row (k := w.heap.size + 1 + 1 + 1) (by omega) (row4 nilW))
  have HD := Lib.hid (hD.row (k := w.heap.size + 1 + 1 + 1) (by omega) (row4 nilW))
  have HL := Lib.hid (bl_setRow hL (g := w.heap.size + 1 + 1 + 1) (by omega) (row4 nilW))
  clear hA hB hD hL HC0
  generalize ((((w.alloc (.cells (row4 f) 24)).alloc (.cells (row4 g) 24)).alloc (.cells (row4 nilW) 24)).alloc (.cells (row4 nilW) 24)).setRow (w.heap.size + 1 + 1 + 1) (row4 nilW) = w0 at *
  go_loopw [8] (fun i wr => ∃ k : Nat, k ≤ 256 ∧ i = .int .i64 k ∧ H4 wr w.heap.size f ∧ H4 wr (w.heap.size + 1) g ∧ H4 wr (w.heap.size + 1 + 1) nilW ∧ H4 wr (w.heap.size + 1 + 1 + 1) (preW (mixW 3 f g) k) ∧ Below w.heap.size w wr) (fun i _ => 256 - (intOf i).toNat)
  case atStart => exact ⟨0, by omega, rfl, HA.out, HB.out, HD.out, HC.out, HL.out⟩
  case round =>
    clear HA HB HC HD HL
    obtain ⟨k, hk, rfl, h1, h2, h3, h4, hB⟩ := hrel
    by_cases hlt : k < 256
    · go_upto_region 5 with fail
      have hmx := has_mix 3 f g k
      refine wp_region_held_drew (S := fun w' => H4 w' w.heap.size f ∧ H4 w' (w.heap.size + 1) g ∧ H4 w' (w.heap.size + 1 + 1) nilW ∧ H4 w' (w.heap.size + 1 + 1 + 1) (preW (mixW 3 f g) k) ∧ Below w.heap.size w w') (by kernel_rfl) ⟨h1.drew, h2.drew, h3.drew, h4.drew, hB.drew⟩ (fun hHeld => ?_)
      clear h1 h2 h3 h4 hB
      refine wpAnyH_take (i := 0) (v := .agg (row4 f)) rfl (by kernel_rfl) (by kernel_rfl) (by kernel_rfl) (fun _ _ _ h => h) (yields_set (by rfl) (.tmp 3) rfl w.heap.size rfl f (fun _ h => h.1)) hHeld ?_
      try simp only [List.getElem_toArray, List.getElem_cons_zero, List.getElem_cons_succ, Act.put, List.setIfInBounds_toArray, List.set_cons_zero, List.set_cons_succ]
      refine wpAnyH_take (i := 1) (v := ?vz1) rfl (by kernel_rfl) (by kernel_rfl) (by kernel_rfl) (fun _ _ _ h => h) (Or.inl ⟨by rfl, ?yz1⟩) hHeld ?rz1
      case yz1 => (intro wS hSw; clear hSw; go_simp; try (with_reducible rfl))
      try simp only [List.getElem_toArray, List.getElem_cons_zero, List.getElem_cons_succ, Act.put, List.setIfInBounds_toArray, List.set_cons_zero, List.set_cons_succ]
      refine wpAnyH_take (i := 2) (v := ?vz2) rfl (by kernel_rfl) (by kernel_rfl) (by kernel_rfl) (fun _ _ _ h => h) (Or.inl ⟨by rfl, ?yz2⟩) hHeld ?rz2
      case yz2 => (intro wS hSw; clear hSw; go_simp; try (with_reducible rfl))
      try simp only [List.getElem_toArray, List.getElem_cons_zero, List.getElem_cons_succ, Act.put, List.setIfInBounds_toArray, List.set_cons_zero, List.set_cons_succ]
      refine wpAnyH_take (i := 4) (v := .agg (row4 g)) rfl (by kernel_rfl) (by kernel_rfl) (by kernel_rfl) (fun _ _ _ h => h) (yields_set (by rfl) (.tmp 4) rfl (w.heap.size + 1) rfl g (fun _ h => h.2.1)) hHeld ?_
      try simp only [List.getElem_toArray, List.getElem_cons_zero, List.getElem_cons_succ, Act.put, List.setIfInBounds_toArray, List.set_cons_zero, List.set_cons_succ]
      refine wpAnyH_take (i := 5) (v := ?vz5) rfl (by kernel_rfl) (by kernel_rfl) (by kernel_rfl) (fun _ _ _ h => h) (Or.inl ⟨by rfl, ?yz5⟩) hHeld ?rz5
      case yz5 => (intro wS hSw; clear hSw; go_simp; try (with_reducible rfl))
      try simp only [List.getElem_toArray, List.getElem_cons_zero, List.getElem_cons_succ, Act.put, List.setIfInBounds_toArray, List.set_cons_zero, List.set_cons_succ]
      refine wpAnyH_take (i := 6) (v := ?vz6) rfl (by kernel_rfl) (by kernel_rfl) (by kernel_rfl) (fun _ _ _ h => h) (Or.inl ⟨by rfl, ?yz6⟩) hHeld ?rz6
      case yz6 => (intro wS hSw; clear hSw; go_simp; try (with_reducible rfl))
      try simp only [List.getElem_toArray, List.getElem_cons_zero, List.getElem_cons_succ, Act.put, List.setIfInBounds_toArray, List.set_cons_zero, List.set_cons_succ]
      refine wpAnyH_ready (rs := [3]) (by kernel_rfl) (by simp) (AllReadyH.cons rfl (fun K hK => ?_) AllReadyH.nil)
      go_simp
      go_at_call 23
      try rw [wrap8 k hlt]
      refine (refHas_any f k hlt _).mono ?_
      rintro e w1 ⟨rfl, hb1⟩
      have hS1 := And.intro (hHeld.1.below hb1) (And.intro (hHeld.2.1.below hb1) (And.intro (hHeld.2.2.1.below hb1) (And.intro (hHeld.2.2.2.1.below hb1) (bl_trans hHeld.2.2.2.2 hb1))))
      clear hHeld hb1
      go_wp2_with fail
      refine hK.out _ _ hS1 (fun hHeld => ?_)
      clear hK K hS1
      try simp only [List.getElem_toArray, List.getElem_cons_zero, List.getElem_cons_succ, Act.put, List.setIfInBounds_toArray, List.set_cons_zero, List.set_cons_succ]
      refine wpAnyH_ready (rs := [7]) (by kernel_rfl) (by simp) (AllReadyH.cons rfl (fun K hK => ?_) AllReadyH.nil)
      go_simp
      go_at_call 23
      try rw [wrap8 k hlt]
      refine (refHas_any g k hlt _).mono ?_
      rintro e w2 ⟨rfl, hb1⟩
      have hS1 := And.intro (hHeld.1.below hb1) (And.intro (hHeld.2.1.below hb1) (And.intro (hHeld.2.2.1.below hb1) (And.intro (hHeld.2.2.2.1.below hb1) (bl_trans hHeld.2.2.2.2 hb1))))
      clear hHeld hb1
      go_wp2_with fail
      refine hK.out _ _ hS1 (fun hHeld => ?_)
      clear hK K hS1
      try simp only [List.getElem_toArray, List.getElem_cons_zero, List.getElem_cons_succ, Act.put, List.setIfInBounds_toArray, List.set_cons_zero, List.set_cons_succ]
      refine wpAnyH_take (i := 8) (v := ?vz8) rfl (by kernel_rfl) (by kernel_rfl) (by kernel_rfl) (fun _ _ _ h => h) (Or.inl ⟨by rfl, ?yz8⟩) hHeld ?rz8
      case yz8 => (intro wS hSw; clear hSw; go_simp; try (with_reducible rfl))
      try simp only [List.getElem_toArray, List.getElem_cons_zero, List.getElem_cons_succ, Act.put, List.setIfInBounds_toArray, List.set_cons_zero, List.set_cons_succ]
      refine wpAnyH_take (i := 9) (v := ?vz9) rfl (by kernel_rfl) (by kernel_rfl) (by kernel_rfl) (fun _ _ _ h => h) (Or.inl ⟨by rfl, ?yz9⟩) hHeld ?rz9
      case yz9 => (intro wS hSw; clear hSw; go_simp; try (with_reducible rfl))
      try simp only [List.getElem_toArray, List.getElem_cons_zero, List.getElem_cons_succ, Act.put, List.setIfInBounds_toArray, List.set_cons_zero, List.set_cons_succ]
      refine wpAnyH_done (by kernel_rfl) ?_ _
      obtain ⟨h1, h2, h3, h4, hB⟩ := hHeld
      have H1 := Lib.hid h1
      have H2 := Lib.hid h2
      have H3 := Lib.hid h3
      have H4' := Lib.hid h4
      have HB := Lib.hid hB
      have HMx := Lib.hid hmx
      clear h1 h2 h3 h4 hB hmx
      cases hxx : has f k <;> cases hyy : has g k
      · have hm : has (mixW 3 f g) k = true := by rw [HMx.out, hxx, hyy]; rfl
        have hp := Lib.hid (preW_yes _ k hm)
        clear hxx hyy hm HMx
        go_wp2_with (refine wpList_load_row rfl 24 _ rfl (w.heap.size + 1 + 1 + 1) rfl 24 _ (0, 0) _ H4'.out Tryd.underlying24 rfl (by rw [size4, row4_size]) ?_)
        try rw [wrap8 k hlt]
        refine (with_any _ k hlt _).mono ?_
        rintro e w3 ⟨rfl, hb1⟩
        rw [← hp.out]
        have J4 := Lib.hid (H4'.out.below hb1)
        have K4 := Lib.hid (J4.out.laid (f' := preW (mixW 3 f g) (k + 1)))
        have K1 := Lib.hid ((H1.out.below hb1).row (k := w.heap.size + 1 + 1 + 1) (by omega) (row4 (preW (mixW 3 f g) (k + 1))))
        have K2 := Lib.hid ((H2.out.below hb1).row (k := w.heap.size + 1 + 1 + 1) (by omega) (row4 (preW (mixW 3 f g) (k + 1))))
        have K3 := Lib.hid ((H3.out.below hb1).row (k := w.heap.size + 1 + 1 + 1) (by omega) (row4 (preW (mixW 3 f g) (k + 1))))
        have KB := Lib.hid (bl_setRow (bl_trans HB.out hb1) (g := w.heap.size + 1 + 1 + 1) (by omega) (row4 (preW (mixW 3 f g) (k + 1))))
        clear hb1 H1 H2 H3 H4' HB
        go_wp2_with (refine wpList_store_row rfl 24 _ _ rfl (w.heap.size + 1 + 1 + 1) _ rfl rfl 24 _ J4.out (by rw [size4, row4_size]) (by rw [row4_size, row4_size]) (row4_one _) ?_)
        exact ⟨⟨k + 1, by omega, by go_num, K1.out, K2.out, K3.out, K4.out, KB.out⟩, by simp [intOf]; omega⟩
      · have hm : has (mixW 3 f g) k = true := by rw [HMx.out, hxx, hyy]; rfl
        have hp := Lib.hid (preW_yes _ k hm)
        clear hxx hyy hm HMx
        go_wp2_with (refine wpList_load_row rfl 24 _ rfl (w.heap.size + 1 + 1 + 1) rfl 24 _ (0, 0) _ H4'.out Tryd.underlying24 rfl (by rw [size4, row4_size]) ?_)
        try rw [wrap8 k hlt]
        refine (with_any _ k hlt _).mono ?_
        rintro e w3 ⟨rfl, hb1⟩
        rw [← hp.out]
        have J4 := Lib.hid (H4'.out.below hb1)
        have K4 := Lib.hid (J4.out.laid (f' := preW (mixW 3 f g) (k + 1)))
        have K1 := Lib.hid ((H1.out.below hb1).row (k := w.heap.size + 1 + 1 + 1) (by omega) (row4 (preW (mixW 3 f g) (k + 1))))
        have K2 := Lib.hid ((H2.out.below hb1).row (k := w.heap.size + 1 + 1 + 1) (by omega) (row4 (preW (mixW 3 f g) (k + 1))))
        have K3 := Lib.hid ((H3.out.below hb1).row (k := w.heap.size + 1 + 1 + 1) (by omega) (row4 (preW (mixW 3 f g) (k + 1))))
        have KB := Lib.hid (bl_setRow (bl_trans HB.out hb1) (g := w.heap.size + 1 + 1 + 1) (by omega) (row4 (preW (mixW 3 f g) (k + 1))))
        clear hb1 H1 H2 H3 H4' HB
        go_wp2_with (refine wpList_store_row rfl 24 _ _ rfl (w.heap.size + 1 + 1 + 1) _ rfl rfl 24 _ J4.out (by rw [size4, row4_size]) (by rw [row4_size, row4_size]) (row4_one _) ?_)
        exact ⟨⟨k + 1, by omega, by go_num, K1.out, K2.out, K3.out, K4.out, KB.out⟩, by simp [intOf]; omega⟩
      · have hm : has (mixW 3 f g) k = false := by rw [HMx.out, hxx, hyy]; rfl
        have hp := Lib.hid (preW_no _ k hm)
        clear hxx hyy hm HMx
        go_wp2
        exact ⟨⟨k + 1, by omega, by go_num, H1.out, H2.out, H3.out, by rw [hp.out]; exact H4'.out, HB.out⟩, by simp [intOf]; omega⟩
      · have hm : has (mixW 3 f g) k = false := by rw [HMx.out, hxx, hyy]; rfl
        have hp := Lib.hid (preW_no _ k hm)
        clear hxx hyy hm HMx
        go_wp2
        exact ⟨⟨k + 1, by omega, by go_num, H1.out, H2.out, H3.out, by rw [hp.out]; exact H4'.out, HB.out⟩, by simp [intOf]; omega⟩
    · obtain rfl : k = 256 := by omega
      have H3 := Lib.hid h3
      have H4' := Lib.hid (h4.congr (preW_all _))
      have HB := Lib.hid hB
      clear h1 h2 h3 h4 hB
      go_wp2_with (first
        | (refine wpList_load_row rfl 24 _ rfl (w.heap.size + 1 + 1 + 1) rfl 24 _ (0, 0) _ H4'.out Tryd.underlying24 rfl (by rw [size4, row4_size]) ?_)
        | (refine wpList_store_row rfl 24 _ _ rfl (w.heap.size + 1 + 1) _ rfl rfl 24 _ H3.out (by rw [size4, row4_size]) (by rw [row4_size, row4_size]) (row4_one _) ?_))
      refine bodyPost_ret (v := .agg (row4 (mixW 3 f g))) (results_cell_row rfl _ _ (w.heap.size + 1 + 1) 24 _ (0, 0) _ rfl (setRow_heap _ _ _ _ _ _ H3.out) Tryd.underlying24 rfl (by rw [size4, row4_size])) rfl ⟨rfl, ?_⟩
      exact bl_setRow HB.out (by omega) _

end Go.Proofs.YtcgoacfcdlbhdaaDoor
