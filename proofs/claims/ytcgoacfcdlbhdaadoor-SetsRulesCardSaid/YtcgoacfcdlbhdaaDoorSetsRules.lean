/- SetsRules: for any two sets: what is not in what comes of two is what comes of what is not, and so on. Under: the table of math/bits that the row lists is as its initialiser lays it. -/
import Derived.Test.YtcgoacfcdlbhdaaDoorSetRow
set_option linter.unusedVariables false
set_option linter.unusedSimpArgs false
namespace Go.Proofs.YtcgoacfcdlbhdaaDoor
open Go.ChangeShapes Go.WideShapes Go.ChangeAt Go.RowKit

theorem rule1 (f g : Nat → BitVec 64) : Eq4 (notW (orW f g)) (andW (notW f) (notW g)) := eq4_of fun c _ => by
  rw [has_not, has_or, has_and, has_not, has_not]
  cases has f c <;> cases has g c <;> rfl
theorem rule2 (f g : Nat → BitVec 64) : Eq4 (notW (andW f g)) (orW (notW f) (notW g)) := eq4_of fun c _ => by
  rw [has_not, has_or, has_and, has_not, has_not]
  cases has f c <;> cases has g c <;> rfl
theorem rule3 (f g : Nat → BitVec 64) : Eq4 (orW (andW f (notW g)) (andW f g)) f := eq4_of fun c _ => by
  rw [has_or, has_and, has_and, has_not]
  cases has f c <;> cases has g c <;> rfl
theorem rule4 (f : Nat → BitVec 64) : Eq4 (notW (notW f)) f := eq4_of fun c _ => by
  rw [has_not, has_not, Bool.not_not]
theorem count_or : ∀ (l : List Nat) (p q : Nat → Bool), (l.filter p).length + (l.filter q).length = (l.filter (fun c => p c || q c)).length + (l.filter (fun c => p c && q c)).length
  | [], p, q => rfl
  | c :: l, p, q => by
    have ih := count_or l p q
    simp only [List.filter_cons]
    cases p c <;> cases q c <;> simp <;> omega
theorem elems_sum (f g : Nat → BitVec 64) : (elems f).length + (elems g).length = (elems (orW f g)).length + (elems (andW f g)).length := by
  have h1 : has (orW f g) = fun c => has f c || has g c := funext (has_or f g)
  have h2 : has (andW f g) = fun c => has f c && has g c := funext (has_and f g)
  unfold elems
  rw [h1, h2]
  exact count_or _ _ _
theorem elems_le (f : Nat → BitVec 64) : (elems f).length ≤ 256 := by
  unfold elems
  have := List.length_filter_le (has f) (List.range 256)
  simpa using this
theorem len_is (f : Nat → BitVec 64) (n : Nat) (h : (elems f).length = n) (w : World) : Calls Tryd.prog 24 #[.agg (row4 f)] w (GotN w n) := by
  subst h
  exact len_any f w

set_option maxHeartbeats 40000000 in
set_option maxRecDepth 100000 in
theorem rules_walk (f g : Nat → BitVec 64) (w : World) (hT : Tab w) :
    Calls Tryd.prog 7 #[.agg (row4 f), .agg (row4 g)] w (Yes w) := by
  have HT := Lib.hid hT
  clear hT
  have q1 := same_sets (rule1 f g)
  have q2 := same_sets (rule2 f g)
  have q3 := same_sets (rule3 f g)
  have q4 := same_sets (Eq4.refl (andW f (notW g)))
  have q5 := same_sets (rule4 f)
  obtain ⟨n1, hn1⟩ : ∃ n, (elems f).length = n := ⟨_, rfl⟩
  obtain ⟨n2, hn2⟩ : ∃ n, (elems g).length = n := ⟨_, rfl⟩
  obtain ⟨n3, hn3⟩ : ∃ n, (elems (orW f g)).length = n := ⟨_, rfl⟩
  obtain ⟨n4, hn4⟩ : ∃ n, (elems (andW f g)).length = n := ⟨_, rfl⟩
  have hsum := elems_sum f g
  rw [hn1, hn2, hn3, hn4] at hsum
  have l1 : n1 ≤ 256 := by rw [← hn1]; exact elems_le f
  have l2 : n2 ≤ 256 := by rw [← hn2]; exact elems_le g
  have l3 : n3 ≤ 256 := by rw [← hn3]; exact elems_le _
  have l4 : n4 ≤ 256 := by rw [← hn4]; exact elems_le _
  have z : (IntKind.i64.wrap ((n1 : Int) + (n2 : Int)) == IntKind.i64.wrap ((n3 : Int) + (n4 : Int))) = true := by
    apply beq_iff_eq.2
    rw [show (n1 : Int) + (n2 : Int) = (n3 : Int) + (n4 : Int) by omega]
  have N1 := Lib.hid hn1
  have N2 := Lib.hid hn2
  have N3 := Lib.hid hn3
  have N4 := Lib.hid hn4
  have NS := Lib.hid hsum
  clear hn1 hn2 hn3 hn4 hsum
  go_enter Tryd.func7, Tryd.ntmps7
  go_wp2_with fail
  have b0 := bl_alloc (bl_alloc (Below.refl w.heap.size w) (.cells (row4 f) 24)) (.cells (row4 g) 24)
  have hA := (H4.new w f).alloc (.cells (row4 g) 24)
  have hB := H4.new1 w (.cells (row4 f) 24) g
  generalize (w.alloc (.cells (row4 f) 24)).alloc (.cells (row4 g) 24) = w0 at *
  refine (works_any _ (HT.out.below b0)).mono ?_
  rintro e w1 ⟨rfl, hb1⟩
  have H1w1 := Lib.hid (hA.below hb1)
  have H2w1 := Lib.hid (hB.below hb1)
  have Bw1 := Lib.hid (bl_trans b0 hb1)
  clear b0 hA hB hb1
  go_wp2_with fail
  have h1 := H1w1.out
  have h2 := H2w1.out
  have hB1 := Bw1.out
  clear H1w1 H2w1 Bw1
  simp only [List.append_eq, List.cons_append, List.nil_append]
  refine wp_region_held_drew (S := fun w' => H4 w' w.heap.size f ∧ H4 w' (w.heap.size + 1) g ∧ Below w.heap.size w w') (by kernel_rfl) ⟨h1.drew, h2.drew, hB1.drew⟩ (fun hHeld => ?_)
  clear h1 h2 hB1
  refine wpAnyH_take (i := 0) (v := .agg (row4 f)) rfl (by kernel_rfl) (by kernel_rfl) (by kernel_rfl) (fun _ _ _ h => h) (yields_set (by rfl) (.tmp 2) rfl w.heap.size rfl f (fun _ h => h.1)) hHeld ?_
  try simp only [List.getElem_toArray, List.getElem_cons_zero, List.getElem_cons_succ, Act.put, List.setIfInBounds_toArray, List.set_cons_zero, List.set_cons_succ]
  refine wpAnyH_take (i := 1) (v := .agg (row4 g)) rfl (by kernel_rfl) (by kernel_rfl) (by kernel_rfl) (fun _ _ _ h => h) (yields_set (by rfl) (.tmp 3) rfl (w.heap.size + 1) rfl g (fun _ h => h.2.1)) hHeld ?_
  try simp only [List.getElem_toArray, List.getElem_cons_zero, List.getElem_cons_succ, Act.put, List.setIfInBounds_toArray, List.set_cons_zero, List.set_cons_succ]
  refine wpAnyH_take (i := 4) (v := .agg (row4 f)) rfl (by kernel_rfl) (by kernel_rfl) (by kernel_rfl) (fun _ _ _ h => h) (yields_set (by rfl) (.tmp 2) rfl w.heap.size rfl f (fun _ h => h.1)) hHeld ?_
  try simp only [List.getElem_toArray, List.getElem_cons_zero, List.getElem_cons_succ, Act.put, List.setIfInBounds_toArray, List.set_cons_zero, List.set_cons_succ]
  refine wpAnyH_take (i := 6) (v := .agg (row4 g)) rfl (by kernel_rfl) (by kernel_rfl) (by kernel_rfl) (fun _ _ _ h => h) (yields_set (by rfl) (.tmp 3) rfl (w.heap.size + 1) rfl g (fun _ h => h.2.1)) hHeld ?_
  try simp only [List.getElem_toArray, List.getElem_cons_zero, List.getElem_cons_succ, Act.put, List.setIfInBounds_toArray, List.set_cons_zero, List.set_cons_succ]
  refine wpAnyH_ready (rs := [2]) (by kernel_rfl) (by simp) (AllReadyH.cons rfl (fun K hK => ?_) AllReadyH.nil)
  go_simp
  go_at_call 9
  refine (union_any f g _).mono ?_
  rintro e w2 ⟨rfl, hb1⟩
  have hS1 := And.intro (hHeld.1.below hb1) (And.intro (hHeld.2.1.below hb1) (bl_trans hHeld.2.2 hb1))
  clear hHeld hb1
  go_wp2_with fail
  refine hK.out _ _ hS1 (fun hHeld => ?_)
  clear hK K hS1
  try simp only [List.getElem_toArray, List.getElem_cons_zero, List.getElem_cons_succ, Act.put, List.setIfInBounds_toArray, List.set_cons_zero, List.set_cons_succ]
  refine wpAnyH_ready (rs := [3]) (by kernel_rfl) (by simp) (AllReadyH.cons rfl (fun K hK => ?_) AllReadyH.nil)
  go_simp
  go_at_call 13
  refine (not_any _ _).mono ?_
  rintro e w3 ⟨rfl, hb1⟩
  have hS1 := And.intro (hHeld.1.below hb1) (And.intro (hHeld.2.1.below hb1) (bl_trans hHeld.2.2 hb1))
  clear hHeld hb1
  go_wp2_with fail
  refine hK.out _ _ hS1 (fun hHeld => ?_)
  clear hK K hS1
  try simp only [List.getElem_toArray, List.getElem_cons_zero, List.getElem_cons_succ, Act.put, List.setIfInBounds_toArray, List.set_cons_zero, List.set_cons_succ]
  refine wpAnyH_ready (rs := [5]) (by kernel_rfl) (by simp) (AllReadyH.cons rfl (fun K hK => ?_) AllReadyH.nil)
  go_simp
  go_at_call 13
  refine (not_any f _).mono ?_
  rintro e w4 ⟨rfl, hb1⟩
  have hS1 := And.intro (hHeld.1.below hb1) (And.intro (hHeld.2.1.below hb1) (bl_trans hHeld.2.2 hb1))
  clear hHeld hb1
  go_wp2_with fail
  refine hK.out _ _ hS1 (fun hHeld => ?_)
  clear hK K hS1
  try simp only [List.getElem_toArray, List.getElem_cons_zero, List.getElem_cons_succ, Act.put, List.setIfInBounds_toArray, List.set_cons_zero, List.set_cons_succ]
  refine wpAnyH_ready (rs := [7]) (by kernel_rfl) (by simp) (AllReadyH.cons rfl (fun K hK => ?_) AllReadyH.nil)
  go_simp
  go_at_call 13
  refine (not_any g _).mono ?_
  rintro e w5 ⟨rfl, hb1⟩
  have hS1 := And.intro (hHeld.1.below hb1) (And.intro (hHeld.2.1.below hb1) (bl_trans hHeld.2.2 hb1))
  clear hHeld hb1
  go_wp2_with fail
  refine hK.out _ _ hS1 (fun hHeld => ?_)
  clear hK K hS1
  try simp only [List.getElem_toArray, List.getElem_cons_zero, List.getElem_cons_succ, Act.put, List.setIfInBounds_toArray, List.set_cons_zero, List.set_cons_succ]
  refine wpAnyH_ready (rs := [8]) (by kernel_rfl) (by simp) (AllReadyH.cons rfl (fun K hK => ?_) AllReadyH.nil)
  go_simp
  go_at_call 11
  refine (both_any _ _ _).mono ?_
  rintro e w6 ⟨rfl, hb1⟩
  have hS1 := And.intro (hHeld.1.below hb1) (And.intro (hHeld.2.1.below hb1) (bl_trans hHeld.2.2 hb1))
  clear hHeld hb1
  go_wp2_with fail
  refine hK.out _ _ hS1 (fun hHeld => ?_)
  clear hK K hS1
  try simp only [List.getElem_toArray, List.getElem_cons_zero, List.getElem_cons_succ, Act.put, List.setIfInBounds_toArray, List.set_cons_zero, List.set_cons_succ]
  refine wpAnyH_take (i := 9) (v := ?vzr9) rfl (by kernel_rfl) (by kernel_rfl) (by kernel_rfl) (fun _ _ _ h => h) (Or.inl ⟨by rfl, ?yzr9⟩) hHeld ?rzr9
  case yzr9 => (intro wS hSw; clear hSw; go_simp; try (with_reducible rfl))
  try simp only [List.getElem_toArray, List.getElem_cons_zero, List.getElem_cons_succ, Act.put, List.setIfInBounds_toArray, List.set_cons_zero, List.set_cons_succ]
  refine wpAnyH_take (i := 10) (v := ?vzr10) rfl (by kernel_rfl) (by kernel_rfl) (by kernel_rfl) (fun _ _ _ h => h) (Or.inl ⟨by rfl, ?yzr10⟩) hHeld ?rzr10
  case yzr10 => (intro wS hSw; clear hSw; go_simp; try (with_reducible rfl))
  try simp only [List.getElem_toArray, List.getElem_cons_zero, List.getElem_cons_succ, Act.put, List.setIfInBounds_toArray, List.set_cons_zero, List.set_cons_succ]
  refine wpAnyH_take (i := 11) (v := .agg (row4 f)) rfl (by kernel_rfl) (by kernel_rfl) (by kernel_rfl) (fun _ _ _ h => h) (yields_set (by rfl) (.tmp 2) rfl w.heap.size rfl f (fun _ h => h.1)) hHeld ?_
  try simp only [List.getElem_toArray, List.getElem_cons_zero, List.getElem_cons_succ, Act.put, List.setIfInBounds_toArray, List.set_cons_zero, List.set_cons_succ]
  refine wpAnyH_take (i := 12) (v := .agg (row4 g)) rfl (by kernel_rfl) (by kernel_rfl) (by kernel_rfl) (fun _ _ _ h => h) (yields_set (by rfl) (.tmp 3) rfl (w.heap.size + 1) rfl g (fun _ h => h.2.1)) hHeld ?_
  try simp only [List.getElem_toArray, List.getElem_cons_zero, List.getElem_cons_succ, Act.put, List.setIfInBounds_toArray, List.set_cons_zero, List.set_cons_succ]
  refine wpAnyH_take (i := 15) (v := .agg (row4 f)) rfl (by kernel_rfl) (by kernel_rfl) (by kernel_rfl) (fun _ _ _ h => h) (yields_set (by rfl) (.tmp 2) rfl w.heap.size rfl f (fun _ h => h.1)) hHeld ?_
  try simp only [List.getElem_toArray, List.getElem_cons_zero, List.getElem_cons_succ, Act.put, List.setIfInBounds_toArray, List.set_cons_zero, List.set_cons_succ]
  refine wpAnyH_take (i := 17) (v := .agg (row4 g)) rfl (by kernel_rfl) (by kernel_rfl) (by kernel_rfl) (fun _ _ _ h => h) (yields_set (by rfl) (.tmp 3) rfl (w.heap.size + 1) rfl g (fun _ h => h.2.1)) hHeld ?_
  try simp only [List.getElem_toArray, List.getElem_cons_zero, List.getElem_cons_succ, Act.put, List.setIfInBounds_toArray, List.set_cons_zero, List.set_cons_succ]
  refine wpAnyH_ready (rs := [13]) (by kernel_rfl) (by simp) (AllReadyH.cons rfl (fun K hK => ?_) AllReadyH.nil)
  go_simp
  go_at_call 11
  refine (both_any f g _).mono ?_
  rintro e w7 ⟨rfl, hb1⟩
  have hS1 := And.intro (hHeld.1.below hb1) (And.intro (hHeld.2.1.below hb1) (bl_trans hHeld.2.2 hb1))
  clear hHeld hb1
  go_wp2_with fail
  refine hK.out _ _ hS1 (fun hHeld => ?_)
  clear hK K hS1
  try simp only [List.getElem_toArray, List.getElem_cons_zero, List.getElem_cons_succ, Act.put, List.setIfInBounds_toArray, List.set_cons_zero, List.set_cons_succ]
  refine wpAnyH_ready (rs := [14]) (by kernel_rfl) (by simp) (AllReadyH.cons rfl (fun K hK => ?_) AllReadyH.nil)
  go_simp
  go_at_call 13
  refine (not_any _ _).mono ?_
  rintro e w8 ⟨rfl, hb1⟩
  have hS1 := And.intro (hHeld.1.below hb1) (And.intro (hHeld.2.1.below hb1) (bl_trans hHeld.2.2 hb1))
  clear hHeld hb1
  go_wp2_with fail
  refine hK.out _ _ hS1 (fun hHeld => ?_)
  clear hK K hS1
  try simp only [List.getElem_toArray, List.getElem_cons_zero, List.getElem_cons_succ, Act.put, List.setIfInBounds_toArray, List.set_cons_zero, List.set_cons_succ]
  refine wpAnyH_ready (rs := [16]) (by kernel_rfl) (by simp) (AllReadyH.cons rfl (fun K hK => ?_) AllReadyH.nil)
  go_simp
  go_at_call 13
  refine (not_any f _).mono ?_
  rintro e w9 ⟨rfl, hb1⟩
  have hS1 := And.intro (hHeld.1.below hb1) (And.intro (hHeld.2.1.below hb1) (bl_trans hHeld.2.2 hb1))
  clear hHeld hb1
  go_wp2_with fail
  refine hK.out _ _ hS1 (fun hHeld => ?_)
  clear hK K hS1
  try simp only [List.getElem_toArray, List.getElem_cons_zero, List.getElem_cons_succ, Act.put, List.setIfInBounds_toArray, List.set_cons_zero, List.set_cons_succ]
  refine wpAnyH_ready (rs := [18]) (by kernel_rfl) (by simp) (AllReadyH.cons rfl (fun K hK => ?_) AllReadyH.nil)
  go_simp
  go_at_call 13
  refine (not_any g _).mono ?_
  rintro e w10 ⟨rfl, hb1⟩
  have hS1 := And.intro (hHeld.1.below hb1) (And.intro (hHeld.2.1.below hb1) (bl_trans hHeld.2.2 hb1))
  clear hHeld hb1
  go_wp2_with fail
  refine hK.out _ _ hS1 (fun hHeld => ?_)
  clear hK K hS1
  try simp only [List.getElem_toArray, List.getElem_cons_zero, List.getElem_cons_succ, Act.put, List.setIfInBounds_toArray, List.set_cons_zero, List.set_cons_succ]
  refine wpAnyH_ready (rs := [19]) (by kernel_rfl) (by simp) (AllReadyH.cons rfl (fun K hK => ?_) AllReadyH.nil)
  go_simp
  go_at_call 9
  refine (union_any _ _ _).mono ?_
  rintro e w11 ⟨rfl, hb1⟩
  have hS1 := And.intro (hHeld.1.below hb1) (And.intro (hHeld.2.1.below hb1) (bl_trans hHeld.2.2 hb1))
  clear hHeld hb1
  go_wp2_with fail
  refine hK.out _ _ hS1 (fun hHeld => ?_)
  clear hK K hS1
  try simp only [List.getElem_toArray, List.getElem_cons_zero, List.getElem_cons_succ, Act.put, List.setIfInBounds_toArray, List.set_cons_zero, List.set_cons_succ]
  refine wpAnyH_take (i := 20) (v := ?vzr20) rfl (by kernel_rfl) (by kernel_rfl) (by kernel_rfl) (fun _ _ _ h => h) (Or.inl ⟨by rfl, ?yzr20⟩) hHeld ?rzr20
  case yzr20 => (intro wS hSw; clear hSw; go_simp; try (with_reducible rfl))
  try simp only [List.getElem_toArray, List.getElem_cons_zero, List.getElem_cons_succ, Act.put, List.setIfInBounds_toArray, List.set_cons_zero, List.set_cons_succ]
  refine wpAnyH_take (i := 21) (v := ?vzr21) rfl (by kernel_rfl) (by kernel_rfl) (by kernel_rfl) (fun _ _ _ h => h) (Or.inl ⟨by rfl, ?yzr21⟩) hHeld ?rzr21
  case yzr21 => (intro wS hSw; clear hSw; go_simp; try (with_reducible rfl))
  try simp only [List.getElem_toArray, List.getElem_cons_zero, List.getElem_cons_succ, Act.put, List.setIfInBounds_toArray, List.set_cons_zero, List.set_cons_succ]
  refine wpAnyH_take (i := 22) (v := ?vzr22) rfl (by kernel_rfl) (by kernel_rfl) (by kernel_rfl) (fun _ _ _ h => h) (Or.inl ⟨by rfl, ?yzr22⟩) hHeld ?rzr22
  case yzr22 => (intro wS hSw; clear hSw; go_simp; try (with_reducible rfl))
  try simp only [List.getElem_toArray, List.getElem_cons_zero, List.getElem_cons_succ, Act.put, List.setIfInBounds_toArray, List.set_cons_zero, List.set_cons_succ]
  refine wpAnyH_take (i := 23) (v := .agg (row4 f)) rfl (by kernel_rfl) (by kernel_rfl) (by kernel_rfl) (fun _ _ _ h => h) (yields_set (by rfl) (.tmp 2) rfl w.heap.size rfl f (fun _ h => h.1)) hHeld ?_
  try simp only [List.getElem_toArray, List.getElem_cons_zero, List.getElem_cons_succ, Act.put, List.setIfInBounds_toArray, List.set_cons_zero, List.set_cons_succ]
  refine wpAnyH_take (i := 24) (v := .agg (row4 g)) rfl (by kernel_rfl) (by kernel_rfl) (by kernel_rfl) (fun _ _ _ h => h) (yields_set (by rfl) (.tmp 3) rfl (w.heap.size + 1) rfl g (fun _ h => h.2.1)) hHeld ?_
  try simp only [List.getElem_toArray, List.getElem_cons_zero, List.getElem_cons_succ, Act.put, List.setIfInBounds_toArray, List.set_cons_zero, List.set_cons_succ]
  refine wpAnyH_take (i := 26) (v := .agg (row4 f)) rfl (by kernel_rfl) (by kernel_rfl) (by kernel_rfl) (fun _ _ _ h => h) (yields_set (by rfl) (.tmp 2) rfl w.heap.size rfl f (fun _ h => h.1)) hHeld ?_
  try simp only [List.getElem_toArray, List.getElem_cons_zero, List.getElem_cons_succ, Act.put, List.setIfInBounds_toArray, List.set_cons_zero, List.set_cons_succ]
  refine wpAnyH_take (i := 27) (v := .agg (row4 g)) rfl (by kernel_rfl) (by kernel_rfl) (by kernel_rfl) (fun _ _ _ h => h) (yields_set (by rfl) (.tmp 3) rfl (w.heap.size + 1) rfl g (fun _ h => h.2.1)) hHeld ?_
  try simp only [List.getElem_toArray, List.getElem_cons_zero, List.getElem_cons_succ, Act.put, List.setIfInBounds_toArray, List.set_cons_zero, List.set_cons_succ]
  refine wpAnyH_take (i := 30) (v := .agg (row4 f)) rfl (by kernel_rfl) (by kernel_rfl) (by kernel_rfl) (fun _ _ _ h => h) (yields_set (by rfl) (.tmp 2) rfl w.heap.size rfl f (fun _ h => h.1)) hHeld ?_
  try simp only [List.getElem_toArray, List.getElem_cons_zero, List.getElem_cons_succ, Act.put, List.setIfInBounds_toArray, List.set_cons_zero, List.set_cons_succ]
  refine wpAnyH_ready (rs := [25]) (by kernel_rfl) (by simp) (AllReadyH.cons rfl (fun K hK => ?_) AllReadyH.nil)
  go_simp
  go_at_call 12
  refine (less_any f g _).mono ?_
  rintro e w12 ⟨rfl, hb1⟩
  have hS1 := And.intro (hHeld.1.below hb1) (And.intro (hHeld.2.1.below hb1) (bl_trans hHeld.2.2 hb1))
  clear hHeld hb1
  go_wp2_with fail
  refine hK.out _ _ hS1 (fun hHeld => ?_)
  clear hK K hS1
  try simp only [List.getElem_toArray, List.getElem_cons_zero, List.getElem_cons_succ, Act.put, List.setIfInBounds_toArray, List.set_cons_zero, List.set_cons_succ]
  refine wpAnyH_ready (rs := [28]) (by kernel_rfl) (by simp) (AllReadyH.cons rfl (fun K hK => ?_) AllReadyH.nil)
  go_simp
  go_at_call 11
  refine (both_any f g _).mono ?_
  rintro e w13 ⟨rfl, hb1⟩
  have hS1 := And.intro (hHeld.1.below hb1) (And.intro (hHeld.2.1.below hb1) (bl_trans hHeld.2.2 hb1))
  clear hHeld hb1
  go_wp2_with fail
  refine hK.out _ _ hS1 (fun hHeld => ?_)
  clear hK K hS1
  try simp only [List.getElem_toArray, List.getElem_cons_zero, List.getElem_cons_succ, Act.put, List.setIfInBounds_toArray, List.set_cons_zero, List.set_cons_succ]
  refine wpAnyH_ready (rs := [29]) (by kernel_rfl) (by simp) (AllReadyH.cons rfl (fun K hK => ?_) AllReadyH.nil)
  go_simp
  go_at_call 9
  refine (union_any _ _ _).mono ?_
  rintro e w14 ⟨rfl, hb1⟩
  have hS1 := And.intro (hHeld.1.below hb1) (And.intro (hHeld.2.1.below hb1) (bl_trans hHeld.2.2 hb1))
  clear hHeld hb1
  go_wp2_with fail
  refine hK.out _ _ hS1 (fun hHeld => ?_)
  clear hK K hS1
  try simp only [List.getElem_toArray, List.getElem_cons_zero, List.getElem_cons_succ, Act.put, List.setIfInBounds_toArray, List.set_cons_zero, List.set_cons_succ]
  refine wpAnyH_take (i := 31) (v := ?vzr31) rfl (by kernel_rfl) (by kernel_rfl) (by kernel_rfl) (fun _ _ _ h => h) (Or.inl ⟨by rfl, ?yzr31⟩) hHeld ?rzr31
  case yzr31 => (intro wS hSw; clear hSw; go_simp; try (with_reducible rfl))
  try simp only [List.getElem_toArray, List.getElem_cons_zero, List.getElem_cons_succ, Act.put, List.setIfInBounds_toArray, List.set_cons_zero, List.set_cons_succ]
  refine wpAnyH_take (i := 32) (v := ?vzr32) rfl (by kernel_rfl) (by kernel_rfl) (by kernel_rfl) (fun _ _ _ h => h) (Or.inl ⟨by rfl, ?yzr32⟩) hHeld ?rzr32
  case yzr32 => (intro wS hSw; clear hSw; go_simp; try (with_reducible rfl))
  try simp only [List.getElem_toArray, List.getElem_cons_zero, List.getElem_cons_succ, Act.put, List.setIfInBounds_toArray, List.set_cons_zero, List.set_cons_succ]
  refine wpAnyH_take (i := 33) (v := ?vzr33) rfl (by kernel_rfl) (by kernel_rfl) (by kernel_rfl) (fun _ _ _ h => h) (Or.inl ⟨by rfl, ?yzr33⟩) hHeld ?rzr33
  case yzr33 => (intro wS hSw; clear hSw; go_simp; try (with_reducible rfl))
  try simp only [List.getElem_toArray, List.getElem_cons_zero, List.getElem_cons_succ, Act.put, List.setIfInBounds_toArray, List.set_cons_zero, List.set_cons_succ]
  refine wpAnyH_take (i := 34) (v := .agg (row4 f)) rfl (by kernel_rfl) (by kernel_rfl) (by kernel_rfl) (fun _ _ _ h => h) (yields_set (by rfl) (.tmp 2) rfl w.heap.size rfl f (fun _ h => h.1)) hHeld ?_
  try simp only [List.getElem_toArray, List.getElem_cons_zero, List.getElem_cons_succ, Act.put, List.setIfInBounds_toArray, List.set_cons_zero, List.set_cons_succ]
  refine wpAnyH_take (i := 35) (v := .agg (row4 g)) rfl (by kernel_rfl) (by kernel_rfl) (by kernel_rfl) (fun _ _ _ h => h) (yields_set (by rfl) (.tmp 3) rfl (w.heap.size + 1) rfl g (fun _ h => h.2.1)) hHeld ?_
  try simp only [List.getElem_toArray, List.getElem_cons_zero, List.getElem_cons_succ, Act.put, List.setIfInBounds_toArray, List.set_cons_zero, List.set_cons_succ]
  refine wpAnyH_take (i := 37) (v := .agg (row4 f)) rfl (by kernel_rfl) (by kernel_rfl) (by kernel_rfl) (fun _ _ _ h => h) (yields_set (by rfl) (.tmp 2) rfl w.heap.size rfl f (fun _ h => h.1)) hHeld ?_
  try simp only [List.getElem_toArray, List.getElem_cons_zero, List.getElem_cons_succ, Act.put, List.setIfInBounds_toArray, List.set_cons_zero, List.set_cons_succ]
  refine wpAnyH_take (i := 38) (v := .agg (row4 g)) rfl (by kernel_rfl) (by kernel_rfl) (by kernel_rfl) (fun _ _ _ h => h) (yields_set (by rfl) (.tmp 3) rfl (w.heap.size + 1) rfl g (fun _ h => h.2.1)) hHeld ?_
  try simp only [List.getElem_toArray, List.getElem_cons_zero, List.getElem_cons_succ, Act.put, List.setIfInBounds_toArray, List.set_cons_zero, List.set_cons_succ]
  refine wpAnyH_ready (rs := [36]) (by kernel_rfl) (by simp) (AllReadyH.cons rfl (fun K hK => ?_) AllReadyH.nil)
  go_simp
  go_at_call 12
  refine (less_any f g _).mono ?_
  rintro e w15 ⟨rfl, hb1⟩
  have hS1 := And.intro (hHeld.1.below hb1) (And.intro (hHeld.2.1.below hb1) (bl_trans hHeld.2.2 hb1))
  clear hHeld hb1
  go_wp2_with fail
  refine hK.out _ _ hS1 (fun hHeld => ?_)
  clear hK K hS1
  try simp only [List.getElem_toArray, List.getElem_cons_zero, List.getElem_cons_succ, Act.put, List.setIfInBounds_toArray, List.set_cons_zero, List.set_cons_succ]
  refine wpAnyH_ready (rs := [39]) (by kernel_rfl) (by simp) (AllReadyH.cons rfl (fun K hK => ?_) AllReadyH.nil)
  go_simp
  go_at_call 13
  refine (not_any g _).mono ?_
  rintro e w16 ⟨rfl, hb1⟩
  have hS1 := And.intro (hHeld.1.below hb1) (And.intro (hHeld.2.1.below hb1) (bl_trans hHeld.2.2 hb1))
  clear hHeld hb1
  go_wp2_with fail
  refine hK.out _ _ hS1 (fun hHeld => ?_)
  clear hK K hS1
  try simp only [List.getElem_toArray, List.getElem_cons_zero, List.getElem_cons_succ, Act.put, List.setIfInBounds_toArray, List.set_cons_zero, List.set_cons_succ]
  refine wpAnyH_ready (rs := [40]) (by kernel_rfl) (by simp) (AllReadyH.cons rfl (fun K hK => ?_) AllReadyH.nil)
  go_simp
  go_at_call 11
  refine (both_any _ _ _).mono ?_
  rintro e w17 ⟨rfl, hb1⟩
  have hS1 := And.intro (hHeld.1.below hb1) (And.intro (hHeld.2.1.below hb1) (bl_trans hHeld.2.2 hb1))
  clear hHeld hb1
  go_wp2_with fail
  refine hK.out _ _ hS1 (fun hHeld => ?_)
  clear hK K hS1
  try simp only [List.getElem_toArray, List.getElem_cons_zero, List.getElem_cons_succ, Act.put, List.setIfInBounds_toArray, List.set_cons_zero, List.set_cons_succ]
  refine wpAnyH_take (i := 41) (v := ?vzr41) rfl (by kernel_rfl) (by kernel_rfl) (by kernel_rfl) (fun _ _ _ h => h) (Or.inl ⟨by rfl, ?yzr41⟩) hHeld ?rzr41
  case yzr41 => (intro wS hSw; clear hSw; go_simp; try (with_reducible rfl))
  try simp only [List.getElem_toArray, List.getElem_cons_zero, List.getElem_cons_succ, Act.put, List.setIfInBounds_toArray, List.set_cons_zero, List.set_cons_succ]
  refine wpAnyH_take (i := 42) (v := ?vzr42) rfl (by kernel_rfl) (by kernel_rfl) (by kernel_rfl) (fun _ _ _ h => h) (Or.inl ⟨by rfl, ?yzr42⟩) hHeld ?rzr42
  case yzr42 => (intro wS hSw; clear hSw; go_simp; try (with_reducible rfl))
  try simp only [List.getElem_toArray, List.getElem_cons_zero, List.getElem_cons_succ, Act.put, List.setIfInBounds_toArray, List.set_cons_zero, List.set_cons_succ]
  refine wpAnyH_take (i := 43) (v := ?vzr43) rfl (by kernel_rfl) (by kernel_rfl) (by kernel_rfl) (fun _ _ _ h => h) (Or.inl ⟨by rfl, ?yzr43⟩) hHeld ?rzr43
  case yzr43 => (intro wS hSw; clear hSw; go_simp; try (with_reducible rfl))
  try simp only [List.getElem_toArray, List.getElem_cons_zero, List.getElem_cons_succ, Act.put, List.setIfInBounds_toArray, List.set_cons_zero, List.set_cons_succ]
  refine wpAnyH_take (i := 44) (v := .agg (row4 f)) rfl (by kernel_rfl) (by kernel_rfl) (by kernel_rfl) (fun _ _ _ h => h) (yields_set (by rfl) (.tmp 2) rfl w.heap.size rfl f (fun _ h => h.1)) hHeld ?_
  try simp only [List.getElem_toArray, List.getElem_cons_zero, List.getElem_cons_succ, Act.put, List.setIfInBounds_toArray, List.set_cons_zero, List.set_cons_succ]
  refine wpAnyH_take (i := 47) (v := .agg (row4 f)) rfl (by kernel_rfl) (by kernel_rfl) (by kernel_rfl) (fun _ _ _ h => h) (yields_set (by rfl) (.tmp 2) rfl w.heap.size rfl f (fun _ h => h.1)) hHeld ?_
  try simp only [List.getElem_toArray, List.getElem_cons_zero, List.getElem_cons_succ, Act.put, List.setIfInBounds_toArray, List.set_cons_zero, List.set_cons_succ]
  refine wpAnyH_ready (rs := [45]) (by kernel_rfl) (by simp) (AllReadyH.cons rfl (fun K hK => ?_) AllReadyH.nil)
  go_simp
  go_at_call 13
  refine (not_any f _).mono ?_
  rintro e w18 ⟨rfl, hb1⟩
  have hS1 := And.intro (hHeld.1.below hb1) (And.intro (hHeld.2.1.below hb1) (bl_trans hHeld.2.2 hb1))
  clear hHeld hb1
  go_wp2_with fail
  refine hK.out _ _ hS1 (fun hHeld => ?_)
  clear hK K hS1
  try simp only [List.getElem_toArray, List.getElem_cons_zero, List.getElem_cons_succ, Act.put, List.setIfInBounds_toArray, List.set_cons_zero, List.set_cons_succ]
  refine wpAnyH_ready (rs := [46]) (by kernel_rfl) (by simp) (AllReadyH.cons rfl (fun K hK => ?_) AllReadyH.nil)
  go_simp
  go_at_call 13
  refine (not_any _ _).mono ?_
  rintro e w19 ⟨rfl, hb1⟩
  have hS1 := And.intro (hHeld.1.below hb1) (And.intro (hHeld.2.1.below hb1) (bl_trans hHeld.2.2 hb1))
  clear hHeld hb1
  go_wp2_with fail
  refine hK.out _ _ hS1 (fun hHeld => ?_)
  clear hK K hS1
  try simp only [List.getElem_toArray, List.getElem_cons_zero, List.getElem_cons_succ, Act.put, List.setIfInBounds_toArray, List.set_cons_zero, List.set_cons_succ]
  refine wpAnyH_take (i := 48) (v := ?vzr48) rfl (by kernel_rfl) (by kernel_rfl) (by kernel_rfl) (fun _ _ _ h => h) (Or.inl ⟨by rfl, ?yzr48⟩) hHeld ?rzr48
  case yzr48 => (intro wS hSw; clear hSw; go_simp; try (with_reducible rfl))
  try simp only [List.getElem_toArray, List.getElem_cons_zero, List.getElem_cons_succ, Act.put, List.setIfInBounds_toArray, List.set_cons_zero, List.set_cons_succ]
  refine wpAnyH_take (i := 49) (v := ?vzr49) rfl (by kernel_rfl) (by kernel_rfl) (by kernel_rfl) (fun _ _ _ h => h) (Or.inl ⟨by rfl, ?yzr49⟩) hHeld ?rzr49
  case yzr49 => (intro wS hSw; clear hSw; go_simp; try (with_reducible rfl))
  try simp only [List.getElem_toArray, List.getElem_cons_zero, List.getElem_cons_succ, Act.put, List.setIfInBounds_toArray, List.set_cons_zero, List.set_cons_succ]
  refine wpAnyH_take (i := 50) (v := ?vzr50) rfl (by kernel_rfl) (by kernel_rfl) (by kernel_rfl) (fun _ _ _ h => h) (Or.inl ⟨by rfl, ?yzr50⟩) hHeld ?rzr50
  case yzr50 => (intro wS hSw; clear hSw; go_simp; try (with_reducible rfl))
  try simp only [List.getElem_toArray, List.getElem_cons_zero, List.getElem_cons_succ, Act.put, List.setIfInBounds_toArray, List.set_cons_zero, List.set_cons_succ]
  refine wpAnyH_take (i := 51) (v := .agg (row4 f)) rfl (by kernel_rfl) (by kernel_rfl) (by kernel_rfl) (fun _ _ _ h => h) (yields_set (by rfl) (.tmp 2) rfl w.heap.size rfl f (fun _ h => h.1)) hHeld ?_
  try simp only [List.getElem_toArray, List.getElem_cons_zero, List.getElem_cons_succ, Act.put, List.setIfInBounds_toArray, List.set_cons_zero, List.set_cons_succ]
  refine wpAnyH_take (i := 53) (v := .agg (row4 g)) rfl (by kernel_rfl) (by kernel_rfl) (by kernel_rfl) (fun _ _ _ h => h) (yields_set (by rfl) (.tmp 3) rfl (w.heap.size + 1) rfl g (fun _ h => h.2.1)) hHeld ?_
  try simp only [List.getElem_toArray, List.getElem_cons_zero, List.getElem_cons_succ, Act.put, List.setIfInBounds_toArray, List.set_cons_zero, List.set_cons_succ]
  refine wpAnyH_take (i := 56) (v := .agg (row4 f)) rfl (by kernel_rfl) (by kernel_rfl) (by kernel_rfl) (fun _ _ _ h => h) (yields_set (by rfl) (.tmp 2) rfl w.heap.size rfl f (fun _ h => h.1)) hHeld ?_
  try simp only [List.getElem_toArray, List.getElem_cons_zero, List.getElem_cons_succ, Act.put, List.setIfInBounds_toArray, List.set_cons_zero, List.set_cons_succ]
  refine wpAnyH_take (i := 57) (v := .agg (row4 g)) rfl (by kernel_rfl) (by kernel_rfl) (by kernel_rfl) (fun _ _ _ h => h) (yields_set (by rfl) (.tmp 3) rfl (w.heap.size + 1) rfl g (fun _ h => h.2.1)) hHeld ?_
  try simp only [List.getElem_toArray, List.getElem_cons_zero, List.getElem_cons_succ, Act.put, List.setIfInBounds_toArray, List.set_cons_zero, List.set_cons_succ]
  refine wpAnyH_take (i := 60) (v := .agg (row4 f)) rfl (by kernel_rfl) (by kernel_rfl) (by kernel_rfl) (fun _ _ _ h => h) (yields_set (by rfl) (.tmp 2) rfl w.heap.size rfl f (fun _ h => h.1)) hHeld ?_
  try simp only [List.getElem_toArray, List.getElem_cons_zero, List.getElem_cons_succ, Act.put, List.setIfInBounds_toArray, List.set_cons_zero, List.set_cons_succ]
  refine wpAnyH_take (i := 61) (v := .agg (row4 g)) rfl (by kernel_rfl) (by kernel_rfl) (by kernel_rfl) (fun _ _ _ h => h) (yields_set (by rfl) (.tmp 3) rfl (w.heap.size + 1) rfl g (fun _ h => h.2.1)) hHeld ?_
  try simp only [List.getElem_toArray, List.getElem_cons_zero, List.getElem_cons_succ, Act.put, List.setIfInBounds_toArray, List.set_cons_zero, List.set_cons_succ]
  refine wpAnyH_ready (rs := [52]) (by kernel_rfl) (by simp) (AllReadyH.cons rfl (fun K hK => ?_) AllReadyH.nil)
  go_simp
  go_at_call 24
  refine (len_is f n1 N1.out _).mono ?_
  rintro e w20 ⟨rfl, hb1⟩
  have hS1 := And.intro (hHeld.1.below hb1) (And.intro (hHeld.2.1.below hb1) (bl_trans hHeld.2.2 hb1))
  clear hHeld hb1
  go_wp2_with fail
  refine hK.out _ _ hS1 (fun hHeld => ?_)
  clear hK K hS1
  try simp only [List.getElem_toArray, List.getElem_cons_zero, List.getElem_cons_succ, Act.put, List.setIfInBounds_toArray, List.set_cons_zero, List.set_cons_succ]
  refine wpAnyH_ready (rs := [54]) (by kernel_rfl) (by simp) (AllReadyH.cons rfl (fun K hK => ?_) AllReadyH.nil)
  go_simp
  go_at_call 24
  refine (len_is g n2 N2.out _).mono ?_
  rintro e w21 ⟨rfl, hb1⟩
  have hS1 := And.intro (hHeld.1.below hb1) (And.intro (hHeld.2.1.below hb1) (bl_trans hHeld.2.2 hb1))
  clear hHeld hb1
  go_wp2_with fail
  refine hK.out _ _ hS1 (fun hHeld => ?_)
  clear hK K hS1
  try simp only [List.getElem_toArray, List.getElem_cons_zero, List.getElem_cons_succ, Act.put, List.setIfInBounds_toArray, List.set_cons_zero, List.set_cons_succ]
  refine wpAnyH_take (i := 55) (v := ?vzr55) rfl (by kernel_rfl) (by kernel_rfl) (by kernel_rfl) (fun _ _ _ h => h) (Or.inl ⟨by rfl, ?yzr55⟩) hHeld ?rzr55
  case yzr55 => (intro wS hSw; clear hSw; go_simp; try (with_reducible rfl))
  try simp only [List.getElem_toArray, List.getElem_cons_zero, List.getElem_cons_succ, Act.put, List.setIfInBounds_toArray, List.set_cons_zero, List.set_cons_succ]
  refine wpAnyH_ready (rs := [58]) (by kernel_rfl) (by simp) (AllReadyH.cons rfl (fun K hK => ?_) AllReadyH.nil)
  go_simp
  go_at_call 9
  refine (union_any f g _).mono ?_
  rintro e w22 ⟨rfl, hb1⟩
  have hS1 := And.intro (hHeld.1.below hb1) (And.intro (hHeld.2.1.below hb1) (bl_trans hHeld.2.2 hb1))
  clear hHeld hb1
  go_wp2_with fail
  refine hK.out _ _ hS1 (fun hHeld => ?_)
  clear hK K hS1
  try simp only [List.getElem_toArray, List.getElem_cons_zero, List.getElem_cons_succ, Act.put, List.setIfInBounds_toArray, List.set_cons_zero, List.set_cons_succ]
  refine wpAnyH_ready (rs := [59]) (by kernel_rfl) (by simp) (AllReadyH.cons rfl (fun K hK => ?_) AllReadyH.nil)
  go_simp
  go_at_call 24
  refine (len_is _ n3 N3.out _).mono ?_
  rintro e w23 ⟨rfl, hb1⟩
  have hS1 := And.intro (hHeld.1.below hb1) (And.intro (hHeld.2.1.below hb1) (bl_trans hHeld.2.2 hb1))
  clear hHeld hb1
  go_wp2_with fail
  refine hK.out _ _ hS1 (fun hHeld => ?_)
  clear hK K hS1
  try simp only [List.getElem_toArray, List.getElem_cons_zero, List.getElem_cons_succ, Act.put, List.setIfInBounds_toArray, List.set_cons_zero, List.set_cons_succ]
  refine wpAnyH_ready (rs := [62]) (by kernel_rfl) (by simp) (AllReadyH.cons rfl (fun K hK => ?_) AllReadyH.nil)
  go_simp
  go_at_call 11
  refine (both_any f g _).mono ?_
  rintro e w24 ⟨rfl, hb1⟩
  have hS1 := And.intro (hHeld.1.below hb1) (And.intro (hHeld.2.1.below hb1) (bl_trans hHeld.2.2 hb1))
  clear hHeld hb1
  go_wp2_with fail
  refine hK.out _ _ hS1 (fun hHeld => ?_)
  clear hK K hS1
  try simp only [List.getElem_toArray, List.getElem_cons_zero, List.getElem_cons_succ, Act.put, List.setIfInBounds_toArray, List.set_cons_zero, List.set_cons_succ]
  refine wpAnyH_ready (rs := [63]) (by kernel_rfl) (by simp) (AllReadyH.cons rfl (fun K hK => ?_) AllReadyH.nil)
  go_simp
  go_at_call 24
  refine (len_is _ n4 N4.out _).mono ?_
  rintro e w25 ⟨rfl, hb1⟩
  have hS1 := And.intro (hHeld.1.below hb1) (And.intro (hHeld.2.1.below hb1) (bl_trans hHeld.2.2 hb1))
  clear hHeld hb1
  go_wp2_with fail
  refine hK.out _ _ hS1 (fun hHeld => ?_)
  clear hK K hS1
  try simp only [List.getElem_toArray, List.getElem_cons_zero, List.getElem_cons_succ, Act.put, List.setIfInBounds_toArray, List.set_cons_zero, List.set_cons_succ]
  refine wpAnyH_take (i := 64) (v := ?vzr64) rfl (by kernel_rfl) (by kernel_rfl) (by kernel_rfl) (fun _ _ _ h => h) (Or.inl ⟨by rfl, ?yzr64⟩) hHeld ?rzr64
  case yzr64 => (intro wS hSw; clear hSw; go_simp; try (with_reducible rfl))
  try simp only [List.getElem_toArray, List.getElem_cons_zero, List.getElem_cons_succ, Act.put, List.setIfInBounds_toArray, List.set_cons_zero, List.set_cons_succ]
  refine wpAnyH_take (i := 65) (v := ?vzr65) rfl (by kernel_rfl) (by kernel_rfl) (by kernel_rfl) (fun _ _ _ h => h) (Or.inl ⟨by rfl, ?yzr65⟩) hHeld ?rzr65
  case yzr65 => (intro wS hSw; clear hSw; go_simp; try (with_reducible rfl))
  try simp only [List.getElem_toArray, List.getElem_cons_zero, List.getElem_cons_succ, Act.put, List.setIfInBounds_toArray, List.set_cons_zero, List.set_cons_succ]
  refine wpAnyH_take (i := 66) (v := ?vzr66) rfl (by kernel_rfl) (by kernel_rfl) (by kernel_rfl) (fun _ _ _ h => h) (Or.inl ⟨by rfl, ?yzr66⟩) hHeld ?rzr66
  case yzr66 => (intro wS hSw; clear hSw; go_simp; try (with_reducible rfl))
  try simp only [List.getElem_toArray, List.getElem_cons_zero, List.getElem_cons_succ, Act.put, List.setIfInBounds_toArray, List.set_cons_zero, List.set_cons_succ]
  refine wpAnyH_take (i := 67) (v := ?vzr67) rfl (by kernel_rfl) (by kernel_rfl) (by kernel_rfl) (fun _ _ _ h => h) (Or.inl ⟨by rfl, ?yzr67⟩) hHeld ?rzr67
  case yzr67 => (intro wS hSw; clear hSw; go_simp; try (with_reducible rfl))
  try simp only [List.getElem_toArray, List.getElem_cons_zero, List.getElem_cons_succ, Act.put, List.setIfInBounds_toArray, List.set_cons_zero, List.set_cons_succ]
  refine wpAnyH_done (by kernel_rfl) ?_ _
  go_wp2
  go_ret
  exact ⟨rfl, hHeld.2.2⟩

theorem laid_met (os : Os) : laidMet Tryd.prog laidL ((laidWorld os).forCall (fun _ _ => 0) ⟨#[], #[.agg (row4 nilW), .agg (row4 nilW)], []⟩).memory :=
  laidMet_of_run' 8 (by kernel_rfl) (by kernel_rfl)
theorem reads (os : Os) {H : Type} (enc : TypeId × Value → H) : ∃ places, DataW.whole enc Tryd.prog ((laidWorld os).forCall (fun _ _ => 0) ⟨#[], #[.agg (row4 nilW), .agg (row4 nilW)], []⟩).memory Tryd.f7.params.toList Rows.setsRulesSpec.vars false (#[.agg (row4 nilW), .agg (row4 nilW)] : Array Value).toList 8 = some ([.agg [.lit (.int .u64 0), .lit (.int .u64 0), .lit (.int .u64 0), .lit (.int .u64 0)], .agg [.lit (.int .u64 0), .lit (.int .u64 0), .lit (.int .u64 0), .lit (.int .u64 0)]], [], places) :=
  ⟨[], by kernel_rfl⟩
set_option maxRecDepth 100000 in
theorem SetsRules_said : Rows.SetsRulesSaid :=
  OpenClaim.holds_of_cond 7 Tryd.f7 rfl rfl rfl rfl rfl rfl rfl ⟨rfl, rfl, rfl, rfl, rfl⟩ rfl rfl rfl rfl rfl (by kernel_rfl) Tryd.func7 (by kernel_rfl)
    (of_decide_eq_true (by kernel_rfl)) (by unfold Func.isWrapper; first | (rw [if_pos (by decide +kernel)]; kernel_rfl) | (rw [if_neg (by decide +kernel)]; exact ⟨rfl, rfl⟩))
    (fun os started H enc _ F => by
      rw [OpenClaim.pre_eq_preRow]
      obtain ⟨places, hx⟩ := reads os enc
      exact law_lifted_laid (s := Rows.setsRulesSpec) (conds := Rows.setsRulesRow.domain) Tryd.func7 (by kernel_rfl) rfl
        (fun H ds h => by rw [Tryd.params7] at h; match ds, h with | [_, _], _ => rfl) (by kernel_rfl) (by kernel_rfl) os started H enc F
        (witness_row_at (enc := enc) (C := Tryd.checked) false (laidWorld os) #[.agg (row4 nilW), .agg (row4 nilW)] rfl (by kernel_rfl) (by kernel_rfl) (by kernel_rfl)
          (OpenSpec.preRow_of_cond 8 hx (by kernel_rfl) (fun k hk => by cases hk) (by kernel_rfl) (laid_met os)))
        (fun W args ds p h hT => by
          obtain ⟨⟨base, hok⟩, hA, hl⟩ := h
          rw [Tryd.params7] at hok hA hl
          obtain ⟨v0, v1, d0, d1, p0, p1, rfl, rfl, rfl, g0, g1⟩ := trodAll_two hA
          obtain ⟨f0, rfl⟩ := open_set (hok 0 24 v0 rfl rfl) g0
          obtain ⟨f1, rfl⟩ := open_set (hok 1 24 v1 rfl rfl) g1
          exact rules_walk f0 f1 W hT))

theorem plain_params (f : FuncId) (fn : Func) (hf : Tryd.pinned.checked.prog.funcNamed "incunable/incunablelaw08.SetsRules" = some f) (hfn : Tryd.pinned.checked.prog.funcs[f]? = some fn) :
    false = Tryd.pinned.checked.prog.looks [] ∧ ∀ (j : Nat) t, fn.params[j]? = some t → Tryd.pinned.checked.prog.wantsStandIn t = false := by
  obtain rfl : f = 7 := Option.some.inj ((show Tryd.prog.funcNamed "incunable/incunablelaw08.SetsRules" = some 7 by kernel_rfl).symm.trans hf) |>.symm
  obtain rfl : fn = Tryd.f7 := (Option.some.inj (Tryd.func7.symm.trans hfn)).symm
  refine ⟨by kernel_rfl, fun j t ht => ?_⟩
  rw [Tryd.params7] at ht
  have hm : t ∈ [24, 24] := by simpa using Array.mem_of_getElem? ht
  have hall : ([24, 24].all fun u => !Tryd.prog.wantsStandIn u) = true := by kernel_rfl
  exact (show Tryd.prog.wantsStandIn t = false by simpa using List.all_eq_true.1 hall t hm)

/-- The card. -/
theorem SetsRulesCard_holds : Rows.SetsRulesCardSaid :=
  Claim7.holds_tied_plain_at .later [] _ _ _ _ SetsRules_said (fun _ h => by cases h) (by kernel_rfl) (fun _ h => by cases h) setsRules_row_tie rfl ⟨rfl, rfl⟩ (by kernel_rfl) rfl plain_params (by kernel_rfl)

end Go.Proofs.YtcgoacfcdlbhdaaDoor

