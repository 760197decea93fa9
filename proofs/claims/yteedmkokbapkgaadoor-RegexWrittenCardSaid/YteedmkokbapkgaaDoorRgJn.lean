/- The document's One, None, Over, Join. -/
import Derived.Test.YteedmkokbapkgaaDoorRgO
set_option linter.unusedVariables false
set_option linter.unusedSimpArgs false
namespace Go.Proofs.YteedmkokbapkgaaDoor
open Go.RowKit

theorem ownR_lit {w : World} (base : Nat) (l : List RN) (hb : base ≤ w.heap.size) (hm : l.length ≤ maxLen) :
    OwnR (w.alloc (.cells (cellsN l).toArray 59)) base (.slice (some ⟨w.heap.size, 0, none⟩) l.length l.length) l := by
  have h := World.ownsRow_lit (base := base) (e := 59) (size := 7) w (cellsN l).toArray l.length hb hm (by simp [cellsN_len])
  unfold OwnR
  simpa using h
theorem built_one (k : Int) : Tryd.prog.built 59 [(0, Value.int .i64 k)] = some (cellsR ⟨k, 0, 0, nilS⟩).toArray := by kernel_rfl
set_option maxRecDepth 20000 in
set_option maxHeartbeats 1000000 in
theorem none_any (w : World) : Calls Tryd.prog 33 #[] w (GotX w [⟨1, 0, 0, nilS⟩]) := by
  generalize hQ : GotX w [⟨1, 0, 0, nilS⟩] = Q
  have HQ := Lib.hid hQ
  clear hQ
  go_enter Tryd.func33, Tryd.ntmps33
  go_wp2_with fail
  have h1 : (w.alloc (.cells #[.slice (some ⟨w.heap.size + 1, 0, none⟩) 1 1] 24)).heap.size = w.heap.size + 1 := by simp
  have ho := ownR_lit (w := w.alloc (.cells #[.slice (some ⟨w.heap.size + 1, 0, none⟩) 1 1] 24)) w.heap.size [⟨1, 0, 0, nilS⟩] (by omega) (by simp [maxLen])
  rw [h1] at ho
  have hk : ((w.alloc (.cells #[.slice (some ⟨w.heap.size + 1, 0, none⟩) 1 1] 24)).alloc (.cells (cellsN [⟨1, 0, 0, nilS⟩]).toArray 59)).heap[w.heap.size]? = some (.cells #[.slice (some ⟨w.heap.size + 1, 0, none⟩) 1 1] 24 (0, 0)) := by
    rw [Below.heap_alloc _ _ _ (by simp)]
    exact heap_alloc_new w _
  refine bodyPost_ret (v := .agg #[.slice (some ⟨w.heap.size + 1, 0, none⟩) 1 1]) (results_cell_row rfl _ _ w.heap.size 24 _ (0, 0) _ rfl hk Tryd.underlying24 rfl (by rw [size_rex]; rfl)) rfl (post_is HQ ?_)
  exact ⟨_, rfl, ho, bl_alloc (bl_alloc (Below.refl _ _) _) _⟩

theorem wpList_leafN {ops : Array Oper} {rest : List Oper} {o : Oper} {a : Act} {w : World} {Q : Exit → Act → World → Prop} (x y : Operand) (k : Int) (s : S4) (hg : o.guard = none) (ho : o.op = .build 59 #[(0, x), (1, y)]) (hx : a.eval x = .int .i64 k) (hy : a.eval y = encS s)
    (h : wpList Tryd.prog ops Q rest (a.put o.dst (.agg #[.int .i64 k, dv s.w0, dv s.w1, dv s.w2, dv s.w3, .int .i64 0, .int .i64 0])) w) : wpList Tryd.prog ops Q (o :: rest) a w := by
  have hb := built_leaf k s
  refine wpList_build hg _ _ ho ?_ ?_
  · simp [hx, hy, hb]
  · simp [hx, hy, hb]
    exact h
set_option maxRecDepth 20000 in
set_option maxHeartbeats 1000000 in
theorem one_pat (s : S4) (w : World) : Calls Tryd.prog 30 #[encS s] w (GotX w [⟨2, 0, 0, s⟩]) := by
  generalize hQ : GotX w [⟨2, 0, 0, s⟩] = Q
  have HQ := Lib.hid hQ
  clear hQ
  have hs : HS ((w.alloc (.cells (row4 s.f) 57)).alloc (.cells #[.slice none 0 0] 24)) w.heap.size s := H4.alloc (heap_alloc_new w _) _
  show Calls Tryd.prog 30 #[.agg (row4 s.f)] w Q
  go_enter Tryd.func30, Tryd.ntmps30
  go_wp2_with (first
    | (refine wpList_load_row rfl 57 _ rfl w.heap.size rfl 57 _ (0, 0) _ hs Tryd.underlying57 rfl (by rw [size4, row4_size]) ?_)
    | (refine wpList_leafN _ _ 2 s rfl rfl rfl rfl ?_))
  have h1 : ((w.alloc (.cells (row4 s.f) 57)).alloc (.cells #[.slice (some ⟨w.heap.size + 1 + 1, 0, none⟩) 1 1] 24)).heap.size = w.heap.size + 1 + 1 := by simp
  have ho := ownR_lit (w := (w.alloc (.cells (row4 s.f) 57)).alloc (.cells #[.slice (some ⟨w.heap.size + 1 + 1, 0, none⟩) 1 1] 24)) w.heap.size [⟨2, 0, 0, s⟩] (by omega) (by simp [maxLen])
  rw [h1] at ho
  have hk : (((w.alloc (.cells (row4 s.f) 57)).alloc (.cells #[.slice (some ⟨w.heap.size + 1 + 1, 0, none⟩) 1 1] 24)).alloc (.cells (cellsN [⟨2, 0, 0, s⟩]).toArray 59)).heap[w.heap.size + 1]? = some (.cells #[.slice (some ⟨w.heap.size + 1 + 1, 0, none⟩) 1 1] 24 (0, 0)) := by
    rw [Below.heap_alloc _ _ _ (by simp)]
    have := heap_alloc_new (w.alloc (.cells (row4 s.f) 57)) (.cells #[.slice (some ⟨w.heap.size + 1 + 1, 0, none⟩) 1 1] 24)
    rwa [World.size_alloc] at this
  refine bodyPost_ret (v := .agg #[.slice (some ⟨w.heap.size + 1 + 1, 0, none⟩) 1 1]) (results_cell_row rfl _ _ (w.heap.size + 1) 24 _ (0, 0) _ rfl hk Tryd.underlying24 rfl (by rw [size_rex]; rfl)) rfl (post_is HQ ?_)
  exact ⟨_, rfl, ho, bl_alloc (bl_alloc (bl_alloc (Below.refl _ _) _) _) _⟩

/-! Over -/
theorem RdR.cells {w : World} {ad : Addr} {l : List RN} (h : RdR w (some ad) l) : ∀ j u, (cellsN l)[j]? = some u → w.cell? (ad.add j) = some u := fun j u hu => by
  have hj := (List.getElem?_eq_some_iff.1 hu).1
  rw [cellsN_len] at hj
  have hi : j / 7 < l.length := by omega
  obtain ⟨ad', e, hc⟩ := h (j / 7) hi
  obtain rfl := Option.some.inj e
  have hm : j % 7 < (cellsR l[j / 7]).length := by show j % 7 < 7; omega
  have h2 := cellsN_get l (j / 7) hi (j % 7) _ (List.getElem?_eq_getElem hm)
  rw [show j / 7 * 7 + j % 7 = j by omega, hu] at h2
  have h3 := hc (j % 7) _ (List.getElem?_eq_getElem hm)
  rw [Addr.add_add, show j / 7 * 7 + j % 7 = j by omega] at h3
  rw [h3, ← h2]
theorem cellsN_one (l : List RN) : ∀ u ∈ cellsN l, u.oneCell' = true := fun u hu => by
  obtain ⟨x, _, hx⟩ := List.mem_flatMap.1 hu
  simp only [cellsR, List.mem_cons, List.not_mem_nil, or_false] at hx
  rcases hx with rfl | rfl | rfl | rfl | rfl | rfl | rfl <;> rfl
theorem ownR_append {w : World} {base : Nat} {v : Value} {l : List RN} {n : Nat} (hn : l.length = n) (x : List RN) {m : Nat} (hm : x.length = m) (h : w.ownsRow base 59 7 v (n + m) (cellsN l ++ cellsN x)) : OwnR w base v (l ++ x) := by
  subst hn hm
  unfold OwnR
  rw [List.length_append, show cellsN (l ++ x) = cellsN l ++ cellsN x from by unfold cellsN; simp]
  exact h
set_option maxRecDepth 100000 in
set_option maxHeartbeats 4000000 in
theorem over_any (k : Int) (l : List RN) (A : Option Addr) (n c : Nat) (hn : l.length = n) (h1 : 1 ≤ n) (hn2 : n ≤ 10000) (w : World) (hr : RdR w A l) :
    Calls Tryd.prog 24 #[.int .i64 k, .agg #[.slice A n c]] w (GotX w (l ++ [⟨k, ((n - 1 : Nat) : Int), 0, nilS⟩])) := by
  generalize hQ : GotX w (l ++ [⟨k, ((n - 1 : Nat) : Int), 0, nilS⟩]) = Q
  have HQ := Lib.hid hQ
  clear hQ
  obtain ⟨ad, rfl⟩ : ∃ ad, A = some ad := by obtain ⟨ad, h, _⟩ := hr 0 (by omega); exact ⟨ad, h⟩
  obtain ⟨i0, hi, hz0, hz1, hz2⟩ := info_parts info_rn
  have bA := bl_alloc (bl_alloc (Below.refl w.heap.size w) (.cells #[.slice (some ad) n c] 24)) (.cells #[.slice none 0 0] 24)
  have kb : ((w.alloc (.cells #[.slice (some ad) n c] 24)).alloc (.cells #[.slice none 0 0] 24)).heap[w.heap.size]? = some (.cells #[.slice (some ad) n c] 24 (0, 0)) := by
    rw [Below.heap_alloc _ _ _ (by simp)]
    exact heap_alloc_new w _
  have kr : ((w.alloc (.cells #[.slice (some ad) n c] 24)).alloc (.cells #[.slice none 0 0] 24)).heap[w.heap.size + 1]? = some (.cells #[.slice none 0 0] 24 (0, 0)) := by
    have := heap_alloc_new (w.alloc (.cells #[.slice (some ad) n c] 24)) (.cells #[.slice none 0 0] 24)
    rwa [World.size_alloc] at this
  have hs0 : ((w.alloc (.cells #[.slice (some ad) n c] 24)).alloc (.cells #[.slice none 0 0] 24)).heap.size = w.heap.size + 2 := by simp
  have hx1 : (n : Int) - 1 = ((n - 1 : Nat) : Int) := by omega
  have hw : IntKind.i64.wrap ((n - 1 : Nat) : Int) = ((n - 1 : Nat) : Int) := by rw [IntKind.wrap_i64]; omega
  go_enter Tryd.func24, Tryd.ntmps24
  go_wp2_with fail
  generalize (w.alloc (.cells #[.slice (some ad) n c] 24)).alloc (.cells #[.slice none 0 0] 24) = w0 at *
  have HR := Lib.hid (hr.below bA)
  have HB := Lib.hid bA
  have HN := Lib.hid hn
  clear bA hr hn
  refine wp_region_held_drew (S := fun W' => W'.heap[w.heap.size]? = some (.cells #[.slice (some ad) n c] 24 (0, 0))) (by kernel_rfl) kb (fun hHeld => ?_)
  try simp only [List.getElem_toArray, List.getElem_cons_zero, List.getElem_cons_succ, Act.put, List.setIfInBounds_toArray, List.set_cons_zero, List.set_cons_succ]
  refine wpAnyH_take (i := 0) (v := ?vza0) rfl (by kernel_rfl) (by kernel_rfl) (by kernel_rfl) (fun _ _ _ h => h) (Or.inl ⟨by rfl, ?yza0⟩) hHeld ?rza0
  case yza0 => (intro wS hSw; clear hSw; go_simp; try (with_reducible rfl))
  try simp only [List.getElem_toArray, List.getElem_cons_zero, List.getElem_cons_succ, Act.put, List.setIfInBounds_toArray, List.set_cons_zero, List.set_cons_succ]
  refine wpAnyH_take (i := 1) (v := ?vza1) rfl (by kernel_rfl) (by kernel_rfl) (by kernel_rfl) (fun _ _ _ h => h) (Or.inl ⟨by rfl, ?yza1⟩) hHeld ?rza1
  case yza1 => (intro wS hSw; have q1 := cell_of_row wS w.heap.size 0 _ _ _ hSw; clear hSw; go_simp; try (with_reducible rfl))
  try simp only [List.getElem_toArray, List.getElem_cons_zero, List.getElem_cons_succ, Act.put, List.setIfInBounds_toArray, List.set_cons_zero, List.set_cons_succ]
  refine wpAnyH_take (i := 3) (v := ?vza3) rfl (by kernel_rfl) (by kernel_rfl) (by kernel_rfl) (fun _ _ _ h => h) (Or.inl ⟨by rfl, ?yza3⟩) hHeld ?rza3
  case yza3 => (intro wS hSw; clear hSw; go_simp; try (with_reducible rfl))
  try simp only [List.getElem_toArray, List.getElem_cons_zero, List.getElem_cons_succ, Act.put, List.setIfInBounds_toArray, List.set_cons_zero, List.set_cons_succ]
  refine wpAnyH_take (i := 4) (v := ?vza4) rfl (by kernel_rfl) (by kernel_rfl) (by kernel_rfl) (fun _ _ _ h => h) (Or.inl ⟨by rfl, ?yza4⟩) hHeld ?rza4
  case yza4 => (intro wS hSw; clear hSw; go_simp; try (with_reducible rfl))
  try simp only [List.getElem_toArray, List.getElem_cons_zero, List.getElem_cons_succ, Act.put, List.setIfInBounds_toArray, List.set_cons_zero, List.set_cons_succ]
  refine wpAnyH_take (i := 5) (v := ?vza5) rfl (by kernel_rfl) (by kernel_rfl) (by kernel_rfl) (fun _ _ _ h => h) (Or.inl ⟨by rfl, ?yza5⟩) hHeld ?rza5
  case yza5 => (intro wS hSw; have q1 := cell_of_row wS w.heap.size 0 _ _ _ hSw; clear hSw; go_simp; try (with_reducible rfl))
  try simp only [List.getElem_toArray, List.getElem_cons_zero, List.getElem_cons_succ, Act.put, List.setIfInBounds_toArray, List.set_cons_zero, List.set_cons_succ]
  refine wpAnyH_take (i := 6) (v := ?vza6) rfl (by kernel_rfl) (by kernel_rfl) (by kernel_rfl) (fun _ _ _ h => h) (Or.inl ⟨by rfl, ?yza6⟩) hHeld ?rza6
  case yza6 => (intro wS hSw; clear hSw; go_simp; try (with_reducible rfl))
  try simp only [List.getElem_toArray, List.getElem_cons_zero, List.getElem_cons_succ, Act.put, List.setIfInBounds_toArray, List.set_cons_zero, List.set_cons_succ]
  refine wpAnyH_take (i := 7) (v := ?vza7) rfl (by kernel_rfl) (by kernel_rfl) (by kernel_rfl) (fun _ _ _ h => h) (Or.inl ⟨by rfl, ?yza7⟩) hHeld ?rza7
  case yza7 => (intro wS hSw; clear hSw; go_simp; try (with_reducible rfl))
  try simp only [List.getElem_toArray, List.getElem_cons_zero, List.getElem_cons_succ, Act.put, List.setIfInBounds_toArray, List.set_cons_zero, List.set_cons_succ]
  refine wpAnyH_take (i := 8) (v := .agg #[.int .i64 k, .int .u64 0, .int .u64 0, .int .u64 0, .int .u64 0, .int .i64 ((n - 1 : Nat) : Int), .int .i64 0]) rfl (by kernel_rfl) (by kernel_rfl) (by kernel_rfl) (fun _ _ _ h => h) (Or.inl ⟨by rfl, fun wS hSw => by clear hSw; go_simp; try (with_reducible rfl)⟩) hHeld ?_
  try simp only [List.getElem_toArray, List.getElem_cons_zero, List.getElem_cons_succ, Act.put, List.setIfInBounds_toArray, List.set_cons_zero, List.set_cons_succ]
  refine wpAnyH_ready (rs := [2, 9]) (by kernel_rfl) (by simp) (AllReadyH.cons rfl (fun K hK => ?_) (AllReadyH.cons rfl (fun K hK => ?_) AllReadyH.nil))
  · rw [if_pos (by rfl)]
    refine wp_append_lies _ _ _ 22 rfl w.heap.size 59 i0 (aggR ⟨0, 0, 0, ⟨0, 0, 0, 0⟩⟩) 7 56 Tryd.underlying22 hi hz0 hz1 hz2 rfl (by omega) (.slice none 0 0) 0 [] rfl (World.ownsRow_nil _ _ _ _) ad n c (cellsN l) rfl (by rw [cellsN_len, HN.out]) (RdR.cells (show RdR w0.drew (some ad) l from HR.out)) (cellsN_one l) (by omega) (by simp only [maxLen]; omega) (by omega) (by first | (simp; omega) | omega) (w.heap.size + 2) hs0 ?_
    intro g cap w3 ho hg hat hlt
    simp only [Nat.zero_add, List.nil_append] at ho ⊢
    have hsd : w0.drew.heap.size = w0.heap.size := rfl
    have GNE : Hid (g ≠ w.heap.size + 1) := Lib.hid (by
      rcases hat with e | e
      · simp [Value.ownBlock] at e
      · omega)
    have GNE0 : Hid (g ≠ w.heap.size) := Lib.hid (by
      rcases hat with e | e
      · simp [Value.ownBlock] at e
      · omega)
    have GGE : Hid (w.heap.size ≤ g) := Lib.hid (by
      rcases hat with e | e
      · simp [Value.ownBlock] at e
      · omega)
    have hS1 := (hg.block w.heap.size (Array.getElem?_eq_some_iff.1 hHeld).1 (by simp [Value.ownBlock])).trans hHeld
    have kr3 := (hg.block (w.heap.size + 1) (Array.getElem?_eq_some_iff.1 kr).1 (by simp [Value.ownBlock])).trans kr
    have hb3 := bl_grown (bl_drewN HB.out 1) hg (fun j e => by simp [Value.ownBlock] at e)
    refine hK.out _ _ hS1 (fun hHeld => ?_)
    clear hK K hS1 hat hg
    try simp only [List.getElem_toArray, List.getElem_cons_zero, List.getElem_cons_succ, Act.put, List.setIfInBounds_toArray, List.set_cons_zero, List.set_cons_succ]
    refine wpAnyH_ready (rs := [9]) (by kernel_rfl) (by simp) (AllReadyH.cons rfl (fun K hK => ?_) AllReadyH.nil)
    rw [if_pos (by rfl)]
    have hS4 := (Below.heap_alloc w3 (.cells #[.int .i64 k, .int .u64 0, .int .u64 0, .int .u64 0, .int .u64 0, .int .i64 ((n - 1 : Nat) : Int), .int .i64 0] 59) w.heap.size (Array.getElem?_eq_some_iff.1 hHeld).1).trans hHeld
    have KR := Lib.hid ((Below.heap_alloc w3 (.cells #[.int .i64 k, .int .u64 0, .int .u64 0, .int .u64 0, .int .u64 0, .int .i64 ((n - 1 : Nat) : Int), .int .i64 0] 59) (w.heap.size + 1) (Array.getElem?_eq_some_iff.1 kr3).1).trans kr3)
    have LITB := Lib.hid (heap_alloc_new w3 (.cells #[.int .i64 k, .int .u64 0, .int .u64 0, .int .u64 0, .int .u64 0, .int .i64 ((n - 1 : Nat) : Int), .int .i64 0] 59))
    have OWN := Lib.hid (World.ownsRow.alloc ho (.cells #[.int .i64 k, .int .u64 0, .int .u64 0, .int .u64 0, .int .u64 0, .int .i64 ((n - 1 : Nat) : Int), .int .i64 0] 59))
    have HB3 := Lib.hid (bl_alloc hb3 (.cells #[.int .i64 k, .int .u64 0, .int .u64 0, .int .u64 0, .int .u64 0, .int .i64 ((n - 1 : Nat) : Int), .int .i64 0] 59))
    clear kr3 hb3 ho kb kr HB HR
    go_simp
    refine hK.out _ _ hS4 (fun hHeld => ?_)
    clear hK K hS4
    try simp only [List.getElem_toArray, List.getElem_cons_zero, List.getElem_cons_succ, Act.put, List.setIfInBounds_toArray, List.set_cons_zero, List.set_cons_succ]
    refine wpAnyH_ready (rs := [10]) (by kernel_rfl) (by simp) (AllReadyH.cons rfl (fun K hK => ?_) AllReadyH.nil)
    rw [if_pos (by rfl)]
    refine wp_append_lies _ _ _ 22 rfl w.heap.size 59 i0 (aggR ⟨0, 0, 0, ⟨0, 0, 0, 0⟩⟩) 7 56 Tryd.underlying22 hi hz0 hz1 hz2 rfl (by omega) (.slice (some ⟨g, 0, none⟩) n cap) n (cellsN l) rfl OWN.out ⟨w3.heap.size, 0, none⟩ 1 1 #[.int .i64 k, .int .u64 0, .int .u64 0, .int .u64 0, .int .u64 0, .int .i64 ((n - 1 : Nat) : Int), .int .i64 0].toList rfl rfl (World.news_of_block LITB.out) (by simp [Value.oneCell']) (by omega) (by simp only [maxLen]; omega) (by omega) HB3.out.size _ rfl ?_
    intro g2 cap2 w6 ho2 hg2 hat2 hlt2
    have kr6 := (hg2.block (w.heap.size + 1) (Array.getElem?_eq_some_iff.1 KR.out).1 (fun e => GNE.out (Option.some.inj (show some g = some (w.heap.size + 1) from e.symm)))).trans KR.out
    have hS6 := (hg2.block w.heap.size (Array.getElem?_eq_some_iff.1 hHeld).1 (fun e => GNE0.out (Option.some.inj (show some g = some w.heap.size from e.symm)))).trans hHeld
    have hb6 := bl_grown HB3.out hg2 (fun j e => by cases e; exact GGE.out)
    refine hK.out _ _ hS6 (fun hHeld => ?_)
    clear hK K hS6
    try simp only [List.getElem_toArray, List.getElem_cons_zero, List.getElem_cons_succ, Act.put, List.setIfInBounds_toArray, List.set_cons_zero, List.set_cons_succ]
    refine wpAnyH_take (i := 11) (v := ?vzb11) rfl (by kernel_rfl) (by kernel_rfl) (by kernel_rfl) (fun _ _ _ h => h) (Or.inl ⟨by rfl, ?yzb11⟩) hHeld ?rzb11
    case yzb11 => (intro wS hSw; clear hSw; go_simp; try (with_reducible rfl))
    try simp only [List.getElem_toArray, List.getElem_cons_zero, List.getElem_cons_succ, Act.put, List.setIfInBounds_toArray, List.set_cons_zero, List.set_cons_succ]
    refine wpAnyH_ready (rs := [12]) (by kernel_rfl) (by simp) (AllReadyH.cons rfl (fun K hK => ?_) AllReadyH.nil)
    rw [if_pos (by rfl)]
    refine wp_store_row 24 _ _ rfl (w.heap.size + 1) _ rfl rfl 24 _ kr6 (by rw [size_rex]; rfl) (by rfl) (by simp [Value.oneCell']) ?_
    have hS7 := (setRow_other w6 (w.heap.size + 1) w.heap.size #[.slice (some ⟨g2, 0, none⟩) (n + 1) cap2] (by omega)).trans hHeld
    have kr7 := setRow_heap w6 (w.heap.size + 1) _ #[.slice (some ⟨g2, 0, none⟩) (n + 1) cap2] _ _ kr6
    have hb7 := bl_setRow hb6 (g := w.heap.size + 1) (by omega) #[.slice (some ⟨g2, 0, none⟩) (n + 1) cap2]
    refine hK.out _ _ hS7 (fun hHeld => ?_)
    clear hK K hS7 hHeld
    refine wpAnyH_done (by kernel_rfl) ?_ _
    have hgne : g2 ≠ w.heap.size + 1 := by
      rcases hat2 with e | e
      · exact fun e2 => GNE.out (by have : g = g2 := by simpa [Value.ownBlock] using e
                                    omega)
      · have := (Array.getElem?_eq_some_iff.1 KR.out).1
        omega
    have ho3 : OwnR w6 w.heap.size (.slice (some ⟨g2, 0, none⟩) (n + 1) cap2) (l ++ [⟨k, ((n - 1 : Nat) : Int), 0, nilS⟩]) := ownR_append HN.out [⟨k, ((n - 1 : Nat) : Int), 0, nilS⟩] rfl ho2
    have ho7 : OwnR (w6.setRow (w.heap.size + 1) #[.slice (some ⟨g2, 0, none⟩) (n + 1) cap2]) w.heap.size (.slice (some ⟨g2, 0, none⟩) (n + 1) cap2) (l ++ [⟨k, ((n - 1 : Nat) : Int), 0, nilS⟩]) :=
      World.ownsRow.kept (row := some (w.heap.size + 1)) ho3 ⟨rfl, rfl, rfl, by simp, fun j hj hne => setRow_other _ _ _ _ (fun e => hne (by rw [e]))⟩ (Or.inr (fun e => hgne (Option.some.inj e)))
    have HB7 := Lib.hid hb7
    have HO7 := Lib.hid ho7
    have KR7 := Lib.hid kr7
    clear hb7 ho7 kr7 ho3 hb6 kr6 ho2 hg2 hat2 hlt2
    go_wp2_with fail
    refine bodyPost_ret (v := .agg #[.slice (some ⟨g2, 0, none⟩) (n + 1) cap2]) (results_cell_row rfl _ _ (w.heap.size + 1) 24 _ (0, 0) _ rfl KR7.out Tryd.underlying24 rfl (by rw [size_rex]; rfl)) rfl (post_is HQ ?_)
    exact ⟨_, rfl, HO7.out, HB7.out⟩
  · rw [if_pos (by rfl)]
    have hS1 := (Below.heap_alloc w0.drew (.cells #[.int .i64 k, .int .u64 0, .int .u64 0, .int .u64 0, .int .u64 0, .int .i64 ((n - 1 : Nat) : Int), .int .i64 0] 59) w.heap.size (Array.getElem?_eq_some_iff.1 hHeld).1).trans hHeld
    have kr3 := (Below.heap_alloc w0.drew (.cells #[.int .i64 k, .int .u64 0, .int .u64 0, .int .u64 0, .int .u64 0, .int .i64 ((n - 1 : Nat) : Int), .int .i64 0] 59) (w.heap.size + 1) (Array.getElem?_eq_some_iff.1 kr).1).trans kr
    have hl3 := heap_alloc_new w0.drew (.cells #[.int .i64 k, .int .u64 0, .int .u64 0, .int .u64 0, .int .u64 0, .int .i64 ((n - 1 : Nat) : Int), .int .i64 0] 59)
    have hb3 := bl_alloc (bl_drewN HB.out 1) (.cells #[.int .i64 k, .int .u64 0, .int .u64 0, .int .u64 0, .int .u64 0, .int .i64 ((n - 1 : Nat) : Int), .int .i64 0] 59)
    have hr3 : RdR (w0.drew.alloc (.cells #[.int .i64 k, .int .u64 0, .int .u64 0, .int .u64 0, .int .u64 0, .int .i64 ((n - 1 : Nat) : Int), .int .i64 0] 59)) (some ad) l := (show RdR w0.drew (some ad) l from HR.out).below (bl_alloc (Below.refl _ _) _)
    have hs3 : (w0.drew.alloc (.cells #[.int .i64 k, .int .u64 0, .int .u64 0, .int .u64 0, .int .u64 0, .int .i64 ((n - 1 : Nat) : Int), .int .i64 0] 59)).heap.size = w.heap.size + 3 := by show (w0.heap.push _).size = _; simp [hs0]
    have hsd : w0.drew.heap.size = w.heap.size + 2 := hs0
    rw [hsd] at hl3
    go_simp
    refine hK.out _ _ hS1 (fun hHeld => ?_)
    clear hK K hS1
    try simp only [List.getElem_toArray, List.getElem_cons_zero, List.getElem_cons_succ, Act.put, List.setIfInBounds_toArray, List.set_cons_zero, List.set_cons_succ]
    refine wpAnyH_ready (rs := [2]) (by kernel_rfl) (by simp) (AllReadyH.cons rfl (fun K hK => ?_) AllReadyH.nil)
    rw [if_pos (by rfl)]
    refine wp_append_lies _ _ _ 22 rfl w.heap.size 59 i0 (aggR ⟨0, 0, 0, ⟨0, 0, 0, 0⟩⟩) 7 56 Tryd.underlying22 hi hz0 hz1 hz2 rfl (by omega) (.slice none 0 0) 0 [] rfl (World.ownsRow_nil _ _ _ _) ad n c (cellsN l) rfl (by rw [cellsN_len, HN.out]) (RdR.cells hr3) (cellsN_one l) (by omega) (by simp only [maxLen]; omega) (by omega) (by first | (simp; omega) | omega) (w.heap.size + 3) hs3 ?_
    intro g cap w4 ho hg hat hlt
    simp only [Nat.zero_add, List.nil_append] at ho ⊢
    have GNE : Hid (g ≠ w.heap.size + 1) := Lib.hid (by
      rcases hat with e | e
      · simp [Value.ownBlock] at e
      · omega)
    have GNE0 : Hid (g ≠ w.heap.size) := Lib.hid (by
      rcases hat with e | e
      · simp [Value.ownBlock] at e
      · omega)
    have GGE : Hid (w.heap.size ≤ g) := Lib.hid (by
      rcases hat with e | e
      · simp [Value.ownBlock] at e
      · omega)
    have hS4 := (hg.block w.heap.size (Array.getElem?_eq_some_iff.1 hHeld).1 (by simp [Value.ownBlock])).trans hHeld
    have KR := Lib.hid ((hg.block (w.heap.size + 1) (Array.getElem?_eq_some_iff.1 kr3).1 (by simp [Value.ownBlock])).trans kr3)
    have LITB := Lib.hid ((hg.block (w.heap.size + 2) (Array.getElem?_eq_some_iff.1 hl3).1 (by simp [Value.ownBlock])).trans hl3)
    have HB3 := Lib.hid (bl_grown hb3 hg (fun j e => by simp [Value.ownBlock] at e))
    have OWN := Lib.hid ho
    refine hK.out _ _ hS4 (fun hHeld => ?_)
    clear hK K hS4 hat hg kr3 hl3 hb3 hr3 ho kb kr HB HR
    try simp only [List.getElem_toArray, List.getElem_cons_zero, List.getElem_cons_succ, Act.put, List.setIfInBounds_toArray, List.set_cons_zero, List.set_cons_succ]
    refine wpAnyH_ready (rs := [10]) (by kernel_rfl) (by simp) (AllReadyH.cons rfl (fun K hK => ?_) AllReadyH.nil)
    rw [if_pos (by rfl)]
    refine wp_append_lies _ _ _ 22 rfl w.heap.size 59 i0 (aggR ⟨0, 0, 0, ⟨0, 0, 0, 0⟩⟩) 7 56 Tryd.underlying22 hi hz0 hz1 hz2 rfl (by omega) (.slice (some ⟨g, 0, none⟩) n cap) n (cellsN l) rfl OWN.out ⟨w.heap.size + 2, 0, none⟩ 1 1 #[.int .i64 k, .int .u64 0, .int .u64 0, .int .u64 0, .int .u64 0, .int .i64 ((n - 1 : Nat) : Int), .int .i64 0].toList rfl rfl (World.news_of_block LITB.out) (by simp [Value.oneCell']) (by omega) (by simp only [maxLen]; omega) (by omega) HB3.out.size _ rfl ?_
    intro g2 cap2 w6 ho2 hg2 hat2 hlt2
    have kr6 := (hg2.block (w.heap.size + 1) (Array.getElem?_eq_some_iff.1 KR.out).1 (fun e => GNE.out (Option.some.inj (show some g = some (w.heap.size + 1) from e.symm)))).trans KR.out
    have hS6 := (hg2.block w.heap.size (Array.getElem?_eq_some_iff.1 hHeld).1 (fun e => GNE0.out (Option.some.inj (show some g = some w.heap.size from e.symm)))).trans hHeld
    have hb6 := bl_grown HB3.out hg2 (fun j e => by cases e; exact GGE.out)
    refine hK.out _ _ hS6 (fun hHeld => ?_)
    clear hK K hS6
    try simp only [List.getElem_toArray, List.getElem_cons_zero, List.getElem_cons_succ, Act.put, List.setIfInBounds_toArray, List.set_cons_zero, List.set_cons_succ]
    refine wpAnyH_take (i := 11) (v := ?vzc11) rfl (by kernel_rfl) (by kernel_rfl) (by kernel_rfl) (fun _ _ _ h => h) (Or.inl ⟨by rfl, ?yzc11⟩) hHeld ?rzc11
    case yzc11 => (intro wS hSw; clear hSw; go_simp; try (with_reducible rfl))
    try simp only [List.getElem_toArray, List.getElem_cons_zero, List.getElem_cons_succ, Act.put, List.setIfInBounds_toArray, List.set_cons_zero, List.set_cons_succ]
    refine wpAnyH_ready (rs := [12]) (by kernel_rfl) (by simp) (AllReadyH.cons rfl (fun K hK => ?_) AllReadyH.nil)
    rw [if_pos (by rfl)]
    refine wp_store_row 24 _ _ rfl (w.heap.size + 1) _ rfl rfl 24 _ kr6 (by rw [size_rex]; rfl) (by rfl) (by simp [Value.oneCell']) ?_
    have hS7 := (setRow_other w6 (w.heap.size + 1) w.heap.size #[.slice (some ⟨g2, 0, none⟩) (n + 1) cap2] (by omega)).trans hHeld
    have kr7 := setRow_heap w6 (w.heap.size + 1) _ #[.slice (some ⟨g2, 0, none⟩) (n + 1) cap2] _ _ kr6
    have hb7 := bl_setRow hb6 (g := w.heap.size + 1) (by omega) #[.slice (some ⟨g2, 0, none⟩) (n + 1) cap2]
    refine hK.out _ _ hS7 (fun hHeld => ?_)
    clear hK K hS7 hHeld
    refine wpAnyH_done (by kernel_rfl) ?_ _
    have hgne : g2 ≠ w.heap.size + 1 := by
      rcases hat2 with e | e
      · exact fun e2 => GNE.out (by have : g = g2 := by simpa [Value.ownBlock] using e
                                    omega)
      · have := (Array.getElem?_eq_some_iff.1 KR.out).1
        omega
    have ho3 : OwnR w6 w.heap.size (.slice (some ⟨g2, 0, none⟩) (n + 1) cap2) (l ++ [⟨k, ((n - 1 : Nat) : Int), 0, nilS⟩]) := ownR_append HN.out [⟨k, ((n - 1 : Nat) : Int), 0, nilS⟩] rfl ho2
    have ho7 : OwnR (w6.setRow (w.heap.size + 1) #[.slice (some ⟨g2, 0, none⟩) (n + 1) cap2]) w.heap.size (.slice (some ⟨g2, 0, none⟩) (n + 1) cap2) (l ++ [⟨k, ((n - 1 : Nat) : Int), 0, nilS⟩]) :=
      World.ownsRow.kept (row := some (w.heap.size + 1)) ho3 ⟨rfl, rfl, rfl, by simp, fun j hj hne => setRow_other _ _ _ _ (fun e => hne (by rw [e]))⟩ (Or.inr (fun e => hgne (Option.some.inj e)))
    have HB7 := Lib.hid hb7
    have HO7 := Lib.hid ho7
    have KR7 := Lib.hid kr7
    clear hb7 ho7 kr7 ho3 hb6 kr6 ho2 hg2 hat2 hlt2
    go_wp2_with fail
    refine bodyPost_ret (v := .agg #[.slice (some ⟨g2, 0, none⟩) (n + 1) cap2]) (results_cell_row rfl _ _ (w.heap.size + 1) 24 _ (0, 0) _ rfl KR7.out Tryd.underlying24 rfl (by rw [size_rex]; rfl)) rfl (post_is HQ ?_)
    exact ⟨_, rfl, HO7.out, HB7.out⟩

end Go.Proofs.YteedmkokbapkgaaDoor
