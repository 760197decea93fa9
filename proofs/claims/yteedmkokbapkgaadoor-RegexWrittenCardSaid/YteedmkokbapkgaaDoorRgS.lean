/- note: what may follow is noted. Under: math/bits' table as it was laid. -/
import Derived.Test.YteedmkokbapkgaaDoorRgQ
set_option linter.unusedVariables false
set_option linter.unusedSimpArgs false
namespace Go.Proofs.YteedmkokbapkgaaDoor
open Go.RowKit Go.Shelf
attribute [local go_sem] Oper.semAt_some

theorem func_nil (B : Nat) (w : World) : (binOp .eql 92 (.func (.func 84) #[] #[.pointer (some ⟨B, 0, none⟩)]) .nilFunc).run Tryd.prog w = .ok (.bool false) w := by kernel_rfl
theorem elems_le' (f : Nat → BitVec 64) : (elems f).length ≤ 256 := by
  unfold elems
  have := List.length_filter_le (has f) (List.range 256)
  simpa using this

/-- What a step of the loop's iterator leaves of a world that is known but for one block. -/
theorem abT_grown {n q : Nat} {w0 : World} (h0 : n = w0.heap.size) : AbT n (fun _ W => w0.grownBy W (some q)) := fun k A B row h hg hr => by
  refine ⟨hg.os.trans h.os, hg.tape.trans h.tape, hg.output.trans h.output, Nat.le_trans h.size hg.size, fun i hi hne => ?_⟩
  have hiA : i < A.heap.size := Nat.lt_of_lt_of_le hi h.size
  refine (hg.block i hiA (fun e => ?_)).trans (h.block i hi hne)
  have := (hr i e.symm).1
  omega
theorem abT_block {n q : Nat} {X : Nat → Obj} (hq : q < n) : AbT n (fun k W => W.heap[q]? = some (X k)) := fun k A B row h hg hr => by
  refine (hg.block q (Array.getElem?_eq_some_iff.1 h).1 (fun e => ?_)).trans h
  have := (hr q e.symm).1
  omega
theorem body_end {n0 m r : Nat} {W W' : World} {cs : Array Value} {ty : TypeId} (hg : W.grownBy W' (some r)) (hc : W.heap[r]? = some (.cells cs ty (0, 0))) (h1 : n0 ≤ r) (h2 : r < m) (h3 : n0 ≤ W.heap.size) : KeepsOthers W W' ∧ KpT n0 m W W' := by
  refine ⟨KeepsOthers.of_grownBy hg (fun j o e ho => ?_), ⟨(Below.refl n0 W).grown hg h3 (fun k e => by cases e; exact h1), fun i hi hs => ?_⟩⟩
  · cases e
    rw [hc] at ho
    cases ho
    rfl
  · obtain ⟨cs2, e⟩ := hs
    exact hg.block i (Array.getElem?_eq_some_iff.1 e).1 (fun e2 => by cases e2; omega)
theorem elems_at (s : S4) (k : Nat) (h : k < (finL (elems s.f)).length) : ∃ p, (((finL (elems s.f))[k]).1 : Nat) = p ∧ p < 256 ∧ hasS s p = true ∧ (elems s.f).take (k + 1) = (elems s.f).take k ++ [p] := by
  have h2 : k < (elems s.f).length := by rw [← finL_len]; exact h
  have hm := List.getElem_mem h2
  have hlt := elems_lt s.f _ hm
  refine ⟨(elems s.f)[k], ?_, hlt, ((mem_elems s.f _).1 hm).2, ?_⟩
  · simp only [finL, finB, List.getElem_map]
    omega
  · rw [List.take_add_one]
    simp [h2]

/-- The first k of a set's places are noted. -/
def noteK (B : Nat → S4) (s those : S4) (k : Nat) : Nat → S4 := fun p => if p ∈ (elems s.f).take k then orS (B p) those else B p

set_option maxRecDepth 100000 in
set_option maxHeartbeats 4000000 in
theorem note_any (C q N : Nat) (B : Nat → S4) (s those : S4) (w : World) (hT : Tab w) (hTb : 0 < q) (hc : w.cell? ⟨C, 10, none⟩ = some (.slice (some ⟨q, 0, none⟩) N N)) (hC : C ≠ q) (hB : HB w q N B) (hN : N ≤ 256) (hs : ∀ p, p < 256 → hasS s p = true → p < N) :
    Calls Tryd.prog 67 #[.pointer (some ⟨C, 0, none⟩), encS s, encS those] w fun e w' => e = .returned (.tuple #[]) ∧ HB w' q N (noteS B s those) ∧ w.grownBy w' (some q) := by
  refine (callsIn_wide (n := 4)).1 ?_
  show CallsIn Fence.wide 4 Tryd.prog 67 #[.pointer (some ⟨C, 0, none⟩), .agg (row4 s.f), .agg (row4 those.f)] w _
  refine callsIn_of_wp_marks Tryd.func67 rfl trivial ?_ rfl
  simp only [Tryd.ntmps67, List.size_toArray, List.length_cons, List.length_nil, Nat.reduceAdd, Nat.reduceSub, Array.replicate_succ, Array.replicate_zero, List.push_toArray, List.append_toArray, List.nil_append, List.cons_append]
  have hfn := fun (B : Nat) (W : World) => func_nil B W
  have b1 := bl_alloc (bl_alloc (bl_alloc (Below.refl w.heap.size w) (.cells #[.pointer (some ⟨C, 0, none⟩)] 113)) (.cells (row4 s.f) 57)) (.cells (row4 those.f) 57)
  have HA : Hid (H4 (((w.alloc (.cells #[.pointer (some ⟨C, 0, none⟩)] 113)).alloc (.cells (row4 s.f) 57)).alloc (.cells (row4 those.f) 57)) (w.heap.size + 1) s.f) := Lib.hid ((H4.new1 w _ s.f).alloc _)
  gi_wp2_with (first
    | (refine wpListIn_load_row rfl 57 _ rfl (w.heap.size + 1) rfl _ _ (0, 0) _ HA.out Tryd.underlying57 rfl (by rw [size4, row4_size]) ?_)
    | (refine ⟨trivial, ?_⟩; gi_at_call 69; refine (callsIn_wide.2 (all_make s.f _)).mono ?_; rintro e w' ⟨rfl, rfl⟩))
  clear hfn
  have hX := H4.new (((w.alloc (.cells #[.pointer (some ⟨C, 0, none⟩)] 113)).alloc (.cells (row4 s.f) 57)).alloc (.cells (row4 those.f) 57)) s.f
  have hB0 := bl_alloc b1 (.cells (row4 s.f) 57)
  have hE := (H4.new2 w (.cells #[.pointer (some ⟨C, 0, none⟩)] 113) (.cells (row4 s.f) 57) those.f).alloc (.cells (row4 s.f) 57)
  have hP : ((((w.alloc (.cells #[.pointer (some ⟨C, 0, none⟩)] 113)).alloc (.cells (row4 s.f) 57)).alloc (.cells (row4 those.f) 57)).alloc (.cells (row4 s.f) 57)).heap[w.heap.size]? = some (.cells #[.pointer (some ⟨C, 0, none⟩)] 113 (0, 0)) := by
    rw [Below.heap_alloc _ _ _ (by simp; omega), Below.heap_alloc _ _ _ (by simp; omega), Below.heap_alloc _ _ _ (by simp)]
    exact heap_alloc_new w _
  simp only [World.size_alloc] at hX
  have hT4 := hT.below hB0
  have hq0 := hB.lt
  have hC0 : C < w.heap.size := World.block_lt_of_cell? w _ hc
  have hs4 : ((((w.alloc (.cells #[.pointer (some ⟨C, 0, none⟩)] 113)).alloc (.cells (row4 s.f) 57)).alloc (.cells (row4 those.f) 57)).alloc (.cells (row4 s.f) 57)).heap.size = w.heap.size + 4 := by simp
  have hBq := hB.below hB0
  have hcC : ((((w.alloc (.cells #[.pointer (some ⟨C, 0, none⟩)] 113)).alloc (.cells (row4 s.f) 57)).alloc (.cells (row4 those.f) 57)).alloc (.cells (row4 s.f) 57)).heap[C]? = w.heap[C]? := hB0.block C hC0
  have hCb : ∃ o, w.heap[C]? = some o := ⟨_, Array.getElem?_eq_getElem hC0⟩
  obtain ⟨oC, hCb⟩ := hCb
  have hCC : ∀ W : World, W.heap[C]? = some oC → W.cell? ⟨C, 10, none⟩ = some (.slice (some ⟨q, 0, none⟩) N N) := fun W h => by
    rw [← hc]
    simp [World.cell?, h, hCb]
  rw [hCb] at hcC
  clear HA b1
  generalize (((w.alloc (.cells #[.pointer (some ⟨C, 0, none⟩)] 113)).alloc (.cells (row4 s.f) 57)).alloc (.cells (row4 those.f) 57)).alloc (.cells (row4 s.f) 57) = W0 at *
  refine wp_told (n := 4) (by omega) (gf := 84) (lb := #[.pointer (some ⟨w.heap.size + 1 + 1 + 1, 0, none⟩)]) rfl (enters_of Tryd.func84 (by kernel_rfl) rfl)
    (all_tell 3 (w.heap.size + 1 + 1 + 1) q s.f (by omega) W0 (by omega) hX hT4 hTb) (Below.refl _ _) (by omega) rfl
    (fun k W => HB W q N (noteK B s those k) ∧ W0.grownBy W (some q)) (fun _ _ _ => False)
    (AbT.and (abT_block (X := fun k => .cells (rowBh N (noteK B s those k)).toArray 57 (0, 0)) (by omega)) (abT_grown rfl)) (fun _ _ _ _ _ hs _ _ => hs)
    ⟨by unfold HB; rw [rowBh_congr (B' := B) (fun p _ => by simp [noteK])]; exact hBq, ⟨rfl, rfl, rfl, Nat.le_refl _, fun i _ _ => rfl⟩⟩
    (fun x => { tmps := #[.pointer (some ⟨C, 0, none⟩), .agg (row4 s.f), .agg (row4 those.f), .pointer (some ⟨w.heap.size, 0, none⟩), .pointer (some ⟨w.heap.size + 1, 0, none⟩), .pointer (some ⟨w.heap.size + 1 + 1, 0, none⟩), .int .u8 (x.1 : Int), .agg (row4 s.f),
      .func (.func 84) #[] #[.pointer (some ⟨w.heap.size + 1 + 1 + 1, 0, none⟩)], .int .u8 (x.1 : Int), undef, undef, undef, undef, undef, undef, undef, undef, undef, undef, undef, undef, undef, undef, undef], defers := [] }) ?assign ?body ?done ?stop
  case assign =>
    intro l x W K hK
    unfold encB
    gi_wp2
    exact hK
  case body =>
    rintro l k hk W ⟨hBk, hG⟩
    obtain ⟨p, hp, hp256, hps, htk⟩ := elems_at s k hk
    rw [hp]
    have hpN := hs p hp256 hps
    have hPk := (hG.block w.heap.size (by omega) (by simp; omega)).trans hP
    have hEk : HS W (w.heap.size + 1 + 1) those := (hG.block (w.heap.size + 1 + 1) (by omega) (by simp; omega)).trans hE
    have hCk := (hG.block C (by omega) (by simpa using hC)).trans hcC
    have hold : noteK B s those k p = B p := by
      unfold noteK
      rw [if_neg]
      intro h
      have h2 := elems_rise s.f
      have hk2 : k < (elems s.f).length := by rw [← finL_len]; exact hk
      have h3 : ((elems s.f).take (k + 1)).Pairwise (· < ·) := h2.sublist (List.take_sublist _ _)
      rw [htk, List.pairwise_append] at h3
      have := h3.2.2 p h p (by simp)
      omega
    have hnew : rowBh N (updS (noteK B s those k) p (orS (B p) those)) = rowBh N (noteK B s those (k + 1)) := rowBh_congr fun j _ => by
      unfold updS noteK
      rw [htk]
      by_cases e : j = p
      · subst e; rw [if_pos rfl, if_pos (by simp)]
      · rw [if_neg e]
        simp [e]
    have HOLD := Lib.hid hold
    have HNEW := Lib.hid hnew
    have HTK := Lib.hid htk
    have hWq := hBk.lt
    have hWs := hG.size
    have HBk := Lib.hid hBk
    have HG := Lib.hid hG
    clear hold hnew htk hp hBk hG hT4 hX hP hE hcC hBq
    gi_wp2_with fail
    refine region_round (S := fun W' => W'.heap[w.heap.size]? = some (.cells #[.pointer (some ⟨C, 0, none⟩)] 113 (0, 0)) ∧ W'.heap[C]? = some oC ∧ HS W' (w.heap.size + 1 + 1) those ∧ W.grownBy W' (some q)) (by kernel_rfl) (by kernel_rfl) (fun ⟨a, w, h⟩ => h.elim) ⟨hPk, hCk, hEk, grown_of_below (bl_drewN (Below.refl W.heap.size W) 1) (some q)⟩ (fun hHeld => ?_)
    have hBd : HB W.drew q N (noteK B s those k) := HBk.out
    clear hPk hCk hEk
    try simp only [List.getElem_toArray, List.getElem_cons_zero, List.getElem_cons_succ, Act.put, List.setIfInBounds_toArray, List.set_cons_zero, List.set_cons_succ]
    refine wpAnyH_take (i := 0) (v := ?vzn0) rfl (by kernel_rfl) (by kernel_rfl) (by kernel_rfl) (fun _ _ _ h => h) (Or.inl ⟨by rfl, ?yzn0⟩) hHeld ?rzn0
    case yzn0 => (intro wS hSw; have q0 := cell_of_row wS w.heap.size 0 _ _ _ hSw.1; have q1 := hCC wS hSw.2.1; clear hSw; go_simp; try (with_reducible rfl))
    try simp only [List.getElem_toArray, List.getElem_cons_zero, List.getElem_cons_succ, Act.put, List.setIfInBounds_toArray, List.set_cons_zero, List.set_cons_succ]
    refine wpAnyH_take (i := 1) (v := ?vzn1) rfl (by kernel_rfl) (by kernel_rfl) (by kernel_rfl) (fun _ _ _ h => h) (Or.inl ⟨by rfl, ?yzn1⟩) hHeld ?rzn1
    case yzn1 => (intro wS hSw; clear hSw; go_simp; try (with_reducible rfl))
    try simp only [List.getElem_toArray, List.getElem_cons_zero, List.getElem_cons_succ, Act.put, List.setIfInBounds_toArray, List.set_cons_zero, List.set_cons_succ]
    refine wpAnyH_take (i := 2) (v := ?vzn2) rfl (by kernel_rfl) (by kernel_rfl) (by kernel_rfl) (fun _ _ _ h => h) (Or.inl ⟨by rfl, ?yzn2⟩) hHeld ?rzn2
    case yzn2 => (intro wS hSw; clear hSw; go_simp; try (with_reducible rfl))
    try simp only [List.getElem_toArray, List.getElem_cons_zero, List.getElem_cons_succ, Act.put, List.setIfInBounds_toArray, List.set_cons_zero, List.set_cons_succ]
    refine wpAnyH_take (i := 3) (v := ?vzn3) rfl (by kernel_rfl) (by kernel_rfl) (by kernel_rfl) (fun _ _ _ h => h) (Or.inl ⟨by rfl, ?yzn3⟩) hHeld ?rzn3
    case yzn3 => (intro wS hSw; have q0 := cell_of_row wS w.heap.size 0 _ _ _ hSw.1; have q1 := hCC wS hSw.2.1; clear hSw; go_simp; try (with_reducible rfl))
    try simp only [List.getElem_toArray, List.getElem_cons_zero, List.getElem_cons_succ, Act.put, List.setIfInBounds_toArray, List.set_cons_zero, List.set_cons_succ]
    refine wpAnyH_take (i := 4) (v := ?vzn4) rfl (by kernel_rfl) (by kernel_rfl) (by kernel_rfl) (fun _ _ _ h => h) (Or.inl ⟨by rfl, ?yzn4⟩) hHeld ?rzn4
    case yzn4 => (intro wS hSw; clear hSw; go_simp; try (with_reducible rfl))
    try simp only [List.getElem_toArray, List.getElem_cons_zero, List.getElem_cons_succ, Act.put, List.setIfInBounds_toArray, List.set_cons_zero, List.set_cons_succ]
    refine wpAnyH_take (i := 5) (v := ?vzn5) rfl (by kernel_rfl) (by kernel_rfl) (by kernel_rfl) (fun _ _ _ h => h) (Or.inl ⟨by rfl, ?yzn5⟩) hHeld ?rzn5
    case yzn5 => (intro wS hSw; have q0 := cell_of_row wS w.heap.size 0 _ _ _ hSw.1; have q1 := hCC wS hSw.2.1; clear hSw; go_simp; try (with_reducible rfl))
    try simp only [List.getElem_toArray, List.getElem_cons_zero, List.getElem_cons_succ, Act.put, List.setIfInBounds_toArray, List.set_cons_zero, List.set_cons_succ]
    refine wpAnyH_take (i := 6) (v := ?vzn6) rfl (by kernel_rfl) (by kernel_rfl) (by kernel_rfl) (fun _ _ _ h => h) (Or.inl ⟨by rfl, ?yzn6⟩) hHeld ?rzn6
    case yzn6 => (intro wS hSw; clear hSw; go_simp; try (with_reducible rfl))
    try simp only [List.getElem_toArray, List.getElem_cons_zero, List.getElem_cons_succ, Act.put, List.setIfInBounds_toArray, List.set_cons_zero, List.set_cons_succ]
    refine wpAnyH_take (i := 7) (v := ?vzn7) rfl (by kernel_rfl) (by kernel_rfl) (by kernel_rfl) (fun _ _ _ h => h) (Or.inl ⟨by rfl, ?yzn7⟩) hHeld ?rzn7
    case yzn7 => (intro wS hSw; clear hSw; go_simp; try (with_reducible rfl))
    try simp only [List.getElem_toArray, List.getElem_cons_zero, List.getElem_cons_succ, Act.put, List.setIfInBounds_toArray, List.set_cons_zero, List.set_cons_succ]
    refine wpAnyH_take (i := 8) (v := ?vzn8) rfl (by kernel_rfl) (by kernel_rfl) (by kernel_rfl) (fun _ _ _ h => h) (Or.inl ⟨by rfl, ?yzn8⟩) hHeld ?rzn8
    case yzn8 => (intro wS hSw; have q0 := cell_of_row wS w.heap.size 0 _ _ _ hSw.1; have q1 := hCC wS hSw.2.1; clear hSw; go_simp; try (with_reducible rfl))
    try simp only [List.getElem_toArray, List.getElem_cons_zero, List.getElem_cons_succ, Act.put, List.setIfInBounds_toArray, List.set_cons_zero, List.set_cons_succ]
    refine wpAnyH_take (i := 9) (v := ?vzn9) rfl (by kernel_rfl) (by kernel_rfl) (by kernel_rfl) (fun _ _ _ h => h) (Or.inl ⟨by rfl, ?yzn9⟩) hHeld ?rzn9
    case yzn9 => (intro wS hSw; clear hSw; go_simp; try (with_reducible rfl))
    try simp only [List.getElem_toArray, List.getElem_cons_zero, List.getElem_cons_succ, Act.put, List.setIfInBounds_toArray, List.set_cons_zero, List.set_cons_succ]
    refine wpAnyH_take (i := 10) (v := ?vzn10) rfl (by kernel_rfl) (by kernel_rfl) (by kernel_rfl) (fun _ _ _ h => h) (Or.inl ⟨by rfl, ?yzn10⟩) hHeld ?rzn10
    case yzn10 => (intro wS hSw; clear hSw; go_simp; try (with_reducible rfl))
    try simp only [List.getElem_toArray, List.getElem_cons_zero, List.getElem_cons_succ, Act.put, List.setIfInBounds_toArray, List.set_cons_zero, List.set_cons_succ]
    refine wpAnyH_take (i := 12) (v := encS those) rfl (by kernel_rfl) (by kernel_rfl) (by kernel_rfl) (fun _ _ _ h => h) (yields_set (by rfl) (.tmp 5) rfl (w.heap.size + 1 + 1) rfl those.f (fun _ h => h.2.2.1)) hHeld ?_
    try simp only [List.getElem_toArray, List.getElem_cons_zero, List.getElem_cons_succ, Act.put, List.setIfInBounds_toArray, List.set_cons_zero, List.set_cons_succ]
    refine wpAnyH_ready (rs := [11]) (by kernel_rfl) (by simp) (AllReadyH.cons rfl (fun K hK => ?_) AllReadyH.nil)
    rw [if_pos (by rfl)]
    refine wp_load_agg 57 4 _ rfl ⟨q, p * 4, none⟩ ?ev11 _ (agg_set _) (size_set _) rfl (hBd.cells hpN) ?_
    case ev11 => rfl
    rw [HOLD.out]
    refine hK.out _ _ hHeld (fun hHeld => ?_)
    clear hK K
    try simp only [List.getElem_toArray, List.getElem_cons_zero, List.getElem_cons_succ, Act.put, List.setIfInBounds_toArray, List.set_cons_zero, List.set_cons_succ]
    refine wpAnyH_ready (rs := [13]) (by kernel_rfl) (by simp) (AllReadyH.cons rfl (fun K hK => ?_) AllReadyH.nil)
    go_simp
    go_at_call 68
    refine (union_is (B p) those _).mono ?_
    rintro e w3 ⟨rfl, hb3⟩
    have hB3 := hBd.below hb3
    have hS1 := And.intro ((hb3.block _ (Array.getElem?_eq_some_iff.1 hHeld.1).1).trans hHeld.1) (And.intro ((hb3.block C (Array.getElem?_eq_some_iff.1 hHeld.2.1).1).trans hHeld.2.1) (And.intro (hHeld.2.2.1.below hb3) (hHeld.2.2.2.trans (grown_of_below hb3 (some q)))))
    have HB3 := Lib.hid hB3
    clear hHeld hb3 hBd hB3
    go_wp2_with fail
    refine hK.out _ _ hS1 (fun hHeld => ?_)
    clear hK K hS1
    try simp only [List.getElem_toArray, List.getElem_cons_zero, List.getElem_cons_succ, Act.put, List.setIfInBounds_toArray, List.set_cons_zero, List.set_cons_succ]
    refine wpAnyH_take (i := 14) (v := ?vzn14) rfl (by kernel_rfl) (by kernel_rfl) (by kernel_rfl) (fun _ _ _ h => h) (Or.inl ⟨by rfl, ?yzn14⟩) hHeld ?rzn14
    case yzn14 => (intro wS hSw; clear hSw; go_simp; try (with_reducible rfl))
    try simp only [List.getElem_toArray, List.getElem_cons_zero, List.getElem_cons_succ, Act.put, List.setIfInBounds_toArray, List.set_cons_zero, List.set_cons_succ]
    refine wpAnyH_ready (rs := [15]) (by kernel_rfl) (by simp) (AllReadyH.cons rfl (fun K hK => ?_) AllReadyH.nil)
    rw [if_pos (by rfl)]
    refine wp_store_mid 57 _ _ rfl q (p * 4) ?ev15 (setCells (orS (B p) those)) rfl 57 _ HB3.out info_set (by rw [rowBh_len]; simp [setCells]; omega) (oneCells _) ?_
    case ev15 => rfl
    rw [rowBh_upd _ _ _ _ hpN, HNEW.out]
    have hne0 : w.heap.size ≠ q := by omega
    have hne5 : w.heap.size + 1 + 1 ≠ q := by omega
    have hrow := setRow_heap _ q _ (rowBh N (noteK B s those (k + 1))).toArray _ _ HB3.out
    have hgr : w3.grownBy (w3.setRow q (rowBh N (noteK B s those (k + 1))).toArray) (some q) := ⟨rfl, rfl, rfl, by simp, fun i _ hi => setRow_other _ _ _ _ (fun e => hi (by rw [e]))⟩
    have hS2 : (w3.setRow q (rowBh N (noteK B s those (k + 1))).toArray).heap[w.heap.size]? = some (.cells #[.pointer (some ⟨C, 0, none⟩)] 113 (0, 0)) ∧ (w3.setRow q (rowBh N (noteK B s those (k + 1))).toArray).heap[C]? = some oC ∧ HS (w3.setRow q (rowBh N (noteK B s those (k + 1))).toArray) (w.heap.size + 1 + 1) those ∧ W.grownBy (w3.setRow q (rowBh N (noteK B s those (k + 1))).toArray) (some q) :=
      ⟨(setRow_other w3 q _ _ hne0).trans hHeld.1, (setRow_other w3 q _ _ hC).trans hHeld.2.1, (setRow_other w3 q _ _ hne5).trans hHeld.2.2.1, hHeld.2.2.2.trans hgr⟩
    refine hK.out _ _ hS2 (fun hHeld2 => ?_)
    clear hK K
    refine wpAnyH_done (by kernel_rfl) ?_ _
    have hbe := body_end (n0 := q) (m := W0.heap.size) (W := W) hHeld2.2.2.2 HBk.out (Nat.le_refl _) (by omega) (by omega)
    exact ⟨hbe.1, hbe.2, hrow, HG.out.trans hHeld2.2.2.2⟩
  case done =>
    rintro D W hD ⟨hBk, hG⟩ hK
    have hfull : rowBh N (noteK B s those (finL (elems s.f)).length) = rowBh N (noteS B s those) := rowBh_congr fun j hj => by
      unfold noteK noteS
      rw [finL_len, List.take_length]
      by_cases h : hasS s j = true
      · rw [if_pos ((mem_elems s.f j).2 ⟨by omega, h⟩), if_pos h]
      · rw [if_neg (fun e => h ((mem_elems s.f j).1 e).2), if_neg h]
    unfold HB at hBk
    rw [hfull] at hBk
    gi_wp2
    refine ⟨by simp, .inl ⟨_, _, rfl, run_takeDeferred hK, ?_⟩⟩
    refine ⟨.tuple #[], by simp [results, Tryd.results67], rfl, (World.putObj_heap_other (by omega)).trans hBk, ?_⟩
    have hg2 := (grown_of_below hB0 (some q)).trans hG
    refine ⟨hg2.os, hg2.tape, hg2.output, by have := hg2.size; simpa using this, fun i hi hne => ?_⟩
    exact (World.putObj_heap_other (by omega)).trans (hg2.block i hi hne)
  case stop =>
    rintro D c k W _ _ h _
    exact h.elim

end Go.Proofs.YteedmkokbapkgaaDoor
