/- note: what may follow is noted. Under: math/bits' table as it was laid. -/
import Derived.Test.YtjibfffefppniaaGreatDoorRgQM
set_option linter.unusedVariables false
set_option linter.unusedSimpArgs false
namespace Go.Proofs.YtjibfffefppniaaGreatDoor
open Go.RowKit Go.Shelf
attribute [local go_sem] Oper.semAt_some

theorem func_nil (B : Nat) (w : World) : (binOp .eql 115 (.func (.func 65) #[] #[.pointer (some ⟨B, 0, none⟩)]) .nilFunc).run Tryz.prog w = .ok (.bool false) w := by kernel_rfl
theorem elems_le' (f : Nat → BitVec 64) : (elems f).length ≤ 256 := by
  unfold elems
  have := List.length_filter_le (has f) (List.range 256)
  simpa using this

/-- What a step of the loop's iterator leaves of a world that is known but for one block. -/
theorem abT_grown {n q : Nat} {w0 : World} (h0 : n = w0.heap.size) : AbT n (fun _ W => w0.grownBy W (some q)) := fun k A B row h hg hr => by
  refine ⟨hg.os.trans h.os, hg.tape.trans h.tape, hg.output.trans h.output, Nat.le_trans h.size hg.size, fun i hi hne => ?_⟩
  have hiA : i < A.heap.size := Nat.lt_of_lt_of_le hi h.size
  refine (hg.block i hiA (fun e => ?_)).trans (h.block i hi hne)
  have := (hr i e.symm).1
  omega
theorem abT_block {n q : Nat} {X : Nat → Obj} (hq : q < n) : AbT n (fun k W => W.heap[q]? = some (X k)) := fun k A B row h hg hr => by
  refine (hg.block q (Array.getElem?_eq_some_iff.1 h).1 (fun e => ?_)).trans h
  have := (hr q e.symm).1
  omega
theorem body_end {n0 m r : Nat} {W W' : World} {cs : Array Value} {ty : TypeId} (hg : W.grownBy W' (some r)) (hc : W.heap[r]? = some (.cells cs ty (0, 0))) (h1 : n0 ≤ r) (h2 : r < m) (h3 : n0 ≤ W.heap.size) : KeepsOthers W W' ∧ KpT n0 m W W' := by
  refine ⟨KeepsOthers.of_grownBy hg (fun j o e ho => ?_), ⟨(Below.refl n0 W).grown hg h3 (fun k e => by cases e; exact h1), fun i hi hs => ?_⟩⟩
  · cases e
    rw [hc] at ho
    cases ho
    rfl
  · obtain ⟨cs2, e⟩ := hs
    exact hg.block i (Array.getElem?_eq_some_iff.1 e).1 (fun e2 => by cases e2; omega)
theorem elems_at (s : S4) (k : Nat) (h : k < (finL (elems s.f)).length) : ∃ p, (((finL (elems s.f))[k]).1 : Nat) = p ∧ p < 256 ∧ hasS s p = true ∧ (elems s.f).take (k + 1) = (elems s.f).take k ++ [p] := by
  have h2 : k < (elems s.f).length := by rw [← finL_len]; exact h
  have hm := List.getElem_mem h2
  have hlt := elems_lt s.f _ hm
  refine ⟨(elems s.f)[k], ?_, hlt, ((mem_elems s.f _).1 hm).2, ?_⟩
  · simp only [finL, finB, List.getElem_map]
    omega
  · rw [List.take_add_one]
    simp [h2]

/-- The first k of a set's places are noted. -/
def noteK (B : Nat → S4) (s those : S4) (k : Nat) : Nat → S4 := fun p => if p ∈ (elems s.f).take k then orS (B p) those else B p

set_option maxRecDepth 100000 in
set_option maxHeartbeats 4000000 in
theorem note_any (C q N : Nat) (B : Nat → S4) (s those : S4) (w : World) (hT : Tab w) (hTb : 0 < q) (hc : w.cell? ⟨C, 10, none⟩ = some (.slice (some ⟨q, 0, none⟩) N N)) (hC : C ≠ q) (hB : HB w q N B) (hN : N ≤ 256) (hs : ∀ p, p < 256 → hasS s p = true → p < N) :
    Calls Tryz.prog 57 #[.pointer (some ⟨C, 0, none⟩), encS s, encS those] w fun e w' => e = .returned (.tuple #[]) ∧ HB w' q N (noteS B s those) ∧ w.grownBy w' (some q) := by
  refine (callsIn_wide (n := 4)).1 ?_
  show CallsIn Fence.wide 4 Tryz.prog 57 #[.pointer (some ⟨C, 0, none⟩), .agg (row4 s.f), .agg (row4 those.f)] w _
  refine callsIn_of_wp_marks Tryz.func57 rfl trivial ?_ rfl
  simp only [Tryz.ntmps57, List.size_toArray, List.length_cons, List.length_nil, Nat.reduceAdd, Nat.reduceSub, Array.replicate_succ, Array.replicate_zero, List.push_toArray, List.append_toArray, List.nil_append, List.cons_append]
  have hfn := fun (B : Nat) (W : World) => func_nil B W
  have b1 := bl_alloc (bl_alloc (bl_alloc (Below.refl w.heap.size w) (.cells #[.pointer (some ⟨C, 0, none⟩)] 111)) (.cells (row4 s.f) 59)) (.cells (row4 those.f) 59)
  have HA : Hid (H4 (((w.alloc (.cells #[.pointer (some ⟨C, 0, none⟩)] 111)).alloc (.cells (row4 s.f) 59)).alloc (.cells (row4 those.f) 59)) (w.heap.size + 1) s.f) := Lib.hid ((H4.new1 w _ s.f).alloc _)
  gi_wp2_with (first
    | (refine wpListIn_load_row rfl 59 _ rfl (w.heap.size + 1) rfl _ _ (0, 0) _ HA.out Tryz.underlying59 rfl (by rw [size4, row4_size]) ?_)
    | (refine ⟨trivial, ?_⟩; gi_at_call 59; refine (callsIn_wide.2 (all_make s.f _)).mono ?_; rintro e w' ⟨rfl, rfl⟩))
  clear hfn
  have hX := H4.new (((w.alloc (.cells #[.pointer (some ⟨C, 0, none⟩)] 111)).alloc (.cells (row4 s.f) 59)).alloc (.cells (row4 those.f) 59)) s.f
  have hB0 := bl_alloc b1 (.cells (row4 s.f) 59)
  have hE := (H4.new2 w (.cells #[.pointer (some ⟨C, 0, none⟩)] 111) (.cells (row4 s.f) 59) those.f).alloc (.cells (row4 s.f) 59)
  have hP : ((((w.alloc (.cells #[.pointer (some ⟨C, 0, none⟩)] 111)).alloc (.cells (row4 s.f) 59)).alloc (.cells (row4 those.f) 59)).alloc (.cells (row4 s.f) 59)).heap[w.heap.size]? = some (.cells #[.pointer (some ⟨C, 0, none⟩)] 111 (0, 0)) := by
    rw [Below.heap_alloc _ _ _ (by simp; omega), Below.heap_alloc _ _ _ (by simp; omega), Below.heap_alloc _ _ _ (by simp)]
    exact heap_alloc_new w _
  simp only [World.size_alloc] at hX
  have hT4 := hT.below hB0
  have hq0 := hB.lt
  have hC0 : C < w.heap.size := World.block_lt_of_cell? w _ hc
  have hs4 : ((((w.alloc (.cells #[.pointer (some ⟨C, 0, none⟩)] 111)).alloc (.cells (row4 s.f) 59)).alloc (.cells (row4 those.f) 59)).alloc (.cells (row4 s.f) 59)).heap.size = w.heap.size + 4 := by simp
  have hBq := hB.below hB0
  have hcC : ((((w.alloc (.cells #[.pointer (some ⟨C, 0, none⟩)] 111)).alloc (.cells (row4 s.f) 59)).alloc (.cells (row4 those.f) 59)).alloc (.cells (row4 s.f) 59)).heap[C]? = w.heap[C]? := hB0.block C hC0
  have hCb : ∃ o, w.heap[C]? = some o := ⟨_, Array.getElem?_eq_getElem hC0⟩
  obtain ⟨oC, hCb⟩ := hCb
  have hCC : ∀ W : World, W.heap[C]? = some oC → W.cell? ⟨C, 10, none⟩ = some (.slice (some ⟨q, 0, none⟩) N N) := fun W h => by
    rw [← hc]
    simp [World.cell?, h, hCb]
  rw [hCb] at hcC
  clear HA b1
  generalize (((w.alloc (.cells #[.pointer (some ⟨C, 0, none⟩)] 111)).alloc (.cells (row4 s.f) 59)).alloc (.cells (row4 those.f) 59)).alloc (.cells (row4 s.f) 59) = W0 at *
  refine wp_told (n := 4) (by omega) (gf := 65) (lb := #[.pointer (some ⟨w.heap.size + 1 + 1 + 1, 0, none⟩)]) rfl (enters_of Tryz.func65 (by kernel_rfl) rfl)
    (all_tell 3 (w.heap.size + 1 + 1 + 1) q s.f (by omega) W0 (by omega) hX hT4 hTb) (Below.refl _ _) (by omega) rfl
    (fun k W => HB W q N (noteK B s those k) ∧ W0.grownBy W (some q)) (fun _ _ _ => False)
    (AbT.and (abT_block (X := fun k => .cells (rowBh N (noteK B s those k)).toArray 59 (0, 0)) (by omega)) (abT_grown rfl)) (fun _ _ _ _ _ hs _ _ => hs)
    ⟨by unfold HB; rw [rowBh_congr (B' := B) (fun p _ => by simp [noteK])]; exact hBq, ⟨rfl, rfl, rfl, Nat.le_refl _, fun i _ _ => rfl⟩⟩
    (fun x => { tmps := #[.pointer (some ⟨C, 0, none⟩), .agg (row4 s.f), .agg (row4 those.f), .pointer (some ⟨w.heap.size, 0, none⟩), .pointer (some ⟨w.heap.size + 1, 0, none⟩), .pointer (some ⟨w.heap.size + 1 + 1, 0, none⟩), .int .u8 (x.1 : Int), .agg (row4 s.f),
      .func (.func 65) #[] #[.pointer (some ⟨w.heap.size + 1 + 1 + 1, 0, none⟩)], .int .u8 (x.1 : Int), undef, undef, undef, undef, undef, undef, undef, undef, undef, undef, undef, undef, undef, undef, undef], defers := [] }) ?assign ?body ?done ?stop
  case assign =>
    intro l x W K hK
    unfold encB
    gi_wp2
    exact hK
  case body =>
    rintro l k hk W ⟨hBk, hG⟩
    obtain ⟨p, hp, hp256, hps, htk⟩ := elems_at s k hk
    rw [hp]
    have hpN := hs p hp256 hps
    have hPk := (hG.block w.heap.size (by omega) (by simp; omega)).trans hP
    have hEk : HS W (w.heap.size + 1 + 1) those := (hG.block (w.heap.size + 1 + 1) (by omega) (by simp; omega)).trans hE
    have hCk := (hG.block C (by omega) (by simpa using hC)).trans hcC
    have hold : noteK B s those k p = B p := by
      unfold noteK
      rw [if_neg]
      intro h
      have h2 := elems_rise s.f
      have hk2 : k < (elems s.f).length := by rw [← finL_len]; exact hk
      have h3 : ((elems s.f).take (k + 1)).Pairwise (· < ·) := h2.sublist (List.take_sublist _ _)
      rw [htk, List.pairwise_append] at h3
      have := h3.2.2 p h p (by simp)
      omega
    have hnew : rowBh N (updS (noteK B s those k) p (orS (B p) those)) = rowBh N (noteK B s those (k + 1)) := rowBh_congr fun j _ => by
      unfold updS noteK
      rw [htk]
      by_cases e : j = p
      · subst e; rw [if_pos rfl, if_pos (by simp)]
      · rw [if_neg e]
        simp [e]
    have HOLD := Lib.hid hold
    have HNEW := Lib.hid hnew
    have HTK := Lib.hid htk
    have hWq := hBk.lt
    have hWs := hG.size
    have HBk := Lib.hid hBk
    have HG := Lib.hid hG
    clear hold hnew htk hp hBk hG hT4 hX hP hE hcC hBq
    gi_wp2_with fail
    refine region_round (S := fun W' => W'.heap[w.heap.size]? = some (.cells #[.pointer (some ⟨C, 0, none⟩)] 111 (0, 0)) ∧ W'.heap[C]? = some oC ∧ HS W' (w.heap.size + 1 + 1) those ∧ W.grownBy W' (some q)) (by kernel_rfl) (by kernel_rfl) (fun ⟨a, w, h⟩ => h.elim) ⟨hPk, hCk, hEk, grown_of_below (bl_drewN (Below.refl W.heap.size W) 1) (some q)⟩ (fun hHeld => ?_)
    have hBd : HB W.drew q N (noteK B s those k) := HBk.out
    clear hPk hCk hEk
    try simp only [List.getElem_toArray, List.getElem_cons_zero, List.getElem_cons_succ, Act.put, List.setIfInBounds_toArray, List.set_cons_zero, List.set_cons_succ]
    refine wpAnyH_take (i := 0) (v := ?vzn0) rfl (by kernel_rfl) (by kernel_rfl) (by kernel_rfl) (fun _ _ _ h => h) (Or.inl ⟨by rfl, ?yzn0⟩) hHeld ?rzn0
    case yzn0 => (intro wS hSw; have q0 := cell_of_row wS w.heap.size 0 _ _ _ hSw.1; have q1 := hCC wS hSw.2.1; clear hSw; go_simp; try (with_reducible rfl))
    try simp only [List.getElem_toArray, List.getElem_cons_zero, List.getElem_cons_succ, Act.put, List.setIfInBounds_toArray, List.set_cons_zero, List.set_cons_succ]
    refine wpAnyH_take (i := 1) (v := ?vzn1) rfl (by kernel_rfl) (by kernel_rfl) (by kernel_rfl) (fun _ _ _ h => h) (Or.inl ⟨by rfl, ?yzn1⟩) hHeld ?rzn1
    case yzn1 => (intro wS hSw; clear hSw; go_simp; try (with_reducible rfl))
    try simp only [List.getElem_toArray, List.getElem_cons_zero, List.getElem_cons_succ, Act.put, List.setIfInBounds_toArray, List.set_cons_zero, List.set_cons_succ]
    refine wpAnyH_take (i := 2) (v := ?vzn2) rfl (by kernel_rfl) (by kernel_rfl) (by kernel_rfl) (fun _ _ _ h => h) (Or.inl ⟨by rfl, ?yzn2⟩) hHeld ?rzn2
    case yzn2 => (intro wS hSw; clear hSw; go_simp; try (with_reducible rfl))
    try simp only [List.getElem_toArray, List.getElem_cons_zero, List.getElem_cons_succ, Act.put, List.setIfInBounds_toArray, List.set_cons_zero, List.set_cons_succ]
    refine wpAnyH_take (i := 3) (v := ?vzn3) rfl (by kernel_rfl) (by kernel_rfl) (by kernel_rfl) (fun _ _ _ h => h) (Or.inl ⟨by rfl, ?yzn3⟩) hHeld ?rzn3
    case yzn3 => (intro wS hSw; have q0 := cell_of_row wS w.heap.size 0 _ _ _ hSw.1; have q1 := hCC wS hSw.2.1; clear hSw; go_simp; try (with_reducible rfl))
    try simp only [List.getElem_toArray, List.getElem_cons_zero, List.getElem_cons_succ, Act.put, List.setIfInBounds_toArray, List.set_cons_zero, List.set_cons_succ]
    refine wpAnyH_take (i := 4) (v := ?vzn4) rfl (by kernel_rfl) (by kernel_rfl) (by kernel_rfl) (fun _ _ _ h => h) (Or.inl ⟨by rfl, ?yzn4⟩) hHeld ?rzn4
    case yzn4 => (intro wS hSw; clear hSw; go_simp; try (with_reducible rfl))
    try simp only [List.getElem_toArray, List.getElem_cons_zero, List.getElem_cons_succ, Act.put, List.setIfInBounds_toArray, List.set_cons_zero, List.set_cons_succ]
    refine wpAnyH_take (i := 5) (v := ?vzn5) rfl (by kernel_rfl) (by kernel_rfl) (by kernel_rfl) (fun _ _ _ h => h) (Or.inl ⟨by rfl, ?yzn5⟩) hHeld ?rzn5
    case yzn5 => (intro wS hSw; have q0 := cell_of_row wS w.heap.size 0 _ _ _ hSw.1; have q1 := hCC wS hSw.2.1; clear hSw; go_simp; try (with_reducible rfl))
    try simp only [List.getElem_toArray, List.getElem_cons_zero, List.getElem_cons_succ, Act.put, List.setIfInBounds_toArray, List.set_cons_zero, List.set_cons_succ]
    refine wpAnyH_take (i := 6) (v := ?vzn6) rfl (by kernel_rfl) (by kernel_rfl) (by kernel_rfl) (fun _ _ _ h => h) (Or.inl ⟨by rfl, ?yzn6⟩) hHeld ?rzn6
    case yzn6 => (intro wS hSw; clear hSw; go_simp; try (with_reducible rfl))
    try simp only [List.getElem_toArray, List.getElem_cons_zero, List.getElem_cons_succ, Act.put, List.setIfInBounds_toArray, List.set_cons_zero, List.set_cons_succ]
    refine wpAnyH_take (i := 7) (v := ?vzn7) rfl (by kernel_rfl) (by kernel_rfl) (by kernel_rfl) (fun _ _ _ h => h) (Or.inl ⟨by rfl, ?yzn7⟩) hHeld ?rzn7
    case yzn7 => (intro wS hSw; clear hSw; go_simp; try (with_reducible rfl))
    try simp only [List.getElem_toArray, List.getElem_cons_zero, List.getElem_cons_succ, Act.put, List.setIfInBounds_toArray, List.set_cons_zero, List.set_cons_succ]
    refine wpAnyH_take (i := 8) (v := ?vzn8) rfl (by kernel_rfl) (by kernel_rfl) (by kernel_rfl) (fun _ _ _ h => h) (Or.inl ⟨by rfl, ?yzn8⟩) hHeld ?rzn8
    case yzn8 => (intro wS hSw; have q0 := cell_of_row wS w.heap.size 0 _ _ _ hSw.1; have q1 := hCC wS hSw.2.1; clear hSw; go_simp; try (with_reducible rfl))
    try simp only [List.getElem_toArray, List.getElem_cons_zero, List.getElem_cons_succ, Act.put, List.setIfInBounds_toArray, List.set_cons_zero, List.set_cons_succ]
    refine wpAnyH_take (i := 9) (v := ?vzn9) rfl (by kernel_rfl) (by kernel_rfl) (by kernel_rfl) (fun _ _ _ h => h) (Or.inl ⟨by rfl, ?yzn9⟩) hHeld ?rzn9
    case yzn9 => (intro wS hSw; clear hSw; go_simp; try (with_reducible rfl))
    try simp only [List.getElem_toArray, List.getElem_cons_zero, List.getElem_cons_succ, Act.put, List.setIfInBounds_toArray, List.set_cons_zero, List.set_cons_succ]
    refine wpAnyH_take (i := 10) (v := ?vzn10) rfl (by kernel_rfl) (by kernel_rfl) (by kernel_rfl) (fun _ _ _ h => h) (Or.inl ⟨by rfl, ?yzn10⟩) hHeld ?rzn10
    case yzn10 => (intro wS hSw; clear hSw; go_simp; try (with_reducible rfl))
    try simp only [List.getElem_toArray, List.getElem_cons_zero, List.getElem_cons_succ, Act.put, List.setIfInBounds_toArray, List.set_cons_zero, List.set_cons_succ]
    refine wpAnyH_take (i := 12) (v := encS those) rfl (by kernel_rfl) (by kernel_rfl) (by kernel_rfl) (fun _ _ _ h => h) (yields_set (by rfl) (.tmp 5) rfl (w.heap.size + 1 + 1) rfl those.f (fun _ h => h.2.2.1)) hHeld ?_
    try simp only [List.getElem_toArray, List.getElem_cons_zero, List.getElem_cons_succ, Act.put, List.setIfInBounds_toArray, List.set_cons_zero, List.set_cons_succ]
    refine wpAnyH_ready (rs := [11]) (by kernel_rfl) (by simp) (AllReadyH.cons rfl (fun K hK => ?_) AllReadyH.nil)
    rw [if_pos (by rfl)]
    refine wp_load_agg 59 4 _ rfl ⟨q, p * 4, none⟩ ?ev11 _ (agg_set _) (size_set _) rfl (hBd.cells hpN) ?_
    case ev11 => rfl
    rw [HOLD.out]
    refine hK.out _ _ hHeld (fun hHeld => ?_)
    clear hK K
    try simp only [List.getElem_toArray, List.getElem_cons_zero, List.getElem_cons_succ, Act.put, List.setIfInBounds_toArray, List.set_cons_zero, List.set_cons_succ]
    refine wpAnyH_ready (rs := [13]) (by kernel_rfl) (by simp) (AllReadyH.cons rfl (fun K hK => ?_) AllReadyH.nil)
    go_simp
    go_at_call 58
    refine (union_is (B p) those _).mono ?_
    rintro e w3 ⟨rfl, hb3⟩
    have hB3 := hBd.below hb3
    have hS1 := And.intro ((hb3.block _ (Array.getElem?_eq_some_iff.1 hHeld.1).1).trans hHeld.1) (And.intro ((hb3.block C (Array.getElem?_eq_some_iff.1 hHeld.2.1).1).trans hHeld.2.1) (And.intro (hHeld.2.2.1.below hb3) (hHeld.2.2.2.trans (grown_of_below hb3 (some q)))))
    have HB3 := Lib.hid hB3
    clear hHeld hb3 hBd hB3
    go_wp2_with fail
    refine hK.out _ _ hS1 (fun hHeld => ?_)
    clear hK K hS1
    try simp only [List.getElem_toArray, List.getElem_cons_zero, List.getElem_cons_succ, Act.put, List.setIfInBounds_toArray, List.set_cons_zero, List.set_cons_succ]
    refine wpAnyH_take (i := 14) (v := ?vzn14) rfl (by kernel_rfl) (by kernel_rfl) (by kernel_rfl) (fun _ _ _ h => h) (Or.inl ⟨by rfl, ?yzn14⟩) hHeld ?rzn14
    case yzn14 => (intro wS hSw; clear hSw; go_simp; try (with_reducible rfl))
    try simp only [List.getElem_toArray, List.getElem_cons_zero, List.getElem_cons_succ, Act.put, List.setIfInBounds_toArray, List.set_cons_zero, List.set_cons_succ]
    refine wpAnyH_ready (rs := [15]) (by kernel_rfl) (by simp) (AllReadyH.cons rfl (fun K hK => ?_) AllReadyH.nil)
    rw [if_pos (by rfl)]
    refine wp_store_mid 59 _ _ rfl q (p * 4) ?ev15 (setCells (orS (B p) those)) rfl 59 _ HB3.out info_set (by rw [rowBh_len]; simp [setCells]; omega) (oneCells _) ?_
    case ev15 => rfl
    rw [rowBh_upd _ _ _ _ hpN, HNEW.out]
    have hne0 : w.heap.size ≠ q := by omega
    have hne5 : w.heap.size + 1 + 1 ≠ q := by omega
    have hrow := setRow_heap _ q _ (rowBh N (noteK B s those (k + 1))).toArray _ _ HB3.out
    have hgr : w3.grownBy (w3.setRow q (rowBh N (noteK B s those (k + 1))).toArray) (some q) := ⟨rfl, rfl, rfl, by simp, fun i _ hi => setRow_other _ _ _ _ (fun e => hi (by rw [e]))⟩
    have hS2 : (w3.setRow q (rowBh N (noteK B s those (k + 1))).toArray).heap[w.heap.size]? = some (.cells #[.pointer (some ⟨C, 0, none⟩)] 111 (0, 0)) ∧ (w3.setRow q (rowBh N (noteK B s those (k + 1))).toArray).heap[C]? = some oC ∧ HS (w3.setRow q (rowBh N (noteK B s those (k + 1))).toArray) (w.heap.size + 1 + 1) those ∧ W.grownBy (w3.setRow q (rowBh N (noteK B s those (k + 1))).toArray) (some q) :=
      ⟨(setRow_other w3 q _ _ hne0).trans hHeld.1, (setRow_other w3 q _ _ hC).trans hHeld.2.1, (setRow_other w3 q _ _ hne5).trans hHeld.2.2.1, hHeld.2.2.2.trans hgr⟩
    refine hK.out _ _ hS2 (fun hHeld2 => ?_)
    clear hK K
    refine wpAnyH_done (by kernel_rfl) ?_ _
    have hbe := body_end (n0 := q) (m := W0.heap.size) (W := W) hHeld2.2.2.2 HBk.out (Nat.le_refl _) (by omega) (by omega)
    exact ⟨hbe.1, hbe.2, hrow, HG.out.trans hHeld2.2.2.2⟩
  case done =>
    rintro D W hD ⟨hBk, hG⟩ hK
    have hfull : rowBh N (noteK B s those (finL (elems s.f)).length) = rowBh N (noteS B s those) := rowBh_congr fun j hj => by
      unfold noteK noteS
      rw [finL_len, List.take_length]
      by_cases h : hasS s j = true
      · rw [if_pos ((mem_elems s.f j).2 ⟨by omega, h⟩), if_pos h]
      · rw [if_neg (fun e => h ((mem_elems s.f j).1 e).2), if_neg h]
    unfold HB at hBk
    rw [hfull] at hBk
    gi_wp2
    refine ⟨by simp, .inl ⟨_, _, rfl, run_takeDeferred hK, ?_⟩⟩
    refine ⟨.tuple #[], by simp [results, Tryz.results57], rfl, (World.putObj_heap_other (by omega)).trans hBk, ?_⟩
    have hg2 := (grown_of_below hB0 (some q)).trans hG
    refine ⟨hg2.os, hg2.tape, hg2.output, by have := hg2.size; simpa using this, fun i hi hne => ?_⟩
    exact (World.putObj_heap_other (by omega)).trans (hg2.block i hi hne)
  case stop =>
    rintro D c k W _ _ h _
    exact h.elim

end Go.Proofs.YtjibfffefppniaaGreatDoor

/- allBehind and taking: which places may follow, and which take a byte. Under: math/bits' table as it was laid. -/
set_option linter.unusedVariables false
set_option linter.unusedSimpArgs false
namespace Go.Proofs.YtjibfffefppniaaGreatDoor
open Go.RowKit Go.Shelf
attribute [local go_sem] Oper.semAt_some

/-- A structure out of a block's midst, whichever operation comes up first. -/
theorem yields_mid {ops : Array Oper} {S : World → Prop} {op : Oper} {a : Act} (ty : TypeId) (k : Nat) (hw : Region.wanted op (yielded ops a.tmps) = true) (x : Operand) (ho : op.op = .load ty x)
    (ad : Addr) (hx : a.eval x = .pointer (some ad)) (vs : List Value) (hagg : ∀ w, (isAgg ty).run Tryz.prog w = .ok true w) (hsz : ∀ w, (sizeOf ty).run Tryz.prog w = .ok k w) (hk : vs.length = k) (hS : ∀ w, S w → ∀ j u, vs[j]? = some u → w.cell? (ad.add j) = some u) : YieldsIf Tryz.prog ops S op (.agg vs.toArray) a :=
  .inl ⟨hw, fun w hw' => by
    unfold execOp
    simp only [ho, hx, Instr.loadAt, Instr.sureAddr, Sem.run_bind, Sem.run_pure, Result.andThen_ok, run_load_agg ty k w ad vs (hagg w) (hsz w) hk (hS w hw')]⟩
theorem size_chart : (Tryz.prog.info? 64).map (·.size) = some 11 := by kernel_rfl
/-- What a chart's eleven cells are. -/
structure IsCh (cs : Array Value) (nn : Bool) (fi la : S4) (A : Option Addr) (N c q : Nat) : Prop where
  size : cs.size = 11
  none : cs[0]? = some (.bool nn)
  first : ∀ j u, (setCells fi)[j]? = some u → cs[1 + j]? = some u
  last : ∀ j u, (setCells la)[j]? = some u → cs[5 + j]? = some u
  nodes : cs[9]? = some (.slice A N c)
  behind : cs[10]? = some (.slice (some ⟨q, 0, .none⟩) N N)
def nextK (B : Nat → S4) (s : S4) (k : Nat) : S4 := ((elems s.f).take k).foldl (fun a p => orS a (B p)) nilS
theorem nextK_succ (B : Nat → S4) (s : S4) (k p : Nat) (h : (elems s.f).take (k + 1) = (elems s.f).take k ++ [p]) : nextK B s (k + 1) = orS (nextK B s k) (B p) := by
  unfold nextK
  rw [h, List.foldl_append]
  rfl
theorem new_set (w : World) (o1 o2 o3 o4 : Obj) (s : S4) : HS (((((w.alloc o1).alloc o2).alloc o3).alloc (.cells tab4 59)).alloc o4) (w.heap.size + 1 + 1 + 1) nilS := by
  have h := HS.new (((w.alloc o1).alloc o2).alloc o3)
  simp only [World.size_alloc] at h
  exact H4.alloc h o4

set_option maxRecDepth 100000 in
set_option maxHeartbeats 4000000 in
theorem rbehind_any (cs : Array Value) (nn : Bool) (fi la : S4) (A : Option Addr) (N c q : Nat) (B : Nat → S4) (s : S4) (w : World) (hch : IsCh cs nn fi la A N c q) (hT : Tab w) (hB : HB w q N B) (hN : N ≤ 256) (hs : ∀ p, p < 256 → hasS s p = true → p < N) :
    Calls Tryz.prog 46 #[.agg cs, encS s] w (GotS w (nextS B s)) := by
  refine (callsIn_wide (n := 4)).1 ?_
  show CallsIn Fence.wide 4 Tryz.prog 46 #[.agg cs, .agg (row4 s.f)] w _
  refine callsIn_of_wp_marks Tryz.func46 rfl trivial ?_ rfl
  simp only [Tryz.ntmps46, List.size_toArray, List.length_cons, List.length_nil, Nat.reduceAdd, Nat.reduceSub, Array.replicate_succ, Array.replicate_zero, List.push_toArray, List.append_toArray, List.nil_append, List.cons_append]
  have hfn := fun (B : Nat) (W : World) => func_nil B W
  have hz := zero4
  have hTb : 0 < w.heap.size := World.block_lt_of_cell? w _ (hT 0 (by omega))
  have b1 := bl_alloc (bl_alloc (bl_alloc (bl_alloc (Below.refl w.heap.size w) (.cells cs 64)) (.cells (row4 s.f) 59)) (.cells tab4 59)) (.cells tab4 59)
  have HA : Hid (H4 ((((w.alloc (.cells cs 64)).alloc (.cells (row4 s.f) 59)).alloc (.cells tab4 59)).alloc (.cells tab4 59)) (w.heap.size + 1) s.f) := Lib.hid (((H4.new1 w _ s.f).alloc _).alloc _)
  gi_wp2_with (first
    | (refine wpListIn_load_row rfl 59 _ rfl (w.heap.size + 1) rfl _ _ (0, 0) _ HA.out Tryz.underlying59 rfl (by rw [size4, row4_size]) ?_)
    | (refine ⟨trivial, ?_⟩; gi_at_call 59; refine (callsIn_wide.2 (all_make s.f _)).mono ?_; rintro e w' ⟨rfl, rfl⟩))
  clear hfn hz HA
  have hX := H4.new ((((w.alloc (.cells cs 64)).alloc (.cells (row4 s.f) 59)).alloc (.cells tab4 59)).alloc (.cells tab4 59)) s.f
  have hB0 := bl_alloc b1 (.cells (row4 s.f) 59)
  have hR : HS (((((w.alloc (.cells cs 64)).alloc (.cells (row4 s.f) 59)).alloc (.cells tab4 59)).alloc (.cells tab4 59)).alloc (.cells (row4 s.f) 59)) (w.heap.size + 1 + 1) nilS := by
    have h := HS.new ((w.alloc (.cells cs 64)).alloc (.cells (row4 s.f) 59))
    simp only [World.size_alloc] at h
    exact H4.alloc (H4.alloc h _) _
  have hE := new_set w (.cells cs 64) (.cells (row4 s.f) 59) (.cells tab4 59) (.cells (row4 s.f) 59) s
  have hP : (((((w.alloc (.cells cs 64)).alloc (.cells (row4 s.f) 59)).alloc (.cells tab4 59)).alloc (.cells tab4 59)).alloc (.cells (row4 s.f) 59)).heap[w.heap.size]? = some (.cells cs 64 (0, 0)) := by
    rw [Below.heap_alloc _ _ _ (by simp; omega), Below.heap_alloc _ _ _ (by simp; omega), Below.heap_alloc _ _ _ (by simp; omega), Below.heap_alloc _ _ _ (by simp)]
    exact heap_alloc_new w _
  simp only [World.size_alloc] at hX
  have hT4 := hT.below hB0
  have hq0 := hB.lt
  have hs4 : (((((w.alloc (.cells cs 64)).alloc (.cells (row4 s.f) 59)).alloc (.cells tab4 59)).alloc (.cells tab4 59)).alloc (.cells (row4 s.f) 59)).heap.size = w.heap.size + 5 := by simp
  have hBq := hB.below hB0
  clear b1
  generalize ((((w.alloc (.cells cs 64)).alloc (.cells (row4 s.f) 59)).alloc (.cells tab4 59)).alloc (.cells tab4 59)).alloc (.cells (row4 s.f) 59) = W0 at *
  refine wp_told (n := 4) (by omega) (gf := 65) (lb := #[.pointer (some ⟨w.heap.size + 1 + 1 + 1 + 1, 0, none⟩)]) rfl (enters_of Tryz.func65 (by kernel_rfl) rfl)
    (all_tell 3 (w.heap.size + 1 + 1 + 1 + 1) w.heap.size s.f (by omega) W0 (by omega) hX hT4 hTb) (Below.refl _ _) (by omega) rfl
    (fun k W => HS W (w.heap.size + 1 + 1 + 1) (nextK B s k) ∧ W0.grownBy W (some (w.heap.size + 1 + 1 + 1))) (fun _ _ _ => False)
    (AbT.and (abT_block (X := fun k => .cells (row4 (nextK B s k).f) 59 (0, 0)) (by omega)) (abT_grown rfl)) (fun _ _ _ _ _ hs _ _ => hs)
    ⟨hE, ⟨rfl, rfl, rfl, Nat.le_refl _, fun i _ _ => rfl⟩⟩
    (fun x => { tmps := #[.agg cs, .agg (row4 s.f), .pointer (some ⟨w.heap.size, 0, none⟩), .pointer (some ⟨w.heap.size + 1, 0, none⟩), .pointer (some ⟨w.heap.size + 1 + 1, 0, none⟩), .pointer (some ⟨w.heap.size + 1 + 1 + 1, 0, none⟩), .int .u8 (x.1 : Int), .agg (row4 s.f),
      .func (.func 65) #[] #[.pointer (some ⟨w.heap.size + 1 + 1 + 1 + 1, 0, none⟩)], .int .u8 (x.1 : Int), undef, undef, undef, undef, undef, undef, undef, undef], defers := [] }) ?assign ?body ?done ?stop
  case assign =>
    intro l x W K hK
    unfold encB
    gi_wp2
    exact hK
  case body =>
    rintro l k hk W ⟨hBk, hG⟩
    obtain ⟨p, hp, hp256, hps, htk⟩ := elems_at s k hk
    rw [hp]
    have hpN := hs p hp256 hps
    have hPk := (hG.block w.heap.size (by omega) (by simp; omega)).trans hP
    have hQk : HB W q N B := (hG.block q (by omega) (by simp; omega)).trans hBq
    have hnew := nextK_succ B s k p htk
    have HNEW := Lib.hid hnew
    have hWs := hG.size
    have HBk := Lib.hid hBk
    have HG := Lib.hid hG
    have hWl : w.heap.size + 1 + 1 + 1 < W.heap.size := H4.lt hBk
    clear hnew htk hp hBk hG hT4 hX hP hE hBq hR
    gi_wp2_with fail
    refine region_round (S := fun W' => W'.heap[w.heap.size]? = some (.cells cs 64 (0, 0)) ∧ HB W' q N B ∧ W.grownBy W' (some (w.heap.size + 1 + 1 + 1))) (by kernel_rfl) (by kernel_rfl) (fun ⟨a, w, h⟩ => h.elim) ⟨hPk, hQk, grown_of_below (bl_drewN (Below.refl W.heap.size W) 1) (some (w.heap.size + 1 + 1 + 1))⟩ (fun hHeld => ?_)
    have hBd : HS W.drew (w.heap.size + 1 + 1 + 1) (nextK B s k) := HBk.out
    clear hPk hQk
    try simp only [List.getElem_toArray, List.getElem_cons_zero, List.getElem_cons_succ, Act.put, List.setIfInBounds_toArray, List.set_cons_zero, List.set_cons_succ]
    refine wpAnyH_take (i := 1) (v := ?vzx1) rfl (by kernel_rfl) (by kernel_rfl) (by kernel_rfl) (fun _ _ _ h => h) (Or.inl ⟨by rfl, ?yzx1⟩) hHeld ?rzx1
    case yzx1 => (intro wS hSw; clear hSw; go_simp; try (with_reducible rfl))
    try simp only [List.getElem_toArray, List.getElem_cons_zero, List.getElem_cons_succ, Act.put, List.setIfInBounds_toArray, List.set_cons_zero, List.set_cons_succ]
    refine wpAnyH_take (i := 2) (v := ?vzx2) rfl (by kernel_rfl) (by kernel_rfl) (by kernel_rfl) (fun _ _ _ h => h) (Or.inl ⟨by rfl, ?yzx2⟩) hHeld ?rzx2
    case yzx2 => (intro wS hSw; have q1 := (cell_of_row wS w.heap.size 10 _ _ _ hSw.1).trans hch.behind; clear hSw; go_simp; try (with_reducible rfl))
    try simp only [List.getElem_toArray, List.getElem_cons_zero, List.getElem_cons_succ, Act.put, List.setIfInBounds_toArray, List.set_cons_zero, List.set_cons_succ]
    refine wpAnyH_take (i := 3) (v := ?vzx3) rfl (by kernel_rfl) (by kernel_rfl) (by kernel_rfl) (fun _ _ _ h => h) (Or.inl ⟨by rfl, ?yzx3⟩) hHeld ?rzx3
    case yzx3 => (intro wS hSw; clear hSw; go_simp; try (with_reducible rfl))
    try simp only [List.getElem_toArray, List.getElem_cons_zero, List.getElem_cons_succ, Act.put, List.setIfInBounds_toArray, List.set_cons_zero, List.set_cons_succ]
    refine wpAnyH_take (i := 4) (v := ?vzx4) rfl (by kernel_rfl) (by kernel_rfl) (by kernel_rfl) (fun _ _ _ h => h) (Or.inl ⟨by rfl, ?yzx4⟩) hHeld ?rzx4
    case yzx4 => (intro wS hSw; clear hSw; go_simp; try (with_reducible rfl))
    try simp only [List.getElem_toArray, List.getElem_cons_zero, List.getElem_cons_succ, Act.put, List.setIfInBounds_toArray, List.set_cons_zero, List.set_cons_succ]
    refine wpAnyH_take (i := 5) (v := .agg (setCells (B p)).toArray) rfl (by kernel_rfl) (by kernel_rfl) (by kernel_rfl) (fun _ _ _ h => h) (yields_mid 59 4 (by rfl) (.tmp 14) rfl ⟨q, p * 4, none⟩ rfl (setCells (B p)) agg_set size_set rfl (fun w h => h.2.1.cells hpN)) hHeld ?_
    try simp only [List.getElem_toArray, List.getElem_cons_zero, List.getElem_cons_succ, Act.put, List.setIfInBounds_toArray, List.set_cons_zero, List.set_cons_succ]
    refine wpAnyH_ready (rs := [0]) (by kernel_rfl) (by simp) (AllReadyH.cons rfl (fun K hK => ?_) AllReadyH.nil)
    rw [if_pos (by rfl)]
    refine wp_load_row 59 _ rfl (w.heap.size + 1 + 1 + 1) rfl 59 _ (0, 0) _ hBd Tryz.underlying59 rfl (by rw [size4, row4_size]) ?_
    refine hK.out _ _ hHeld (fun hHeld => ?_)
    clear hK K
    try simp only [List.getElem_toArray, List.getElem_cons_zero, List.getElem_cons_succ, Act.put, List.setIfInBounds_toArray, List.set_cons_zero, List.set_cons_succ]
    refine wpAnyH_ready (rs := [6]) (by kernel_rfl) (by simp) (AllReadyH.cons rfl (fun K hK => ?_) AllReadyH.nil)
    go_simp
    go_at_call 58
    refine (union_is (nextK B s k) (B p) _).mono ?_
    rintro e w3 ⟨rfl, hb3⟩
    have HB3 := Lib.hid (hBd.below hb3)
    have hS1 : w3.heap[w.heap.size]? = some (.cells cs 64 (0, 0)) ∧ HB w3 q N B ∧ W.grownBy w3 (some (w.heap.size + 1 + 1 + 1)) := ⟨(hb3.block _ (Array.getElem?_eq_some_iff.1 hHeld.1).1).trans hHeld.1, hHeld.2.1.below hb3, hHeld.2.2.trans (grown_of_below hb3 _)⟩
    clear hHeld hb3 hBd
    go_wp2_with fail
    refine hK.out _ _ hS1 (fun hHeld => ?_)
    clear hK K hS1
    try simp only [List.getElem_toArray, List.getElem_cons_zero, List.getElem_cons_succ, Act.put, List.setIfInBounds_toArray, List.set_cons_zero, List.set_cons_succ]
    refine wpAnyH_ready (rs := [7]) (by kernel_rfl) (by simp) (AllReadyH.cons rfl (fun K hK => ?_) AllReadyH.nil)
    rw [if_pos (by rfl)]
    refine wp_store_row 59 _ _ rfl (w.heap.size + 1 + 1 + 1) _ rfl rfl 59 _ HB3.out (by rw [size4, row4_size]) (by rw [row4_size, row4_size]) (row4_one _) ?_
    have hrow := HB3.out.laid (orS (nextK B s k) (B p))
    rw [← HNEW.out] at hrow ⊢
    have hgr : w3.grownBy (w3.setRow (w.heap.size + 1 + 1 + 1) (row4 (nextK B s (k + 1)).f)) (some (w.heap.size + 1 + 1 + 1)) := ⟨rfl, rfl, rfl, by simp, fun i _ hi => setRow_other _ _ _ _ (fun e => hi (by rw [e]))⟩
    have hS2 : (w3.setRow (w.heap.size + 1 + 1 + 1) (row4 (nextK B s (k + 1)).f)).heap[w.heap.size]? = some (.cells cs 64 (0, 0)) ∧ HB (w3.setRow (w.heap.size + 1 + 1 + 1) (row4 (nextK B s (k + 1)).f)) q N B ∧ W.grownBy (w3.setRow (w.heap.size + 1 + 1 + 1) (row4 (nextK B s (k + 1)).f)) (some (w.heap.size + 1 + 1 + 1)) :=
      ⟨(setRow_other w3 _ _ _ (by omega)).trans hHeld.1, (setRow_other w3 _ _ _ (by omega)).trans hHeld.2.1, hHeld.2.2.trans hgr⟩
    refine hK.out _ _ hS2 (fun hHeld2 => ?_)
    clear hK K
    refine wpAnyH_done (by kernel_rfl) ?_ _
    have hbe := body_end (n0 := w.heap.size) (m := W0.heap.size) (W := W) hHeld2.2.2 HBk.out (by omega) (by omega) (by omega)
    exact ⟨hbe.1, hbe.2, hrow, HG.out.trans hHeld2.2.2⟩
  case done =>
    rintro D W hD ⟨hBk, hG⟩ hK
    have hfull : nextK B s (finL (elems s.f)).length = nextS B s := by
      unfold nextK nextS
      rw [finL_len, List.take_length]
    rw [hfull] at hBk
    have hRk : HS W (w.heap.size + 1 + 1) nilS := (hG.block (w.heap.size + 1 + 1) (by omega) (by simp)).trans hR
    have HK := Lib.hid hK
    have H1 := Lib.hid hRk
    have H2 := Lib.hid hBk
    have HG := Lib.hid hG
    clear hK hRk hBk hG hT4 hX hP hE hBq hR
    gi_wp2_with (first
      | (refine wpListIn_load_row rfl 59 _ rfl (w.heap.size + 1 + 1 + 1) rfl _ _ (0, 0) _ H2.out Tryz.underlying59 rfl (by rw [size4, row4_size]) ?_)
      | (refine wpListIn_store_row rfl 59 _ _ rfl (w.heap.size + 1 + 1) _ rfl rfl _ _ H1.out (by rw [size4, row4_size]) (by rw [row4_size, row4_size]) (row4_one _) ?_))
    have hsr := H1.out.laid (nextS B s)
    have hKs : (W.setRow (w.heap.size + 1 + 1) (row4 (nextS B s).f)).heap[D]? = some (.deferred (some [])) := by rw [setRow_other _ _ _ _ (by omega)]; exact HK.out
    refine ⟨by simp, .inl ⟨_, _, rfl, run_takeDeferred hKs, ?_⟩⟩
    refine ⟨encS (nextS B s), ?_, rfl, ?_⟩
    · refine results_cell_row rfl _ _ (w.heap.size + 1 + 1) 59 _ (0, 0) _ rfl ?_ Tryz.underlying59 rfl (by rw [size4, row4_size])
      rw [World.putObj_heap_other (by omega)]
      exact hsr
    · have hbl : Below w.heap.size w W := hB0.grown HG.out (by omega) (fun k e => by cases e; omega)
      exact (bl_setRow hbl (by omega) _).trans (belowK_b (w := w) (Nat.le_refl _) _ D _ _ (by omega) hKs rfl rfl)
  case stop =>
    rintro D c k W _ _ h _
    exact h.elim

end Go.Proofs.YtjibfffefppniaaGreatDoor

/- taking: which places take a byte. Under: math/bits' table as it was laid. -/
set_option linter.unusedVariables false
set_option linter.unusedSimpArgs false
namespace Go.Proofs.YtjibfffefppniaaGreatDoor
open Go.RowKit Go.Shelf
attribute [local go_sem] Oper.semAt_some

/-- Where a node's set lies. -/
def setAd (ad : Addr) (p : Nat) : Addr := ⟨(ad.add (p * 7)).block, (ad.add (p * 7)).off + 1, none⟩
theorem RdR.set {w : World} {A : Option Addr} {l : List RN} (h : RdR w A l) {p : Nat} (hp : p < l.length) : ∃ ad, A = some ad ∧ ∀ j u, (setCells (labOf l p))[j]? = some u → w.cell? ((setAd ad p).add j) = some u := by
  obtain ⟨ad, e, hc⟩ := h p hp
  have hl : labOf l p = l[p].set := by
    unfold labOf
    rw [List.getD_eq_getElem?_getD, List.getElem?_eq_getElem hp]
    rfl
  refine ⟨ad, e, fun j u hu => ?_⟩
  rw [hl] at hu
  have hj : j < 4 := (List.getElem?_eq_some_iff.1 hu).1
  match j, hj with
  | 0, _ => have := hc 1 u hu; simpa [setAd, Addr.add] using this
  | 1, _ => have := hc 2 u hu; simpa [setAd, Addr.add] using this
  | 2, _ => have := hc 3 u hu; simpa [setAd, Addr.add] using this
  | 3, _ => have := hc 4 u hu; simpa [setAd, Addr.add] using this
def hereK (L : Nat → S4) (s : S4) (c k : Nat) : S4 := (((elems s.f).take k).filter fun p => hasS (L p) c).foldl (fun a p => orS a (oneS p)) nilS
theorem hereK_yes (L : Nat → S4) (s : S4) (c k p : Nat) (h : (elems s.f).take (k + 1) = (elems s.f).take k ++ [p]) (hy : hasS (L p) c = true) : hereK L s c (k + 1) = orS (hereK L s c k) (oneS p) := by
  unfold hereK
  rw [h, List.filter_append, List.foldl_append]
  simp [hy]
theorem hereK_no (L : Nat → S4) (s : S4) (c k p : Nat) (h : (elems s.f).take (k + 1) = (elems s.f).take k ++ [p]) (hy : hasS (L p) c = false) : hereK L s c (k + 1) = hereK L s c k := by
  unfold hereK
  rw [h, List.filter_append, List.foldl_append]
  simp [hy]
theorem new_set5 (w : World) (o1 o2 o3 o4 o5 : Obj) (s : S4) : HS ((((((w.alloc o1).alloc o2).alloc o3).alloc o4).alloc (.cells tab4 59)).alloc o5) (w.heap.size + 1 + 1 + 1 + 1) nilS := by
  have h := HS.new ((((w.alloc o1).alloc o2).alloc o3).alloc o4)
  simp only [World.size_alloc] at h
  exact H4.alloc h o5
theorem of_nat (p : Nat) (hp : p < 256) (w : World) : Calls Tryz.prog 56 #[.slice (some ⟨w.heap.size, 0, none⟩) 1 1] (w.alloc (.cells #[.int .u8 (p : Int)] 5)) (GotS (w.alloc (.cells #[.int .u8 (p : Int)] 5)) (oneS p)) := by
  have h := of_one (UInt8.ofNat p) w
  have e : (UInt8.ofNat p).toNat = p := by simp; omega
  rw [e] at h
  exact h

set_option maxRecDepth 100000 in
set_option maxHeartbeats 4000000 in
theorem taking_any (cs : Array Value) (nn : Bool) (fi la : S4) (A : Option Addr) (N c q : Nat) (l : List RN) (s : S4) (b : UInt8) (w : World) (hch : IsCh cs nn fi la A N c q) (hT : Tab w) (hl : l.length = N) (hr : RdR w A l) (hN : N ≤ 256) (hs : ∀ p, p < 256 → hasS s p = true → p < N) :
    Calls Tryz.prog 44 #[.agg cs, encS s, .int .u8 (b.toNat : Int)] w (GotS w (hereS (labOf l) s b.toNat)) := by
  refine (callsIn_wide (n := 4)).1 ?_
  show CallsIn Fence.wide 4 Tryz.prog 44 #[.agg cs, .agg (row4 s.f), .int .u8 (b.toNat : Int)] w _
  refine callsIn_of_wp_marks Tryz.func44 rfl trivial ?_ rfl
  simp only [Tryz.ntmps44, List.size_toArray, List.length_cons, List.length_nil, Nat.reduceAdd, Nat.reduceSub, Array.replicate_succ, Array.replicate_zero, List.push_toArray, List.append_toArray, List.nil_append, List.cons_append]
  have hfn := fun (B : Nat) (W : World) => func_nil B W
  have hz := zero4
  have hTb : 0 < w.heap.size := World.block_lt_of_cell? w _ (hT 0 (by omega))
  have HLL := Lib.hid hl
  clear hl
  have b1 := bl_alloc (bl_alloc (bl_alloc (bl_alloc (bl_alloc (Below.refl w.heap.size w) (.cells cs 64)) (.cells (row4 s.f) 59)) (.cells #[.int .u8 (b.toNat : Int)] 5)) (.cells tab4 59)) (.cells tab4 59)
  have HA : Hid (H4 (((((w.alloc (.cells cs 64)).alloc (.cells (row4 s.f) 59)).alloc (.cells #[.int .u8 (b.toNat : Int)] 5)).alloc (.cells tab4 59)).alloc (.cells tab4 59)) (w.heap.size + 1) s.f) := Lib.hid ((((H4.new1 w _ s.f).alloc _).alloc _).alloc _)
  gi_wp2_with (first
    | (refine wpListIn_load_row rfl 59 _ rfl (w.heap.size + 1) rfl _ _ (0, 0) _ HA.out Tryz.underlying59 rfl (by rw [size4, row4_size]) ?_)
    | (refine ⟨trivial, ?_⟩; gi_at_call 59; refine (callsIn_wide.2 (all_make s.f _)).mono ?_; rintro e w' ⟨rfl, rfl⟩))
  clear hfn hz HA
  have hX := H4.new (((((w.alloc (.cells cs 64)).alloc (.cells (row4 s.f) 59)).alloc (.cells #[.int .u8 (b.toNat : Int)] 5)).alloc (.cells tab4 59)).alloc (.cells tab4 59)) s.f
  have hB0 := bl_alloc b1 (.cells (row4 s.f) 59)
  have hR : HS ((((((w.alloc (.cells cs 64)).alloc (.cells (row4 s.f) 59)).alloc (.cells #[.int .u8 (b.toNat : Int)] 5)).alloc (.cells tab4 59)).alloc (.cells tab4 59)).alloc (.cells (row4 s.f) 59)) (w.heap.size + 1 + 1 + 1) nilS := by
    have h := HS.new (((w.alloc (.cells cs 64)).alloc (.cells (row4 s.f) 59)).alloc (.cells #[.int .u8 (b.toNat : Int)] 5))
    simp only [World.size_alloc] at h
    exact H4.alloc (H4.alloc h _) _
  have hE := new_set5 w (.cells cs 64) (.cells (row4 s.f) 59) (.cells #[.int .u8 (b.toNat : Int)] 5) (.cells tab4 59) (.cells (row4 s.f) 59) s
  have hP : ((((((w.alloc (.cells cs 64)).alloc (.cells (row4 s.f) 59)).alloc (.cells #[.int .u8 (b.toNat : Int)] 5)).alloc (.cells tab4 59)).alloc (.cells tab4 59)).alloc (.cells (row4 s.f) 59)).heap[w.heap.size]? = some (.cells cs 64 (0, 0)) := by
    rw [Below.heap_alloc _ _ _ (by simp; omega), Below.heap_alloc _ _ _ (by simp; omega), Below.heap_alloc _ _ _ (by simp; omega), Below.heap_alloc _ _ _ (by simp; omega), Below.heap_alloc _ _ _ (by simp)]
    exact heap_alloc_new w _
  have hY : ((((((w.alloc (.cells cs 64)).alloc (.cells (row4 s.f) 59)).alloc (.cells #[.int .u8 (b.toNat : Int)] 5)).alloc (.cells tab4 59)).alloc (.cells tab4 59)).alloc (.cells (row4 s.f) 59)).heap[w.heap.size + 1 + 1]? = some (.cells #[.int .u8 (b.toNat : Int)] 5 (0, 0)) := by
    rw [Below.heap_alloc _ _ _ (by simp), Below.heap_alloc _ _ _ (by simp), Below.heap_alloc _ _ _ (by simp)]
    have := heap_alloc_new ((w.alloc (.cells cs 64)).alloc (.cells (row4 s.f) 59)) (.cells #[.int .u8 (b.toNat : Int)] 5)
    simpa only [World.size_alloc] using this
  simp only [World.size_alloc] at hX
  have hT4 := hT.below hB0
  have hs4 : ((((((w.alloc (.cells cs 64)).alloc (.cells (row4 s.f) 59)).alloc (.cells #[.int .u8 (b.toNat : Int)] 5)).alloc (.cells tab4 59)).alloc (.cells tab4 59)).alloc (.cells (row4 s.f) 59)).heap.size = w.heap.size + 6 := by simp
  have hr4 := hr.below hB0
  clear b1
  generalize (((((w.alloc (.cells cs 64)).alloc (.cells (row4 s.f) 59)).alloc (.cells #[.int .u8 (b.toNat : Int)] 5)).alloc (.cells tab4 59)).alloc (.cells tab4 59)).alloc (.cells (row4 s.f) 59) = W0 at *
  refine wp_told (n := 4) (by omega) (gf := 65) (lb := #[.pointer (some ⟨w.heap.size + 1 + 1 + 1 + 1 + 1, 0, none⟩)]) rfl (enters_of Tryz.func65 (by kernel_rfl) rfl)
    (all_tell 3 (w.heap.size + 1 + 1 + 1 + 1 + 1) w.heap.size s.f (by omega) W0 (by omega) hX hT4 hTb) (Below.refl _ _) (by omega) rfl
    (fun k W => HS W (w.heap.size + 1 + 1 + 1 + 1) (hereK (labOf l) s b.toNat k) ∧ W0.grownBy W (some (w.heap.size + 1 + 1 + 1 + 1))) (fun _ _ _ => False)
    (AbT.and (abT_block (X := fun k => .cells (row4 (hereK (labOf l) s b.toNat k).f) 59 (0, 0)) (by omega)) (abT_grown rfl)) (fun _ _ _ _ _ hs _ _ => hs)
    ⟨hE, ⟨rfl, rfl, rfl, Nat.le_refl _, fun i _ _ => rfl⟩⟩
    (fun x => { tmps := #[.agg cs, .agg (row4 s.f), .int .u8 (b.toNat : Int), .pointer (some ⟨w.heap.size, 0, none⟩), .pointer (some ⟨w.heap.size + 1, 0, none⟩), .pointer (some ⟨w.heap.size + 1 + 1, 0, none⟩), .pointer (some ⟨w.heap.size + 1 + 1 + 1, 0, none⟩), .pointer (some ⟨w.heap.size + 1 + 1 + 1 + 1, 0, none⟩), .int .u8 (x.1 : Int), .agg (row4 s.f),
      .func (.func 65) #[] #[.pointer (some ⟨w.heap.size + 1 + 1 + 1 + 1 + 1, 0, none⟩)], .int .u8 (x.1 : Int), undef, undef, undef, undef, undef, undef, undef, undef, undef, undef, undef, undef, undef, undef], defers := [] }) ?assign ?body ?done ?stop
  case assign =>
    intro l x W K hK
    unfold encB
    gi_wp2
    exact hK
  case body =>
    rintro l0 k hk W ⟨hBk, hG⟩
    obtain ⟨p, hp, hp256, hps, htk⟩ := elems_at s k hk
    rw [hp]
    have hpN := hs p hp256 hps
    have hPk := (hG.block w.heap.size (by omega) (by simp; omega)).trans hP
    have hYk := (hG.block (w.heap.size + 1 + 1) (by omega) (by simp)).trans hY
    obtain ⟨ad, rfl, hset⟩ := hr.set (p := p) (by have := HLL.out; omega)
    have hsetk : ∀ j u, (setCells (labOf l p))[j]? = some u → W.cell? ((setAd ad p).add j) = some u := fun j u hu => by
      have h1 := hset j u hu
      have hlt := World.block_lt_of_cell? w _ h1
      have hb2 : W.heap[((setAd ad p).add j).block]? = w.heap[((setAd ad p).add j).block]? := (hG.block _ (by omega) (by simp; omega)).trans (hB0.block _ hlt)
      rw [← h1]
      simp only [World.cell?, hb2]
    have hWs := hG.size
    have HTK := Lib.hid htk
    have HBk := Lib.hid hBk
    have HG := Lib.hid hG
    have hWl : w.heap.size + 1 + 1 + 1 + 1 < W.heap.size := H4.lt hBk
    clear htk hp hBk hG hT4 hX hP hE hR hr4 hset hr
    gi_wp2_with fail
    refine region_round (S := fun W' => W'.heap[w.heap.size]? = some (.cells cs 64 (0, 0)) ∧ W'.heap[w.heap.size + 1 + 1]? = some (.cells #[.int .u8 (b.toNat : Int)] 5 (0, 0)) ∧ (∀ j u, (setCells (labOf l p))[j]? = some u → W'.cell? ((setAd ad p).add j) = some u) ∧ Below W.heap.size W W') (by kernel_rfl) (by kernel_rfl) (fun ⟨a, w, h⟩ => h.elim) ⟨hPk, hYk, hsetk, bl_drewN (Below.refl W.heap.size W) 1⟩ (fun hHeld => ?_)
    clear hPk hYk hsetk
    try simp only [List.getElem_toArray, List.getElem_cons_zero, List.getElem_cons_succ, Act.put, List.setIfInBounds_toArray, List.set_cons_zero, List.set_cons_succ]
    refine wpAnyH_take (i := 0) (v := ?vzx0) rfl (by kernel_rfl) (by kernel_rfl) (by kernel_rfl) (fun _ _ _ h => h) (Or.inl ⟨by rfl, ?yzx0⟩) hHeld ?rzx0
    case yzx0 => (intro wS hSw; clear hSw; go_simp; try (with_reducible rfl))
    try simp only [List.getElem_toArray, List.getElem_cons_zero, List.getElem_cons_succ, Act.put, List.setIfInBounds_toArray, List.set_cons_zero, List.set_cons_succ]
    refine wpAnyH_take (i := 1) (v := ?vzx1) rfl (by kernel_rfl) (by kernel_rfl) (by kernel_rfl) (fun _ _ _ h => h) (Or.inl ⟨by rfl, ?yzx1⟩) hHeld ?rzx1
    case yzx1 => (intro wS hSw; have q1 := (cell_of_row wS w.heap.size 9 _ _ _ hSw.1).trans hch.nodes; clear hSw; go_simp; try (with_reducible rfl))
    try simp only [List.getElem_toArray, List.getElem_cons_zero, List.getElem_cons_succ, Act.put, List.setIfInBounds_toArray, List.set_cons_zero, List.set_cons_succ]
    refine wpAnyH_take (i := 2) (v := ?vzx2) rfl (by kernel_rfl) (by kernel_rfl) (by kernel_rfl) (fun _ _ _ h => h) (Or.inl ⟨by rfl, ?yzx2⟩) hHeld ?rzx2
    case yzx2 => (intro wS hSw; clear hSw; go_simp; try (with_reducible rfl))
    try simp only [List.getElem_toArray, List.getElem_cons_zero, List.getElem_cons_succ, Act.put, List.setIfInBounds_toArray, List.set_cons_zero, List.set_cons_succ]
    refine wpAnyH_take (i := 3) (v := ?vzx3) rfl (by kernel_rfl) (by kernel_rfl) (by kernel_rfl) (fun _ _ _ h => h) (Or.inl ⟨by rfl, ?yzx3⟩) hHeld ?rzx3
    case yzx3 => (intro wS hSw; clear hSw; go_simp; try (with_reducible rfl))
    try simp only [List.getElem_toArray, List.getElem_cons_zero, List.getElem_cons_succ, Act.put, List.setIfInBounds_toArray, List.set_cons_zero, List.set_cons_succ]
    refine wpAnyH_take (i := 4) (v := ?vzx4) rfl (by kernel_rfl) (by kernel_rfl) (by kernel_rfl) (fun _ _ _ h => h) (Or.inl ⟨by rfl, ?yzx4⟩) hHeld ?rzx4
    case yzx4 => (intro wS hSw; clear hSw; go_simp; try (with_reducible rfl))
    try simp only [List.getElem_toArray, List.getElem_cons_zero, List.getElem_cons_succ, Act.put, List.setIfInBounds_toArray, List.set_cons_zero, List.set_cons_succ]
    refine wpAnyH_take (i := 5) (v := .agg (setCells (labOf l p)).toArray) rfl (by kernel_rfl) (by kernel_rfl) (by kernel_rfl) (fun _ _ _ h => h) (yields_mid 59 4 (by rfl) (.tmp 16) rfl (setAd ad p) rfl (setCells (labOf l p)) agg_set size_set rfl (fun w h => h.2.2.1)) hHeld ?_
    try simp only [List.getElem_toArray, List.getElem_cons_zero, List.getElem_cons_succ, Act.put, List.setIfInBounds_toArray, List.set_cons_zero, List.set_cons_succ]
    refine wpAnyH_take (i := 6) (v := ?vzx6) rfl (by kernel_rfl) (by kernel_rfl) (by kernel_rfl) (fun _ _ _ h => h) (Or.inl ⟨by rfl, ?yzx6⟩) hHeld ?rzx6
    case yzx6 => (intro wS hSw; have q1 := cell_of_row wS (w.heap.size + 1 + 1) 0 _ _ _ hSw.2.1; clear hSw; go_simp; try (with_reducible rfl))
    try simp only [List.getElem_toArray, List.getElem_cons_zero, List.getElem_cons_succ, Act.put, List.setIfInBounds_toArray, List.set_cons_zero, List.set_cons_succ]
    refine wpAnyH_ready (rs := [7]) (by kernel_rfl) (by simp) (AllReadyH.cons rfl (fun K hK => ?_) AllReadyH.nil)
    go_simp
    go_at_call 41
    refine (has_any (labOf l p).f b.toNat b.toNat_lt _).mono ?_
    rintro e w3 ⟨rfl, hb3⟩
    have hS1 : w3.heap[w.heap.size]? = some (.cells cs 64 (0, 0)) ∧ w3.heap[w.heap.size + 1 + 1]? = some (.cells #[.int .u8 (b.toNat : Int)] 5 (0, 0)) ∧ (∀ j u, (setCells (labOf l p))[j]? = some u → w3.cell? ((setAd ad p).add j) = some u) ∧ Below W.heap.size W w3 := ⟨(hb3.block _ (Array.getElem?_eq_some_iff.1 hHeld.1).1).trans hHeld.1, (hb3.block _ (Array.getElem?_eq_some_iff.1 hHeld.2.1).1).trans hHeld.2.1, fun j u hu => (hb3.cell (World.block_lt_of_cell? _ _ (hHeld.2.2.1 j u hu))).trans (hHeld.2.2.1 j u hu), bl_trans hHeld.2.2.2 hb3⟩
    clear hHeld hb3
    go_wp2_with fail
    refine hK.out _ _ hS1 (fun hHeld => ?_)
    clear hK K hS1
    refine wpAnyH_done (by kernel_rfl) ?_ _
    have hb3 := hHeld.2.2.2
    have H3 := Lib.hid (HBk.out.below hb3)
    have G3 := Lib.hid (grown_of_below hb3 (some (w.heap.size + 1 + 1 + 1 + 1)))
    have lw3 := hb3.size
    clear hHeld hb3
    have hgoal : has (labOf l p).f b.toNat = hasS (labOf l p) b.toNat := rfl
    rw [hgoal]
    cases hy : hasS (labOf l p) b.toNat with
    | false =>
      have hno := hereK_no (labOf l) s b.toNat k p HTK.out hy
      have HNO := Lib.hid hno
      clear hno hy hgoal
      gi_wp2_with fail
      have hbe := body_end (n0 := w.heap.size) (m := W0.heap.size) (W := W) G3.out HBk.out (by omega) (by omega) (by omega)
      exact ⟨hbe.1, hbe.2, by rw [HNO.out]; exact H3.out, HG.out.trans G3.out⟩
    | true =>
      have hyes := hereK_yes (labOf l) s b.toNat k p HTK.out hy
      have HYES := Lib.hid hyes
      clear hyes hy hgoal
      gi_wp2_with fail
      refine region_round (S := fun _ => True) (by kernel_rfl) (by kernel_rfl) (fun ⟨a, w, h⟩ => h.elim) trivial (fun _ => ?_)
      have HD : Hid (HS w3.drew (w.heap.size + 1 + 1 + 1 + 1) (hereK (labOf l) s b.toNat k)) := H3
      have GD : Hid (W.grownBy w3.drew (some (w.heap.size + 1 + 1 + 1 + 1))) := Lib.hid (G3.out.trans (grown_of_below (bl_drewN (Below.refl w3.heap.size w3) 1) (some (w.heap.size + 1 + 1 + 1 + 1))))
      clear H3 G3
      try simp only [List.getElem_toArray, List.getElem_cons_zero, List.getElem_cons_succ, Act.put, List.setIfInBounds_toArray, List.set_cons_zero, List.set_cons_succ]
      refine wpAnyH_take (i := 1) (v := .int .u8 (p : Int)) rfl (by kernel_rfl) (by kernel_rfl) (by kernel_rfl) (fun _ _ _ h => h) (.inl ⟨by rfl, fun _ _ => by rfl⟩) trivial ?_
      try simp only [List.getElem_toArray, List.getElem_cons_zero, List.getElem_cons_succ, Act.put, List.setIfInBounds_toArray, List.set_cons_zero, List.set_cons_succ]
      refine wpAnyH_ready (rs := [0, 2]) (by kernel_rfl) (by simp) (AllReadyH.cons rfl (fun K hK => ?_) (AllReadyH.cons rfl (fun K hK => ?_) AllReadyH.nil))
      · rw [if_pos (by rfl)]
        refine wp_load_row 59 _ rfl (w.heap.size + 1 + 1 + 1 + 1) rfl 59 _ (0, 0) _ HD.out Tryz.underlying59 rfl (by rw [size4, row4_size]) ?_
        refine hK.out _ _ trivial (fun _ => ?_)
        clear hK K
        try simp only [List.getElem_toArray, List.getElem_cons_zero, List.getElem_cons_succ, Act.put, List.setIfInBounds_toArray, List.set_cons_zero, List.set_cons_succ]
        refine wpAnyH_ready (rs := [2]) (by kernel_rfl) (by simp) (AllReadyH.cons rfl (fun K hK => ?_) AllReadyH.nil)
        go_simp
        refine hK.out _ _ trivial (fun _ => ?_)
        clear hK K
        try simp only [List.getElem_toArray, List.getElem_cons_zero, List.getElem_cons_succ, Act.put, List.setIfInBounds_toArray, List.set_cons_zero, List.set_cons_succ]
        refine wpAnyH_ready (rs := [3]) (by kernel_rfl) (by simp) (AllReadyH.cons rfl (fun K hK => ?_) AllReadyH.nil)
        go_simp
        go_at_call 56
        refine (of_nat p hp256 w3.drew).mono ?_
        rintro e w4 ⟨rfl, hb4⟩
        have bb4 := bl_trans (bl_alloc (Below.refl w3.drew.heap.size w3.drew) (.cells #[.int .u8 (p : Int)] 5)) hb4
        have H4' := Lib.hid (HD.out.below bb4)
        have G4 := Lib.hid (GD.out.trans (grown_of_below bb4 (some (w.heap.size + 1 + 1 + 1 + 1))))
        clear hb4 bb4
        go_wp2_with fail
        refine hK.out _ _ trivial (fun _ => ?_)
        clear hK K
        try simp only [List.getElem_toArray, List.getElem_cons_zero, List.getElem_cons_succ, Act.put, List.setIfInBounds_toArray, List.set_cons_zero, List.set_cons_succ]
        refine wpAnyH_ready (rs := [4]) (by kernel_rfl) (by simp) (AllReadyH.cons rfl (fun K hK => ?_) AllReadyH.nil)
        go_simp
        go_at_call 58
        refine (union_is (hereK (labOf l) s b.toNat k) (oneS p) _).mono ?_
        rintro e w5 ⟨rfl, hb5⟩
        have h5 := H4'.out.below hb5
        have g5 := G4.out.trans (grown_of_below hb5 (some (w.heap.size + 1 + 1 + 1 + 1)))
        clear hb5
        go_wp2_with fail
        refine hK.out _ _ trivial (fun _ => ?_)
        clear hK K
        try simp only [List.getElem_toArray, List.getElem_cons_zero, List.getElem_cons_succ, Act.put, List.setIfInBounds_toArray, List.set_cons_zero, List.set_cons_succ]
        refine wpAnyH_ready (rs := [5]) (by kernel_rfl) (by simp) (AllReadyH.cons rfl (fun K hK => ?_) AllReadyH.nil)
        rw [if_pos (by rfl)]
        refine wp_store_row 59 _ _ rfl (w.heap.size + 1 + 1 + 1 + 1) _ rfl rfl 59 _ h5 (by rw [size4, row4_size]) (by rw [row4_size, row4_size]) (row4_one _) ?_
        refine hK.out _ _ trivial (fun _ => ?_)
        clear hK K
        refine wpAnyH_done (by kernel_rfl) ?_ _
        have hrow := h5.laid (orS (hereK (labOf l) s b.toNat k) (oneS p))
        rw [← HYES.out] at hrow ⊢
        have hgr : w5.grownBy (w5.setRow (w.heap.size + 1 + 1 + 1 + 1) (row4 (hereK (labOf l) s b.toNat (k + 1)).f)) (some (w.heap.size + 1 + 1 + 1 + 1)) := ⟨rfl, rfl, rfl, by simp, fun i _ hi => setRow_other _ _ _ _ (fun e => hi (by rw [e]))⟩
        have hbe := body_end (n0 := w.heap.size) (m := W0.heap.size) (W := W) (g5.trans hgr) HBk.out (by omega) (by omega) (by omega)
        exact ⟨hbe.1, hbe.2, hrow, HG.out.trans (g5.trans hgr)⟩
      · go_simp
        refine hK.out _ _ trivial (fun _ => ?_)
        clear hK K
        try simp only [List.getElem_toArray, List.getElem_cons_zero, List.getElem_cons_succ, Act.put, List.setIfInBounds_toArray, List.set_cons_zero, List.set_cons_succ]
        refine wpAnyH_ready (rs := [0, 3]) (by kernel_rfl) (by simp) (AllReadyH.cons rfl (fun K hK => ?_) (AllReadyH.cons rfl (fun K hK => ?_) AllReadyH.nil))
        · rw [if_pos (by rfl)]
          refine wp_load_row 59 _ rfl (w.heap.size + 1 + 1 + 1 + 1) rfl 59 _ (0, 0) _ (H4.alloc HD.out _) Tryz.underlying59 rfl (by rw [size4, row4_size]) ?_
          refine hK.out _ _ trivial (fun _ => ?_)
          clear hK K
          try simp only [List.getElem_toArray, List.getElem_cons_zero, List.getElem_cons_succ, Act.put, List.setIfInBounds_toArray, List.set_cons_zero, List.set_cons_succ]
          refine wpAnyH_ready (rs := [3]) (by kernel_rfl) (by simp) (AllReadyH.cons rfl (fun K hK => ?_) AllReadyH.nil)
          go_simp
          go_at_call 56
          refine (of_nat p hp256 w3.drew).mono ?_
          rintro e w4 ⟨rfl, hb4⟩
          have bb4 := bl_trans (bl_alloc (Below.refl w3.drew.heap.size w3.drew) (.cells #[.int .u8 (p : Int)] 5)) hb4
          have H4' := Lib.hid (HD.out.below bb4)
          have G4 := Lib.hid (GD.out.trans (grown_of_below bb4 (some (w.heap.size + 1 + 1 + 1 + 1))))
          clear hb4 bb4
          go_wp2_with fail
          refine hK.out _ _ trivial (fun _ => ?_)
          clear hK K
          try simp only [List.getElem_toArray, List.getElem_cons_zero, List.getElem_cons_succ, Act.put, List.setIfInBounds_toArray, List.set_cons_zero, List.set_cons_succ]
          refine wpAnyH_ready (rs := [4]) (by kernel_rfl) (by simp) (AllReadyH.cons rfl (fun K hK => ?_) AllReadyH.nil)
          go_simp
          go_at_call 58
          refine (union_is (hereK (labOf l) s b.toNat k) (oneS p) _).mono ?_
          rintro e w5 ⟨rfl, hb5⟩
          have h5 := H4'.out.below hb5
          have g5 := G4.out.trans (grown_of_below hb5 (some (w.heap.size + 1 + 1 + 1 + 1)))
          clear hb5
          go_wp2_with fail
          refine hK.out _ _ trivial (fun _ => ?_)
          clear hK K
          try simp only [List.getElem_toArray, List.getElem_cons_zero, List.getElem_cons_succ, Act.put, List.setIfInBounds_toArray, List.set_cons_zero, List.set_cons_succ]
          refine wpAnyH_ready (rs := [5]) (by kernel_rfl) (by simp) (AllReadyH.cons rfl (fun K hK => ?_) AllReadyH.nil)
          rw [if_pos (by rfl)]
          refine wp_store_row 59 _ _ rfl (w.heap.size + 1 + 1 + 1 + 1) _ rfl rfl 59 _ h5 (by rw [size4, row4_size]) (by rw [row4_size, row4_size]) (row4_one _) ?_
          refine hK.out _ _ trivial (fun _ => ?_)
          clear hK K
          refine wpAnyH_done (by kernel_rfl) ?_ _
          have hrow := h5.laid (orS (hereK (labOf l) s b.toNat k) (oneS p))
          rw [← HYES.out] at hrow ⊢
          have hgr : w5.grownBy (w5.setRow (w.heap.size + 1 + 1 + 1 + 1) (row4 (hereK (labOf l) s b.toNat (k + 1)).f)) (some (w.heap.size + 1 + 1 + 1 + 1)) := ⟨rfl, rfl, rfl, by simp, fun i _ hi => setRow_other _ _ _ _ (fun e => hi (by rw [e]))⟩
          have hbe := body_end (n0 := w.heap.size) (m := W0.heap.size) (W := W) (g5.trans hgr) HBk.out (by omega) (by omega) (by omega)
          exact ⟨hbe.1, hbe.2, hrow, HG.out.trans (g5.trans hgr)⟩
        · go_simp
          go_at_call 56
          refine (of_nat p hp256 w3.drew).mono ?_
          rintro e w4 ⟨rfl, hb4⟩
          have bb4 := bl_trans (bl_alloc (Below.refl w3.drew.heap.size w3.drew) (.cells #[.int .u8 (p : Int)] 5)) hb4
          have H4' := Lib.hid (HD.out.below bb4)
          have G4 := Lib.hid (GD.out.trans (grown_of_below bb4 (some (w.heap.size + 1 + 1 + 1 + 1))))
          clear hb4 bb4
          go_wp2_with fail
          refine hK.out _ _ trivial (fun _ => ?_)
          clear hK K
          try simp only [List.getElem_toArray, List.getElem_cons_zero, List.getElem_cons_succ, Act.put, List.setIfInBounds_toArray, List.set_cons_zero, List.set_cons_succ]
          refine wpAnyH_ready (rs := [0]) (by kernel_rfl) (by simp) (AllReadyH.cons rfl (fun K hK => ?_) AllReadyH.nil)
          rw [if_pos (by rfl)]
          refine wp_load_row 59 _ rfl (w.heap.size + 1 + 1 + 1 + 1) rfl 59 _ (0, 0) _ H4'.out Tryz.underlying59 rfl (by rw [size4, row4_size]) ?_
          refine hK.out _ _ trivial (fun _ => ?_)
          clear hK K
          try simp only [List.getElem_toArray, List.getElem_cons_zero, List.getElem_cons_succ, Act.put, List.setIfInBounds_toArray, List.set_cons_zero, List.set_cons_succ]
          refine wpAnyH_ready (rs := [4]) (by kernel_rfl) (by simp) (AllReadyH.cons rfl (fun K hK => ?_) AllReadyH.nil)
          go_simp
          go_at_call 58
          refine (union_is (hereK (labOf l) s b.toNat k) (oneS p) _).mono ?_
          rintro e w5 ⟨rfl, hb5⟩
          have h5 := H4'.out.below hb5
          have g5 := G4.out.trans (grown_of_below hb5 (some (w.heap.size + 1 + 1 + 1 + 1)))
          clear hb5
          go_wp2_with fail
          refine hK.out _ _ trivial (fun _ => ?_)
          clear hK K
          try simp only [List.getElem_toArray, List.getElem_cons_zero, List.getElem_cons_succ, Act.put, List.setIfInBounds_toArray, List.set_cons_zero, List.set_cons_succ]
          refine wpAnyH_ready (rs := [5]) (by kernel_rfl) (by simp) (AllReadyH.cons rfl (fun K hK => ?_) AllReadyH.nil)
          rw [if_pos (by rfl)]
          refine wp_store_row 59 _ _ rfl (w.heap.size + 1 + 1 + 1 + 1) _ rfl rfl 59 _ h5 (by rw [size4, row4_size]) (by rw [row4_size, row4_size]) (row4_one _) ?_
          refine hK.out _ _ trivial (fun _ => ?_)
          clear hK K
          refine wpAnyH_done (by kernel_rfl) ?_ _
          have hrow := h5.laid (orS (hereK (labOf l) s b.toNat k) (oneS p))
          rw [← HYES.out] at hrow ⊢
          have hgr : w5.grownBy (w5.setRow (w.heap.size + 1 + 1 + 1 + 1) (row4 (hereK (labOf l) s b.toNat (k + 1)).f)) (some (w.heap.size + 1 + 1 + 1 + 1)) := ⟨rfl, rfl, rfl, by simp, fun i _ hi => setRow_other _ _ _ _ (fun e => hi (by rw [e]))⟩
          have hbe := body_end (n0 := w.heap.size) (m := W0.heap.size) (W := W) (g5.trans hgr) HBk.out (by omega) (by omega) (by omega)
          exact ⟨hbe.1, hbe.2, hrow, HG.out.trans (g5.trans hgr)⟩
  case done =>
    rintro D W hD ⟨hBk, hG⟩ hK
    have hfull : hereK (labOf l) s b.toNat (finL (elems s.f)).length = hereS (labOf l) s b.toNat := by
      unfold hereK hereS
      rw [finL_len, List.take_length]
    rw [hfull] at hBk
    have hRk : HS W (w.heap.size + 1 + 1 + 1) nilS := (hG.block (w.heap.size + 1 + 1 + 1) (by omega) (by simp)).trans hR
    have HK := Lib.hid hK
    have H1 := Lib.hid hRk
    have H2 := Lib.hid hBk
    have HG := Lib.hid hG
    clear hK hRk hBk hG hT4 hX hP hE hr4 hr hR
    gi_wp2_with (first
      | (refine wpListIn_load_row rfl 59 _ rfl (w.heap.size + 1 + 1 + 1 + 1) rfl _ _ (0, 0) _ H2.out Tryz.underlying59 rfl (by rw [size4, row4_size]) ?_)
      | (refine wpListIn_store_row rfl 59 _ _ rfl (w.heap.size + 1 + 1 + 1) _ rfl rfl _ _ H1.out (by rw [size4, row4_size]) (by rw [row4_size, row4_size]) (row4_one _) ?_))
    have hsr := H1.out.laid (hereS (labOf l) s b.toNat)
    have hKs : (W.setRow (w.heap.size + 1 + 1 + 1) (row4 (hereS (labOf l) s b.toNat).f)).heap[D]? = some (.deferred (some [])) := by rw [setRow_other _ _ _ _ (by omega)]; exact HK.out
    refine ⟨by simp, .inl ⟨_, _, rfl, run_takeDeferred hKs, ?_⟩⟩
    refine ⟨encS (hereS (labOf l) s b.toNat), ?_, rfl, ?_⟩
    · refine results_cell_row rfl _ _ (w.heap.size + 1 + 1 + 1) 59 _ (0, 0) _ rfl ?_ Tryz.underlying59 rfl (by rw [size4, row4_size])
      rw [World.putObj_heap_other (by omega)]
      exact hsr
    · have hbl : Below w.heap.size w W := hB0.grown HG.out (by omega) (fun k e => by cases e; omega)
      exact (bl_setRow hbl (by omega) _).trans (belowK_b (w := w) (Nat.le_refl _) _ D _ _ (by omega) hKs rfl rfl)
  case stop =>
    rintro D c k W _ _ h _
    exact h.elim

end Go.Proofs.YtjibfffefppniaaGreatDoor
