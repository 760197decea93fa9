/- The statements' list of what All tells, over the translated program. It wants math/bits' table as it was laid. -/
import Derived.RangeFuncBox
import Derived.Test.YtcgoacfcdlbhdabDoorSetJ
set_option linter.unusedVariables false
set_option linter.unusedSimpArgs false
namespace Go.Proofs.YtcgoacfcdlbhdabDoor
open Go.RowKit Go.Shelf
attribute [local go_sem] Oper.semAt_some

/-- The bytes of a set, as bytes. -/
def bytesL (f : Nat → BitVec 64) : List UInt8 := (elems f).map UInt8.ofNat
theorem bytesL_len (f : Nat → BitVec 64) : (bytesL f).length = (elems f).length := by simp [bytesL]
theorem bytesL_nat (f : Nat → BitVec 64) : natL (bytesL f) = elems f := by
  unfold natL bytesL
  rw [List.map_map]
  conv => rhs; rw [← List.map_id (elems f)]
  apply List.map_congr_left
  intro c hc
  have := elems_lt f c hc
  show (UInt8.ofNat c).toNat = c
  simpa using this
theorem bytesL_at (f : Nat → BitVec 64) (k : Nat) (h : k < (finL (elems f)).length) (h2 : k < (bytesL f).length) : Value.int .u8 (((finL (elems f))[k]).1 : Int) = bv ((bytesL f)[k]) := by
  have h3 : k < (elems f).length := by rw [← bytesL_len]; exact h2
  have := elems_lt f _ (List.getElem_mem h3)
  unfold bv
  simp only [finL, finB, bytesL, List.getElem_map]
  congr 2
theorem elems_le' (f : Nat → BitVec 64) : (elems f).length ≤ 256 := by
  unfold elems
  have := List.length_filter_le (has f) (List.range 256)
  simpa using this

/-- A box that holds a slice of bytes of its own. -/
def HoldsB (base B : Nat) (l : List UInt8) (W : World) : Prop := ∃ v, Boxed W B 34 v ∧ Own W base v l
theorem Own.notSet {W : World} {base : Nat} {v : Value} {l : List UInt8} (h : Own W base v l) {i : Nat} (hi : IsSet W i) : v.ownBlock ≠ some i := by
  rcases h.2 with ⟨rfl, _⟩ | ⟨g, cap, cur, rfl, _, hgb, _⟩
  · simp [Value.ownBlock]
  · intro e
    obtain rfl : g = i := by simpa [Value.ownBlock] using e
    obtain ⟨cs, hc⟩ := hi
    rw [hgb] at hc
    simp at hc
theorem Own.isCells {W : World} {base : Nat} {v : Value} {l : List UInt8} (h : Own W base v l) {i : Nat} {o : Obj} (hi : W.heap[i]? = some o) (ho : o.isCells = false) : v.ownBlock ≠ some i := by
  rcases h.2 with ⟨rfl, _⟩ | ⟨g, cap, cur, rfl, _, hgb, _⟩
  · simp [Value.ownBlock]
  · intro e
    obtain rfl : g = i := by simpa [Value.ownBlock] using e
    rw [hgb] at hi
    cases hi
    cases ho
theorem boxed_notSet {W : World} {B : Nat} {v : Value} (h : Boxed W B 34 v) {i : Nat} (hi : IsSet W i) : B ≠ i := by
  rintro rfl
  obtain ⟨cs, hc⟩ := hi
  rw [show W.heap[B]? = _ from h] at hc
  simp at hc
theorem boxed_notCells {W : World} {B : Nat} {t : TypeId} {v : Value} (h : Boxed W B t v) {i : Nat} {o : Obj} (hi : W.heap[i]? = some o) (ho : o.isCells = false) : B ≠ i := by
  rintro rfl
  rw [show W.heap[B]? = _ from h] at hi
  cases hi
  cases ho
theorem abT_holds (n base B : Nat) (l : Nat → List UInt8) : AbT n (fun k W => HoldsB base B (l k) W) := by
  rintro k X Y row ⟨v, hv, ho⟩ hg hr
  refine ⟨v, hv.kept hg (fun e => ?_), ho.kept hg ?_⟩
  · obtain ⟨_, o, h1, h2⟩ := hr B e.symm
    rcases h2 with h2 | h2
    · exact boxed_notCells hv h1 h2 rfl
    · exact boxed_notSet hv h2 rfl
  · cases hb : v.ownBlock with
    | none => exact .inl rfl
    | some g =>
      refine .inr fun e => ?_
      obtain ⟨_, o, h1, h2⟩ := hr g e.symm
      rcases h2 with h2 | h2
      · exact ho.isCells h1 h2 hb
      · exact ho.notSet h2 hb

theorem func_nil (B : Nat) (w : World) : (binOp .eql 42 (.func (.func 24) #[] #[.pointer (some ⟨B, 0, none⟩)]) .nilFunc).run Tryd.prog w = .ok (.bool false) w := by kernel_rfl

set_option maxRecDepth 100000 in
set_option maxHeartbeats 4000000 in
theorem all_any (f : Nat → BitVec 64) (w : World) (hT : Tab w) :
    Calls Tryd.prog 12 #[.agg (row4 f)] w fun e w' => ∃ v, e = .returned v ∧ Own w' w.heap.size v (bytesL f) ∧ Below w.heap.size w w' := by
  refine (callsIn_wide (n := 4)).1 ?_
  refine callsIn_of_wp_marks Tryd.func12 rfl trivial ?_ rfl
  simp only [Tryd.ntmps12, List.size_toArray, List.length_cons, List.length_nil, Nat.reduceAdd, Nat.reduceSub, Array.replicate_succ, Array.replicate_zero, List.push_toArray, List.append_toArray, List.nil_append, List.cons_append]
  have hA := (H4.new w f).alloc (.cells #[.slice none 0 0] 34)
  have hA2 := hA.alloc (.cells (row4 f) 25)
  have HA := Lib.hid hA
  have HA2 := Lib.hid hA2
  clear hA hA2
  have hfn := fun (B : Nat) (W : World) => func_nil B W
  gi_wp2_with (first
    | (refine wpListIn_load_row rfl 25 _ rfl w.heap.size rfl _ _ (0, 0) _ HA.out Tryd.underlying25 rfl (by rw [size4, row4_size]) ?_)
    | (refine wpListIn_load_row rfl 25 _ rfl w.heap.size rfl _ _ (0, 0) _ HA2.out Tryd.underlying25 rfl (by rw [size4, row4_size]) ?_)
    | (refine ⟨trivial, ?_⟩; gi_at_call 22; refine (callsIn_wide.2 (all_make f _)).mono ?_; rintro e w' ⟨rfl, rfl⟩))
  clear hfn
  have hX := H4.new ((((w.alloc (.cells (row4 f) 25)).alloc (.cells #[.slice none 0 0] 34)).alloc (.cells (row4 f) 25))) f
  have hb := (Boxed.new (w.alloc (.cells (row4 f) 25)) 34 (.slice none 0 0)).alloc (.cells (row4 f) 25) |>.alloc (.cells (row4 f) 25)
  have hB := bl_alloc (bl_alloc (bl_alloc (bl_alloc (Below.refl w.heap.size w) (.cells (row4 f) 25)) (.cells #[.slice none 0 0] 34)) (.cells (row4 f) 25)) (.cells (row4 f) 25)
  simp only [World.size_alloc] at hX hb
  have hT4 := hT.below hB
  have hTb : 0 < w.heap.size := World.block_lt_of_cell? w _ (hT 0 (by omega))
  have hs4 : ((((w.alloc (.cells (row4 f) 25)).alloc (.cells #[.slice none 0 0] 34)).alloc (.cells (row4 f) 25)).alloc (.cells (row4 f) 25)).heap.size = w.heap.size + 4 := by simp
  clear HA HA2
  generalize (((w.alloc (.cells (row4 f) 25)).alloc (.cells #[.slice none 0 0] 34)).alloc (.cells (row4 f) 25)).alloc (.cells (row4 f) 25) = W0 at *
  have hlL : (finL (elems f)).length = (bytesL f).length := by rw [finL_len, bytesL_len]
  have hl256 : (bytesL f).length ≤ 256 := by rw [bytesL_len]; exact elems_le' f
  obtain ⟨i0, hi, hz0, hz1, hz2⟩ := info_parts info_u8
  refine wp_told (n := 4) (by omega) (gf := 24) (lb := #[.pointer (some ⟨w.heap.size + 1 + 1 + 1, 0, none⟩)]) rfl (enters_of Tryd.func24 (by kernel_rfl) rfl)
    (all_tell 3 (w.heap.size + 1 + 1 + 1) w.heap.size f (by omega) W0 hB.size hX hT4 hTb) (Below.refl _ _) hB.size rfl
    (fun k W => HoldsB w.heap.size (w.heap.size + 1) ((bytesL f).take k) W ∧ Below w.heap.size w W) (fun _ _ _ => False)
    (AbT.and (abT_holds _ _ _ (fun k => (bytesL f).take k)) (abT_below (Nat.le_refl _) hB.size)) (fun _ _ _ _ _ hs _ _ => hs)
    ⟨⟨_, hb, by rw [List.take_zero]; exact Own.nil _ _⟩, hB⟩
    (fun x => { tmps := #[.agg (row4 f), .pointer (some ⟨w.heap.size, 0, none⟩), .slice none 0 0, .pointer (some ⟨w.heap.size + 1, 0, none⟩), .int .u8 (x.1 : Int), .agg (row4 f),
      .func (.func 24) #[] #[.pointer (some ⟨w.heap.size + 1 + 1, 0, none⟩)], .bool false, .agg (row4 f),
      .func (.func 24) #[] #[.pointer (some ⟨w.heap.size + 1 + 1 + 1, 0, none⟩)], .int .u8 (x.1 : Int), undef, undef, undef, undef, undef], defers := [] }) ?assign ?body ?done ?stop
  case assign =>
    intro l x W K hK
    unfold encB
    gi_wp2
    exact hK
  case body =>
    rintro l k hk W ⟨⟨v, hv, hrow⟩, hBw⟩
    have hkb : k < (bytesL f).length := by omega
    have hx := bytesL_at f k hk hkb
    have htk : (bytesL f).take (k + 1) = (bytesL f).take k ++ [(bytesL f)[k]] := by rw [List.take_add_one]; simp [hkb]
    have hlt : ((bytesL f).take k).length = k := by rw [List.length_take]; omega
    unfold Own at hrow
    rw [hlt] at hrow
    have hc := hv.cell
    generalize (finL (elems f))[k] = x at *
    generalize (bytesL f)[k] = y at *
    have HX := Lib.hid hx
    have HTK := Lib.hid htk
    have HB := Lib.hid hBw
    clear hx htk hBw hB hX hb hT hT4
    gi_wp2_with (gi_at_builtin; refine wpListIn_append_own _ rfl _ _ 34 rfl w.heap.size 5 i0 (.int .u8 0) 1 1 Tryd.underlying34 hi hz0 hz1 hz2 rfl (by decide) _ _ _ rfl (hrow.alloc _) ⟨W.heap.size, 0, none⟩ 1 1 [.int .u8 (x.1 : Int)] rfl rfl (cell_one_new _ _ _) (by simp [Value.oneCell']) (by unfold maxLen; omega) (by omega) (by have := HB.out.size; simp; omega) ?_; intro v' w1 hown' hgrow _; obtain ⟨g', cap', rfl⟩ := ownsRow_succ hown'; obtain ⟨hv1, hv2, hr2, hk2, hb2⟩ := hv.appended (by decide) hrow HB.out.size (by omega) hown' hgrow; have hc1 := hv1.cell; have hf1 := hv1.frozen)
    refine ⟨hk2, ⟨hb2, fun i hi => ?_⟩, ⟨_, hv2, ?_⟩, HB.out.trans hb2⟩
    · have h1 : w.heap.size + 1 ≠ i := boxed_notSet hv hi
      have h2 : v.ownBlock ≠ some i := Own.notSet (l := (bytesL f).take k) (by unfold Own; rw [hlt]; exact hrow) hi
      have h3 : i < W.heap.size := by obtain ⟨cs, e⟩ := hi; exact (Array.getElem?_eq_some_iff.1 e).1
      rw [Below.heap_setCell _ _ _ _ (show i ≠ (⟨w.heap.size + 1, 0, none⟩ : Addr).block from fun e => h1 e.symm)]
      rw [hgrow.block i (by rw [World.size_alloc]; omega) (fun e => h2 e.symm)]
      exact Below.heap_alloc _ _ _ h3
    · rw [HTK.out]
      unfold Own
      rw [List.length_append, hlt, List.map_append]
      simp only [List.length_singleton, List.map_cons, List.map_nil]
      rw [← HX.out]
      exact hr2
  case done =>
    rintro D W hD ⟨⟨v, hv, hrow⟩, hBw⟩ hK
    rw [hlL, List.take_length] at hrow
    have hc := hv.cell
    have HB := Lib.hid hBw
    clear hBw hB hX hb hT hT4
    gi_wp2
    refine ⟨by simp, .inl ⟨_, _, rfl, run_takeDeferred hK, ?_⟩⟩
    exact ⟨_, results_tmp rfl _ _ _, v, rfl, ownsRow_putObj hrow _ hK rfl, HB.out.trans (belowK_b (w := w) (Nat.le_refl _) W D _ _ (by omega) hK rfl rfl)⟩
  case stop =>
    rintro D c k W _ _ h _
    exact h.elim

end Go.Proofs.YtcgoacfcdlbhdabDoor
