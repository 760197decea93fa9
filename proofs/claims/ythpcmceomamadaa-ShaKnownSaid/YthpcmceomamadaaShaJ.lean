/- The words that are made of the first primes: Begin, roundWords. No condition. -/
import Derived.Test.YthpcmceomamadaaShaI
set_option linter.unusedVariables false
set_option linter.unusedSimpArgs false
namespace Go.Proofs.Ythpcmceomamadaa
open Go.RowKit Go.Shelf
attribute [local go_sem] Oper.semAt_some

def tab8 : Array Value := Array.replicate 8 (.int .u32 0)
def tab64 : Array Value := Array.replicate 64 (.int .u32 0)
theorem zero8 (w : World) : (zeroValue 31).run Try.prog w = .ok (.agg tab8) w := by kernel_rfl
theorem zero64 (w : World) : (zeroValue 57).run Try.prog w = .ok (.agg tab64) w := by kernel_rfl
theorem size8 : (Try.prog.info? 31).map (·.size) = some 8 := by kernel_rfl
theorem size64 : (Try.prog.info? 57).map (·.size) = some 64 := by kernel_rfl

/-- An array of words. -/
def agW (l : List (BitVec 32)) : Value := .agg (l.map wv).toArray
def hE : List (BitVec 32) := (List.range 8).map hW
def GotW (w : World) (l : List (BitVec 32)) (e : Ending) (w' : World) : Prop := e = .returned (agW l) ∧ Below w.heap.size w w'

theorem row_kept {W W' : World} {row : Option Nat} {i : Nat} {cs : Array Value} {t : TypeId} {fr : Nat × Nat} (h : W.heap[i]? = some (.cells cs t fr)) (hg : W.grownBy W' row)
    (hr : ∀ r, row = some r → ∃ o : Obj, W.heap[r]? = some o ∧ o.isCells = false) : W'.heap[i]? = some (.cells cs t fr) := by
  have hlt : i < W.heap.size := (Array.getElem?_eq_some_iff.1 h).1
  rw [hg.block i hlt]
  · exact h
  · intro e
    obtain ⟨o, ho, hc⟩ := hr i e.symm
    rw [h] at ho
    cases ho
    cases hc

theorem all_one (l : List (BitVec 32)) : (l.map wv).toArray.all (·.oneCell') = true := by
  simp only [List.all_toArray, List.all_map, List.all_eq_true]
  intro x _
  rfl

set_option maxRecDepth 100000 in
set_option maxHeartbeats 2000000 in
theorem begin_any (w : World) : Calls Try.prog 15 #[] w (GotW w hE) := by
  refine (callsIn_wide (n := 4)).1 ?_
  refine callsIn_of_wp_marks Try.func15 rfl trivial ?_ rfl
  simp only [Try.ntmps15, List.size_toArray, List.length_nil, Nat.reduceSub, Array.replicate_succ, Array.replicate_zero, List.push_toArray, List.append_toArray, List.nil_append, List.cons_append]
  have hz := zero8
  gi_wp2_with (refine ⟨trivial, ?_⟩; gi_at_call 33; refine (callsIn_wide.2 (firstPrimes_any 8 _)).mono ?_; rintro e w' ⟨rfl, rfl⟩)
  clear hz
  obtain ⟨W0, hW0⟩ : ∃ W0, ((w.alloc (.cells tab8 31)).alloc (.cells tab8 31)).alloc (.cells #[.int .i64 8] 3) = W0 := ⟨_, rfl⟩
  have hB0 : Below w.heap.size w W0 := by rw [← hW0]; exact bl_alloc (bl_alloc (bl_alloc (Below.refl _ _) _) _) _
  have hsz : W0.heap.size = w.heap.size + 3 := by rw [← hW0]; simp
  have hr0 : W0.heap[w.heap.size]? = some (.cells tab8 31) := by rw [← hW0, Below.heap_alloc _ _ _ (by simp; omega), Below.heap_alloc _ _ _ (by simp)]; exact heap_alloc_new w _
  have hh0 : W0.heap[w.heap.size + 1]? = some (.cells tab8 31) := by rw [← hW0, Below.heap_alloc _ _ _ (by simp)]; exact heap_alloc2_new w _ _
  have hcb : W0.cell? ⟨w.heap.size + 1 + 1, 0, none⟩ = some (.int .i64 ((8 : Nat) : Int)) := by rw [← hW0]; have h := heap_alloc2_new (w.alloc (.cells tab8 31)) (.cells tab8 31) (.cells #[.int .i64 8] 3); rw [World.size_alloc] at h; exact cell_of_row _ _ 0 #[.int .i64 8] 3 (0, 0) h
  rw [hW0]
  refine wpIn_rangeFunc_ownF rfl (by omega) (gf := 52) (lb := #[.pointer (some ⟨w.heap.size + 1 + 1, 0, none⟩)]) rfl trivial (enters_of Try.func52 (by kernel_rfl) rfl)
    (first_stops _ 8 (w.heap.size + 1 + 1) W0.heap.size (w.heap.size + 1) (by omega) (by omega) (by omega) (by omega) W0 (by omega) hcb) kpX_t (kpX_b (Nat.le_refl _)) (Below.refl _ _) (fun _ => rfl)
    (fun pre W => (W.heap[w.heap.size + 1]? = some (.cells (putW hW pre tab8) 31) ∧ W.heap[w.heap.size]? = some (.cells tab8 31)) ∧ Below w.heap.size w W)
    (fun _ _ _ => False)
    (OwnFrom.and (Own.from (fun s A B row hs hg hr => ⟨row_kept hs.1 hg hr, row_kept hs.2 hg hr⟩) _) (ownFrom_below (Nat.le_refl _) (by omega)))
    (fun _ _ _ _ _ hs _ _ => hs)
    ⟨⟨hh0, hr0⟩, hB0⟩
    (fun x => { tmps := #[.pointer (some ⟨w.heap.size, 0, none⟩), .pointer (some ⟨w.heap.size + 1, 0, none⟩), .int .i64 (x.1 : Int), .int .i64 (prime x.1 : Int), .func (.func 52) #[] #[.pointer (some ⟨w.heap.size + 1 + 1, 0, none⟩)], .int .i64 (x.1 : Int), .int .i64 (prime x.1 : Int), undef, undef, undef, undef, undef], defers := [] }) ?assign ?body ?done ?stop
  case assign =>
    intro l x W K hK
    unfold encP
    gi_wp2
    exact hK
  case body =>
    rintro l pre x W ⟨⟨hh, hr⟩, hB⟩ _
    have hx8 : x.1 < 8 := x.2
    obtain ⟨pb1, pb2⟩ := prime_bound x.1 (by omega)
    obtain ⟨v0, hv0⟩ : ∃ v, (putW hW pre tab8)[x.1]? = some v := ⟨_, Array.getElem?_eq_getElem (by rw [putW_size]; exact hx8)⟩
    have hc : W.cell? ⟨w.heap.size + 1, x.1, none⟩ = some v0 := by rw [cell_of_row W _ _ _ _ _ hh]; exact hv0
    have hf : W.frozen? ⟨w.heap.size + 1, x.1, none⟩ = false := frozen_of_row W _ _ _ _ hh
    have HH := Lib.hid hh
    have HR := Lib.hid hr
    clear hh hr hv0
    gi_wp2_with (refine ⟨trivial, ?_⟩; gi_at_call 27; refine (CallsIn.inRound l (callsIn_wide.2 (root_any 2 (prime x.1) (by decide) (by omega) _))).mono ?_; rintro e w' ⟨rfl, rfl⟩)
    refine ⟨KeepsOthers.setCell _ _ _, kpX_set _ _ _ _ _, ⟨?_, ?_⟩, hB.setCell (p := ⟨w.heap.size + 1, x.1, none⟩) (by simp) _⟩
    · rw [putW_snoc]
      exact heap_setCell_same W _ _ _ _ _ HH.out
    · rw [Below.heap_setCell _ _ _ _ (by simp)]
      exact HR.out
  case done =>
    rintro D xs W hD rfl ⟨⟨hh, hr⟩, hB⟩ hK
    rw [putW_all 8 hW tab8 (by decide)] at hh
    have HK := Lib.hid hK
    have HH := Lib.hid hh
    have HR := Lib.hid hr
    clear hK hh hr
    gi_wp2_with (first
      | (refine wpListIn_load_row rfl 31 _ rfl (w.heap.size + 1) rfl _ _ (0, 0) _ HH.out Try.underlying31 rfl (by rw [size8]; rfl) ?_)
      | (refine wpListIn_store_row rfl 31 _ _ rfl w.heap.size _ rfl rfl _ _ HR.out (by rw [size8]; rfl) rfl (all_one _) ?_))
    have hsr : (W.setRow w.heap.size (((List.range 8).map hW).map wv).toArray).heap[w.heap.size]? = some (.cells (((List.range 8).map hW).map wv).toArray 31) := setRow_heap _ _ _ _ _ _ HR.out
    have hD2 : D ≠ w.heap.size := by omega
    have hKs : (W.setRow w.heap.size (((List.range 8).map hW).map wv).toArray).heap[D]? = some (.deferred (some [])) := by rw [setRow_other _ _ _ _ hD2]; exact HK.out
    refine ⟨by simp, .inl ⟨_, _, rfl, run_takeDeferred hKs, ?_⟩⟩
    refine ⟨agW hE, ?_, rfl, ?_⟩
    · refine results_cell_row rfl _ _ w.heap.size 31 _ (0, 0) _ rfl ?_ Try.underlying31 rfl (by rw [size8]; rfl)
      rw [World.putObj_heap_other (by omega)]
      exact hsr
    · exact (bl_setRow hB (Nat.le_refl _) _).trans (belowK_b (w := w) (Nat.le_refl _) _ D _ _ (by omega) hKs rfl rfl)
  case stop =>
    rintro D c pre W _ _ h _
    exact h.elim

set_option maxRecDepth 100000 in
set_option maxHeartbeats 2000000 in
theorem roundWords_any (w : World) : Calls Try.prog 35 #[] w (GotW w kE) := by
  refine (callsIn_wide (n := 4)).1 ?_
  refine callsIn_of_wp_marks Try.func35 rfl trivial ?_ rfl
  simp only [Try.ntmps35, List.size_toArray, List.length_nil, Nat.reduceSub, Array.replicate_succ, Array.replicate_zero, List.push_toArray, List.append_toArray, List.nil_append, List.cons_append]
  have hz := zero64
  gi_wp2_with (refine ⟨trivial, ?_⟩; gi_at_call 33; refine (callsIn_wide.2 (firstPrimes_any 64 _)).mono ?_; rintro e w' ⟨rfl, rfl⟩)
  clear hz
  obtain ⟨W0, hW0⟩ : ∃ W0, ((w.alloc (.cells tab64 57)).alloc (.cells tab64 57)).alloc (.cells #[.int .i64 64] 3) = W0 := ⟨_, rfl⟩
  have hB0 : Below w.heap.size w W0 := by rw [← hW0]; exact bl_alloc (bl_alloc (bl_alloc (Below.refl _ _) _) _) _
  have hsz : W0.heap.size = w.heap.size + 3 := by rw [← hW0]; simp
  have hr0 : W0.heap[w.heap.size]? = some (.cells tab64 57) := by rw [← hW0, Below.heap_alloc _ _ _ (by simp; omega), Below.heap_alloc _ _ _ (by simp)]; exact heap_alloc_new w _
  have hh0 : W0.heap[w.heap.size + 1]? = some (.cells tab64 57) := by rw [← hW0, Below.heap_alloc _ _ _ (by simp)]; exact heap_alloc2_new w _ _
  have hcb : W0.cell? ⟨w.heap.size + 1 + 1, 0, none⟩ = some (.int .i64 ((64 : Nat) : Int)) := by rw [← hW0]; have h := heap_alloc2_new (w.alloc (.cells tab64 57)) (.cells tab64 57) (.cells #[.int .i64 64] 3); rw [World.size_alloc] at h; exact cell_of_row _ _ 0 #[.int .i64 64] 3 (0, 0) h
  rw [hW0]
  refine wpIn_rangeFunc_ownF rfl (by omega) (gf := 52) (lb := #[.pointer (some ⟨w.heap.size + 1 + 1, 0, none⟩)]) rfl trivial (enters_of Try.func52 (by kernel_rfl) rfl)
    (first_stops _ 64 (w.heap.size + 1 + 1) W0.heap.size (w.heap.size + 1) (by omega) (by omega) (by omega) (by omega) W0 (by omega) hcb) kpX_t (kpX_b (Nat.le_refl _)) (Below.refl _ _) (fun _ => rfl)
    (fun pre W => (W.heap[w.heap.size + 1]? = some (.cells (putW kW pre tab64) 57) ∧ W.heap[w.heap.size]? = some (.cells tab64 57)) ∧ Below w.heap.size w W)
    (fun _ _ _ => False)
    (OwnFrom.and (Own.from (fun s A B row hs hg hr => ⟨row_kept hs.1 hg hr, row_kept hs.2 hg hr⟩) _) (ownFrom_below (Nat.le_refl _) (by omega)))
    (fun _ _ _ _ _ hs _ _ => hs)
    ⟨⟨hh0, hr0⟩, hB0⟩
    (fun x => { tmps := #[.pointer (some ⟨w.heap.size, 0, none⟩), .pointer (some ⟨w.heap.size + 1, 0, none⟩), .int .i64 (x.1 : Int), .int .i64 (prime x.1 : Int), .func (.func 52) #[] #[.pointer (some ⟨w.heap.size + 1 + 1, 0, none⟩)], .int .i64 (x.1 : Int), .int .i64 (prime x.1 : Int), undef, undef, undef, undef, undef], defers := [] }) ?assign ?body ?done ?stop
  case assign =>
    intro l x W K hK
    unfold encP
    gi_wp2
    exact hK
  case body =>
    rintro l pre x W ⟨⟨hh, hr⟩, hB⟩ _
    have hx8 : x.1 < 64 := x.2
    obtain ⟨pb1, pb2⟩ := prime_bound x.1 (by omega)
    obtain ⟨v0, hv0⟩ : ∃ v, (putW kW pre tab64)[x.1]? = some v := ⟨_, Array.getElem?_eq_getElem (by rw [putW_size]; exact hx8)⟩
    have hc : W.cell? ⟨w.heap.size + 1, x.1, none⟩ = some v0 := by rw [cell_of_row W _ _ _ _ _ hh]; exact hv0
    have hf : W.frozen? ⟨w.heap.size + 1, x.1, none⟩ = false := frozen_of_row W _ _ _ _ hh
    have HH := Lib.hid hh
    have HR := Lib.hid hr
    clear hh hr hv0
    gi_wp2_with (refine ⟨trivial, ?_⟩; gi_at_call 27; refine (CallsIn.inRound l (callsIn_wide.2 (root_any 3 (prime x.1) (by decide) (by omega) _))).mono ?_; rintro e w' ⟨rfl, rfl⟩)
    refine ⟨KeepsOthers.setCell _ _ _, kpX_set _ _ _ _ _, ⟨?_, ?_⟩, hB.setCell (p := ⟨w.heap.size + 1, x.1, none⟩) (by simp) _⟩
    · rw [putW_snoc]
      exact heap_setCell_same W _ _ _ _ _ HH.out
    · rw [Below.heap_setCell _ _ _ _ (by simp)]
      exact HR.out
  case done =>
    rintro D xs W hD rfl ⟨⟨hh, hr⟩, hB⟩ hK
    rw [putW_all 64 kW tab64 (by decide)] at hh
    have HK := Lib.hid hK
    have HH := Lib.hid hh
    have HR := Lib.hid hr
    clear hK hh hr
    gi_wp2_with (first
      | (refine wpListIn_load_row rfl 57 _ rfl (w.heap.size + 1) rfl _ _ (0, 0) _ HH.out Try.underlying57 rfl (by rw [size64]; rfl) ?_)
      | (refine wpListIn_store_row rfl 57 _ _ rfl w.heap.size _ rfl rfl _ _ HR.out (by rw [size64]; rfl) rfl (all_one _) ?_))
    have hsr : (W.setRow w.heap.size (((List.range 64).map kW).map wv).toArray).heap[w.heap.size]? = some (.cells (((List.range 64).map kW).map wv).toArray 57) := setRow_heap _ _ _ _ _ _ HR.out
    have hD2 : D ≠ w.heap.size := by omega
    have hKs : (W.setRow w.heap.size (((List.range 64).map kW).map wv).toArray).heap[D]? = some (.deferred (some [])) := by rw [setRow_other _ _ _ _ hD2]; exact HK.out
    refine ⟨by simp, .inl ⟨_, _, rfl, run_takeDeferred hKs, ?_⟩⟩
    refine ⟨agW kE, ?_, rfl, ?_⟩
    · refine results_cell_row rfl _ _ w.heap.size 57 _ (0, 0) _ rfl ?_ Try.underlying57 rfl (by rw [size64]; rfl)
      rw [World.putObj_heap_other (by omega)]
      exact hsr
    · exact (bl_setRow hB (Nat.le_refl _) _).trans (belowK_b (w := w) (Nat.le_refl _) _ D _ _ (by omega) hKs rfl rfl)
  case stop =>
    rintro D c pre W _ _ h _
    exact h.elim

end Go.Proofs.Ythpcmceomamadaa
