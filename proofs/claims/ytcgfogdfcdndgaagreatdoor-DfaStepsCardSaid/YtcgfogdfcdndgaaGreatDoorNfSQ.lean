/- Numbers that a call made, sorted. -/
import Derived.Test.YtcgfogdfcdndgaaGreatDoorNfJQ
import Derived.Test.YtcgfogdfcdndgaaGreatDoorShelf
import Derived.Sort.OwnSortedInts
set_option linter.unusedVariables false
set_option linter.unusedSimpArgs false
namespace Go.Proofs.YtcgfogdfcdndgaaGreatDoor
open Go.RowKit Go.Shelf Go.Sort

def zl (l : List Nat) : List Int := l.map fun n : Nat => (n : Int)
theorem zl_nv (l : List Nat) : (zl l).map (Value.int .i64) = l.map nv := by unfold zl; rw [List.map_map]; rfl
theorem zl_sort (l : List Nat) : (zl l).mergeSort (fun x y => decide (x ≤ y)) = zl (l.mergeSort fun x y => decide (x ≤ y)) := by
  unfold zl
  rw [List.map_mergeSort]
  intro a _ b _
  simp
theorem sort_rise {S : Nat} {l : List Nat} (hn : l.Nodup) (hb : InN S l) : l.mergeSort (fun x y => decide (x ≤ y)) = riseE S l := by
  refine rise_of_sorted hn hb (List.mergeSort_perm _ _) ?_
  have := List.pairwise_mergeSort (le := fun x y : Nat => decide (x ≤ y)) (fun a b c h1 h2 => by simp at *; omega) (fun a b => by simp; omega) l
  exact this.imp (fun h => by simpa using h)
def GotSr (W : World) (base S : Nat) (v : Value) (l : List Nat) (e : Ending) (W' : World) : Prop := e = .returned (.tuple #[]) ∧ OwnI W' base v (riseE S l) ∧ W.grownBy W' v.ownBlock
set_option maxRecDepth 20000 in
theorem sort_own (base S : Nat) (l : List Nat) (v : Value) (hn : l.Nodup) (hin : InN S l) (hlen : l.length ≤ 100000) (W : World) (ho : OwnI W base v l) :
    Calls Tryz.prog 89 #[v] W (GotSr W base S v l) := by
  have hr := sort_rise hn hin
  rcases ho.2 with ⟨rfl, h0⟩ | ⟨g, cap, cur, rfl, hbase, hgb, h1, h2, h3, h4⟩
  · have hl0 : l = [] := List.length_eq_zero_iff.1 h0
    subst hl0
    refine (Tryz.slices_Sort_int_none none 0 W).mono ?_
    rintro e w' ⟨rfl, rfl⟩
    refine ⟨rfl, ?_, ⟨rfl, rfl, rfl, Nat.le_refl _, fun _ _ _ => rfl⟩⟩
    rw [← hr, List.mergeSort_nil]
    exact ho
  · have hlz : (zl l).length = l.length := by unfold zl; rw [List.length_map]
    have hh := holds_of_blockI (ss := zl l) hgb (by rw [hlz, zl_nv]; simpa using h4)
    have hgl : g < W.heap.size := (Array.getElem?_eq_some_iff.1 hgb).1
    have hc := Tryz.slices_Sort_int g 0 cap (zl l) W hh hgl (by omega)
    rw [hlz] at hc
    refine hc.mono ?_
    rintro e w' ⟨rfl, q, os, rfl⟩
    refine ⟨rfl, ?_, grownBy_sortedI _⟩
    have ho2 := ownsRow_sortedI (n := q) (os := os) (ts := (zl l).mergeSort fun x y => decide (x ≤ y)) (ss := zl l) (by simp) hbase hgb (by rw [hlz]; exact h1) h2 h3
    rw [zl_sort, hr, hlz, zl_nv] at ho2
    have hlr : (riseE S l).length = l.length := by rw [← hr, List.length_mergeSort]
    unfold OwnI
    rw [hlr, zl_sort, hr]
    exact ho2

end Go.Proofs.YtcgfogdfcdndgaaGreatDoor
