/- Words of the grammar language: the law's examples are so, in every world. No condition. -/
import Derived.Test.YtlepaciglkodbaaDoorWdG
set_option linter.unusedVariables false
set_option linter.unusedSimpArgs false
namespace Go.Proofs.YtlepaciglkodbaaDoor
open Go.RowKit

def tx1 : List UInt8 := [116, 101, 114, 109, 32, 110, 32, 61, 32, 47, 91, 48, 45, 57, 93, 43, 47, 59]
def tx2 : List UInt8 := [105, 109, 112, 111, 114, 116, 32, 34, 97, 47, 98, 46, 103, 34, 59, 32, 35, 32, 120]
def tx3 : List UInt8 := [114, 117, 108, 101, 115, 32, 58, 32, 57]
def tx4 : List UInt8 := [47, 97, 92, 47, 98, 47, 32, 47, 97]
def tk1 : List Tk := [⟨7, 0, 4⟩, ⟨1, 5, 6⟩, ⟨4, 7, 8⟩, ⟨3, 9, 17⟩, ⟨4, 17, 18⟩]
def tk2 : List Tk := [⟨5, 0, 6⟩, ⟨2, 7, 14⟩, ⟨4, 14, 15⟩]
theorem ans1 : ansE tx1 = (tk1, 0, 0) := by unfold ansE; rw [if_neg (by decide), show cutE tx1 = _ from know_one]; rfl
theorem ans2 : ansE tx2 = (tk2, 0, 0) := by unfold ansE; rw [if_neg (by decide), show cutE tx2 = _ from know_two]; rfl
theorem ans3 : ansE tx3 = ([], 8, 140) := by unfold ansE; rw [if_neg (by decide), show cutE tx3 = _ from know_three]
theorem ans4 : ansE tx4 = ([], 7, 140) := by unfold ansE; rw [if_neg (by decide), show cutE tx4 = _ from know_four]

theorem flat_cells (W : World) (cs : Array Value) (l : List Nat) (h : cs = (l.map nv).toArray) : ∀ j u, l[j]? = some u → (W.alloc (.cells cs 3)).cell? ⟨W.heap.size, j, none⟩ = some (nv u) := fun j u hu => by
  rw [cell_of_row _ W.heap.size j _ _ _ (heap_alloc_new W _), h]
  simp [hu]

set_option maxRecDepth 20000 in
theorem awake_any (w : World) (hT : Tab w) : Calls Tryd.prog 15 #[] w (GotBool w true) := by
  generalize hQ : GotBool w true = Q
  have HQ := Lib.hid hQ
  clear hQ
  go_enter Tryd.func15, Tryd.ntmps15
  go_wp2_with fail
  refine (cuts_yes tx1 tk1 ans1 (by decide) (by decide) w.heap.size 15 15 rfl _ (flat_cells w _ _ rfl) (hT.below (bl_alloc (Below.refl _ _) _))).mono ?_
  rintro e w1 ⟨rfl, hb1⟩
  have B1 := bl_trans (bl_alloc (Below.refl w.heap.size w) _) hb1
  have T1 := hT.below B1
  have HB1 := Lib.hid B1
  clear B1 hb1
  go_wp2_with fail
  refine (cuts_yes tx2 tk2 ans2 (by decide) (by decide) w1.heap.size 9 9 rfl _ (flat_cells w1 _ _ rfl) (T1.below (bl_alloc (Below.refl _ _) _))).mono ?_
  rintro e w2 ⟨rfl, hb2⟩
  have B2 := bl_trans HB1.out (bl_trans (bl_alloc (Below.refl w1.heap.size w1) _) hb2)
  have T2 := hT.below B2
  have HB2 := Lib.hid B2
  clear B2 hb2 T1
  go_wp2_with fail
  refine (refuses_yes tx3 8 ans3 (by decide) _ T2).mono ?_
  rintro e w3 ⟨rfl, hb3⟩
  have B3 := bl_trans HB2.out hb3
  have T3 := hT.below B3
  have HB3 := Lib.hid B3
  clear B3 hb3 T2
  go_wp2_with fail
  refine (refuses_yes tx4 7 ans4 (by decide) _ T3).mono ?_
  rintro e w4 ⟨rfl, hb4⟩
  have B4 := bl_trans HB3.out hb4
  have T4 := hT.below B4
  have HB4 := Lib.hid B4
  clear B4 hb4 T3
  go_wp2_with fail
  refine (spelled_any 12 _ T4).mono ?_
  rintro e w5 ⟨rfl, rfl⟩
  rw [show spellZ 12 = [114, 117, 108, 101] from rfl]
  go_wp2_with fail
  exact post_is HQ ⟨by simp, HB4.out⟩

end Go.Proofs.YtlepaciglkodbaaDoor
