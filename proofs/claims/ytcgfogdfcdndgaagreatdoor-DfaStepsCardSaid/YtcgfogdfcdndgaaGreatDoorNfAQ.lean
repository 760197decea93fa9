/- A walk over a net: how it lies; reach puts a state behind others, unless this round has reached it. -/
import Derived.Test.YtcgfogdfcdndgaaGreatDoorRgNQ
import Derived.Test.YtcgfogdfcdndgaaGreatDoorSetMQ
import Derived.Maps.OwnOps
import Derived.Maps.OwnSet
import Derived.Maps.Views
import Derived.Maps.Keyed
import Derived.BigQuiet
set_option linter.unusedVariables false
set_option linter.unusedSimpArgs false
namespace Go.Proofs.YtcgfogdfcdndgaaGreatDoor
open Go.RowKit

def cellsE (e : Ed) : List Value := [.int .i64 e.fr, .int .i64 e.to, dv e.set.w0, dv e.set.w1, dv e.set.w2, dv e.set.w3, .bool e.free]
/-- A slice reads as edges. -/
def RdE (w : World) (A : Option Addr) (l : List Ed) : Prop := ∀ i (h : i < l.length), ∃ ad, A = some ad ∧ ∀ j u, (cellsE l[i])[j]? = some u → w.cell? ((ad.add (i * 7)).add j) = some u
theorem RdE.below {w w' : World} {A : Option Addr} {l : List Ed} (h : RdE w A l) (hb : Below w.heap.size w w') : RdE w' A l := fun i hi => by
  obtain ⟨ad, e, hc⟩ := h i hi
  exact ⟨ad, e, fun j u hu => (hb.cell (World.block_lt_of_cell? w _ (hc j u hu))).trans (hc j u hu)⟩
/-- Numbers that a call made. -/
def OwnI (w : World) (base : Nat) (v : Value) (l : List Nat) : Prop := w.ownsRow base 3 1 v l.length (l.map nv)
theorem OwnI.nil (w : World) (base : Nat) : OwnI w base (.slice none 0 0) [] := World.ownsRow_nil _ _ _ _
theorem OwnI.form {w : World} {base : Nat} {v : Value} {l : List Nat} (h : OwnI w base v l) :
    ∃ A n c, v = .slice A n c ∧ Hid (l.length = n) ∧ n ≤ c ∧ c ≤ maxLen ∧ RdZ w A l := by
  rcases h.2 with ⟨rfl, hn⟩ | ⟨g, cap, cur, rfl, _, hg, hnc, hcm, hcs, ht⟩
  · exact ⟨none, 0, 0, rfl, hn, Nat.le_refl _, by simp [maxLen], fun i hi => by omega⟩
  · refine ⟨some ⟨g, 0, none⟩, _, cap, rfl, rfl, hnc, hcm, fun i hi => ⟨_, rfl, ?_⟩⟩
    have := World.ownsRow.cells h (g := g) rfl i (nv l[i]) (by rw [List.getElem?_map, List.getElem?_eq_getElem hi]; rfl)
    exact this
/-- What is neither the walk's, nor the list's, stays. -/
structure Fr (g gm : Nat) (v : Value) (W W' : World) : Prop where
  size : W.heap.size ≤ W'.heap.size
  keep : ∀ i, i < W.heap.size → i ≠ g → i ≠ gm → v.ownBlock ≠ some i → W'.heap[i]? = W.heap[i]?
theorem Fr.refl (g gm : Nat) (v : Value) (W : World) : Fr g gm v W W := ⟨Nat.le_refl _, fun _ _ _ _ _ => rfl⟩
theorem Fr.trans {g gm : Nat} {v v' : Value} {W W' W'' : World} (h : Fr g gm v W W') (h' : Fr g gm v' W' W'') (hv : ∀ i, v'.ownBlock = some i → v.ownBlock = some i ∨ W.heap.size ≤ i) : Fr g gm v W W'' := by
  refine ⟨Nat.le_trans h.size h'.size, fun i hi h1 h2 h3 => ?_⟩
  rw [h'.keep i (Nat.lt_of_lt_of_le hi h.size) h1 h2 (fun e => by rcases hv i e with e | e; exact h3 e; omega), h.keep i hi h1 h2 h3]
section
variable {W0 W W' : World} {n1 g gm gb gp S : Nat} {Ae : Option Addr} {ne ce : Nat} {E : List Ed} {Xv : Value} {fb fp : Nat → Nat} {rd : Nat} {f : Nat → Nat} {l : List Nat}
end
def GotLs (st : Value → List Nat → World → Prop) (g gm : Nat) (v : Value) (W : World) (l : List Nat) (e : Ending) (W' : World) : Prop :=
  ∃ v', e = .returned v' ∧ st v' l W' ∧ Fr g gm v W W' ∧ ∀ i, v'.ownBlock = some i → v.ownBlock = some i ∨ W.heap.size ≤ i
theorem Fr.of_grown {g gm : Nat} {v : Value} {W W' : World} {r : Option Nat} (hg : W.grownBy W' r) (hr : ∀ i, r = some i → i = g ∨ i = gm ∨ v.ownBlock = some i) : Fr g gm v W W' :=
  ⟨hg.size, fun i hi h1 h2 h3 => hg.block i hi (fun e => by rcases hr i e.symm with h | h | h; exact h1 h; exact h2 h; exact h3 h)⟩
theorem one_row (w : World) (v : Value) (t : TypeId) : ∀ j u, [v][j]? = some u → (w.alloc (.cells #[v] t)).cell? ((⟨w.heap.size, 0, none⟩ : Addr).add j) = some u := by
  intro j u hj
  match j, hj with
  | 0, hj =>
    simp at hj
    subst hj
    have := heap_alloc_new w (.cells #[v] t)
    exact cell_of_row _ _ 0 _ _ _ this

end Go.Proofs.YtcgfogdfcdndgaaGreatDoor

/- A walk over a net: states once; those behind an edge that is asked for. -/
set_option linter.unusedVariables false
set_option linter.unusedSimpArgs false
namespace Go.Proofs.YtcgfogdfcdndgaaGreatDoor
open Go.RowKit

theorem own_none (i : Nat) : (Value.slice none 0 0).ownBlock ≠ some i := by simp [Value.ownBlock]

end Go.Proofs.YtcgfogdfcdndgaaGreatDoor
