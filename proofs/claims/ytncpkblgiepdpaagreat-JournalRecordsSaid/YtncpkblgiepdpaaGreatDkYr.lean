/- A disk behind a fall; objects laid one behind the other. No condition but what each statement names. -/
import Derived.Test.YtncpkblgiepdpaaGreatDkWl
set_option linter.unusedVariables false
set_option linter.unusedSimpArgs false
namespace Go.Proofs.YtncpkblgiepdpaaGreat
open Go.RowKit Go.Maps Go.Shelf Go.Sort

/-- A disk that 'fell' made may be read. -/
structure Rdy (s : DS) : Prop where
  ok : OkM s.files.length s.now
  fit : Fit s.files
  live : s.dead = false
  few : s.now.length ≤ 1000000000
theorem rdy_fall {s : DS} {k m r : Nat} (h : Run s k m r) (hk : k ≤ 1000) (hm : m ≤ 1000000) (keep : List Int) : Rdy (bootE (fallE s keep)) := by
  have hc := calm_boot (calm_fall h.inv keep)
  refine ⟨hc.ok, ?_, rfl, ?_⟩
  · have := fall_sum s keep
    have := h.bnd.data
    unfold Fit
    show ((fallE s keep).files.map fun f => f.data.length).sum ≤ _
    omega
  · show (fallE s keep).now.length ≤ _
    rw [fall_now]
    have := play_len s (manyE s keep)
    have h2 : manyE s keep ≤ s.works.length := brE_le _ _ _
    have := h.bnd.kept
    have := h.bnd.works
    omega
theorem alls (w : World) (l : List Obj) : (l.foldl World.alloc w).heap.size = w.heap.size + l.length := by
  induction l generalizing w with
  | nil => rfl
  | cons o r ih =>
    show (r.foldl World.alloc (w.alloc o)).heap.size = _
    rw [ih]
    simp
    omega
theorem alls_below (w : World) (l : List Obj) : Below w.heap.size w (l.foldl World.alloc w) := by
  induction l generalizing w with
  | nil => exact Below.refl _ _
  | cons o r ih =>
    have h1 : Below w.heap.size w (w.alloc o) := (Below.refl _ w).alloc (Nat.le_refl _) o
    exact bl_trans h1 (ih (w.alloc o))
theorem alls_at (w : World) (l : List Obj) (i : Nat) (hi : i < l.length) : (l.foldl World.alloc w).heap[w.heap.size + i]? = some l[i] := by
  induction l generalizing w i with
  | nil => simp at hi
  | cons o r ih =>
    cases i with
    | zero =>
      have hb := alls_below (w.alloc o) r
      show (r.foldl World.alloc (w.alloc o)).heap[w.heap.size + 0]? = some o
      rw [Nat.add_zero, hb.block _ (by simp)]
      exact heap_alloc_new w o
    | succ i =>
      have := ih (w.alloc o) i (by simpa using hi)
      have e : (w.alloc o).heap.size + i = w.heap.size + (i + 1) := by simp; omega
      rw [e] at this
      exact this

theorem rd_block {W : World} {b : Nat} {l : BS} {t : TypeId} {fr : Nat × Nat} (h : W.heap[b]? = some (.cells (l.map bv).toArray t fr)) : Rd W (some ⟨b, 0, none⟩) l := fun _ => by
  refine ⟨_, rfl, fun j hj => ?_⟩
  rw [add_at]
  simp [World.cell?, h, hj]
theorem Blk.ever {W : World} {b : Nat} {vs : List Value} {t : TypeId} (h : Blk W b vs t) (k : Nat) (v : Value) (hk : vs[k]? = some v) : ∀ X, Below W.heap.size W X → X.cell? ⟨b, k, none⟩ = some v := fun X hB => (h.same (hB.block _ h.lt)).cell k v hk
end Go.Proofs.YtncpkblgiepdpaaGreat
