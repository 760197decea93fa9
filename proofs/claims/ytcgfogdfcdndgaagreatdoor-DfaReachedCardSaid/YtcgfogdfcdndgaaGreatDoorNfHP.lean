/- A net with its edges by states: what lies while it is made; a list of numbers, cloned. -/
import Derived.Test.YtcgfogdfcdndgaaGreatDoorNfDP
import Derived.Test.YtcgfogdfcdndgaaGreatDoorSetMP
import Derived.Deep.WholeRow
import Derived.Laws.ResultCell
import Derived.Deep.AppendLies
import Derived.Lib.SliceRun
set_option linter.unusedVariables false
set_option linter.unusedSimpArgs false
namespace Go.Proofs.YtcgfogdfcdndgaaGreatDoor
open Go.RowKit

theorem Hn.congr {w : World} {g n : Nat} {f f' : Nat → Nat} (h : Hn w g n f) (e : ∀ j, j < n → f j = f' j) : Hn w g n f' := by
  unfold Hn at *
  rw [h]
  congr 2
  exact rowN_ext n f' _ (rowN_size _ _) (fun j hj => by rw [rowN_get _ _ _ hj, e j hj])
/-- A block that holds n numbers, and perhaps more. -/
def Hc (w : World) (g n : Nat) (f : Nat → Nat) : Prop := ∃ cs, w.heap[g]? = some (.cells cs 3 (0, 0)) ∧ n ≤ cs.size ∧ ∀ j, j < n → cs[j]? = some (nv (f j))
theorem Hc.cell {w : World} {g n : Nat} {f : Nat → Nat} (h : Hc w g n f) {j : Nat} (hj : j < n) : w.cell? ⟨g, j, none⟩ = some (.int .i64 ((f j : Nat) : Int)) := by
  obtain ⟨cs, h1, h2, h3⟩ := h
  rw [cell_of_row w g j _ _ _ h1, h3 j hj]
  rfl
theorem Hc.free {w : World} {g n : Nat} {f : Nat → Nat} (h : Hc w g n f) (j : Nat) : w.frozen? ⟨g, j, none⟩ = false := by
  obtain ⟨cs, h1, _⟩ := h
  exact frozen_of_row w g j _ _ h1
theorem Hc.lt {w : World} {g n : Nat} {f : Nat → Nat} (h : Hc w g n f) : g < w.heap.size := by
  obtain ⟨cs, h1, _⟩ := h
  exact (Array.getElem?_eq_some_iff.1 h1).1
theorem Hc.at {w w' : World} {g n : Nat} {f : Nat → Nat} (h : Hc w g n f) (e : w'.heap[g]? = w.heap[g]?) : Hc w' g n f := by
  obtain ⟨cs, h1, h2⟩ := h
  exact ⟨cs, e.trans h1, h2⟩
theorem Hc.set {w : World} {g n : Nat} {f : Nat → Nat} (h : Hc w g n f) (i x : Nat) (hi : i < n) : Hc (w.setCell ⟨g, i, none⟩ (.int .i64 (x : Int))) g n (upd f i x) := by
  obtain ⟨cs, h1, h2, h3⟩ := h
  refine ⟨_, heap_setCell_same w g i _ _ _ h1, by simpa using h2, fun j hj => ?_⟩
  unfold upd
  by_cases e : i = j
  · subst e
    rw [Array.getElem?_setIfInBounds_self_of_lt (by omega), if_pos rfl]
    rfl
  · rw [Array.getElem?_setIfInBounds_ne e, h3 j hj, if_neg (fun h => e h.symm)]

def GotCl (W : World) (n : Nat) (f : Nat → Nat) (e : Ending) (W' : World) : Prop := ∃ g' cap, e = .returned (.slice (some ⟨g', 0, none⟩) n cap) ∧ n ≤ cap ∧ Hc W' g' n f ∧ W.heap.size ≤ g' ∧ Below W.heap.size W W'
set_option maxRecDepth 100000 in
set_option maxHeartbeats 4000000 in
theorem clone_ints (g n c : Nat) (f : Nat → Nat) (hn : 1 ≤ n) (hn2 : n ≤ 100000) (W : World) (h : Hn W g n f) :
    Calls Tryz.prog 93 #[.slice (some ⟨g, 0, none⟩) n c] W
      (GotCl W n f) := by
  generalize hQ : GotCl W n f = Q
  have HQ := Lib.hid hQ
  have HH := Lib.hid h
  clear hQ h
  have bA := bl_alloc (Below.refl W.heap.size W) (.cells #[] 3)
  have hown : (W.alloc (.cells #[] 3)).ownsRow W.heap.size 3 1 (.slice (some ⟨W.heap.size, 0, none⟩) 0 0) 0 [] :=
    ⟨rfl, Or.inr ⟨W.heap.size, 0, #[], rfl, Nat.le_refl _, heap_alloc_new W _, Nat.le_refl _, by simp [maxLen], rfl, rfl⟩⟩
  have hnews : ∀ j u, ((List.range n).map (fun j => nv (f j)))[j]? = some u → (W.alloc (.cells #[] 3)).cell? ((⟨g, 0, none⟩ : Addr).add j) = some u := by
    intro j u hu
    have hj : j < n := by have := (List.getElem?_eq_some_iff.1 hu).1; simpa using this
    have h1 : (W.alloc (.cells #[] 3)).cell? ⟨g, j, none⟩ = some (.int .i64 ((f j : Nat) : Int)) := (bA.cell (show g < W.heap.size from HH.out.lt)).trans (HH.out.cell hj)
    rw [addr_mk, Nat.zero_add, h1, ← hu]
    simp [hj, nv]
  have he := fun (W : World) => Lib.run_eql_slice_nil (P := Tryz.prog) W 23 3 (some ⟨g, 0, none⟩) n c 0 0 Tryz.underlying23
  obtain ⟨i0, hi, hz0, hz1, hz2⟩ := info_parts info_int
  have OW := Lib.hid hown
  have NWS := Lib.hid hnews
  have BA := Lib.hid bA
  clear hown hnews bA
  go_enter Tryz.func93, Tryz.ntmps93
  go_wp2_with (at_builtin; refine wpList_append_lies _ rfl _ _ 23 rfl W.heap.size 3 i0 (.int .i64 0) 1 8 Tryz.underlying23 hi hz0 hz1 hz2 rfl (by decide) (.slice (some ⟨W.heap.size, 0, none⟩) 0 0) 0 [] rfl OW.out ⟨g, 0, none⟩ n c ((List.range n).map (fun j => nv (f j))) rfl (by simp) NWS.out (by simp [nv, Value.oneCell']) (by omega) (by simp only [maxLen]; omega) (by omega) (by simp) _ rfl ?_; intro g3 c3 W3 ho3 hg3 hat3 hlt3)
  go_wp2_with fail
  refine post_is HQ ?_
  rw [Nat.zero_add] at ho3
  refine ⟨g3, c3, rfl, ?_, ?_, ?_, ?_⟩
  · rcases ho3.2 with ⟨h, _⟩ | ⟨g4, cap, cur, h, _, hgb, hnc, _, hcs, ht⟩
    · cases h
    · injection h with h1 h2 h3
      omega
  · rcases ho3.2 with ⟨h, _⟩ | ⟨g4, cap, cur, h, _, hgb, hnc, _, hcs, ht⟩
    · cases h
    · injection h with h1 h2 h3
      injection h1 with h1
      injection h1 with h1
      subst h1 h3
      refine ⟨cur, hgb, by omega, fun j hj => ?_⟩
      have : (cur.toList.take (n * 1))[j]? = some (nv (f j)) := by rw [ht]; simp [hj]
      rw [List.getElem?_take, if_pos (by omega)] at this
      simpa using this
  · rcases hat3 with h | h
    · obtain rfl : W.heap.size = g3 := Option.some.inj h
      exact Nat.le_refl _
    · rw [h]; simp
  · exact bl_grown BA.out hg3 (fun i e => by obtain rfl : W.heap.size = i := Option.some.inj e; exact Nat.le_refl _)

end Go.Proofs.YtcgfogdfcdndgaaGreatDoor
