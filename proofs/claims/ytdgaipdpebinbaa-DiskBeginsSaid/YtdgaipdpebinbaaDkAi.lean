/- Arguments of type []int, opened. -/
import Derived.Test.YtdgaipdpebinbaaDkWl
import Derived.Test.YtdgaipdpebinbaaRow
import Derived.Deep.SlicePairs
set_option linter.unusedVariables false
set_option linter.unusedSimpArgs false
namespace Go.Proofs.Ytdgaipdpebinbaa
open Go.ChangeShapes Go.WideShapes Go.ChangeAt Go.RowKit

theorem cells_int : Try.prog.cellsOf 3 = 1 := by kernel_rfl
theorem bytes_int : Try.prog.bytesOf 3 = 8 := by kernel_rfl
theorem cells_b1 : Try.prog.cellsOf 30 = 1 := by kernel_rfl
set_option maxRecDepth 20000 in
/-- An argument of type []int, opened. -/
theorem open_int_list {H : Type} {enc : TypeId × Value → H} {W : World} {base : Nat} {v : Value} {d : DataW H} {p : List MemPlace} (hv : Value.okWide Try.prog W .any base 23 v)
    (h0 : DataW.Trod enc Try.prog W 0 (fun _ => true) true 23 v d p) (hw : ∀ n ∈ d.weights Try.prog 23, n ≤ reachBytes) :
    ∃ A n c l, v = .slice A n c ∧ l.length = n ∧ n ≤ c ∧ c ≤ 140737488351232 ∧ RdI W A l ∧ In64 l := by
  obtain ⟨A, n, c, rfl⟩ := okWide_slice Try.underlying23 hv
  obtain ⟨fuel, hf⟩ := h0
  rcases open_ints Try.underlying23 Try.underlying3 cells_int hf with ⟨hcs, hx⟩ | ⟨a, len', cap', zs, hcs, _, hl, hm, hz, hx, hcell, hwz⟩
  · simp [Value.cells] at hcs
    obtain ⟨rfl, rfl, rfl⟩ := hcs
    exact ⟨none, 0, 0, [], rfl, rfl, Nat.le_refl _, by omega, (fun h => absurd h (by simp)), fun z hz => by simp at hz⟩
  · simp [Value.cells] at hcs
    obtain ⟨rfl, rfl, rfl⟩ := hcs
    simp only [Prod.mk.injEq] at hx
    obtain ⟨rfl, rfl⟩ := hx
    simp only [if_true] at hz
    have hc : c ≤ 140737488351232 := by
      have := hw (c * 8) (by simp [DataW.weights, Try.underlying23, bytes_int, lits]; omega)
      simp [reachBytes] at this
      omega
    refine ⟨some a, n, c, zs.take n, rfl, by simp; omega, hl, hc, fun _ => ⟨a, rfl, fun j hj => ?_⟩, fun z hz' => ?_⟩
    · simp only [List.length_take] at hj
      have hjz : j < zs.length := by omega
      have hg : zs.getD j 0 = zs[j] := by simp [List.getD, hjz]
      rw [hcell j hjz, hg, List.getElem_take]
    · have := hwz z (List.mem_of_mem_take hz')
      simpa [Lit.wf, IntKind.min, IntKind.max, IntKind.signed, IntKind.bits] using this

theorem weights_all {H : Type} {P : Program} {e : TypeId} {m : Nat} : ∀ {elems : List (DataW H)} {x : DataW H}, x ∈ elems → m ∈ x.weights P e → m ∈ DataW.weightsAll P e elems
  | [], _, h, _ => by cases h
  | y :: r, x, h, hm => by
    rw [DataW.weightsAll]
    rcases List.mem_cons.1 h with rfl | h
    · exact List.mem_append.2 (.inl hm)
    · exact List.mem_append.2 (.inr (weights_all h hm))
end Go.Proofs.Ytdgaipdpebinbaa
