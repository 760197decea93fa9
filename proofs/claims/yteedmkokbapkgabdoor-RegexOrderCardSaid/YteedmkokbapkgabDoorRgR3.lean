/- An argument of type [3]api.Rex, opened. -/
import Derived.Test.YteedmkokbapkgabDoorRgRow
set_option linter.unusedVariables false
set_option linter.unusedSimpArgs false
namespace Go.Proofs.YteedmkokbapkgabDoor
open Go.ChangeShapes Go.WideShapes Go.ChangeAt Go.RowKit

theorem cells_rex3 : Tryd.prog.cellsOf 25 = 3 := by kernel_rfl
set_option maxRecDepth 20000 in
theorem open_rex1 {H : Type} {enc : TypeId × Value → H} {W : World} {fuel : Nat} {c0 : Value} {x : DataW H × List MemPlace}
    (hf : DataW.trod enc Tryd.prog W 0 (fun _ => true) true fuel 24 [c0] = some x) (hw : ∀ n ∈ x.1.weights Tryd.prog 24, n ≤ reachBytes) :
    ∃ A n c l, c0 = .slice A n c ∧ l.length = n ∧ n ≤ c ∧ c * 56 ≤ 140737488351232 ∧ RdR W A l := by
  have hu := Tryd.underlying24
  obtain ⟨y0, n, hx, hlc, hf0⟩ := trod_struct1 hu hf
  simp only [cells_rnl] at hf0
  exact open_nodes (v := c0) hf0 (fun q hq => hw q (by
    rw [hx, DataW.weights, hu]
    simp only [List.map_cons, List.map_nil, DataW.weightsEach, List.append_nil]
    simpa using hq))
set_option maxRecDepth 20000 in
/-- An argument of type [3]api.Rex, opened. -/
theorem open_rex3 {H : Type} {enc : TypeId × Value → H} {W : World} {base : Nat} {v : Value} {d : DataW H} {p : List MemPlace} (hv : Value.okWide Tryd.prog W .any base 25 v)
    (h0 : DataW.Trod enc Tryd.prog W 0 (fun _ => true) true 25 v d p) (hw : ∀ n ∈ d.weights Tryd.prog 25, n ≤ reachBytes) :
    ∃ A0 n0 c0 l0 A1 n1 c1 l1 A2 n2 c2 l2, v = .agg #[.slice A0 n0 c0, .slice A1 n1 c1, .slice A2 n2 c2] ∧ (l0.length = n0 ∧ n0 ≤ c0 ∧ c0 * 56 ≤ 140737488351232 ∧ RdR W A0 l0) ∧
      (l1.length = n1 ∧ n1 ≤ c1 ∧ c1 * 56 ≤ 140737488351232 ∧ RdR W A1 l1) ∧ (l2.length = n2 ∧ n2 ≤ c2 ∧ c2 * 56 ≤ 140737488351232 ∧ RdR W A2 l2) := by
  have hu := Tryd.underlying25
  unfold Value.okWide at hv
  rw [hu] at hv
  obtain ⟨cs, rfl, hsz, _⟩ := hv
  rw [cells_rex3] at hsz
  obtain ⟨fuel, hf⟩ := h0
  obtain ⟨l⟩ := cs
  match l, hsz with
  | [c0, c1, c2], _ =>
    obtain ⟨y0, y1, y2, n, hx, g0, g1, g2⟩ := trod_array3 hu cells_rex hf
    simp only [Prod.mk.injEq] at hx
    have hw' : ∀ q, (q ∈ y0.1.weights Tryd.prog 24 ∨ q ∈ y1.1.weights Tryd.prog 24 ∨ q ∈ y2.1.weights Tryd.prog 24) → q ≤ reachBytes := fun q hq => hw q (by
      rw [hx.1, DataW.weights, hu]
      simp only [DataW.weightsAll, List.mem_append, List.append_nil]
      exact hq)
    obtain ⟨A0, n0, k0, l0, e0, p0⟩ := open_rex1 g0 (fun q hq => hw' q (.inl hq))
    obtain ⟨A1, n1, k1, l1, e1, p1⟩ := open_rex1 g1 (fun q hq => hw' q (.inr (.inl hq)))
    obtain ⟨A2, n2, k2, l2, e2, p2⟩ := open_rex1 g2 (fun q hq => hw' q (.inr (.inr hq)))
    subst e0 e1 e2
    exact ⟨A0, n0, k0, l0, A1, n1, k1, l1, A2, n2, k2, l2, rfl, p0, p1, p2⟩

end Go.Proofs.YteedmkokbapkgabDoor
