/- The row of stage 9's laws: arguments of type api.Rex, [3]api.Rex and string, opened. Under: math/bits' table as the rows list it. -/
import Derived.Test.YteedmkokbapkgaaDoorRgJm
import Derived.Test.YteedmkokbapkgaaDoorRgRw
import Derived.Deep.Slices
import Derived.Lib.SmallJoins
import Derived.Laws.IdiomArrays
import Derived.ChangeSame
import Derived.ChangeMaps5
set_option linter.unusedVariables false
set_option linter.unusedSimpArgs false
namespace Go.Proofs.YteedmkokbapkgaaDoor
open Go.ChangeShapes Go.WideShapes Go.ChangeAt Go.RowKit

theorem bytes_rn : Tryd.prog.bytesOf 59 = 56 := by kernel_rfl
theorem cells_rn : Tryd.prog.cellsOf 59 = 7 := by kernel_rfl
theorem cells_rex : Tryd.prog.cellsOf 24 = 1 := by kernel_rfl
theorem cells_set : Tryd.prog.cellsOf 57 = 4 := by kernel_rfl
theorem cells_u64 : Tryd.prog.cellsOf 55 = 1 := by kernel_rfl
theorem cells_int : Tryd.prog.cellsOf 3 = 1 := by kernel_rfl
theorem cells_rnl : Tryd.prog.cellsOf 22 = 1 := by kernel_rfl

set_option maxRecDepth 20000 in
/-- A set of bytes as it lies in a node. -/
theorem open_words {H : Type} {enc : TypeId × Value → H} {W : World} {fuel : Nat} {c0 c1 c2 c3 : Value} {x : DataW H × List MemPlace}
    (h : DataW.trod enc Tryd.prog W 0 (fun _ => true) true fuel 57 [c0, c1, c2, c3] = some x) : ∃ s : S4, c0 = dv s.w0 ∧ c1 = dv s.w1 ∧ c2 = dv s.w2 ∧ c3 = dv s.w3 := by
  obtain ⟨y0, y1, y2, y3, n, _, g0, g1, g2, g3⟩ := trod_array4 Tryd.underlying57 cells_u64 h
  have one : ∀ (v : Value) (y : DataW H × List MemPlace), DataW.trod enc Tryd.prog W 0 (fun _ => true) true n 55 [v] = some y → ∃ b : BitVec 64, v = dv b := by
    intro v y hy
    obtain ⟨x, e1, _, w1⟩ := DataW.trod_int Tryd.underlying55 hy
    have hb : 0 ≤ x ∧ x ≤ 18446744073709551615 := by simpa [Lit.wf, IntKind.min, IntKind.max, IntKind.signed, IntKind.bits] using w1
    simp only [List.cons.injEq, and_true] at e1
    refine ⟨BitVec.ofNat 64 x.toNat, ?_⟩
    rw [e1]
    unfold dv
    rw [BitVec.toNat_ofNat, Nat.mod_eq_of_lt (by omega), Int.toNat_of_nonneg hb.1]
  obtain ⟨b0, e0⟩ := one _ _ g0
  obtain ⟨b1, e1⟩ := one _ _ g1
  obtain ⟨b2, e2⟩ := one _ _ g2
  obtain ⟨b3, e3⟩ := one _ _ g3
  exact ⟨⟨b0, b1, b2, b3⟩, e0, e1, e2, e3⟩
set_option maxRecDepth 20000 in
/-- A node's cells. -/
theorem open_node {H : Type} {enc : TypeId × Value → H} {W : World} {fuel : Nat} {cs : List Value} {x : DataW H × List MemPlace}
    (h : DataW.trod enc Tryd.prog W 0 (fun _ => true) true fuel 59 cs = some x) : ∃ r : RN, cs = cellsR r := by
  obtain ⟨y0, y1, y2, y3, n, _, hl, g0, g1, g2, g3⟩ := Go.Joins.trod_struct4 Tryd.underlying59 h
  rw [cells_rn] at hl
  match cs, hl with
  | [c0, c1, c2, c3, c4, c5, c6], _ =>
    simp only [cells_int, cells_set] at g0 g1 g2 g3
    obtain ⟨k, e0, _, _⟩ := DataW.trod_int Tryd.underlying3 g0
    obtain ⟨s, e1, e2, e3, e4⟩ := open_words g1
    obtain ⟨a, e5, _, _⟩ := DataW.trod_int Tryd.underlying3 g2
    obtain ⟨b, e6, _, _⟩ := DataW.trod_int Tryd.underlying3 g3
    simp at e0 e5 e6
    refine ⟨⟨k, a, b, s⟩, ?_⟩
    rw [e0, e1, e2, e3, e4, e5, e6]
    rfl
set_option maxRecDepth 20000 in
/-- Nodes in a slice. -/
theorem open_nodes {H : Type} {enc : TypeId × Value → H} {W : World} {fuel : Nat} {v : Value} {x : DataW H × List MemPlace}
    (h : DataW.trod enc Tryd.prog W 0 (fun _ => true) true fuel 22 [v] = some x) (hw : ∀ n ∈ x.1.weights Tryd.prog 22, n ≤ reachBytes) :
    ∃ A n c l, v = .slice A n c ∧ l.length = n ∧ n ≤ c ∧ c * 56 ≤ 140737488351232 ∧ RdR W A l := by
  rcases Deep.open_slice Tryd.underlying22 h with ⟨hcs, hx⟩ | ⟨a, len, cap, m, n, D, Pl, hcs, hb, hl, hm, hmm, hx, hcell⟩
  · simp only [List.cons.injEq, and_true] at hcs
    exact ⟨none, 0, 0, [], hcs, rfl, by omega, by omega, fun i hi => absurd hi (by simp)⟩
  · simp only [List.cons.injEq, and_true] at hcs
    simp only [if_true] at hmm
    subst hmm
    have hc : m * 56 ≤ 140737488351232 := by
      have := hw (m * 56) (by
        rw [hx, DataW.weights, Tryd.underlying22]
        simp only [List.length_map, List.length_range, bytes_rn]
        rw [show len + (m - len) = m by omega]
        exact List.mem_cons_self ..)
      simpa [reachBytes] using this
    have each : ∀ i, i < len → ∃ r : RN, ∀ j u, (cellsR r)[j]? = some u → W.cell? ((a.add (i * 7)).add j) = some u := by
      intro i hi
      obtain ⟨cs', h1, h2⟩ := hcell i (by omega)
      rw [cells_rn] at h1
      obtain ⟨_, hlen, hc7⟩ := World.cells?_some h1
      obtain ⟨r, rfl⟩ := open_node h2
      refine ⟨r, fun j u hu => ?_⟩
      have hj : j < (cellsR r).length := (List.getElem?_eq_some_iff.1 hu).1
      have := hc7 j (by rw [hlen] at hj; exact hj)
      rw [this]
      exact hu
    let f : Nat → RN := fun i => if h : i < len then (each i h).choose else ⟨0, 0, 0, nilS⟩
    have hfs : ∀ i (h : i < len), f i = (each i h).choose := fun i h => dif_pos h
    refine ⟨some a, len, m, (List.range len).map f, hcs, by simp, hl, hc, fun i hi => ⟨a, rfl, fun j u hu => ?_⟩⟩
    have hin : i < len := by simpa using hi
    have eg : ((List.range len).map f)[i] = (each i hin).choose := by rw [List.getElem_map, List.getElem_range]; exact hfs i hin
    rw [eg] at hu
    exact (each i hin).choose_spec j u hu
set_option maxRecDepth 20000 in
/-- An argument of type api.Rex, opened. -/
theorem open_rex {H : Type} {enc : TypeId × Value → H} {W : World} {base : Nat} {v : Value} {d : DataW H} {p : List MemPlace} (hv : Value.okWide Tryd.prog W .any base 24 v)
    (h0 : DataW.Trod enc Tryd.prog W 0 (fun _ => true) true 24 v d p) (hw : ∀ n ∈ d.weights Tryd.prog 24, n ≤ reachBytes) :
    ∃ A n c l, v = .agg #[.slice A n c] ∧ l.length = n ∧ n ≤ c ∧ c * 56 ≤ 140737488351232 ∧ RdR W A l := by
  have hu := Tryd.underlying24
  unfold Value.okWide at hv
  rw [hu] at hv
  obtain ⟨cs, rfl, hsz, _⟩ := hv
  rw [cells_rex] at hsz
  obtain ⟨fuel, hf⟩ := h0
  obtain ⟨y0, n, hx, hlc, hf0⟩ := trod_struct1 hu hf
  obtain ⟨l⟩ := cs
  match l, hsz with
  | [c0], _ =>
    simp only [Value.cells, cells_rnl] at hf0
    obtain ⟨A, n, c, l, e, h1, h2, h3, h4⟩ := open_nodes (v := c0) hf0 (fun q hq => hw q (by
      simp only [Prod.mk.injEq] at hx
      rw [hx.1, DataW.weights, hu]
      simp only [List.map_cons, List.map_nil, DataW.weightsEach, List.append_nil]
      simpa using hq))
    rw [e]
    exact ⟨A, n, c, l, rfl, h1, h2, h3, h4⟩

set_option maxRecDepth 20000 in
/-- An argument of type string, opened. -/
theorem open_str9 {H : Type} {enc : TypeId × Value → H} {W : World} {base : Nat} {v : Value} {d : DataW H} {p : List MemPlace} (hv : Value.okWide Tryd.prog W .any base 9 v)
    (h0 : DataW.Trod enc Tryd.prog W 0 (fun _ => true) true 9 v d p) : ∃ l : List UInt8, v = .string ⟨l.toArray⟩ ∧ l.length ≤ maxLen := by
  obtain ⟨s, rfl, _, _, hs⟩ := Go.ChangeMaps.open_string Tryd.underlying9 hv h0
  exact ⟨s.data.toList, rfl, by rw [Array.length_toList]; exact hs⟩

end Go.Proofs.YteedmkokbapkgaaDoor
