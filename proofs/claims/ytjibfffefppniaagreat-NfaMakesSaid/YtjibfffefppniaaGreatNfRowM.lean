/- From a walk to a law's statement, for nets and patterns: arguments of type api.Nfa, []api.Rex, []int, opened. -/
import Derived.Test.YtjibfffefppniaaGreatNfRuM
import Derived.Test.YtjibfffefppniaaGreatRow
import Derived.ChangeMaps5
import Derived.ChangeSame
import Derived.Laws.IdiomArrays
import Derived.Lib.SmallJoins
import Derived.Deep.Slices
import Derived.Deep.Strs
set_option linter.unusedVariables false
set_option linter.unusedSimpArgs false
namespace Go.Proofs.YtjibfffefppniaaGreat
open Go.ChangeShapes Go.WideShapes Go.ChangeAt Go.RowKit

theorem bytes_rn : Tryz.prog.bytesOf 54 = 56 := by kernel_rfl
theorem cells_rn : Tryz.prog.cellsOf 54 = 7 := by kernel_rfl
theorem cells_rex : Tryz.prog.cellsOf 25 = 1 := by kernel_rfl
theorem cells_set : Tryz.prog.cellsOf 37 = 4 := by kernel_rfl
theorem cells_u64 : Tryz.prog.cellsOf 35 = 1 := by kernel_rfl
theorem cells_int : Tryz.prog.cellsOf 3 = 1 := by kernel_rfl
theorem cells_rnl : Tryz.prog.cellsOf 23 = 1 := by kernel_rfl

set_option maxRecDepth 20000 in
/-- A set of bytes as it lies in a node. -/
theorem open_words {H : Type} {enc : TypeId × Value → H} {W : World} {fuel : Nat} {c0 c1 c2 c3 : Value} {x : DataW H × List MemPlace}
    (h : DataW.trod enc Tryz.prog W 0 (fun _ => true) true fuel 37 [c0, c1, c2, c3] = some x) : ∃ s : S4, c0 = dv s.w0 ∧ c1 = dv s.w1 ∧ c2 = dv s.w2 ∧ c3 = dv s.w3 := by
  obtain ⟨y0, y1, y2, y3, n, _, g0, g1, g2, g3⟩ := trod_array4 Tryz.underlying37 cells_u64 h
  have one : ∀ (v : Value) (y : DataW H × List MemPlace), DataW.trod enc Tryz.prog W 0 (fun _ => true) true n 35 [v] = some y → ∃ b : BitVec 64, v = dv b := by
    intro v y hy
    obtain ⟨x, e1, _, w1⟩ := DataW.trod_int Tryz.underlying35 hy
    have hb : 0 ≤ x ∧ x ≤ 18446744073709551615 := by simpa [Lit.wf, IntKind.min, IntKind.max, IntKind.signed, IntKind.bits] using w1
    simp only [List.cons.injEq, and_true] at e1
    refine ⟨BitVec.ofNat 64 x.toNat, ?_⟩
    rw [e1]
    unfold dv
    rw [BitVec.toNat_ofNat, Nat.mod_eq_of_lt (by omega), Int.toNat_of_nonneg hb.1]
  obtain ⟨b0, e0⟩ := one _ _ g0
  obtain ⟨b1, e1⟩ := one _ _ g1
  obtain ⟨b2, e2⟩ := one _ _ g2
  obtain ⟨b3, e3⟩ := one _ _ g3
  exact ⟨⟨b0, b1, b2, b3⟩, e0, e1, e2, e3⟩
set_option maxRecDepth 20000 in
/-- A node's cells. -/
theorem open_node {H : Type} {enc : TypeId × Value → H} {W : World} {fuel : Nat} {cs : List Value} {x : DataW H × List MemPlace}
    (h : DataW.trod enc Tryz.prog W 0 (fun _ => true) true fuel 54 cs = some x) : ∃ r : RN, cs = cellsR r := by
  obtain ⟨y0, y1, y2, y3, n, _, hl, g0, g1, g2, g3⟩ := Go.Joins.trod_struct4 Tryz.underlying54 h
  rw [cells_rn] at hl
  match cs, hl with
  | [c0, c1, c2, c3, c4, c5, c6], _ =>
    simp only [cells_int, cells_set] at g0 g1 g2 g3
    obtain ⟨k, e0, _, _⟩ := DataW.trod_int Tryz.underlying3 g0
    obtain ⟨s, e1, e2, e3, e4⟩ := open_words g1
    obtain ⟨a, e5, _, _⟩ := DataW.trod_int Tryz.underlying3 g2
    obtain ⟨b, e6, _, _⟩ := DataW.trod_int Tryz.underlying3 g3
    simp at e0 e5 e6
    refine ⟨⟨k, a, b, s⟩, ?_⟩
    rw [e0, e1, e2, e3, e4, e5, e6]
    rfl
set_option maxRecDepth 20000 in
/-- Nodes in a slice. -/
theorem open_nodes {H : Type} {enc : TypeId × Value → H} {W : World} {fuel : Nat} {v : Value} {x : DataW H × List MemPlace}
    (h : DataW.trod enc Tryz.prog W 0 (fun _ => true) true fuel 23 [v] = some x) (hw : ∀ n ∈ x.1.weights Tryz.prog 23, n ≤ reachBytes) :
    ∃ A n c l, v = .slice A n c ∧ l.length = n ∧ n ≤ c ∧ c * 56 ≤ 140737488351232 ∧ RdR W A l := by
  rcases Deep.open_slice Tryz.underlying23 h with ⟨hcs, hx⟩ | ⟨a, len, cap, m, n, D, Pl, hcs, hb, hl, hm, hmm, hx, hcell⟩
  · simp only [List.cons.injEq, and_true] at hcs
    exact ⟨none, 0, 0, [], hcs, rfl, by omega, by omega, fun i hi => absurd hi (by simp)⟩
  · simp only [List.cons.injEq, and_true] at hcs
    simp only [if_true] at hmm
    subst hmm
    have hc : m * 56 ≤ 140737488351232 := by
      have := hw (m * 56) (by
        rw [hx, DataW.weights, Tryz.underlying23]
        simp only [List.length_map, List.length_range, bytes_rn]
        rw [show len + (m - len) = m by omega]
        exact List.mem_cons_self ..)
      simpa [reachBytes] using this
    have each : ∀ i, i < len → ∃ r : RN, ∀ j u, (cellsR r)[j]? = some u → W.cell? ((a.add (i * 7)).add j) = some u := by
      intro i hi
      obtain ⟨cs', h1, h2⟩ := hcell i (by omega)
      rw [cells_rn] at h1
      obtain ⟨_, hlen, hc7⟩ := World.cells?_some h1
      obtain ⟨r, rfl⟩ := open_node h2
      refine ⟨r, fun j u hu => ?_⟩
      have hj : j < (cellsR r).length := (List.getElem?_eq_some_iff.1 hu).1
      have := hc7 j (by rw [hlen] at hj; exact hj)
      rw [this]
      exact hu
    let f : Nat → RN := fun i => if h : i < len then (each i h).choose else ⟨0, 0, 0, nilS⟩
    have hfs : ∀ i (h : i < len), f i = (each i h).choose := fun i h => dif_pos h
    refine ⟨some a, len, m, (List.range len).map f, hcs, by simp, hl, hc, fun i hi => ⟨a, rfl, fun j u hu => ?_⟩⟩
    have hin : i < len := by simpa using hi
    have eg : ((List.range len).map f)[i] = (each i hin).choose := by rw [List.getElem_map, List.getElem_range]; exact hfs i hin
    rw [eg] at hu
    exact (each i hin).choose_spec j u hu
set_option maxRecDepth 20000 in
theorem open_rex1 {H : Type} {enc : TypeId × Value → H} {W : World} {fuel : Nat} {c0 : Value} {x : DataW H × List MemPlace}
    (hf : DataW.trod enc Tryz.prog W 0 (fun _ => true) true fuel 25 [c0] = some x) (hw : ∀ n ∈ x.1.weights Tryz.prog 25, n ≤ reachBytes) :
    ∃ A n c l, c0 = .slice A n c ∧ l.length = n ∧ n ≤ c ∧ c * 56 ≤ 140737488351232 ∧ RdR W A l := by
  have hu := Tryz.underlying25
  obtain ⟨y0, n, hx, hlc, hf0⟩ := trod_struct1 hu hf
  simp only [cells_rnl] at hf0
  exact open_nodes (v := c0) hf0 (fun q hq => hw q (by
    rw [hx, DataW.weights, hu]
    simp only [List.map_cons, List.map_nil, DataW.weightsEach, List.append_nil]
    simpa using hq))
theorem bytes_ed : Tryz.prog.bytesOf 39 = 56 := by kernel_rfl
theorem cells_ed : Tryz.prog.cellsOf 39 = 7 := by kernel_rfl
theorem cells_nfa : Tryz.prog.cellsOf 29 = 3 := by kernel_rfl
theorem cells_bool : Tryz.prog.cellsOf 4 = 1 := by kernel_rfl
theorem cells_edl : Tryz.prog.cellsOf 26 = 1 := by kernel_rfl
theorem cells_intl : Tryz.prog.cellsOf 27 = 1 := by kernel_rfl
theorem bytes_int : Tryz.prog.bytesOf 3 = 8 := by kernel_rfl
theorem bytes_rex : Tryz.prog.bytesOf 25 = 24 := by kernel_rfl
set_option maxRecDepth 20000 in
/-- An edge's cells. -/
theorem open_edge {H : Type} {enc : TypeId × Value → H} {W : World} {fuel : Nat} {cs : List Value} {x : DataW H × List MemPlace}
    (h : DataW.trod enc Tryz.prog W 0 (fun _ => true) true fuel 39 cs = some x) : ∃ r : Ed, cs = cellsE r := by
  obtain ⟨y0, y1, y2, y3, n, _, hl, g0, g1, g2, g3⟩ := Go.Joins.trod_struct4 Tryz.underlying39 h
  rw [cells_ed] at hl
  match cs, hl with
  | [c0, c1, c2, c3, c4, c5, c6], _ =>
    simp only [cells_int, cells_set, cells_bool] at g0 g1 g2 g3
    obtain ⟨a, e0, _, _⟩ := DataW.trod_int Tryz.underlying3 g0
    obtain ⟨b, e1, _, _⟩ := DataW.trod_int Tryz.underlying3 g1
    obtain ⟨s, e2, e3, e4, e5⟩ := open_words g2
    obtain ⟨f, e6, _⟩ := DataW.trod_bool Tryz.underlying4 g3
    simp at e0 e1 e6
    refine ⟨⟨a, b, s, f⟩, ?_⟩
    rw [e0, e1, e2, e3, e4, e5, e6]
    rfl
set_option maxRecDepth 20000 in
/-- Edges in a slice. -/
theorem open_edges {H : Type} {enc : TypeId × Value → H} {W : World} {fuel : Nat} {v : Value} {x : DataW H × List MemPlace}
    (h : DataW.trod enc Tryz.prog W 0 (fun _ => true) true fuel 26 [v] = some x) (hw : ∀ n ∈ x.1.weights Tryz.prog 26, n ≤ reachBytes) :
    ∃ A n c l, v = .slice A n c ∧ l.length = n ∧ n ≤ c ∧ c * 56 ≤ 140737488351232 ∧ RdE W A l := by
  rcases Deep.open_slice Tryz.underlying26 h with ⟨hcs, hx⟩ | ⟨a, len, cap, m, n, D, Pl, hcs, hb, hl, hm, hmm, hx, hcell⟩
  · simp only [List.cons.injEq, and_true] at hcs
    exact ⟨none, 0, 0, [], hcs, rfl, by omega, by omega, fun i hi => absurd hi (by simp)⟩
  · simp only [List.cons.injEq, and_true] at hcs
    simp only [if_true] at hmm
    subst hmm
    have hc : m * 56 ≤ 140737488351232 := by
      have := hw (m * 56) (by
        rw [hx, DataW.weights, Tryz.underlying26]
        simp only [List.length_map, List.length_range, bytes_ed]
        rw [show len + (m - len) = m by omega]
        exact List.mem_cons_self ..)
      simpa [reachBytes] using this
    have each : ∀ i, i < len → ∃ r : Ed, ∀ j u, (cellsE r)[j]? = some u → W.cell? ((a.add (i * 7)).add j) = some u := by
      intro i hi
      obtain ⟨cs', h1, h2⟩ := hcell i (by omega)
      rw [cells_ed] at h1
      obtain ⟨_, hlen, hc7⟩ := World.cells?_some h1
      obtain ⟨r, rfl⟩ := open_edge h2
      refine ⟨r, fun j u hu => ?_⟩
      have hj : j < (cellsE r).length := (List.getElem?_eq_some_iff.1 hu).1
      have := hc7 j (by rw [hlen] at hj; exact hj)
      rw [this]
      exact hu
    let f : Nat → Ed := fun i => if h : i < len then (each i h).choose else ⟨0, 0, nilS, false⟩
    have hfs : ∀ i (h : i < len), f i = (each i h).choose := fun i h => dif_pos h
    refine ⟨some a, len, m, (List.range len).map f, hcs, by simp, hl, hc, fun i hi => ⟨a, rfl, fun j u hu => ?_⟩⟩
    have hin : i < len := by simpa using hi
    have eg : ((List.range len).map f)[i] = (each i hin).choose := by rw [List.getElem_map, List.getElem_range]; exact hfs i hin
    rw [eg] at hu
    exact (each i hin).choose_spec j u hu
set_option maxRecDepth 20000 in
/-- Whole numbers in a slice. -/
theorem open_intsW {H : Type} {enc : TypeId × Value → H} {W : World} {fuel : Nat} {v : Value} {x : DataW H × List MemPlace}
    (h : DataW.trod enc Tryz.prog W 0 (fun _ => true) true fuel 27 [v] = some x) (hw : ∀ n ∈ x.1.weights Tryz.prog 27, n ≤ reachBytes) :
    ∃ A n c l, v = .slice A n c ∧ l.length = n ∧ n ≤ c ∧ c * 8 ≤ 140737488351232 ∧ RdW W A l ∧ ∀ z ∈ l, -9223372036854775808 ≤ z ∧ z ≤ 9223372036854775807 := by
  rcases Deep.open_slice Tryz.underlying27 h with ⟨hcs, hx⟩ | ⟨a, len, cap, m, n, D, Pl, hcs, hb, hl, hm, hmm, hx, hcell⟩
  · simp only [List.cons.injEq, and_true] at hcs
    exact ⟨none, 0, 0, [], hcs, rfl, by omega, by omega, fun i hi => absurd hi (by simp), by simp⟩
  · simp only [List.cons.injEq, and_true] at hcs
    simp only [if_true] at hmm
    subst hmm
    have hc : m * 8 ≤ 140737488351232 := by
      have := hw (m * 8) (by
        rw [hx, DataW.weights, Tryz.underlying27]
        simp only [List.length_map, List.length_range, bytes_int]
        rw [show len + (m - len) = m by omega]
        exact List.mem_cons_self ..)
      simpa [reachBytes] using this
    have each : ∀ i, i < len → ∃ z : Int, W.cell? (a.add i) = some (.int .i64 z) ∧ -9223372036854775808 ≤ z ∧ z ≤ 9223372036854775807 := by
      intro i hi
      obtain ⟨cs', h1, h2⟩ := hcell i (by omega)
      rw [cells_int, Nat.mul_one] at h1
      obtain ⟨_, hlen, hc1⟩ := World.cells?_some h1
      obtain ⟨z, e, _, hwf⟩ := DataW.trod_int Tryz.underlying3 h2
      subst e
      refine ⟨z, ?_, by simpa [Lit.wf, IntKind.min, IntKind.max, IntKind.signed, IntKind.bits] using hwf⟩
      have := hc1 0 (by omega)
      rw [show (a.add i).add 0 = a.add i from by unfold Addr.add; simp] at this
      rw [this]
      rfl
    let f : Nat → Int := fun i => if h : i < len then (each i h).choose else 0
    have hfs : ∀ i (h : i < len), f i = (each i h).choose := fun i h => dif_pos h
    refine ⟨some a, len, m, (List.range len).map f, hcs, by simp, hl, hc, fun i hi => ⟨a, rfl, ?_⟩, fun z hz => ?_⟩
    · have hin : i < len := by simpa using hi
      have eg : ((List.range len).map f)[i] = (each i hin).choose := by rw [List.getElem_map, List.getElem_range]; exact hfs i hin
      rw [eg]
      exact (each i hin).choose_spec.1
    · obtain ⟨i, hi, rfl⟩ := List.mem_map.1 hz
      rw [hfs i (List.mem_range.1 hi)]
      exact (each i (List.mem_range.1 hi)).choose_spec.2
set_option maxRecDepth 20000 in
/-- An argument of type []int, opened. -/
theorem open_intl {H : Type} {enc : TypeId × Value → H} {W : World} {base : Nat} {v : Value} {d : DataW H} {p : List MemPlace} (hv : Value.okWide Tryz.prog W .any base 27 v)
    (h0 : DataW.Trod enc Tryz.prog W 0 (fun _ => true) true 27 v d p) (hw : ∀ n ∈ d.weights Tryz.prog 27, n ≤ reachBytes) :
    ∃ A n c l, v = .slice A n c ∧ l.length = n ∧ n ≤ c ∧ c * 8 ≤ 140737488351232 ∧ RdW W A l ∧ ∀ z ∈ l, -9223372036854775808 ≤ z ∧ z ≤ 9223372036854775807 := by
  obtain ⟨A, n, c, rfl⟩ := okWide_slice Tryz.underlying27 hv
  obtain ⟨fuel, hf⟩ := h0
  simp only [Value.cells] at hf
  exact open_intsW (v := .slice A n c) hf hw
set_option maxRecDepth 20000 in
/-- An argument of type api.Nfa, opened. -/
theorem open_nfa {H : Type} {enc : TypeId × Value → H} {W : World} {base : Nat} {v : Value} {d : DataW H} {p : List MemPlace} (hv : Value.okWide Tryz.prog W .any base 29 v)
    (h0 : DataW.Trod enc Tryz.prog W 0 (fun _ => true) true 29 v d p) (hw : ∀ n ∈ d.weights Tryz.prog 29, n ≤ reachBytes) :
    ∃ S A n c E B m k X, v = .agg #[.int .i64 S, .slice A n c, .slice B m k] ∧ (-9223372036854775808 ≤ S ∧ S ≤ 9223372036854775807) ∧ (E.length = n ∧ n ≤ c ∧ c * 56 ≤ 140737488351232 ∧ RdE W A E) ∧ (X.length = m ∧ m ≤ k ∧ k * 8 ≤ 140737488351232 ∧ RdW W B X ∧ ∀ z ∈ X, -9223372036854775808 ≤ z ∧ z ≤ 9223372036854775807) := by
  have hu := Tryz.underlying29
  unfold Value.okWide at hv
  rw [hu] at hv
  obtain ⟨cs, rfl, hsz, _⟩ := hv
  rw [cells_nfa] at hsz
  obtain ⟨fuel, hf⟩ := h0
  obtain ⟨l⟩ := cs
  match l, hsz with
  | [c0, c1, c2], _ =>
    obtain ⟨y0, y1, y2, n, hx, hlc, g0, g1, g2⟩ := Deep.trod_struct3 hu hf
    simp only [Value.cells, cells_int, cells_edl, cells_intl] at g0 g1 g2
    simp only [Prod.mk.injEq] at hx
    have hw' : ∀ q, (q ∈ y1.1.weights Tryz.prog 26 ∨ q ∈ y2.1.weights Tryz.prog 27) → q ≤ reachBytes := fun q hq => hw q (by
      rw [hx.1, DataW.weights, hu]
      simp only [List.map_cons, List.map_nil, DataW.weightsEach, List.append_nil, List.mem_append]
      exact Or.inr hq)
    obtain ⟨S, e0, _, w0⟩ := DataW.trod_int Tryz.underlying3 g0
    obtain ⟨A, n1, k1, E, e1, p1⟩ := open_edges (v := c1) g1 (fun q hq => hw' q (.inl hq))
    obtain ⟨B, n2, k2, X, e2, p2⟩ := open_intsW (v := c2) g2 (fun q hq => hw' q (.inr hq))
    have hb : -9223372036854775808 ≤ S ∧ S ≤ 9223372036854775807 := by simpa [Lit.wf, IntKind.min, IntKind.max, IntKind.signed, IntKind.bits] using w0
    have e0' : c0 = .int .i64 S := by simpa using e0
    subst e0' e1 e2
    exact ⟨S, A, n1, k1, E, B, n2, k2, X, rfl, hb, p1, p2⟩
theorem wAll_mem {H : Type} {P : Program} {e : TypeId} {n : Nat} : ∀ {l : List (DataW H)} {d : DataW H}, d ∈ l → n ∈ d.weights P e → n ∈ DataW.weightsAll P e l
  | x :: l, d, h, hn => by
    rw [DataW.weightsAll, List.mem_append]
    rcases List.mem_cons.1 h with rfl | h
    · exact .inl hn
    · exact .inr (wAll_mem h hn)
set_option maxRecDepth 20000 in
/-- An argument of type []api.Rex, opened. -/
theorem open_rexl {H : Type} {enc : TypeId × Value → H} {W : World} {base : Nat} {v : Value} {d : DataW H} {p : List MemPlace} (hv : Value.okWide Tryz.prog W .any base 22 v)
    (h0 : DataW.Trod enc Tryz.prog W 0 (fun _ => true) true 22 v d p) (hw : ∀ n ∈ d.weights Tryz.prog 22, n ≤ reachBytes) :
    ∃ A n c Ls, v = .slice A n c ∧ Ls.length = n ∧ n ≤ c ∧ c * 24 ≤ 140737488351232 ∧ RdX W A Ls ∧ ∀ l ∈ Ls, l.length * 56 ≤ 140737488351232 := by
  obtain ⟨A, n, c, rfl⟩ := okWide_slice Tryz.underlying22 hv
  obtain ⟨fuel, hf⟩ := h0
  simp only [Value.cells] at hf
  rcases Deep.open_slice Tryz.underlying22 hf with ⟨hcs, hx⟩ | ⟨a, len, cap, m, n', D, Pl, hcs, hb, hl, hm, hmm, hx, hcell⟩
  · simp only [List.cons.injEq, and_true] at hcs
    injection hcs with h1 h2 h3
    subst h1 h2 h3
    exact ⟨none, 0, 0, [], rfl, rfl, by omega, by omega, fun i hi => absurd hi (by simp), by simp⟩
  · simp only [List.cons.injEq, and_true] at hcs
    injection hcs with h1 h2 h3
    subst h1 h2 h3
    simp only [if_true] at hmm
    subst hmm
    simp only [Prod.mk.injEq] at hx
    have hwl : ∀ q, (q = m * 24 ∨ ∃ i, i < n ∧ q ∈ (D i).weights Tryz.prog 25) → q ≤ reachBytes := fun q hq => hw q (by
      rw [hx.1, DataW.weights, Tryz.underlying22]
      simp only [List.length_map, List.length_range, bytes_rex]
      rw [show n + (m - n) = m by omega]
      rcases hq with rfl | ⟨i, hi, hq⟩
      · exact List.mem_cons_self ..
      · refine List.mem_cons_of_mem _ ?_
        exact List.mem_append_left _ (wAll_mem (List.mem_map.2 ⟨i, List.mem_range.2 hi, rfl⟩) hq))
    have hc : m * 24 ≤ 140737488351232 := by simpa [reachBytes] using hwl _ (Or.inl rfl)
    have each : ∀ i, i < n → ∃ (l : List RN) (B : Option Addr) (q d : Nat), W.cell? (a.add i) = some (.slice B q d) ∧ l.length = q ∧ q ≤ d ∧ RdR W B l ∧ l.length * 56 ≤ 140737488351232 := by
      intro i hi
      obtain ⟨cs', h1, h2⟩ := hcell i (by omega)
      rw [cells_rex, Nat.mul_one] at h1
      obtain ⟨_, hlen, hc1⟩ := World.cells?_some h1
      match cs', hlen with
      | [c0], _ =>
        obtain ⟨B, q, d, l, e, p1, p2, p3, p4⟩ := open_rex1 h2 (fun q hq => hwl q (Or.inr ⟨i, hi, hq⟩))
        subst e
        refine ⟨l, B, q, d, ?_, p1, p2, p4, by omega⟩
        have := hc1 0 (by omega)
        rw [show (a.add i).add 0 = a.add i from by unfold Addr.add; simp] at this
        rw [this]
        rfl
    let f : Nat → List RN := fun i => if h : i < n then (each i h).choose else []
    have hfs : ∀ i (h : i < n), f i = (each i h).choose := fun i h => dif_pos h
    refine ⟨some a, n, m, (List.range n).map f, rfl, by simp, hl, hc, fun i hi => ?_, fun l hl => ?_⟩
    · have hin : i < n := by simpa using hi
      have eg : ((List.range n).map f)[i] = (each i hin).choose := by rw [List.getElem_map, List.getElem_range]; exact hfs i hin
      rw [eg]
      obtain ⟨B, q, d, p1, p2, p3, p4, _⟩ := (each i hin).choose_spec
      exact ⟨a, B, q, d, rfl, p1, p2, p3, p4⟩
    · obtain ⟨i, hi, rfl⟩ := List.mem_map.1 hl
      rw [hfs i (List.mem_range.1 hi)]
      obtain ⟨B, q, d, _, _, _, _, p⟩ := (each i (List.mem_range.1 hi)).choose_spec
      exact p

end Go.Proofs.YtjibfffefppniaaGreat
