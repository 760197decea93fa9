/- From a walk to a law's statement where the row lists math/bits' table: a law whose call answers true and turns nothing that was there. -/
import Derived.Test.YteedmkokbapkgaaDoorRgJm
import Derived.Test.YteedmkokbapkgaaDoorRow
import Derived.Test.YteedmkokbapkgaaDoorCards
import Derived.Test.YteedmkokbapkgaaDoorTie
import Derived.Deep.DeepHandedRow
import Derived.Lib.LaidTab
import Derived.LaidLaws
import Derived.SevenTiedAt
import Derived.ChangeMaps5
import Derived.ChangeSame
import Derived.Laws.IdiomArrays
import Derived.Lib.SmallJoins
import Derived.Deep.Slices
set_option linter.unusedVariables false
set_option linter.unusedSimpArgs false
namespace Go.Proofs.YteedmkokbapkgaaDoor
open Go.ChangeShapes Go.WideShapes Go.ChangeAt Go.RowKit

/-- What the rows list. -/
def laidL : List (String × DataW Unit) := [("math/bits.deBruijn64tab", Rows.laid_math_bits_deBruijn64tab)]
theorem gTab : Tryd.prog.globalNamed "math/bits.deBruijn64tab" = some 0 := by kernel_rfl
theorem gTabType : (Tryd.prog.globals[0]?).map (·.type) = some 133 := by kernel_rfl
theorem cellsTab : Tryd.prog.cellsOf 133 = 64 := by kernel_rfl
theorem tab_of {W : World} (h : laidMetH Tryd.prog laidL W) : Tab W := by
  have ht : Lib.TabIs Tryd.prog W "math/bits.deBruijn64tab" .u8 (Lib.deBruijn64tab.map (fun n : Nat => (n : Int))) :=
    Lib.tabIs_of_head (rest := []) gTab gTabType Tryd.underlying133 Tryd.underlying5 cells_u8 cellsTab h
  intro j hj
  have hl : (Lib.deBruijn64tab.map (fun n : Nat => (n : Int))).length = 64 := by decide
  have hc := ht.cell gTab j (by rw [hl]; exact hj)
  rw [hc]
  congr 2
  rw [List.getD_eq_getElem?_getD, List.getElem?_map, List.getD_eq_getElem?_getD]
  cases Lib.deBruijn64tab[j]? <;> rfl

set_option maxRecDepth 20000 in
theorem law_lifted_laid {s : ChangeSpec} {f : Nat} {fn : Func} {conds : List PathCond} (hfn : Tryd.prog.funcs[f]? = some fn) (noInit : Tryd.prog.inits.idxOf? f = none)
    (hvars : s.vars = []) (hspec : ∀ (H : Type) (ds : List (DataW H)), ds.length = fn.params.toList.length → s.fn H ds = { results := [.lit (.bool true)], args := ds }) (hres : fn.resultTypes = #[4])
    (hread : (fn.params.toList.all fun t => Tryd.prog.readableRec t && decide (t < Tryd.prog.types.size)) = true)
    (os : Os) (started : os.Started) (H : Type) (enc : TypeId × Value → H) (F : Stop.Interp)
    (witness : ∃ (w : World) (tape : Tape) (i : Input), w.os = os ∧ (w.forCall tape i).Shaped Tryd.prog ∧ i.vars = [] ∧ Input.okWide Tryd.prog (w.forCall tape i) .any w.heap.size f i ∧
      (OpenSpec.ofChange s).preRow enc Tryd.prog fn conds false laidL (w.forCall tape i).memory i.args ∧ ({} : Assume).holds Tryd.prog (lone (Frame.enter Tryd.prog f i.args .normal) [] (w.forCall tape i)))
    (walk : ∀ (W : World) (args : Array Value) (ds : List (DataW H)) (p : List MemPlace), Handed enc fn W args ds p → Tab W → Calls Tryd.prog f args W (Yes W)) :
    ReturnsInHanded {} Tryd.checked os f .any ((OpenSpec.ofChange s).preRow enc Tryd.prog fn conds false laidL) (((OpenSpec.ofChange s).at F).post enc Tryd.prog fn false true false false) := by
  refine returnsInHanded_of_row (C := Tryd.checked) (s := OpenSpec.ofChange s) own started noInit hfn witness ?_
  intro W base args ds gs before hval hW _ _ hsz hL _ _
  have hWk : DataW.Whole enc Tryd.prog fn.params.toList s.vars false W args.toList ds gs before := hW
  obtain ⟨p, q, hA, hV, rfl, _, _⟩ := hWk
  have hWk : DataW.Whole enc Tryd.prog fn.params.toList s.vars false W args.toList ds gs (p ++ q) := hW
  rw [hvars] at hV
  obtain ⟨rfl, rfl⟩ := trodVars_none hV
  refine (walk W args ds p ⟨⟨base, hval⟩, hA, fun j t d ht hd n hn => ?_⟩ (tab_of hL)).mono fun e W' ⟨he, hb⟩ => ⟨_, he, law_post (s := s) hvars (hspec H ds (trodAll_len hA)) hres (fun t ht => by have h2 := List.all_eq_true.1 hread t ht; rw [Bool.and_eq_true] at h2; exact ⟨h2.1, of_decide_eq_true h2.2⟩) hWk hb⟩
  have hj : j < fn.params.toList.length := (List.getElem?_eq_some_iff.1 ht).1
  have hmem := DataW.weights_mem_each (P := Tryd.prog) (ts := fn.params.toList ++ (OpenSpec.ofChange s).bare.plain.varTypes Tryd.prog) (ds := ds ++ []) (j := j) (by rw [List.getElem?_append_left hj]; exact ht) (by simpa using hd) n hn
  have := List.all_eq_true.1 hsz n hmem
  simpa using this

/-- A world for the witness: the settled one, the table holding what its initialiser lays. -/
noncomputable def laidWorld (os : Os) : World :=
  { World.holding Tryd.prog os ⟨#[], #[], []⟩ with heap := (World.holding Tryd.prog os ⟨#[], #[], []⟩).heap.modify 0 fun
      | .cells _ t frozen => .cells (Lib.deBruijn64tab.map (fun n : Nat => Value.int .u8 (n : Int))).toArray t frozen
      | o => o }

set_option maxRecDepth 20000 in
/-- An argument of type api.Set, opened. -/
theorem open_set {H : Type} {enc : TypeId × Value → H} {W : World} {base : Nat} {v : Value} {d : DataW H} {p : List MemPlace} (hv : Value.okWide Tryd.prog W .any base 57 v)
    (h0 : DataW.Trod enc Tryd.prog W 0 (fun _ => true) true 57 v d p) : ∃ f : Nat → BitVec 64, v = .agg (row4 f) := by
  have hu := Tryd.underlying57
  have hcs4 : Tryd.prog.cellsOf 57 = 4 := by kernel_rfl
  have hcu : Tryd.prog.cellsOf 55 = 1 := by kernel_rfl
  unfold Value.okWide at hv
  rw [hu] at hv
  obtain ⟨cs, rfl, hsz, _⟩ := hv
  rw [hcs4] at hsz
  obtain ⟨fuel, hf⟩ := h0
  obtain ⟨xs, m, a1, a2, a3, hxl, hx⟩ := DataW.trod_array hu hf
  have key : ∀ j, j < 4 → ∃ x : BitVec 64, cs[j]? = some (dv x) := by
    intro j hj
    have h1 := hx j (by omega)
    simp only [hcu, Value.cells, Nat.mul_one] at h1
    rw [List.getElem?_eq_getElem (by omega)] at h1
    obtain ⟨x, e1, _, w1⟩ := DataW.trod_int Tryd.underlying55 h1
    have hcs : cs[j]? = some (.int .u64 x) := by
      have e2 : (List.take 1 (List.drop j cs.toList))[0]? = some (.int .u64 x) := by rw [e1]; rfl
      rw [List.getElem?_take, if_pos (by omega), List.getElem?_drop] at e2
      simpa using e2
    have hb : 0 ≤ x ∧ x ≤ 18446744073709551615 := by simpa [Lit.wf, IntKind.min, IntKind.max, IntKind.signed, IntKind.bits] using w1
    refine ⟨BitVec.ofNat 64 x.toNat, ?_⟩
    rw [hcs]
    unfold dv
    rw [BitVec.toNat_ofNat, Nat.mod_eq_of_lt (by omega), Int.toNat_of_nonneg hb.1]
  refine ⟨fun j => if h : j < 4 then Classical.choose (key j h) else 0, ?_⟩
  congr 1
  refine row4_ext _ cs hsz fun j hj => ?_
  rw [dif_pos hj]
  exact Classical.choose_spec (key j hj)

set_option maxRecDepth 20000 in
/-- An argument of type byte, opened. -/
theorem open_u8 {H : Type} {enc : TypeId × Value → H} {W : World} {base : Nat} {v : Value} {d : DataW H} {p : List MemPlace} (hv : Value.okWide Tryd.prog W .any base 5 v)
    (h0 : DataW.Trod enc Tryd.prog W 0 (fun _ => true) true 5 v d p) : ∃ n : Nat, v = .int .u8 (n : Int) ∧ n < 256 := by
  obtain ⟨n, rfl, rfl, rfl, hw⟩ := open_int Tryd.underlying5 hv h0
  have hb : 0 ≤ n ∧ n ≤ 255 := by simpa [Lit.wf, IntKind.min, IntKind.max, IntKind.signed, IntKind.bits] using hw
  exact ⟨n.toNat, by rw [Int.toNat_of_nonneg hb.1], by omega⟩

theorem bytes_rn : Tryd.prog.bytesOf 59 = 56 := by kernel_rfl
theorem cells_rn : Tryd.prog.cellsOf 59 = 7 := by kernel_rfl
theorem cells_rex : Tryd.prog.cellsOf 24 = 1 := by kernel_rfl
theorem cells_set : Tryd.prog.cellsOf 57 = 4 := by kernel_rfl
theorem cells_u64 : Tryd.prog.cellsOf 55 = 1 := by kernel_rfl
theorem cells_int : Tryd.prog.cellsOf 3 = 1 := by kernel_rfl
theorem cells_rnl : Tryd.prog.cellsOf 22 = 1 := by kernel_rfl

set_option maxRecDepth 20000 in
/-- A set of bytes as it lies in a node. -/
theorem open_words {H : Type} {enc : TypeId × Value → H} {W : World} {fuel : Nat} {c0 c1 c2 c3 : Value} {x : DataW H × List MemPlace}
    (h : DataW.trod enc Tryd.prog W 0 (fun _ => true) true fuel 57 [c0, c1, c2, c3] = some x) : ∃ s : S4, c0 = dv s.w0 ∧ c1 = dv s.w1 ∧ c2 = dv s.w2 ∧ c3 = dv s.w3 := by
  obtain ⟨y0, y1, y2, y3, n, _, g0, g1, g2, g3⟩ := trod_array4 Tryd.underlying57 cells_u64 h
  have one : ∀ (v : Value) (y : DataW H × List MemPlace), DataW.trod enc Tryd.prog W 0 (fun _ => true) true n 55 [v] = some y → ∃ b : BitVec 64, v = dv b := by
    intro v y hy
    obtain ⟨x, e1, _, w1⟩ := DataW.trod_int Tryd.underlying55 hy
    have hb : 0 ≤ x ∧ x ≤ 18446744073709551615 := by simpa [Lit.wf, IntKind.min, IntKind.max, IntKind.signed, IntKind.bits] using w1
    simp only [List.cons.injEq, and_true] at e1
    refine ⟨BitVec.ofNat 64 x.toNat, ?_⟩
    rw [e1]
    unfold dv
    rw [BitVec.toNat_ofNat, Nat.mod_eq_of_lt (by omega), Int.toNat_of_nonneg hb.1]
  obtain ⟨b0, e0⟩ := one _ _ g0
  obtain ⟨b1, e1⟩ := one _ _ g1
  obtain ⟨b2, e2⟩ := one _ _ g2
  obtain ⟨b3, e3⟩ := one _ _ g3
  exact ⟨⟨b0, b1, b2, b3⟩, e0, e1, e2, e3⟩
set_option maxRecDepth 20000 in
/-- A node's cells. -/
theorem open_node {H : Type} {enc : TypeId × Value → H} {W : World} {fuel : Nat} {cs : List Value} {x : DataW H × List MemPlace}
    (h : DataW.trod enc Tryd.prog W 0 (fun _ => true) true fuel 59 cs = some x) : ∃ r : RN, cs = cellsR r := by
  obtain ⟨y0, y1, y2, y3, n, _, hl, g0, g1, g2, g3⟩ := Go.Joins.trod_struct4 Tryd.underlying59 h
  rw [cells_rn] at hl
  match cs, hl with
  | [c0, c1, c2, c3, c4, c5, c6], _ =>
    simp only [cells_int, cells_set] at g0 g1 g2 g3
    obtain ⟨k, e0, _, _⟩ := DataW.trod_int Tryd.underlying3 g0
    obtain ⟨s, e1, e2, e3, e4⟩ := open_words g1
    obtain ⟨a, e5, _, _⟩ := DataW.trod_int Tryd.underlying3 g2
    obtain ⟨b, e6, _, _⟩ := DataW.trod_int Tryd.underlying3 g3
    simp at e0 e5 e6
    refine ⟨⟨k, a, b, s⟩, ?_⟩
    rw [e0, e1, e2, e3, e4, e5, e6]
    rfl
set_option maxRecDepth 20000 in
/-- Nodes in a slice. -/
theorem open_nodes {H : Type} {enc : TypeId × Value → H} {W : World} {fuel : Nat} {v : Value} {x : DataW H × List MemPlace}
    (h : DataW.trod enc Tryd.prog W 0 (fun _ => true) true fuel 22 [v] = some x) (hw : ∀ n ∈ x.1.weights Tryd.prog 22, n ≤ reachBytes) :
    ∃ A n c l, v = .slice A n c ∧ l.length = n ∧ n ≤ c ∧ c * 56 ≤ 140737488351232 ∧ RdR W A l := by
  rcases Deep.open_slice Tryd.underlying22 h with ⟨hcs, hx⟩ | ⟨a, len, cap, m, n, D, Pl, hcs, hb, hl, hm, hmm, hx, hcell⟩
  · simp only [List.cons.injEq, and_true] at hcs
    exact ⟨none, 0, 0, [], hcs, rfl, by omega, by omega, fun i hi => absurd hi (by simp)⟩
  · simp only [List.cons.injEq, and_true] at hcs
    simp only [if_true] at hmm
    subst hmm
    have hc : m * 56 ≤ 140737488351232 := by
      have := hw (m * 56) (by
        rw [hx, DataW.weights, Tryd.underlying22]
        simp only [List.length_map, List.length_range, bytes_rn]
        rw [show len + (m - len) = m by omega]
        exact List.mem_cons_self ..)
      simpa [reachBytes] using this
    have each : ∀ i, i < len → ∃ r : RN, ∀ j u, (cellsR r)[j]? = some u → W.cell? ((a.add (i * 7)).add j) = some u := by
      intro i hi
      obtain ⟨cs', h1, h2⟩ := hcell i (by omega)
      rw [cells_rn] at h1
      obtain ⟨_, hlen, hc7⟩ := World.cells?_some h1
      obtain ⟨r, rfl⟩ := open_node h2
      refine ⟨r, fun j u hu => ?_⟩
      have hj : j < (cellsR r).length := (List.getElem?_eq_some_iff.1 hu).1
      have := hc7 j (by rw [hlen] at hj; exact hj)
      rw [this]
      exact hu
    let f : Nat → RN := fun i => if h : i < len then (each i h).choose else ⟨0, 0, 0, nilS⟩
    have hfs : ∀ i (h : i < len), f i = (each i h).choose := fun i h => dif_pos h
    refine ⟨some a, len, m, (List.range len).map f, hcs, by simp, hl, hc, fun i hi => ⟨a, rfl, fun j u hu => ?_⟩⟩
    have hin : i < len := by simpa using hi
    have eg : ((List.range len).map f)[i] = (each i hin).choose := by rw [List.getElem_map, List.getElem_range]; exact hfs i hin
    rw [eg] at hu
    exact (each i hin).choose_spec j u hu
set_option maxRecDepth 20000 in
/-- An argument of type api.Rex, opened. -/
theorem open_rex {H : Type} {enc : TypeId × Value → H} {W : World} {base : Nat} {v : Value} {d : DataW H} {p : List MemPlace} (hv : Value.okWide Tryd.prog W .any base 24 v)
    (h0 : DataW.Trod enc Tryd.prog W 0 (fun _ => true) true 24 v d p) (hw : ∀ n ∈ d.weights Tryd.prog 24, n ≤ reachBytes) :
    ∃ A n c l, v = .agg #[.slice A n c] ∧ l.length = n ∧ n ≤ c ∧ c * 56 ≤ 140737488351232 ∧ RdR W A l := by
  have hu := Tryd.underlying24
  unfold Value.okWide at hv
  rw [hu] at hv
  obtain ⟨cs, rfl, hsz, _⟩ := hv
  rw [cells_rex] at hsz
  obtain ⟨fuel, hf⟩ := h0
  obtain ⟨y0, n, hx, hlc, hf0⟩ := trod_struct1 hu hf
  obtain ⟨l⟩ := cs
  match l, hsz with
  | [c0], _ =>
    simp only [Value.cells, cells_rnl] at hf0
    obtain ⟨A, n, c, l, e, h1, h2, h3, h4⟩ := open_nodes (v := c0) hf0 (fun q hq => hw q (by
      simp only [Prod.mk.injEq] at hx
      rw [hx.1, DataW.weights, hu]
      simp only [List.map_cons, List.map_nil, DataW.weightsEach, List.append_nil]
      simpa using hq))
    rw [e]
    exact ⟨A, n, c, l, rfl, h1, h2, h3, h4⟩

set_option maxRecDepth 20000 in
/-- An argument of type string, opened. -/
theorem open_str9 {H : Type} {enc : TypeId × Value → H} {W : World} {base : Nat} {v : Value} {d : DataW H} {p : List MemPlace} (hv : Value.okWide Tryd.prog W .any base 9 v)
    (h0 : DataW.Trod enc Tryd.prog W 0 (fun _ => true) true 9 v d p) : ∃ l : List UInt8, v = .string ⟨l.toArray⟩ ∧ l.length ≤ maxLen := by
  obtain ⟨s, rfl, _, _, hs⟩ := Go.ChangeMaps.open_string Tryd.underlying9 hv h0
  exact ⟨s.data.toList, rfl, by rw [Array.length_toList]; exact hs⟩

end Go.Proofs.YteedmkokbapkgaaDoor
