/- From a walk to a law's statement where the row lists math/bits' table: a law whose call answers true and turns nothing that was there. -/
import Derived.Test.YteedmkokbapkgaaDoorRgEq
import Derived.Test.YteedmkokbapkgaaDoorRow
import Derived.Test.YteedmkokbapkgaaDoorCards
import Derived.Test.YteedmkokbapkgaaDoorTie
import Derived.Deep.DeepHandedRow
import Derived.Lib.LaidTab
import Derived.LaidLaws
import Derived.SevenTiedAt
set_option linter.unusedVariables false
set_option linter.unusedSimpArgs false
namespace Go.Proofs.YteedmkokbapkgaaDoor
open Go.ChangeShapes Go.WideShapes Go.ChangeAt Go.RowKit

/-- What the rows list. -/
def laidL : List (String × DataW Unit) := [("math/bits.deBruijn64tab", Rows.laid_math_bits_deBruijn64tab)]
theorem gTab : Tryd.prog.globalNamed "math/bits.deBruijn64tab" = some 0 := by kernel_rfl
theorem gTabType : (Tryd.prog.globals[0]?).map (·.type) = some 133 := by kernel_rfl
theorem cellsTab : Tryd.prog.cellsOf 133 = 64 := by kernel_rfl
theorem tab_of {W : World} (h : laidMetH Tryd.prog laidL W) : Tab W := by
  have ht : Lib.TabIs Tryd.prog W "math/bits.deBruijn64tab" .u8 (Lib.deBruijn64tab.map (fun n : Nat => (n : Int))) :=
    Lib.tabIs_of_head (rest := []) gTab gTabType Tryd.underlying133 Tryd.underlying5 cells_u8 cellsTab h
  intro j hj
  have hl : (Lib.deBruijn64tab.map (fun n : Nat => (n : Int))).length = 64 := by decide
  have hc := ht.cell gTab j (by rw [hl]; exact hj)
  rw [hc]
  congr 2
  rw [List.getD_eq_getElem?_getD, List.getElem?_map, List.getD_eq_getElem?_getD]
  cases Lib.deBruijn64tab[j]? <;> rfl

set_option maxRecDepth 20000 in
theorem law_lifted_laid {s : ChangeSpec} {f : Nat} {fn : Func} {conds : List PathCond} (hfn : Tryd.prog.funcs[f]? = some fn) (noInit : Tryd.prog.inits.idxOf? f = none)
    (hvars : s.vars = []) (hspec : ∀ (H : Type) (ds : List (DataW H)), ds.length = fn.params.toList.length → s.fn H ds = { results := [.lit (.bool true)], args := ds }) (hres : fn.resultTypes = #[4])
    (hread : (fn.params.toList.all fun t => Tryd.prog.readableRec t && decide (t < Tryd.prog.types.size)) = true)
    (os : Os) (started : os.Started) (H : Type) (enc : TypeId × Value → H) (F : Stop.Interp)
    (witness : ∃ (w : World) (tape : Tape) (i : Input), w.os = os ∧ (w.forCall tape i).Shaped Tryd.prog ∧ i.vars = [] ∧ Input.okWide Tryd.prog (w.forCall tape i) .any w.heap.size f i ∧
      (OpenSpec.ofChange s).preRow enc Tryd.prog fn conds false laidL (w.forCall tape i).memory i.args ∧ ({} : Assume).holds Tryd.prog (lone (Frame.enter Tryd.prog f i.args .normal) [] (w.forCall tape i)))
    (walk : ∀ (W : World) (args : Array Value) (ds : List (DataW H)) (p : List MemPlace), Handed enc fn W args ds p → Tab W → Calls Tryd.prog f args W (Yes W)) :
    ReturnsInHanded {} Tryd.checked os f .any ((OpenSpec.ofChange s).preRow enc Tryd.prog fn conds false laidL) (((OpenSpec.ofChange s).at F).post enc Tryd.prog fn false true false false) := by
  refine returnsInHanded_of_row (C := Tryd.checked) (s := OpenSpec.ofChange s) own started noInit hfn witness ?_
  intro W base args ds gs before hval hW _ _ hsz hL _ _
  have hWk : DataW.Whole enc Tryd.prog fn.params.toList s.vars false W args.toList ds gs before := hW
  obtain ⟨p, q, hA, hV, rfl, _, _⟩ := hWk
  have hWk : DataW.Whole enc Tryd.prog fn.params.toList s.vars false W args.toList ds gs (p ++ q) := hW
  rw [hvars] at hV
  obtain ⟨rfl, rfl⟩ := trodVars_none hV
  refine (walk W args ds p ⟨⟨base, hval⟩, hA, fun j t d ht hd n hn => ?_⟩ (tab_of hL)).mono fun e W' ⟨he, hb⟩ => ⟨_, he, law_post (s := s) hvars (hspec H ds (trodAll_len hA)) hres (fun t ht => by have h2 := List.all_eq_true.1 hread t ht; rw [Bool.and_eq_true] at h2; exact ⟨h2.1, of_decide_eq_true h2.2⟩) hWk hb⟩
  have hj : j < fn.params.toList.length := (List.getElem?_eq_some_iff.1 ht).1
  have hmem := DataW.weights_mem_each (P := Tryd.prog) (ts := fn.params.toList ++ (OpenSpec.ofChange s).bare.plain.varTypes Tryd.prog) (ds := ds ++ []) (j := j) (by rw [List.getElem?_append_left hj]; exact ht) (by simpa using hd) n hn
  have := List.all_eq_true.1 hsz n hmem
  simpa using this

/-- A world for the witness: the settled one, the table holding what its initialiser lays. -/
noncomputable def laidWorld (os : Os) : World :=
  { World.holding Tryd.prog os ⟨#[], #[], []⟩ with heap := (World.holding Tryd.prog os ⟨#[], #[], []⟩).heap.modify 0 fun
      | .cells _ t frozen => .cells (Lib.deBruijn64tab.map (fun n : Nat => Value.int .u8 (n : Int))).toArray t frozen
      | o => o }

set_option maxRecDepth 20000 in
/-- An argument of type api.Set, opened. -/
theorem open_set {H : Type} {enc : TypeId × Value → H} {W : World} {base : Nat} {v : Value} {d : DataW H} {p : List MemPlace} (hv : Value.okWide Tryd.prog W .any base 57 v)
    (h0 : DataW.Trod enc Tryd.prog W 0 (fun _ => true) true 57 v d p) : ∃ f : Nat → BitVec 64, v = .agg (row4 f) := by
  have hu := Tryd.underlying57
  have hcs4 : Tryd.prog.cellsOf 57 = 4 := by kernel_rfl
  have hcu : Tryd.prog.cellsOf 55 = 1 := by kernel_rfl
  unfold Value.okWide at hv
  rw [hu] at hv
  obtain ⟨cs, rfl, hsz, _⟩ := hv
  rw [hcs4] at hsz
  obtain ⟨fuel, hf⟩ := h0
  obtain ⟨xs, m, a1, a2, a3, hxl, hx⟩ := DataW.trod_array hu hf
  have key : ∀ j, j < 4 → ∃ x : BitVec 64, cs[j]? = some (dv x) := by
    intro j hj
    have h1 := hx j (by omega)
    simp only [hcu, Value.cells, Nat.mul_one] at h1
    rw [List.getElem?_eq_getElem (by omega)] at h1
    obtain ⟨x, e1, _, w1⟩ := DataW.trod_int Tryd.underlying55 h1
    have hcs : cs[j]? = some (.int .u64 x) := by
      have e2 : (List.take 1 (List.drop j cs.toList))[0]? = some (.int .u64 x) := by rw [e1]; rfl
      rw [List.getElem?_take, if_pos (by omega), List.getElem?_drop] at e2
      simpa using e2
    have hb : 0 ≤ x ∧ x ≤ 18446744073709551615 := by simpa [Lit.wf, IntKind.min, IntKind.max, IntKind.signed, IntKind.bits] using w1
    refine ⟨BitVec.ofNat 64 x.toNat, ?_⟩
    rw [hcs]
    unfold dv
    rw [BitVec.toNat_ofNat, Nat.mod_eq_of_lt (by omega), Int.toNat_of_nonneg hb.1]
  refine ⟨fun j => if h : j < 4 then Classical.choose (key j h) else 0, ?_⟩
  congr 1
  refine row4_ext _ cs hsz fun j hj => ?_
  rw [dif_pos hj]
  exact Classical.choose_spec (key j hj)

set_option maxRecDepth 20000 in
/-- An argument of type byte, opened. -/
theorem open_u8 {H : Type} {enc : TypeId × Value → H} {W : World} {base : Nat} {v : Value} {d : DataW H} {p : List MemPlace} (hv : Value.okWide Tryd.prog W .any base 5 v)
    (h0 : DataW.Trod enc Tryd.prog W 0 (fun _ => true) true 5 v d p) : ∃ n : Nat, v = .int .u8 (n : Int) ∧ n < 256 := by
  obtain ⟨n, rfl, rfl, rfl, hw⟩ := open_int Tryd.underlying5 hv h0
  have hb : 0 ≤ n ∧ n ≤ 255 := by simpa [Lit.wf, IntKind.min, IntKind.max, IntKind.signed, IntKind.bits] using hw
  exact ⟨n.toNat, by rw [Int.toNat_of_nonneg hb.1], by omega⟩

end Go.Proofs.YteedmkokbapkgaaDoor
