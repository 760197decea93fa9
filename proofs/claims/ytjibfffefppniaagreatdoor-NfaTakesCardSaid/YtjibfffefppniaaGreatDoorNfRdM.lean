/- From a walk to a law's statement, for nets and patterns, where the row lists math/bits' table. -/
import Derived.Test.YtjibfffefppniaaGreatDoorNfRowM
import Derived.Test.YtjibfffefppniaaGreatDoorCards
import Derived.Test.YtjibfffefppniaaGreatDoorTie
import Derived.Deep.DeepHandedRow
import Derived.Lib.LaidTab
import Derived.LaidLaws
import Derived.SevenTiedAt
set_option linter.unusedVariables false
set_option linter.unusedSimpArgs false
namespace Go.Proofs.YtjibfffefppniaaGreatDoor
open Go.ChangeShapes Go.WideShapes Go.ChangeAt Go.RowKit

/-- What the rows list. -/
def laidL : List (String × DataW Unit) := [("math/bits.deBruijn64tab", Rows.laid_math_bits_deBruijn64tab)]
theorem gTab : Tryz.prog.globalNamed "math/bits.deBruijn64tab" = some 0 := by kernel_rfl
theorem gTabType : (Tryz.prog.globals[0]?).map (·.type) = some 152 := by kernel_rfl
theorem cellsTab : Tryz.prog.cellsOf 152 = 64 := by kernel_rfl
theorem tab_of {W : World} (h : laidMetH Tryz.prog laidL W) : Tab W := by
  have ht : Lib.TabIs Tryz.prog W "math/bits.deBruijn64tab" .u8 (Lib.deBruijn64tab.map (fun n : Nat => (n : Int))) :=
    Lib.tabIs_of_head (rest := []) gTab gTabType Tryz.underlying152 Tryz.underlying5 cells_u8 cellsTab h
  intro j hj
  have hl : (Lib.deBruijn64tab.map (fun n : Nat => (n : Int))).length = 64 := by decide
  have hc := ht.cell gTab j (by rw [hl]; exact hj)
  rw [hc]
  congr 2
  rw [List.getD_eq_getElem?_getD, List.getElem?_map, List.getD_eq_getElem?_getD]
  cases Lib.deBruijn64tab[j]? <;> rfl

set_option maxRecDepth 20000 in
theorem law_lifted_laid {s : ChangeSpec} {f : Nat} {fn : Func} {conds : List PathCond} (hfn : Tryz.prog.funcs[f]? = some fn) (noInit : Tryz.prog.inits.idxOf? f = none)
    (hvars : s.vars = []) (hspec : ∀ (H : Type) (ds : List (DataW H)), ds.length = fn.params.toList.length → s.fn H ds = { results := [.lit (.bool true)], args := ds }) (hres : fn.resultTypes = #[4])
    (hread : (fn.params.toList.all fun t => Tryz.prog.readableRec t && decide (t < Tryz.prog.types.size)) = true)
    (os : Os) (started : os.Started) (H : Type) (enc : TypeId × Value → H) (F : Stop.Interp)
    (witness : ∃ (w : World) (tape : Tape) (i : Input), w.os = os ∧ (w.forCall tape i).Shaped Tryz.prog ∧ i.vars = [] ∧ Input.okWide Tryz.prog (w.forCall tape i) .any w.heap.size f i ∧
      (OpenSpec.ofChange s).preRow enc Tryz.prog fn conds false laidL (w.forCall tape i).memory i.args ∧ ({} : Assume).holds Tryz.prog (lone (Frame.enter Tryz.prog f i.args .normal) [] (w.forCall tape i)))
    (walk : ∀ (W : World) (args : Array Value) (ds : List (DataW H)) (p : List MemPlace), Handed enc fn W args ds p → Tab W → Calls Tryz.prog f args W (Yes W)) :
    ReturnsInHanded {} Tryz.checked os f .any ((OpenSpec.ofChange s).preRow enc Tryz.prog fn conds false laidL) (((OpenSpec.ofChange s).at F).post enc Tryz.prog fn false true false false) := by
  refine returnsInHanded_of_row (C := Tryz.checked) (s := OpenSpec.ofChange s) own started noInit hfn witness ?_
  intro W base args ds gs before hval hW _ _ hsz hL _ _
  have hWk : DataW.Whole enc Tryz.prog fn.params.toList s.vars false W args.toList ds gs before := hW
  obtain ⟨p, q, hA, hV, rfl, _, _⟩ := hWk
  have hWk : DataW.Whole enc Tryz.prog fn.params.toList s.vars false W args.toList ds gs (p ++ q) := hW
  rw [hvars] at hV
  obtain ⟨rfl, rfl⟩ := trodVars_none hV
  refine (walk W args ds p ⟨⟨base, hval⟩, hA, fun j t d ht hd n hn => ?_⟩ (tab_of hL)).mono fun e W' ⟨he, hb⟩ => ⟨_, he, law_post (s := s) hvars (hspec H ds (trodAll_len hA)) hres (fun t ht => by have h2 := List.all_eq_true.1 hread t ht; rw [Bool.and_eq_true] at h2; exact ⟨h2.1, of_decide_eq_true h2.2⟩) hWk hb⟩
  have hj : j < fn.params.toList.length := (List.getElem?_eq_some_iff.1 ht).1
  have hmem := DataW.weights_mem_each (P := Tryz.prog) (ts := fn.params.toList ++ (OpenSpec.ofChange s).bare.plain.varTypes Tryz.prog) (ds := ds ++ []) (j := j) (by rw [List.getElem?_append_left hj]; exact ht) (by simpa using hd) n hn
  have := List.all_eq_true.1 hsz n hmem
  simpa using this

/-- A world for the witness: the settled one, the table holding what its initialiser lays. -/
noncomputable def laidWorld (os : Os) : World :=
  { World.holding Tryz.prog os ⟨#[], #[], []⟩ with heap := (World.holding Tryz.prog os ⟨#[], #[], []⟩).heap.modify 0 fun
      | .cells _ t frozen => .cells (Lib.deBruijn64tab.map (fun n : Nat => Value.int .u8 (n : Int))).toArray t frozen
      | o => o }

end Go.Proofs.YtjibfffefppniaaGreatDoor
