/- From a walk to a law's statement where the row lists the program's table of words: a law whose call answers true and turns nothing that was there. -/
import Derived.Test.YtlepaciglkodbaaDoorWdI
import Derived.Test.YtlepaciglkodbaaDoorRow
import Derived.Test.YtlepaciglkodbaaDoorCards
import Derived.Test.YtlepaciglkodbaaDoorTie
import Derived.Deep.DeepHandedRow
import Derived.Lib.LaidTab
import Derived.LaidLaws
import Derived.SevenTiedAt
import Derived.ChangeMaps5
set_option linter.unusedVariables false
set_option linter.unusedSimpArgs false
namespace Go.Proofs.YtlepaciglkodbaaDoor
open Go.ChangeShapes Go.WideShapes Go.ChangeAt Go.RowKit

/-- What the rows list. -/
def laidL : List (String × DataW Unit) := [("incunable/words.spelled", Rows.laid_incunable_words_spelled)]
theorem gTab : Tryd.prog.globalNamed "incunable/words.spelled" = some 0 := by kernel_rfl
theorem gTabType : (Tryd.prog.globals[0]?).map (·.type) = some 54 := by kernel_rfl
theorem cellsTab : Tryd.prog.cellsOf 54 = 14 := by kernel_rfl
theorem cellsStr : Tryd.prog.cellsOf 9 = 1 := by kernel_rfl
theorem datum_is {H : Type} : (Rows.laid_incunable_words_spelled : DataW H) = .agg ((List.range 14).map fun k => .lit (.string (spellE k))) := rfl
theorem tab_of {W : World} (h : laidMetH Tryd.prog laidL W) : Tab W := by
  obtain ⟨ps, ⟨g', t', cs, fuel, p, q, hg', ht', hvar, hd, _, _⟩, _⟩ := h
  obtain rfl := Option.some.inj (gTab.symm.trans hg')
  obtain rfl := Option.some.inj (gTabType.symm.trans ht')
  obtain ⟨xs, m, rfl, hx, hlen, hxl, hall⟩ := DataW.trod_array Tryd.underlying54 hd
  rw [datum_is] at hx
  have hxs : xs.map (·.1) = (List.range 14).map fun k => .lit (.string (spellE k)) := by
    have := congrArg Prod.fst hx
    simp only [DataW.agg.injEq] at this
    exact this.symm
  intro k hk
  have h1 := hall k hk
  rw [cellsStr, Nat.mul_one, List.getElem?_eq_getElem (by omega)] at h1
  obtain ⟨s, e1, e2, _⟩ := DataW.trod_string Tryd.underlying9 h1
  have h2 : (xs.map (·.1))[k]? = some (DataW.lit (.string s.data.toList)) := by
    rw [List.getElem?_map, List.getElem?_eq_getElem (by omega), e2]
    rfl
  rw [hxs, List.getElem?_map, List.getElem?_range hk] at h2
  simp only [Option.map_some, Option.some.injEq, DataW.lit.injEq, Lit.string.injEq] at h2
  have hs : s = ⟨(spellE k).toArray⟩ := by
    rw [h2]
  have h3 : cs[k]? = some (.string s) := by
    have := congrArg (·[0]?) e1
    simpa [List.getElem?_take, List.getElem?_drop] using this
  have h4 := World.var?_cell gTab hvar k
  rw [h4, h3, hs]

set_option maxRecDepth 20000 in
theorem law_lifted_laid {s : ChangeSpec} {f : Nat} {fn : Func} {conds : List PathCond} (hfn : Tryd.prog.funcs[f]? = some fn) (noInit : Tryd.prog.inits.idxOf? f = none)
    (hvars : s.vars = []) (hspec : ∀ (H : Type) (ds : List (DataW H)), ds.length = fn.params.toList.length → s.fn H ds = { results := [.lit (.bool true)], args := ds }) (hres : fn.resultTypes = #[4])
    (hread : (fn.params.toList.all fun t => Tryd.prog.readableRec t && decide (t < Tryd.prog.types.size)) = true)
    (os : Os) (started : os.Started) (H : Type) (enc : TypeId × Value → H) (F : Stop.Interp)
    (witness : ∃ (w : World) (tape : Tape) (i : Input), w.os = os ∧ (w.forCall tape i).Shaped Tryd.prog ∧ i.vars = [] ∧ Input.okWide Tryd.prog (w.forCall tape i) .any w.heap.size f i ∧
      (OpenSpec.ofChange s).preRow enc Tryd.prog fn conds false laidL (w.forCall tape i).memory i.args ∧ ({} : Assume).holds Tryd.prog (lone (Frame.enter Tryd.prog f i.args .normal) [] (w.forCall tape i)))
    (walk : ∀ (W : World) (args : Array Value) (ds : List (DataW H)) (p : List MemPlace), Handed enc fn W args ds p → Tab W → Calls Tryd.prog f args W (Yes W)) :
    ReturnsInHanded {} Tryd.checked os f .any ((OpenSpec.ofChange s).preRow enc Tryd.prog fn conds false laidL) (((OpenSpec.ofChange s).at F).post enc Tryd.prog fn false true false false) := by
  refine returnsInHanded_of_row (C := Tryd.checked) (s := OpenSpec.ofChange s) own started noInit hfn witness ?_
  intro W base args ds gs before hval hW _ _ hsz hL _ _
  have hWk : DataW.Whole enc Tryd.prog fn.params.toList s.vars false W args.toList ds gs before := hW
  obtain ⟨p, q, hA, hV, rfl, _, _⟩ := hWk
  have hWk : DataW.Whole enc Tryd.prog fn.params.toList s.vars false W args.toList ds gs (p ++ q) := hW
  rw [hvars] at hV
  obtain ⟨rfl, rfl⟩ := trodVars_none hV
  refine (walk W args ds p ⟨⟨base, hval⟩, hA, fun j t d ht hd n hn => ?_⟩ (tab_of hL)).mono fun e W' ⟨he, hb⟩ => ⟨_, he, law_post (s := s) hvars (hspec H ds (trodAll_len hA)) hres (fun t ht => by have h2 := List.all_eq_true.1 hread t ht; rw [Bool.and_eq_true] at h2; exact ⟨h2.1, of_decide_eq_true h2.2⟩) hWk hb⟩
  have hj : j < fn.params.toList.length := (List.getElem?_eq_some_iff.1 ht).1
  have hmem := DataW.weights_mem_each (P := Tryd.prog) (ts := fn.params.toList ++ (OpenSpec.ofChange s).bare.plain.varTypes Tryd.prog) (ds := ds ++ []) (j := j) (by rw [List.getElem?_append_left hj]; exact ht) (by simpa using hd) n hn
  have := List.all_eq_true.1 hsz n hmem
  simpa using this

/-- A world for the witness: the settled one, the table holding what its initialiser lays. -/
noncomputable def laidWorld (os : Os) : World :=
  { World.holding Tryd.prog os ⟨#[], #[], []⟩ with heap := (World.holding Tryd.prog os ⟨#[], #[], []⟩).heap.modify 0 fun
      | .cells _ t frozen => .cells ((List.range 14).map (fun k => Value.string ⟨(spellE k).toArray⟩)).toArray t frozen
      | o => o }

/-- An argument of type string, opened. -/
theorem open_str9 {H : Type} {enc : TypeId × Value → H} {W : World} {base : Nat} {v : Value} {d : DataW H} {p : List MemPlace} (hv : Value.okWide Tryd.prog W .any base 9 v)
    (h0 : DataW.Trod enc Tryd.prog W 0 (fun _ => true) true 9 v d p) (hw : ∀ n ∈ d.weights Tryd.prog 9, n ≤ reachBytes) : ∃ l : List UInt8, v = .string ⟨l.toArray⟩ ∧ l.length ≤ 140737488351232 := by
  obtain ⟨s, rfl, rfl, _, hs⟩ := Go.ChangeMaps.open_string Tryd.underlying9 hv h0
  refine ⟨s.data.toList, rfl, ?_⟩
  have := hw s.data.toList.length (by simp [DataW.weights, Tryd.underlying9])
  simpa [reachBytes] using this

end Go.Proofs.YtlepaciglkodbaaDoor
