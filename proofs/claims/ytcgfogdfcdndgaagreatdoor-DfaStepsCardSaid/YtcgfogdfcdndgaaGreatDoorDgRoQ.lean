/- From a walk to a law's statement, for nets and patterns: arguments of type api.Nfa, []api.Rex, []int, opened. -/
import Derived.Test.YtcgfogdfcdndgaaGreatDoorDgPQ
import Derived.Test.YtcgfogdfcdndgaaGreatDoorRowQ
import Derived.ChangeMaps5
import Derived.ChangeSame
import Derived.Laws.IdiomArrays
import Derived.Lib.SmallJoins
import Derived.Deep.Slices
import Derived.Deep.Strs
import Derived.Test.YtcgfogdfcdndgaaGreatDoorCards
import Derived.Test.YtcgfogdfcdndgaaGreatDoorTie
import Derived.Deep.DeepHandedRow
import Derived.Lib.LaidTab
import Derived.LaidLaws
import Derived.SevenTiedAt
set_option linter.unusedVariables false
set_option linter.unusedSimpArgs false
namespace Go.Proofs.YtcgfogdfcdndgaaGreatDoor
open Go.ChangeShapes Go.WideShapes Go.ChangeAt Go.RowKit

theorem cells_int : Tryz.prog.cellsOf 3 = 1 := by kernel_rfl
theorem cells_intl : Tryz.prog.cellsOf 23 = 1 := by kernel_rfl
theorem bytes_int : Tryz.prog.bytesOf 3 = 8 := by kernel_rfl
set_option maxRecDepth 20000 in
/-- Whole numbers in a slice. -/
theorem open_intsW {H : Type} {enc : TypeId × Value → H} {W : World} {fuel : Nat} {v : Value} {x : DataW H × List MemPlace}
    (h : DataW.trod enc Tryz.prog W 0 (fun _ => true) true fuel 23 [v] = some x) (hw : ∀ n ∈ x.1.weights Tryz.prog 23, n ≤ reachBytes) :
    ∃ A n c l, v = .slice A n c ∧ l.length = n ∧ n ≤ c ∧ c * 8 ≤ 140737488351232 ∧ RdW W A l ∧ ∀ z ∈ l, -9223372036854775808 ≤ z ∧ z ≤ 9223372036854775807 := by
  rcases Deep.open_slice Tryz.underlying23 h with ⟨hcs, hx⟩ | ⟨a, len, cap, m, n, D, Pl, hcs, hb, hl, hm, hmm, hx, hcell⟩
  · simp only [List.cons.injEq, and_true] at hcs
    exact ⟨none, 0, 0, [], hcs, rfl, by omega, by omega, fun i hi => absurd hi (by simp), by simp⟩
  · simp only [List.cons.injEq, and_true] at hcs
    simp only [if_true] at hmm
    subst hmm
    have hc : m * 8 ≤ 140737488351232 := by
      have := hw (m * 8) (by
        rw [hx, DataW.weights, Tryz.underlying23]
        simp only [List.length_map, List.length_range, bytes_int]
        rw [show len + (m - len) = m by omega]
        exact List.mem_cons_self ..)
      simpa [reachBytes] using this
    have each : ∀ i, i < len → ∃ z : Int, W.cell? (a.add i) = some (.int .i64 z) ∧ -9223372036854775808 ≤ z ∧ z ≤ 9223372036854775807 := by
      intro i hi
      obtain ⟨cs', h1, h2⟩ := hcell i (by omega)
      rw [cells_int, Nat.mul_one] at h1
      obtain ⟨_, hlen, hc1⟩ := World.cells?_some h1
      obtain ⟨z, e, _, hwf⟩ := DataW.trod_int Tryz.underlying3 h2
      subst e
      refine ⟨z, ?_, by simpa [Lit.wf, IntKind.min, IntKind.max, IntKind.signed, IntKind.bits] using hwf⟩
      have := hc1 0 (by omega)
      rw [show (a.add i).add 0 = a.add i from by unfold Addr.add; simp] at this
      rw [this]
      rfl
    let f : Nat → Int := fun i => if h : i < len then (each i h).choose else 0
    have hfs : ∀ i (h : i < len), f i = (each i h).choose := fun i h => dif_pos h
    refine ⟨some a, len, m, (List.range len).map f, hcs, by simp, hl, hc, fun i hi => ⟨a, rfl, ?_⟩, fun z hz => ?_⟩
    · have hin : i < len := by simpa using hi
      have eg : ((List.range len).map f)[i] = (each i hin).choose := by rw [List.getElem_map, List.getElem_range]; exact hfs i hin
      rw [eg]
      exact (each i hin).choose_spec.1
    · obtain ⟨i, hi, rfl⟩ := List.mem_map.1 hz
      rw [hfs i (List.mem_range.1 hi)]
      exact (each i (List.mem_range.1 hi)).choose_spec.2
theorem wAll_mem {H : Type} {P : Program} {e : TypeId} {n : Nat} : ∀ {l : List (DataW H)} {d : DataW H}, d ∈ l → n ∈ d.weights P e → n ∈ DataW.weightsAll P e l
  | x :: l, d, h, hn => by
    rw [DataW.weightsAll, List.mem_append]
    rcases List.mem_cons.1 h with rfl | h
    · exact .inl hn
    · exact .inr (wAll_mem h hn)
end Go.Proofs.YtcgfogdfcdndgaaGreatDoor

/- From a walk to a law's statement, for nets and patterns, where the row lists math/bits' table. -/
set_option linter.unusedVariables false
set_option linter.unusedSimpArgs false
namespace Go.Proofs.YtcgfogdfcdndgaaGreatDoor
open Go.ChangeShapes Go.WideShapes Go.ChangeAt Go.RowKit

/-- What the rows list. -/
def laidL : List (String × DataW Unit) := [("math/bits.deBruijn64tab", Rows.laid_math_bits_deBruijn64tab)]
theorem gTab : Tryz.prog.globalNamed "math/bits.deBruijn64tab" = some 0 := by kernel_rfl
theorem gTabType : (Tryz.prog.globals[0]?).map (·.type) = some 171 := by kernel_rfl
theorem cellsTab : Tryz.prog.cellsOf 171 = 64 := by kernel_rfl
theorem tab_of {W : World} (h : laidMetH Tryz.prog laidL W) : Tab W := by
  have ht : Lib.TabIs Tryz.prog W "math/bits.deBruijn64tab" .u8 (Lib.deBruijn64tab.map (fun n : Nat => (n : Int))) :=
    Lib.tabIs_of_head (rest := []) gTab gTabType Tryz.underlying171 Tryz.underlying5 cells_u8 cellsTab h
  intro j hj
  have hl : (Lib.deBruijn64tab.map (fun n : Nat => (n : Int))).length = 64 := by decide
  have hc := ht.cell gTab j (by rw [hl]; exact hj)
  rw [hc]
  congr 2
  rw [List.getD_eq_getElem?_getD, List.getElem?_map, List.getD_eq_getElem?_getD]
  cases Lib.deBruijn64tab[j]? <;> rfl

set_option maxRecDepth 20000 in
theorem law_lifted_laid {s : ChangeSpec} {f : Nat} {fn : Func} {conds : List PathCond} (hfn : Tryz.prog.funcs[f]? = some fn) (noInit : Tryz.prog.inits.idxOf? f = none)
    (hvars : s.vars = []) (hspec : ∀ (H : Type) (ds : List (DataW H)), ds.length = fn.params.toList.length → s.fn H ds = { results := [.lit (.bool true)], args := ds }) (hres : fn.resultTypes = #[4])
    (hread : (fn.params.toList.all fun t => Tryz.prog.readableRec t && decide (t < Tryz.prog.types.size)) = true)
    (os : Os) (started : os.Started) (H : Type) (enc : TypeId × Value → H) (F : Stop.Interp)
    (witness : ∃ (w : World) (tape : Tape) (i : Input), w.os = os ∧ (w.forCall tape i).Shaped Tryz.prog ∧ i.vars = [] ∧ Input.okWide Tryz.prog (w.forCall tape i) .any w.heap.size f i ∧
      (OpenSpec.ofChange s).preRow enc Tryz.prog fn conds false laidL (w.forCall tape i).memory i.args ∧ ({} : Assume).holds Tryz.prog (lone (Frame.enter Tryz.prog f i.args .normal) [] (w.forCall tape i)))
    (walk : ∀ (W : World) (args : Array Value) (ds : List (DataW H)) (p : List MemPlace), Handed enc fn W args ds p → Tab W → Calls Tryz.prog f args W (Yes W)) :
    ReturnsInHanded {} Tryz.checked os f .any ((OpenSpec.ofChange s).preRow enc Tryz.prog fn conds false laidL) (((OpenSpec.ofChange s).at F).post enc Tryz.prog fn false true false false) := by
  refine returnsInHanded_of_row (C := Tryz.checked) (s := OpenSpec.ofChange s) own started noInit hfn witness ?_
  intro W base args ds gs before hval hW _ _ hsz hL _ _
  have hWk : DataW.Whole enc Tryz.prog fn.params.toList s.vars false W args.toList ds gs before := hW
  obtain ⟨p, q, hA, hV, rfl, _, _⟩ := hWk
  have hWk : DataW.Whole enc Tryz.prog fn.params.toList s.vars false W args.toList ds gs (p ++ q) := hW
  rw [hvars] at hV
  obtain ⟨rfl, rfl⟩ := trodVars_none hV
  refine (walk W args ds p ⟨⟨base, hval⟩, hA, fun j t d ht hd n hn => ?_⟩ (tab_of hL)).mono fun e W' ⟨he, hb⟩ => ⟨_, he, law_post (s := s) hvars (hspec H ds (trodAll_len hA)) hres (fun t ht => by have h2 := List.all_eq_true.1 hread t ht; rw [Bool.and_eq_true] at h2; exact ⟨h2.1, of_decide_eq_true h2.2⟩) hWk hb⟩
  have hj : j < fn.params.toList.length := (List.getElem?_eq_some_iff.1 ht).1
  have hmem := DataW.weights_mem_each (P := Tryz.prog) (ts := fn.params.toList ++ (OpenSpec.ofChange s).bare.plain.varTypes Tryz.prog) (ds := ds ++ []) (j := j) (by rw [List.getElem?_append_left hj]; exact ht) (by simpa using hd) n hn
  have := List.all_eq_true.1 hsz n hmem
  simpa using this

/-- A world for the witness: the settled one, the table holding what its initialiser lays. -/
noncomputable def laidWorld (os : Os) : World :=
  { World.holding Tryz.prog os ⟨#[], #[], []⟩ with heap := (World.holding Tryz.prog os ⟨#[], #[], []⟩).heap.modify 0 fun
      | .cells _ t frozen => .cells (Lib.deBruijn64tab.map (fun n : Nat => Value.int .u8 (n : Int))).toArray t frozen
      | o => o }

end Go.Proofs.YtcgfogdfcdndgaaGreatDoor

/- From a walk to a law's statement, for machines: an argument of type api.Dfa, opened. -/
set_option linter.unusedVariables false
set_option linter.unusedSimpArgs false
namespace Go.Proofs.YtcgfogdfcdndgaaGreatDoor
open Go.ChangeShapes Go.WideShapes Go.ChangeAt Go.RowKit

theorem bytes_intl : Tryz.prog.bytesOf 23 = 24 := by kernel_rfl
theorem cells_dfa : Tryz.prog.cellsOf 33 = 258 := by kernel_rfl
theorem cells_rows : Tryz.prog.cellsOf 31 = 1 := by kernel_rfl
theorem cells_cls : Tryz.prog.cellsOf 30 = 256 := by kernel_rfl

set_option maxRecDepth 20000 in
/-- Rows of whole numbers in a slice. -/
theorem open_rowsW {H : Type} {enc : TypeId × Value → H} {W : World} {fuel : Nat} {v : Value} {x : DataW H × List MemPlace}
    (h : DataW.trod enc Tryz.prog W 0 (fun _ => true) true fuel 31 [v] = some x) (hw : ∀ n ∈ x.1.weights Tryz.prog 31, n ≤ reachBytes) :
    ∃ A n c T, v = .slice A n c ∧ T.length = n ∧ n ≤ c ∧ c * 24 ≤ 140737488351232 ∧ RdTb W A T ∧ ∀ r ∈ T, r.length * 8 ≤ 140737488351232 := by
  rcases Deep.open_slice Tryz.underlying31 h with ⟨hcs, hx⟩ | ⟨a, len, cap, m, n', D, Pl, hcs, hb, hl, hm, hmm, hx, hcell⟩
  · simp only [List.cons.injEq, and_true] at hcs
    exact ⟨none, 0, 0, [], hcs, rfl, by omega, by omega, fun i hi => absurd hi (by simp), by simp⟩
  · simp only [List.cons.injEq, and_true] at hcs
    simp only [if_true] at hmm
    subst hmm
    have hwl : ∀ q, (q = m * 24 ∨ ∃ i, i < len ∧ q ∈ (D i).weights Tryz.prog 23) → q ≤ reachBytes := fun q hq => hw q (by
      rw [hx, DataW.weights, Tryz.underlying31]
      simp only [List.length_map, List.length_range, bytes_intl]
      rw [show len + (m - len) = m by omega]
      rcases hq with rfl | ⟨i, hi, hq⟩
      · exact List.mem_cons_self ..
      · refine List.mem_cons_of_mem _ ?_
        exact List.mem_append_left _ (wAll_mem (List.mem_map.2 ⟨i, List.mem_range.2 hi, rfl⟩) hq))
    have hc : m * 24 ≤ 140737488351232 := by simpa [reachBytes] using hwl _ (Or.inl rfl)
    have each : ∀ i, i < len → ∃ (l : List Int) (B : Option Addr) (q d : Nat), W.cell? (a.add i) = some (.slice B q d) ∧ l.length = q ∧ q ≤ d ∧ RdW W B l ∧ l.length * 8 ≤ 140737488351232 := by
      intro i hi
      obtain ⟨cs', h1, h2⟩ := hcell i (by omega)
      rw [cells_intl, Nat.mul_one] at h1
      obtain ⟨_, hlen, hc1⟩ := World.cells?_some h1
      match cs', hlen with
      | [c0], _ =>
        obtain ⟨B, q, d, l, e, p1, p2, p3, p4, _⟩ := open_intsW h2 (fun q hq => hwl q (Or.inr ⟨i, hi, hq⟩))
        subst e
        refine ⟨l, B, q, d, ?_, p1, p2, p4, by omega⟩
        have := hc1 0 (by omega)
        rw [show (a.add i).add 0 = a.add i from by unfold Addr.add; simp] at this
        rw [this]
        rfl
    let f : Nat → List Int := fun i => if h : i < len then (each i h).choose else []
    have hfs : ∀ i (h : i < len), f i = (each i h).choose := fun i h => dif_pos h
    refine ⟨some a, len, m, (List.range len).map f, hcs, by simp, hl, hc, fun i hi => ?_, fun l hl => ?_⟩
    · have hin : i < len := by simpa using hi
      have eg : ((List.range len).map f)[i] = (each i hin).choose := by rw [List.getElem_map, List.getElem_range]; exact hfs i hin
      rw [eg]
      obtain ⟨B, q, d, p1, p2, p3, p4, _⟩ := (each i hin).choose_spec
      exact ⟨a, rfl, B, q, d, p1, p2, p3, p4⟩
    · obtain ⟨i, hi, rfl⟩ := List.mem_map.1 hl
      rw [hfs i (List.mem_range.1 hi)]
      obtain ⟨B, q, d, _, _, _, _, p⟩ := (each i (List.mem_range.1 hi)).choose_spec
      exact p
set_option maxRecDepth 20000 in
/-- The classes of bytes. -/
theorem open_cls {H : Type} {enc : TypeId × Value → H} {W : World} {fuel : Nat} {cs : List Value} {x : DataW H × List MemPlace}
    (h : DataW.trod enc Tryz.prog W 0 (fun _ => true) true fuel 30 cs = some x) : ∃ cl : Nat → Int, (∀ c, -9223372036854775808 ≤ cl c ∧ cl c ≤ 9223372036854775807) ∧ cs = (List.range 256).map (fun c => Value.int .i64 (cl c)) := by
  obtain ⟨xs, m, _, _, hl, hlen, hel⟩ := DataW.trod_array Tryz.underlying30 h
  rw [cells_cls] at hl
  have each : ∀ i, i < 256 → ∃ z : Int, cs[i]? = some (.int .i64 z) ∧ -9223372036854775808 ≤ z ∧ z ≤ 9223372036854775807 := by
    intro i hi
    have h1 := hel i hi
    rw [cells_int, Nat.mul_one] at h1
    have hic : i < cs.length := by omega
    rw [List.drop_eq_getElem_cons hic, List.take_succ_cons, List.take_zero] at h1
    have hix : i < xs.length := by omega
    rw [List.getElem?_eq_getElem hix] at h1
    obtain ⟨z, e, _, hwf⟩ := DataW.trod_int Tryz.underlying3 h1
    refine ⟨z, ?_, by simpa [Lit.wf, IntKind.min, IntKind.max, IntKind.signed, IntKind.bits] using hwf⟩
    rw [List.getElem?_eq_getElem hic]
    simpa using e
  let f : Nat → Int := fun i => if h : i < 256 then (each i h).choose else 0
  have hfs : ∀ i (h : i < 256), f i = (each i h).choose := fun i h => dif_pos h
  refine ⟨f, fun c => ?_, List.ext_getElem? fun i => ?_⟩
  · by_cases hc : c < 256
    · rw [hfs c hc]
      exact (each c hc).choose_spec.2
    · rw [show f c = 0 from dif_neg hc]
      omega
  · by_cases hc : i < 256
    · rw [(each i hc).choose_spec.1, List.getElem?_map, List.getElem?_range hc]
      show _ = some (Value.int .i64 (f i))
      rw [hfs i hc]
    · rw [List.getElem?_eq_none (by omega), List.getElem?_eq_none (by simp; omega)]
set_option maxRecDepth 20000 in
/-- An argument of type api.Dfa, opened. -/
theorem open_dfa {H : Type} {enc : TypeId × Value → H} {W : World} {base : Nat} {v : Value} {d : DataW H} {p : List MemPlace} (hv : Value.okWide Tryz.prog W .any base 33 v)
    (h0 : DataW.Trod enc Tryz.prog W 0 (fun _ => true) true 33 v d p) (hw : ∀ n ∈ d.weights Tryz.prog 33, n ≤ reachBytes) :
    ∃ cl An nn cn T Ax nx cx X, v = .agg (mkT cl [.slice An nn cn, .slice Ax nx cx]) ∧ (∀ c, -9223372036854775808 ≤ cl c ∧ cl c ≤ 9223372036854775807) ∧ (T.length = nn ∧ nn ≤ cn ∧ cn * 24 ≤ 140737488351232 ∧ RdTb W An T ∧ ∀ r ∈ T, r.length * 8 ≤ 140737488351232) ∧ (X.length = nx ∧ nx ≤ cx ∧ cx * 8 ≤ 140737488351232 ∧ RdW W Ax X ∧ ∀ z ∈ X, -9223372036854775808 ≤ z ∧ z ≤ 9223372036854775807) := by
  have hu := Tryz.underlying33
  unfold Value.okWide at hv
  rw [hu] at hv
  obtain ⟨cs, rfl, hsz, _⟩ := hv
  rw [cells_dfa] at hsz
  obtain ⟨fuel, hf⟩ := h0
  obtain ⟨l⟩ := cs
  have hl : l.length = 258 := by simpa using hsz
  obtain ⟨y0, y1, y2, n, hx, hlc, g0, g1, g2⟩ := Deep.trod_struct3 hu hf
  simp only [Value.cells, cells_cls, cells_rows, cells_intl] at g0 g1 g2
  simp only [Prod.mk.injEq] at hx
  have hw' : ∀ q, (q ∈ y1.1.weights Tryz.prog 31 ∨ q ∈ y2.1.weights Tryz.prog 23) → q ≤ reachBytes := fun q hq => hw q (by
    rw [hx.1, DataW.weights, hu]
    simp only [List.map_cons, List.map_nil, DataW.weightsEach, List.append_nil, List.mem_append]
    exact Or.inr hq)
  obtain ⟨c1, c2, hd⟩ : ∃ c1 c2, l.drop 256 = [c1, c2] := by
    have h2 : (l.drop 256).length = 2 := by rw [List.length_drop, hl]
    match h3 : l.drop 256, h2 with
    | [a, b], _ => exact ⟨a, b, rfl⟩
  have hd2 : l.drop 257 = [c2] := by rw [show 257 = 256 + 1 from rfl, ← List.drop_drop, hd]; rfl
  rw [hd] at g1
  rw [hd2] at g2
  obtain ⟨cl, hcl, hc0⟩ := open_cls g0
  obtain ⟨A, n1, k1, T, e1, p1⟩ := open_rowsW (v := c1) g1 (fun q hq => hw' q (.inl hq))
  obtain ⟨B, n2, k2, X, e2, p2⟩ := open_intsW (v := c2) g2 (fun q hq => hw' q (.inr hq))
  subst e1 e2
  refine ⟨cl, A, n1, k1, T, B, n2, k2, X, ?_, hcl, p1, p2⟩
  unfold mkT
  rw [← List.take_append_drop 256 l, hd, ← hc0]
  rfl
set_option maxRecDepth 20000 in
/-- An argument of type byte, opened. -/
theorem open_u8 {H : Type} {enc : TypeId × Value → H} {W : World} {base : Nat} {v : Value} {d : DataW H} {p : List MemPlace} (hv : Value.okWide Tryz.prog W .any base 5 v)
    (h0 : DataW.Trod enc Tryz.prog W 0 (fun _ => true) true 5 v d p) : ∃ n : Nat, v = .int .u8 (n : Int) ∧ n < 256 := by
  obtain ⟨n, rfl, rfl, rfl, hw⟩ := open_int Tryz.underlying5 hv h0
  have hb : 0 ≤ n ∧ n ≤ 255 := by simpa [Lit.wf, IntKind.min, IntKind.max, IntKind.signed, IntKind.bits] using hw
  exact ⟨n.toNat, by rw [Int.toNat_of_nonneg hb.1], by omega⟩

end Go.Proofs.YtcgfogdfcdndgaaGreatDoor
