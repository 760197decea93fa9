/- The classes of bytes, as sets that a call made: how they lie; how they are sorted. It wants math/bits' table as it was laid. -/
import Derived.Test.YtcgfogdfcdndgaaGreatDoorDgFQ
set_option linter.unusedVariables false
set_option linter.unusedSimpArgs false
namespace Go.Proofs.YtcgfogdfcdndgaaGreatDoor
open Go.RowKit Go.Shelf Go.Sort
attribute [local go_sem] Oper.semAt_some

def setC (s : S4) : List Value := [dv s.w0, dv s.w1, dv s.w2, dv s.w3]
theorem setC_row (s : S4) : (setC s).toArray = row4 s.f := rfl
theorem setC_one (s : S4) : ∀ v ∈ setC s, v.oneCell' = true := by simp [setC, dv, Value.oneCell']
def cellsS (l : List S4) : List Value := l.flatMap setC
theorem cellsS_len (l : List S4) : (cellsS l).length = l.length * 4 := by
  induction l with
  | nil => rfl
  | cons x l ih => rw [show cellsS (x :: l) = setC x ++ cellsS l from rfl, List.length_append, ih]; simp [setC]; omega
theorem cellsS_get : ∀ (l : List S4) (i : Nat) (h : i < l.length) (j : Nat) (u : Value), (setC l[i])[j]? = some u → (cellsS l)[i * 4 + j]? = some u
  | x :: l, 0, h, j, u, hu => by
    rw [show cellsS (x :: l) = setC x ++ cellsS l from rfl]
    have hj : j < (setC x).length := (List.getElem?_eq_some_iff.1 hu).1
    rw [Nat.zero_mul, Nat.zero_add, List.getElem?_append_left hj]
    exact hu
  | x :: l, i + 1, h, j, u, hu => by
    rw [show cellsS (x :: l) = setC x ++ cellsS l from rfl]
    have h7 : (setC x).length = 4 := rfl
    rw [List.getElem?_append_right (by rw [h7]; omega), h7, show (i + 1) * 4 + j - 4 = i * 4 + j by omega]
    exact cellsS_get l i (by simpa using h) j u hu
theorem flat_cells (l : List S4) : (flatK setC 4 l.toArray).toList = cellsS l := by
  apply List.ext_getElem?
  intro t
  rw [Array.getElem?_toList]
  by_cases ht : t < l.length * 4
  · have hi : t / 4 < l.length := by omega
    have hj : t % 4 < (setC l[t / 4]).length := by have : (setC l[t / 4]).length = 4 := rfl; omega
    have h1 := cellsS_get l (t / 4) hi (t % 4) _ (List.getElem?_eq_getElem hj)
    rw [show t / 4 * 4 + t % 4 = t by omega] at h1
    rw [h1]
    have hs : t < (flatK setC 4 l.toArray).size := by simp; omega
    have h2 := get_flatK setC 4 l.toArray t (by simpa using ht)
    rw [getElem!_pos _ t hs] at h2
    rw [Array.getElem?_eq_getElem hs, h2]
    simp [hi, hj]
  · rw [Array.getElem?_eq_none (by simp; omega), List.getElem?_eq_none (by rw [cellsS_len]; omega)]
/-- Sets that a call made. -/
def OwnS (w : World) (base : Nat) (v : Value) (l : List S4) : Prop := w.ownsRow base 51 4 v l.length (cellsS l)
theorem OwnS.cells {w : World} {base g n cap : Nat} {l : List S4} (h : OwnS w base (.slice (some ⟨g, 0, none⟩) n cap) l) {i : Nat} (hi : i < l.length) : ∀ j u, (setC l[i])[j]? = some u → w.cell? ((⟨g, i * 4, none⟩ : Addr).add j) = some u := fun j u hu => by
  have := World.ownsRow.cells h (g := g) rfl (i * 4 + j) u (cellsS_get l i hi j u hu)
  rw [addr_mk] at this ⊢
  simpa using this
theorem putCells_take (cur F : Array Value) (k : Nat) (hF : F.size = k) (hk : k ≤ cur.size) : (putCells id 0 F cur).toList.take k = F.toList := by
  apply List.ext_getElem?
  intro j
  by_cases hj : j < k
  · rw [List.getElem?_take_of_lt hj, Array.getElem?_toList, Array.getElem?_toList]
    simp [putCells, hF, hj, show j < cur.size by omega]
  · rw [List.getElem?_take_eq_none (by omega), Array.getElem?_toList, Array.getElem?_eq_none (by omega)]
set_option maxHeartbeats 1000000 in
theorem sort_sets (base : Nat) (L : List S4) (g n cap : Nat) (w : World) (ho : OwnS w base (.slice (some ⟨g, 0, none⟩) n cap) L) (hn : L.length = n) (hT : Tab w) (htb : 0 < base) (hlen : n ≤ 100000) :
    Calls Tryz.prog 83 #[.slice (some ⟨g, 0, none⟩) n cap, .func (.func 84) #[] #[]] w fun e w' =>
      e = .returned (.tuple #[]) ∧ ∃ C : List S4, C.Perm L ∧ (C.map leS).Pairwise (· ≤ ·) ∧ OwnS w' base (.slice (some ⟨g, 0, none⟩) n cap) C ∧ w.grownBy w' (some g) := by
  obtain ⟨hg0, cur, hbase, hgb, hnc, hcm, hcs, ht⟩ : g < w.heap.size ∧ ∃ cur, base ≤ g ∧ w.heap[g]? = some (.cells cur 51 (0, 0)) ∧ n ≤ cap ∧ cap ≤ maxLen ∧ cur.size = cap * 4 ∧ cur.toList.take (n * 4) = cellsS L := by
    rcases ho.2 with ⟨e, _⟩ | ⟨g', cap', cur, e, hb, hg, h1, h2, h3, h4⟩
    · cases e
    · injection e with e1 _ e3
      injection e1 with e1
      injection e1 with e1
      subst e1 e3
      rw [hn] at h1 h4
      exact ⟨(Array.getElem?_eq_some_iff.1 hg).1, cur, hb, hg, h1, h2, h3, h4⟩
  have hH : HoldsK setC 4 w g 0 L.toArray := fun j hj => by
    have hj2 : j < L.length * 4 := by simpa using hj
    refine ⟨?_, by simp [World.frozen?, hgb]⟩
    have h1 : (flatK setC 4 L.toArray).toList[j]? = (cellsS L)[j]? := by rw [flat_cells]
    rw [Array.getElem?_toList, Array.getElem?_eq_getElem hj] at h1
    have h2 := World.ownsRow.cells ho (g := g) rfl j _ h1.symm
    rw [addr_mk] at h2
    rw [h2]
    exact congrArg some (getElem!_pos (flatK setC 4 L.toArray) j hj).symm
  have hcmp : CmpLays Tryz.prog 84 #[] setC 4 cfS g 0 L.toArray.size w := fun m os dk hs x y => by
    have hT2 : Tab (sortWorldK setC 4 w g 0 m dk os) := fun j hj => by
      rw [cell?_sortWorldK_other setC 4 w g 0 m dk os _ (by show 0 ≠ g; omega) (by show 0 < w.heap.size; omega)]
      exact hT j hj
    refine (cls1_any x.f y.f _ hT2).mono ?_
    rintro e w' ⟨rfl, hb⟩
    exact ⟨rfl, hb.form⟩
  have hcon := AnyQ.slices_SortFunc Tryz.sortSets 4 (fun w => by kernel_rfl) (fun w => by kernel_rfl) setC (fun _ => rfl) setC_one cfS cfS_swo 84 #[] g 0 cap L.toArray w
    (enters_of Tryz.func84 (by kernel_rfl) rfl) hcmp hH hg0 (by simp; omega)
  have hsz : L.toArray.size = n := by simpa using hn
  rw [hsz] at hcon
  change Calls Tryz.prog 83 _ _ _ at hcon
  refine hcon.mono ?_
  rintro e w' ⟨rfl, d', q, os, ⟨p1, p2, p3⟩, hsd, rfl⟩
  have hd1 : d'.size = n := by rw [p1]; exact hsz
  refine ⟨rfl, d'.toList, ?_, ?_, ?_, ?_⟩
  · have e1 : d'.extract 0 n = d' := by rw [← hd1]; simp
    have e2 : L.toArray.extract 0 n = L.toArray := by rw [← hsz]; simp
    rw [e1, e2] at p3
    simpa using p3
  · rw [List.pairwise_iff_getElem]
    intro i j hi hj hij
    have hi2 : i < d'.size := by simpa using hi
    have hj2 : j < d'.size := by simpa using hj
    have h := hsd i j (Nat.zero_le _) hij (by omega)
    rw [cfS_lt, decide_eq_false_iff_not, getElem!_pos d' i hi2, getElem!_pos d' j hj2] at h
    simp only [List.getElem_map, Array.getElem_toList]
    omega
  · refine ⟨by rw [cellsS_len], Or.inr ⟨g, cap, putCells id 0 (flatK setC 4 d') cur, by rw [Array.length_toList, hd1], hbase, ?_, by rw [Array.length_toList, hd1]; exact hnc, hcm, by simpa [putCells] using hcs, ?_⟩⟩
    · unfold sortWorldK
      rw [heap_grow_old _ _ (by unfold putRowK putRow mapBlock; simpa [Sort.ahead] using hg0)]
      simp [putRowK, putRow, mapBlock, Sort.ahead, Array.getElem?_modify, hgb, onCells]
    · rw [Array.length_toList, putCells_take cur (flatK setC 4 d') (d'.size * 4) (by simp) (by rw [hcs, hd1]; omega)]
      have := flat_cells d'.toList
      simpa using this
  · refine ⟨rfl, rfl, rfl, by unfold sortWorldK; simp [putRowK, putRow, mapBlock, Sort.ahead, grow], fun k hk hne => ?_⟩
    unfold sortWorldK
    rw [heap_grow_old _ _ (by unfold putRowK putRow mapBlock; simpa [Sort.ahead] using hk)]
    have hkg : g ≠ k := fun e => hne (by rw [e])
    simp [putRowK, putRow, mapBlock, Sort.ahead, Array.getElem?_modify, hkg]

end Go.Proofs.YtcgfogdfcdndgaaGreatDoor
