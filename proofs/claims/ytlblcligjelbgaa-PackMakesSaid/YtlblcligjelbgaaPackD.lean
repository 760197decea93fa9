/- Sections that a call made itself; the closure of 'sections', and 'sections': contracts over the translated program. -/
import Derived.Test.YtlblcligjelbgaaPackC
import Derived.Deep.AppendLies
set_option linter.unusedVariables false
namespace Go.Proofs.Ytlblcligjelbgaa
open Go.RowKit

/-- Rows: a section, and the slice that holds its data. -/
abbrev Row := Sec × Value
def rowCells (rs : List Row) : List Value := rs.flatMap fun r => [.int .i64 r.1.1, r.2]
theorem rowCells_len (rs : List Row) : (rowCells rs).length = rs.length * 2 := by
  induction rs with
  | nil => rfl
  | cons r rs ih => unfold rowCells at ih ⊢; simp only [List.flatMap_cons, List.length_append, ih, List.length_cons, List.length_nil]; omega
theorem rowCells_get : ∀ (rs : List Row) (j : Nat) (h : j < rs.length), (rowCells rs)[j * 2]? = some (.int .i64 rs[j].1.1) ∧ (rowCells rs)[j * 2 + 1]? = some rs[j].2
  | [], _, h => by simp at h
  | r :: rs, 0, _ => ⟨rfl, rfl⟩
  | r :: rs, j + 1, h => by
    have ih := rowCells_get rs j (by simpa using h)
    have e : rowCells (r :: rs) = .int .i64 r.1.1 :: r.2 :: rowCells rs := rfl
    rw [e, show (j + 1) * 2 = j * 2 + 1 + 1 by omega]
    simp only [List.getElem?_cons_succ, List.getElem_cons_succ]
    exact ih
theorem rowCells_more (rs : List Row) (r : Row) : rowCells (rs ++ [r]) = rowCells rs ++ [.int .i64 r.1.1, r.2] := by unfold rowCells; simp

def rowsOf (rs : List Row) : List Sec := rs.map (·.1)
theorem rowsOf_len (rs : List Row) : (rowsOf rs).length = rs.length := by unfold rowsOf; simp

/-- Sections that a call made itself: their own row of cells, the data of each of the call's own, none in another's place. -/
structure OwnS (w : World) (base : Nat) (v : Value) (rs : List Row) : Prop where
  row : w.ownsRow base 41 2 v rs.length (rowCells rs)
  data : ∀ r ∈ rs, Own w base r.2 r.1.2
  apart : rs.Pairwise fun r r' => r'.2.ownBlock = none ∨ r'.2.ownBlock ≠ r.2.ownBlock

theorem Own.oneCell {w : World} {base : Nat} {v : Value} {l : List UInt8} (h : Own w base v l) : v.oneCell' = true := by
  obtain ⟨A, n, c, rfl, _⟩ := h.form
  rfl
/-- Bytes and sections never lie in one block. -/
theorem types_ne {w : World} {b b' : Nat} {u v : Value} {x : List UInt8} {n : Nat} {xs : List Value} (h : Own w b u x) (hv : w.ownsRow b' 41 2 v n xs) : u.ownBlock = none ∨ u.ownBlock ≠ v.ownBlock := by
  rcases h.2 with ⟨rfl, _⟩ | ⟨g, cap, cur, rfl, _, hg, _⟩
  · exact .inl rfl
  · right
    rcases hv.2 with ⟨rfl, _⟩ | ⟨g', cap', cur', rfl, _, hg', _⟩
    · simp [Value.ownBlock]
    · intro e
      have e' : g = g' := by simpa [Value.ownBlock] using e
      subst e'
      rw [hg] at hg'
      simp at hg'
theorem types_ne' {w : World} {b b' : Nat} {u v : Value} {x : List UInt8} {n : Nat} {xs : List Value} (h : Own w b u x) (hv : w.ownsRow b' 41 2 v n xs) : v.ownBlock = none ∨ v.ownBlock ≠ u.ownBlock := by
  rcases types_ne h hv with h0 | h0
  · rw [h0]
    cases v.ownBlock <;> simp
  · exact .inr (Ne.symm h0)
theorem OwnS.nil (w : World) (base : Nat) : OwnS w base (.slice none 0 0) [] := ⟨World.ownsRow_nil _ _ _ _, fun r h => by simp at h, List.Pairwise.nil⟩
/-- Behind an append of one section more, whose data was made since all the others were. -/
theorem OwnS.more {w0 w w' : World} {base : Nat} {v v' : Value} {rs : List Row} {r : Row} (h : OwnS w base v rs) (h0 : ∀ q ∈ rs, ∀ k, q.2.ownBlock = some k → k < w0.heap.size)
    (hu : Own w w0.heap.size r.2 r.1.2) (hb : base ≤ w0.heap.size) (h3 : w'.ownsRow base 41 2 v' (rs.length + 1) (rowCells rs ++ [.int .i64 r.1.1, r.2])) (hg : w.grownBy w' v.ownBlock) : OwnS w' base v' (rs ++ [r]) := by
  refine ⟨by rw [rowCells_more, List.length_append]; exact h3, fun q hq => ?_, ?_⟩
  · rcases List.mem_append.1 hq with hq | hq
    · exact (h.data q hq).kept hg (types_ne (h.data q hq) h.row)
    · simp at hq
      subst hq
      exact (hu.kept hg (types_ne hu h.row)).more hb
  · rw [List.pairwise_append]
    refine ⟨h.apart, by simp, fun q hq q' hq' => ?_⟩
    simp at hq'
    subst hq'
    rcases hv : q'.2.ownBlock with _ | k
    · exact .inl rfl
    · right
      intro e
      have h1 := h0 q hq k e.symm
      have h2 := hu.lt k hv
      omega
theorem OwnS.rd {w : World} {base : Nat} {v : Value} {rs : List Row} (h : OwnS w base v rs) : ∃ A n c, v = .slice A n c ∧ Hid ((rowsOf rs).length = n) ∧ Hid (rs.length = n) ∧ n ≤ c ∧ c ≤ maxLen ∧ RdS w A (rowsOf rs) := by
  have hcells : ∀ (A : Option Addr), (∀ g, A = some (⟨g, 0, none⟩ : Addr) → v.ownBlock = some g) → (0 < rs.length → ∃ g, A = some (⟨g, 0, none⟩ : Addr)) → RdS w A (rowsOf rs) := fun A hA hs hl => by
    rw [rowsOf_len] at hl
    obtain ⟨g, rfl⟩ := hs hl
    refine ⟨_, rfl, fun j hj => ?_⟩
    have hj' : j < rs.length := by rw [rowsOf_len] at hj; exact hj
    have hrow : (rowsOf rs)[j] = rs[j].1 := by simp [rowsOf]
    rw [hrow]
    obtain ⟨e1, e2⟩ := rowCells_get rs j hj'
    have ho := h.data rs[j] (List.getElem_mem hj')
    obtain ⟨A', n', c', ev, HL, h1, h2, hr⟩ := ho.form
    refine ⟨World.ownsRow.cells h.row (hA g rfl) (j * 2) _ e1, A', c', ?_, by have := HL.out; omega, h2, hr⟩
    rw [add_twice, World.ownsRow.cells h.row (hA g rfl) (j * 2 + 1) _ e2, ev, HL.out]
  rcases h.row.2 with ⟨rfl, hn⟩ | ⟨g, cap, cur, rfl, _, _, hnc, hcm, _⟩
  · exact ⟨none, 0, 0, rfl, by rw [Hid, rowsOf_len]; exact hn, hn, Nat.le_refl _, by simp [maxLen], hcells none (fun g h => by cases h) (fun h => by omega)⟩
  · exact ⟨some ⟨g, 0, none⟩, _, cap, rfl, rowsOf_len _, rfl, hnc, hcm, hcells _ (fun g' h => by cases h; rfl) (fun _ => ⟨g, rfl⟩)⟩
theorem OwnS.kept {w w' : World} {base : Nat} {v : Value} {rs : List Row} {row : Option Nat} (h : OwnS w base v rs) (hg : w.grownBy w' row) (h1 : v.ownBlock = none ∨ v.ownBlock ≠ row) (h2 : ∀ r ∈ rs, r.2.ownBlock = none ∨ r.2.ownBlock ≠ row) : OwnS w' base v rs :=
  ⟨World.ownsRow.kept h.row hg h1, fun r hr => (h.data r hr).kept hg (h2 r hr), h.apart⟩
theorem OwnS.below {w w' : World} {base : Nat} {v : Value} {rs : List Row} (h : OwnS w base v rs) (hb : Below w.heap.size w w') : OwnS w' base v rs :=
  h.kept (grown_of_below hb none) (by cases hv : v.ownBlock <;> simp) (fun r _ => by cases hv : r.2.ownBlock <;> simp)
theorem OwnS.lower {w : World} {base base' : Nat} {v : Value} {rs : List Row} (h : OwnS w base v rs) (hb : base' ≤ base) : OwnS w base' v rs := by
  refine ⟨⟨h.row.1, ?_⟩, fun r hr => (h.data r hr).more hb, h.apart⟩
  rcases h.row.2 with h2 | ⟨g, cap, cur, hv, hbg, r⟩
  · exact .inl h2
  · exact .inr ⟨g, cap, cur, hv, by omega, r⟩
theorem OwnS.datalt {w : World} {base : Nat} {v : Value} {rs : List Row} (h : OwnS w base v rs) : ∀ q ∈ rs, ∀ k, q.2.ownBlock = some k → k < w.heap.size := fun q hq k hk => ((h.data q hq).lt k hk).2
theorem OwnS.lt {w : World} {base : Nat} {v : Value} {rs : List Row} (h : OwnS w base v rs) : ∀ k, v.ownBlock = some k → base ≤ k ∧ k < w.heap.size := World.ownsRow.lt h.row

theorem info_sec : (Try.prog.info? 41).map (fun i => (i.zero, i.size, i.bytes)) = some (some (.agg #[.int .i64 0, .slice none 0 0]), 2, 32) := by kernel_rfl

theorem two_cells (w : World) (x y : Value) (t : TypeId) (H : Nat) (hH : w.heap.size = H) : ∀ j u, [x, y][j]? = some u → (w.alloc (.cells #[x, y] t)).cell? ((⟨H, 0, none⟩ : Addr).add j) = some u := by
  subst hH
  intro j u hu
  rcases j with _ | _ | j
  · simp at hu
    subst hu
    simp [Addr.add]
  · simp at hu
    subst hu
    simp [Addr.add]
  · simp at hu

theorem grown_set (w : World) (b o : Nat) (x : Value) : w.grownBy (w.setCell ⟨b, o, none⟩ x) (some b) := ⟨rfl, rfl, rfl, by simp, fun k _ hk => Below.heap_setCell _ _ _ _ (fun e => hk (by rw [e]))⟩
theorem Own.keepSet {w : World} {base : Nat} {v : Value} {l : List UInt8} (h : Own w base v l) (b o : Nat) (x : Value) (hb : b < base) : Own (w.setCell ⟨b, o, none⟩ x) base v l := by
  refine h.kept (grown_set w b o x) ?_
  rcases hv : v.ownBlock with _ | k
  · exact .inl rfl
  · right
    intro e
    have := h.lt k hv
    cases e
    omega

/-- What the closure answers: a section, what is wrong, and what is left, in its box p. -/
def TookS (w : World) (p : Nat) (t : Nat) (d rest : List UInt8) (er : Nat) (e : Ending) (w' : World) : Prop :=
  ∃ v u, e = .returned (.tuple #[.agg #[.int .i64 (t : Int), v], .int .i64 (er : Int)]) ∧ Own w' w.heap.size v d ∧ Own w' w.heap.size u rest ∧ w'.heap[p]? = some (.cells #[u] 24 (0, 0)) ∧ w.grownBy w' (some p)

set_option maxHeartbeats 1000000 in
set_option maxRecDepth 20000 in
theorem took_any (p : Nat) (A : Option Addr) (n c : Nat) (t : UInt8) (r : List UInt8) (w : World) (hp : w.heap[p]? = some (.cells #[.slice A n c] 24 (0, 0))) (hl : (t :: r).length = n) (hr : Rd w A (t :: r)) (hnc : n ≤ c) (hc : c ≤ maxLen) (hn : n ≤ 262144) :
    Calls Try.prog 48 #[.pointer (some ⟨p, 0, none⟩)] w (TookS w p t.toNat (takeT r 262144).1 (takeT r 262144).2.1 (takeT r 262144).2.2) := by
  unfold maxLen at hc
  have hpl : p < w.heap.size := by
    rcases Nat.lt_or_ge p w.heap.size with h | h
    · exact h
    · rw [Array.getElem?_eq_none h] at hp; cases hp
  have HL := Lib.hid hl
  clear hl
  obtain ⟨ad, rfl, hcell⟩ := hr.cell (k := 0) (by simp)
  have hcell0 : w.cell? ad = some (.int .u8 (t.toNat : Int)) := by simpa [Addr.add] using hcell
  have hbox : w.cell? ⟨p, 0, none⟩ = some (.slice (some ad) n c) := by rw [cell_of_row w p _ _ _ _ hp]; rfl
  have hadlt := World.block_lt_of_cell? w _ hcell0
  have hl1 : 1 ≤ n := by have := HL.out; simp at this; omega
  obtain ⟨A', hcut0, hr'⟩ := cut_from (some ad) n c 1 (t :: r) w HL.out hr hl1 hnc
  have hcut : ∀ W : World, (Instr.slice 24 (.slice (some ad) n c) (some (.int .i64 1)) none none).run Try.prog W = .ok (.slice A' (n - 1) (c - 1)) W := hcut0
  have ht : t.toNat < 256 := t.toNat_lt
  have hwr : wrap64 (t.toNat : Int) = (t.toNat : Int) := IntWalk.wrap64_in _ ⟨by omega, by omega⟩
  clear hcut0
  have HL' : Hid (r.length = n - 1) := by have := HL.out; simp at this; unfold Hid; omega
  have HP := Lib.hid hp
  clear hcell hp hr
  have hz : ∀ W : World, (zeroValue 41).run Try.prog W = .ok (.agg #[.int .i64 0, .slice none 0 0]) W := fun W => by kernel_rfl
  go_enter Try.func48, Try.ntmps48
  go_wp2_with fail
  have hr1 := hr'.alloc (.cells #[Value.int IntKind.i64 0, Value.slice none 0 0] 41)
  refine (takeT_any A' (n - 1) (c - 1) 262144 r _ HL'.out hr1 (by omega) (by simp only [maxLen]; omega) (by omega) (by omega) (by omega)).mono ?_
  rintro e w2 ⟨v, u, rfl, hov, hou, hap, hb2⟩
  have hbox2 : w2.cell? ⟨p, 0, none⟩ = some (.slice (some ad) n c) := (hb2.cell (by simp; omega)).trans ((World.cell?_alloc_lt _ _ _ hpl).trans hbox)
  have hp2 : w2.heap[p]? = some (.cells #[.slice (some ad) n c] 24 (0, 0)) := (hb2.block p (by simp; omega)).trans ((Below.heap_alloc _ _ _ hpl).trans HP.out)
  have hf2 : w2.frozen? ⟨p, 0, none⟩ = false := by simp [World.frozen?, hp2]
  have hres : w2.heap[w.heap.size]? = some (.cells #[Value.int IntKind.i64 0, Value.slice none 0 0] 41 (0, 0)) := (hb2.block _ (by simp)).trans (heap_alloc_new w _)
  obtain ⟨Au, nu, cu, rfl, _, _, _, _⟩ := hou.form
  obtain ⟨Av, nv, cv, rfl, _, _, _, _⟩ := hov.form
  clear hcut hr1 hr'
  have hne : p ≠ w.heap.size := by omega
  have h3 : (w2.setCell ⟨p, 0, none⟩ (.slice Au nu cu)).heap[w.heap.size]? = some (.cells #[Value.int IntKind.i64 0, Value.slice none 0 0] 41 (0, 0)) := by rw [Below.heap_setCell _ _ _ _ (Ne.symm hne)]; exact hres
  have h4 := heap_setCell_same _ w.heap.size 0 _ _ (.int .i64 (t.toNat : Int)) h3
  have h5 := heap_setCell_same _ w.heap.size 1 _ _ (.slice Av nv cv) h4
  simp only [List.setIfInBounds_toArray, List.set_cons_zero, List.set_cons_succ] at h4 h5
  have c30 : (w2.setCell ⟨p, 0, none⟩ (.slice Au nu cu)).cell? ⟨w.heap.size, 0, none⟩ = some (.int .i64 0) := by rw [cell_of_row _ _ _ _ _ _ h3]; rfl
  have f30 : (w2.setCell ⟨p, 0, none⟩ (.slice Au nu cu)).frozen? ⟨w.heap.size, 0, none⟩ = false := by simp only [World.frozen?, h3]; rfl
  have c41 : ((w2.setCell ⟨p, 0, none⟩ (.slice Au nu cu)).setCell ⟨w.heap.size, 0, none⟩ (.int .i64 (t.toNat : Int))).cell? ⟨w.heap.size, 1, none⟩ = some (.slice none 0 0) := by rw [cell_of_row _ _ _ _ _ _ h4]; rfl
  have f41 : ((w2.setCell ⟨p, 0, none⟩ (.slice Au nu cu)).setCell ⟨w.heap.size, 0, none⟩ (.int .i64 (t.toNat : Int))).frozen? ⟨w.heap.size, 1, none⟩ = false := by simp only [World.frozen?, h4]; rfl
  go_wp2_with fail
  have c50 : (((w2.setCell ⟨p, 0, none⟩ (.slice Au nu cu)).setCell ⟨w.heap.size, 0, none⟩ (.int .i64 (t.toNat : Int))).setCell ⟨w.heap.size, 1, none⟩ (.slice Av nv cv)).cell? ⟨w.heap.size, 0, none⟩ = some (.int .i64 (t.toNat : Int)) := by rw [cell_of_row _ _ _ _ _ _ h5]; rfl
  have c51 : (((w2.setCell ⟨p, 0, none⟩ (.slice Au nu cu)).setCell ⟨w.heap.size, 0, none⟩ (.int .i64 (t.toNat : Int))).setCell ⟨w.heap.size, 1, none⟩ (.slice Av nv cv)).cell? ⟨w.heap.size, 1, none⟩ = some (.slice Av nv cv) := by rw [cell_of_row _ _ _ _ _ _ h5]; rfl
  have hkeep : ∀ (q : Value) (x : List UInt8), Own w2 (w.heap.size + 1) q x → Own (((w2.setCell ⟨p, 0, none⟩ (.slice Au nu cu)).setCell ⟨w.heap.size, 0, none⟩ (.int .i64 (t.toNat : Int))).setCell ⟨w.heap.size, 1, none⟩ (.slice Av nv cv)) w.heap.size q x := fun q x h =>
    (((h.keepSet p 0 _ (by omega)).keepSet w.heap.size 0 _ (by omega)).keepSet w.heap.size 1 _ (by omega)).more (by omega)
  have hgr : w.grownBy (((w2.setCell ⟨p, 0, none⟩ (.slice Au nu cu)).setCell ⟨w.heap.size, 0, none⟩ (.int .i64 (t.toNat : Int))).setCell ⟨w.heap.size, 1, none⟩ (.slice Av nv cv)) (some p) := by
    refine ⟨hb2.os, hb2.tape, hb2.output, by have := hb2.size; simp at this ⊢; omega, fun i hi hni => ?_⟩
    rw [Below.heap_setCell _ _ _ _ (by simp; omega), Below.heap_setCell _ _ _ _ (by simp; omega), Below.heap_setCell _ _ _ _ (fun e => hni (by simp at e; rw [e])), hb2.block i (by simp; omega), Below.heap_alloc _ _ _ hi]
  have hpe : (((w2.setCell ⟨p, 0, none⟩ (.slice Au nu cu)).setCell ⟨w.heap.size, 0, none⟩ (.int .i64 (t.toNat : Int))).setCell ⟨w.heap.size, 1, none⟩ (.slice Av nv cv)).heap[p]? = some (.cells #[.slice Au nu cu] 24 (0, 0)) := by
    rw [Below.heap_setCell _ _ _ _ hne, Below.heap_setCell _ _ _ _ hne]
    exact heap_setCell_same w2 p 0 _ _ _ hp2
  have hov' := hkeep _ _ (by simpa using hov)
  have hou' := hkeep _ _ (by simpa using hou)
  clear hkeep h3 h4 h5 c30 f30 c41 f41
  exact bodyPost_ret (v := .tuple #[.agg #[.int .i64 (t.toNat : Int), .slice Av nv cv], .int .i64 ((takeT r 262144).2.2 : Int)]) (by simp [results, Try.results48, go_sem, c50, c51]) rfl ⟨_, _, rfl, hov', hou', hpe, hgr⟩

end Go.Proofs.Ytlblcligjelbgaa
