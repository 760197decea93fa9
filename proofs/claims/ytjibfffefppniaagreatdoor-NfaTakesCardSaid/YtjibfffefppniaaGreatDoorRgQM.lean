/- Rows of sets in memory; note: what may follow is noted. Under: math/bits' table as it was laid. -/
import Derived.Test.YtjibfffefppniaaGreatDoorRgNM
import Derived.Test.YtjibfffefppniaaGreatDoorSetMM
import Derived.Test.YtjibfffefppniaaGreatDoorRgRdM
import Derived.Laws.CopyRow
set_option linter.unusedVariables false
set_option linter.unusedSimpArgs false
namespace Go.Proofs.YtjibfffefppniaaGreatDoor
open Go.RowKit
attribute [local go_sem] Oper.semAt_some

def setCells (s : S4) : List Value := [dv s.w0, dv s.w1, dv s.w2, dv s.w3]
theorem setCells_row (s : S4) : (setCells s).toArray = row4 s.f := rfl
/-- A structure or an array, read whole, wherever it lies. -/
theorem run_load_agg (ty : TypeId) (k : Nat) (w : World) (ad : Addr) (vs : List Value) (hagg : (isAgg ty).run Tryz.prog w = .ok true w) (hsz : (sizeOf ty).run Tryz.prog w = .ok k w) (hk : vs.length = k) (h : ∀ j u, vs[j]? = some u → w.cell? (ad.add j) = some u) : (loadVar ty ad).run Tryz.prog w = .ok (.agg vs.toArray) w := by
  have hl := run_loadCells_list (P := Tryz.prog) w ad vs h
  rw [hk] at hl
  simp [loadVar, Sem.run_bind, hagg, hsz, hl]
theorem wp_load_agg {o : Oper} {a : Act} {w : World} {K : Act → World → Prop} {Q : Exit → Act → World → Prop} (ty : TypeId) (k : Nat) (x : Operand) (ho : o.op = .load ty x) (ad : Addr) (hx : a.eval x = .pointer (some ad)) (vs : List Value)
    (hagg : (isAgg ty).run Tryz.prog w = .ok true w) (hsz : (sizeOf ty).run Tryz.prog w = .ok k w) (hk : vs.length = k) (hc : ∀ j u, vs[j]? = some u → w.cell? (ad.add j) = some u)
    (h : K (a.put o.dst (.agg vs.toArray)) w) : o.wp Tryz.prog a w K Q := by
  unfold Oper.wp execOp
  simp only [ho, hx, Instr.loadAt, Instr.sureAddr, Sem.run_bind, Sem.run_pure, Result.andThen_ok, run_load_agg ty k w ad vs hagg hsz hk hc]
  exact h
theorem wpList_load_agg {ops : Array Oper} {rest : List Oper} {o : Oper} {a : Act} {w : World} {Q : Exit → Act → World → Prop} (ty : TypeId) (k : Nat) (x : Operand) (hgd : o.guard = none) (ho : o.op = .load ty x) (ad : Addr) (hx : a.eval x = .pointer (some ad)) (vs : List Value)
    (hagg : (isAgg ty).run Tryz.prog w = .ok true w) (hsz : (sizeOf ty).run Tryz.prog w = .ok k w) (hk : vs.length = k) (hc : ∀ j u, vs[j]? = some u → w.cell? (ad.add j) = some u)
    (h : wpList Tryz.prog ops Q rest (a.put o.dst (.agg vs.toArray)) w) : wpList Tryz.prog ops Q (o :: rest) a w :=
  wpList_plain hgd fun _ hK => wp_load_agg ty k x ho ad hx vs hagg hsz hk hc (hK _ _ h)
theorem agg_set (w : World) : (isAgg 59).run Tryz.prog w = .ok true w := by kernel_rfl
theorem size_set (w : World) : (sizeOf 59).run Tryz.prog w = .ok 4 w := by kernel_rfl

/-- Cells o, o + 1 .. of a block turned. -/
def splice (cs : List Value) (o : Nat) (vs : List Value) : List Value := cs.take o ++ vs ++ cs.drop (o + vs.length)
theorem wp_store_mid {o : Oper} {a : Act} {w : World} {K : Act → World → Prop} {Q : Exit → Act → World → Prop} (ty : TypeId) (x y : Operand) (ho : o.op = .store ty x y) (g off : Nat) (hx : a.eval x = .pointer (some ⟨g, off, none⟩)) (vs : List Value) (hy : a.eval y = .agg vs.toArray)
    (t : TypeId) (cs : List Value) (hg : w.heap[g]? = some (.cells cs.toArray t (0, 0))) (hi : (Tryz.prog.info? ty).map (·.size) = some vs.length) (hl : off + vs.length ≤ cs.length) (h1 : ∀ v ∈ vs, v.oneCell' = true)
    (h : K (a.put o.dst undef) (w.setRow g (splice cs off vs).toArray)) : o.wp Tryz.prog a w K Q := by
  have hst := run_storeCells_at (P := Tryz.prog) g off t vs 0 cs.toArray w hg (by simpa using hl) h1
  simp only [Nat.add_zero, List.toList_toArray] at hst
  have hsv : (storeVar ty ⟨g, off, none⟩ (.agg vs.toArray)).run Tryz.prog w = .ok () (w.setRow g (splice cs off vs).toArray) := by
    cases hq : Tryz.prog.info? ty with
    | none => simp [hq] at hi
    | some i =>
      have hs : vs.length = i.size := by simp [hq] at hi; omega
      simp [storeVar, sizeOf, typeInfo, hq, Value.cells, hs, hst, splice]
  unfold Oper.wp execOp
  simp only [ho, hx, hy, Instr.storeAt, Instr.sureAddr, Sem.run_bind, Sem.run_pure, Result.andThen_ok, hsv]
  exact h

/-- N sets in a row. -/
def rowBh (N : Nat) (B : Nat → S4) : List Value := (List.range N).flatMap fun p => setCells (B p)
theorem rowBh_len (N : Nat) (B : Nat → S4) : (rowBh N B).length = N * 4 := by
  unfold rowBh
  induction N with
  | zero => rfl
  | succ N ih => rw [List.range_succ, List.flatMap_append, List.length_append, ih]; simp [setCells]; omega
theorem rowBh_succ (N : Nat) (B : Nat → S4) : rowBh (N + 1) B = rowBh N B ++ setCells (B N) := by
  unfold rowBh
  rw [List.range_succ, List.flatMap_append]
  simp
theorem rowBh_get : ∀ (N : Nat) (B : Nat → S4) (p : Nat), p < N → ∀ j u, (setCells (B p))[j]? = some u → (rowBh N B)[p * 4 + j]? = some u
  | N + 1, B, p, hp, j, u, h => by
    have hj : j < 4 := (List.getElem?_eq_some_iff.1 h).1
    rw [rowBh_succ]
    by_cases hlt : p < N
    · rw [List.getElem?_append_left (by rw [rowBh_len]; omega)]
      exact rowBh_get N B p hlt j u h
    · obtain rfl : p = N := by omega
      rw [List.getElem?_append_right (by rw [rowBh_len]; omega), rowBh_len]
      have : p * 4 + j - p * 4 = j := by omega
      rw [this]
      exact h
def updS (B : Nat → S4) (p : Nat) (s : S4) : Nat → S4 := fun k => if k = p then s else B k
theorem rowBh_congr {N : Nat} {B B' : Nat → S4} (h : ∀ p, p < N → B p = B' p) : rowBh N B = rowBh N B' := by
  unfold rowBh
  have : ∀ l : List Nat, (∀ p ∈ l, p < N) → l.flatMap (fun p => setCells (B p)) = l.flatMap (fun p => setCells (B' p)) := by
    intro l
    induction l with
    | nil => intro _; rfl
    | cons x l ih => intro hl; rw [List.flatMap_cons, List.flatMap_cons, h x (hl x (by simp)), ih (fun p hp => hl p (by simp [hp]))]
  exact this _ (fun p hp => List.mem_range.1 hp)
theorem rowBh_upd : ∀ (N : Nat) (B : Nat → S4) (p : Nat) (s : S4), p < N → splice (rowBh N B) (p * 4) (setCells s) = rowBh N (updS B p s)
  | N + 1, B, p, s, hp => by
    have h4 : (setCells s).length = 4 := rfl
    rw [rowBh_succ, rowBh_succ]
    by_cases hlt : p < N
    · have ih := rowBh_upd N B p s hlt
      have e : updS B p s N = B N := by unfold updS; rw [if_neg (by omega)]
      rw [e, ← ih]
      unfold splice
      rw [h4, List.take_append_of_le_length (by rw [rowBh_len]; omega), List.drop_append_of_le_length (by rw [rowBh_len]; omega), List.append_assoc, List.append_assoc, List.append_assoc]
    · obtain rfl : p = N := by omega
      have e : updS B p s p = s := by unfold updS; rw [if_pos rfl]
      have e2 : rowBh p (updS B p s) = rowBh p B := rowBh_congr fun k hk => by unfold updS; rw [if_neg (by omega)]
      rw [e, e2]
      unfold splice
      rw [h4, List.take_left' (by rw [rowBh_len]), List.drop_of_length_le (by rw [List.length_append, rowBh_len]; simp [setCells]), List.append_nil]
theorem add_mk (g o j : Nat) : (⟨g, o, none⟩ : Addr).add j = ⟨g, o + j, none⟩ := by unfold Addr.add; split <;> simp_all
/-- A block that holds N sets. -/
def HB (w : World) (q N : Nat) (B : Nat → S4) : Prop := w.heap[q]? = some (.cells (rowBh N B).toArray 59 (0, 0))
theorem HB.cells {w : World} {q N : Nat} {B : Nat → S4} (h : HB w q N B) {p : Nat} (hp : p < N) : ∀ j u, (setCells (B p))[j]? = some u → w.cell? ((⟨q, p * 4, none⟩ : Addr).add j) = some u := fun j u hu => by
  rw [add_mk, cell_of_row w q _ _ _ _ h]
  simpa using rowBh_get N B p hp j u hu
theorem HB.lt {w : World} {q N : Nat} {B : Nat → S4} (h : HB w q N B) : q < w.heap.size := (Array.getElem?_eq_some_iff.1 h).1
theorem HB.below {w w' : World} {q N : Nat} {B : Nat → S4} (h : HB w q N B) (hb : Below w.heap.size w w') : HB w' q N B := (hb.block q h.lt).trans h

theorem info_set : (Tryz.prog.info? 59).map (·.size) = some 4 := by kernel_rfl
theorem oneCells (s : S4) : ∀ v ∈ setCells s, v.oneCell' = true := by simp [setCells, dv, Value.oneCell']

end Go.Proofs.YtjibfffefppniaaGreatDoor
