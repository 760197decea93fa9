/- The classes of bytes: sets put behind others, and written amid them. -/
import Derived.Test.YtcgfogdfcdndgaaGreatDoorDgGQ
import Derived.ArgAppend
import Derived.Laws.CopyRow
set_option linter.unusedVariables false
set_option linter.unusedSimpArgs false
namespace Go.Proofs.YtcgfogdfcdndgaaGreatDoor
open Go.RowKit Go.Shelf
attribute [local go_sem] Oper.semAt_some

theorem stS_from (l : List S4) (e : S4) {k i : Nat} (hk : k ≤ i) (h : i < l.length) : (stS l e k)[i]? = some l[i] := by
  unfold stS
  have h1 : ((l.take k).map (partS e)).length = k := by rw [List.length_map, List.length_take]; omega
  rw [List.getElem?_append_left (by rw [List.length_append, List.length_drop, h1]; omega), List.getElem?_append_right (by omega), h1, List.getElem?_drop, show k + (i - k) = i by omega, List.getElem?_eq_getElem h]
theorem PartsS.len {E : List Ed} {L : List S4} (h : PartsS E L) : L.length ≤ 256 := by
  have hp := List.mergeSort_perm L (fun s t => decide (leS s ≤ leS t))
  have hs : ((L.mergeSort fun s t => decide (leS s ≤ leS t)).map leS).Pairwise (· ≤ ·) := by
    rw [List.pairwise_map]
    refine (List.pairwise_mergeSort (le := fun s t => decide (leS s ≤ leS t)) (fun a b c h1 h2 => ?_) (fun a b => ?_) L).imp fun h => by simpa using h
    · simp only [decide_eq_true_iff] at *; omega
    · simp only [Bool.or_eq_true, decide_eq_true_iff]; omega
  have h2 := (h.perm hp).leasts hs
  have h3 := congrArg List.length h2
  rw [List.length_map, List.length_mergeSort] at h3
  rw [h3]
  exact (leasts_len E).2
theorem info_set4 : (Tryz.prog.info? 51).map (fun i => (i.zero, i.size, i.bytes)) = some (some (.agg (row4 nilW)), 4, 32) := by kernel_rfl
theorem OwnS.form {w : World} {base : Nat} {v : Value} {l : List S4} (h : OwnS w base v l) (hl : 0 < l.length) : ∃ g cap, v = .slice (some ⟨g, 0, none⟩) l.length cap ∧ base ≤ g ∧ g < w.heap.size ∧ (∃ cs, w.heap[g]? = some (.cells cs 51 (0, 0))) ∧ l.length ≤ cap ∧ cap ≤ maxLen := by
  rcases h.2 with ⟨_, h0⟩ | ⟨g, cap, cur, e, hb, hg, h1, h2, h3, h4⟩
  · omega
  · exact ⟨g, cap, e, hb, (Array.getElem?_eq_some_iff.1 hg).1, ⟨cur, hg⟩, h1, h2⟩
theorem owns_mono {w : World} {base base' : Nat} {e : TypeId} {s n : Nat} {v : Value} {xs : List Value} (h : w.ownsRow base e s v n xs) (hb : base' ≤ base) : w.ownsRow base' e s v n xs := by
  refine ⟨h.1, ?_⟩
  rcases h.2 with h | ⟨g, cap, cur, e, hg, r⟩
  · exact Or.inl h
  · exact Or.inr ⟨g, cap, cur, e, Nat.le_trans hb hg, r⟩
/-- One set put behind sets. -/
theorem run_append_set (w : World) (ty : TypeId) (base g n cap : Nat) (l : List S4) (hown : OwnS w base (.slice (some ⟨g, 0, none⟩) n cap) l) (hn : l.length = n) (ad : Addr) (c : Nat) (s : S4) (hnews : ∀ j u, (setC s)[j]? = some u → w.cell? (ad.add j) = some u)
    (hlen : n ≤ 1000) (hb : base ≤ w.heap.size) :
    ∃ g' cap' w', (Builtin.append_ #[94, 94] ty #[.slice (some ⟨g, 0, none⟩) n cap, .slice (some ad) 1 c]).run Tryz.prog w = .ok (.slice (some ⟨g', 0, none⟩) (n + 1) cap') w' ∧ OwnS w' base (.slice (some ⟨g', 0, none⟩) (n + 1) cap') (l ++ [s]) ∧
      ((g' = g ∧ w.grownBy w' (some g)) ∨ (w.heap.size ≤ g' ∧ w.grownBy w' none)) := by
  obtain ⟨i0, hi, hz0, hz1, hz2⟩ := info_parts info_set4
  have hcl : cellsS (l ++ [s]) = cellsS l ++ setC s := by unfold cellsS; rw [List.flatMap_append]; simp
  have ho2 : w.ownsRow base 51 4 (.slice (some ⟨g, 0, none⟩) n cap) n (cellsS l) := by have h := hown; unfold OwnS at h; rw [hn] at h; exact h
  by_cases hr : n + 1 ≤ cap
  · obtain ⟨w', hrun, h1, h2⟩ := run_append_fits (P := Tryz.prog) w base 94 ty 51 i0 4 Tryz.underlying94 hi hz1 g n cap (cellsS l) ho2 ad 1 c (setC s) rfl hnews (setC_one s) hr
    refine ⟨g, cap, w', hrun, ?_, Or.inl ⟨rfl, h2⟩⟩
    unfold OwnS
    rw [List.length_append, List.length_singleton, hn, hcl]
    exact h1
  · obtain ⟨v', w', hrun, h1, h2⟩ := run_append_arg_grows (P := Tryz.prog) w 94 ty 51 i0 _ 4 32 Tryz.underlying94 hi hz0 hz1 hz2 (by rfl) (by omega) ⟨g, 0, none⟩ n cap (cellsS l) (by rw [cellsS_len, hn]) (World.ownsRow.cells ho2 rfl) ad 1 c (setC s) rfl hnews (by omega) (by simp only [maxLen]; omega) (by omega)
    obtain ⟨g', cap', rfl, hg', _⟩ := h1.form (by omega)
    refine ⟨g', cap', w', hrun, ?_, Or.inr ⟨hg', h2⟩⟩
    unfold OwnS
    rw [List.length_append, List.length_singleton, hn, hcl]
    exact owns_mono h1 hb
theorem wpList_append_set {ops : Array Oper} {rest : List Oper} {o : Oper} {a : Act} {Q : Exit → Act → World → Prop} (w : World) (hgd : Region.wanted o (yielded ops a.tmps) = true) (x y : Operand)
    (ho : o.op = .call { callee := .builtin .append, args := #[x, y], argTypes := #[94, 94] }) (base g n cap : Nat) (l : List S4) (hx : a.eval x = .slice (some ⟨g, 0, none⟩) n cap) (hown : OwnS w base (.slice (some ⟨g, 0, none⟩) n cap) l) (hn : l.length = n) (ad : Addr) (c : Nat) (s : S4)
    (hy : a.eval y = .slice (some ad) 1 c) (hnews : ∀ j u, (setC s)[j]? = some u → w.cell? (ad.add j) = some u) (hlen : n ≤ 1000) (hb : base ≤ w.heap.size)
    (h : ∀ g' cap' w', OwnS w' base (.slice (some ⟨g', 0, none⟩) (n + 1) cap') (l ++ [s]) → ((g' = g ∧ w.grownBy w' (some g)) ∨ (w.heap.size ≤ g' ∧ w.grownBy w' none)) → wpList Tryz.prog ops Q rest (a.put o.dst (.slice (some ⟨g', 0, none⟩) (n + 1) cap')) w') :
    wpList Tryz.prog ops Q (o :: rest) a w := by
  refine wpList_step fun K hK => ?_
  rw [if_pos hgd]
  obtain ⟨g', cap', w', hr, h2, h3⟩ := run_append_set w o.type base g n cap l hown hn ad c s hnews hlen hb
  unfold Oper.wp execOp
  simp only [ho, resolve, invoke, builtin, Sem.run_bind, Sem.run_pure, Result.andThen_ok, List.map_toArray, List.map_cons, List.map_nil, hx, hy, hr]
  exact hK _ _ (h g' cap' w' h2 h3)
/-- A set written amid sets. -/
theorem run_store_set (w : World) (base g n cap : Nat) (l : List S4) (hown : OwnS w base (.slice (some ⟨g, 0, none⟩) n cap) l) (k : Nat) (hk : k < l.length) (s : S4) :
    ∃ w', (storeVar 51 ⟨g, k * 4, none⟩ (.agg (row4 s.f))).run Tryz.prog w = .ok () w' ∧ OwnS w' base (.slice (some ⟨g, 0, none⟩) n cap) (l.set k s) ∧ w.grownBy w' (some g) := by
  rcases hown.2 with ⟨e, _⟩ | ⟨g', cap', cur, e, hb, hg, h1, h2, h3, h4⟩
  · cases e
  · injection e with e1 en e3
    injection e1 with e1
    injection e1 with e1
    subst e1 e3 en
    have hcur : k * 4 + (setC s).length ≤ cur.size := by have : (setC s).length = 4 := rfl; omega
    have hst := run_storeCells_at (P := Tryz.prog) g (k * 4) 51 (setC s) 0 cur w hg (by simpa using hcur) (setC_one s)
    simp only [Nat.add_zero] at hst
    obtain ⟨i0, hi, hz0, hz1, hz2⟩ := info_parts info_set4
    have hsv : (storeVar 51 ⟨g, k * 4, none⟩ (.agg (row4 s.f))).run Tryz.prog w = .ok () (w.setRow g (cur.toList.take (k * 4) ++ setC s ++ cur.toList.drop (k * 4 + (setC s).length)).toArray) := by
      rw [← setC_row]
      have h4 : (setC s).length = 4 := rfl
      simp [storeVar, sizeOf, typeInfo, hi, hz1, Value.cells, h4] at hst ⊢
      exact hst
    have hl1 : l = l.take k ++ l[k] :: l.drop (k + 1) := by rw [← List.drop_eq_getElem_cons hk, List.take_append_drop]
    have hl2 : l.set k s = l.take k ++ s :: l.drop (k + 1) := by rw [List.set_eq_take_append_cons_drop, if_pos hk]
    have hcat : ∀ (x : S4) (p q : List S4), cellsS (p ++ x :: q) = cellsS p ++ (setC x ++ cellsS q) := fun x p q => by unfold cellsS; rw [List.flatMap_append]; rfl
    have hsplit : cur.toList = cellsS (l.take k) ++ (setC l[k] ++ (cellsS (l.drop (k + 1)) ++ cur.toList.drop (l.length * 4))) := by
      have h5 := List.take_append_drop (l.length * 4) cur.toList
      rw [h4] at h5
      refine h5.symm.trans ?_
      have h7 : cellsS l = cellsS (l.take k) ++ (setC l[k] ++ cellsS (l.drop (k + 1))) := (congrArg cellsS hl1).trans (hcat l[k] _ _)
      rw [h7]
      simp only [List.append_assoc]
    have hlk : (cellsS (l.take k)).length = k * 4 := by rw [cellsS_len, List.length_take]; omega
    have hnew : cur.toList.take (k * 4) ++ setC s ++ cur.toList.drop (k * 4 + (setC s).length) = cellsS (l.set k s) ++ cur.toList.drop (l.length * 4) := by
      generalize cur.toList.drop (l.length * 4) = R at *
      rw [hsplit, ← hlk, List.take_left, List.drop_append, hl2, hcat]
      simp [setC]
    refine ⟨_, hsv, ⟨by rw [cellsS_len], Or.inr ⟨g, cap, _, by rw [List.length_set], hb, setRow_heap w g _ _ _ _ hg, by rw [List.length_set]; exact h1, h2, ?_, ?_⟩⟩, ⟨rfl, rfl, rfl, by simp, fun k _ hk => setRow_other w g k _ (fun e => hk (by simp [e]))⟩⟩
    · have h4 : (setC s).length = 4 := rfl
      simp only [List.size_toArray, List.length_append, List.length_take, List.length_drop, Array.length_toList]
      omega
    · rw [List.toList_toArray, hnew]
      have h6 : (cellsS (l.set k s)).length = (l.set k s).length * 4 := cellsS_len _
      rw [← h6, List.take_left]
theorem wpList_store_set {ops : Array Oper} {rest : List Oper} {o : Oper} {a : Act} {Q : Exit → Act → World → Prop} (w : World) (hgd : o.guard = none) (x y : Operand) (ho : o.op = .store 51 x y) (base g n cap : Nat) (l : List S4) (hown : OwnS w base (.slice (some ⟨g, 0, none⟩) n cap) l)
    (k : Nat) (hk : k < l.length) (hx : a.eval x = .pointer (some ⟨g, k * 4, none⟩)) (s : S4) (hy : a.eval y = .agg (row4 s.f))
    (h : ∀ w', OwnS w' base (.slice (some ⟨g, 0, none⟩) n cap) (l.set k s) → w.grownBy w' (some g) → wpList Tryz.prog ops Q rest (a.put o.dst undef) w') : wpList Tryz.prog ops Q (o :: rest) a w := by
  refine wpList_plain hgd fun K hK => ?_
  obtain ⟨w', hr, h2, h3⟩ := run_store_set w base g n cap l hown k hk s
  unfold Oper.wp execOp
  simp only [ho, hx, hy, Instr.storeAt, Instr.sureAddr, Sem.run_bind, Sem.run_pure, Result.andThen_ok, hr]
  exact hK _ _ (h w' h2 h3)

end Go.Proofs.YtcgfogdfcdndgaaGreatDoor
