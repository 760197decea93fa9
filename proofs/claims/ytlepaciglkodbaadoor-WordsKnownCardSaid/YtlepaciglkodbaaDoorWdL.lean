/- Words of the grammar language: what is put in between changes nothing but places. No condition. -/
import Derived.Test.YtlepaciglkodbaaDoorWdK
import Derived.Lib.AppendStr
set_option linter.unusedVariables false
set_option linter.unusedSimpArgs false
namespace Go.Proofs.YtlepaciglkodbaaDoor
open Go.RowKit

/-! Ints in memory. -/
def RdI (w : World) (A : Option Addr) (l : List Nat) : Prop := ∀ i (h : i < l.length), ∃ ad, A = some ad ∧ w.cell? (ad.add i) = some (.int .i64 (l[i] : Int))
theorem RdI.below {w w' : World} {A : Option Addr} {l : List Nat} (h : RdI w A l) (hb : Below w.heap.size w w') : RdI w' A l := fun i hi => by
  obtain ⟨ad, e, hc⟩ := h i hi
  exact ⟨ad, e, (hb.cell (World.block_lt_of_cell? w _ hc)).trans hc⟩
def OwnI (w : World) (base : Nat) (v : Value) (l : List Nat) : Prop := w.ownsRow base 3 1 v l.length (l.map nv)
theorem OwnI.nil (w : World) (base : Nat) : OwnI w base (.slice none 0 0) [] := World.ownsRow_nil _ _ _ _
theorem OwnI.below {w w' : World} {base : Nat} {v : Value} {l : List Nat} (h : OwnI w base v l) (hb : Below w.heap.size w w') : OwnI w' base v l :=
  World.ownsRow.kept h (grown_of_below hb none) (by cases v.ownBlock <;> simp)
theorem OwnI.shape {w : World} {base : Nat} {v : Value} {l : List Nat} (h : OwnI w base v l) : ∃ A n c, v = .slice A n c ∧ Hid (l.length = n) ∧ n ≤ c ∧ c ≤ maxLen ∧ RdI w A l := by
  rcases h.2 with ⟨rfl, hn⟩ | ⟨g, cap, cur, rfl, _, hg, hnc, hcm, hcs, ht⟩
  · exact ⟨none, 0, 0, rfl, hn, by omega, by simp [maxLen], fun i hi => by omega⟩
  · refine ⟨some ⟨g, 0, none⟩, _, cap, rfl, rfl, hnc, hcm, fun i hi => ⟨_, rfl, ?_⟩⟩
    exact World.ownsRow.cells h (g := g) rfl i _ (by simp [hi, nv])
theorem info_int : (Tryd.prog.info? 3).map (fun i => (i.zero, i.size, i.bytes)) = some (some (.int .i64 0), 1, 8) := by kernel_rfl
theorem wpList_append_int {ops : Array Oper} {rest : List Oper} {o : Oper} {a : Act} {Q : Exit → Act → World → Prop} (w : World) (hgd : Region.wanted o (yielded ops a.tmps) = true) (s x : Operand)
    (ho : o.op = .call { callee := .builtin .append, args := #[s, x], argTypes := #[39, 39] })
    (base : Nat) (v : Value) (l : List Nat) (hs : a.eval s = v) (hown : OwnI w base v l) (ad : Addr) (t : Nat) (hx : a.eval x = .slice (some ad) 1 1)
    (hr : w.cell? ad = some (.int .i64 (t : Int))) (hl : l.length ≤ 1000000) (hbase : base ≤ w.heap.size)
    (h : ∀ v' w', OwnI w' base v' (l ++ [t]) → w.grownBy w' v.ownBlock → (v'.ownBlock = v.ownBlock ∨ v'.ownBlock = some w.heap.size) → wpList Tryd.prog ops Q rest (a.put o.dst v') w') :
    wpList Tryd.prog ops Q (o :: rest) a w := by
  refine wpList_step fun K hK => ?_
  rw [if_pos hgd]
  obtain ⟨i, hi, hz, hsz, hby⟩ := info_parts info_int
  obtain ⟨v', w', hrun, h2, h3, _, h5⟩ := run_append_own_at (P := Tryd.prog) w base 39 o.type 3 i (.int .i64 0) 1 8 Tryd.underlying39 hi hz hsz hby rfl (by omega) v l.length (l.map nv) hown ad 1 1 [nv t] rfl
    (fun j u hu => by
      have hj : j = 0 := by have := (List.getElem?_eq_some_iff.1 hu).1; simpa using this
      subst hj
      obtain rfl := Option.some.inj hu
      simpa [Addr.add, nv] using hr)
    (fun u hu => by simp [nv] at hu; subst hu; rfl) (by simp only [maxLen]; omega) (by omega) hbase
  have h4 : OwnI w' base v' (l ++ [t]) := by
    unfold OwnI
    rw [List.map_append, List.length_append]
    exact h2
  unfold Oper.wp execOp
  simp only [ho, resolve, invoke, builtin, Sem.run_bind, Sem.run_pure, Result.andThen_ok, List.map_toArray, List.map_cons, List.map_nil, hs, hx, hrun]
  exact hK _ _ (h v' w' h4 h3 h5)
theorem strCells_is (s : List UInt8) : Lib.strCells ⟨s.toArray⟩ = s.map bv := by
  simp [Lib.strCells, bv, ByteArray.toList_mk]
/-- append of a text onto bytes that the call made itself. -/
theorem wpList_append_str {ops : Array Oper} {rest : List Oper} {o : Oper} {a : Act} {Q : Exit → Act → World → Prop} (w : World) (hgd : o.guard = none) (s x : Operand)
    (ho : o.op = .call { callee := .builtin .append, args := #[s, x], argTypes := #[22, 9] })
    (base : Nat) (v : Value) (l : List UInt8) (hs : a.eval s = v) (hown : Own w base v l) (t : List UInt8) (hx : a.eval x = .string ⟨t.toArray⟩)
    (hl : l.length + t.length ≤ 1000000) (hbase : base ≤ w.heap.size)
    (h : ∀ v' w', Own w' base v' (l ++ t) → w.grownBy w' v.ownBlock → wpList Tryd.prog ops Q rest (a.put o.dst v') w') :
    wpList Tryd.prog ops Q (o :: rest) a w := by
  obtain ⟨i0, hi, hz0, hz1, hz2⟩ := info_parts info_u8
  have hsize : (⟨t.toArray⟩ : ByteArray).size = t.length := by simp [ByteArray.size]
  refine Lib.wpList_append_own_string w hgd s x 22 9 ho base 5 i0 Tryd.underlying22 Tryd.underlying9 hi hz0 hz1 hz2 v l.length (l.map bv) hs hown ⟨t.toArray⟩ hx (by rw [hsize]; unfold maxLen; omega) (by rw [hsize]; omega) hbase ?_
  intro v' w' h1 h2 _
  refine h v' w' ?_ h2
  unfold Own
  rw [List.length_append, List.map_append, ← strCells_is t]
  rw [hsize] at h1
  exact h1
theorem min_lit (m k : Nat) (z : Int) (hz : (k : Int) = z) : ∃ j : Nat, Hid (j = min m k) ∧ j ≤ m ∧ j ≤ k ∧ ∀ (ts : Array TypeId) (t : TypeId) (W : World), (Builtin.min_ ts t #[.int .i64 (m : Int), .int .i64 z]).run Tryd.prog W = .ok (.int .i64 (j : Int)) W := by
  subst hz
  refine ⟨min m k, rfl, by omega, by omega, fun ts t W => ?_⟩
  rw [run_min_int2]
  have e : (if (k : Int) < m then (k : Int) else m) = ((min m k : Nat) : Int) := by split <;> omega
  rw [e]
theorem take_one {α : Type} {l l' : List α} {k : Nat} (h : l.take k = l'.take k) (h1 : k < l.length) (h2 : k < l'.length) (hx : l[k] = l'[k]) : l.take (k + 1) = l'.take (k + 1) := by
  rw [List.take_succ_eq_append_getElem h1, List.take_succ_eq_append_getElem h2, h, hx]

set_option maxHeartbeats 400000 in
set_option maxRecDepth 20000 in
theorem eqInts_any (A A' : Option Addr) (n c n' c' : Nat) (l l' : List Nat) (w : World) (hl : l.length = n) (hl' : l'.length = n') (hr : RdI w A l) (hr' : RdI w A' l') (hn : n ≤ 140737488355328) (hn' : n' ≤ 140737488355328) :
    Calls Tryd.prog 27 #[.slice A n c, .slice A' n' c'] w (GotBool w (decide (l = l'))) := by
  generalize hQ : GotBool w (decide (l = l')) = Q
  have HQ := Lib.hid hQ
  clear hQ
  by_cases hne : n = n'
  · subst hne
    have hb : ((n : Int) != (n : Int)) = false := by simp
    have HL := Lib.hid hl
    have HL' := Lib.hid hl'
    have HR := Lib.hid hr
    have HR' := Lib.hid hr'
    clear hl hl' hr hr'
    go_enter Tryd.func27, Tryd.ntmps27
    go_wp2_with fail
    go_loopw [5] (fun i wr => ∃ k : Nat, k ≤ n ∧ i = .int .i64 (k : Int) ∧ Hid (l.take k = l'.take k) ∧ Hid (Below w.heap.size w wr)) (fun i _ => n - (intOf i).toNat)
    case atStart => exact ⟨0, Nat.zero_le _, rfl, rfl, Below.refl _ _⟩
    case round =>
      obtain ⟨k, hk, rfl, HP, HB⟩ := hrel
      by_cases hlt : k < n
      · have h1 : k < l.length := by rw [HL.out]; exact hlt
        have h2 : k < l'.length := by rw [HL'.out]; exact hlt
        obtain ⟨ad, hA, hc⟩ := (HR.out.below HB.out) k h1
        obtain ⟨ad', hA', hc'⟩ := (HR'.out.below HB.out) k h2
        subst hA hA'
        have HSAME := Lib.hid (fun hx => take_one HP.out h1 h2 hx)
        have HDIFF := Lib.hid (show ¬ l[k] = l'[k] → decide (l = l') = false from fun h => by
          rw [decide_eq_false_iff_not]
          intro e
          subst e
          exact h rfl)
        generalize l[k] = x at *
        generalize l'[k] = y at *
        clear h1 h2
        by_cases hx : x = y
        · have hb2 : (((x : Nat) : Int) != (y : Int)) = false := by simp [hx]
          have HS2 := Lib.hid (HSAME.out hx)
          clear hx HDIFF HSAME
          go_wp2_with fail
          go_quiet (fail)
          go_wp2_with fail
          exact ⟨⟨k + 1, by omega, by go_num, HS2.out, bl_drewN HB.out _⟩, by simp [intOf]; omega⟩
        · have hb2 : (((x : Nat) : Int) != (y : Int)) = true := by simp; omega
          have HS2 := Lib.hid (HDIFF.out hx)
          clear hx HDIFF HSAME
          go_wp2_with fail
          go_quiet (fail)
          go_wp2_with fail
          refine post_is HQ ?_
          rw [HS2.out]
          exact ⟨rfl, bl_drewN HB.out _⟩
      · obtain rfl : k = n := by omega
        have HE := Lib.hid (show decide (l = l') = true from by
          have h := HP.out
          rw [List.take_of_length_le (by rw [HL.out]; exact Nat.le_refl _), List.take_of_length_le (by rw [HL'.out]; exact Nat.le_refl _)] at h
          rw [h]
          simp)
        go_wp2_with fail
        refine post_is HQ ?_
        rw [HE.out]
        exact ⟨rfl, HB.out⟩
  · have hb : ((n : Int) != (n' : Int)) = true := by simp; omega
    have HE := Lib.hid (show decide (l = l') = false from by
      rw [decide_eq_false_iff_not]
      intro e
      subst e
      exact hne (hl.symm.trans hl'))
    clear hne hl hl' hr hr'
    go_enter Tryd.func27, Tryd.ntmps27
    go_wp2_with fail
    refine post_is HQ ?_
    rw [HE.out]
    exact ⟨rfl, Below.refl _ _⟩

def GotI (w : World) (l : List Nat) (e : Ending) (w' : World) : Prop := ∃ v, e = .returned v ∧ OwnI w' w.heap.size v l ∧ Below w.heap.size w w'
set_option maxRecDepth 20000 in
theorem kinds_any (A : Option Addr) (n c : Nat) (l : List Tk) (w : World) (hl : l.length = n) (hr : RdT w A l) (hn : n ≤ 1000000) : Calls Tryd.prog 28 #[.slice A n c] w (GotI w (l.map (·.kind))) := by
  generalize hQ : GotI w (l.map (·.kind)) = Q
  have HQ := Lib.hid hQ
  have HL := Lib.hid hl
  have HR := Lib.hid hr
  clear hQ hl hr
  go_enter Tryd.func28, Tryd.ntmps28
  go_wp2_with fail
  go_loopw [3, 4] (fun v3 v4 wr => ∃ k : Nat, k ≤ n ∧ v4 = .int .i64 (k : Int) ∧ OwnI wr w.heap.size v3 ((l.take k).map (·.kind)) ∧ Below w.heap.size w wr) (fun _ v4 _ => n - (intOf v4).toNat)
  case atStart => exact ⟨0, Nat.zero_le _, rfl, OwnI.nil _ _, Below.refl _ _⟩
  case round =>
    obtain ⟨k, hk, rfl, ho, hb⟩ := hrel
    by_cases hlt : k < n
    · have hkl : k < l.length := by rw [HL.out]; exact hlt
      obtain ⟨ad, hA, q0, q1, q2⟩ := HR.out.below hb k hkl
      subst hA
      have bl : decide (k < n) = true := by simp [hlt]
      have HTK := Lib.hid (show (l.take (k + 1)).map (·.kind) = (l.take k).map (·.kind) ++ [l[k].kind] by rw [List.take_succ_eq_append_getElem hkl, List.map_append]; rfl)
      have hlen : ((l.take k).map (·.kind)).length ≤ 1000000 := by simp; omega
      have HO := Lib.hid ho
      have HB := Lib.hid hb
      have hsz := hb.size
      unfold nv at *
      generalize l[k].kind = x at *
      generalize (l.take k).map (·.kind) = acc at *
      clear q1 q2 ho hb
      go_wp2_with (at_builtin; refine wpList_append_int _ rfl _ _ rfl w.heap.size _ acc rfl (World.ownsRow.alloc HO.out _) ⟨wr.heap.size, 0, none⟩ x rfl (by rw [cell_of_row _ wr.heap.size 0 _ _ _ (heap_alloc_new wr _)]; rfl) hlen (by simp; omega) ?_)
      intro v' w3 ho3 hg3 _
      have HB3 := Lib.hid (bl_grown (bl_alloc HB.out _) hg3 (fun k hk => (World.ownsRow.lt HO.out k hk).1))
      have HO3 := Lib.hid ho3
      have HLT := Lib.hid hlt
      have HMM := Lib.hid (show n - (k + 1) < n - k by omega)
      clear ho3 hg3
      go_wp2_with fail
      go_roundw
      case rel => exact ⟨k + 1, HLT.out, by go_num, by rw [HTK.out]; exact HO3.out, HB3.out⟩
      case measure => have := HMM.out; simpa [intOf, IntWalk.wrap64_in ((k : Int) + 1) ⟨by omega, by omega⟩] using this
    · have hkn : k = n := by omega
      have HE := Lib.hid (show l.take k = l by rw [List.take_of_length_le (by rw [HL.out]; omega)])
      have bl : decide (k < n) = false := by simp; omega
      clear hkn hlt
      rw [HE.out] at ho
      go_wp2_with fail
      exact post_is HQ ⟨_, rfl, ho, hb⟩

/-- What is put in. -/
def sepE : Nat → List UInt8
  | 0 => [32]
  | 1 => [10, 10]
  | 2 => [9]
  | 3 => [35, 32, 114, 101, 109, 97, 114, 107, 32, 59, 10]
  | _ => [13]
theorem sep_gap (j : Nat) : gapST false (sepE j) = some false := by
  match j with
  | 0 => rfl
  | 1 => rfl
  | 2 => rfl
  | 3 => rfl
  | n + 4 => rfl
theorem sep_len (j : Nat) : (sepE j).length ≤ 11 := by
  match j with
  | 0 => decide
  | 1 => decide
  | 2 => decide
  | 3 => decide
  | n + 4 => show ([13] : List UInt8).length ≤ 11; decide
theorem sep_ne (j : Nat) : sepE j ≠ [] := by
  match j with
  | 0 => simp [sepE]
  | 1 => simp [sepE]
  | 2 => simp [sepE]
  | 3 => simp [sepE]
  | n + 4 => simp [sepE]
theorem sep_cells (W : World) (t : TypeId) (j : Nat) (hj : j < 5) : (W.alloc (.cells #[.string ⟨#[32]⟩, .string ⟨#[10, 10]⟩, .string ⟨#[9]⟩, .string ⟨#[35, 32, 114, 101, 109, 97, 114, 107, 32, 59, 10]⟩, .string ⟨#[13]⟩] t)).cell? ⟨W.heap.size, j, none⟩ = some (.string ⟨(sepE j).toArray⟩) := by
  rw [cell_of_row _ W.heap.size j _ _ _ (heap_alloc_new W _)]
  match j, hj with
  | 0, _ => rfl
  | 1, _ => rfl
  | 2, _ => rfl
  | 3, _ => rfl
  | 4, _ => rfl
theorem Cuts.few {p : Nat} {v : List UInt8} {l : List Tk} (h : Cuts p v l) : l.length ≤ v.length := by
  induction h with
  | nil p => simp
  | @word p g u v k l hg hu hv hn ih =>
    have := hu.1
    simp
    omega
theorem cut_few {b : List UInt8} {l : List Tk} (h : cutE b = .ok l) : l.length ≤ b.length := by
  obtain ⟨v, g, y, toks, r', hb, hc, hbe, hg, hres⟩ := cut_form b.length b 0 (Nat.le_refl _)
  have ht : toks = l := by
    rcases hres with ⟨_, h2⟩ | ⟨_, _, h2⟩
    · rw [show cutS b 0 0 false = cutE b from rfl, h] at h2
      injection h2 with h3
      exact h3.symm
    · rw [show cutS b 0 0 false = cutE b from rfl, h] at h2
      cases h2
  subst ht
  have := hc.few
  rw [hb]
  simp
  omega
theorem spread_cut {b : List UInt8} {l : List Tk} (h : cutE b = .ok l) (i : Nat) (hi : i < l.length) (s : List UInt8) (hs : gapST false s = some false) (hne : s ≠ []) :
    ∃ l', cutE (b.take l[i].to ++ s ++ b.drop l[i].to) = .ok l' ∧ l'.map (·.kind) = l.map (·.kind) := by
  obtain ⟨v, g, y, toks, r', hb, hc, hbe, hg, hres⟩ := cut_form b.length b 0 (Nat.le_refl _)
  have ht : y = [] ∧ toks = l := by
    rcases hres with ⟨h1, h2⟩ | ⟨_, _, h2⟩
    · rw [show cutS b 0 0 false = cutE b from rfl, h] at h2
      injection h2 with h3
      exact ⟨h1, h3.symm⟩
    · rw [show cutS b 0 0 false = cutE b from rfl, h] at h2
      cases h2
  obtain ⟨rfl, rfl⟩ := ht
  rw [List.append_nil] at hb hbe
  obtain ⟨v1, u, v2, hv, hf, ht, hu, hc1, hc2, hsep⟩ := hc.split i toks[i] (List.getElem?_eq_getElem hi)
  rw [Nat.zero_add] at hf ht
  have hb2 : b = (v1 ++ u) ++ (v2 ++ g) := by rw [hb, hv]; simp
  have hq : toks[i].to = (v1 ++ u).length := by rw [ht]; simp
  have e1 : b.take toks[i].to = v1 ++ u := by rw [hq, hb2, List.take_left]
  have e2 : b.drop toks[i].to = v2 ++ g := by rw [hq, hb2, List.drop_left]
  have hns : NotLt s := gap_first hs rfl
  have hns2 : NotLt (s ++ (v2 ++ g)) := hns.app (fun e => absurd e hne)
  rw [e1, e2, List.append_assoc]
  unfold cutE
  rw [hc1.run _ (hns2.beh _), gap_run s _ _ _ _ hs]
  have hbg : Beh (toks.drop (i + 1)) g := fun t ht => hbe t (by rw [List.getLast?_drop] at ht; split at ht; · cases ht
                                                                · exact ht)
  have h3 : cutS (v2 ++ g) toks[i].to 0 false = .ok (toks.drop (i + 1)) := by
    rw [hc2.run g hbg]
    have := gap_run g [] (toks[i].to + v2.length) false r' hg
    rw [List.append_nil] at this
    rw [this]
    simp [cutS, CutR.app]
  have h4 := cut_kinds (v2 ++ g) (0 + (v1 ++ u).length + s.length) toks[i].to 0 false
  rw [h3] at h4
  cases h5 : cutS (v2 ++ g) (0 + (v1 ++ u).length + s.length) 0 false with
  | bad p => rw [h5] at h4; simp [CutR.kinds] at h4
  | ok l' =>
    rw [h5] at h4
    simp only [CutR.kinds, Option.some.injEq] at h4
    refine ⟨_, rfl, ?_⟩
    rw [List.map_append, h4, ← List.map_append, List.take_append_drop]


end Go.Proofs.YtlepaciglkodbaaDoor
