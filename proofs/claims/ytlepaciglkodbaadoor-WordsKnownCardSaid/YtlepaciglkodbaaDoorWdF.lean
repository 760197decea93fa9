/- Words of the grammar language: Cut. No condition. -/
import Derived.Test.YtlepaciglkodbaaDoorWdE
import Derived.Lib.SlBytesConst
import Derived.Maps.AppendAt
import Derived.Deep.Upon
set_option linter.unusedVariables false
set_option linter.unusedSimpArgs false
namespace Go.Proofs.YtlepaciglkodbaaDoor
open Go.RowKit

/-- 'string(b)'. -/
theorem string_of (w : World) (A : Option Addr) (n c : Nat) (l : List UInt8) (hl : l.length = n) (hr : Rd w A l) : (convert 22 9 (.slice A n c)).run Tryd.prog w = .ok (.string ⟨l.toArray⟩) w := by
  subst hl
  rcases A with _ | ad
  · have h0 : l = [] := by
      rcases l with _ | ⟨x, r⟩
      · rfl
      · obtain ⟨ad, h, _⟩ := hr (by simp)
        cases h
    subst h0
    exact run_convert_bytes_nil w _ _ Tryd.underlying22 Tryd.underlying5 0 c _ Tryd.underlying9
  · rw [run_convert_bytes_string w _ _ _ _ _ c Tryd.underlying22 Tryd.underlying5 Tryd.underlying9]
    have hcells : ∀ j u, (l.map bv)[j]? = some u → w.cell? (ad.add j) = some u := by
      intro j u hu
      rw [List.getElem?_map] at hu
      obtain ⟨x, hx, rfl⟩ := Option.map_eq_some_iff.1 hu
      obtain ⟨hj, rfl⟩ := List.getElem?_eq_some_iff.1 hx
      obtain ⟨ad', e, hc⟩ := hr (by omega)
      cases e
      exact hc j hj
    have e : l.map bv = (l.map fun b => (b.toNat : Int)).map (Value.int .u8) := by rw [List.map_map]; rfl
    have hload := run_loadCells_list (P := Tryd.prog) w ad (l.map bv) hcells
    rw [List.length_map, e] at hload
    rw [run_bytesToString w ad l.length c (l.map fun b => (b.toNat : Int)) hload, foldl_push_bytes]
    simp [ByteArray.empty, ByteArray.emptyWithCapacity, Function.comp_def]
    rfl

/-! Words in memory. -/
def nv (n : Nat) : Value := .int .i64 (n : Int)
def cellsK (t : Tk) : List Value := [nv t.kind, nv t.from', nv t.to]
def cellsT (l : List Tk) : List Value := l.flatMap cellsK
/-- A list of words that a call made itself. -/
def OwnT (w : World) (base : Nat) (v : Value) (l : List Tk) : Prop := w.ownsRow base 36 3 v l.length (cellsT l)
/-- A slice that reads as these words. -/
def RdT (w : World) (A : Option Addr) (l : List Tk) : Prop := ∀ i (h : i < l.length), ∃ ad, A = some ad ∧ w.cell? (ad.add (i * 3)) = some (nv l[i].kind) ∧ w.cell? ⟨(ad.add (i * 3)).block, (ad.add (i * 3)).off + 1, none⟩ = some (nv l[i].from') ∧ w.cell? ⟨(ad.add (i * 3)).block, (ad.add (i * 3)).off + 2, none⟩ = some (nv l[i].to)
theorem RdT.below {w w' : World} {A : Option Addr} {l : List Tk} (h : RdT w A l) (hb : Below w.heap.size w w') : RdT w' A l := fun i hi => by
  obtain ⟨ad, e, h1, h2, h3⟩ := h i hi
  have k := fun {p : Addr} {v : Value} (hc : w.cell? p = some v) => (hb.cell (World.block_lt_of_cell? w _ hc)).trans hc
  exact ⟨ad, e, k h1, k h2, k h3⟩
theorem cellsT_len (l : List Tk) : (cellsT l).length = l.length * 3 := by
  induction l with
  | nil => rfl
  | cons t l ih =>
    have : cellsT (t :: l) = cellsK t ++ cellsT l := rfl
    rw [this, List.length_append, ih]
    simp [cellsK]
    omega
theorem cellsT_more (l : List Tk) (t : Tk) : cellsT (l ++ [t]) = cellsT l ++ cellsK t := by unfold cellsT; simp
theorem cellsT_at : ∀ (l : List Tk) (i : Nat) (h : i < l.length) (q : Nat), q < 3 → (cellsT l)[i * 3 + q]? = (cellsK l[i])[q]?
  | [], i, h, q, hq => by simp at h
  | t :: l, 0, h, q, hq => by
    have : cellsT (t :: l) = cellsK t ++ cellsT l := rfl
    rw [this, List.getElem?_append_left (by simp [cellsK]; omega)]
    simp
  | t :: l, i + 1, h, q, hq => by
    have : cellsT (t :: l) = cellsK t ++ cellsT l := rfl
    rw [this, List.getElem?_append_right (by simp [cellsK]; omega)]
    have := cellsT_at l i (by simpa using h) q hq
    simp only [List.getElem_cons_succ]
    rw [← this]
    congr 1
    simp [cellsK]
    omega
theorem OwnT.shape {w : World} {base : Nat} {v : Value} {l : List Tk} (h : OwnT w base v l) : ∃ A n c, v = .slice A n c ∧ Hid (l.length = n) ∧ n ≤ c ∧ c ≤ maxLen ∧ RdT w A l := by
  rcases h.2 with ⟨rfl, hn⟩ | ⟨g, cap, cur, rfl, _, hg, hnc, hcm, hcs, ht⟩
  · exact ⟨none, 0, 0, rfl, hn, by omega, by simp [maxLen], fun i hi => by omega⟩
  · refine ⟨some ⟨g, 0, none⟩, _, cap, rfl, rfl, hnc, hcm, fun i hi => ⟨_, rfl, ?_⟩⟩
    have hc := World.ownsRow.cells h (g := g) rfl
    have h0 := hc (i * 3 + 0) _ (by rw [cellsT_at l i hi 0 (by omega)]; rfl)
    have h1 := hc (i * 3 + 1) _ (by rw [cellsT_at l i hi 1 (by omega)]; rfl)
    have h2 := hc (i * 3 + 2) _ (by rw [cellsT_at l i hi 2 (by omega)]; rfl)
    have e : ∀ q, (⟨g, 0, none⟩ : Addr).add q = ⟨g, q, none⟩ := fun q => by
      unfold Addr.add
      split
      · rename_i h; rw [h]
      · simp
    rw [e] at h0 h1 h2 ⊢
    exact ⟨h0, h1, h2⟩
theorem OwnT.nil (w : World) (base : Nat) : OwnT w base (.slice none 0 0) [] := World.ownsRow_nil _ _ _ _
theorem OwnT.below {w w' : World} {base : Nat} {v : Value} {l : List Tk} (h : OwnT w base v l) (hb : Below w.heap.size w w') : OwnT w' base v l :=
  World.ownsRow.kept h (grown_of_below hb none) (by cases v.ownBlock <;> simp)
theorem OwnT.lt {w : World} {base : Nat} {v : Value} {l : List Tk} (h : OwnT w base v l) : ∀ k, v.ownBlock = some k → base ≤ k ∧ k < w.heap.size := World.ownsRow.lt h
theorem info_tk : (Tryd.prog.info? 36).map (fun i => (i.zero, i.size, i.bytes)) = some (some (.agg #[.int .i64 0, .int .i64 0, .int .i64 0]), 3, 24) := by kernel_rfl
theorem built_tk (k f t : Int) : Tryd.prog.built 36 [(0, Value.int .i64 k), (1, Value.int .i64 f), (2, Value.int .i64 t)] = some #[.int .i64 k, .int .i64 f, .int .i64 t] := by kernel_rfl

/-- append of a word onto words that the call made itself, as a step of a walk. -/
theorem wpList_append_tk {ops : Array Oper} {rest : List Oper} {o : Oper} {a : Act} {Q : Exit → Act → World → Prop} (w : World) (hgd : Region.wanted o (yielded ops a.tmps) = true) (s x : Operand)
    (ho : o.op = .call { callee := .builtin .append, args := #[s, x], argTypes := #[24, 24] })
    (base : Nat) (v : Value) (l : List Tk) (hs : a.eval s = v) (hown : OwnT w base v l) (ad : Addr) (t : Tk) (hx : a.eval x = .slice (some ad) 1 1)
    (hr : ∀ j u, (cellsK t)[j]? = some u → w.cell? (ad.add j) = some u) (hl : l.length ≤ 1000000) (hbase : base ≤ w.heap.size)
    (h : ∀ v' w', OwnT w' base v' (l ++ [t]) → w.grownBy w' v.ownBlock → (v'.ownBlock = v.ownBlock ∨ v'.ownBlock = some w.heap.size) → wpList Tryd.prog ops Q rest (a.put o.dst v') w') :
    wpList Tryd.prog ops Q (o :: rest) a w := by
  refine wpList_step fun K hK => ?_
  rw [if_pos hgd]
  obtain ⟨i, hi, hz, hsz, hby⟩ := info_parts info_tk
  obtain ⟨v', w', hrun, h2, h3, _, h5⟩ := run_append_own_at (P := Tryd.prog) w base 24 o.type 36 i (.agg #[.int .i64 0, .int .i64 0, .int .i64 0]) 3 24 Tryd.underlying24 hi hz hsz hby rfl (by omega) v l.length (cellsT l) hown ad 1 1 (cellsK t) rfl hr
    (fun u hu => by simp [cellsK, nv] at hu; rcases hu with rfl | rfl | rfl <;> rfl) (by simp only [maxLen]; omega) (by omega) hbase
  have h4 : OwnT w' base v' (l ++ [t]) := by
    unfold OwnT
    rw [cellsT_more, List.length_append]
    exact h2
  unfold Oper.wp execOp
  simp only [ho, resolve, invoke, builtin, Sem.run_bind, Sem.run_pure, Result.andThen_ok, List.map_toArray, List.map_cons, List.map_nil, hs, hx, hrun]
  exact hK _ _ (h v' w' h4 h3 h5)

/-- What Cut answers: words, the place, the error. -/
def ansE (b : List UInt8) : List Tk × Nat × Nat := if 8192 < b.length then ([], 0, 5) else match cutE b with
  | .ok l => (l, 0, 0)
  | .bad p => ([], p, 140)
def GotCut (w : World) (r : List Tk × Nat × Nat) (e : Ending) (w' : World) : Prop := ∃ v, e = .returned (.tuple #[v, .int .i64 (r.2.1 : Int), .int .i64 (r.2.2 : Int)]) ∧ OwnT w' w.heap.size v r.1 ∧ Below w.heap.size w w'

theorem first_ne {l : List UInt8} {k n : Nat} (h : firstE l = some (k, n)) : k ≠ 0 := by
  rcases first_kind h with ⟨h, _⟩ | ⟨h, _⟩ | ⟨h, _⟩ | ⟨h | h, _⟩
  · omega
  · omega
  · omega
  · omega
  · omega
theorem cells_one (W : World) (x y z : Value) : ∀ j u, ([x, y, z] : List Value)[j]? = some u → (W.alloc (.cells #[x, y, z] 36)).cell? ((⟨W.heap.size, 0, none⟩ : Addr).add j) = some u := fun j u hu => by
  have hj : j < 3 := by have := (List.getElem?_eq_some_iff.1 hu).1; simpa using this
  have e : (⟨W.heap.size, 0, none⟩ : Addr).add j = ⟨W.heap.size, j, none⟩ := by
    unfold Addr.add
    split
    · rename_i h; rw [h]
    · simp
  rw [e, cell_of_row _ W.heap.size j _ _ _ (heap_alloc_new W _)]
  rw [← hu]
  exact List.getElem?_toArray

set_option maxRecDepth 20000 in
set_option maxHeartbeats 1000000 in
theorem cut_any (A : Option Addr) (n c : Nat) (b : List UInt8) (w : World) (hl : b.length = n) (hr : Rd w A b) (hn : n ≤ maxLen) (hT : Tab w) : Calls Tryd.prog 11 #[.slice A n c] w (GotCut w (ansE b)) := by
  generalize hQ : GotCut w (ansE b) = Q
  unfold ansE at hQ
  by_cases hbig : 8192 < b.length
  · rw [if_pos hbig] at hQ
    have b1 : decide ((8192 : Int) < (n : Int)) = true := by simp; omega
    have HQ := Lib.hid hQ
    clear hQ hbig hl
    go_enter Tryd.func11, Tryd.ntmps11
    go_wp2_with fail
    refine bodyPost_ret (results_tmp3 rfl _ _ _) rfl ?_
    exact post_is HQ ⟨_, rfl, OwnT.nil _ _, Below.refl _ _⟩
  · rw [if_neg hbig] at hQ
    have b1 : decide ((8192 : Int) < (n : Int)) = false := by simp; omega
    have hst := fun W (hb : Below w.heap.size w W) => string_of W A n c b hl (hr.below hb)
    have hst0 := hst w (Below.refl _ _)
    have hlen := fun ty => len_at b #[9] ty rfl
    have hbl : b.length ≤ 8192 := by omega
    have hgap := fun w => gap_any b w (by omega)
    have hgl := gap_le b false
    have hgs := gap_stop b false
    have hcg : cutE b = cutS (b.drop (gapN false b)) (gapN false b) 0 false := by
      unfold cutE
      rw [cut_gap, Nat.zero_add]
    have HQ := Lib.hid hQ
    have HL := Lib.hid hl
    have HCG := Lib.hid hcg
    have HGS := Lib.hid hgs
    have HR := Lib.hid hr
    clear hQ hbig hst hcg hgs hr hl hn
    generalize gapN false b = g0 at *
    go_enter Tryd.func11, Tryd.ntmps11
    go_wp2_with fail
    refine (hgap _).mono ?_
    rintro e w1 ⟨rfl, hb1⟩
    clear hgap
    go_wp2_with fail
    go_loopw [2, 3, 6, 7] (fun v2 v3 _ _ wr => ∃ (p : Nat) (acc : List Tk), v3 = .int .i64 (p : Int) ∧ p ≤ b.length ∧ OwnT wr w.heap.size v2 acc ∧ acc.length ≤ p ∧ Hid (Stop (b.drop p)) ∧ Hid (cutE b = (cutS (b.drop p) p 0 false).app acc) ∧ Below w.heap.size w wr) (fun _ v3 _ _ _ => b.length - (intOf v3).toNat)
    case atStart => exact ⟨g0, [], rfl, hgl, OwnT.nil _ _, by simp, HGS, by unfold Hid; rw [HCG.out, CutR.app_nil], hb1⟩
    case round =>
      obtain ⟨p, acc, rfl, hp, hown, hap, HS, HC, hbw⟩ := hrel
      have hTw := hT.below hbw
      by_cases hlt : p < b.length
      · have bl : decide (p < b.length) = true := by simp [hlt]
        have hfr := from_at b p hp (p : Int) rfl
        have hd := drop_at b p hlt
        have hf := fun w hT => first_any (b.getD p 0) (b.drop (p + 1)) w hT (by simp; omega)
        rw [← hd] at hf
        cases hfi : firstE (b.drop p) with
        | none =>
          rw [hfi] at hf
          have HE : Hid (cutE b = .bad p) := by
            unfold Hid
            rw [HC.out, cut_bad p HS.out (by simp; omega) hfi]
            rfl
          have HB := Lib.hid hbw
          clear hfi hd hbw
          generalize b.drop p = dp at *
          go_wp2_with fail
          refine (hf _ hTw).mono ?_
          rintro e w2 ⟨m, rfl, hb2⟩
          go_wp2_with fail
          refine bodyPost_ret (results_tmp3 rfl _ _ _) rfl ?_
          refine post_is HQ ?_
          rw [HE.out]
          exact ⟨_, rfl, OwnT.nil _ _, bl_trans HB.out hb2⟩
        | some kn =>
          obtain ⟨k, m⟩ := kn
          rw [hfi] at hf
          obtain ⟨hm1, hm2⟩ := first_pos hfi
          rw [List.length_drop] at hm2
          have hk0 := first_ne hfi
          have bk : (((k : Nat) : Int) == 0) = false := by simp; omega
          have HE : Hid (cutE b = (cutS (b.drop (p + m)) (p + m) 0 false).app (acc ++ [⟨k, p, p + m⟩])) := by
            unfold Hid
            rw [HC.out, cut_word p HS.out hfi, CutR.app_app, List.drop_drop]
          have hfr2 := from_at b (p + m) (by omega) ((p : Int) + (m : Int)) (by simp)
          have hgap := fun w => gap_any (b.drop (p + m)) w (by simp; omega)
          have hgl := gap_le (b.drop (p + m)) false
          rw [List.length_drop] at hgl
          have hgs := gap_stop (b.drop (p + m)) false
          rw [List.drop_drop] at hgs
          have HCG : Hid (cutS (b.drop (p + m)) (p + m) 0 false = cutS (b.drop (p + m + gapN false (b.drop (p + m)))) (p + m + gapN false (b.drop (p + m))) 0 false) := by
            unfold Hid
            rw [cut_gap, List.drop_drop]
          have HGS := Lib.hid hgs
          have HB := Lib.hid hbw
          have HOW := Lib.hid hown
          have hbt := fun k f t => built_tk k f t
          clear hfi hd hbw hgs hk0 hown
          generalize gapN false (b.drop (p + m)) = g at *
          generalize hdp : b.drop p = dp at *
          have HE2 : Hid (cutE b = (cutS (b.drop (p + m + g)) (p + m + g) 0 false).app (acc ++ [⟨k, p, p + m⟩])) := by unfold Hid; rw [HE.out, HCG.out]
          generalize hdq : b.drop (p + m) = dq at *
          have HDP := Lib.hid hdp
          have HDQ := Lib.hid hdq
          clear hdp hdq
          go_wp2_with fail
          refine (hf _ hTw).mono ?_
          rintro e w2 ⟨rfl, hb2⟩
          have hown2 := HOW.out.below hb2
          have hsz2 := (bl_trans HB.out hb2).size
          go_wp2_with (at_builtin; refine wpList_append_tk _ rfl _ _ rfl w.heap.size _ acc rfl (World.ownsRow.alloc hown2 _) ⟨w2.heap.size, 0, none⟩ ⟨k, p, p + m⟩ rfl (cells_one _ _ _ _) (by omega) (by simp; omega) ?_)
          intro v' w3 ho3 hg3 _
          have hown3 : OwnT w2 w.heap.size u2 acc := hown2
          have HB3 := Lib.hid (bl_grown (bl_alloc (bl_trans HB.out hb2) _) hg3 (fun k hk => (World.ownsRow.lt hown2 k hk).1))
          clear hown2 hown3
          go_wp2_with fail
          refine (hgap _).mono ?_
          rintro e w4 ⟨rfl, hb4⟩
          have HO4 := Lib.hid (ho3.below hb4)
          clear hgap ho3
          go_wp2_with fail
          go_roundw
          case rel => exact ⟨p + m + g, acc ++ [⟨k, p, p + m⟩], by first | rfl | trivial | (push_cast; rfl), by omega, HO4.out, by simp; omega, HGS, HE2, bl_trans HB3.out hb4⟩
          case measure => simp [intOf]; omega
      · have bl : decide (p < b.length) = false := by simp; omega
        have hpe : b.drop p = [] := List.drop_eq_nil_of_le (by omega)
        have HE : Hid (cutE b = .ok acc) := by
          unfold Hid
          rw [HC.out, hpe]
          simp [cutS, CutR.app]
        clear hpe hlt
        go_wp2_with fail
        refine bodyPost_ret (results_tmp3 rfl _ _ _) rfl ?_
        refine post_is HQ ?_
        rw [HE.out]
        exact ⟨_, rfl, hown, hbw⟩

end Go.Proofs.YtlepaciglkodbaaDoor
