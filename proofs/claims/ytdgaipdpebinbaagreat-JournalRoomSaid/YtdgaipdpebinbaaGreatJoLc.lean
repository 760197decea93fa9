/- A journal's checkpoint, seen from a law's beginning; rows of slices laid one behind the other. No condition but what each statement names. -/
import Derived.Test.YtdgaipdpebinbaaGreatJoCk
set_option linter.unusedVariables false
set_option linter.unusedSimpArgs false
namespace Go.Proofs.YtdgaipdpebinbaaGreat
open Go.RowKit Go.Maps Go.Shelf Go.Sort

section
variable {w wr : World} {own : Nat → Option Role} {d J cnt kp : Nat} {s : DS} {k m r : Nat}
theorem lies_check (hL : LiesJ w wr own J d s cnt kp) (hR : Run s k m r) (hk : k ≤ 900) (hm : m ≤ 900000) (hr16 : r ≤ 16777216) (hx : rdE s jx = none) (A : Option Addr) (n c : Nat) (l : List BS) (hl : l.length = n) (hr : RdL wr A l) (hn : n ≤ 60) (hs : ∀ b ∈ l, b.length ≤ 1000) (z : Int) (S : DS) (cnt' kp' : Nat) (hz : (((ckE s l).2 : Nat) : Int) = z) (hS : (ckE s l).1 = S) (hc : (if (ckE s l).2 = 0 then n else cnt) = cnt') (hk' : (if (ckE s l).2 = 0 then n else kp) = kp') :
    Calls Tryz.prog 31 #[.pointer (some ⟨J, 0, none⟩), .slice A n c] wr (fun e w' => e = .returned (.int .i64 z) ∧ ∃ own2, LiesJ w w' own2 J d S cnt' kp' ∧ Kept wr w' (jo own J) (jo own2 J)) := by
  subst hz hS hc hk'
  refine (jcheck_any hL.jrn hL.disk hR hk hm hr16 hx A n c l hl hr hn hs).mono ?_
  rintro e w' ⟨he, own2, hD, hK, hJ⟩
  exact ⟨he, own2, hL.next hD hK hJ, hK⟩
end
theorem ck_ok {s : DS} {l : List BS} (h : s.used + (catR 1 l).length ≤ s.room) : ckE s l = (ck4 s (catR 1 l), 0) := by unfold ckE; rw [if_pos h]
theorem ck_no {s : DS} {l : List BS} (h : ¬ s.used + (catR 1 l).length ≤ s.room) : ckE s l = (s, 52) := by unfold ckE; rw [if_neg h]
theorem rowV_own {w' : World} {v : Value} {l : List BS} {base : Nat} {vals : List Value} (ho : w'.ownsRow base 22 1 v l.length vals) (hv : ∀ q (h : q < l.length), ∃ u, vals[q]? = some u ∧ Own w' base u l[q]) : RowV w' v l := by
  rcases ho.2 with ⟨e, hn⟩ | ⟨g, cap, cur, e, hb, hg, hnc, hcm, r⟩
  · exact ⟨none, 0, by rw [e, hn], by omega, by unfold maxLen; omega, fun h => by omega⟩
  · refine ⟨some ⟨g, 0, none⟩, cap, e, hnc, hcm, fun h0 => ⟨_, rfl, fun j hj => ?_⟩⟩
    obtain ⟨u, hu, hou⟩ := hv j hj
    obtain ⟨A, c, rfl, _, _, hr⟩ := hou.shape
    exact ⟨A, c, World.ownsRow.cells ho (g := g) (by rw [e]; rfl) j _ hu, hr⟩
/-- The values that a list of slices has. -/
def RdVals (w : World) (vals : List Value) (l : List BS) : Prop := vals.length = l.length ∧ ∀ j (h : j < l.length), ∃ Aj cj, vals[j]? = some (.slice Aj l[j].length cj) ∧ Rd w Aj l[j]
theorem rdL_vals {w : World} {A : Option Addr} {l : List BS} (h : RdL w A l) : ∃ vals, RdVals w vals l ∧ (0 < l.length → ∃ ad, A = some ad ∧ ∀ j u, vals[j]? = some u → w.cell? (ad.add j) = some u) ∧ ∀ u ∈ vals, u.oneCell' = true := by
  by_cases h0 : 0 < l.length
  · obtain ⟨ad, e, hc⟩ := h h0
    let f : Nat → Value := fun j => (w.cell? (ad.add j)).getD (.slice none 0 0)
    refine ⟨(List.range l.length).map f, ⟨by simp, fun j hj => ?_⟩, fun _ => ⟨ad, e, fun j u hu => ?_⟩, fun u hu => ?_⟩
    · obtain ⟨Aj, cj, h1, h2⟩ := hc j hj
      exact ⟨Aj, cj, by simp [hj, f, h1], h2⟩
    · have hj : j < l.length := by
        have := (List.getElem?_eq_some_iff.1 hu).1
        simpa using this
      obtain ⟨Aj, cj, h1, h2⟩ := hc j hj
      simp [hj, f, h1] at hu
      rw [h1, hu]
    · obtain ⟨j, hj, rfl⟩ := List.mem_map.1 hu
      obtain ⟨Aj, cj, h1, h2⟩ := hc j (by simpa using hj)
      simp [f, h1, Value.oneCell']
  · have hl : l = [] := List.eq_nil_of_length_eq_zero (by omega)
    subst hl
    exact ⟨[], ⟨rfl, fun j hj => by simp at hj⟩, fun h => absurd h (by simp), fun u hu => by simp at hu⟩
theorem RdVals.below {w w' : World} {vals : List Value} {l : List BS} (h : RdVals w vals l) (hb : Below w.heap.size w w') : RdVals w' vals l := ⟨h.1, fun j hj => by
  obtain ⟨Aj, cj, h1, h2⟩ := h.2 j hj
  exact ⟨Aj, cj, h1, h2.below hb⟩⟩
theorem RdVals.app {w : World} {v1 v2 : List Value} {l1 l2 : List BS} (h1 : RdVals w v1 l1) (h2 : RdVals w v2 l2) : RdVals w (v1 ++ v2) (l1 ++ l2) := by
  refine ⟨by rw [List.length_append, List.length_append, h1.1, h2.1], fun j hj => ?_⟩
  by_cases hj1 : j < l1.length
  · obtain ⟨A, c, g1, g2⟩ := h1.2 j hj1
    have e : (l1 ++ l2)[j] = l1[j] := List.getElem_append_left hj1
    rw [e]
    exact ⟨A, c, by rw [List.getElem?_append_left (by rw [h1.1]; exact hj1)]; exact g1, g2⟩
  · have hj2 : j - l1.length < l2.length := by rw [List.length_append] at hj; omega
    obtain ⟨A, c, g1, g2⟩ := h2.2 _ hj2
    have e : (l1 ++ l2)[j] = l2[j - l1.length] := List.getElem_append_right (by omega)
    rw [e]
    exact ⟨A, c, by rw [List.getElem?_append_right (by rw [h1.1]; omega), h1.1]; exact g1, g2⟩
theorem RdVals.row {w : World} {base : Nat} {v : Value} {l : List BS} {vals : List Value} (ho : w.ownsRow base 22 1 v l.length vals) (hv : RdVals w vals l) : RowV w v l := by
  rcases ho.2 with ⟨e, hn⟩ | ⟨g, cap, cur, e, hb, hg, hnc, hcm, r⟩
  · exact ⟨none, 0, by rw [e, hn], by omega, by unfold maxLen; omega, fun h => by omega⟩
  · refine ⟨some ⟨g, 0, none⟩, cap, e, hnc, hcm, fun h0 => ⟨_, rfl, fun j hj => ?_⟩⟩
    obtain ⟨A, c, h1, h2⟩ := hv.2 j hj
    exact ⟨A, c, World.ownsRow.cells ho (g := g) (by rw [e]; rfl) j _ h1, h2⟩
theorem run_append_rows (w : World) (ty : TypeId) (base : Nat) (v : Value) (n : Nat) (xs : List Value) (hown : w.ownsRow base 22 1 v n xs) (A : Option Addr) (m c : Nat) (vals : List Value) (hm : vals.length = m)
    (hv : 0 < m → ∃ ad, A = some ad ∧ ∀ j u, vals[j]? = some u → w.cell? (ad.add j) = some u) (h1 : ∀ u ∈ vals, u.oneCell' = true) (hn : n + m ≤ 100000) (hbase : base ≤ w.heap.size) :
    ∃ v' w', (Builtin.append_ #[27, 27] ty #[v, .slice A m c]).run Tryz.prog w = .ok v' w' ∧ w'.ownsRow base 22 1 v' (n + m) (xs ++ vals) ∧ w.grownBy w' v.ownBlock := by
  obtain ⟨i0, hi, hz0, hz1, hz2⟩ := info_parts info_rows
  rcases A with _ | ad
  · have h0 : m = 0 := by
      by_cases h : 0 < m
      · obtain ⟨ad, e, _⟩ := hv h
        cases e
      · omega
    subst h0
    have hvn : vals = [] := List.eq_nil_of_length_eq_zero hm
    subst hvn
    refine ⟨v, w, ?_, by simpa using hown, World.grownBy.refl w _⟩
    rcases hown.2 with ⟨rfl, _⟩ | ⟨g, cap, cur, rfl, _, _, hnc, _⟩
    · simp [Builtin.append_, run_underlying Tryz.underlying27, sizeOf, typeInfo, hi, Builtin.lenOf, Builtin.firstCells]
    · simp [Builtin.append_, run_underlying Tryz.underlying27, sizeOf, typeInfo, hi, Builtin.lenOf, Builtin.firstCells, hnc, storeCells]
  · obtain ⟨v', w', hr, h2, h3, _, _⟩ := run_append_own_at (P := Tryz.prog) w base 27 ty 22 i0 (.slice none 0 0) 1 24 Tryz.underlying27 hi hz0 hz1 hz2 rfl (by decide) v n xs hown ad m c vals (by omega) (fun j u hu => by
      have hj := (List.getElem?_eq_some_iff.1 hu).1
      obtain ⟨ad', e, hc⟩ := hv (by omega)
      cases e
      exact hc j u hu) h1 (by simp only [maxLen]; omega) (by omega) hbase
    exact ⟨v', w', hr, h2, h3⟩
theorem wpList_append_rows {ops : Array Oper} {rest : List Oper} {o : Oper} {a : Act} {Q : Exit → Act → World → Prop} (w : World) (hgd : o.guard = none) (s x : Operand)
    (ho : o.op = .call { callee := .builtin .append, args := #[s, x], argTypes := #[27, 27] })
    (base : Nat) (v : Value) (n : Nat) (xs : List Value) (hs : a.eval s = v) (hown : w.ownsRow base 22 1 v n xs) (A : Option Addr) (m c : Nat) (vals : List Value) (hx : a.eval x = .slice A m c) (hm : vals.length = m)
    (hv : 0 < m → ∃ ad, A = some ad ∧ ∀ j u, vals[j]? = some u → w.cell? (ad.add j) = some u) (h1 : ∀ u ∈ vals, u.oneCell' = true) (hn : n + m ≤ 100000) (hbase : base ≤ w.heap.size)
    (h : ∀ v' w', w'.ownsRow base 22 1 v' (n + m) (xs ++ vals) → w.grownBy w' v.ownBlock → wpList Tryz.prog ops Q rest (a.put o.dst v') w') :
    wpList Tryz.prog ops Q (o :: rest) a w := by
  refine wpList_plain hgd fun K hK => ?_
  obtain ⟨v', w', hr, h2, h3⟩ := run_append_rows w o.type base v n xs hown A m c vals hm hv h1 hn hbase
  unfold Oper.wp execOp
  simp only [ho, resolve, invoke, builtin, Sem.run_bind, Sem.run_pure, Result.andThen_ok, List.map_toArray, List.map_cons, List.map_nil, hs, hx, hr]
  exact hK _ _ (h v' w' h2 h3)
theorem app_more {s : DS} {k m r : Nat} (hR : Run s k m r) {l : List BS} (b : BS) (h : rdE s jn = some (catR 1 l)) (hroom : m + b.length + 20 ≤ r) :
    rdE (dE s ⟨0, jn, [], recE (l.length + 1) b⟩).1 jx = rdE s jx := by
  have h1 := used_most hR
  exact ((app_or hR.inv b h).1 (by rw [hR.room]; omega)).2.2.2
theorem cat_le {l : List BS} (hl : l.length ≤ 20) (hb : ∀ b ∈ l, b.length ≤ 200) : (catR 1 l).length ≤ 4400 := by
  have key : ∀ k, k ≤ l.length → endE l k ≤ 220 * k := by
    intro k
    induction k with
    | zero => intro _; exact Nat.zero_le _
    | succ k ih =>
      intro hk
      rw [end_more (by omega)]
      have := ih (by omega)
      have := hb l[k] (List.getElem_mem _)
      omega
  have := key l.length (Nat.le_refl _)
  rw [end_all] at this
  omega
/-- A row of bytes, none of it the disk's. -/
def RowO (w : World) (own : Nat → Option Role) (A : Option Addr) (l : List BS) : Prop :=
  0 < l.length → ∃ ad, A = some ad ∧ own ad.block = none ∧ ∀ j (h : j < l.length), ∃ Aj cj, w.cell? (ad.add j) = some (.slice Aj l[j].length cj) ∧ RdO w own Aj l[j]
theorem RowO.kept {w w' : World} {own own' : Nat → Option Role} {A : Option Addr} {l : List BS} (h : RowO w own A l) (hK : Kept w w' own own') : RowO w' own' A l := fun h0 => by
  obtain ⟨ad, e, hf, hc⟩ := h h0
  obtain ⟨A0, c0, h1, _⟩ := hc 0 h0
  have hlt := cell_lt h1
  rw [add_block] at hlt
  refine ⟨ad, e, free_kept hK hlt hf, fun j hj => ?_⟩
  obtain ⟨Aj, cj, h2, h3⟩ := hc j hj
  exact ⟨Aj, cj, cell_kept hK h2 (by rw [add_block]; exact hf), h3.kept hK⟩
theorem RowO.rd {w : World} {own : Nat → Option Role} {A : Option Addr} {l : List BS} (h : RowO w own A l) : RdL w A l := fun h0 => by
  obtain ⟨ad, e, hf, hc⟩ := h h0
  refine ⟨ad, e, fun j hj => ?_⟩
  obtain ⟨Aj, cj, h2, h3⟩ := hc j hj
  exact ⟨Aj, cj, h2, h3.1⟩
/-- Values of slices, none of it the disk's. -/
def ValO (w : World) (own : Nat → Option Role) (vals : List Value) (l : List BS) : Prop := vals.length = l.length ∧ ∀ j (h : j < l.length), ∃ Aj cj, vals[j]? = some (.slice Aj l[j].length cj) ∧ RdO w own Aj l[j]
theorem RdVals.free {w w1 : World} {own : Nat → Option Role} {d : Nat} {s : DS} (hL : Lies w w1 own d s) {vals : List Value} {l : List BS} (h : RdVals w vals l) : ValO w1 own vals l := ⟨h.1, fun j hj => by
  obtain ⟨Aj, cj, h1, h2⟩ := h.2 j hj
  exact ⟨Aj, cj, h1, h2.below hL.below, rd_free hL h2⟩⟩
theorem ValO.app {w : World} {own : Nat → Option Role} {v1 v2 : List Value} {l1 l2 : List BS} (h1 : ValO w own v1 l1) (h2 : ValO w own v2 l2) : ValO w own (v1 ++ v2) (l1 ++ l2) := by
  refine ⟨by rw [List.length_append, List.length_append, h1.1, h2.1], fun j hj => ?_⟩
  by_cases hj1 : j < l1.length
  · obtain ⟨A, c, g1, g2⟩ := h1.2 j hj1
    have e : (l1 ++ l2)[j] = l1[j] := List.getElem_append_left hj1
    rw [e]
    exact ⟨A, c, by rw [List.getElem?_append_left (by rw [h1.1]; exact hj1)]; exact g1, g2⟩
  · have hj2 : j - l1.length < l2.length := by rw [List.length_append] at hj; omega
    obtain ⟨A, c, g1, g2⟩ := h2.2 _ hj2
    have e : (l1 ++ l2)[j] = l2[j - l1.length] := List.getElem_append_right (by omega)
    rw [e]
    exact ⟨A, c, by rw [List.getElem?_append_right (by rw [h1.1]; omega), h1.1]; exact g1, g2⟩
theorem rowO_of {w : World} {own : Nat → Option Role} {base n : Nat} {v : Value} {l : List BS} {vals : List Value} (ho : w.ownsRow base 22 1 v n vals) (hn : n = l.length) (hv : ValO w own vals l) (hb : ∀ b, base ≤ b → own b = none) : ∃ A c, v = .slice A l.length c ∧ RowO w own A l := by
  subst hn
  rcases ho.2 with ⟨e, hn⟩ | ⟨g, cap, cur, e, hbg, hg, hnc, hcm, r⟩
  · exact ⟨none, 0, by rw [e, hn], fun h => by omega⟩
  · refine ⟨some ⟨g, 0, none⟩, cap, e, fun h0 => ⟨_, rfl, hb g hbg, fun j hj => ?_⟩⟩
    obtain ⟨A, c, h1, h2⟩ := hv.2 j hj
    exact ⟨A, c, World.ownsRow.cells ho (g := g) (by rw [e]; rfl) j _ h1, h2⟩
theorem short_app {l m : List BS} (hl : ∀ b ∈ l, b.length ≤ 200) (hm : ∀ b ∈ m, b.length ≤ 200) : short (l ++ m) := fun b hb => by
  rcases List.mem_append.1 hb with h | h
  · have := hl b h; omega
  · have := hm b h; omega
end Go.Proofs.YtdgaipdpebinbaaGreat
