/- The maker of machines: lists: rooms for lists, one behind the other; what is put behind them. -/
import Derived.Test.YtcgfogdfcdndgaaGreatDoorDgHQ
set_option linter.unusedVariables false
set_option linter.unusedSimpArgs false
namespace Go.Proofs.YtcgfogdfcdndgaaGreatDoor
open Go.RowKit
attribute [local go_sem] Oper.semAt_some

/-- n values, by a function. -/
def rowV (n : Nat) (f : Nat → Value) : Array Value := ((List.range n).map f).toArray
theorem rowV_size (n : Nat) (f : Nat → Value) : (rowV n f).size = n := by simp [rowV]
theorem rowV_get (n : Nat) (f : Nat → Value) {j : Nat} (hj : j < n) : (rowV n f)[j]? = some (f j) := by simp [rowV, hj]
theorem rowV_set (n : Nat) (f : Nat → Value) (i : Nat) (x : Value) : (rowV n f).setIfInBounds i x = rowV n (fun j => if j = i then x else f j) := by
  apply Array.ext_getElem?
  intro j
  by_cases hj : j < n
  · by_cases e : i = j
    · subst e
      rw [Array.getElem?_setIfInBounds_self_of_lt (by rw [rowV_size]; exact hj), rowV_get _ _ hj, if_pos rfl]
    · rw [Array.getElem?_setIfInBounds_ne e, rowV_get _ _ hj, rowV_get _ _ hj, if_neg (fun h => e h.symm)]
  · rw [Array.getElem?_eq_none (by simp [rowV_size]; omega), Array.getElem?_eq_none (by rw [rowV_size]; omega)]
theorem rowV_congr (n : Nat) {f g : Nat → Value} (h : ∀ j, j < n → f j = g j) : rowV n f = rowV n g := by
  unfold rowV
  rw [List.map_congr_left (f := f) (g := g) (fun j hj => h j (List.mem_range.1 hj))]
/-- A block of n slices. -/
def HV (w : World) (g : Nat) (t : TypeId) (n : Nat) (f : Nat → Value) : Prop := w.heap[g]? = some (.cells (rowV n f) t (0, 0))
theorem HV.cell {w : World} {g : Nat} {t : TypeId} {n : Nat} {f : Nat → Value} (h : HV w g t n f) {j : Nat} (hj : j < n) : w.cell? ⟨g, j, none⟩ = some (f j) := by
  rw [cell_of_row w g j _ _ _ h, rowV_get _ _ hj]
theorem HV.free {w : World} {g : Nat} {t : TypeId} {n : Nat} {f : Nat → Value} (h : HV w g t n f) (j : Nat) : w.frozen? ⟨g, j, none⟩ = false := frozen_of_row w g j _ _ h
theorem HV.lt {w : World} {g : Nat} {t : TypeId} {n : Nat} {f : Nat → Value} (h : HV w g t n f) : g < w.heap.size := (Array.getElem?_eq_some_iff.1 h).1
theorem HV.put {w : World} {g : Nat} {t : TypeId} {n : Nat} {f : Nat → Value} (h : HV w g t n f) (i : Nat) (x : Value) : HV (w.setCell ⟨g, i, none⟩ x) g t n (fun j => if j = i then x else f j) := by
  unfold HV
  rw [← rowV_set]
  exact heap_setCell_same w g i _ _ _ h
theorem HV.keep {w w' : World} {g : Nat} {t : TypeId} {n : Nat} {f : Nat → Value} (h : HV w g t n f) (hk : w'.heap[g]? = w.heap[g]?) : HV w' g t n f := hk.trans h
set_option maxRecDepth 20000 in
theorem make_rows (t e : TypeId) (ht : Tryz.prog.underlying t = some (.slice e)) (hi5 : (Tryz.prog.info? e).map (fun i => (i.zero, i.size, i.bytes)) = some (some (.slice none 0 0), 1, 24)) (n : Nat) (z : Int) (hz : (n : Int) = z) (hn : n ≤ 1000000) (W : World) :
    (Instr.makeSlice t (.int .i64 z) (.int .i64 z)).run Tryz.prog W = .ok (.slice (some ⟨W.heap.size, 0, none⟩) n n) (W.alloc (.cells (rowV n (fun _ => .slice none 0 0)) e)) := by
  subst hz
  obtain ⟨i, hi, hz, hs, hb⟩ := info_parts hi5
  rw [run_make (P := Tryz.prog) W t e i (.slice none 0 0) ht hi hz .i64 .i64 n n (by omega) (Int.le_refl _) (by rw [hb]; omega) (by omega), hs]
  have e1 : (Value.slice none 0 0).cells = #[Value.slice none 0 0] := rfl
  have e2 : madeCells #[Value.slice none 0 0] n = rowV n (fun _ => .slice none 0 0) := by
    apply Array.ext_getElem?
    intro j
    by_cases hj : j < n
    · rw [rowV_get _ _ hj]
      unfold madeCells
      simp [hj, Nat.mod_one]
    · rw [Array.getElem?_eq_none (by unfold madeCells; simp; omega), Array.getElem?_eq_none (by rw [rowV_size]; omega)]
  rw [e1, Int.toNat_natCast, Nat.mul_one, e2]

/-- A list in its room, or in memory of its own. -/
def EachB (W : World) (b0 ga k : Nat) (v : Value) (l : List Nat) : Prop :=
  (v = .slice (some ⟨ga, k * 8, none⟩) l.length 8 ∧ l.length ≤ 8 ∧ ∀ j (h : j < l.length), W.cell? ⟨ga, k * 8 + j, none⟩ = some (nv l[j])) ∨
    (∃ q c, v = .slice (some ⟨q, 0, none⟩) l.length c ∧ OwnI W b0 v l ∧ q ≠ ga ∧ l.length ≤ c)
theorem EachB.keep {W W' : World} {b0 ga k : Nat} {v : Value} {l : List Nat} (h : EachB W b0 ga k v l) (h1 : ∀ j, j < 8 → W'.cell? ⟨ga, k * 8 + j, none⟩ = W.cell? ⟨ga, k * 8 + j, none⟩) (h2 : ∀ q, v.ownBlock = some q → q ≠ ga → W'.heap[q]? = W.heap[q]?) : EachB W' b0 ga k v l := by
  rcases h with ⟨e, hl, hc⟩ | ⟨q, c, e, ho, hq, hlc⟩
  · exact Or.inl ⟨e, hl, fun j hj => (h1 j (by omega)).trans (hc j hj)⟩
  · refine Or.inr ⟨q, c, e, owns_keep ho (fun i hi => h2 i hi ?_), hq, hlc⟩
    rw [e] at hi
    have : q = i := Option.some.inj hi
    omega
theorem EachB.read {W : World} {b0 ga k : Nat} {v : Value} {l : List Nat} (h : EachB W b0 ga k v l) : ∃ A c, v = .slice A l.length c ∧ l.length ≤ c ∧ RdZ W A l := by
  rcases h with ⟨e, hl, hc⟩ | ⟨q, c, e, ho, hq, hlc⟩
  · exact ⟨_, 8, e, hl, fun j hj => ⟨_, rfl, by rw [addr_mk]; exact hc j hj⟩⟩
  · obtain ⟨A, n, c', e', hln, hnc, _, hz⟩ := ho.form
    have hln2 : l.length = n := hln.out
    subst hln2
    exact ⟨A, c', e', hnc, hz⟩
/-- Lists in their rooms, or in memory of their own. -/
structure Beh (W : World) (b0 gl ga n : Nat) (sl : Nat → Value) (bs : Nat → List Nat) : Prop where
  row : HV W gl 23 n sl
  room : ∃ cs : Array Value, W.heap[ga]? = some (.cells cs 3 (0, 0)) ∧ cs.size = n * 8
  lg : b0 ≤ gl
  la : b0 ≤ ga
  each : ∀ k, k < n → EachB W b0 ga k (sl k) (bs k)
  apart : ∀ k k' q, k < n → k' < n → k ≠ k' → (sl k).ownBlock = some q → q ≠ ga → (sl k').ownBlock ≠ some q
theorem Beh.ne {W : World} {b0 gl ga n : Nat} {sl : Nat → Value} {bs : Nat → List Nat} (h : Beh W b0 gl ga n sl bs) : gl ≠ ga := fun e => by
  obtain ⟨cs, h1, _⟩ := h.room
  have h2 : W.heap[gl]? = some (.cells (rowV n sl) 23 (0, 0)) := h.row
  rw [e, h1] at h2
  injection h2 with h2
  injection h2 with _ h2 _
  exact absurd h2 (by decide)
theorem Beh.blk {W : World} {b0 gl ga n : Nat} {sl : Nat → Value} {bs : Nat → List Nat} (h : Beh W b0 gl ga n sl bs) {k : Nat} (hk : k < n) : ∀ q, (sl k).ownBlock = some q → b0 ≤ q ∧ q < W.heap.size ∧ q ≠ gl := fun q hq => by
  have h2 : W.heap[gl]? = some (.cells (rowV n sl) 23 (0, 0)) := h.row
  obtain ⟨cs, h1, _⟩ := h.room
  rcases h.each k hk with ⟨e, _, _⟩ | ⟨q', c, e, ho, _, _⟩
  · rw [e] at hq
    obtain rfl : ga = q := Option.some.inj hq
    exact ⟨h.la, (Array.getElem?_eq_some_iff.1 h1).1, fun e => h.ne e.symm⟩
  · obtain ⟨b1, b2⟩ := World.ownsRow.lt ho q hq
    refine ⟨b1, b2, fun e3 => ?_⟩
    rcases ho.2 with ⟨e4, _⟩ | ⟨g, cap, cur, e4, _, hg, _⟩
    · rw [e4] at hq; exact own_none q hq
    · rw [e4] at hq
      obtain rfl : g = q := Option.some.inj hq
      rw [e3, h2] at hg
      injection hg with hg
      injection hg with _ hg _
      exact absurd hg (by decide)
/-- All of it stays where nothing from b0 on turns. -/
theorem Beh.keep {W W' : World} {b0 gl ga n : Nat} {sl : Nat → Value} {bs : Nat → List Nat} (h : Beh W b0 gl ga n sl bs) (hk : ∀ i, b0 ≤ i → i < W.heap.size → W'.heap[i]? = W.heap[i]?) : Beh W' b0 gl ga n sl bs := by
  obtain ⟨cs, h1, h2⟩ := h.room
  have hga := hk ga h.la (Array.getElem?_eq_some_iff.1 h1).1
  exact ⟨h.row.keep (hk gl h.lg h.row.lt), ⟨cs, hga.trans h1, h2⟩, h.lg, h.la, fun k hkn => (h.each k hkn).keep (fun j _ => by unfold World.cell?; rw [hga]) (fun q hq _ => hk q (h.blk hkn q hq).1 (h.blk hkn q hq).2.1), h.apart⟩
set_option maxHeartbeats 2000000 in
/-- One more put behind list k, and stored. -/
theorem Beh.put {W : World} {b0 gl ga n : Nat} {sl : Nat → Value} {bs : Nat → List Nat} (h : Beh W b0 gl ga n sl bs) (hb : b0 ≤ W.heap.size) (ty : TypeId) {k : Nat} (hk : k < n) (x : Nat) (p : Nat) (hp : W.cell? ⟨p, 0, none⟩ = some (.int .i64 (x : Int))) (hlen : (bs k).length ≤ 100000000) :
    ∃ v' W', (Builtin.append_ #[23, 23] ty #[sl k, .slice (some ⟨p, 0, none⟩) 1 1]).run Tryz.prog W = .ok v' W' ∧ W'.cell? ⟨gl, k, none⟩ = some (sl k) ∧ W'.frozen? ⟨gl, k, none⟩ = false ∧
      (∃ r, W.grownBy W' r ∧ ∀ i, r = some i → b0 ≤ i ∧ i ≠ gl ∧ ∃ cs, W.heap[i]? = some (.cells cs 3 (0, 0))) ∧ Beh (W'.setCell ⟨gl, k, none⟩ v') b0 gl ga n (fun j => if j = k then v' else sl j) (fun j => if j = k then bs k ++ [x] else bs j) := by
  obtain ⟨i0, hi, hz0, hz1, hz2⟩ := info_parts info_int
  obtain ⟨cs, hga, hcs⟩ := h.room
  have hnews : ∀ j u, [Value.int .i64 (x : Int)][j]? = some u → W.cell? ((⟨p, 0, none⟩ : Addr).add j) = some u := fun j u hu => by
    match j, hu with
    | 0, hu =>
      simp at hu
      subst hu
      exact hp
  have hgal := (Array.getElem?_eq_some_iff.1 hga).1
  -- what holds of any way
  have fin : ∀ v' W' r, W.grownBy W' r → (∀ i, r = some i → b0 ≤ i ∧ i ≠ gl ∧ ∃ cs, W.heap[i]? = some (.cells cs 3 (0, 0))) → (∃ cs', W'.heap[ga]? = some (.cells cs' 3 (0, 0)) ∧ cs'.size = n * 8) →
      EachB W' b0 ga k v' (bs k ++ [x]) → (∀ k', k' < n → k' ≠ k → EachB W' b0 ga k' (sl k') (bs k')) →
      (∀ q, v'.ownBlock = some q → q ≠ ga → (∃ q0, (sl k).ownBlock = some q0 ∧ q0 = q) ∨ W.heap.size ≤ q) → (∀ q, v'.ownBlock = some q → q ≠ gl) →
      W'.cell? ⟨gl, k, none⟩ = some (sl k) ∧ W'.frozen? ⟨gl, k, none⟩ = false ∧ (∃ r, W.grownBy W' r ∧ ∀ i, r = some i → b0 ≤ i ∧ i ≠ gl ∧ ∃ cs, W.heap[i]? = some (.cells cs 3 (0, 0))) ∧ Beh (W'.setCell ⟨gl, k, none⟩ v') b0 gl ga n (fun j => if j = k then v' else sl j) (fun j => if j = k then bs k ++ [x] else bs j) := by
    intro v' W' r hg hr hro he ho hn hvg
    have hrow : HV W' gl 23 n sl := h.row.keep (hg.block gl h.row.lt (fun e => (hr gl e.symm).2.1 rfl))
    have hset : ∀ q, q ≠ gl → (W'.setCell ⟨gl, k, none⟩ v').heap[q]? = W'.heap[q]? := set_keep W' gl k v'
    have hcell : ∀ o, (W'.setCell ⟨gl, k, none⟩ v').cell? ⟨ga, o, none⟩ = W'.cell? ⟨ga, o, none⟩ := fun o => by unfold World.cell?; rw [hset ga (fun e => h.ne e.symm)]
    refine ⟨hrow.cell hk, hrow.free k, ⟨r, hg, hr⟩, hrow.put k v', ?_, h.lg, h.la, fun k' hk' => ?_, fun k1 k2 q h1 h2 hne hq hqa => ?_⟩
    · obtain ⟨cs', c1, c2⟩ := hro
      exact ⟨cs', (hset ga (fun e => h.ne e.symm)).trans c1, c2⟩
    · by_cases e : k' = k
      · subst e
        simp only [if_pos rfl]
        exact he.keep (fun j _ => hcell _) (fun q hq _ => hset q (hvg q hq))
      · simp only [if_neg e]
        exact (ho k' hk' e).keep (fun j _ => hcell _) (fun q hq _ => hset q (h.blk hk' q hq).2.2)
    · by_cases e1 : k1 = k
      · subst e1
        have e2 : k2 ≠ k1 := fun e => hne e.symm
        simp only [if_pos rfl] at hq
        simp only [if_neg e2]
        intro hq2
        rcases hn q hq hqa with ⟨q0, h3, rfl⟩ | h3
        · exact h.apart k1 k2 q0 h1 h2 hne h3 hqa hq2
        · have := (h.blk h2 q hq2).2.1
          omega
      · simp only [if_neg e1] at hq
        by_cases e2 : k2 = k
        · subst e2
          simp only [if_pos rfl]
          intro hq2
          rcases hn q hq2 hqa with ⟨q0, h3, rfl⟩ | h3
          · exact h.apart k1 k2 q0 h1 h2 hne hq hqa h3
          · have := (h.blk h1 q hq).2.1
            omega
        · simp only [if_neg e2]
          exact h.apart k1 k2 q h1 h2 hne hq hqa
  have hk8 : ∀ a b : Nat, a < n → b < n → a ≠ b → ∀ i j, i < 8 → j < 8 → a * 8 + i ≠ b * 8 + j := fun a b _ _ hab i j hi hj => by omega
  rcases h.each k hk with ⟨e, hl8, hc⟩ | ⟨q, c, e, ho, hqa, hlc⟩
  · by_cases hr : (bs k).length + 1 ≤ 8
    · -- there is room
      have hin : k * 8 + (bs k).length < cs.size := by rw [hcs]; omega
      have hrun := run_append_room_cells (P := Tryz.prog) W 23 ty 3 i0 Tryz.underlying23 hi ga (k * 8) (bs k).length 8 ⟨p, 0, none⟩ 1 1 [.int .i64 (x : Int)] (by rw [hz1]; rfl) hnews (by simp [Value.oneCell']) hr
        (fun j hj => by
          have hj0 : j = 0 := by simpa using hj
          subst hj0
          rw [hz1, Nat.mul_one, Nat.add_zero, cell_of_row W ga _ _ _ _ hga]
          simp [hin]) (fun j hj => frozen_of_row W ga _ _ _ hga)
      rw [hz1, Nat.mul_one] at hrun
      have hW : W.setCells ga (k * 8 + (bs k).length) [.int .i64 (x : Int)] = W.setCell ⟨ga, k * 8 + (bs k).length, none⟩ (.int .i64 (x : Int)) := rfl
      rw [hW] at hrun
      have hg := grown_set W ga (k * 8 + (bs k).length) (.int .i64 (x : Int))
      have hnew : (W.setCell ⟨ga, k * 8 + (bs k).length, none⟩ (.int .i64 (x : Int))).heap[ga]? = some (.cells (cs.setIfInBounds (k * 8 + (bs k).length) (.int .i64 (x : Int))) 3 (0, 0)) := heap_setCell_same W ga _ _ _ _ hga
      have hoth : ∀ o, o ≠ k * 8 + (bs k).length → (W.setCell ⟨ga, k * 8 + (bs k).length, none⟩ (.int .i64 (x : Int))).cell? ⟨ga, o, none⟩ = W.cell? ⟨ga, o, none⟩ := fun o hne => by
        rw [cell_of_row _ ga o _ _ _ hnew, cell_of_row W ga o _ _ _ hga, Array.getElem?_setIfInBounds_ne (fun e => hne e.symm)]
      rw [e]
      refine ⟨_, _, hrun, ?_⟩
      have hres := fin (.slice (some ⟨ga, k * 8, none⟩) ((bs k).length + 1) 8) (W.setCell ⟨ga, k * 8 + (bs k).length, none⟩ (.int .i64 (x : Int))) (some ga) hg (fun i e => by cases e; exact ⟨h.la, fun e => h.ne e.symm, cs, hga⟩) ⟨_, hnew, by simp [hcs]⟩
        (Or.inl ⟨by rw [List.length_append]; rfl, by rw [List.length_append]; simpa using hr, fun j hj => by
          by_cases hjl : j < (bs k).length
          · rw [List.getElem_append_left hjl, hoth _ (by omega)]
            exact hc j hjl
          · obtain rfl : j = (bs k).length := by rw [List.length_append, List.length_singleton] at hj; omega
            rw [cell_of_row _ ga _ _ _ _ hnew, Array.getElem?_setIfInBounds_self_of_lt hin]
            simp [nv]⟩)
        (fun k' hk' hne => (h.each k' hk').keep (fun j hj => hoth _ (hk8 k' k hk' hk hne j _ hj (by omega))) (fun q hq hqa => set_keep W ga _ _ q hqa))
        (fun q hq hqa => absurd (Option.some.inj hq).symm hqa) (fun q hq e => h.ne (e.symm.trans (Option.some.inj hq).symm))
      rw [e] at hres
      exact hres
    · -- the room is full
      have hl : (bs k).length = 8 := by omega
      have hrd : ∀ j u, ((bs k).map nv)[j]? = some u → W.cell? ((⟨ga, k * 8, none⟩ : Addr).add j) = some u := fun j u hu => by
        rw [List.getElem?_map] at hu
        obtain ⟨y, hy, rfl⟩ := Option.map_eq_some_iff.1 hu
        obtain ⟨hj, rfl⟩ := List.getElem?_eq_some_iff.1 hy
        rw [addr_mk]
        exact hc j hj
      obtain ⟨v', W', hrun, h1, h2⟩ := run_append_arg_grows (P := Tryz.prog) W 23 ty 3 i0 _ 1 8 Tryz.underlying23 hi hz0 hz1 hz2 (by rfl) (by omega) ⟨ga, k * 8, none⟩ (bs k).length 8 ((bs k).map nv) (by rw [List.length_map, Nat.mul_one]) hrd ⟨p, 0, none⟩ 1 1 [.int .i64 (x : Int)] rfl hnews (by omega) (by simp only [maxLen]; omega) (by omega)
      obtain ⟨q, cap, rfl, hq1, hq2⟩ := h1.form (by omega)
      have hcap : (bs k).length + 1 ≤ cap := by
        rcases h1.2 with ⟨_, h0⟩ | ⟨g', cap', cur, e', _, _, h3, _⟩
        · omega
        · injection e' with _ _ e3
          omega
      have ho1 : OwnI W' b0 (.slice (some ⟨q, 0, none⟩) ((bs k).length + 1) cap) (bs k ++ [x]) := by
        unfold OwnI
        rw [List.length_append, List.length_singleton, List.map_append]
        exact owns_mono h1 hb
      have hgk := h2.block ga hgal (by simp)
      rw [e]
      refine ⟨_, _, hrun, ?_⟩
      have hres := fin _ W' none h2 (fun i e => by cases e) ⟨cs, hgk.trans hga, hcs⟩
        (Or.inr ⟨q, cap, by rw [List.length_append]; rfl, ho1, by omega, by rw [List.length_append]; exact hcap⟩)
        (fun k' hk' hne => (h.each k' hk').keep (fun j hj => by unfold World.cell?; rw [hgk]) (fun q hq hqa => h2.block q (h.blk hk' q hq).2.1 (by simp)))
        (fun q' hq' hqa => Or.inr (by have e4 : q = q' := Option.some.inj hq'; omega)) (fun q' hq' e' => by have e4 : q = q' := Option.some.inj hq'; have := h.row.lt; omega)
      rw [e] at hres
      exact hres
  · -- it has memory of its own
    have hob : (sl k).ownBlock = some q := by rw [e]; rfl
    have hql := h.blk hk q hob
    have htyp : ∃ cs, W.heap[q]? = some (.cells cs 3 (0, 0)) := by
      rcases ho.2 with ⟨e4, _⟩ | ⟨g4, cap4, cur4, e4, _, hg4, _⟩
      · rw [e4] at hob; exact absurd hob (own_none q)
      · rw [e4] at hob
        obtain rfl : g4 = q := Option.some.inj hob
        exact ⟨cur4, hg4⟩
    obtain ⟨g', cap, W', hrun, h2, h3, hat, hlt⟩ := run_append_lies (P := Tryz.prog) W 23 ty b0 3 i0 (.int .i64 0) 1 8 Tryz.underlying23 hi hz0 hz1 hz2 rfl (by omega) (sl k) (bs k).length ((bs k).map nv) ho ⟨p, 0, none⟩ 1 1 [.int .i64 (x : Int)] rfl hnews (by simp [Value.oneCell']) (by omega) (by simp only [maxLen]; omega) (by omega) hb _ rfl
    have ho1 : OwnI W' b0 (.slice (some ⟨g', 0, none⟩) ((bs k).length + 1) cap) (bs k ++ [x]) := by
      unfold OwnI
      rw [List.length_append, List.length_singleton, List.map_append]
      exact h2
    have hcap : (bs k).length + 1 ≤ cap := by
      rcases h2.2 with ⟨_, h0⟩ | ⟨g2, cap', cur, e', _, _, h3, _⟩
      · omega
      · injection e' with _ _ e3
        omega
    rw [hob] at h3 hat
    have hgq : g' = q ∨ g' = W.heap.size := by
      rcases hat with h | h
      · exact Or.inl (Option.some.inj h).symm
      · exact Or.inr h
    have hgk := h3.block ga hgal (fun e => hqa (Option.some.inj e).symm)
    refine ⟨_, _, hrun, ?_⟩
    exact fin _ W' (some q) h3 (fun i e => by cases e; exact ⟨hql.1, hql.2.2, htyp⟩) ⟨cs, hgk.trans hga, hcs⟩
      (Or.inr ⟨g', cap, by rw [List.length_append]; rfl, ho1, by rcases hgq with h | h <;> omega, by rw [List.length_append]; exact hcap⟩)
      (fun k' hk' hne => (h.each k' hk').keep (fun j hj => by unfold World.cell?; rw [hgk]) (fun q' hq' hqa' => h3.block q' (h.blk hk' q' hq').2.1 (fun e => h.apart k k' q hk hk' (fun e => hne e.symm) hob hqa (by rw [← e]; exact hq'))))
      (fun q' hq' hqa' => by
        have e4 : g' = q' := Option.some.inj hq'
        rcases hgq with h | h
        · exact Or.inl ⟨q, hob, by omega⟩
        · exact Or.inr (by omega)) (fun q' hq' e' => by
        have e4 : g' = q' := Option.some.inj hq'
        have := h.row.lt
        rcases hgq with h | h
        · have := hql.2.2; omega
        · omega)
def GotLi (W : World) (n : Nat) (e : Ending) (W' : World) : Prop := ∃ gl ga sl, e = .returned (.slice (some ⟨gl, 0, none⟩) n n) ∧ Beh W' W.heap.size gl ga n sl (fun _ => []) ∧ Below W.heap.size W W'
set_option maxRecDepth 20000 in
set_option maxHeartbeats 2000000 in
theorem lists_any (n : Nat) (hn : n ≤ 256) (W : World) : Calls Tryz.prog 58 #[.int .i64 (n : Int)] W (GotLi W n) := by
  generalize hQ : GotLi W n = Q
  have HQ := Lib.hid hQ
  obtain ⟨n8, h8⟩ : ∃ k, n * 8 = k := ⟨_, rfl⟩
  have hw : IntKind.i64.wrap ((n : Int) * 8) = (n8 : Int) := by rw [IntWalk.i64_in _ (by omega)]; omega
  have hm1 := make_ints n8 (n8 : Int) rfl (by omega) W
  have hm2 := make_rows 31 23 Tryz.underlying31 info_ints n (n : Int) rfl (by omega) (W.alloc (.cells (rowN n8 (fun _ => 0)) 3))
  have K1 := Lib.hid (heap_alloc_new (W.alloc (.cells (rowN n8 (fun _ => 0)) 3)) (.cells (rowV n (fun _ => .slice none 0 0)) 23))
  have B1 := Lib.hid (bl_alloc (bl_alloc (Below.refl W.heap.size W) (.cells (rowN n8 (fun _ => 0)) 3)) (.cells (rowV n (fun _ => .slice none 0 0)) 23))
  have H8 := Lib.hid h8
  clear hQ h8
  go_enter Tryz.func58, Tryz.ntmps58
  go_wp2_with fail
  rw [show (W.alloc (.cells (rowN n8 (fun _ => 0)) 3)).heap.size = W.heap.size + 1 from World.size_alloc _ _] at K1
  have K0 := Lib.hid (show ((W.alloc (.cells (rowN n8 (fun _ => 0)) 3)).alloc (.cells (rowV n (fun _ => .slice none 0 0)) 23)).heap[W.heap.size]? = some (.cells (rowN n8 (fun _ => 0)) 3 (0, 0)) from
    (Below.heap_alloc _ _ _ (by simp)).trans (heap_alloc_new W _))
  generalize (W.alloc (.cells (rowN n8 (fun _ => 0)) 3)).alloc (.cells (rowV n (fun _ => .slice none 0 0)) 23) = w2 at *
  clear hm1 hm2 hw
  go_loopw [13] (fun vi wr => ∃ k : Nat, k ≤ n ∧ vi = .int .i64 (k : Int) ∧ Hid (HV wr (W.heap.size + 1) 23 n (fun j => if j < k then .slice (some ⟨W.heap.size, j * 8, none⟩) 0 8 else .slice none 0 0)) ∧ Hid (wr.heap[W.heap.size]? = some (.cells (rowN n8 (fun _ => 0)) 3 (0, 0))) ∧ Hid (Below W.heap.size W wr)) (fun vi _ => n - (intOf vi).toNat)
  case atStart => exact ⟨0, Nat.zero_le _, rfl, K1.out, K0.out, B1.out⟩
  case round =>
    obtain ⟨k, hk, rfl, HVk, KK, BK⟩ := hrel
    clear K1 K0 B1
    by_cases hlt : k < n
    · obtain ⟨k8, hk8⟩ : ∃ q, k * 8 = q := ⟨_, rfl⟩
      have h8 := H8.out
      have e1 : IntKind.i64.wrap ((k : Int) * 8) = (k8 : Int) := by rw [IntWalk.i64_in _ (by omega)]; omega
      have e2 : IntKind.i64.wrap (((k : Int) + 1) * 8) = ((k8 + 8 : Nat) : Int) := by rw [IntWalk.i64_in _ (by omega)]; omega
      have hcl := HVk.out.cell hlt
      have hfr := HVk.out.free k
      have hb : k8 + 8 ≤ n8 := by omega
      have HK8 := Lib.hid hk8
      clear h8 hk8
      go_wp2_with fail
      have hg := grown_set wr (W.heap.size + 1) k (.slice (some ⟨W.heap.size, k8, none⟩) 0 8)
      refine ⟨⟨k + 1, by omega, by go_num, ?_, (set_keep wr (W.heap.size + 1) k _ W.heap.size (by omega)).trans KK.out, bl_grown BK.out hg (fun i e => by cases e; omega)⟩, by simp [intOf]; omega⟩
      refine (HVk.out.put k (.slice (some ⟨W.heap.size, k8, none⟩) 0 8)).trans ?_
      congr 2
      refine rowV_congr n fun j hj => ?_
      by_cases e : j = k
      · subst e
        rw [if_pos rfl, if_pos (Nat.lt_succ_self j), HK8.out]
      · rw [if_neg e]
        by_cases hjk : j < k
        · rw [if_pos hjk, if_pos (by omega)]
        · rw [if_neg hjk, if_neg (by omega)]
    · obtain rfl : k = n := by omega
      go_wp2_with fail
      refine post_is HQ ⟨W.heap.size + 1, W.heap.size, _, rfl, ⟨HVk.out, ⟨_, KK.out, by rw [rowN_size]; exact H8.out.symm⟩, by omega, Nat.le_refl _, fun j hj => Or.inl ⟨by simp [hj], by simp, fun i hi => absurd hi (by simp)⟩, fun j j' q hj hj' hne hq hqa => ?_⟩, BK.out⟩
      simp only [if_pos hj] at hq
      exact absurd (Option.some.inj hq).symm hqa

end Go.Proofs.YtcgfogdfcdndgaaGreatDoor
