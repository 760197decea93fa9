/- The maker of machines: rows that grow, each in memory of its own; what is put behind them, edge by edge; classes of bytes, byte by byte; marks of loops over iterators. -/
import Derived.Test.YtcgfogdfcdndgaaGreatDoorDgKQ
import Derived.RangeFuncLeaves
import Derived.RangeFuncBox
set_option linter.unusedVariables false
set_option linter.unusedSimpArgs false
namespace Go.Proofs.YtcgfogdfcdndgaaGreatDoor
open Go.RowKit

/-- Rows that grow, each in memory of its own. -/
structure GrR (W : World) (b0 gl : Nat) (rt et : TypeId) (sz n : Nat) (sl : Nat → Value) (ln : Nat → Nat) (xs : Nat → List Value) : Prop where
  row : HV W gl rt n sl
  lg : gl < b0
  own : ∀ k, k < n → W.ownsRow b0 et sz (sl k) (ln k) (xs k)
  apart : ∀ k k' q, k < n → k' < n → k ≠ k' → (sl k).ownBlock = some q → (sl k').ownBlock ≠ some q
section
variable {W W' : World} {b0 gl : Nat} {rt et : TypeId} {sz n : Nat} {sl : Nat → Value} {ln ln' : Nat → Nat} {xs xs' : Nat → List Value}
theorem GrR.blk (h : GrR W b0 gl rt et sz n sl ln xs) {k : Nat} (hk : k < n) : ∀ q, (sl k).ownBlock = some q → b0 ≤ q ∧ q < W.heap.size := World.ownsRow.lt (h.own k hk)
theorem GrR.congr (h : GrR W b0 gl rt et sz n sl ln xs) (e1 : ∀ k, k < n → ln k = ln' k) (e2 : ∀ k, k < n → xs k = xs' k) : GrR W b0 gl rt et sz n sl ln' xs' :=
  ⟨h.row, h.lg, fun k hk => by rw [← e1 k hk, ← e2 k hk]; exact h.own k hk, h.apart⟩
theorem GrR.keep (h : GrR W b0 gl rt et sz n sl ln xs) (h1 : W'.heap[gl]? = W.heap[gl]?) (h2 : ∀ k q, k < n → (sl k).ownBlock = some q → W'.heap[q]? = W.heap[q]?) : GrR W' b0 gl rt et sz n sl ln xs :=
  ⟨h.row.keep h1, h.lg, fun k hk => owns_keep (h.own k hk) (fun i hi => h2 k i hk hi), h.apart⟩
theorem GrR.below (h : GrR W b0 gl rt et sz n sl ln xs) (hb : Below W.heap.size W W') : GrR W' b0 gl rt et sz n sl ln xs :=
  h.keep (hb.block gl h.row.lt) (fun k q hk e => hb.block q (h.blk hk q e).2)
theorem GrR.typ (h : GrR W b0 gl rt et sz n sl ln xs) {k : Nat} (hk : k < n) {q : Nat} (e : (sl k).ownBlock = some q) : ∃ cs, W.heap[q]? = some (.cells cs et (0, 0)) := by
  rcases (h.own k hk).2 with ⟨e4, _⟩ | ⟨g4, cap4, cur4, e4, _, hg4, _⟩
  · rw [e4] at e; exact absurd e (own_none q)
  · rw [e4] at e
    obtain rfl : g4 = q := Option.some.inj e
    exact ⟨cur4, hg4⟩
/-- Rows of another kind lie elsewhere. -/
theorem GrR.other {gl2 : Nat} {rt2 et2 : TypeId} {sz2 n2 : Nat} {sl2 : Nat → Value} {ln2 : Nat → Nat} {xs2 : Nat → List Value} (h : GrR W b0 gl rt et sz n sl ln xs) (h2 : GrR W b0 gl2 rt2 et2 sz2 n2 sl2 ln2 xs2) (he : et ≠ et2) (hne : gl ≠ gl2)
    {k : Nat} (hk : k < n2) {v : Value} (hg : W.grownBy W' (sl2 k).ownBlock) : GrR (W'.setCell ⟨gl2, k, none⟩ v) b0 gl rt et sz n sl ln xs := by
  refine h.keep ?_ (fun j q hj e => ?_)
  · rw [set_keep W' gl2 k v gl hne]
    exact hg.block gl h.row.lt (fun e => by have := (h2.blk hk gl e.symm).1; have := h.lg; omega)
  · have hq := h.blk hj q e
    rw [set_keep W' gl2 k v q (fun e2 => by have := h2.lg; omega)]
    exact hg.block q hq.2 (fun e2 => rows_neD he (h.own j hj) (h2.own k hk) q e e2.symm)
set_option maxHeartbeats 1000000 in
/-- One more put behind a row, and stored. -/
theorem GrR.put (h : GrR W b0 gl rt et sz n sl ln xs) (hb : b0 ≤ W.heap.size) (st ty : TypeId) (i : TypeInfo) (z : Value) (bytes : Nat) (ht : Tryz.prog.underlying st = some (.slice et)) (hi : Tryz.prog.info? et = some i) (hz0 : i.zero = some z) (hz1 : i.size = sz) (hz2 : i.bytes = bytes) (hzc : z.cells.size = sz) (hsz : 0 < sz)
    {k : Nat} (hk : k < n) (p : Nat) (news : List Value) (hl : news.length = sz) (hnews : ∀ j u, news[j]? = some u → W.cell? ((⟨p, 0, none⟩ : Addr).add j) = some u) (h1 : ∀ u ∈ news, u.oneCell' = true) (h63 : ln k + 1 ≤ maxLen) (hby : (ln k + 1) * bytes ≤ 140737488355328) :
    ∃ g cap W', (Builtin.append_ #[st, st] ty #[sl k, .slice (some ⟨p, 0, none⟩) 1 1]).run Tryz.prog W = .ok (.slice (some ⟨g, 0, none⟩) (ln k + 1) cap) W' ∧ W'.cell? ⟨gl, k, none⟩ = some (sl k) ∧ W'.frozen? ⟨gl, k, none⟩ = false ∧ W.grownBy W' (sl k).ownBlock ∧
      GrR (W'.setCell ⟨gl, k, none⟩ (.slice (some ⟨g, 0, none⟩) (ln k + 1) cap)) b0 gl rt et sz n (fun j => if j = k then .slice (some ⟨g, 0, none⟩) (ln k + 1) cap else sl j) (fun j => if j = k then ln k + 1 else ln j) (fun j => if j = k then xs k ++ news else xs j) := by
  obtain ⟨g, cap, W', hrun, ho, hg, hat, hlt⟩ := run_append_lies (P := Tryz.prog) W st ty b0 et i z sz bytes ht hi hz0 hz1 hz2 hzc hsz (sl k) (ln k) (xs k) (h.own k hk) ⟨p, 0, none⟩ 1 1 news (by omega) hnews h1 (by omega) h63 hby hb _ rfl
  have hrow : HV W' gl rt n sl := h.row.keep (hg.block gl h.row.lt (fun e => by have := (h.blk hk gl e.symm).1; have := h.lg; omega))
  have hlg := h.lg
  have hset : ∀ q, b0 ≤ q → (W'.setCell ⟨gl, k, none⟩ (.slice (some ⟨g, 0, none⟩) (ln k + 1) cap)).heap[q]? = W'.heap[q]? := fun q hq => set_keep W' gl k _ q (by omega)
  have hgb : b0 ≤ g := by
    rcases hat with e | e
    · exact (h.blk hk g e).1
    · omega
  refine ⟨g, cap, W', hrun, hrow.cell hk, hrow.free k, hg, hrow.put k _, hlg, fun k' hk' => ?_, fun k1 k2 q h1 h2 hne hq hq2 => ?_⟩
  · by_cases e : k' = k
    · subst e
      simp only [if_pos rfl]
      exact owns_keep ho (fun i hi => hset i (World.ownsRow.lt ho i hi).1)
    · simp only [if_neg e]
      refine owns_keep (h.own k' hk') (fun i hi => ?_)
      have hb2 := h.blk hk' i hi
      rw [hset i hb2.1]
      exact hg.block i hb2.2 (fun e2 => h.apart k' k i hk' hk e hi e2.symm)
  · by_cases e1 : k1 = k
    · subst e1
      have e2 : k2 ≠ k1 := fun e => hne e.symm
      simp only [if_pos rfl] at hq
      simp only [if_neg e2] at hq2
      have e3 : g = q := Option.some.inj hq
      subst e3
      rcases hat with e | e
      · exact h.apart k1 k2 g h1 h2 hne e hq2
      · have := (h.blk h2 g hq2).2; omega
    · simp only [if_neg e1] at hq
      by_cases e2 : k2 = k
      · subst e2
        simp only [if_pos rfl] at hq2
        have e3 : g = q := Option.some.inj hq2
        subst e3
        rcases hat with e | e
        · exact h.apart k1 k2 g h1 h2 hne hq e
        · have := (h.blk h1 g hq).2; omega
      · simp only [if_neg e2] at hq2
        exact h.apart k1 k2 q h1 h2 hne hq hq2
end

/-! What is put behind, edge by edge. -/
def Ed.fn (e : Ed) : Nat := e.fr.toNat
theorem fr_fn {S : Nat} {E : List Ed} (h : EdN S E) {e : Ed} (he : e ∈ E) : e.fr = (e.fn : Int) ∧ e.fn < S := by
  obtain ⟨h1, h2, _⟩ := h e he
  unfold Ed.fn
  omega
theorem outs_next (E : List Ed) (i : Nat) (h : i < E.length) (hf : 0 ≤ E[i].fr) (s : Nat) : outsE (E.take (i + 1)) s = if s = E[i].fn then outsE (E.take i) s ++ [E[i]] else outsE (E.take i) s := by
  unfold outsE Ed.fn
  rw [List.take_succ_eq_append_getElem h, List.filter_append]
  by_cases e : s = E[i].fr.toNat
  · rw [if_pos e, List.filter_cons_of_pos (by simp; omega), List.filter_nil]
  · rw [if_neg e, List.filter_cons_of_neg (by simp; omega), List.filter_nil, List.append_nil]
theorem frees_yes (E : List Ed) (i : Nat) (h : i < E.length) (hf : 0 ≤ E[i].fr) (hy : E[i].free = true) (s : Nat) : freesD (E.take (i + 1)) s = if s = E[i].fn then freesD (E.take i) s ++ [E[i].tn] else freesD (E.take i) s := by
  unfold freesD
  rw [outs_next E i h hf s]
  by_cases e : s = E[i].fn
  · rw [if_pos e, if_pos e, List.filter_append, List.filter_cons_of_pos hy]; simp
  · rw [if_neg e, if_neg e]
theorem frees_no (E : List Ed) (i : Nat) (h : i < E.length) (hf : 0 ≤ E[i].fr) (hy : E[i].free = false) (s : Nat) : freesD (E.take (i + 1)) s = freesD (E.take i) s := by
  unfold freesD
  rw [outs_next E i h hf s]
  by_cases e : s = E[i].fn
  · rw [if_pos e, List.filter_append, List.filter_cons_of_neg (by rw [hy]; simp)]; simp
  · rw [if_neg e]
theorem edges_yes (E : List Ed) (i : Nat) (h : i < E.length) (hf : 0 ≤ E[i].fr) (hy : E[i].free = false) (s : Nat) : edgesD (E.take (i + 1)) s = if s = E[i].fn then edgesD (E.take i) s ++ [E[i]] else edgesD (E.take i) s := by
  unfold edgesD
  rw [outs_next E i h hf s]
  by_cases e : s = E[i].fn
  · rw [if_pos e, if_pos e, List.filter_append, List.filter_cons_of_pos (by rw [hy]; rfl)]; simp
  · rw [if_neg e, if_neg e]
theorem edges_no (E : List Ed) (i : Nat) (h : i < E.length) (hf : 0 ≤ E[i].fr) (hy : E[i].free = true) (s : Nat) : edgesD (E.take (i + 1)) s = edgesD (E.take i) s := by
  unfold edgesD
  rw [outs_next E i h hf s]
  by_cases e : s = E[i].fn
  · rw [if_pos e, List.filter_append, List.filter_cons_of_neg (by rw [hy]; simp)]; simp
  · rw [if_neg e]
theorem frees_zero (E : List Ed) (s : Nat) : freesD (E.take 0) s = [] := by simp [freesD, outsE]
theorem edges_zero (E : List Ed) (s : Nat) : edgesD (E.take 0) s = [] := by simp [edgesD, outsE]

/-! Classes of bytes, as they are told one after the other. -/
def clF (E : List Ed) (k c : Nat) : Int := if classE E c < k then (classE E c : Int) else 0
def clJ (E : List Ed) (k : Nat) (L : List Nat) (c : Nat) : Int := if c ∈ L then (k : Int) else clF E k c
theorem mkT_congr {f g : Nat → Int} (t : List Value) (h : ∀ c, c < 256 → f c = g c) : mkT f t = mkT g t := by
  unfold mkT
  rw [List.map_congr_left (fun c hc => by rw [h c (List.mem_range.1 hc)])]
theorem clF_zero (E : List Ed) (c : Nat) : clF E 0 c = 0 := by unfold clF; rw [if_neg (by omega)]
theorem clJ_nil (E : List Ed) (k c : Nat) : clJ E k [] c = clF E k c := by simp [clJ]
theorem clJ_next (E : List Ed) (k : Nat) (L : List Nat) (x c : Nat) : clJ E k (L ++ [x]) c = if c = x then (k : Int) else clJ E k L c := by
  unfold clJ
  by_cases e : c = x
  · subst e; simp
  · simp [e]
theorem clJ_all {E : List Ed} {C : List S4} (h : PartsS E C) (hs : (C.map leS).Pairwise (· ≤ ·)) {k : Nat} (hk : k < C.length) {c : Nat} (hc : c < 256) : clJ E k (elems C[k].f) c = clF E (k + 1) c := by
  unfold clJ clF
  by_cases hm : c ∈ elems C[k].f
  · have e := h.class_at hs hk hc ((mem_elems _ c).1 hm).2
    rw [if_pos hm, if_pos (by omega), e]
  · rw [if_neg hm]
    by_cases hlt : classE E c < k
    · rw [if_pos hlt, if_pos (by omega)]
    · rw [if_neg hlt]
      have hne : classE E c ≠ k := fun e => by
        obtain ⟨s, hs2, hb⟩ := h.all c hc
        obtain ⟨j, hj, rfl⟩ := List.getElem_of_mem hs2
        have e2 := h.class_at hs hj hc hb
        have e3 : j = k := by omega
        subst e3
        exact hm ((mem_elems _ c).2 ⟨hc, hb⟩)
      rw [if_neg (by omega)]
theorem clF_all {E : List Ed} {C : List S4} (h : PartsS E C) (hs : (C.map leS).Pairwise (· ≤ ·)) {c : Nat} (hc : c < 256) : clF E C.length c = (classE E c : Int) := by
  have hl := class_lt E hc
  rw [← h.leasts hs, List.length_map] at hl
  unfold clF
  rw [if_pos hl]

/-! Marks that loops over iterators leave. -/
def marksD (ds : List Nat) : List Deferred := ds.map fun D => { target := .collected D, args := #[] }
/-- All but the marks' blocks stays. -/
structure Shut (ds : List Nat) (w w' : World) : Prop where
  size : w'.heap.size = w.heap.size
  same : ∀ i, i ∉ ds → w'.heap[i]? = w.heap[i]?
  below : ∀ b, b ≤ w.heap.size → (∀ D ∈ ds, b ≤ D) → Below b w w'
theorem leaves_marks {fn : Func} {tmps : Array Value} {R : Ending → World → Prop} {n : Nat} : ∀ (ds : List Nat) (w : World), ds.Nodup → (∀ D ∈ ds, w.heap[D]? = some (.deferred (some []))) →
    (∀ w', Shut ds w w' → ∃ v, (results fn tmps).run Tryz.prog w' = .ok v w' ∧ R (.returned v) w') → LeavesInM Fence.wide n Tryz.prog fn tmps R (marksD ds) .returning w
  | [], w, _, _, h => h w ⟨rfl, fun _ _ => rfl, fun b _ _ => Below.refl b w⟩
  | D :: ds, w, hn, hd, h => by
    obtain ⟨hn1, hn2⟩ := List.nodup_cons.1 hn
    have hD := hd D (by simp)
    have hlt := (Array.getElem?_eq_some_iff.1 hD).1
    have hg := grownBy_putObj' w D (.deferred none)
    have hs : (w.putObj D (.deferred none)).heap.size = w.heap.size := by simp [World.putObj]
    refine ⟨by simp, .inl ⟨D, _, rfl, run_takeDeferred hD, leaves_marks ds _ hn2 (fun D' hD' => ?_) (fun w' hw => h w' ⟨hw.size.trans hs, fun i hi => ?_, fun b hb hb2 => ?_⟩)⟩⟩
    · rw [World.putObj_heap_other (show D' ≠ D from fun e => hn1 (by rw [← e]; exact hD'))]
      exact hd D' (List.mem_cons_of_mem _ hD')
    · rw [hw.same i (fun e => hi (List.mem_cons_of_mem _ e))]
      exact World.putObj_heap_other (show i ≠ D from fun e => hi (by rw [e]; exact List.mem_cons_self))
    · have b1 : Below b w (w.putObj D (.deferred none)) := (Below.refl b w).grown hg hb (fun k e => by cases e; exact hb2 D (by simp))
      have b2 := hw.below b (by rw [hs]; exact hb) (fun D' hD' => hb2 D' (List.mem_cons_of_mem _ hD'))
      exact b1.trans b2

end Go.Proofs.YtcgfogdfcdndgaaGreatDoor
