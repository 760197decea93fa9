/- The maker of machines: stateOf: a state's number, and what is found behind it. -/
import Derived.Test.YtcgfogdfcdndgaaGreatDoorDgCQ
set_option linter.unusedVariables false
set_option linter.unusedSimpArgs false
namespace Go.Proofs.YtcgfogdfcdndgaaGreatDoor
open Go.RowKit Go.Shelf
attribute [local go_sem] Oper.semAt_some

/-! Rows of whole numbers that calls made. -/
def OwnZ (w : World) (base : Nat) (v : Value) (l : List Int) : Prop := w.ownsRow base 3 1 v l.length (l.map (Value.int .i64))
def RowsZ (W : World) (n1 : Nat) (v : Value) (T : List (List Int)) (ex : Nat → Prop) : Prop :=
  ∃ vals : List Value, W.ownsRow n1 23 1 v T.length vals ∧ vals.length = T.length ∧ ∀ i (h : i < T.length), ∃ B m d, vals[i]? = some (.slice B m d) ∧ T[i].length = m ∧ m ≤ d ∧ d ≤ maxLen ∧ RdW W B T[i] ∧
    ∀ ad, B = some ad → n1 ≤ ad.block ∧ ¬ ex ad.block ∧ ∃ cs, W.heap[ad.block]? = some (.cells cs 3 (0, 0))
theorem owns_keep {W W' : World} {base : Nat} {e : TypeId} {s n : Nat} {v : Value} {xs : List Value} (h : W.ownsRow base e s v n xs) (hk : ∀ i, v.ownBlock = some i → W'.heap[i]? = W.heap[i]?) : W'.ownsRow base e s v n xs := by
  refine ⟨h.1, ?_⟩
  rcases h.2 with h0 | ⟨g, cap, cur, e1, hb, hg, r⟩
  · exact Or.inl h0
  · exact Or.inr ⟨g, cap, cur, e1, hb, (hk g (by rw [e1]; rfl)).trans hg, r⟩
theorem cell_keep {W W' : World} {p : Addr} {v : Value} (h : W'.heap[p.block]? = W.heap[p.block]?) (hc : W.cell? p = some v) : W'.cell? p = some v := by
  rw [← hc]
  unfold World.cell?
  rw [h]
theorem RowsZ.keepx {W W' : World} {n1 : Nat} {v : Value} {T : List (List Int)} {ex ex' : Nat → Prop} (h : RowsZ W n1 v T ex) (h1 : ∀ i, v.ownBlock = some i → W'.heap[i]? = W.heap[i]?)
    (h2 : ∀ i cs, n1 ≤ i → i < W.heap.size → ¬ ex i → W.heap[i]? = some (.cells cs 3 (0, 0)) → W'.heap[i]? = W.heap[i]?) (he : ∀ i, i < W.heap.size → ex' i → ex i) : RowsZ W' n1 v T ex' := by
  obtain ⟨vals, a1, a2, a3⟩ := h
  refine ⟨vals, owns_keep a1 h1, a2, fun i hi => ?_⟩
  obtain ⟨B, m, d, y1, y2, y3, y4, y5, y6⟩ := a3 i hi
  refine ⟨B, m, d, y1, y2, y3, y4, fun k hk => ?_, fun ad e => ?_⟩
  · obtain ⟨ad, e, hc⟩ := y5 k hk
    obtain ⟨z1, z2, cs, z3⟩ := y6 ad e
    refine ⟨ad, e, cell_keep (p := ad.add k) ?_ hc⟩
    rw [add_block]
    exact h2 _ cs z1 (Array.getElem?_eq_some_iff.1 z3).1 z2 z3
  · obtain ⟨z1, z2, cs, z3⟩ := y6 ad e
    have hlt := (Array.getElem?_eq_some_iff.1 z3).1
    exact ⟨z1, fun h => z2 (he _ hlt h), cs, (h2 _ cs z1 hlt z2 z3).trans z3⟩
theorem RowsZ.keep {W W' : World} {n1 : Nat} {v : Value} {T : List (List Int)} {ex : Nat → Prop} (h : RowsZ W n1 v T ex) (h1 : ∀ i, v.ownBlock = some i → W'.heap[i]? = W.heap[i]?)
    (h2 : ∀ i cs, n1 ≤ i → i < W.heap.size → ¬ ex i → W.heap[i]? = some (.cells cs 3 (0, 0)) → W'.heap[i]? = W.heap[i]?) : RowsZ W' n1 v T ex := h.keepx h1 h2 (fun _ _ h => h)
theorem rows_neD {w : World} {base base' : Nat} {v u : Value} {e1 e2 : TypeId} {s1 s2 n1 n2 : Nat} {x1 x2 : List Value} (he : e1 ≠ e2) (h : w.ownsRow base e1 s1 v n1 x1) (h' : w.ownsRow base' e2 s2 u n2 x2) : ∀ i, v.ownBlock = some i → u.ownBlock ≠ some i := fun i e e' => by
  rcases h.2 with ⟨rfl, _⟩ | ⟨g, cap, cur, rfl, _, hg, _⟩
  · simp [Value.ownBlock] at e
  · obtain rfl : g = i := Option.some.inj e
    rcases h'.2 with ⟨rfl, _⟩ | ⟨g', cap', cur', rfl, _, hg', _⟩
    · simp [Value.ownBlock] at e'
    · obtain rfl : g' = g := Option.some.inj e'
      rw [hg] at hg'
      have := Option.some.inj hg'
      injection this with _ h1 _
      exact he h1
theorem RowsZ.row {W : World} {n1 : Nat} {v : Value} {T : List (List Int)} {ex : Nat → Prop} (h : RowsZ W n1 v T ex) {i : Nat} (hi : i < T.length) :
    ∃ A n c ad B m d, v = .slice A n c ∧ A = some ad ∧ n = T.length ∧ W.cell? (ad.add i) = some (.slice B m d) ∧ T[i].length = m ∧ m ≤ d ∧ d ≤ maxLen ∧ RdW W B T[i] ∧ (∀ p, B = some p → n1 ≤ p.block ∧ ¬ ex p.block ∧ ∃ cs, W.heap[p.block]? = some (.cells cs 3 (0, 0))) := by
  obtain ⟨vals, a1, a2, a3⟩ := h
  obtain ⟨B, m, d, y1, y2, y3, y4, y5, y6⟩ := a3 i hi
  rcases a1.2 with ⟨_, h0⟩ | ⟨g, cap, cur, e, hb, hg, r⟩
  · omega
  · refine ⟨_, _, cap, ⟨g, 0, none⟩, B, m, d, e, rfl, rfl, ?_, y2, y3, y4, y5, y6⟩
    exact World.ownsRow.cells a1 (g := g) (by rw [e]; rfl) i _ y1
theorem RowsZ.form {W : World} {n1 : Nat} {v : Value} {T : List (List Int)} {ex : Nat → Prop} (h : RowsZ W n1 v T ex) : ∃ A n c, v = .slice A n c ∧ Hid (T.length = n) := by
  obtain ⟨vals, a1, a2, a3⟩ := h
  rcases a1.2 with ⟨e, h0⟩ | ⟨g, cap, cur, e, hb, hg, r⟩
  · exact ⟨none, 0, 0, e, h0⟩
  · exact ⟨_, _, cap, e, rfl⟩
theorem info_ints : (Tryz.prog.info? 23).map (fun i => (i.zero, i.size, i.bytes)) = some (some (.slice none 0 0), 1, 24) := by kernel_rfl

/-! The map of states by their texts. -/
theorem keyedS : Maps.Keyed Tryz.prog 9 := Maps.string_keyed Tryz.underlying9
def keyD (l : List Nat) : Lit := .string (textN l)
def MapD (W : World) (gm : Nat) (F : List (List Nat)) : Prop := ∃ n D, n ≤ F.length + 1 ∧ Maps.IsMap D ∧ W.ownsMap (H := Unit) Tryz.prog 9 (plainElem Tryz.prog 3) gm n D ∧
  ∀ l, (∀ x ∈ l, x < 65536) → Maps.has D (keyD l) = decide (l = [] ∨ l ∈ F) ∧ D.atKey (keyD l) (.lit (.int .i64 0)) = .lit (.int .i64 (if l = [] ∨ l ∈ F then valD F l else 0))
theorem key_text (l : List Nat) (hl : l.length ≤ 100000) : keyOf Tryz.prog 9 (.string ⟨(textN l).toArray⟩) = some (keyD l) := by
  have h := WideMaps.keyOf_string_mk Tryz.underlying9 (s := ⟨(textN l).toArray⟩) (by have := textN_len l; simp [ByteArray.size, maxLen]; omega)
  simpa [keyD] using h
theorem MapD.grown {W W' : World} {gm : Nat} {F : List (List Nat)} {r : Option Nat} (h : MapD W gm F) (hg : W.grownBy W' r) (hr : some gm ≠ r) : MapD W' gm F := by
  obtain ⟨n, D, h1, h2, h3, h4⟩ := h
  exact ⟨n, D, h1, h2, h3.kept hg hr, h4⟩
theorem MapD.put {W : World} {gm : Nat} {F : List (List Nat)} (h : MapD W gm F) {l : List Nat} (hl : ∀ x ∈ l, x < 65536) (hlen : l.length ≤ 100000) (hne : l ≠ []) (hF : l ∉ F) (hFl : F.length ≤ 100000) :
    ∃ W', (Instr.mapUpdate 61 (.map (some gm)) (.string ⟨(textN l).toArray⟩) (.int .i64 (F.length : Int))).run Tryz.prog W = .ok () W' ∧ MapD W' gm (F ++ [l]) ∧ W.grownBy W' (some gm) := by
  obtain ⟨n, D, hn, hm, ho, hf⟩ := h
  have hw : (Lit.int .i64 (F.length : Int)).wf = true := by simp [Lit.wf, IntKind.min, IntKind.max, IntKind.signed, IntKind.bits]; omega
  obtain ⟨W', hrun, ho', hg⟩ := ho.update keyedS Tryz.underlying61 (by simp [maxLen]; omega) (key_text l hlen) (plainElem_int Tryz.underlying3 hw)
  refine ⟨W', hrun, ⟨n + 1, _, by rw [List.length_append, List.length_singleton]; omega, hm.put _ _, ho', fun t ht => ?_⟩, hg⟩
  have hkl : WideAt.IsKeyLit (keyD l) := by exact trivial
  by_cases htl : t = l
  · subst htl
    rw [Maps.has_put_same hm hkl, Maps.atKey_put_same hm hkl]
    refine ⟨by simp, ?_⟩
    rw [if_pos (Or.inr (by simp)), valD, if_neg hne, List.idxOf_append, if_neg hF]
    simp
  · have hk : keyD t ≠ keyD l := fun e => htl (textN_inj t l ht hl (by unfold keyD at e; injection e))
    obtain ⟨h1, h2⟩ := hf t ht
    rw [Maps.has_put_other hk, Maps.atKey_put_other hk, h1, h2]
    have hmem : (t = [] ∨ t ∈ F ++ [l]) ↔ (t = [] ∨ t ∈ F) := by simp [htl]
    refine ⟨by simp only [hmem], ?_⟩
    by_cases hc : t = [] ∨ t ∈ F
    · rw [if_pos hc, if_pos (hmem.2 hc), val_pre (List.prefix_append F [l]) hc]
    · rw [if_neg hc, if_neg (fun h => hc (hmem.1 h))]

theorem MapD.keep {W W' : World} {gm : Nat} {F : List (List Nat)} (h : MapD W gm F) (hk : W'.heap[gm]? = W.heap[gm]?) : MapD W' gm F := by
  obtain ⟨n, D, h1, h2, ⟨es, clock, hb, r⟩, h4⟩ := h
  exact ⟨n, D, h1, h2, ⟨es, clock, hk.trans hb, r⟩, h4⟩
set_option maxRecDepth 20000 in
theorem zero_int2 (w : World) : (zeroValue 3).run Tryz.prog w = .ok (.int .i64 0) w := by kernel_rfl
theorem MapD.look {W : World} {gm : Nat} {F : List (List Nat)} (h : MapD W gm F) {l : List Nat} (hl : ∀ x ∈ l, x < 65536) (hlen : l.length ≤ 100000) :
    (Instr.lookup 61 (.map (some gm)) (.string ⟨(textN l).toArray⟩) true).run Tryz.prog W = .ok (.tuple #[.int .i64 (if l = [] ∨ l ∈ F then valD F l else 0), .bool (decide (l = [] ∨ l ∈ F))]) W := by
  obtain ⟨n, D, _, _, ho, hf⟩ := h
  obtain ⟨v, ps, hrun, hv⟩ := ho.look_ok keyedS Tryz.underlying61 (zero_int2 W) (zd := .lit (.int .i64 0)) (zp := []) (plainElem_int Tryz.underlying3 (by decide)) (key_text l hlen)
  obtain ⟨h1, h2⟩ := hf l hl
  obtain ⟨c, rfl, hc, _⟩ := plainElem_int_inv Tryz.underlying3 hv
  have e2 : D.atKey (keyD l) (.lit (.int .i64 0)) = .lit (.int .i64 c) := congrArg Prod.fst hc
  rw [h2] at e2
  have e3 := (Lit.int.inj (DataW.lit.inj e2)).2
  rw [hrun, h1, ← e3]

/-- All that the maker is while it makes: what the map, what is found, and what rules are told of. -/
structure MkW (W0 W1 : World) (n1 g gm gr S : Nat) (cl : Nat → Int) (X : List Int) (ex0 : Nat → Prop) (m : Mv) (rd : Nat) (FM FF FR : List (List Nat)) (T : List (List Int)) (W : World) : Prop where
  mr : ∃ f, MkR W0 W1 n1 g gm gr S cl m rd f W ∧ ∀ s, s < S → f s ≤ rd
  map : MapD W gm FM
  fo : RowsZ W n1 m.fo (FF.map zl) (fun i => m.ru.ownBlock = some i ∨ ex0 i)
  ru : OwnZ W n1 m.ru (rulesD FR X)
  nx : RowsZ W n1 m.nx T (fun i => m.ru.ownBlock = some i ∨ ex0 i)
  ap : ∀ i, m.fo.ownBlock = some i → m.nx.ownBlock ≠ some i
section
variable {W0 W1 W W' : World} {n1 g gm gr S : Nat} {cl : Nat → Int} {X : List Int} {ex0 : Nat → Prop} {m : Mv} {rd rd' : Nat} {FM FF FR : List (List Nat)} {T : List (List Int)}
theorem RowsZ.own {v : Value} {T : List (List Int)} {ex : Nat → Prop} (h : RowsZ W n1 v T ex) : ∀ i, v.ownBlock = some i → n1 ≤ i ∧ i < W.heap.size := by
  obtain ⟨vals, a1, _⟩ := h
  exact World.ownsRow.lt a1
theorem OwnZ.own {v : Value} {l : List Int} (h : OwnZ W n1 v l) : ∀ i, v.ownBlock = some i → n1 ≤ i ∧ i < W.heap.size := World.ownsRow.lt h
/-- It stays where nothing of it turns but what the maker's own cells and marks tell. -/
theorem MkW.keep (h : MkW W0 W1 n1 g gm gr S cl X ex0 m rd FM FF FR T W) (hk : ∀ i, n1 ≤ i → i < W.heap.size → W'.heap[i]? = W.heap[i]?) (hmap : W'.heap[gm]? = W.heap[gm]?)
    (hmk : ∃ f, MkR W0 W1 n1 g gm gr S cl m rd' f W' ∧ ∀ s, s < S → f s ≤ rd') : MkW W0 W1 n1 g gm gr S cl X ex0 m rd' FM FF FR T W' :=
  ⟨hmk, h.map.keep hmap, h.fo.keep (fun i hi => hk i (h.fo.own i hi).1 (h.fo.own i hi).2) (fun i cs h1 h2 _ _ => hk i h1 h2), owns_keep h.ru (fun i hi => hk i (OwnZ.own h.ru i hi).1 (OwnZ.own h.ru i hi).2),
    h.nx.keep (fun i hi => hk i (h.nx.own i hi).1 (h.nx.own i hi).2) (fun i cs h1 h2 _ _ => hk i h1 h2), h.ap⟩
theorem MkW.below (h : MkW W0 W1 n1 g gm gr S cl X ex0 m rd FM FF FR T W) (pl : Pl W0 n1 g gm gr S) (hb : Below W.heap.size W W') : MkW W0 W1 n1 g gm gr S cl X ex0 m rd FM FF FR T W' := by
  obtain ⟨f, hm, hf⟩ := h.mr
  exact h.keep (fun i _ hi => hb.block i hi) (hb.block gm (by have := hm.kp.size; have := pl.um; omega)) ⟨f, hm.grown pl (grown_of_below hb none) (fun i e => by cases e), hf⟩
theorem MkW.drew (h : MkW W0 W1 n1 g gm gr S cl X ex0 m rd FM FF FR T W) : MkW W0 W1 n1 g gm gr S cl X ex0 m rd FM FF FR T W.drew := by
  obtain ⟨f, hm, hf⟩ := h.mr
  exact h.keep (fun i _ hi => rfl) rfl ⟨f, hm.drew, hf⟩
theorem MkW.putmap (h : MkW W0 W1 n1 g gm gr S cl X ex0 m rd FM FF FR T W) (pl : Pl W0 n1 g gm gr S) {FM' : List (List Nat)} (hg : W.grownBy W' (some gm)) (hm' : MapD W' gm FM') : MkW W0 W1 n1 g gm gr S cl X ex0 m rd FM' FF FR T W' := by
  obtain ⟨f, hm, hf⟩ := h.mr
  have hs := hm.kp.size
  have kp : ∀ i, i < W.heap.size → i ≠ gm → W'.heap[i]? = W.heap[i]? := fun i hi hne => hg.block i hi (fun e => hne (Option.some.inj e))
  have hm2 : MkR W0 W1 n1 g gm gr S cl m rd f W' := ⟨(kp g (by have := pl.ug; omega) pl.gm_ne).trans hm.cells, (kp gr (by have := pl.ur; omega) (fun e => pl.mr_ne e.symm)).trans hm.rea, ⟨Nat.le_trans hs hg.size, fun i hi h1 h2 h3 => (kp i (by omega) h2).trans (hm.kp.keep i hi h1 h2 h3)⟩, bl_grown hm.low hg (fun i e => by cases e; exact pl.lm)⟩
  have hum := pl.um
  refine ⟨⟨f, hm2, hf⟩, hm', h.fo.keep (fun i hi => kp i (h.fo.own i hi).2 (by have := (h.fo.own i hi).1; omega)) (fun i cs h1 h2 _ _ => kp i h2 (by omega)), owns_keep h.ru (fun i hi => kp i (OwnZ.own h.ru i hi).2 (by have := (OwnZ.own h.ru i hi).1; omega)), h.nx.keep (fun i hi => kp i (h.nx.own i hi).2 (by have := (h.nx.own i hi).1; omega)) (fun i cs h1 h2 _ _ => kp i h2 (by omega)), h.ap⟩
/-- A row is put behind rows. -/
theorem RowsZ.snoc {v v' : Value} {T : List (List Int)} {ex ex' : Nat → Prop} {vals : List Value} (a1 : W.ownsRow n1 23 1 v T.length vals) (a2 : vals.length = T.length)
    (a3 : ∀ i (h : i < T.length), ∃ B m d, vals[i]? = some (.slice B m d) ∧ T[i].length = m ∧ m ≤ d ∧ d ≤ maxLen ∧ RdW W B T[i] ∧ ∀ ad, B = some ad → n1 ≤ ad.block ∧ ¬ ex ad.block ∧ ∃ cs, W.heap[ad.block]? = some (.cells cs 3 (0, 0)))
    (hg : W.grownBy W' v.ownBlock) {B : Option Addr} {k d : Nat} {x : List Int} (ho : W'.ownsRow n1 23 1 v' (T.length + 1) (vals ++ [.slice B k d])) (hx1 : x.length = k) (hx2 : k ≤ d) (hx3 : d ≤ maxLen) (hx4 : RdW W' B x)
    (hx5 : ∀ ad, B = some ad → n1 ≤ ad.block ∧ ¬ ex' ad.block ∧ ∃ cs, W'.heap[ad.block]? = some (.cells cs 3 (0, 0))) (hex : ∀ i, i < W.heap.size → ex' i → ex i) : RowsZ W' n1 v' (T ++ [x]) ex' := by
  refine ⟨vals ++ [.slice B k d], by rw [List.length_append, List.length_singleton]; exact ho, by simp [a2], fun i hi => ?_⟩
  have hvt : ∀ i cs, v.ownBlock = some i → W.heap[i]? ≠ some (.cells cs 3 (0, 0)) := fun i cs hv hc => by
    rcases a1.2 with ⟨e, _⟩ | ⟨g, cap, cur, e, _, hgb, _⟩
    · rw [e] at hv
      exact own_none i hv
    · rw [e] at hv
      obtain rfl : g = i := Option.some.inj hv
      rw [hgb] at hc
      injection hc with hc
      injection hc with _ hc _
      exact absurd hc (by decide)
  by_cases hik : i < T.length
  · obtain ⟨B', m', d', y1, y2, y3, y4, y5, y6⟩ := a3 i hik
    have kpb : ∀ ad, B' = some ad → W'.heap[ad.block]? = W.heap[ad.block]? := fun ad e => by
      obtain ⟨z1, z2, cs, z3⟩ := y6 ad e
      exact hg.block _ (Array.getElem?_eq_some_iff.1 z3).1 (fun e2 => hvt _ cs e2.symm z3)
    refine ⟨B', m', d', by rw [List.getElem?_append_left (by rw [a2]; exact hik)]; exact y1, by rw [List.getElem_append_left hik]; exact y2, y3, y4, ?_, fun ad e => ?_⟩
    · rw [List.getElem_append_left hik]
      intro q hq
      obtain ⟨ad, e, hc⟩ := y5 q hq
      exact ⟨ad, e, cell_keep (p := ad.add q) (by rw [add_block]; exact kpb ad e) hc⟩
    · obtain ⟨z1, z2, cs, z3⟩ := y6 ad e
      exact ⟨z1, fun h => z2 (hex _ (Array.getElem?_eq_some_iff.1 z3).1 h), cs, (kpb ad e).trans z3⟩
  · obtain rfl : i = T.length := by rw [List.length_append, List.length_singleton] at hi; omega
    refine ⟨B, k, d, by rw [List.getElem?_append_right (by rw [a2]; exact Nat.le_refl _), a2, Nat.sub_self]; rfl, by simp; exact hx1, hx2, hx3, ?_, hx5⟩
    simp only [List.getElem_append_right (Nat.le_refl _), Nat.sub_self, List.getElem_cons_zero]
    exact hx4
theorem RowsZ.set {v : Value} {T : List (List Int)} {ex : Nat → Prop} (h : RowsZ W n1 v T ex) {i : Nat} (hi : i < n1) (j : Nat) (x : Value) : RowsZ (W.setCell ⟨i, j, none⟩ x) n1 v T ex :=
  h.keep (fun q hq => Below.heap_setCell _ _ _ _ (fun e => by have := (h.own q hq).1; have e2 : q = i := e; omega)) (fun q cs h1 h2 _ _ => Below.heap_setCell _ _ _ _ (fun e => by have e2 : q = i := e; omega))
theorem set_keep (W : World) (i j : Nat) (x : Value) : ∀ q, q ≠ i → (W.setCell ⟨i, j, none⟩ x).heap[q]? = W.heap[q]? := fun q hq => Below.heap_setCell _ _ _ _ (fun e => hq e)
theorem MkW.ex {ex1 : Nat → Prop} (h : MkW W0 W1 n1 g gm gr S cl X ex0 m rd FM FF FR T W) (he : ∀ i, i < W.heap.size → ex1 i → ex0 i) : MkW W0 W1 n1 g gm gr S cl X ex1 m rd FM FF FR T W := by
  have he2 : ∀ i, i < W.heap.size → (m.ru.ownBlock = some i ∨ ex1 i) → (m.ru.ownBlock = some i ∨ ex0 i) := fun i hi e => e.elim Or.inl (fun e => Or.inr (he i hi e))
  exact ⟨h.mr, h.map, h.fo.keepx (fun _ _ => rfl) (fun _ _ _ _ _ _ => rfl) he2, h.ru, h.nx.keepx (fun _ _ => rfl) (fun _ _ _ _ _ _ => rfl) he2, h.ap⟩
/-- A block of another's is written. -/
theorem MkW.other (h : MkW W0 W1 n1 g gm gr S cl X ex0 m rd FM FF FR T W) (pl : Pl W0 n1 g gm gr S) {q j : Nat} {v : Value} (hq : n1 ≤ q) (hex : ex0 q) (h1 : m.fo.ownBlock ≠ some q) (h2 : m.ru.ownBlock ≠ some q) (h3 : m.nx.ownBlock ≠ some q) : MkW W0 W1 n1 g gm gr S cl X ex0 m rd FM FF FR T (W.setCell ⟨q, j, none⟩ v) := by
  obtain ⟨f, hm, hf⟩ := h.mr
  have hg := grown_set W q j v
  have hk := set_keep W q j v
  have hum := pl.um
  exact ⟨⟨f, hm.grown pl hg (fun i e => by cases e; exact hq), hf⟩, h.map.keep (hk gm (by omega)), h.fo.keep (fun i e => hk i (fun e2 => h1 (by rw [← e2]; exact e))) (fun i cs _ _ h5 _ => hk i (fun e2 => h5 (Or.inr (by rw [e2]; exact hex)))),
    owns_keep h.ru (fun i e => hk i (fun e2 => h2 (by rw [← e2]; exact e))), h.nx.keep (fun i e => hk i (fun e2 => h3 (by rw [← e2]; exact e))) (fun i cs _ _ h5 _ => hk i (fun e2 => h5 (Or.inr (by rw [e2]; exact hex)))), h.ap⟩
/-- What is found gets one more. -/
theorem MkW.found (h : MkW W0 W1 n1 g gm gr S cl X ex0 m rd FM FF FR T W) (pl : Pl W0 n1 g gm gr S) {v' : Value} {l : List Nat} (hg : W.grownBy W' m.fo.ownBlock) (ho : RowsZ W' n1 v' (FF.map zl ++ [zl l]) (fun i => m.ru.ownBlock = some i ∨ ex0 i))
    (hat : v'.ownBlock = m.fo.ownBlock ∨ v'.ownBlock = some W.heap.size) : MkW W0 W1 n1 g gm gr S cl X ex0 { m with fo := v' } rd FM (FF ++ [l]) FR T (W'.setCell ⟨g, 262, none⟩ v') := by
  obtain ⟨f, hm, hf⟩ := h.mr
  have hug := pl.ug
  have hum := pl.um
  have hs := hm.kp.size
  have hm2 := hm.grown pl hg (fun i e => (h.fo.own i e).1)
  have hmp := h.map.grown hg (fun e => by have := (h.fo.own gm e.symm).1; omega)
  have ob : ∀ i, m.fo.ownBlock ≠ some i → n1 ≤ i → i < W.heap.size → (W'.setCell ⟨g, 262, none⟩ v').heap[i]? = W.heap[i]? := fun i hne h1 h2 => (set_keep _ _ _ _ i (by omega)).trans (hg.block i h2 (fun e => hne e.symm))
  have tne : ∀ (i : Nat) (cs : Array Value), W.heap[i]? = some (.cells cs 3 (0, 0)) → m.fo.ownBlock ≠ some i := fun i cs hc hv => by
    obtain ⟨vals, a1, _⟩ := h.fo
    rcases a1.2 with ⟨e, _⟩ | ⟨g', cap, cur, e, _, hgb, _⟩
    · rw [e] at hv
      exact own_none i hv
    · rw [e] at hv
      obtain rfl : g' = i := Option.some.inj hv
      rw [hgb] at hc
      injection hc with hc
      injection hc with _ hc _
      exact absurd hc (by decide)
  refine ⟨⟨f, hm2.put pl 6 v' { m with fo := v' } rd rfl, hf⟩, hmp.keep (set_keep _ _ _ _ gm (fun e => pl.gm_ne e.symm)), ?_, ?_, ?_, ?_⟩
  · rw [List.map_append, List.map_singleton]
    exact ho.set hug 262 v'
  · refine owns_keep h.ru (fun i hi => ob i ?_ (OwnZ.own h.ru i hi).1 (OwnZ.own h.ru i hi).2)
    rcases (show W.ownsRow n1 3 1 m.ru _ _ from h.ru).2 with ⟨e, _⟩ | ⟨g', cap, cur, e, _, hgb, _⟩
    · have hi2 : m.ru.ownBlock = some i := hi
      rw [e] at hi2
      exact absurd hi2 (own_none i)
    · have hi2 : m.ru.ownBlock = some i := hi
      rw [e] at hi2
      obtain rfl : g' = i := Option.some.inj hi2
      exact tne _ _ hgb
  · exact h.nx.keep (fun i hi => ob i (fun e => h.ap i e hi) (h.nx.own i hi).1 (h.nx.own i hi).2) (fun i cs h1 h2 _ hc => ob i (tne i cs hc) h1 h2)
  · intro i hi e
    have hi2 : v'.ownBlock = some i := hi
    have e2 : m.nx.ownBlock = some i := e
    rcases hat with h1 | h1
    · exact h.ap i (h1.symm.trans hi2) e2
    · have h3 : some W.heap.size = some i := h1.symm.trans hi2
      have := Option.some.inj h3
      have := (h.nx.own i e2).2
      omega
/-- Rules get one more. -/
theorem MkW.ruled (h : MkW W0 W1 n1 g gm gr S cl X ex0 m rd FM FF FR T W) (pl : Pl W0 n1 g gm gr S) {v' : Value} {l : List Nat} (hg : W.grownBy W' m.ru.ownBlock) (ho : OwnZ W' n1 v' (rulesD FR X ++ [idxE l X 0]))
    (hat : v'.ownBlock = m.ru.ownBlock ∨ v'.ownBlock = some W.heap.size) : MkW W0 W1 n1 g gm gr S cl X ex0 { m with ru := v' } rd FM FF (FR ++ [l]) T (W'.setCell ⟨g, 257, none⟩ v') := by
  obtain ⟨f, hm, hf⟩ := h.mr
  have hug := pl.ug
  have hum := pl.um
  have hs := hm.kp.size
  have hm2 := hm.grown pl hg (fun i e => (OwnZ.own h.ru i e).1)
  have hmp := h.map.grown hg (fun e => by have := (OwnZ.own h.ru gm e.symm).1; omega)
  have ob : ∀ i, m.ru.ownBlock ≠ some i → n1 ≤ i → i < W.heap.size → (W'.setCell ⟨g, 257, none⟩ v').heap[i]? = W.heap[i]? := fun i hne h1 h2 => (set_keep _ _ _ _ i (by omega)).trans (hg.block i h2 (fun e => hne e.symm))
  have tne : ∀ (v : Value) (T' : List (List Int)) (ex : Nat → Prop), RowsZ W n1 v T' ex → ∀ i, v.ownBlock = some i → m.ru.ownBlock ≠ some i := fun v T' ex hr i hv hu => by
    obtain ⟨vals, a1, _⟩ := hr
    exact rows_neD (by decide) a1 (show W.ownsRow n1 3 1 m.ru _ _ from h.ru) i hv hu
  have exn : ∀ i, i < W.heap.size → (v'.ownBlock = some i ∨ ex0 i) → (m.ru.ownBlock = some i ∨ ex0 i) := fun i hi e => by
    rcases e with e | e
    · rcases hat with h1 | h1
      · exact Or.inl (h1.symm.trans e)
      · have := Option.some.inj (h1.symm.trans e)
        omega
    · exact Or.inr e
  refine ⟨⟨f, hm2.put pl 1 v' { m with ru := v' } rd rfl, hf⟩, hmp.keep (set_keep _ _ _ _ gm (fun e => pl.gm_ne e.symm)), ?_, ?_, ?_, h.ap⟩
  · exact h.fo.keepx (fun i hi => ob i (tne _ _ _ h.fo i hi) (h.fo.own i hi).1 (h.fo.own i hi).2) (fun i cs h1 h2 h3 hc => ob i (fun e => h3 (Or.inl e)) h1 h2) exn
  · show OwnZ _ n1 v' (rulesD (FR ++ [l]) X)
    have e : rulesD (FR ++ [l]) X = rulesD FR X ++ [idxE l X 0] := by unfold rulesD; rw [List.map_append]; rfl
    rw [e]
    exact owns_keep ho (fun i hi => set_keep _ _ _ _ i (by have := (OwnZ.own ho i hi).1; omega))
  · exact h.nx.keepx (fun i hi => ob i (tne _ _ _ h.nx i hi) (h.nx.own i hi).1 (h.nx.own i hi).2) (fun i cs h1 h2 h3 hc => ob i (fun e => h3 (Or.inl e)) h1 h2) exn
end

end Go.Proofs.YtcgfogdfcdndgaaGreatDoor
