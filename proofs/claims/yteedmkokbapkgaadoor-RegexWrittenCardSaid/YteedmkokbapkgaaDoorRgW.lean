/- A chart of nodes, reckoned node by node, is that of the tree. No program in it. -/
import Derived.Test.YteedmkokbapkgaaDoorRgL
set_option linter.unusedVariables false
set_option linter.unusedSimpArgs false
namespace Go.Proofs.YteedmkokbapkgaaDoor

structure Sp where
  none : Bool
  fir : S4
  las : S4
def nilSp : Sp := ⟨false, nilS, nilS⟩
def spanE (n : RN) (i : Nat) (a b : Sp) : Sp :=
  if n.kind = 2 then ⟨false, oneS i, oneS i⟩
  else if n.kind = 3 then ⟨a.none && b.none, if a.none then orS a.fir b.fir else a.fir, if b.none then orS a.las b.las else b.las⟩
  else if n.kind = 4 then ⟨a.none || b.none, orS a.fir b.fir, orS a.las b.las⟩
  else if n.kind = 5 then ⟨true, a.fir, a.las⟩
  else if n.kind = 6 then a
  else ⟨true, nilS, nilS⟩
def spanB (n : RN) (a b : Sp) (B : Nat → S4) : Nat → S4 :=
  if n.kind = 3 then noteS B a.las b.fir
  else if n.kind = 5 then noteS B a.las a.fir
  else if n.kind = 6 then noteS B a.las a.fir
  else B
/-- Node by node: the spans so far, and what may follow. -/
def chartE : List Sp → (Nat → S4) → List RN → List Sp × (Nat → S4)
  | sps, B, [] => (sps, B)
  | sps, B, n :: l => chartE (sps ++ [spanE n sps.length (sps.getD n.a.toNat nilSp) (sps.getD n.b.toNat nilSp)]) (spanB n (sps.getD n.a.toNat nilSp) (sps.getD n.b.toNat nilSp) B) l
theorem chartE_app : ∀ (l1 : List RN) (sps : List Sp) (B : Nat → S4) (l2 : List RN), chartE sps B (l1 ++ l2) = chartE (chartE sps B l1).1 (chartE sps B l1).2 l2
  | [], sps, B, l2 => rfl
  | n :: l1, sps, B, l2 => by rw [List.cons_append, chartE, chartE, chartE_app l1]
theorem chartE_len : ∀ (l : List RN) (sps : List Sp) (B : Nat → S4), (chartE sps B l).1.length = sps.length + l.length
  | [], sps, B => rfl
  | n :: l, sps, B => by rw [chartE, chartE_len l]; simp; omega
def spOf (k : Nat) (t : Rx) : Sp := ⟨noneT t, firS k t, lasS k t⟩
theorem getD_last_sp (sps xs : List Sp) (x : Sp) (j : Nat) (hj : j + 1 = (sps ++ xs ++ [x]).length) : (sps ++ xs ++ [x]).getD j nilSp = x := by
  have : j = (sps ++ xs).length := by simp at hj ⊢; omega
  subst this
  rw [List.getD_eq_getElem?_getD, List.getElem?_append_right (Nat.le_refl _)]
  simp
/-- Behind a tree's nodes: one span more for each, the last one the tree's. -/
theorem chart_flat (t : Rx) : ∀ (sps : List Sp) (B : Nat → S4), ∃ xs : List Sp, xs.length + 1 = t.size ∧ (chartE sps B (flat sps.length t)) = (sps ++ xs ++ [spOf sps.length t], behS sps.length t B) := by
  induction t with
  | nil =>
    intro sps B
    refine ⟨[], rfl, ?_⟩
    simp [flat, chartE, spanE, spanB, spOf, noneT, firS, lasS, behS]
  | set s =>
    intro sps B
    refine ⟨[], rfl, ?_⟩
    simp [flat, chartE, spanE, spanB, spOf, noneT, firS, lasS, behS]
  | seq a b iha ihb =>
    intro sps B
    obtain ⟨xa, la, ea⟩ := iha sps B
    obtain ⟨xb, lb, eb⟩ := ihb (sps ++ xa ++ [spOf sps.length a]) (behS sps.length a B)
    have hl : (sps ++ xa ++ [spOf sps.length a]).length = sps.length + a.size := by simp; omega
    rw [hl] at eb
    have hsa := a.size_pos
    have hsb := b.size_pos
    have hl2 : (sps ++ xa ++ [spOf sps.length a] ++ xb ++ [spOf (sps.length + a.size) b]).length = sps.length + a.size + b.size := by
      rw [List.length_append, List.length_append, hl]; simp; omega
    refine ⟨xa ++ [spOf sps.length a] ++ xb ++ [spOf (sps.length + a.size) b], by simp [Rx.size]; omega, ?_⟩
    rw [flat, chartE_app, chartE_app, ea, eb]
    simp only [chartE]
    have g1 : (sps ++ xa ++ [spOf sps.length a] ++ xb ++ [spOf (sps.length + a.size) b]).getD (((sps.length + a.size - 1 : Nat) : Int)).toNat nilSp = spOf sps.length a := by
      have hi : (((sps.length + a.size - 1 : Nat) : Int)).toNat = sps.length + a.size - 1 := by omega
      rw [hi, List.getD_eq_getElem?_getD, List.append_assoc (sps ++ xa ++ [spOf sps.length a]), List.getElem?_append_left (by rw [hl]; omega), ← List.getD_eq_getElem?_getD]
      exact getD_last_sp sps xa _ _ (by rw [hl]; omega)
    have g2 : (sps ++ xa ++ [spOf sps.length a] ++ xb ++ [spOf (sps.length + a.size) b]).getD (((sps.length + a.size + b.size - 1 : Nat) : Int)).toNat nilSp = spOf (sps.length + a.size) b := by
      have hi : (((sps.length + a.size + b.size - 1 : Nat) : Int)).toNat = sps.length + a.size + b.size - 1 := by omega
      rw [hi]
      exact getD_last_sp (sps ++ xa ++ [spOf sps.length a]) xb _ _ (by rw [hl2]; omega)
    rw [g1, g2]
    simp [spanE, spanB, spOf, noneT, firS, lasS, behS]
    exact ⟨rfl, rfl⟩
  | alt a b iha ihb =>
    intro sps B
    obtain ⟨xa, la, ea⟩ := iha sps B
    obtain ⟨xb, lb, eb⟩ := ihb (sps ++ xa ++ [spOf sps.length a]) (behS sps.length a B)
    have hl : (sps ++ xa ++ [spOf sps.length a]).length = sps.length + a.size := by simp; omega
    rw [hl] at eb
    have hsa := a.size_pos
    have hsb := b.size_pos
    have hl2 : (sps ++ xa ++ [spOf sps.length a] ++ xb ++ [spOf (sps.length + a.size) b]).length = sps.length + a.size + b.size := by
      rw [List.length_append, List.length_append, hl]; simp; omega
    refine ⟨xa ++ [spOf sps.length a] ++ xb ++ [spOf (sps.length + a.size) b], by simp [Rx.size]; omega, ?_⟩
    rw [flat, chartE_app, chartE_app, ea, eb]
    simp only [chartE]
    have g1 : (sps ++ xa ++ [spOf sps.length a] ++ xb ++ [spOf (sps.length + a.size) b]).getD (((sps.length + a.size - 1 : Nat) : Int)).toNat nilSp = spOf sps.length a := by
      have hi : (((sps.length + a.size - 1 : Nat) : Int)).toNat = sps.length + a.size - 1 := by omega
      rw [hi, List.getD_eq_getElem?_getD, List.append_assoc (sps ++ xa ++ [spOf sps.length a]), List.getElem?_append_left (by rw [hl]; omega), ← List.getD_eq_getElem?_getD]
      exact getD_last_sp sps xa _ _ (by rw [hl]; omega)
    have g2 : (sps ++ xa ++ [spOf sps.length a] ++ xb ++ [spOf (sps.length + a.size) b]).getD (((sps.length + a.size + b.size - 1 : Nat) : Int)).toNat nilSp = spOf (sps.length + a.size) b := by
      have hi : (((sps.length + a.size + b.size - 1 : Nat) : Int)).toNat = sps.length + a.size + b.size - 1 := by omega
      rw [hi]
      exact getD_last_sp (sps ++ xa ++ [spOf sps.length a]) xb _ _ (by rw [hl2]; omega)
    rw [g1, g2]
    simp [spanE, spanB, spOf, noneT, firS, lasS, behS]
  | star a iha =>
    intro sps B
    obtain ⟨xa, la, ea⟩ := iha sps B
    have hl : (sps ++ xa ++ [spOf sps.length a]).length = sps.length + a.size := by simp; omega
    have hsa := a.size_pos
    refine ⟨xa ++ [spOf sps.length a], by simp [Rx.size]; omega, ?_⟩
    rw [flat, chartE_app, ea]
    simp only [chartE]
    have g1 : (sps ++ xa ++ [spOf sps.length a]).getD (((sps.length + a.size - 1 : Nat) : Int)).toNat nilSp = spOf sps.length a := by
      have hi : (((sps.length + a.size - 1 : Nat) : Int)).toNat = sps.length + a.size - 1 := by omega
      rw [hi]
      exact getD_last_sp sps xa _ _ (by rw [hl]; omega)
    rw [g1]
    simp [spanE, spanB, spOf, noneT, firS, lasS, behS]
  | plus a iha =>
    intro sps B
    obtain ⟨xa, la, ea⟩ := iha sps B
    have hl : (sps ++ xa ++ [spOf sps.length a]).length = sps.length + a.size := by simp; omega
    have hsa := a.size_pos
    refine ⟨xa ++ [spOf sps.length a], by simp [Rx.size]; omega, ?_⟩
    rw [flat, chartE_app, ea]
    simp only [chartE]
    have g1 : (sps ++ xa ++ [spOf sps.length a]).getD (((sps.length + a.size - 1 : Nat) : Int)).toNat nilSp = spOf sps.length a := by
      have hi : (((sps.length + a.size - 1 : Nat) : Int)).toNat = sps.length + a.size - 1 := by omega
      rw [hi]
      exact getD_last_sp sps xa _ _ (by rw [hl]; omega)
    rw [g1]
    simp [spanE, spanB, spOf, noneT, firS, lasS, behS]
/-- Places below N alone. -/
def InS (N : Nat) (s : S4) : Prop := ∀ p, p < 256 → hasS s p = true → p < N
theorem InS.or {N : Nat} {s t : S4} (h : InS N s) (h2 : InS N t) : InS N (orS s t) := fun p hp hh => by
  rw [has_orS s t p hp, Bool.or_eq_true] at hh
  exact hh.elim (h p hp) (h2 p hp)
theorem InS.nil (N : Nat) : InS N nilS := fun p hp hh => by rw [has_nilS p hp] at hh; simp at hh
theorem InS.one {N i : Nat} (h : i < N) : InS N (oneS i) := fun p hp hh => by
  rw [has_oneS i p hp] at hh
  have : p = i := by simpa using hh
  omega
theorem span_in {N i : Nat} (hi : i < N) (n : RN) {a b : Sp} (ha : InS N a.fir ∧ InS N a.las) (hb : InS N b.fir ∧ InS N b.las) : InS N (spanE n i a b).fir ∧ InS N (spanE n i a b).las := by
  unfold spanE
  split
  · exact ⟨InS.one hi, InS.one hi⟩
  split
  · refine ⟨?_, ?_⟩
    · dsimp only
      split
      · exact ha.1.or hb.1
      · exact ha.1
    · dsimp only
      split
      · exact ha.2.or hb.2
      · exact hb.2
  split
  · exact ⟨ha.1.or hb.1, ha.2.or hb.2⟩
  split
  · exact ha
  split
  · exact ha
  · exact ⟨InS.nil N, InS.nil N⟩
theorem note_in {N : Nat} {B : Nat → S4} {s t : S4} (hB : ∀ p, InS N (B p)) (ht : InS N t) : ∀ p, InS N (noteS B s t p) := fun p => by
  unfold noteS
  split
  · exact (hB p).or ht
  · exact hB p
theorem spanB_in {N : Nat} (n : RN) {a b : Sp} {B : Nat → S4} (ha : InS N a.fir ∧ InS N a.las) (hb : InS N b.fir ∧ InS N b.las) (hB : ∀ p, InS N (B p)) : ∀ p, InS N (spanB n a b B p) := by
  unfold spanB
  split
  · exact note_in hB hb.1
  split
  · exact note_in hB ha.1
  split
  · exact note_in hB ha.1
  · exact hB
theorem getD_in {N : Nat} {sps : List Sp} (h : ∀ a ∈ sps, InS N a.fir ∧ InS N a.las) (k : Nat) : InS N (sps.getD k nilSp).fir ∧ InS N (sps.getD k nilSp).las := by
  rw [List.getD_eq_getElem?_getD]
  by_cases hk : k < sps.length
  · rw [List.getElem?_eq_getElem hk]
    exact h _ (List.getElem_mem hk)
  · rw [List.getElem?_eq_none (by omega)]
    exact ⟨InS.nil N, InS.nil N⟩
theorem chartE_in {N : Nat} : ∀ (l : List RN) (sps : List Sp) (B : Nat → S4), sps.length + l.length ≤ N → (∀ a ∈ sps, InS N a.fir ∧ InS N a.las) → (∀ p, InS N (B p)) →
    (∀ a ∈ (chartE sps B l).1, InS N a.fir ∧ InS N a.las) ∧ ∀ p, InS N ((chartE sps B l).2 p)
  | [], sps, B, _, h1, h2 => ⟨h1, h2⟩
  | n :: l, sps, B, hl, h1, h2 => by
    rw [chartE]
    simp at hl
    refine chartE_in l _ _ (by simp; omega) (fun a ha => ?_) (spanB_in n (getD_in h1 _) (getD_in h1 _) h2)
    rcases List.mem_append.1 ha with ha | ha
    · exact h1 a ha
    · have : a = _ := List.mem_singleton.1 ha
      rw [this]
      exact span_in (by omega) n (getD_in h1 _) (getD_in h1 _)
/-- In which places sets of a tree's chart are. -/
theorem chart_all (t : Rx) : ∃ xs : List Sp, xs.length + 1 = t.size ∧ chartE [] (fun _ => nilS) (flat 0 t) = (xs ++ [spOf 0 t], behS 0 t fun _ => nilS) := by
  obtain ⟨xs, h1, h2⟩ := chart_flat t [] (fun _ => nilS)
  exact ⟨xs, h1, by simpa using h2⟩

end Go.Proofs.YteedmkokbapkgaaDoor
