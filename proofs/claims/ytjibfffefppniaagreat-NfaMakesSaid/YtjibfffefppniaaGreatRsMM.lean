/- How many nodes a tree has that ends at a place, as the document says it: a list is one tree just if the one that ends last has all its nodes. No program in it. -/
import Derived.Test.YtjibfffefppniaaGreatRgNM
set_option linter.unusedVariables false
set_option linter.unusedSimpArgs false
namespace Go.Proofs.YtjibfffefppniaaGreat

def ndAt (l : List RN) (i : Nat) : RN := l.getD i ⟨0, 0, 0, nilS⟩
def szK (n : RN) (at_ : Int) (k m : Nat) : Nat :=
  if n.kind ≠ 2 ∧ n.set ≠ nilS then 0
  else if n.kind = 1 ∨ n.kind = 2 then (if n.a ≠ 0 ∨ n.b ≠ 0 then 0 else 1)
  else if n.kind = 5 ∨ n.kind = 6 then (if n.a ≠ at_ - 1 ∨ n.b ≠ 0 then 0 else if k = 0 then 0 else k + 1)
  else if n.kind = 3 ∨ n.kind = 4 then (if k = 0 ∨ n.b ≠ at_ - 1 ∨ n.a ≠ at_ - 1 - k then 0 else if m = 0 then 0 else k + m + 1)
  else 0
def sizeF (l : List RN) : Nat → Int → Nat
  | 0, _ => 0
  | f + 1, at_ => if at_ < 0 then 0 else szK (ndAt l at_.toNat) at_ (sizeF l f (at_ - 1)) (sizeF l f (at_ - 1 - (sizeF l f (at_ - 1) : Nat)))
theorem sizeF_le (l : List RN) : ∀ (f : Nat) (at_ : Int), (sizeF l f at_ : Int) ≤ max 0 (at_ + 1)
  | 0, at_ => by simp [sizeF]; omega
  | f + 1, at_ => by
    rw [sizeF]
    by_cases h : at_ < 0
    · rw [if_pos h]; omega
    · rw [if_neg h]
      have h1 := sizeF_le l f (at_ - 1)
      have h2 := sizeF_le l f (at_ - 1 - (sizeF l f (at_ - 1) : Nat))
      generalize sizeF l f (at_ - 1) = k at *
      generalize sizeF l f (at_ - 1 - (k : Nat)) = m at *
      unfold szK
      repeat' split
      all_goals omega
/-- A tree's nodes stand in a list from a place on. -/
def Sgm (l : List RN) (p : Nat) (t : Rx) : Prop := ∀ i (h : i < t.size), p + i < l.length ∧ ndAt l (p + i) = (flat p t)[i]'(by rw [flat_len]; exact h)
theorem flat_last (p : Nat) (t : Rx) : (flat p t)[t.size - 1]'(by rw [flat_len]; have := t.size_pos; omega) = (match t with
    | .nil => ⟨1, 0, 0, nilS⟩
    | .set s => ⟨2, 0, 0, s⟩
    | .seq a b => ⟨3, ((p + a.size - 1 : Nat) : Int), ((p + a.size + b.size - 1 : Nat) : Int), nilS⟩
    | .alt a b => ⟨4, ((p + a.size - 1 : Nat) : Int), ((p + a.size + b.size - 1 : Nat) : Int), nilS⟩
    | .star a => ⟨5, ((p + a.size - 1 : Nat) : Int), 0, nilS⟩
    | .plus a => ⟨6, ((p + a.size - 1 : Nat) : Int), 0, nilS⟩) := by
  cases t with
  | nil => rfl
  | set s => rfl
  | seq a b => simp only [flat, Rx.size]; rw [List.getElem_append_right (by simp [flat_len])]; simp [flat_len]
  | alt a b => simp only [flat, Rx.size]; rw [List.getElem_append_right (by simp [flat_len])]; simp [flat_len]
  | star a => simp only [flat, Rx.size]; rw [List.getElem_append_right (by simp [flat_len])]; simp [flat_len]
  | plus a => simp only [flat, Rx.size]; rw [List.getElem_append_right (by simp [flat_len])]; simp [flat_len]
theorem sgm_left1 {l : List RN} {p : Nat} {a : Rx} {t : Rx} (rest : List RN) (hf : flat p t = flat p a ++ rest) (h : Sgm l p t) (hs : a.size ≤ t.size) : Sgm l p a := fun i hi => by
  obtain ⟨h1, h2⟩ := h i (by omega)
  refine ⟨h1, ?_⟩
  rw [h2]
  simp only [hf]
  rw [List.getElem_append_left (by rw [flat_len]; exact hi)]
theorem sgm_right {l : List RN} {p : Nat} {a b t : Rx} (rest : List RN) (hf : flat p t = flat p a ++ flat (p + a.size) b ++ rest) (h : Sgm l p t) (hs : a.size + b.size ≤ t.size) : Sgm l (p + a.size) b := fun i hi => by
  obtain ⟨h1, h2⟩ := h (a.size + i) (by omega)
  rw [← Nat.add_assoc] at h1 h2
  refine ⟨h1, ?_⟩
  rw [h2]
  simp only [hf]
  rw [List.getElem_append_left (by simp [flat_len]; omega), List.getElem_append_right (by simp [flat_len])]
  simp [flat_len]
theorem szK_one (kind x at_ : Int) (k m : Nat) (hk : kind = 5 ∨ kind = 6) (h : x = at_ - 1) (h0 : k ≠ 0) : szK ⟨kind, x, 0, nilS⟩ at_ k m = k + 1 := by
  unfold szK
  rw [if_neg (by simp), if_neg (by dsimp only; omega), if_pos hk, if_neg (by simp [h]), if_neg h0]
theorem szK_two (kind x y at_ : Int) (k m : Nat) (hk : kind = 3 ∨ kind = 4) (h : y = at_ - 1) (h2 : x = at_ - 1 - k) (h0 : k ≠ 0) (h1 : m ≠ 0) : szK ⟨kind, x, y, nilS⟩ at_ k m = k + m + 1 := by
  unfold szK
  rw [if_neg (by simp), if_neg (by dsimp only; omega), if_neg (by dsimp only; omega), if_pos hk, if_neg (by simp only [not_or, ne_eq, Decidable.not_not]; exact ⟨h0, h, h2⟩), if_neg h1]
theorem size_of_tree (l : List RN) (t : Rx) : ∀ (p f : Nat), Sgm l p t → p + t.size ≤ f → sizeF l f ((p + t.size - 1 : Nat) : Int) = t.size := by
  have key : ∀ (t : Rx) (p f : Nat), Sgm l p t → p + t.size ≤ f + 1 → ndAt l (((p + t.size - 1 : Nat) : Int)).toNat = (flat p t)[t.size - 1]'(by rw [flat_len]; have := t.size_pos; omega) := fun t p f h hf => by
    have hp := t.size_pos
    obtain ⟨_, h2⟩ := h (t.size - 1) (by omega)
    rw [← h2]
    congr 1
    omega
  induction t with
  | nil =>
    intro p f h hf
    obtain ⟨f, rfl⟩ : ∃ g, f = g + 1 := ⟨f - 1, by have := Rx.size_pos .nil; omega⟩
    rw [sizeF, if_neg (by omega), key _ _ _ h hf, flat_last]
    simp [szK, Rx.size]
  | set s =>
    intro p f h hf
    obtain ⟨f, rfl⟩ : ∃ g, f = g + 1 := ⟨f - 1, by have := Rx.size_pos (.set s); omega⟩
    rw [sizeF, if_neg (by omega), key _ _ _ h hf, flat_last]
    simp [szK, Rx.size]
  | star a iha =>
    intro p f h hf
    have ha := a.size_pos
    obtain ⟨f, rfl⟩ : ∃ g, f = g + 1 := ⟨f - 1, by have := Rx.size_pos (.star a); omega⟩
    have e := iha p f (sgm_left1 [⟨5, ((p + a.size - 1 : Nat) : Int), 0, nilS⟩] rfl h (by simp only [Rx.size]; omega)) (by simp only [Rx.size] at hf; omega)
    rw [sizeF, if_neg (by omega), key _ _ _ h hf, flat_last]
    have e1 : (((p + (Rx.star a).size - 1 : Nat) : Int) - 1) = ((p + a.size - 1 : Nat) : Int) := by simp only [Rx.size]; omega
    rw [e1, e]
    exact szK_one 5 _ _ _ _ (Or.inl rfl) e1.symm (by omega)
  | plus a iha =>
    intro p f h hf
    have ha := a.size_pos
    obtain ⟨f, rfl⟩ : ∃ g, f = g + 1 := ⟨f - 1, by have := Rx.size_pos (.plus a); omega⟩
    have e := iha p f (sgm_left1 [⟨6, ((p + a.size - 1 : Nat) : Int), 0, nilS⟩] rfl h (by simp only [Rx.size]; omega)) (by simp only [Rx.size] at hf; omega)
    rw [sizeF, if_neg (by omega), key _ _ _ h hf, flat_last]
    have e1 : (((p + (Rx.plus a).size - 1 : Nat) : Int) - 1) = ((p + a.size - 1 : Nat) : Int) := by simp only [Rx.size]; omega
    rw [e1, e]
    exact szK_one 6 _ _ _ _ (Or.inr rfl) e1.symm (by omega)
  | seq a b iha ihb =>
    intro p f h hf
    have ha := a.size_pos
    have hb := b.size_pos
    obtain ⟨f, rfl⟩ : ∃ g, f = g + 1 := ⟨f - 1, by have := Rx.size_pos (.seq a b); omega⟩
    have ea := iha p f (sgm_left1 (flat (p + a.size) b ++ [⟨3, ((p + a.size - 1 : Nat) : Int), ((p + a.size + b.size - 1 : Nat) : Int), nilS⟩]) (by rw [flat, List.append_assoc]) h (by simp only [Rx.size]; omega)) (by simp only [Rx.size] at hf; omega)
    have eb := ihb (p + a.size) f (sgm_right [⟨3, ((p + a.size - 1 : Nat) : Int), ((p + a.size + b.size - 1 : Nat) : Int), nilS⟩] rfl h (by simp only [Rx.size]; omega)) (by simp only [Rx.size] at hf; omega)
    rw [sizeF, if_neg (by omega), key _ _ _ h hf, flat_last]
    have e1 : (((p + (Rx.seq a b).size - 1 : Nat) : Int) - 1) = ((p + a.size + b.size - 1 : Nat) : Int) := by simp only [Rx.size]; omega
    rw [e1, eb]
    have e2 : ((p + a.size + b.size - 1 : Nat) : Int) - (b.size : Nat) = ((p + a.size - 1 : Nat) : Int) := by omega
    rw [e2, ea]
    rw [szK_two 3 _ _ _ _ _ (Or.inl rfl) e1.symm (by rw [e1]; exact e2.symm) (by omega) (by omega)]
    simp only [Rx.size]
    omega
  | alt a b iha ihb =>
    intro p f h hf
    have ha := a.size_pos
    have hb := b.size_pos
    obtain ⟨f, rfl⟩ : ∃ g, f = g + 1 := ⟨f - 1, by have := Rx.size_pos (.alt a b); omega⟩
    have ea := iha p f (sgm_left1 (flat (p + a.size) b ++ [⟨4, ((p + a.size - 1 : Nat) : Int), ((p + a.size + b.size - 1 : Nat) : Int), nilS⟩]) (by rw [flat, List.append_assoc]) h (by simp only [Rx.size]; omega)) (by simp only [Rx.size] at hf; omega)
    have eb := ihb (p + a.size) f (sgm_right [⟨4, ((p + a.size - 1 : Nat) : Int), ((p + a.size + b.size - 1 : Nat) : Int), nilS⟩] rfl h (by simp only [Rx.size]; omega)) (by simp only [Rx.size] at hf; omega)
    rw [sizeF, if_neg (by omega), key _ _ _ h hf, flat_last]
    have e1 : (((p + (Rx.alt a b).size - 1 : Nat) : Int) - 1) = ((p + a.size + b.size - 1 : Nat) : Int) := by simp only [Rx.size]; omega
    rw [e1, eb]
    have e2 : ((p + a.size + b.size - 1 : Nat) : Int) - (b.size : Nat) = ((p + a.size - 1 : Nat) : Int) := by omega
    rw [e2, ea]
    rw [szK_two 4 _ _ _ _ _ (Or.inr rfl) e1.symm (by rw [e1]; exact e2.symm) (by omega) (by omega)]
    simp only [Rx.size]
    omega

def SgL (l : List RN) (p : Nat) (xs : List RN) : Prop := ∀ i (h : i < xs.length), p + i < l.length ∧ ndAt l (p + i) = xs[i]
theorem SgL.app {l : List RN} {p q : Nat} {xs ys : List RN} (h : SgL l p xs) (h2 : SgL l q ys) (hq : q = p + xs.length) : SgL l p (xs ++ ys) := fun i hi => by
  subst hq
  by_cases hx : i < xs.length
  · rw [List.getElem_append_left hx]
    exact h i hx
  · rw [List.getElem_append_right (by omega)]
    have := h2 (i - xs.length) (by rw [List.length_append] at hi; omega)
    rw [show p + xs.length + (i - xs.length) = p + i by omega] at this
    exact this
theorem SgL.one {l : List RN} {p : Nat} {n : RN} (h : p < l.length) (h2 : ndAt l p = n) : SgL l p [n] := fun i hi => by
  have : i = 0 := by simpa using hi
  subst this
  exact ⟨h, h2⟩
theorem SgL.sgm {l : List RN} {p : Nat} {t : Rx} (h : SgL l p (flat p t)) : Sgm l p t := fun i hi => h i (by rw [flat_len]; exact hi)
theorem Sgm.sgl {l : List RN} {p : Nat} {t : Rx} (h : Sgm l p t) : SgL l p (flat p t) := fun i hi => h i (by rw [flat_len] at hi; exact hi)
theorem tree_of_size (l : List RN) : ∀ (f : Nat) (at_ : Int) (k : Nat), at_ < l.length → sizeF l f at_ = k → k ≠ 0 → 0 ≤ at_ ∧ ∃ (p : Nat) (t : Rx), t.size = k ∧ ((p + k : Nat) : Int) = at_ + 1 ∧ Sgm l p t
  | 0, at_, k, hl, h, hk => by simp [sizeF] at h; omega
  | f + 1, at_, k, hl, h, hk => by
    rw [sizeF] at h
    by_cases h0 : at_ < 0
    · rw [if_pos h0] at h; omega
    rw [if_neg h0] at h
    refine ⟨by omega, ?_⟩
    obtain ⟨i, rfl⟩ : ∃ i : Nat, at_ = (i : Int) := ⟨at_.toNat, by omega⟩
    have hil : i < l.length := by omega
    rw [Int.toNat_natCast] at h
    have ih1 := fun (_ : Unit) => tree_of_size l f ((i : Int) - 1) (sizeF l f ((i : Int) - 1)) (by omega) rfl
    have ih2 := fun (_ : Unit) => tree_of_size l f ((i : Int) - 1 - (sizeF l f ((i : Int) - 1) : Nat)) (sizeF l f ((i : Int) - 1 - (sizeF l f ((i : Int) - 1) : Nat))) (by omega) rfl
    generalize sizeF l f ((i : Int) - 1) = k1 at *
    generalize sizeF l f ((i : Int) - 1 - (k1 : Nat)) = m1 at *
    have hnd : ndAt l i = ndAt l i := rfl
    generalize hn : ndAt l i = n at h
    obtain ⟨kd, a, b, st⟩ := n
    unfold szK at h
    dsimp only at h
    split at h
    · omega
    rename_i hs
    have hset : kd ≠ 2 → st = nilS := fun h2 => Classical.byContradiction fun h3 => hs ⟨h2, h3⟩
    split at h
    · rename_i hkd
      split at h
      · omega
      rename_i hab
      have ha : a = 0 := by omega
      have hb : b = 0 := by omega
      subst ha hb
      rcases hkd with rfl | rfl
      · obtain rfl := hset (by omega)
        exact ⟨i, .nil, by simp [Rx.size]; omega, by omega, SgL.sgm (SgL.one hil hn)⟩
      · exact ⟨i, .set st, by simp [Rx.size]; omega, by omega, SgL.sgm (SgL.one hil hn)⟩
    split at h
    · rename_i _ hkd
      split at h
      · omega
      rename_i hab
      split at h
      · omega
      rename_i hk1
      obtain ⟨_, p, t, ht, hp, hsg⟩ := ih1 () hk1
      have ha : a = ((p + t.size - 1 : Nat) : Int) := by have := t.size_pos; omega
      have hb : b = 0 := by omega
      obtain rfl := hset (by omega)
      have hi : i = p + t.size := by omega
      subst ha hb hi
      rcases hkd with rfl | rfl
      · exact ⟨p, .star t, by simp only [Rx.size]; omega, by omega, SgL.sgm (by rw [flat]; exact hsg.sgl.app (SgL.one hil hn) (by rw [flat_len]))⟩
      · exact ⟨p, .plus t, by simp only [Rx.size]; omega, by omega, SgL.sgm (by rw [flat]; exact hsg.sgl.app (SgL.one hil hn) (by rw [flat_len]))⟩
    split at h
    · rename_i _ _ hkd
      split at h
      · omega
      rename_i hab
      split at h
      · omega
      rename_i hm1
      have hk1 : k1 ≠ 0 := by omega
      obtain ⟨_, p2, t2, ht2, hp2, hsg2⟩ := ih1 () hk1
      obtain ⟨_, p, t, ht, hp, hsg⟩ := ih2 () hm1
      have hpos := t.size_pos
      have hpos2 := t2.size_pos
      have hp2' : p2 = p + t.size := by omega
      subst hp2'
      have ha : a = ((p + t.size - 1 : Nat) : Int) := by omega
      have hb : b = ((p + t.size + t2.size - 1 : Nat) : Int) := by omega
      obtain rfl := hset (by omega)
      have hi : i = p + t.size + t2.size := by omega
      subst ha hb hi
      have hap := hsg.sgl.app hsg2.sgl (by rw [flat_len])
      rcases hkd with rfl | rfl
      · exact ⟨p, .seq t t2, by simp only [Rx.size]; omega, by omega, SgL.sgm (by rw [flat]; exact hap.app (SgL.one hil hn) (by rw [List.length_append, flat_len, flat_len]; omega))⟩
      · exact ⟨p, .alt t t2, by simp only [Rx.size]; omega, by omega, SgL.sgm (by rw [flat]; exact hap.app (SgL.one hil hn) (by rw [List.length_append, flat_len, flat_len]; omega))⟩
    · omega
/-- The document's Check is the program's. -/
theorem size_tree (l : List RN) (h0 : l ≠ []) : (sizeF l (l.length + 1) ((l.length : Int) - 1) = l.length) ↔ oneTree l = true := by
  have hl : 0 < l.length := List.length_pos_iff.2 h0
  constructor
  · intro h
    obtain ⟨_, p, t, ht, hp, hsg⟩ := tree_of_size l (l.length + 1) ((l.length : Int) - 1) l.length (by omega) h (by omega)
    have hp0 : p = 0 := by omega
    subst hp0
    have : l = flat 0 t := by
      apply List.ext_getElem
      · rw [flat_len]; exact ht.symm
      · intro i h1 h2
        obtain ⟨_, h3⟩ := hsg i (by omega)
        rw [Nat.zero_add] at h3
        rw [← h3]
        simp [ndAt, List.getD, h1]
    rw [this]
    exact tree_of_flat t
  · intro h
    obtain ⟨t, rfl⟩ := flat_of_tree _ h
    have hs : Sgm (flat 0 t) 0 t := fun i hi => by
      refine ⟨by rw [flat_len]; omega, ?_⟩
      simp [ndAt, List.getD, flat_len, hi]
    have := size_of_tree (flat 0 t) t 0 (t.size + 1) hs (by omega)
    rw [flat_len]
    have hp := t.size_pos
    rw [show ((t.size : Int) - 1) = ((0 + t.size - 1 : Nat) : Int) by omega]
    exact this

end Go.Proofs.YtjibfffefppniaaGreat
