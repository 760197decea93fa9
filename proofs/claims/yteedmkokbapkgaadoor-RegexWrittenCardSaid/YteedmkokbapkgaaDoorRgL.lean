/- What texts a tree takes, and that they can be told by which nodes may take the first byte, the last one, and the next one. No program in it. -/
import Derived.Test.YteedmkokbapkgaaDoorRgM
set_option linter.unusedVariables false
set_option linter.unusedSimpArgs false
namespace Go.Proofs.YteedmkokbapkgaaDoor

/-- A tree takes a text. -/
inductive Mt : Rx → List UInt8 → Prop where
  | nil : Mt .nil []
  | set (s : S4) (c : UInt8) : hasS s c.toNat = true → Mt (.set s) [c]
  | seq {a b : Rx} {u v : List UInt8} : Mt a u → Mt b v → Mt (.seq a b) (u ++ v)
  | altl {a b : Rx} {u : List UInt8} : Mt a u → Mt (.alt a b) u
  | altr {a b : Rx} {u : List UInt8} : Mt b u → Mt (.alt a b) u
  | star0 {a : Rx} : Mt (.star a) []
  | star1 {a : Rx} {u v : List UInt8} : Mt a u → Mt (.star a) v → Mt (.star a) (u ++ v)
  | plus {a : Rx} {u v : List UInt8} : Mt a u → Mt (.star a) v → Mt (.plus a) (u ++ v)

def noneT : Rx → Bool
  | .nil => true
  | .set _ => false
  | .seq a b => noneT a && noneT b
  | .alt a b => noneT a || noneT b
  | .star _ => true
  | .plus a => noneT a
def Fir : Nat → Rx → Nat → Prop
  | _, .nil, _ => False
  | k, .set _, p => p = k
  | k, .seq a b, p => Fir k a p ∨ noneT a = true ∧ Fir (k + a.size) b p
  | k, .alt a b, p => Fir k a p ∨ Fir (k + a.size) b p
  | k, .star a, p => Fir k a p
  | k, .plus a, p => Fir k a p
def Las : Nat → Rx → Nat → Prop
  | _, .nil, _ => False
  | k, .set _, p => p = k
  | k, .seq a b, p => noneT b = true ∧ Las k a p ∨ Las (k + a.size) b p
  | k, .alt a b, p => Las k a p ∨ Las (k + a.size) b p
  | k, .star a, p => Las k a p
  | k, .plus a, p => Las k a p
def Fol : Nat → Rx → Nat → Nat → Prop
  | _, .nil, _, _ => False
  | _, .set _, _, _ => False
  | k, .seq a b, p, q => Fol k a p q ∨ Fol (k + a.size) b p q ∨ Las k a p ∧ Fir (k + a.size) b q
  | k, .alt a b, p, q => Fol k a p q ∨ Fol (k + a.size) b p q
  | k, .star a, p, q => Fol k a p q ∨ Las k a p ∧ Fir k a q
  | k, .plus a, p, q => Fol k a p q ∨ Las k a p ∧ Fir k a q
/-- The nodes of a tree that stands from place k on have these sets. -/
def Lab (L : Nat → S4) : Nat → Rx → Prop
  | _, .nil => True
  | k, .set s => L k = s
  | k, .seq a b => Lab L k a ∧ Lab L (k + a.size) b
  | k, .alt a b => Lab L k a ∧ Lab L (k + a.size) b
  | k, .star a => Lab L k a
  | k, .plus a => Lab L k a
theorem fir_in (t : Rx) : ∀ k p, Fir k t p → k ≤ p ∧ p < k + t.size := by
  induction t with
  | nil => intro k p h; cases h
  | set s => intro k p h; rw [Fir] at h; subst h; simp [Rx.size]
  | seq a b iha ihb =>
    intro k p h
    rw [Rx.size]
    rcases h with h | ⟨_, h⟩
    · have := iha _ _ h; omega
    · have := ihb _ _ h; omega
  | alt a b iha ihb =>
    intro k p h
    rw [Rx.size]
    rcases h with h | h
    · have := iha _ _ h; omega
    · have := ihb _ _ h; omega
  | star a iha => intro k p h; rw [Rx.size]; have := iha _ _ h; omega
  | plus a iha => intro k p h; rw [Rx.size]; have := iha _ _ h; omega
theorem las_in (t : Rx) : ∀ k p, Las k t p → k ≤ p ∧ p < k + t.size := by
  induction t with
  | nil => intro k p h; cases h
  | set s => intro k p h; rw [Las] at h; subst h; simp [Rx.size]
  | seq a b iha ihb =>
    intro k p h
    rw [Rx.size]
    rcases h with ⟨_, h⟩ | h
    · have := iha _ _ h; omega
    · have := ihb _ _ h; omega
  | alt a b iha ihb =>
    intro k p h
    rw [Rx.size]
    rcases h with h | h
    · have := iha _ _ h; omega
    · have := ihb _ _ h; omega
  | star a iha => intro k p h; rw [Rx.size]; have := iha _ _ h; omega
  | plus a iha => intro k p h; rw [Rx.size]; have := iha _ _ h; omega
theorem fol_in (t : Rx) : ∀ k p q, Fol k t p q → (k ≤ p ∧ p < k + t.size) ∧ k ≤ q ∧ q < k + t.size := by
  induction t with
  | nil => intro k p q h; cases h
  | set s => intro k p q h; cases h
  | seq a b iha ihb =>
    intro k p q h
    rw [Rx.size]
    rcases h with h | h | ⟨h1, h2⟩
    · have := iha _ _ _ h; omega
    · have := ihb _ _ _ h; omega
    · have := las_in _ _ _ h1
      have := fir_in _ _ _ h2
      omega
  | alt a b iha ihb =>
    intro k p q h
    rw [Rx.size]
    rcases h with h | h
    · have := iha _ _ _ h; omega
    · have := ihb _ _ _ h; omega
  | star a iha =>
    intro k p q h
    rw [Rx.size]
    rcases h with h | ⟨h1, h2⟩
    · have := iha _ _ _ h; omega
    · have := las_in _ _ _ h1
      have := fir_in _ _ _ h2
      omega
  | plus a iha =>
    intro k p q h
    rw [Rx.size]
    rcases h with h | ⟨h1, h2⟩
    · have := iha _ _ _ h; omega
    · have := las_in _ _ _ h1
      have := fir_in _ _ _ h2
      omega

/-- From a node to a node, by the bytes of a text. -/
inductive Pa (L : Nat → S4) (F : Nat → Nat → Prop) : Nat → List UInt8 → Nat → Prop where
  | one (p : Nat) (c : UInt8) : hasS (L p) c.toNat = true → Pa L F p [c] p
  | more (p q r : Nat) (c : UInt8) (w : List UInt8) : hasS (L p) c.toNat = true → F p q → Pa L F q w r → Pa L F p (c :: w) r
theorem Pa.mono {L : Nat → S4} {F G : Nat → Nat → Prop} (h : ∀ p q, F p q → G p q) {p r : Nat} {w : List UInt8} (x : Pa L F p w r) : Pa L G p w r := by
  induction x with
  | one p c hc => exact .one p c hc
  | more p q r c w hc hf _ ih => exact .more p q r c w hc (h _ _ hf) ih
theorem Pa.join {L : Nat → S4} {F : Nat → Nat → Prop} {p m m2 r : Nat} {u v : List UInt8} (x : Pa L F p u m) (hf : F m m2) (y : Pa L F m2 v r) : Pa L F p (u ++ v) r := by
  induction x with
  | one p c hc => exact .more p m2 r c v hc hf y
  | more p q r' c w hc hf' _ ih => exact .more p q r c (w ++ v) hc hf' (ih hf)
theorem Pa.ne {L : Nat → S4} {F : Nat → Nat → Prop} {p r : Nat} {w : List UInt8} (x : Pa L F p w r) : w ≠ [] := by
  cases x <;> simp
/-- A way of the greater net, from a node from which just the smaller net leads on, is one of the smaller. -/
theorem Pa.within {L : Nat → S4} {F G : Nat → Nat → Prop} (S : Nat → Prop) (h : ∀ p q, S p → F p q → G p q ∧ S q) {p r : Nat} {w : List UInt8} (x : Pa L F p w r) (hp : S p) : Pa L G p w r ∧ S r := by
  induction x with
  | one p c hc => exact ⟨.one p c hc, hp⟩
  | more p q r c w hc hf _ ih =>
    obtain ⟨hg, hq⟩ := h _ _ hp hf
    obtain ⟨i1, i2⟩ := ih hq
    exact ⟨.more p q r c w hc hg i1, i2⟩
/-- A way leaves the smaller net once, or never. -/
theorem Pa.split {L : Nat → S4} {F G X : Nat → Nat → Prop} (h : ∀ p q, F p q → G p q ∨ X p q) {p r : Nat} {w : List UInt8} (x : Pa L F p w r) :
    Pa L G p w r ∨ ∃ u v m m2, w = u ++ v ∧ Pa L G p u m ∧ X m m2 ∧ Pa L F m2 v r := by
  induction x with
  | one p c hc => exact Or.inl (.one p c hc)
  | more p q r c w hc hf hx ih =>
    rcases h _ _ hf with hg | hg
    · rcases ih with i | ⟨u, v, m, m2, rfl, i1, i2, i3⟩
      · exact Or.inl (.more p q r c w hc hg i)
      · exact Or.inr ⟨c :: u, v, m, m2, rfl, .more p q m c u hc hg i1, i2, i3⟩
    · exact Or.inr ⟨[c], w, p, q, rfl, .one p c hc, hg, hx⟩

/-- What the nodes tell of a text. -/
def Acc (L : Nat → S4) (k : Nat) (t : Rx) (w : List UInt8) : Prop := (w = [] ∧ noneT t = true) ∨ ∃ p q, Fir k t p ∧ Las k t q ∧ Pa L (Fol k t) p w q

theorem acc_of_mt {t : Rx} {w : List UInt8} (h : Mt t w) (L : Nat → S4) : ∀ k, Lab L k t → Acc L k t w := by
  induction h with
  | nil => intro k hl; exact Or.inl ⟨rfl, rfl⟩
  | set s c hc =>
    intro k hl
    have hl' : L k = s := hl
    exact Or.inr ⟨k, k, rfl, rfl, .one k c (by rw [hl']; exact hc)⟩
  | @seq a b u v _ _ iha ihb =>
    intro k hl
    rcases iha k hl.1 with ⟨rfl, n1⟩ | ⟨p, q, f1, l1, p1⟩
    · rcases ihb _ hl.2 with ⟨rfl, n2⟩ | ⟨p2, q2, f2, l2, y2⟩
      · exact Or.inl ⟨rfl, by simp [noneT, n1, n2]⟩
      · exact Or.inr ⟨p2, q2, Or.inr ⟨n1, f2⟩, Or.inr l2, y2.mono fun x y h => Or.inr (Or.inl h)⟩
    · rcases ihb _ hl.2 with ⟨rfl, n2⟩ | ⟨p2, q2, f2, l2, y2⟩
      · rw [List.append_nil]
        exact Or.inr ⟨p, q, Or.inl f1, Or.inl ⟨n2, l1⟩, p1.mono fun x y h => Or.inl h⟩
      · exact Or.inr ⟨p, q2, Or.inl f1, Or.inr l2, (p1.mono fun x y h => Or.inl h).join (Or.inr (Or.inr ⟨l1, f2⟩)) (y2.mono fun x y h => Or.inr (Or.inl h))⟩
  | altl _ ih =>
    intro k hl
    rcases ih k hl.1 with ⟨rfl, n1⟩ | ⟨p, q, f1, l1, p1⟩
    · exact Or.inl ⟨rfl, by simp [noneT, n1]⟩
    · exact Or.inr ⟨p, q, Or.inl f1, Or.inl l1, p1.mono fun x y h => Or.inl h⟩
  | altr _ ih =>
    intro k hl
    rcases ih _ hl.2 with ⟨rfl, n1⟩ | ⟨p, q, f1, l1, p1⟩
    · exact Or.inl ⟨rfl, by simp [noneT, n1]⟩
    · exact Or.inr ⟨p, q, Or.inr f1, Or.inr l1, p1.mono fun x y h => Or.inr h⟩
  | star0 => intro k hl; exact Or.inl ⟨rfl, rfl⟩
  | @star1 a u v _ _ iha ihb =>
    intro k hl
    rcases iha k hl with ⟨rfl, n1⟩ | ⟨p, q, f1, l1, p1⟩
    · exact ihb k hl
    · rcases ihb k hl with ⟨rfl, n2⟩ | ⟨p2, q2, f2, l2, y2⟩
      · rw [List.append_nil]
        exact Or.inr ⟨p, q, f1, l1, p1.mono fun x y h => Or.inl h⟩
      · exact Or.inr ⟨p, q2, f1, l2, (p1.mono fun x y h => Or.inl h).join (Or.inr ⟨l1, f2⟩) y2⟩
  | @plus a u v _ _ iha ihb =>
    intro k hl
    rcases iha k hl with ⟨rfl, n1⟩ | ⟨p, q, f1, l1, p1⟩
    · rcases ihb k hl with ⟨rfl, n2⟩ | ⟨p2, q2, f2, l2, y2⟩
      · exact Or.inl ⟨rfl, n1⟩
      · exact Or.inr ⟨p2, q2, f2, l2, y2⟩
    · rcases ihb k hl with ⟨rfl, n2⟩ | ⟨p2, q2, f2, l2, y2⟩
      · rw [List.append_nil]
        exact Or.inr ⟨p, q, f1, l1, p1.mono fun x y h => Or.inl h⟩
      · exact Or.inr ⟨p, q2, f1, l2, (p1.mono fun x y h => Or.inl h).join (Or.inr ⟨l1, f2⟩) y2⟩

theorem mt_star {L : Nat → S4} {a : Rx} {k : Nat} (hm : ∀ w, Acc L k a w → Mt a w) : ∀ (n : Nat) (w : List UInt8) (p q : Nat), w.length ≤ n → Fir k a p → Las k a q → Pa L (Fol k (.star a)) p w q →
    ∃ u v, w = u ++ v ∧ Mt a u ∧ Mt (.star a) v := by
  intro n
  induction n with
  | zero =>
    intro w p q hn _ _ x
    exact absurd (List.length_eq_zero_iff.1 (by omega)) x.ne
  | succ n ih =>
    intro w p q hn f1 l1 x
    rcases x.split (G := Fol k a) (X := fun m m2 => Las k a m ∧ Fir k a m2) (fun p q h => h) with y | ⟨u, v, m, m2, rfl, y1, ⟨y2, y3⟩, y4⟩
    · exact ⟨w, [], by simp, hm w (Or.inr ⟨p, q, f1, l1, y⟩), .star0⟩
    · have hu := List.length_pos_iff.2 y1.ne
      rw [List.length_append] at hn
      obtain ⟨u2, v2, e, z1, z2⟩ := ih v m2 q (by omega) y3 l1 y4
      exact ⟨u, v, rfl, hm u (Or.inr ⟨p, m, f1, y2, y1⟩), by rw [e]; exact .star1 z1 z2⟩
theorem mt_of_acc (L : Nat → S4) (t : Rx) : ∀ (k : Nat) (w : List UInt8), Lab L k t → Acc L k t w → Mt t w := by
  induction t with
  | nil =>
    intro k w hl h
    rcases h with ⟨rfl, _⟩ | ⟨p, q, f1, _⟩
    · exact .nil
    · cases f1
  | set s =>
    intro k w hl h
    rcases h with ⟨_, h⟩ | ⟨p, q, f1, l1, x⟩
    · cases h
    · cases x with
      | one _ c hc =>
        obtain rfl : p = k := f1
        have hl' : L p = s := hl
        exact .set s c (by rw [← hl']; exact hc)
      | more _ q2 _ c w hc hf _ => cases hf
  | seq a b iha ihb =>
    intro k w hl h
    rcases h with ⟨rfl, h⟩ | ⟨p, q, f1, l1, x⟩
    · rw [noneT, Bool.and_eq_true] at h
      exact .seq (u := []) (v := []) (iha k [] hl.1 (Or.inl ⟨rfl, h.1⟩)) (ihb _ [] hl.2 (Or.inl ⟨rfl, h.2⟩))
    · have inB : ∀ {p r : Nat} {w : List UInt8}, Pa L (Fol k (.seq a b)) p w r → k + a.size ≤ p → Pa L (Fol (k + a.size) b) p w r ∧ k + a.size ≤ r := by
        intro p r w x hp
        refine x.within (fun p => k + a.size ≤ p) (fun p q hp hf => ?_) hp
        rcases hf with h | h | ⟨h1, h2⟩
        · have := fol_in _ _ _ _ h; omega
        · exact ⟨h, by have := fol_in _ _ _ _ h; omega⟩
        · have := las_in _ _ _ h1; omega
      by_cases hp : k + a.size ≤ p
      · obtain ⟨y, hq⟩ := inB x hp
        have n1 : noneT a = true ∧ Fir (k + a.size) b p := by
          rcases f1 with f1 | f1
          · have := fir_in _ _ _ f1; omega
          · exact f1
        have l2 : Las (k + a.size) b q := by
          rcases l1 with ⟨_, l1⟩ | l1
          · have := las_in _ _ _ l1; omega
          · exact l1
        exact .seq (u := []) (iha k [] hl.1 (Or.inl ⟨rfl, n1.1⟩)) (ihb _ w hl.2 (Or.inr ⟨p, q, n1.2, l2, y⟩))
      · have f2 : Fir k a p := by
          rcases f1 with f1 | ⟨_, f1⟩
          · exact f1
          · have := fir_in _ _ _ f1; omega
        rcases x.split (G := Fol k a) (X := fun m m2 => Fol (k + a.size) b m m2 ∨ Las k a m ∧ Fir (k + a.size) b m2) (fun p q h => h) with y | ⟨u, v, m, m2, rfl, y1, y2, y4⟩
        · have hq : q < k + a.size := by
            have := (y.within (fun p => p < k + a.size) (fun p q hp hf => ⟨hf, by have := fol_in _ _ _ _ hf; omega⟩) (by omega)).2
            exact this
          have l2 : noneT b = true ∧ Las k a q := by
            rcases l1 with l1 | l1
            · exact l1
            · have := las_in _ _ _ l1; omega
          have := Mt.seq (v := []) (iha k w hl.1 (Or.inr ⟨p, q, f2, l2.2, y⟩)) (ihb _ [] hl.2 (Or.inl ⟨rfl, l2.1⟩))
          rwa [List.append_nil] at this
        · have hm : m < k + a.size := (y1.within (fun p => p < k + a.size) (fun p q hp hf => ⟨hf, by have := fol_in _ _ _ _ hf; omega⟩) (by omega)).2
          have y2' : Las k a m ∧ Fir (k + a.size) b m2 := by
            rcases y2 with h | h
            · have := fol_in _ _ _ _ h; omega
            · exact h
          have hm2 := fir_in _ _ _ y2'.2
          obtain ⟨z, hq⟩ := inB y4 (by omega)
          have l2 : Las (k + a.size) b q := by
            rcases l1 with ⟨_, l1⟩ | l1
            · have := las_in _ _ _ l1; omega
            · exact l1
          exact .seq (iha k u hl.1 (Or.inr ⟨p, m, f2, y2'.1, y1⟩)) (ihb _ v hl.2 (Or.inr ⟨m2, q, y2'.2, l2, z⟩))
  | alt a b iha ihb =>
    intro k w hl h
    rcases h with ⟨rfl, h⟩ | ⟨p, q, f1, l1, x⟩
    · rw [noneT, Bool.or_eq_true] at h
      rcases h with h | h
      · exact .altl (iha k [] hl.1 (Or.inl ⟨rfl, h⟩))
      · exact .altr (ihb _ [] hl.2 (Or.inl ⟨rfl, h⟩))
    · rcases f1 with f1 | f1
      · have hp := fir_in _ _ _ f1
        obtain ⟨y, hq⟩ := x.within (G := Fol k a) (fun p => p < k + a.size) (fun p q hp hf => by
          rcases hf with h | h
          · exact ⟨h, by have := fol_in _ _ _ _ h; omega⟩
          · have := fol_in _ _ _ _ h; omega) hp.2
        have l2 : Las k a q := by
          rcases l1 with l1 | l1
          · exact l1
          · have := las_in _ _ _ l1; omega
        exact .altl (iha k w hl.1 (Or.inr ⟨p, q, f1, l2, y⟩))
      · have hp := fir_in _ _ _ f1
        obtain ⟨y, hq⟩ := x.within (G := Fol (k + a.size) b) (fun p => k + a.size ≤ p) (fun p q hp hf => by
          rcases hf with h | h
          · have := fol_in _ _ _ _ h; omega
          · exact ⟨h, by have := fol_in _ _ _ _ h; omega⟩) hp.1
        have l2 : Las (k + a.size) b q := by
          rcases l1 with l1 | l1
          · have := las_in _ _ _ l1; omega
          · exact l1
        exact .altr (ihb _ w hl.2 (Or.inr ⟨p, q, f1, l2, y⟩))
  | star a iha =>
    intro k w hl h
    rcases h with ⟨rfl, h⟩ | ⟨p, q, f1, l1, x⟩
    · exact .star0
    · obtain ⟨u, v, rfl, h1, h2⟩ := mt_star (fun w h => iha k w hl h) w.length w p q (Nat.le_refl _) f1 l1 x
      exact .star1 h1 h2
  | plus a iha =>
    intro k w hl h
    rcases h with ⟨rfl, h⟩ | ⟨p, q, f1, l1, x⟩
    · exact .plus (u := []) (v := []) (iha k [] hl (Or.inl ⟨rfl, h⟩)) .star0
    · obtain ⟨u, v, rfl, h1, h2⟩ := mt_star (fun w h => iha k w hl h) w.length w p q (Nat.le_refl _) f1 l1 x
      exact .plus h1 h2

/-! Sets of places. -/

def firS : Nat → Rx → S4
  | _, .nil => nilS
  | k, .set _ => oneS k
  | k, .seq a b => if noneT a then orS (firS k a) (firS (k + a.size) b) else firS k a
  | k, .alt a b => orS (firS k a) (firS (k + a.size) b)
  | k, .star a => firS k a
  | k, .plus a => firS k a
def lasS : Nat → Rx → S4
  | _, .nil => nilS
  | k, .set _ => oneS k
  | k, .seq a b => if noneT b then orS (lasS k a) (lasS (k + a.size) b) else lasS (k + a.size) b
  | k, .alt a b => orS (lasS k a) (lasS (k + a.size) b)
  | k, .star a => lasS k a
  | k, .plus a => lasS k a
def noteS (B : Nat → S4) (s those : S4) : Nat → S4 := fun p => if hasS s p then orS (B p) those else B p
def behS : Nat → Rx → (Nat → S4) → Nat → S4
  | _, .nil, B => B
  | _, .set _, B => B
  | k, .seq a b, B => noteS (behS (k + a.size) b (behS k a B)) (lasS k a) (firS (k + a.size) b)
  | k, .alt a b, B => behS (k + a.size) b (behS k a B)
  | k, .star a, B => noteS (behS k a B) (lasS k a) (firS k a)
  | k, .plus a, B => noteS (behS k a B) (lasS k a) (firS k a)
theorem fir_has (t : Rx) : ∀ k p, p < 256 → (hasS (firS k t) p = true ↔ Fir k t p) := by
  induction t with
  | nil => intro k p hp; rw [firS, has_nilS p hp]; simp [Fir]
  | set s => intro k p hp; rw [firS, has_oneS _ p hp]; simp [Fir]
  | seq a b iha ihb =>
    intro k p hp
    rw [firS, Fir]
    cases hn : noneT a with
    | true => rw [if_pos rfl, has_orS _ _ p hp, Bool.or_eq_true, iha k p hp, ihb _ p hp]; simp
    | false => rw [if_neg (by simp), iha k p hp]; simp
  | alt a b iha ihb => intro k p hp; rw [firS, Fir, has_orS _ _ p hp, Bool.or_eq_true, iha k p hp, ihb _ p hp]
  | star a iha => intro k p hp; exact iha k p hp
  | plus a iha => intro k p hp; exact iha k p hp
theorem las_has (t : Rx) : ∀ k p, p < 256 → (hasS (lasS k t) p = true ↔ Las k t p) := by
  induction t with
  | nil => intro k p hp; rw [lasS, has_nilS p hp]; simp [Las]
  | set s => intro k p hp; rw [lasS, has_oneS _ p hp]; simp [Las]
  | seq a b iha ihb =>
    intro k p hp
    rw [lasS, Las]
    cases hn : noneT b with
    | true => rw [if_pos rfl, has_orS _ _ p hp, Bool.or_eq_true, iha k p hp, ihb _ p hp]; simp
    | false => rw [if_neg (by simp), ihb _ p hp]; simp
  | alt a b iha ihb => intro k p hp; rw [lasS, Las, has_orS _ _ p hp, Bool.or_eq_true, iha k p hp, ihb _ p hp]
  | star a iha => intro k p hp; exact iha k p hp
  | plus a iha => intro k p hp; exact iha k p hp
theorem has_note (B : Nat → S4) (s those : S4) (p q : Nat) (hq : q < 256) : hasS (noteS B s those p) q = true ↔ hasS (B p) q = true ∨ hasS s p = true ∧ hasS those q = true := by
  rw [noteS]
  cases h : hasS s p with
  | true => rw [if_pos rfl, has_orS _ _ q hq, Bool.or_eq_true]; simp
  | false => rw [if_neg (by simp)]; simp
theorem beh_has (t : Rx) : ∀ k B p q, p < 256 → q < 256 → (hasS (behS k t B p) q = true ↔ hasS (B p) q = true ∨ Fol k t p q) := by
  induction t with
  | nil => intro k B p q hp hq; simp [behS, Fol]
  | set s => intro k B p q hp hq; simp [behS, Fol]
  | seq a b iha ihb =>
    intro k B p q hp hq
    rw [behS, has_note _ _ _ p q hq, ihb _ _ p q hp hq, iha _ _ p q hp hq, las_has a k p hp, fir_has b _ q hq, Fol, or_assoc, or_assoc]
  | alt a b iha ihb =>
    intro k B p q hp hq
    rw [behS, ihb _ _ p q hp hq, iha _ _ p q hp hq, Fol, or_assoc]
  | star a iha =>
    intro k B p q hp hq
    rw [behS, has_note _ _ _ p q hq, iha _ _ p q hp hq, las_has a k p hp, fir_has a _ q hq, Fol, or_assoc]
  | plus a iha =>
    intro k B p q hp hq
    rw [behS, has_note _ _ _ p q hq, iha _ _ p q hp hq, las_has a k p hp, fir_has a _ q hq, Fol, or_assoc]

/-- Those of places that take a byte; the places behind some. -/
def hereS (L : Nat → S4) (s : S4) (c : Nat) : S4 := ((elems s.f).filter fun p => hasS (L p) c).foldl (fun a p => orS a (oneS p)) nilS
def nextS (B : Nat → S4) (s : S4) : S4 := (elems s.f).foldl (fun a p => orS a (B p)) nilS
theorem has_folded (g : Nat → S4) (q : Nat) (hq : q < 256) : ∀ (l : List Nat) (s : S4), hasS (l.foldl (fun a p => orS a (g p)) s) q = true ↔ hasS s q = true ∨ ∃ p, p ∈ l ∧ hasS (g p) q = true
  | [], s => by simp
  | x :: l, s => by
    rw [List.foldl_cons, has_folded g q hq l, has_orS _ _ q hq, Bool.or_eq_true, or_assoc]
    simp
theorem has_here (L : Nat → S4) (s : S4) (c q : Nat) (hq : q < 256) : hasS (hereS L s c) q = true ↔ hasS s q = true ∧ hasS (L q) c = true := by
  rw [hereS, has_folded _ q hq, has_nilS q hq]
  constructor
  · rintro (h | ⟨p, h1, h2⟩)
    · cases h
    · rw [has_oneS p q hq] at h2
      obtain rfl : q = p := by simpa using h2
      rw [List.mem_filter, mem_elems] at h1
      exact ⟨h1.1.2, h1.2⟩
  · rintro ⟨h1, h2⟩
    exact Or.inr ⟨q, by rw [List.mem_filter, mem_elems]; exact ⟨⟨hq, h1⟩, h2⟩, by rw [has_oneS q q hq]; simp⟩
theorem has_next (B : Nat → S4) (s : S4) (q : Nat) (hq : q < 256) : hasS (nextS B s) q = true ↔ ∃ p, p < 256 ∧ hasS s p = true ∧ hasS (B p) q = true := by
  rw [nextS, has_folded _ q hq, has_nilS q hq]
  constructor
  · rintro (h | ⟨p, h1, h2⟩)
    · cases h
    · rw [mem_elems] at h1
      exact ⟨p, h1.1, h1.2, h2⟩
  · rintro ⟨p, h1, h2, h3⟩
    exact Or.inr ⟨p, by rw [mem_elems]; exact ⟨h1, h2⟩, h3⟩
def meets (s t : S4) : Bool := s4 (andW s.f t.f) != nilS
theorem meets_iff (s t : S4) : meets s t = true ↔ ∃ p, p < 256 ∧ hasS s p = true ∧ hasS t p = true := by
  have e : meets s t = true ↔ ¬ Eq4 (andW s.f t.f) nilW := by
    unfold meets
    rw [bne_iff_ne, ne_eq]
    refine not_congr ⟨fun h => ?_, fun h => s4_congr h⟩
    exact ((s4_f _).symm.trans (by rw [h]; exact s4_f _))
  rw [e]
  constructor
  · intro h
    refine Classical.byContradiction fun hn => h (eq4_of fun c hc => ?_)
    rw [has_nil, has_and]
    cases h1 : has s.f c with
    | false => rfl
    | true =>
      cases h2 : has t.f c with
      | false => rfl
      | true => exact absurd ⟨c, hc, h1, h2⟩ hn
  · rintro ⟨p, hp, h1, h2⟩ h
    have := Eq4.has h p hp
    rw [has_nil, has_and] at this
    rw [hasS] at h1 h2
    rw [h1, h2] at this
    cases this
/-- A text is gone through. -/
def runS (L B : Nat → S4) (las : S4) : Bool → S4 → List UInt8 → Bool
  | is, _, [] => is
  | _, next, c :: w => runS L B las (meets (hereS L next c.toNat) las) (nextS B (hereS L next c.toNat)) w
theorem run_iff (L B : Nat → S4) (las : S4) (F : Nat → Nat → Prop) (N : Nat) (hN : N ≤ 256) (hF : ∀ p q, p < 256 → q < 256 → (hasS (B p) q = true ↔ F p q)) (hB : ∀ p q, F p q → p < N ∧ q < N) :
    ∀ (w : List UInt8) (is : Bool) (next : S4), runS L B las is next w = true ↔ (w = [] ∧ is = true) ∨ ∃ p q, p < 256 ∧ q < 256 ∧ hasS next p = true ∧ hasS las q = true ∧ Pa L F p w q
  | [], is, next => by
    rw [runS]
    constructor
    · intro h; exact Or.inl ⟨rfl, h⟩
    · rintro (⟨_, h⟩ | ⟨p, q, _, _, _, _, x⟩)
      · exact h
      · exact absurd rfl x.ne
  | c :: w, is, next => by
    rw [runS, run_iff L B las F N hN hF hB w]
    constructor
    · rintro (⟨rfl, h⟩ | ⟨p, q, hp, hq, h1, h2, x⟩)
      · obtain ⟨p, hp, h1, h2⟩ := (meets_iff _ _).1 h
        rw [has_here L next _ p hp] at h1
        exact Or.inr ⟨p, p, hp, hp, h1.1, h2, .one p c h1.2⟩
      · obtain ⟨p0, hp0, h3, h4⟩ := (has_next B _ p hp).1 h1
        rw [has_here L next _ p0 hp0] at h3
        exact Or.inr ⟨p0, q, hp0, hq, h3.1, h2, .more p0 p q c w h3.2 ((hF p0 p hp0 hp).1 h4) x⟩
    · rintro (⟨h, _⟩ | ⟨p, q, hp, hq, h1, h2, x⟩)
      · cases h
      · cases x with
        | one _ _ hc => exact Or.inl ⟨rfl, (meets_iff _ _).2 ⟨p, hp, (has_here L next _ p hp).2 ⟨h1, hc⟩, h2⟩⟩
        | more _ p2 _ _ _ hc hf x =>
          have hp2 : p2 < 256 := by have := hB _ _ hf; omega
          exact Or.inr ⟨p2, q, hp2, hq, (has_next B _ p2 hp2).2 ⟨p, hp, (has_here L next _ p hp).2 ⟨h1, hc⟩, (hF p p2 hp hp2).2 hf⟩, h2, x⟩
/-- What the program tells of a tree and a text. -/
def takesS (L : Nat → S4) (t : Rx) (w : List UInt8) : Bool := runS L (behS 0 t fun _ => nilS) (lasS 0 t) (noneT t) (firS 0 t) w
theorem takes_iff (L : Nat → S4) (t : Rx) (hs : t.size ≤ 256) (hl : Lab L 0 t) (w : List UInt8) : takesS L t w = true ↔ Mt t w := by
  rw [takesS, run_iff L _ _ (Fol 0 t) t.size hs (fun p q hp hq => by rw [beh_has t 0 _ p q hp hq, has_nilS q hq]; simp) (fun p q h => by have := fol_in _ _ _ _ h; omega)]
  have e : ((w = [] ∧ noneT t = true) ∨ ∃ p q, p < 256 ∧ q < 256 ∧ hasS (firS 0 t) p = true ∧ hasS (lasS 0 t) q = true ∧ Pa L (Fol 0 t) p w q) ↔ Acc L 0 t w := by
    rw [Acc]
    refine or_congr Iff.rfl ⟨?_, ?_⟩
    · rintro ⟨p, q, hp, hq, h1, h2, x⟩
      exact ⟨p, q, (fir_has t 0 p hp).1 h1, (las_has t 0 q hq).1 h2, x⟩
    · rintro ⟨p, q, h1, h2, x⟩
      have hp := fir_in _ _ _ h1
      have hq := las_in _ _ _ h2
      exact ⟨p, q, by omega, by omega, (fir_has t 0 p (by omega)).2 h1, (las_has t 0 q (by omega)).2 h2, x⟩
  rw [e]
  exact ⟨mt_of_acc L t 0 w hl, fun h => acc_of_mt h L 0 hl⟩
/-- The sets that a list's nodes have. -/
def labOf (l : List RN) : Nat → S4 := fun p => (l.getD p ⟨0, 0, 0, nilS⟩).set
theorem lab_flat (t : Rx) : ∀ (l r : List RN), Lab (labOf (l ++ flat l.length t ++ r)) l.length t := by
  induction t with
  | nil => intro l r; trivial
  | set s =>
    intro l r
    rw [Lab, labOf, flat, List.append_assoc, List.getD_eq_getElem?_getD, List.getElem?_append_right (Nat.le_refl _)]
    simp
  | seq a b iha ihb =>
    intro l r
    have h1 := iha l (flat (l.length + a.size) b ++ ([⟨3, ((l.length + a.size - 1 : Nat) : Int), ((l.length + a.size + b.size - 1 : Nat) : Int), nilS⟩] ++ r))
    have h2 := ihb (l ++ flat l.length a) ([⟨3, ((l.length + a.size - 1 : Nat) : Int), ((l.length + a.size + b.size - 1 : Nat) : Int), nilS⟩] ++ r)
    rw [List.length_append, flat_len] at h2
    rw [Lab, flat]
    simp only [List.append_assoc] at h1 h2 ⊢
    exact ⟨h1, h2⟩
  | alt a b iha ihb =>
    intro l r
    have h1 := iha l (flat (l.length + a.size) b ++ ([⟨4, ((l.length + a.size - 1 : Nat) : Int), ((l.length + a.size + b.size - 1 : Nat) : Int), nilS⟩] ++ r))
    have h2 := ihb (l ++ flat l.length a) ([⟨4, ((l.length + a.size - 1 : Nat) : Int), ((l.length + a.size + b.size - 1 : Nat) : Int), nilS⟩] ++ r)
    rw [List.length_append, flat_len] at h2
    rw [Lab, flat]
    simp only [List.append_assoc] at h1 h2 ⊢
    exact ⟨h1, h2⟩
  | star a iha =>
    intro l r
    have h1 := iha l ([⟨5, ((l.length + a.size - 1 : Nat) : Int), 0, nilS⟩] ++ r)
    rw [Lab, flat]
    simp only [List.append_assoc] at h1 ⊢
    exact h1
  | plus a iha =>
    intro l r
    have h1 := iha l ([⟨6, ((l.length + a.size - 1 : Nat) : Int), 0, nilS⟩] ++ r)
    rw [Lab, flat]
    simp only [List.append_assoc] at h1 ⊢
    exact h1
theorem takes_flat (t : Rx) (hs : t.size ≤ 256) (w : List UInt8) : takesS (labOf (flat 0 t)) t w = true ↔ Mt t w := by
  refine takes_iff _ t hs ?_ w
  have := lab_flat t [] []
  simpa using this

/-! What follows for the laws. -/
theorem mt_alt {a b : Rx} {w : List UInt8} : Mt (.alt a b) w ↔ Mt a w ∨ Mt b w := by
  constructor
  · intro h
    cases h with
    | altl h => exact Or.inl h
    | altr h => exact Or.inr h
  · rintro (h | h)
    · exact .altl h
    · exact .altr h
theorem mt_seq {a b : Rx} {w : List UInt8} : Mt (.seq a b) w ↔ ∃ u v, w = u ++ v ∧ Mt a u ∧ Mt b v := by
  constructor
  · intro h
    cases h with
    | seq h1 h2 => exact ⟨_, _, rfl, h1, h2⟩
  · rintro ⟨u, v, rfl, h1, h2⟩
    exact .seq h1 h2
theorem mt_seq_seq {a b c : Rx} {w : List UInt8} : Mt (.seq (.seq a b) c) w ↔ Mt (.seq a (.seq b c)) w := by
  simp only [mt_seq]
  constructor
  · rintro ⟨u, v, rfl, ⟨x, y, rfl, h1, h2⟩, h3⟩
    exact ⟨x, y ++ v, by simp, h1, y, v, rfl, h2, h3⟩
  · rintro ⟨u, v, rfl, h1, x, y, rfl, h2, h3⟩
    exact ⟨u ++ x, y, by simp, ⟨u, x, rfl, h1, h2⟩, h3⟩
theorem mt_star_iff {a : Rx} {w : List UInt8} : Mt (.star a) w ↔ w = [] ∨ ∃ u v, w = u ++ v ∧ u ≠ [] ∧ Mt a u ∧ Mt (.star a) v := by
  constructor
  · intro h
    generalize ht : Rx.star a = t at h
    induction h with
    | nil => cases ht
    | set => cases ht
    | seq => cases ht
    | altl => cases ht
    | altr => cases ht
    | plus => cases ht
    | star0 => exact Or.inl rfl
    | @star1 a' u v h1 h2 _ ih =>
      obtain rfl : a = a' := by injection ht
      by_cases hu : u = []
      · subst hu
        exact ih rfl
      · exact Or.inr ⟨u, v, rfl, hu, h1, h2⟩
  · rintro (rfl | ⟨u, v, rfl, _, h1, h2⟩)
    · exact .star0
    · exact .star1 h1 h2
theorem mt_plus_iff {a : Rx} {w : List UInt8} : Mt (.plus a) w ↔ (w = [] ∧ Mt a []) ∨ ∃ u v, w = u ++ v ∧ u ≠ [] ∧ Mt a u ∧ Mt (.star a) v := by
  constructor
  · intro h
    cases h with
    | @plus _ u v h1 h2 =>
      by_cases hu : u = []
      · subst hu
        rcases mt_star_iff.1 h2 with rfl | h
        · exact Or.inl ⟨rfl, h1⟩
        · exact Or.inr h
      · exact Or.inr ⟨u, v, rfl, hu, h1, h2⟩
  · rintro (⟨rfl, h⟩ | ⟨u, v, rfl, _, h1, h2⟩)
    · exact .plus (u := []) h .star0
    · exact .plus h1 h2

end Go.Proofs.YteedmkokbapkgaaDoor
