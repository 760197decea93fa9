/- The writer of patterns: a tree's text; hold, node, bare. Under: math/bits' table as it was laid. -/
import Derived.Test.YteedmkokbapkgaaDoorRgWu
set_option linter.unusedVariables false
set_option linter.unusedSimpArgs false
namespace Go.Proofs.YteedmkokbapkgaaDoor
open Go.RowKit

def holdT : Rx → Nat
  | .alt _ _ => 0
  | .seq _ _ => 1
  | _ => 2
def nodeOf (least : Nat) (t : Rx) (x : List UInt8) : List UInt8 := if least ≤ holdT t then x else 40 :: (x ++ [41])
def bareW : Rx → List UInt8
  | .nil => [40, 41]
  | .set s => setW s
  | .seq a b => nodeOf 1 a (bareW a) ++ nodeOf 2 b (bareW b)
  | .alt a b => nodeOf 0 a (bareW a) ++ 124 :: nodeOf 1 b (bareW b)
  | .star a => nodeOf 2 a (bareW a) ++ [42]
  | .plus a => nodeOf 2 a (bareW a) ++ [43]
theorem setW_len (s : S4) : (setW s).length ≤ 2400 := by
  have h1 := strW_len 256 s
  have h2 := strW_len 256 (notS s)
  have h3 := oneW_len sgA (UInt8.ofNat ((elems s.f).headD 0))
  unfold setW
  split
  · omega
  · split
    · simp
    · split <;> (simp; omega)
theorem nodeOf_len (least : Nat) (t : Rx) (x : List UInt8) : (nodeOf least t x).length ≤ x.length + 2 := by
  unfold nodeOf
  split <;> simp
theorem bareW_len (t : Rx) : (bareW t).length + 2 ≤ 2410 * t.size := by
  induction t with
  | nil => simp [bareW, Rx.size]
  | set s => have := setW_len s; simp [bareW, Rx.size]; omega
  | seq a b iha ihb =>
    have h1 := nodeOf_len 1 a (bareW a)
    have h2 := nodeOf_len 2 b (bareW b)
    rw [bareW, List.length_append, Rx.size]
    omega
  | alt a b iha ihb =>
    have h1 := nodeOf_len 0 a (bareW a)
    have h2 := nodeOf_len 1 b (bareW b)
    rw [bareW, List.length_append, List.length_cons, Rx.size]
    omega
  | star a iha =>
    have h1 := nodeOf_len 2 a (bareW a)
    rw [bareW, List.length_append, Rx.size]
    simp
    omega
  | plus a iha =>
    have h1 := nodeOf_len 2 a (bareW a)
    rw [bareW, List.length_append, Rx.size]
    simp
    omega
/-- A tree's nodes lie in a list, from place k on. -/
def Sits (l : List RN) (k : Nat) (t : Rx) : Prop := ∀ j nd, (flat k t)[j]? = some nd → l[k + j]? = some nd
def rootN : Nat → Rx → RN
  | _, .nil => ⟨1, 0, 0, nilS⟩
  | _, .set s => ⟨2, 0, 0, s⟩
  | k, .seq a b => ⟨3, ((k + a.size - 1 : Nat) : Int), ((k + a.size + b.size - 1 : Nat) : Int), nilS⟩
  | k, .alt a b => ⟨4, ((k + a.size - 1 : Nat) : Int), ((k + a.size + b.size - 1 : Nat) : Int), nilS⟩
  | k, .star a => ⟨5, ((k + a.size - 1 : Nat) : Int), 0, nilS⟩
  | k, .plus a => ⟨6, ((k + a.size - 1 : Nat) : Int), 0, nilS⟩
theorem flat_root (k : Nat) (t : Rx) : ∃ xs, flat k t = xs ++ [rootN k t] ∧ xs.length + 1 = t.size := by
  cases t with
  | nil => exact ⟨[], rfl, rfl⟩
  | set s => exact ⟨[], rfl, rfl⟩
  | seq a b => exact ⟨_, rfl, by simp [flat_len, Rx.size]⟩
  | alt a b => exact ⟨_, rfl, by simp [flat_len, Rx.size]⟩
  | star a => exact ⟨_, rfl, by simp [flat_len, Rx.size]⟩
  | plus a => exact ⟨_, rfl, by simp [flat_len, Rx.size]⟩
theorem Sits.root {l : List RN} {k : Nat} {t : Rx} (h : Sits l k t) : l[k + t.size - 1]? = some (rootN k t) := by
  obtain ⟨xs, h1, h2⟩ := flat_root k t
  have := h xs.length (rootN k t) (by rw [h1, List.getElem?_append_right (Nat.le_refl _)]; simp)
  rw [show k + t.size - 1 = k + xs.length by omega]
  exact this
theorem Sits.seq {l : List RN} {k : Nat} {a b : Rx} (h : Sits l k (.seq a b)) : Sits l k a ∧ Sits l (k + a.size) b := by
  refine ⟨fun j nd hj => ?_, fun j nd hj => ?_⟩
  · refine h j nd ?_
    have hl := (List.getElem?_eq_some_iff.1 hj).1
    rw [flat, List.append_assoc, List.getElem?_append_left hl]
    exact hj
  · have hl := (List.getElem?_eq_some_iff.1 hj).1
    have := h (a.size + j) nd (by
      rw [flat, List.append_assoc, List.getElem?_append_right (by rw [flat_len]; omega), flat_len, Nat.add_sub_cancel_left, List.getElem?_append_left hl]
      exact hj)
    rwa [Nat.add_assoc]
theorem Sits.alt {l : List RN} {k : Nat} {a b : Rx} (h : Sits l k (.alt a b)) : Sits l k a ∧ Sits l (k + a.size) b := by
  refine ⟨fun j nd hj => ?_, fun j nd hj => ?_⟩
  · refine h j nd ?_
    have hl := (List.getElem?_eq_some_iff.1 hj).1
    rw [flat, List.append_assoc, List.getElem?_append_left hl]
    exact hj
  · have hl := (List.getElem?_eq_some_iff.1 hj).1
    have := h (a.size + j) nd (by
      rw [flat, List.append_assoc, List.getElem?_append_right (by rw [flat_len]; omega), flat_len, Nat.add_sub_cancel_left, List.getElem?_append_left hl]
      exact hj)
    rwa [Nat.add_assoc]
theorem Sits.star {l : List RN} {k : Nat} {a : Rx} (h : Sits l k (.star a)) : Sits l k a := fun j nd hj => by
  refine h j nd ?_
  have hl := (List.getElem?_eq_some_iff.1 hj).1
  rw [flat, List.getElem?_append_left hl]
  exact hj
theorem Sits.plus {l : List RN} {k : Nat} {a : Rx} (h : Sits l k (.plus a)) : Sits l k a := fun j nd hj => by
  refine h j nd ?_
  have hl := (List.getElem?_eq_some_iff.1 hj).1
  rw [flat, List.getElem?_append_left hl]
  exact hj

def holdI (k : Int) : Nat := if k = 4 then 0 else if k = 3 then 1 else 2
theorem hold_root (k : Nat) (t : Rx) : holdI (rootN k t).kind = holdT t := by cases t <;> rfl
set_option maxRecDepth 20000 in
theorem hold_any (k : Int) (w : World) : Calls Tryd.prog 43 #[.int .i64 k] w fun e w' => e = .returned (.int .i64 ((holdI k : Nat) : Int)) ∧ w = w' := by
  unfold holdI
  by_cases h4 : k = 4
  · subst h4
    go_enter Tryd.func43, Tryd.ntmps43
    go_wp2_with fail
    go_ret
    exact ⟨by simp, rfl⟩
  · have e4 := int_ne h4
    by_cases h3 : k = 3
    · subst h3
      go_enter Tryd.func43, Tryd.ntmps43
      go_wp2_with fail
      go_ret
      exact ⟨by simp, rfl⟩
    · have e3 := int_ne h3
      rw [if_neg h4, if_neg h3]
      go_enter Tryd.func43, Tryd.ntmps43
      go_wp2_with fail
      go_ret
      exact ⟨by simp, rfl⟩

end Go.Proofs.YteedmkokbapkgaaDoor
