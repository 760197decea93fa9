/- Words of the grammar language: the word with which a text begins. No condition. -/
import Derived.Test.YtlepaciglkodbaaDoorWdD
set_option linter.unusedVariables false
set_option linter.unusedSimpArgs false
namespace Go.Proofs.YtlepaciglkodbaaDoor
open Go.RowKit

/-- What 'first' answers: a kind and a size; the kind 0, if no word begins there. -/
def GotF (w : World) : Option (Nat × Nat) → Ending → World → Prop
  | none => fun e w' => ∃ m : Nat, GotP w 0 m e w'
  | some (k, n) => GotP w k n
theorem GotP.from {w w1 : World} {x y : Nat} {e : Ending} {w2 : World} (h : GotP w1 x y e w2) (hb : Below w.heap.size w w1) : GotP w x y e w2 := ⟨h.1, bl_trans hb h.2⟩
theorem isPath_run (t : List UInt8) : isPathE (t.take (runN ptB t)) = (decide (0 < runN ptB t) && decide (runN ptB t ≤ 32)) := by
  unfold isPathE
  have hl : (t.take (runN ptB t)).length = runN ptB t := by have := run_le ptB t; simp; omega
  rw [run_all, hl]
  simp
theorem kind_cut (l : List UInt8) : kindE (l.take (letN l)) = if letN l = 0 ∨ 24 < letN l then 0 else kindW (l.take (letN l)) := by
  have hl : (l.take (letN l)).length = letN l := by have := let_le l; simp; omega
  rcases let_app l [] NotLt.nil with h | h
  · rw [List.append_nil] at h
    unfold kindE
    rw [h, hl]
    by_cases h0 : letN l = 0 ∨ 24 < letN l
    · rw [if_pos h0, if_pos (by omega)]
    · rw [if_neg h0, if_neg (by omega)]
  · rw [if_pos (Or.inl h), h, List.take_zero]
    rfl

set_option maxRecDepth 20000 in
theorem first_any (b : UInt8) (t : List UInt8) (w : World) (hT : Tab w) (hm : t.length ≤ 140737488355000) : Calls Tryd.prog 31 #[.string ⟨(b :: t).toArray⟩] w (GotF w (firstE (b :: t))) := by
  generalize hQ : GotF w (firstE (b :: t)) = Q
  have hi0 := letter_at (b :: t) 0 (by simp) 0 rfl
  have hg : (b :: t).getD 0 0 = b := rfl
  rw [hg] at hi0
  have hf1 := from_at (b :: t) 1 (by simp) 1 rfl
  rw [show (b :: t).drop 1 = t from rfl] at hf1
  clear hg
  rw [firstE] at hQ
  by_cases hs : sgB b.toNat = true
  · rw [if_pos hs] at hQ
    unfold sgB at hs
    have HQ := Lib.hid hQ
    clear hQ
    obtain ⟨c1, h1⟩ : ∃ c, (b.toNat == 61) = c := ⟨_, rfl⟩
    obtain ⟨c2, h2⟩ : ∃ c, (b.toNat == 59) = c := ⟨_, rfl⟩
    obtain ⟨c3, h3⟩ : ∃ c, (b.toNat == 58) = c := ⟨_, rfl⟩
    obtain ⟨c4, h4⟩ : ∃ c, (b.toNat == 124) = c := ⟨_, rfl⟩
    have e1 := eqb _ 61 61 rfl _ h1
    have e2 := eqb _ 59 59 rfl _ h2
    have e3 := eqb _ 58 58 rfl _ h3
    have e4 := eqb _ 124 124 rfl _ h4
    rw [h1, h2, h3, h4] at hs
    clear h1 h2 h3 h4
    generalize b.toNat = x at *
    generalize (b :: t) = l at *
    cases c1
    case true =>
      clear hs
      go_enter Tryd.func31, Tryd.ntmps31
      go_wp2_with fail
      exact post_is HQ ⟨rfl, Below.refl _ _⟩
    case false =>
    cases c2
    case true =>
      clear hs
      go_enter Tryd.func31, Tryd.ntmps31
      go_wp2_with fail
      exact post_is HQ ⟨rfl, Below.refl _ _⟩
    case false =>
    cases c3
    case true =>
      clear hs
      go_enter Tryd.func31, Tryd.ntmps31
      go_wp2_with fail
      exact post_is HQ ⟨rfl, Below.refl _ _⟩
    case false =>
    cases c4
    case true =>
      clear hs
      go_enter Tryd.func31, Tryd.ntmps31
      go_wp2_with fail
      exact post_is HQ ⟨rfl, Below.refl _ _⟩
    case false =>
    simp at hs
  · rw [if_neg hs] at hQ
    unfold sgB at hs
    have e1 : ((b.toNat : Int) == 61) = false := eqb _ 61 61 rfl _ (by revert hs; cases h : (b.toNat == 61) <;> simp)
    have e2 : ((b.toNat : Int) == 59) = false := eqb _ 59 59 rfl _ (by revert hs; cases h : (b.toNat == 59) <;> simp)
    have e3 : ((b.toNat : Int) == 58) = false := eqb _ 58 58 rfl _ (by revert hs; cases h : (b.toNat == 58) <;> simp)
    have e4 : ((b.toNat : Int) == 124) = false := eqb _ 124 124 rfl _ (by revert hs; cases h : (b.toNat == 124) <;> simp)
    clear hs
    by_cases h2 : b = 34
    · rw [if_pos h2] at hQ
      have e5 := eq_nat (b := b) (c := 34) 34 rfl h2
      have hle := run_le ptB t
      have hp := fun w => path_any t w (by unfold maxLen; omega)
      have hto := to_at t (runN ptB t) hle (runN ptB t : Int) rfl
      have his := fun w => isPath_any (t.take (runN ptB t)) w (by unfold maxLen; simp; omega)
      have hcl := fun w => closed_any b t 2 (runN ptB t) hle w (by omega)
      rw [isPath_run] at his
      have hQ2 : ∀ h3 : 0 < runN ptB t ∧ runN ptB t ≤ 32, (if (t.drop (runN ptB t)).head? = some b then GotP w 2 (runN ptB t + 2) else GotF w none) = Q := fun h3 => by
        rw [← hQ, h2]
        by_cases h4 : (t.drop (runN ptB t)).head? = some 34
        · rw [if_pos h4, if_pos ⟨h3.1, h3.2, h4⟩]; rfl
        · rw [if_neg h4, if_neg (fun h => h4 h.2.2)]
      have hQ3 : ¬ (0 < runN ptB t ∧ runN ptB t ≤ 32) → GotF w none = Q := fun h3 => by rw [← hQ, if_neg (fun h => h3 ⟨h.1, h.2.1⟩)]
      clear hQ h2
      generalize runN ptB t = n at *
      by_cases h3 : 0 < n ∧ n ≤ 32
      · have hd : (decide (0 < n) && decide (n ≤ 32)) = true := by simp [h3]
        rw [hd] at his
        have hQ := hQ2 h3
        clear hd h3 hQ2 hQ3
        by_cases h4 : (t.drop n).head? = some b
        · simp only [if_pos h4] at hcl
          rw [if_pos h4] at hQ
          have HQ := Lib.hid hQ
          clear hQ h4
          generalize b.toNat = x at *
          generalize (b :: t) = l at *
          generalize t.take n = tk at *
          go_enter Tryd.func31, Tryd.ntmps31
          go_wp2_with fail
          refine (hp _).mono ?_
          rintro e w1 ⟨rfl, hb1⟩
          go_wp2_with fail
          refine (his _).mono ?_
          rintro e w2 ⟨rfl, hb2⟩
          go_wp2_with fail
          refine (hcl _).mono ?_
          rintro e w3 ⟨rfl, hb3⟩
          go_wp2_with fail
          exact post_is HQ ⟨rfl, bl_trans (bl_trans hb1 hb2) hb3⟩
        · simp only [if_neg h4] at hcl
          rw [if_neg h4] at hQ
          have HQ := Lib.hid hQ
          clear hQ h4
          generalize b.toNat = x at *
          generalize (b :: t) = l at *
          generalize t.take n = tk at *
          go_enter Tryd.func31, Tryd.ntmps31
          go_wp2_with fail
          refine (hp _).mono ?_
          rintro e w1 ⟨rfl, hb1⟩
          go_wp2_with fail
          refine (his _).mono ?_
          rintro e w2 ⟨rfl, hb2⟩
          go_wp2_with fail
          refine (hcl _).mono ?_
          rintro e w3 ⟨rfl, hb3⟩
          go_wp2_with fail
          exact post_is HQ ⟨0, rfl, bl_trans (bl_trans hb1 hb2) hb3⟩
      · have hd : (decide (0 < n) && decide (n ≤ 32)) = false := by
          cases h : (decide (0 < n) && decide (n ≤ 32))
          · rfl
          · exact absurd (by simpa using h) h3
        rw [hd] at his
        have HQ := Lib.hid (hQ3 h3)
        clear hd h3 hQ2 hQ3 hcl
        generalize b.toNat = x at *
        generalize (b :: t) = l at *
        generalize t.take n = tk at *
        go_enter Tryd.func31, Tryd.ntmps31
        go_wp2_with fail
        refine (hp _).mono ?_
        rintro e w1 ⟨rfl, hb1⟩
        go_wp2_with fail
        refine (his _).mono ?_
        rintro e w2 ⟨rfl, hb2⟩
        go_wp2_with fail
        exact post_is HQ ⟨0, rfl, bl_trans hb1 hb2⟩
    · rw [if_neg h2] at hQ
      have e5 := ne_nat (b := b) (c := 34) 34 rfl h2
      clear h2
      by_cases h3 : b = 47
      · rw [if_pos h3] at hQ
        have e6 := eq_nat (b := b) (c := 47) 47 rfl h3
        have hle := pat_le t
        have hp := fun w => pattern_any t w (by omega)
        have hcl := fun w => closed_any b t 3 (patN t) hle w (by omega)
        rw [← h3] at hQ
        clear h3
        generalize patN t = n at *
        by_cases h4 : (t.drop n).head? = some b
        · simp only [if_pos h4] at hcl
          rw [if_pos h4] at hQ
          have HQ := Lib.hid hQ
          clear hQ h4
          generalize b.toNat = x at *
          generalize (b :: t) = l at *
          go_enter Tryd.func31, Tryd.ntmps31
          go_wp2_with fail
          refine (hp _).mono ?_
          rintro e w1 ⟨rfl, hb1⟩
          go_wp2_with fail
          refine (hcl _).mono ?_
          rintro e w3 ⟨rfl, hb3⟩
          go_wp2_with fail
          exact post_is HQ ⟨rfl, bl_trans hb1 hb3⟩
        · simp only [if_neg h4] at hcl
          rw [if_neg h4] at hQ
          have HQ := Lib.hid hQ
          clear hQ h4
          generalize b.toNat = x at *
          generalize (b :: t) = l at *
          go_enter Tryd.func31, Tryd.ntmps31
          go_wp2_with fail
          refine (hp _).mono ?_
          rintro e w1 ⟨rfl, hb1⟩
          go_wp2_with fail
          refine (hcl _).mono ?_
          rintro e w3 ⟨rfl, hb3⟩
          go_wp2_with fail
          exact post_is HQ ⟨0, rfl, bl_trans hb1 hb3⟩
      · rw [if_neg h3] at hQ
        have e6 := ne_nat (b := b) (c := 47) 47 rfl h3
        clear h3
        have hll := let_le (b :: t)
        have hp := fun w => let_any (b :: t) w (by unfold maxLen; simp; omega)
        have hto := to_at (b :: t) (letN (b :: t)) hll (letN (b :: t) : Int) rfl
        have hk := fun w hT => kind_any ((b :: t).take (letN (b :: t))) w hT (by simp only [List.length_take, List.length_cons, maxLen] at *; omega)
        rw [kind_cut] at hk
        have HQ : Hid (GotF w (if letN (b :: t) = 0 ∨ 24 < letN (b :: t) then none else some (kindW ((b :: t).take (letN (b :: t))), letN (b :: t))) = Q) := hQ
        clear hQ hll
        generalize b.toNat = x at *
        generalize letN (b :: t) = n at *
        generalize (b :: t) = l at *
        by_cases h4 : n = 0 ∨ 24 < n
        · rw [if_pos h4] at hk HQ
          clear h4
          go_enter Tryd.func31, Tryd.ntmps31
          go_wp2_with fail
          refine (hp _).mono ?_
          rintro e w1 ⟨rfl, hb1⟩
          have hT1 := hT.below hb1
          go_wp2_with fail
          refine (hk _ hT1).mono ?_
          rintro e w2 ⟨rfl, hb2⟩
          go_wp2_with fail
          exact post_is HQ ⟨n, rfl, bl_trans hb1 hb2⟩
        · rw [if_neg h4] at hk HQ
          have H4 := Lib.hid h4
          clear h4
          go_enter Tryd.func31, Tryd.ntmps31
          go_wp2_with fail
          refine (hp _).mono ?_
          rintro e w1 ⟨rfl, hb1⟩
          have hT1 := hT.below hb1
          go_wp2_with fail
          refine (hk _ hT1).mono ?_
          rintro e w2 ⟨rfl, hb2⟩
          go_wp2_with fail
          exact post_is HQ ⟨rfl, bl_trans hb1 hb2⟩


end Go.Proofs.YtlepaciglkodbaaDoor
