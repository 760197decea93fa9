/- Plain facts for the laws: what was printed reads as it was; patterns put together are the trees put together; how a text that a pattern takes is cut. No program in it. -/
import Derived.Test.YteedmkokbapkgaaDoorRgJm
set_option linter.unusedVariables false
set_option linter.unusedSimpArgs false
namespace Go.Proofs.YteedmkokbapkgaaDoor
open Go.RowKit

theorem tree_or {l : List RN} (h : checkE l = 0) : ∃ t : Rx, l = flat 0 t ∧ t.size = l.length ∧ t.size ≤ 256 := by
  obtain ⟨h1, h2⟩ := check_zero h
  obtain ⟨t, rfl⟩ := flat_of_tree _ h2
  exact ⟨t, rfl, (flat_len t 0).symm, by rw [flat_len] at h1; exact h1⟩
theorem check_flat {t : Rx} (h : t.size ≤ 256) : checkE (flat 0 t) = 0 := by
  rw [checkE, if_neg (by rw [flat_len]; omega), if_pos (tree_of_flat t)]
theorem parse_back (t : Rx) (hs : t.size ≤ 256) : ∃ f, parM f .ways (bareW t) ≠ .out ∧ ParseE (bareW t) (ReadE (parM f .ways (bareW t))) = (flat 0 t, 0, 0) := by
  obtain ⟨N, h⟩ := text_back t
  refine ⟨N, ?_, ?_⟩
  · rw [h N (Nat.le_refl _)]; simp
  · rw [h N (Nat.le_refl _), ReadE, ParseE, if_neg (by omega)]
theorem moved_flat (t : Rx) : ∀ (k j : Nat), (flat j t).map (fun x => movedN x k) = flat (k + j) t := by
  induction t with
  | nil => intro k j; simp [flat, movedN]
  | set s => intro k j; simp [flat, movedN]
  | seq a b iha ihb =>
    intro k j
    have ha := a.size_pos
    have hb := b.size_pos
    rw [flat, flat, List.map_append, List.map_append, iha, ihb, Nat.add_assoc k j a.size]
    congr 1
    simp [movedN]
    constructor <;> omega
  | alt a b iha ihb =>
    intro k j
    have ha := a.size_pos
    have hb := b.size_pos
    rw [flat, flat, List.map_append, List.map_append, iha, ihb, Nat.add_assoc k j a.size]
    congr 1
    simp [movedN]
    constructor <;> omega
  | star a iha =>
    intro k j
    have ha := a.size_pos
    rw [flat, flat, List.map_append, iha]
    congr 1
    simp [movedN]
    omega
  | plus a iha =>
    intro k j
    have ha := a.size_pos
    rw [flat, flat, List.map_append, iha]
    congr 1
    simp [movedN]
    omega
theorem join_alt (a b : Rx) : joinE 4 (flat 0 a) (flat 0 b) = flat 0 (.alt a b) := by
  have ha := a.size_pos
  have hb := b.size_pos
  rw [joinE, moved_flat, flat_len, flat_len, flat, Nat.add_zero, Nat.zero_add]
theorem join_seq (a b : Rx) : joinE 3 (flat 0 a) (flat 0 b) = flat 0 (.seq a b) := by
  have ha := a.size_pos
  have hb := b.size_pos
  rw [joinE, moved_flat, flat_len, flat_len, flat, Nat.add_zero, Nat.zero_add]
theorem over_star (a : Rx) (n : Nat) (hn : a.size = n) : flat 0 a ++ [⟨5, ((n - 1 : Nat) : Int), 0, nilS⟩] = flat 0 (.star a) := by
  rw [flat, Nat.zero_add, hn]
theorem over_plus (a : Rx) (n : Nat) (hn : a.size = n) : flat 0 a ++ [⟨6, ((n - 1 : Nat) : Int), 0, nilS⟩] = flat 0 (.plus a) := by
  rw [flat, Nat.zero_add, hn]
/-- Whether a tree takes a text. -/
noncomputable def tk (t : Rx) (w : List UInt8) : Bool := @decide (Mt t w) (Classical.propDecidable _)
theorem tk_iff (t : Rx) (w : List UInt8) : tk t w = true ↔ Mt t w := by unfold tk; exact @decide_eq_true_iff _ (Classical.propDecidable _)
theorem tk_congr {t u : Rx} {w v : List UInt8} (h : Mt t w ↔ Mt u v) : tk t w = tk u v := by
  rw [Bool.eq_iff_iff, tk_iff, tk_iff]
  exact h
theorem takes_tk (t : Rx) (w : List UInt8) (hs : t.size ≤ 256) (hw : w.length ≤ 8192) : takesE (flat 0 t) w = (tk t w, 0) := by
  rw [takesE, check_flat hs, if_neg (by simp), if_neg (by omega), takesL_flat]
  congr 1
  rw [Bool.eq_iff_iff, takes_flat t hs, tk_iff]
theorem flat_small {t : Rx} (hs : t.size ≤ 1000000) : ∀ x ∈ flat 0 t, (0 ≤ x.a ∧ x.a ≤ 1000000) ∧ 0 ≤ x.b ∧ x.b ≤ 1000000 := fun x hx => by
  obtain ⟨h1, h2, h3, h4⟩ := flat_ab t 0 x hx
  rw [Nat.zero_add] at h2 h4
  exact ⟨⟨h1, by omega⟩, h3, by omega⟩

/-- The cuts ahead of a place at which one part takes what is ahead and the other what is behind. -/
noncomputable def cutK (a b : Rx) (T : List UInt8) (k : Nat) : Bool := (List.range k).any fun j => tk a (T.take j) && tk b (T.drop j)
noncomputable def manyK (a : Rx) (T : List UInt8) (k : Nat) : Bool := decide (T.length = 0) || (List.range k).any fun j => decide (0 < j) && tk a (T.take j) && tk (.star a) (T.drop j)
theorem cutK_zero (a b : Rx) (T : List UInt8) : cutK a b T 0 = false := rfl
theorem cutK_succ (a b : Rx) (T : List UInt8) (k : Nat) : cutK a b T (k + 1) = (cutK a b T k || (tk a (T.take k) && tk b (T.drop k))) := by
  rw [cutK, List.range_succ, List.any_append]; simp [cutK]
theorem manyK_zero (a : Rx) (T : List UInt8) : manyK a T 0 = decide (T.length = 0) := by simp [manyK]
theorem manyK_succ (a : Rx) (T : List UInt8) (k : Nat) : manyK a T (k + 1) = (manyK a T k || (decide (0 < k) && tk a (T.take k) && tk (.star a) (T.drop k))) := by
  rw [manyK, List.range_succ, List.any_append]; simp [manyK, Bool.or_assoc]
theorem parts_alt (a b : Rx) (T : List UInt8) : tk (.alt a b) T = (tk a T || tk b T) := by
  rw [Bool.eq_iff_iff, tk_iff, mt_alt, Bool.or_eq_true, tk_iff, tk_iff]
theorem cuts {P : List UInt8 → List UInt8 → Prop} (T : List UInt8) : (∃ u v, T = u ++ v ∧ P u v) ↔ ∃ j, j < T.length + 1 ∧ P (T.take j) (T.drop j) := by
  constructor
  · rintro ⟨u, v, rfl, h⟩
    exact ⟨u.length, by simp; omega, by simpa using h⟩
  · rintro ⟨j, _, h⟩
    exact ⟨_, _, (List.take_append_drop j T).symm, h⟩
theorem parts_seq (a b : Rx) (T : List UInt8) : tk (.seq a b) T = cutK a b T (T.length + 1) := by
  rw [Bool.eq_iff_iff, tk_iff, mt_seq, cutK, List.any_eq_true]
  rw [cuts (P := fun u v => Mt a u ∧ Mt b v)]
  simp only [List.mem_range, Bool.and_eq_true, tk_iff]
theorem parts_star (a : Rx) (T : List UInt8) : tk (.star a) T = manyK a T (T.length + 1) := by
  rw [Bool.eq_iff_iff, tk_iff, mt_star_iff, manyK, Bool.or_eq_true, List.any_eq_true, decide_eq_true_iff, List.length_eq_zero_iff]
  rw [cuts (P := fun u v => u ≠ [] ∧ Mt a u ∧ Mt (.star a) v)]
  simp only [List.mem_range, Bool.and_eq_true, tk_iff, decide_eq_true_iff]
  by_cases hT : T = []
  · simp [hT]
  simp only [hT, false_or]
  constructor
  · rintro ⟨j, hj, h1, h2, h3⟩
    refine ⟨j, hj, ⟨?_, h2⟩, h3⟩
    rcases Nat.eq_zero_or_pos j with rfl | h
    · exact absurd rfl h1
    · exact h
  · rintro ⟨j, hj, ⟨h1, h2⟩, h3⟩
    refine ⟨j, hj, ?_, h2, h3⟩
    intro e
    have := congrArg List.length e
    simp only [List.length_take, List.length_nil] at this
    have : T.length = 0 := by omega
    exact hT (List.length_eq_zero_iff.1 this)
theorem parts_plus (a : Rx) (T : List UInt8) : tk (.plus a) T = (manyK a T (T.length + 1) && (decide (0 < T.length) || tk a [])) := by
  rw [← parts_star]
  rw [Bool.eq_iff_iff, tk_iff, mt_plus_iff, Bool.and_eq_true, Bool.or_eq_true, tk_iff, tk_iff, mt_star_iff, decide_eq_true_iff]
  constructor
  · rintro (⟨rfl, h⟩ | ⟨u, v, rfl, h1, h2, h3⟩)
    · exact ⟨Or.inl rfl, Or.inr h⟩
    · refine ⟨Or.inr ⟨u, v, rfl, h1, h2, h3⟩, Or.inl ?_⟩
      have := List.length_pos_iff.2 h1
      simp; omega
  · rintro ⟨rfl | h, h2⟩
    · rcases h2 with h2 | h2
      · simp at h2
      · exact Or.inl ⟨rfl, h2⟩
    · exact Or.inr h
theorem order_alt (a b c : Rx) (T : List UInt8) : tk (.alt (.alt a b) c) T = tk (.alt c (.alt b a)) T := by
  simp only [parts_alt]
  cases tk a T <;> cases tk b T <;> cases tk c T <;> rfl
theorem order_seq (a b c : Rx) (T : List UInt8) : tk (.seq (.seq a b) c) T = tk (.seq a (.seq b c)) T := tk_congr mt_seq_seq

end Go.Proofs.YteedmkokbapkgaaDoor
