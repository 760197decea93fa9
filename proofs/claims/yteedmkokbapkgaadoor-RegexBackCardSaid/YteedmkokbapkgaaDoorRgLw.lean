/- Plain facts for the laws: what was printed reads as it was; patterns put together are the trees put together. No program in it. -/
import Derived.Test.YteedmkokbapkgaaDoorRgJm
set_option linter.unusedVariables false
set_option linter.unusedSimpArgs false
namespace Go.Proofs.YteedmkokbapkgaaDoor
open Go.RowKit

theorem tree_or {l : List RN} (h : checkE l = 0) : ∃ t : Rx, l = flat 0 t ∧ t.size = l.length ∧ t.size ≤ 256 := by
  obtain ⟨h1, h2⟩ := check_zero h
  obtain ⟨t, rfl⟩ := flat_of_tree _ h2
  exact ⟨t, rfl, (flat_len t 0).symm, by rw [flat_len] at h1; exact h1⟩
theorem check_flat {t : Rx} (h : t.size ≤ 256) : checkE (flat 0 t) = 0 := by
  rw [checkE, if_neg (by rw [flat_len]; omega), if_pos (tree_of_flat t)]
theorem parse_back (t : Rx) (hs : t.size ≤ 256) : ∃ f, parM f .ways (bareW t) ≠ .out ∧ ParseE (bareW t) (ReadE (parM f .ways (bareW t))) = (flat 0 t, 0, 0) := by
  obtain ⟨N, h⟩ := text_back t
  refine ⟨N, ?_, ?_⟩
  · rw [h N (Nat.le_refl _)]; simp
  · rw [h N (Nat.le_refl _), ReadE, ParseE, if_neg (by omega)]
theorem moved_flat (t : Rx) : ∀ (k j : Nat), (flat j t).map (fun x => movedN x k) = flat (k + j) t := by
  induction t with
  | nil => intro k j; simp [flat, movedN]
  | set s => intro k j; simp [flat, movedN]
  | seq a b iha ihb =>
    intro k j
    have ha := a.size_pos
    have hb := b.size_pos
    rw [flat, flat, List.map_append, List.map_append, iha, ihb, Nat.add_assoc k j a.size]
    congr 1
    simp [movedN]
    constructor <;> omega
  | alt a b iha ihb =>
    intro k j
    have ha := a.size_pos
    have hb := b.size_pos
    rw [flat, flat, List.map_append, List.map_append, iha, ihb, Nat.add_assoc k j a.size]
    congr 1
    simp [movedN]
    constructor <;> omega
  | star a iha =>
    intro k j
    have ha := a.size_pos
    rw [flat, flat, List.map_append, iha]
    congr 1
    simp [movedN]
    omega
  | plus a iha =>
    intro k j
    have ha := a.size_pos
    rw [flat, flat, List.map_append, iha]
    congr 1
    simp [movedN]
    omega
theorem join_alt (a b : Rx) : joinE 4 (flat 0 a) (flat 0 b) = flat 0 (.alt a b) := by
  have ha := a.size_pos
  have hb := b.size_pos
  rw [joinE, moved_flat, flat_len, flat_len, flat, Nat.add_zero, Nat.zero_add]
theorem join_seq (a b : Rx) : joinE 3 (flat 0 a) (flat 0 b) = flat 0 (.seq a b) := by
  have ha := a.size_pos
  have hb := b.size_pos
  rw [joinE, moved_flat, flat_len, flat_len, flat, Nat.add_zero, Nat.zero_add]
theorem over_star (a : Rx) (n : Nat) (hn : a.size = n) : flat 0 a ++ [⟨5, ((n - 1 : Nat) : Int), 0, nilS⟩] = flat 0 (.star a) := by
  rw [flat, Nat.zero_add, hn]
theorem over_plus (a : Rx) (n : Nat) (hn : a.size = n) : flat 0 a ++ [⟨6, ((n - 1 : Nat) : Int), 0, nilS⟩] = flat 0 (.plus a) := by
  rw [flat, Nat.zero_add, hn]
/-- Whether a tree takes a text. -/
noncomputable def tk (t : Rx) (w : List UInt8) : Bool := @decide (Mt t w) (Classical.propDecidable _)
theorem tk_iff (t : Rx) (w : List UInt8) : tk t w = true ↔ Mt t w := by unfold tk; exact @decide_eq_true_iff _ (Classical.propDecidable _)
theorem tk_congr {t u : Rx} {w v : List UInt8} (h : Mt t w ↔ Mt u v) : tk t w = tk u v := by
  rw [Bool.eq_iff_iff, tk_iff, tk_iff]
  exact h
theorem takes_tk (t : Rx) (w : List UInt8) (hs : t.size ≤ 256) (hw : w.length ≤ 8192) : takesE (flat 0 t) w = (tk t w, 0) := by
  rw [takesE, check_flat hs, if_neg (by simp), if_neg (by omega), takesL_flat]
  congr 1
  rw [Bool.eq_iff_iff, takes_flat t hs, tk_iff]
theorem flat_small {t : Rx} (hs : t.size ≤ 1000000) : ∀ x ∈ flat 0 t, (0 ≤ x.a ∧ x.a ≤ 1000000) ∧ 0 ≤ x.b ∧ x.b ≤ 1000000 := fun x hx => by
  obtain ⟨h1, h2, h3, h4⟩ := flat_ab t 0 x hx
  rw [Nat.zero_add] at h2 h4
  exact ⟨⟨h1, by omega⟩, h3, by omega⟩

end Go.Proofs.YteedmkokbapkgaaDoor
