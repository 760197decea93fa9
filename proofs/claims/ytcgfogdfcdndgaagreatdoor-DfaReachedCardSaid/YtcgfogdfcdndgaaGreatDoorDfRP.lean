/- Machines of nets: classes found byte by byte; numbers told row by row. No program in it. -/
import Derived.Test.YtcgfogdfcdndgaaGreatDoorDfMP
set_option linter.unusedVariables false
set_option linter.unusedSimpArgs false
namespace Go.Proofs.YtcgfogdfcdndgaaGreatDoor

theorem row_next (S : Nat) (E : List Ed) (l : List Nat) (F : List (List Nat)) (cs : List Nat) (k : Nat) (hk : k < cs.length) : rowD S E l F (cs.take (k + 1)) = putD (rowD S E l F (cs.take k)) (toD S E cs[k] l) := by
  unfold rowD
  rw [List.take_succ_eq_append_getElem hk, List.foldl_append]
  rfl
theorem row_take (S : Nat) (E : List Ed) (l : List Nat) (F : List (List Nat)) (cs : List Nat) (k : Nat) : rowD S E l F (cs.take k) <+: rowD S E l F cs := by
  have h := row_pre S E l (cs.drop k) (rowD S E l F (cs.take k))
  unfold rowD at h ⊢
  rw [← List.foldl_append, List.take_append_drop] at h
  exact h
/-- A number told in a row is at most one more than the greatest so far, and the greatest behind it is how many are found, less one. -/
theorem row_most {S : Nat} {E : List Ed} {l : List Nat} {F G : List (List Nat)} {cs : List Nat} {k : Nat} (hk : k < cs.length) (hG : rowD S E l F (cs.take (k + 1)) <+: G) (h0 : 1 ≤ F.length) :
    valD G (toD S E cs[k] l) ≤ ((rowD S E l F (cs.take k)).length : Int) ∧ ((rowD S E l F (cs.take (k + 1))).length : Int) - 1 = max (((rowD S E l F (cs.take k)).length : Int) - 1) (valD G (toD S E cs[k] l)) := by
  have h1 := (row_pre S E l (cs.take k) F).length_le
  have hn := row_next S E l F cs k hk
  have hm := put_most (F := rowD S E l F (cs.take k)) (l := toD S E cs[k] l) (m := ((rowD S E l F (cs.take k)).length : Int) - 1) (by omega) (by omega)
  have hv : valD G (toD S E cs[k] l) = valD (rowD S E l F (cs.take (k + 1))) (toD S E cs[k] l) := by
    refine val_pre hG ?_
    rw [hn]
    by_cases h : toD S E cs[k] l = []
    · exact Or.inl h
    · exact Or.inr (put_mem h)
  rw [← hn] at hm
  rw [hv]
  omega
end Go.Proofs.YtcgfogdfcdndgaaGreatDoor
