/- The law's few: few patterns, of few nodes, that may be. -/
import Derived.Test.YtjibfffefppniaaGreatNfCmM
import Derived.BigQuiet
set_option linter.unusedVariables false
set_option linter.unusedSimpArgs false
namespace Go.Proofs.YtjibfffefppniaaGreat
open Go.RowKit
attribute [local go_sem] Oper.semAt_some

def fewP (l : List RN) : Bool := decide (l.length ≤ 60) && decide (checkE l = 0)
def fewE (Ls : List (List RN)) : Bool := decide (Ls.length ≤ 6) && Ls.all fewP
theorem few_true {Ls : List (List RN)} (h : fewE Ls = true) : Ls.length ≤ 6 ∧ ∀ l ∈ Ls, l.length ≤ 60 ∧ checkE l = 0 := by
  unfold fewE at h
  rw [Bool.and_eq_true, decide_eq_true_iff, List.all_eq_true] at h
  refine ⟨h.1, fun l hl => ?_⟩
  have := h.2 l hl
  unfold fewP at this
  rwa [Bool.and_eq_true, decide_eq_true_iff, decide_eq_true_iff] at this
end Go.Proofs.YtjibfffefppniaaGreat
