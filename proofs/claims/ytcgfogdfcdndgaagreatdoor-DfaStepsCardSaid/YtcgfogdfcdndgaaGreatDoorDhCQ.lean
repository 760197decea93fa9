/- Machines: the law on runs: the walk. -/
import Derived.Test.YtcgfogdfcdndgaaGreatDoorDhBQ
import Derived.Test.YtcgfogdfcdndgaaGreatDoorRowQ
set_option linter.unusedVariables false
set_option linter.unusedSimpArgs false
namespace Go.Proofs.YtcgfogdfcdndgaaGreatDoor
open Go.RowKit
attribute [local go_sem] Oper.semAt_some

theorem rows_le {T : List (List Int)} (h : ∀ r ∈ T, r.length * 8 ≤ 140737488351232) : ∀ r ∈ T, r.length ≤ 140737488355328 := fun r hr => by
  have := h r hr
  omega
end Go.Proofs.YtcgfogdfcdndgaaGreatDoor
