/- Machines: the law on steps of runs: the walk. -/
import Derived.Test.YtcgfogdfcdndgaaGreatDoorDhDQ
set_option linter.unusedVariables false
set_option linter.unusedSimpArgs false
namespace Go.Proofs.YtcgfogdfcdndgaaGreatDoor
open Go.RowKit
attribute [local go_sem] Oper.semAt_some

theorem load_dv {w : World} {g : Nat} {dv : Array Value} {t : TypeId} {z : Nat × Nat} (h : w.heap[g]? = some (.cells dv t z)) : ∀ j u, dv.toList[j]? = some u → w.cell? ((⟨g, 0, none⟩ : Addr).add j) = some u := fun j u hu => by
  rw [addr_mk, Nat.zero_add, cell_of_row w g j _ _ _ h]
  simpa using hu
end Go.Proofs.YtcgfogdfcdndgaaGreatDoor
