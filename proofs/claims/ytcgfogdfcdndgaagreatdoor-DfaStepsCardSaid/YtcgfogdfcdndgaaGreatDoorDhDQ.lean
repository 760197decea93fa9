/- Machines: nets in boxes, beginnings of texts (as in NfCm). -/
import Derived.Test.YtcgfogdfcdndgaaGreatDoorDhCQ
set_option linter.unusedVariables false
set_option linter.unusedSimpArgs false
namespace Go.Proofs.YtcgfogdfcdndgaaGreatDoor
open Go.RowKit
attribute [local go_sem] Oper.semAt_some

section
variable {W : World} {g : Nat} {S : Int} {E : List Ed} {X : List Int} {A A2 : Option Addr} {n c n2 c2 : Nat} {w w' : World}
end
end Go.Proofs.YtcgfogdfcdndgaaGreatDoor
