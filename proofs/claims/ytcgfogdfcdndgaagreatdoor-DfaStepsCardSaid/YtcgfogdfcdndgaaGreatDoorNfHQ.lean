/- A net with its edges by states: what lies while it is made; a list of numbers, cloned. -/
import Derived.Test.YtcgfogdfcdndgaaGreatDoorNfDQ
import Derived.Test.YtcgfogdfcdndgaaGreatDoorSetMQ
import Derived.Deep.WholeRow
import Derived.Laws.ResultCell
import Derived.Deep.AppendLies
import Derived.Lib.SliceRun
set_option linter.unusedVariables false
set_option linter.unusedSimpArgs false
namespace Go.Proofs.YtcgfogdfcdndgaaGreatDoor
open Go.RowKit

end Go.Proofs.YtcgfogdfcdndgaaGreatDoor
