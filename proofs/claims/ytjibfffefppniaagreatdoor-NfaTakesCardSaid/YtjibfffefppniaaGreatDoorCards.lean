/-
  DERIVED. GIVEN WITH THE SEED: THE CARDS: each row of YtjibfffefppniaaGreatDoorRows.lean that lists a variable, with what it lists TIED to the program's text (the seventh form; the later family's looks); each row that meets fmt, with fmt's text TOLD by the authors' own Lean function (tested against real Go, not proved from fmt's source: count such statements apart). THE CARD IS WHAT COUNTS. Prove the row's statement (the work); the ties are given (YtjibfffefppniaaGreatDoorTie.lean); close each card by the builder's one call (the guide's Derived/Test/ToyasCard.lean, 'card_holds'). Laid BY PROGRAM, IN A SANDBOX (cutbox-door.mjs). By AI agents, Wed Nov 11 2026. No macro, syntax, notation, axiom, sorry.
-/
import Derived.Test.YtjibfffefppniaaGreatDoorRows
import GoSem.ClaimSeven
namespace Go.Proofs.YtjibfffefppniaaGreatDoor
namespace Rows

/-- THE TIED CARD OF 'incunablelaw10.NfaTakes'. -/
def nfaTakesCard : Claim7 := { stood := { row := nfaTakesRow, standIns := [], harness := (true, "2887b2db5cc198c971dfe01b6af6ba2b051bcdacb7745e511a60f2d9c5a016d8"), looks := true }, kinds := [], alts := [], laidByText := true, laidKinds := [.data], laidTests := true, laidLooks := .later }
def NfaTakesCardSaid : Prop := Claim7.holds Tryz.pinned (.plain (OpenSpec.ofChange nfaTakesSpec)) nfaTakesCard

/-- THE SECOND FORM's CARD OF 'incunablelaw10.NfaTakes'. -/
def nfaTakesUptoCard : Claim7 := { stood := { row := nfaTakesUptoRow, standIns := [], harness := (true, "2887b2db5cc198c971dfe01b6af6ba2b051bcdacb7745e511a60f2d9c5a016d8"), looks := true }, kinds := [], alts := [], laidByText := true, laidKinds := [.data], laidTests := true, laidLooks := .later }
def NfaTakesUptoCardSaid : Prop := Claim7.holds Tryz.pinned (.plain (OpenSpec.upto nfaTakesSpec)) nfaTakesUptoCard
end Rows
end Go.Proofs.YtjibfffefppniaaGreatDoor
