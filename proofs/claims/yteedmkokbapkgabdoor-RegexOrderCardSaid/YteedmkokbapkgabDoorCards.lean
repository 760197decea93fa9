/-
  DERIVED. GIVEN WITH THE SEED: THE CARDS: each row of YteedmkokbapkgabDoorRows.lean that lists a variable, with what it lists TIED to the program's text (the seventh form; the later family's looks); each row that meets fmt, with fmt's text TOLD by the authors' own Lean function (tested against real Go, not proved from fmt's source: count such statements apart). THE CARD IS WHAT COUNTS. Prove the row's statement (the work); the ties are given (YteedmkokbapkgabDoorTie.lean); close each card by the builder's one call (the guide's Derived/Test/ToyasCard.lean, 'card_holds'). Laid BY PROGRAM, IN A SANDBOX (cutbox-door.mjs). By AI agents, Wed Nov 11 2026. No macro, syntax, notation, axiom, sorry.
-/
import Derived.Test.YteedmkokbapkgabDoorRows
import GoSem.ClaimSeven
namespace Go.Proofs.YteedmkokbapkgabDoor
namespace Rows

/-- THE TIED CARD OF 'incunablelaw09.RegexOrder'. -/
def regexOrderCard : Claim7 := { stood := { row := regexOrderRow, standIns := [], harness := (true, "02779f7142c5dfc6add145e6c27f5b30d70317c79b448def066e07d359a83ba2"), looks := true }, kinds := [], alts := [], laidByText := true, laidKinds := [.data], laidTests := true, laidLooks := .later }
def RegexOrderCardSaid : Prop := Claim7.holds Tryd.pinned (.plain (OpenSpec.ofChange regexOrderSpec)) regexOrderCard

/-- THE SECOND FORM's CARD OF 'incunablelaw09.RegexOrder'. -/
def regexOrderUptoCard : Claim7 := { stood := { row := regexOrderUptoRow, standIns := [], harness := (true, "02779f7142c5dfc6add145e6c27f5b30d70317c79b448def066e07d359a83ba2"), looks := true }, kinds := [], alts := [], laidByText := true, laidKinds := [.data], laidTests := true, laidLooks := .later }
def RegexOrderUptoCardSaid : Prop := Claim7.holds Tryd.pinned (.plain (OpenSpec.upto regexOrderSpec)) regexOrderUptoCard
end Rows
end Go.Proofs.YteedmkokbapkgabDoor
