/-
  DERIVED. GIVEN WITH THE SEED: THE CARDS: each row of YtcgoacfcdlbhdabDoorRows.lean that lists a variable, with what it lists TIED to the program's text (the seventh form; the later family's looks); each row that meets fmt, with fmt's text TOLD by the authors' own Lean function (tested against real Go, not proved from fmt's source: count such statements apart). THE CARD IS WHAT COUNTS. Prove the row's statement (the work); the ties are given (YtcgoacfcdlbhdabDoorTie.lean); close each card by the builder's one call (the guide's Derived/Test/ToyasCard.lean, 'card_holds'). Laid BY PROGRAM, IN A SANDBOX (cutbox-door.mjs). By AI agents, Wed Nov 11 2026. No macro, syntax, notation, axiom, sorry.
-/
import Derived.Test.YtcgoacfcdlbhdabDoorRows
import GoSem.ClaimSeven
namespace Go.Proofs.YtcgoacfcdlbhdabDoor
namespace Rows

/-- THE TIED CARD OF 'incunablelaw08.SetsSpan'. -/
def setsSpanCard : Claim7 := { stood := { row := setsSpanRow, standIns := [], harness := (true, "9653d06e3ef9a7e1abef788ee2a175f28dd5dab19400052567aaa7d79c9e71e2"), looks := false }, kinds := [], alts := [], laidByText := true, laidKinds := [.data], laidTests := true, laidLooks := .later }
def SetsSpanCardSaid : Prop := Claim7.holds Tryd.pinned (.plain (OpenSpec.ofChange setsSpanSpec)) setsSpanCard

/-- THE TIED CARD OF 'incunablelaw08.SetsKnown'. -/
def setsKnownCard : Claim7 := { stood := { row := setsKnownRow, standIns := [], harness := (true, "9653d06e3ef9a7e1abef788ee2a175f28dd5dab19400052567aaa7d79c9e71e2"), looks := false }, kinds := [], alts := [], laidByText := true, laidKinds := [.data], laidTests := true, laidLooks := .later }
def SetsKnownCardSaid : Prop := Claim7.holds Tryd.pinned (.plain (OpenSpec.ofChange setsKnownSpec)) setsKnownCard

/-- THE SECOND FORM's CARD OF 'incunablelaw08.SetsSpan'. -/
def setsSpanUptoCard : Claim7 := { stood := { row := setsSpanUptoRow, standIns := [], harness := (true, "9653d06e3ef9a7e1abef788ee2a175f28dd5dab19400052567aaa7d79c9e71e2"), looks := false }, kinds := [], alts := [], laidByText := true, laidKinds := [.data], laidTests := true, laidLooks := .later }
def SetsSpanUptoCardSaid : Prop := Claim7.holds Tryd.pinned (.plain (OpenSpec.upto setsSpanSpec)) setsSpanUptoCard

/-- THE SECOND FORM's CARD OF 'incunablelaw08.SetsKnown'. -/
def setsKnownUptoCard : Claim7 := { stood := { row := setsKnownUptoRow, standIns := [], harness := (true, "9653d06e3ef9a7e1abef788ee2a175f28dd5dab19400052567aaa7d79c9e71e2"), looks := false }, kinds := [], alts := [], laidByText := true, laidKinds := [.data], laidTests := true, laidLooks := .later }
def SetsKnownUptoCardSaid : Prop := Claim7.holds Tryd.pinned (.plain (OpenSpec.upto setsKnownSpec)) setsKnownUptoCard
end Rows
end Go.Proofs.YtcgoacfcdlbhdabDoor
