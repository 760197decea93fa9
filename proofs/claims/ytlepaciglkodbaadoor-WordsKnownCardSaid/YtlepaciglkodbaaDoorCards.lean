/-
  DERIVED. GIVEN WITH THE SEED: THE CARDS: each row of YtlepaciglkodbaaDoorRows.lean that lists a variable, with what it lists TIED to the program's text (the seventh form; the later family's looks); each row that meets fmt, with fmt's text TOLD by the authors' own Lean function (tested against real Go, not proved from fmt's source: count such statements apart). THE CARD IS WHAT COUNTS. Prove the row's statement (the work); the ties are given (YtlepaciglkodbaaDoorTie.lean); close each card by the builder's one call (the guide's Derived/Test/ToyasCard.lean, 'card_holds'). Laid BY PROGRAM, IN A SANDBOX (cutbox-door.mjs). By AI agents, Wed Nov 11 2026. No macro, syntax, notation, axiom, sorry.
-/
import Derived.Test.YtlepaciglkodbaaDoorRows
import GoSem.ClaimSeven
namespace Go.Proofs.YtlepaciglkodbaaDoor
namespace Rows

/-- THE TIED CARD OF 'incunablelaw14.WordsCut'. -/
def wordsCutCard : Claim7 := { stood := { row := wordsCutRow, standIns := [], harness := (true, "529c198eeeaa7cf63857e4af930b2a3b956c432339c2c895d7a4b1a46777a869"), looks := false }, kinds := [], alts := [], laidByText := true, laidKinds := [.data], laidTests := true, laidLooks := .later }
def WordsCutCardSaid : Prop := Claim7.holds Tryd.pinned (.plain (OpenSpec.ofChange wordsCutSpec)) wordsCutCard

/-- THE TIED CARD OF 'incunablelaw14.WordsMay'. -/
def wordsMayCard : Claim7 := { stood := { row := wordsMayRow, standIns := [], harness := (true, "529c198eeeaa7cf63857e4af930b2a3b956c432339c2c895d7a4b1a46777a869"), looks := false }, kinds := [], alts := [], laidByText := true, laidKinds := [.data], laidTests := true, laidLooks := .later }
def WordsMayCardSaid : Prop := Claim7.holds Tryd.pinned (.plain (OpenSpec.ofChange wordsMaySpec)) wordsMayCard

/-- THE TIED CARD OF 'incunablelaw14.WordsOrder'. -/
def wordsOrderCard : Claim7 := { stood := { row := wordsOrderRow, standIns := [], harness := (true, "529c198eeeaa7cf63857e4af930b2a3b956c432339c2c895d7a4b1a46777a869"), looks := false }, kinds := [], alts := [], laidByText := true, laidKinds := [.data], laidTests := true, laidLooks := .later }
def WordsOrderCardSaid : Prop := Claim7.holds Tryd.pinned (.plain (OpenSpec.ofChange wordsOrderSpec)) wordsOrderCard

/-- THE TIED CARD OF 'incunablelaw14.WordsAlone'. -/
def wordsAloneCard : Claim7 := { stood := { row := wordsAloneRow, standIns := [], harness := (true, "529c198eeeaa7cf63857e4af930b2a3b956c432339c2c895d7a4b1a46777a869"), looks := false }, kinds := [], alts := [], laidByText := true, laidKinds := [.data], laidTests := true, laidLooks := .later }
def WordsAloneCardSaid : Prop := Claim7.holds Tryd.pinned (.plain (OpenSpec.ofChange wordsAloneSpec)) wordsAloneCard

/-- THE TIED CARD OF 'incunablelaw14.WordsJoin'. -/
def wordsJoinCard : Claim7 := { stood := { row := wordsJoinRow, standIns := [], harness := (true, "529c198eeeaa7cf63857e4af930b2a3b956c432339c2c895d7a4b1a46777a869"), looks := false }, kinds := [], alts := [], laidByText := true, laidKinds := [.data], laidTests := true, laidLooks := .later }
def WordsJoinCardSaid : Prop := Claim7.holds Tryd.pinned (.plain (OpenSpec.ofChange wordsJoinSpec)) wordsJoinCard

/-- THE TIED CARD OF 'incunablelaw14.WordsSpread'. -/
def wordsSpreadCard : Claim7 := { stood := { row := wordsSpreadRow, standIns := [], harness := (true, "529c198eeeaa7cf63857e4af930b2a3b956c432339c2c895d7a4b1a46777a869"), looks := false }, kinds := [], alts := [], laidByText := true, laidKinds := [.data], laidTests := true, laidLooks := .later }
def WordsSpreadCardSaid : Prop := Claim7.holds Tryd.pinned (.plain (OpenSpec.ofChange wordsSpreadSpec)) wordsSpreadCard

/-- THE TIED CARD OF 'incunablelaw14.WordsKnown'. -/
def wordsKnownCard : Claim7 := { stood := { row := wordsKnownRow, standIns := [], harness := (true, "529c198eeeaa7cf63857e4af930b2a3b956c432339c2c895d7a4b1a46777a869"), looks := false }, kinds := [], alts := [], laidByText := true, laidKinds := [.data], laidTests := true, laidLooks := .later }
def WordsKnownCardSaid : Prop := Claim7.holds Tryd.pinned (.plain (OpenSpec.ofChange wordsKnownSpec)) wordsKnownCard

/-- THE SECOND FORM's CARD OF 'incunablelaw14.WordsCut'. -/
def wordsCutUptoCard : Claim7 := { stood := { row := wordsCutUptoRow, standIns := [], harness := (true, "529c198eeeaa7cf63857e4af930b2a3b956c432339c2c895d7a4b1a46777a869"), looks := false }, kinds := [], alts := [], laidByText := true, laidKinds := [.data], laidTests := true, laidLooks := .later }
def WordsCutUptoCardSaid : Prop := Claim7.holds Tryd.pinned (.plain (OpenSpec.upto wordsCutSpec)) wordsCutUptoCard

/-- THE SECOND FORM's CARD OF 'incunablelaw14.WordsMay'. -/
def wordsMayUptoCard : Claim7 := { stood := { row := wordsMayUptoRow, standIns := [], harness := (true, "529c198eeeaa7cf63857e4af930b2a3b956c432339c2c895d7a4b1a46777a869"), looks := false }, kinds := [], alts := [], laidByText := true, laidKinds := [.data], laidTests := true, laidLooks := .later }
def WordsMayUptoCardSaid : Prop := Claim7.holds Tryd.pinned (.plain (OpenSpec.upto wordsMaySpec)) wordsMayUptoCard

/-- THE SECOND FORM's CARD OF 'incunablelaw14.WordsOrder'. -/
def wordsOrderUptoCard : Claim7 := { stood := { row := wordsOrderUptoRow, standIns := [], harness := (true, "529c198eeeaa7cf63857e4af930b2a3b956c432339c2c895d7a4b1a46777a869"), looks := false }, kinds := [], alts := [], laidByText := true, laidKinds := [.data], laidTests := true, laidLooks := .later }
def WordsOrderUptoCardSaid : Prop := Claim7.holds Tryd.pinned (.plain (OpenSpec.upto wordsOrderSpec)) wordsOrderUptoCard

/-- THE SECOND FORM's CARD OF 'incunablelaw14.WordsAlone'. -/
def wordsAloneUptoCard : Claim7 := { stood := { row := wordsAloneUptoRow, standIns := [], harness := (true, "529c198eeeaa7cf63857e4af930b2a3b956c432339c2c895d7a4b1a46777a869"), looks := false }, kinds := [], alts := [], laidByText := true, laidKinds := [.data], laidTests := true, laidLooks := .later }
def WordsAloneUptoCardSaid : Prop := Claim7.holds Tryd.pinned (.plain (OpenSpec.upto wordsAloneSpec)) wordsAloneUptoCard

/-- THE SECOND FORM's CARD OF 'incunablelaw14.WordsJoin'. -/
def wordsJoinUptoCard : Claim7 := { stood := { row := wordsJoinUptoRow, standIns := [], harness := (true, "529c198eeeaa7cf63857e4af930b2a3b956c432339c2c895d7a4b1a46777a869"), looks := false }, kinds := [], alts := [], laidByText := true, laidKinds := [.data], laidTests := true, laidLooks := .later }
def WordsJoinUptoCardSaid : Prop := Claim7.holds Tryd.pinned (.plain (OpenSpec.upto wordsJoinSpec)) wordsJoinUptoCard

/-- THE SECOND FORM's CARD OF 'incunablelaw14.WordsSpread'. -/
def wordsSpreadUptoCard : Claim7 := { stood := { row := wordsSpreadUptoRow, standIns := [], harness := (true, "529c198eeeaa7cf63857e4af930b2a3b956c432339c2c895d7a4b1a46777a869"), looks := false }, kinds := [], alts := [], laidByText := true, laidKinds := [.data], laidTests := true, laidLooks := .later }
def WordsSpreadUptoCardSaid : Prop := Claim7.holds Tryd.pinned (.plain (OpenSpec.upto wordsSpreadSpec)) wordsSpreadUptoCard

/-- THE SECOND FORM's CARD OF 'incunablelaw14.WordsKnown'. -/
def wordsKnownUptoCard : Claim7 := { stood := { row := wordsKnownUptoRow, standIns := [], harness := (true, "529c198eeeaa7cf63857e4af930b2a3b956c432339c2c895d7a4b1a46777a869"), looks := false }, kinds := [], alts := [], laidByText := true, laidKinds := [.data], laidTests := true, laidLooks := .later }
def WordsKnownUptoCardSaid : Prop := Claim7.holds Tryd.pinned (.plain (OpenSpec.upto wordsKnownSpec)) wordsKnownUptoCard
end Rows
end Go.Proofs.YtlepaciglkodbaaDoor
