/-
  DERIVED. GIVEN WITH THE SEED: THE CARDS: each row of YtcgfogdfcdndgaaGreatDoorRows.lean that lists a variable, with what it lists TIED to the program's text (the seventh form; the later family's looks); each row that meets fmt, with fmt's text TOLD by the authors' own Lean function (tested against real Go, not proved from fmt's source: count such statements apart). THE CARD IS WHAT COUNTS. Prove the row's statement (the work); the ties are given (YtcgfogdfcdndgaaGreatDoorTie.lean); close each card by the builder's one call (the guide's Derived/Test/ToyasCard.lean, 'card_holds'). Laid BY PROGRAM, IN A SANDBOX (cutbox-door.mjs). By AI agents, Wed Nov 11 2026. No macro, syntax, notation, axiom, sorry.
-/
import Derived.Test.YtcgfogdfcdndgaaGreatDoorRows
import GoSem.ClaimSeven
namespace Go.Proofs.YtcgfogdfcdndgaaGreatDoor
namespace Rows

/-- THE TIED CARD OF 'incunablelaw11.DfaMakes'. -/
def dfaMakesCard : Claim7 := { stood := { row := dfaMakesRow, standIns := [], harness := (true, "f185fc82a851f57c1ac8ed87ad404fffac84191480fd70397fa325d59f4c9111"), looks := true }, kinds := [], alts := [], laidByText := true, laidKinds := [.data], laidTests := true, laidLooks := .later }
def DfaMakesCardSaid : Prop := Claim7.holds Tryz.pinned (.plain (OpenSpec.ofChange dfaMakesSpec)) dfaMakesCard

/-- THE TIED CARD OF 'incunablelaw11.DfaSteps'. -/
def dfaStepsCard : Claim7 := { stood := { row := dfaStepsRow, standIns := [], harness := (true, "f185fc82a851f57c1ac8ed87ad404fffac84191480fd70397fa325d59f4c9111"), looks := true }, kinds := [], alts := [], laidByText := true, laidKinds := [.data], laidTests := true, laidLooks := .later }
def DfaStepsCardSaid : Prop := Claim7.holds Tryz.pinned (.plain (OpenSpec.ofChange dfaStepsSpec)) dfaStepsCard

/-- THE TIED CARD OF 'incunablelaw11.DfaRuns'. -/
def dfaRunsCard : Claim7 := { stood := { row := dfaRunsRow, standIns := [], harness := (true, "f185fc82a851f57c1ac8ed87ad404fffac84191480fd70397fa325d59f4c9111"), looks := true }, kinds := [], alts := [], laidByText := true, laidKinds := [.data], laidTests := true, laidLooks := .later }
def DfaRunsCardSaid : Prop := Claim7.holds Tryz.pinned (.plain (OpenSpec.ofChange dfaRunsSpec)) dfaRunsCard

/-- THE TIED CARD OF 'incunablelaw11.DfaTells'. -/
def dfaTellsCard : Claim7 := { stood := { row := dfaTellsRow, standIns := [], harness := (true, "f185fc82a851f57c1ac8ed87ad404fffac84191480fd70397fa325d59f4c9111"), looks := true }, kinds := [], alts := [], laidByText := true, laidKinds := [.data], laidTests := true, laidLooks := .later }
def DfaTellsCardSaid : Prop := Claim7.holds Tryz.pinned (.plain (OpenSpec.ofChange dfaTellsSpec)) dfaTellsCard

/-- THE TIED CARD OF 'incunablelaw11.DfaReached'. -/
def dfaReachedCard : Claim7 := { stood := { row := dfaReachedRow, standIns := [], harness := (true, "f185fc82a851f57c1ac8ed87ad404fffac84191480fd70397fa325d59f4c9111"), looks := true }, kinds := [], alts := [], laidByText := true, laidKinds := [.data], laidTests := true, laidLooks := .later }
def DfaReachedCardSaid : Prop := Claim7.holds Tryz.pinned (.plain (OpenSpec.ofChange dfaReachedSpec)) dfaReachedCard

/-- THE TIED CARD OF 'incunablelaw11.DfaClasses'. -/
def dfaClassesCard : Claim7 := { stood := { row := dfaClassesRow, standIns := [], harness := (true, "f185fc82a851f57c1ac8ed87ad404fffac84191480fd70397fa325d59f4c9111"), looks := true }, kinds := [], alts := [], laidByText := true, laidKinds := [.data], laidTests := true, laidLooks := .later }
def DfaClassesCardSaid : Prop := Claim7.holds Tryz.pinned (.plain (OpenSpec.ofChange dfaClassesSpec)) dfaClassesCard

/-- THE TIED CARD OF 'incunablelaw11.DfaStepwise'. -/
def dfaStepwiseCard : Claim7 := { stood := { row := dfaStepwiseRow, standIns := [], harness := (true, "f185fc82a851f57c1ac8ed87ad404fffac84191480fd70397fa325d59f4c9111"), looks := true }, kinds := [], alts := [], laidByText := true, laidKinds := [.data], laidTests := true, laidLooks := .later }
def DfaStepwiseCardSaid : Prop := Claim7.holds Tryz.pinned (.plain (OpenSpec.ofChange dfaStepwiseSpec)) dfaStepwiseCard

/-- THE SECOND FORM's CARD OF 'incunablelaw11.DfaMakes'. -/
def dfaMakesUptoCard : Claim7 := { stood := { row := dfaMakesUptoRow, standIns := [], harness := (true, "f185fc82a851f57c1ac8ed87ad404fffac84191480fd70397fa325d59f4c9111"), looks := true }, kinds := [], alts := [], laidByText := true, laidKinds := [.data], laidTests := true, laidLooks := .later }
def DfaMakesUptoCardSaid : Prop := Claim7.holds Tryz.pinned (.plain (OpenSpec.upto dfaMakesSpec)) dfaMakesUptoCard

/-- THE SECOND FORM's CARD OF 'incunablelaw11.DfaSteps'. -/
def dfaStepsUptoCard : Claim7 := { stood := { row := dfaStepsUptoRow, standIns := [], harness := (true, "f185fc82a851f57c1ac8ed87ad404fffac84191480fd70397fa325d59f4c9111"), looks := true }, kinds := [], alts := [], laidByText := true, laidKinds := [.data], laidTests := true, laidLooks := .later }
def DfaStepsUptoCardSaid : Prop := Claim7.holds Tryz.pinned (.plain (OpenSpec.upto dfaStepsSpec)) dfaStepsUptoCard

/-- THE SECOND FORM's CARD OF 'incunablelaw11.DfaRuns'. -/
def dfaRunsUptoCard : Claim7 := { stood := { row := dfaRunsUptoRow, standIns := [], harness := (true, "f185fc82a851f57c1ac8ed87ad404fffac84191480fd70397fa325d59f4c9111"), looks := true }, kinds := [], alts := [], laidByText := true, laidKinds := [.data], laidTests := true, laidLooks := .later }
def DfaRunsUptoCardSaid : Prop := Claim7.holds Tryz.pinned (.plain (OpenSpec.upto dfaRunsSpec)) dfaRunsUptoCard

/-- THE SECOND FORM's CARD OF 'incunablelaw11.DfaTells'. -/
def dfaTellsUptoCard : Claim7 := { stood := { row := dfaTellsUptoRow, standIns := [], harness := (true, "f185fc82a851f57c1ac8ed87ad404fffac84191480fd70397fa325d59f4c9111"), looks := true }, kinds := [], alts := [], laidByText := true, laidKinds := [.data], laidTests := true, laidLooks := .later }
def DfaTellsUptoCardSaid : Prop := Claim7.holds Tryz.pinned (.plain (OpenSpec.upto dfaTellsSpec)) dfaTellsUptoCard

/-- THE SECOND FORM's CARD OF 'incunablelaw11.DfaReached'. -/
def dfaReachedUptoCard : Claim7 := { stood := { row := dfaReachedUptoRow, standIns := [], harness := (true, "f185fc82a851f57c1ac8ed87ad404fffac84191480fd70397fa325d59f4c9111"), looks := true }, kinds := [], alts := [], laidByText := true, laidKinds := [.data], laidTests := true, laidLooks := .later }
def DfaReachedUptoCardSaid : Prop := Claim7.holds Tryz.pinned (.plain (OpenSpec.upto dfaReachedSpec)) dfaReachedUptoCard

/-- THE SECOND FORM's CARD OF 'incunablelaw11.DfaClasses'. -/
def dfaClassesUptoCard : Claim7 := { stood := { row := dfaClassesUptoRow, standIns := [], harness := (true, "f185fc82a851f57c1ac8ed87ad404fffac84191480fd70397fa325d59f4c9111"), looks := true }, kinds := [], alts := [], laidByText := true, laidKinds := [.data], laidTests := true, laidLooks := .later }
def DfaClassesUptoCardSaid : Prop := Claim7.holds Tryz.pinned (.plain (OpenSpec.upto dfaClassesSpec)) dfaClassesUptoCard

/-- THE SECOND FORM's CARD OF 'incunablelaw11.DfaStepwise'. -/
def dfaStepwiseUptoCard : Claim7 := { stood := { row := dfaStepwiseUptoRow, standIns := [], harness := (true, "f185fc82a851f57c1ac8ed87ad404fffac84191480fd70397fa325d59f4c9111"), looks := true }, kinds := [], alts := [], laidByText := true, laidKinds := [.data], laidTests := true, laidLooks := .later }
def DfaStepwiseUptoCardSaid : Prop := Claim7.holds Tryz.pinned (.plain (OpenSpec.upto dfaStepwiseSpec)) dfaStepwiseUptoCard
end Rows
end Go.Proofs.YtcgfogdfcdndgaaGreatDoor
