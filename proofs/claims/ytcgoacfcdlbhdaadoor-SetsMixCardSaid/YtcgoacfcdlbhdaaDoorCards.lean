/-
  DERIVED. GIVEN WITH THE SEED: THE CARDS: each row of YtcgoacfcdlbhdaaDoorRows.lean that lists a variable, with what it lists TIED to the program's text (the seventh form; the later family's looks); each row that meets fmt, with fmt's text TOLD by the authors' own Lean function (tested against real Go, not proved from fmt's source: count such statements apart). THE CARD IS WHAT COUNTS. Prove the row's statement (the work); the ties are given (YtcgoacfcdlbhdaaDoorTie.lean); close each card by the builder's one call (the guide's Derived/Test/ToyasCard.lean, 'card_holds'). Laid BY PROGRAM, IN A SANDBOX (cutbox-door.mjs). By AI agents, Wed Nov 11 2026. No macro, syntax, notation, axiom, sorry.
-/
import Derived.Test.YtcgoacfcdlbhdaaDoorRows
import GoSem.ClaimSeven
namespace Go.Proofs.YtcgoacfcdlbhdaaDoor
namespace Rows

/-- THE TIED CARD OF 'incunablelaw08.SetsMix'. -/
def setsMixCard : Claim7 := { stood := { row := setsMixRow, standIns := [], harness := (true, "596c11eb8cb0fb23c984302be3bb7d5b4ec090b64f4c0f4eb4adb48b69116055"), looks := false }, kinds := [], alts := [], laidByText := true, laidKinds := [.data], laidTests := true, laidLooks := .later }
def SetsMixCardSaid : Prop := Claim7.holds Tryd.pinned (.plain (OpenSpec.ofChange setsMixSpec)) setsMixCard

/-- THE TIED CARD OF 'incunablelaw08.SetsMake'. -/
def setsMakeCard : Claim7 := { stood := { row := setsMakeRow, standIns := [], harness := (true, "596c11eb8cb0fb23c984302be3bb7d5b4ec090b64f4c0f4eb4adb48b69116055"), looks := false }, kinds := [], alts := [], laidByText := true, laidKinds := [.data], laidTests := true, laidLooks := .later }
def SetsMakeCardSaid : Prop := Claim7.holds Tryd.pinned (.plain (OpenSpec.ofChange setsMakeSpec)) setsMakeCard

/-- THE TIED CARD OF 'incunablelaw08.SetsTell'. -/
def setsTellCard : Claim7 := { stood := { row := setsTellRow, standIns := [], harness := (true, "596c11eb8cb0fb23c984302be3bb7d5b4ec090b64f4c0f4eb4adb48b69116055"), looks := false }, kinds := [], alts := [], laidByText := true, laidKinds := [.data], laidTests := true, laidLooks := .later }
def SetsTellCardSaid : Prop := Claim7.holds Tryd.pinned (.plain (OpenSpec.ofChange setsTellSpec)) setsTellCard

/-- THE TIED CARD OF 'incunablelaw08.SetsMeans'. -/
def setsMeansCard : Claim7 := { stood := { row := setsMeansRow, standIns := [], harness := (true, "596c11eb8cb0fb23c984302be3bb7d5b4ec090b64f4c0f4eb4adb48b69116055"), looks := false }, kinds := [], alts := [], laidByText := true, laidKinds := [.data], laidTests := true, laidLooks := .later }
def SetsMeansCardSaid : Prop := Claim7.holds Tryd.pinned (.plain (OpenSpec.ofChange setsMeansSpec)) setsMeansCard

/-- THE TIED CARD OF 'incunablelaw08.SetsRules'. -/
def setsRulesCard : Claim7 := { stood := { row := setsRulesRow, standIns := [], harness := (true, "596c11eb8cb0fb23c984302be3bb7d5b4ec090b64f4c0f4eb4adb48b69116055"), looks := false }, kinds := [], alts := [], laidByText := true, laidKinds := [.data], laidTests := true, laidLooks := .later }
def SetsRulesCardSaid : Prop := Claim7.holds Tryd.pinned (.plain (OpenSpec.ofChange setsRulesSpec)) setsRulesCard

/-- THE TIED CARD OF 'incunablelaw08.SetsTold'. -/
def setsToldCard : Claim7 := { stood := { row := setsToldRow, standIns := [], harness := (true, "596c11eb8cb0fb23c984302be3bb7d5b4ec090b64f4c0f4eb4adb48b69116055"), looks := false }, kinds := [], alts := [], laidByText := true, laidKinds := [.data], laidTests := true, laidLooks := .later }
def SetsToldCardSaid : Prop := Claim7.holds Tryd.pinned (.plain (OpenSpec.ofChange setsToldSpec)) setsToldCard

/-- THE SECOND FORM's CARD OF 'incunablelaw08.SetsMix'. -/
def setsMixUptoCard : Claim7 := { stood := { row := setsMixUptoRow, standIns := [], harness := (true, "596c11eb8cb0fb23c984302be3bb7d5b4ec090b64f4c0f4eb4adb48b69116055"), looks := false }, kinds := [], alts := [], laidByText := true, laidKinds := [.data], laidTests := true, laidLooks := .later }
def SetsMixUptoCardSaid : Prop := Claim7.holds Tryd.pinned (.plain (OpenSpec.upto setsMixSpec)) setsMixUptoCard

/-- THE SECOND FORM's CARD OF 'incunablelaw08.SetsMake'. -/
def setsMakeUptoCard : Claim7 := { stood := { row := setsMakeUptoRow, standIns := [], harness := (true, "596c11eb8cb0fb23c984302be3bb7d5b4ec090b64f4c0f4eb4adb48b69116055"), looks := false }, kinds := [], alts := [], laidByText := true, laidKinds := [.data], laidTests := true, laidLooks := .later }
def SetsMakeUptoCardSaid : Prop := Claim7.holds Tryd.pinned (.plain (OpenSpec.upto setsMakeSpec)) setsMakeUptoCard

/-- THE SECOND FORM's CARD OF 'incunablelaw08.SetsTell'. -/
def setsTellUptoCard : Claim7 := { stood := { row := setsTellUptoRow, standIns := [], harness := (true, "596c11eb8cb0fb23c984302be3bb7d5b4ec090b64f4c0f4eb4adb48b69116055"), looks := false }, kinds := [], alts := [], laidByText := true, laidKinds := [.data], laidTests := true, laidLooks := .later }
def SetsTellUptoCardSaid : Prop := Claim7.holds Tryd.pinned (.plain (OpenSpec.upto setsTellSpec)) setsTellUptoCard

/-- THE SECOND FORM's CARD OF 'incunablelaw08.SetsMeans'. -/
def setsMeansUptoCard : Claim7 := { stood := { row := setsMeansUptoRow, standIns := [], harness := (true, "596c11eb8cb0fb23c984302be3bb7d5b4ec090b64f4c0f4eb4adb48b69116055"), looks := false }, kinds := [], alts := [], laidByText := true, laidKinds := [.data], laidTests := true, laidLooks := .later }
def SetsMeansUptoCardSaid : Prop := Claim7.holds Tryd.pinned (.plain (OpenSpec.upto setsMeansSpec)) setsMeansUptoCard

/-- THE SECOND FORM's CARD OF 'incunablelaw08.SetsRules'. -/
def setsRulesUptoCard : Claim7 := { stood := { row := setsRulesUptoRow, standIns := [], harness := (true, "596c11eb8cb0fb23c984302be3bb7d5b4ec090b64f4c0f4eb4adb48b69116055"), looks := false }, kinds := [], alts := [], laidByText := true, laidKinds := [.data], laidTests := true, laidLooks := .later }
def SetsRulesUptoCardSaid : Prop := Claim7.holds Tryd.pinned (.plain (OpenSpec.upto setsRulesSpec)) setsRulesUptoCard

/-- THE SECOND FORM's CARD OF 'incunablelaw08.SetsTold'. -/
def setsToldUptoCard : Claim7 := { stood := { row := setsToldUptoRow, standIns := [], harness := (true, "596c11eb8cb0fb23c984302be3bb7d5b4ec090b64f4c0f4eb4adb48b69116055"), looks := false }, kinds := [], alts := [], laidByText := true, laidKinds := [.data], laidTests := true, laidLooks := .later }
def SetsToldUptoCardSaid : Prop := Claim7.holds Tryd.pinned (.plain (OpenSpec.upto setsToldSpec)) setsToldUptoCard
end Rows
end Go.Proofs.YtcgoacfcdlbhdaaDoor
