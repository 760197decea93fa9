/-
  NARROWER THAN 'FOR EVERY INPUT', by the rows' own cells (each row's printed sentence says how): SetsMix: laid · SetsMake: laid · SetsTell: laid · SetsMeans: laid · SetsRules: laid · SetsTold: laid.
  DERIVED. THE GIVEN ROWS OF THIS SEAT. 6 by the template 'for every input the law returns true; each argument reads behind the call as it read before'; 0 by the template 'total and deterministic' (their statements: YtcgoacfcdlbhdaaDoorTotals.lean).
  GIVEN WITH THE SEED: the statements are not yours to turn. If you find one false, say at which input.
  Laid BY PROGRAM, IN A SANDBOX (cutbox-rows.mjs): the forced cells as the released guide's own fill.sh prints them over the translation 95cb5d1833c7c088… (all of the seat's roots in one cut). By AI agents, Wed Nov 11 2026. No macro, syntax, notation, axiom, sorry.
-/
import Derived.Test.YtcgoacfcdlbhdaaDoorChecked
import GoSem.Claim
import GoSem.ClaimJoined
import GoSem.ClaimMapViews
import Derived.JoinedTies
import Derived.KernelRfl
namespace Go.Proofs.YtcgoacfcdlbhdaaDoor
/- THE CELL 'sum', in the pinned program and in every row, IS THE sha256 OF THE DUMP (.gsa) THAT YtcgoacfcdlbhdaaDoorProg.lean LOADS. Nothing in Lean hashes anything: it is a label: what it is worth is what the hold of that sum in a sandbox is worth. -/
noncomputable def Tryd.pinned : Pinned := { name := "ytcgoacfcdlbhdaadoor", sum := "95cb5d1833c7c08875dba4e0955d0ec1aca2df54130a1d96b2a2e5187b4dd91d", checked := Tryd.checked }
namespace Rows
def none {H : Type} : Left H := { results := [], args := [] }

/- WHAT THE LISTED PACKAGE-LEVEL VARIABLES READ AS WHEN THE CALL BEGINS. Each datum BY PROGRAM (the guide's laid-datum.mjs) off the statement by which the dump's own 'gosem.cut.vars' lays the variable. In a bare row this is a premise. The card (YtcgoacfcdlbhdaaDoorCards.lean) ties it to the program's text. -/
def laid_math_bits_deBruijn64tab {H : Type} : DataW H := .agg [.lit (.int .u8 0), .lit (.int .u8 1), .lit (.int .u8 56), .lit (.int .u8 2), .lit (.int .u8 57), .lit (.int .u8 49), .lit (.int .u8 28), .lit (.int .u8 3), .lit (.int .u8 61), .lit (.int .u8 58), .lit (.int .u8 42), .lit (.int .u8 50), .lit (.int .u8 38), .lit (.int .u8 29), .lit (.int .u8 17), .lit (.int .u8 4), .lit (.int .u8 62), .lit (.int .u8 47), .lit (.int .u8 59), .lit (.int .u8 36), .lit (.int .u8 45), .lit (.int .u8 43), .lit (.int .u8 51), .lit (.int .u8 22), .lit (.int .u8 53), .lit (.int .u8 39), .lit (.int .u8 33), .lit (.int .u8 30), .lit (.int .u8 24), .lit (.int .u8 18), .lit (.int .u8 12), .lit (.int .u8 5), .lit (.int .u8 63), .lit (.int .u8 55), .lit (.int .u8 48), .lit (.int .u8 27), .lit (.int .u8 60), .lit (.int .u8 41), .lit (.int .u8 37), .lit (.int .u8 16), .lit (.int .u8 46), .lit (.int .u8 35), .lit (.int .u8 44), .lit (.int .u8 21), .lit (.int .u8 52), .lit (.int .u8 32), .lit (.int .u8 23), .lit (.int .u8 11), .lit (.int .u8 54), .lit (.int .u8 26), .lit (.int .u8 40), .lit (.int .u8 15), .lit (.int .u8 34), .lit (.int .u8 20), .lit (.int .u8 31), .lit (.int .u8 10), .lit (.int .u8 25), .lit (.int .u8 14), .lit (.int .u8 19), .lit (.int .u8 9), .lit (.int .u8 13), .lit (.int .u8 8), .lit (.int .u8 7), .lit (.int .u8 6)]

/-- 'incunablelaw08.SetsMix': WHATEVER THE INPUT: true; the input reads as it did. -/
def setsMixSpec : ChangeSpec := { name := "setsMix", fn := fun _ => fun
  | [d1, d2] => { results := [.lit (.bool true)], args := [d1, d2] }
  | _ => none }
def setsMixRow : OpenClaim := { program := "ytcgoacfcdlbhdaadoor", sum := "95cb5d1833c7c08875dba4e0955d0ec1aca2df54130a1d96b2a2e5187b4dd91d", func := "incunable/incunablelaw08.SetsMix", spec := "setsMix", unfollowed := true, recurses := true, named := ["math/bits.deBruijn64tab"], apart := false, laid := [("math/bits.deBruijn64tab", laid_math_bits_deBruijn64tab)] }
def SetsMixSaid : Prop := setsMixRow.holds Tryd.pinned (OpenSpec.ofChange setsMixSpec)

/-- ITS FALSE NEIGHBOUR: 'it returns false'. Refute it at one input. -/
def setsMixWrong : ChangeSpec := { name := "setsMix", fn := fun _ => fun
  | [d1, d2] => { results := [.lit (.bool false)], args := [d1, d2] }
  | _ => none }
def SetsMixWrongFalsely : Prop := setsMixRow.holds Tryd.pinned (OpenSpec.ofChange setsMixWrong)

/-- 'incunablelaw08.SetsMake': WHATEVER THE INPUT: true; the input reads as it did. -/
def setsMakeSpec : ChangeSpec := { name := "setsMake", fn := fun _ => fun
  | [d1, d2, d3] => { results := [.lit (.bool true)], args := [d1, d2, d3] }
  | _ => none }
def setsMakeRow : OpenClaim := { program := "ytcgoacfcdlbhdaadoor", sum := "95cb5d1833c7c08875dba4e0955d0ec1aca2df54130a1d96b2a2e5187b4dd91d", func := "incunable/incunablelaw08.SetsMake", spec := "setsMake", unfollowed := true, recurses := true, named := ["math/bits.deBruijn64tab"], apart := false, laid := [("math/bits.deBruijn64tab", laid_math_bits_deBruijn64tab)] }
def SetsMakeSaid : Prop := setsMakeRow.holds Tryd.pinned (OpenSpec.ofChange setsMakeSpec)

/-- ITS FALSE NEIGHBOUR: 'it returns false'. Refute it at one input. -/
def setsMakeWrong : ChangeSpec := { name := "setsMake", fn := fun _ => fun
  | [d1, d2, d3] => { results := [.lit (.bool false)], args := [d1, d2, d3] }
  | _ => none }
def SetsMakeWrongFalsely : Prop := setsMakeRow.holds Tryd.pinned (OpenSpec.ofChange setsMakeWrong)

/-- 'incunablelaw08.SetsTell': WHATEVER THE INPUT: true; the input reads as it did. -/
def setsTellSpec : ChangeSpec := { name := "setsTell", fn := fun _ => fun
  | [d1, d2, d3] => { results := [.lit (.bool true)], args := [d1, d2, d3] }
  | _ => none }
def setsTellRow : OpenClaim := { program := "ytcgoacfcdlbhdaadoor", sum := "95cb5d1833c7c08875dba4e0955d0ec1aca2df54130a1d96b2a2e5187b4dd91d", func := "incunable/incunablelaw08.SetsTell", spec := "setsTell", unfollowed := true, recurses := true, named := ["math/bits.deBruijn64tab"], apart := false, laid := [("math/bits.deBruijn64tab", laid_math_bits_deBruijn64tab)] }
def SetsTellSaid : Prop := setsTellRow.holds Tryd.pinned (OpenSpec.ofChange setsTellSpec)

/-- ITS FALSE NEIGHBOUR: 'it returns false'. Refute it at one input. -/
def setsTellWrong : ChangeSpec := { name := "setsTell", fn := fun _ => fun
  | [d1, d2, d3] => { results := [.lit (.bool false)], args := [d1, d2, d3] }
  | _ => none }
def SetsTellWrongFalsely : Prop := setsTellRow.holds Tryd.pinned (OpenSpec.ofChange setsTellWrong)

/-- 'incunablelaw08.SetsMeans': WHATEVER THE INPUT: true; the input reads as it did. -/
def setsMeansSpec : ChangeSpec := { name := "setsMeans", fn := fun _ => fun
  | [d1, d2, d3] => { results := [.lit (.bool true)], args := [d1, d2, d3] }
  | _ => none }
def setsMeansRow : OpenClaim := { program := "ytcgoacfcdlbhdaadoor", sum := "95cb5d1833c7c08875dba4e0955d0ec1aca2df54130a1d96b2a2e5187b4dd91d", func := "incunable/incunablelaw08.SetsMeans", spec := "setsMeans", unfollowed := true, recurses := true, named := ["math/bits.deBruijn64tab"], apart := false, laid := [("math/bits.deBruijn64tab", laid_math_bits_deBruijn64tab)] }
def SetsMeansSaid : Prop := setsMeansRow.holds Tryd.pinned (OpenSpec.ofChange setsMeansSpec)

/-- ITS FALSE NEIGHBOUR: 'it returns false'. Refute it at one input. -/
def setsMeansWrong : ChangeSpec := { name := "setsMeans", fn := fun _ => fun
  | [d1, d2, d3] => { results := [.lit (.bool false)], args := [d1, d2, d3] }
  | _ => none }
def SetsMeansWrongFalsely : Prop := setsMeansRow.holds Tryd.pinned (OpenSpec.ofChange setsMeansWrong)

/-- 'incunablelaw08.SetsRules': WHATEVER THE INPUT: true; the input reads as it did. -/
def setsRulesSpec : ChangeSpec := { name := "setsRules", fn := fun _ => fun
  | [d1, d2] => { results := [.lit (.bool true)], args := [d1, d2] }
  | _ => none }
def setsRulesRow : OpenClaim := { program := "ytcgoacfcdlbhdaadoor", sum := "95cb5d1833c7c08875dba4e0955d0ec1aca2df54130a1d96b2a2e5187b4dd91d", func := "incunable/incunablelaw08.SetsRules", spec := "setsRules", unfollowed := true, recurses := true, named := ["math/bits.deBruijn64tab"], apart := false, laid := [("math/bits.deBruijn64tab", laid_math_bits_deBruijn64tab)] }
def SetsRulesSaid : Prop := setsRulesRow.holds Tryd.pinned (OpenSpec.ofChange setsRulesSpec)

/-- ITS FALSE NEIGHBOUR: 'it returns false'. Refute it at one input. -/
def setsRulesWrong : ChangeSpec := { name := "setsRules", fn := fun _ => fun
  | [d1, d2] => { results := [.lit (.bool false)], args := [d1, d2] }
  | _ => none }
def SetsRulesWrongFalsely : Prop := setsRulesRow.holds Tryd.pinned (OpenSpec.ofChange setsRulesWrong)

/-- 'incunablelaw08.SetsTold': WHATEVER THE INPUT: true; the input reads as it did. -/
def setsToldSpec : ChangeSpec := { name := "setsTold", fn := fun _ => fun
  | [d] => { results := [.lit (.bool true)], args := [d] }
  | _ => none }
def setsToldRow : OpenClaim := { program := "ytcgoacfcdlbhdaadoor", sum := "95cb5d1833c7c08875dba4e0955d0ec1aca2df54130a1d96b2a2e5187b4dd91d", func := "incunable/incunablelaw08.SetsTold", spec := "setsTold", unfollowed := true, recurses := true, named := ["math/bits.deBruijn64tab"], apart := false, laid := [("math/bits.deBruijn64tab", laid_math_bits_deBruijn64tab)] }
def SetsToldSaid : Prop := setsToldRow.holds Tryd.pinned (OpenSpec.ofChange setsToldSpec)

/-- ITS FALSE NEIGHBOUR: 'it returns false'. Refute it at one input. -/
def setsToldWrong : ChangeSpec := { name := "setsTold", fn := fun _ => fun
  | [d] => { results := [.lit (.bool false)], args := [d] }
  | _ => none }
def SetsToldWrongFalsely : Prop := setsToldRow.holds Tryd.pinned (OpenSpec.ofChange setsToldWrong)

/- THE SECOND FORM. 'bulk': how many values and letters a reading holds, each counted each time it is reached (what is shared counts as often as it is met; a slice's spare places count too). A statement '..UptoSaid' is the law's where the arguments, and the package variables that the reading takes, are together of bulk at most 1048576: NARROWER than '..Said'. Prove '..Said' where nothing that the law and all that it calls make is longer than what came in: it says more and counts as full. Else prove '..UptoSaid'. A law counts once. -/
mutual
def uptoBulk {H : Type} : DataW H → Nat
  | .lit (.string bytes) => bytes.length + 1
  | .lit _ => 1
  | .nil => 1
  | .ptr d => uptoBulk d + 1
  | .slice elems spare => uptoBulkAll elems + uptoBulkAll spare + 1
  | .agg parts => uptoBulkAll parts + 1
  | .iface _ d => uptoBulk d + 1
  | .map entries => uptoBulkEntries entries + 1
  | .held _ => 1
def uptoBulkAll {H : Type} : List (DataW H) → Nat
  | [] => 0
  | d :: r => uptoBulk d + uptoBulkAll r
def uptoBulkEntries {H : Type} : List (Lit × DataW H) → Nat
  | [] => 0
  | x :: r => uptoBulkEntry x + uptoBulkEntries r
def uptoBulkEntry {H : Type} : Lit × DataW H → Nat
  | (.string bytes, d) => bytes.length + uptoBulk d + 1
  | (_, d) => uptoBulk d + 1
 end
def uptoSmall : (H : Type) → List (DataW H) → Bool := fun _ ds => decide (uptoBulkAll ds ≤ 1048576)
def OpenSpec.upto (s : _root_.Go.ChangeSpec) : _root_.Go.OpenSpec := { _root_.Go.OpenSpec.ofChange s with cond := some uptoSmall }

/-- 'incunablelaw08.SetsMix', WHERE WHAT IT READS IS OF BULK AT MOST 1048576: true; the input reads as it did. -/
def setsMixUptoRow : OpenClaim := { program := "ytcgoacfcdlbhdaadoor", sum := "95cb5d1833c7c08875dba4e0955d0ec1aca2df54130a1d96b2a2e5187b4dd91d", func := "incunable/incunablelaw08.SetsMix", spec := "setsMix", unfollowed := true, recurses := true, named := ["math/bits.deBruijn64tab"], apart := false, laid := [("math/bits.deBruijn64tab", laid_math_bits_deBruijn64tab)], narrowed := true }
def SetsMixUptoSaid : Prop := setsMixUptoRow.holds Tryd.pinned (OpenSpec.upto setsMixSpec)

/-- 'incunablelaw08.SetsMake', WHERE WHAT IT READS IS OF BULK AT MOST 1048576: true; the input reads as it did. -/
def setsMakeUptoRow : OpenClaim := { program := "ytcgoacfcdlbhdaadoor", sum := "95cb5d1833c7c08875dba4e0955d0ec1aca2df54130a1d96b2a2e5187b4dd91d", func := "incunable/incunablelaw08.SetsMake", spec := "setsMake", unfollowed := true, recurses := true, named := ["math/bits.deBruijn64tab"], apart := false, laid := [("math/bits.deBruijn64tab", laid_math_bits_deBruijn64tab)], narrowed := true }
def SetsMakeUptoSaid : Prop := setsMakeUptoRow.holds Tryd.pinned (OpenSpec.upto setsMakeSpec)

/-- 'incunablelaw08.SetsTell', WHERE WHAT IT READS IS OF BULK AT MOST 1048576: true; the input reads as it did. -/
def setsTellUptoRow : OpenClaim := { program := "ytcgoacfcdlbhdaadoor", sum := "95cb5d1833c7c08875dba4e0955d0ec1aca2df54130a1d96b2a2e5187b4dd91d", func := "incunable/incunablelaw08.SetsTell", spec := "setsTell", unfollowed := true, recurses := true, named := ["math/bits.deBruijn64tab"], apart := false, laid := [("math/bits.deBruijn64tab", laid_math_bits_deBruijn64tab)], narrowed := true }
def SetsTellUptoSaid : Prop := setsTellUptoRow.holds Tryd.pinned (OpenSpec.upto setsTellSpec)

/-- 'incunablelaw08.SetsMeans', WHERE WHAT IT READS IS OF BULK AT MOST 1048576: true; the input reads as it did. -/
def setsMeansUptoRow : OpenClaim := { program := "ytcgoacfcdlbhdaadoor", sum := "95cb5d1833c7c08875dba4e0955d0ec1aca2df54130a1d96b2a2e5187b4dd91d", func := "incunable/incunablelaw08.SetsMeans", spec := "setsMeans", unfollowed := true, recurses := true, named := ["math/bits.deBruijn64tab"], apart := false, laid := [("math/bits.deBruijn64tab", laid_math_bits_deBruijn64tab)], narrowed := true }
def SetsMeansUptoSaid : Prop := setsMeansUptoRow.holds Tryd.pinned (OpenSpec.upto setsMeansSpec)

/-- 'incunablelaw08.SetsRules', WHERE WHAT IT READS IS OF BULK AT MOST 1048576: true; the input reads as it did. -/
def setsRulesUptoRow : OpenClaim := { program := "ytcgoacfcdlbhdaadoor", sum := "95cb5d1833c7c08875dba4e0955d0ec1aca2df54130a1d96b2a2e5187b4dd91d", func := "incunable/incunablelaw08.SetsRules", spec := "setsRules", unfollowed := true, recurses := true, named := ["math/bits.deBruijn64tab"], apart := false, laid := [("math/bits.deBruijn64tab", laid_math_bits_deBruijn64tab)], narrowed := true }
def SetsRulesUptoSaid : Prop := setsRulesUptoRow.holds Tryd.pinned (OpenSpec.upto setsRulesSpec)

/-- 'incunablelaw08.SetsTold', WHERE WHAT IT READS IS OF BULK AT MOST 1048576: true; the input reads as it did. -/
def setsToldUptoRow : OpenClaim := { program := "ytcgoacfcdlbhdaadoor", sum := "95cb5d1833c7c08875dba4e0955d0ec1aca2df54130a1d96b2a2e5187b4dd91d", func := "incunable/incunablelaw08.SetsTold", spec := "setsTold", unfollowed := true, recurses := true, named := ["math/bits.deBruijn64tab"], apart := false, laid := [("math/bits.deBruijn64tab", laid_math_bits_deBruijn64tab)], narrowed := true }
def SetsToldUptoSaid : Prop := setsToldUptoRow.holds Tryd.pinned (OpenSpec.upto setsToldSpec)

end Rows
end Go.Proofs.YtcgoacfcdlbhdaaDoor
