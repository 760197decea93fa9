/-
  NARROWER THAN 'FOR EVERY INPUT', by the rows' own cells (each row's printed sentence says how): WordsCut: laid · WordsMay: laid · WordsOrder: laid · WordsAlone: laid · WordsJoin: laid · WordsSpread: laid · WordsKnown: laid.
  DERIVED. THE GIVEN ROWS OF THIS SEAT. 7 by the template 'for every input the law returns true; each argument reads behind the call as it read before'; 0 by the template 'total and deterministic' (their statements: YtlepaciglkodbaaDoorTotals.lean).
  GIVEN WITH THE SEED: the statements are not yours to turn. If you find one false, say at which input.
  Laid BY PROGRAM, IN A SANDBOX (cutbox-rows.mjs): the forced cells as the released guide's own fill.sh prints them over the translation c88655f3d134334e… (all of the seat's roots in one cut). By AI agents, Wed Nov 11 2026. No macro, syntax, notation, axiom, sorry.
-/
import Derived.Test.YtlepaciglkodbaaDoorChecked
import GoSem.Claim
import GoSem.ClaimJoined
import GoSem.ClaimMapViews
import Derived.JoinedTies
import Derived.KernelRfl
namespace Go.Proofs.YtlepaciglkodbaaDoor
/- THE CELL 'sum', in the pinned program and in every row, IS THE sha256 OF THE DUMP (.gsa) THAT YtlepaciglkodbaaDoorProg.lean LOADS. Nothing in Lean hashes anything: it is a label: what it is worth is what the hold of that sum in a sandbox is worth. -/
noncomputable def Tryd.pinned : Pinned := { name := "ytlepaciglkodbaadoor", sum := "c88655f3d134334e69905946a65439ff73a33fe1864901f6c366c170217ffa27", checked := Tryd.checked }
namespace Rows
def none {H : Type} : Left H := { results := [], args := [] }

/- WHAT THE LISTED PACKAGE-LEVEL VARIABLES READ AS WHEN THE CALL BEGINS. Each datum BY PROGRAM (the guide's laid-datum.mjs) off the statement by which the dump's own 'gosem.cut.vars' lays the variable. In a bare row this is a premise. The card (YtlepaciglkodbaaDoorCards.lean) ties it to the program's text. -/
def laid_incunable_words_spelled {H : Type} : DataW H := .agg [.lit (.string []), .lit (.string []), .lit (.string []), .lit (.string []), .lit (.string []), .lit (.string [105, 109, 112, 111, 114, 116]), .lit (.string [115, 116, 97, 114, 116]), .lit (.string [116, 101, 114, 109]), .lit (.string [115, 107, 105, 112]), .lit (.string [108, 101, 102, 116]), .lit (.string [114, 105, 103, 104, 116]), .lit (.string [110, 111, 110, 101]), .lit (.string [114, 117, 108, 101]), .lit (.string [112, 114, 101, 99])]

/-- 'incunablelaw14.WordsCut': WHATEVER THE INPUT: true; the input reads as it did. -/
def wordsCutSpec : ChangeSpec := { name := "wordsCut", fn := fun _ => fun
  | [d] => { results := [.lit (.bool true)], args := [d] }
  | _ => none }
def wordsCutRow : OpenClaim := { program := "ytlepaciglkodbaadoor", sum := "c88655f3d134334e69905946a65439ff73a33fe1864901f6c366c170217ffa27", func := "incunable/incunablelaw14.WordsCut", spec := "wordsCut", inPlace := ["internal/bytealg.IndexByteString"], unfollowed := true, recurses := true, named := ["incunable/words.spelled"], apart := false, laid := [("incunable/words.spelled", laid_incunable_words_spelled)] }
def WordsCutSaid : Prop := wordsCutRow.holds Tryd.pinned (OpenSpec.ofChange wordsCutSpec)

/-- ITS FALSE NEIGHBOUR: 'it returns false'. Refute it at one input. -/
def wordsCutWrong : ChangeSpec := { name := "wordsCut", fn := fun _ => fun
  | [d] => { results := [.lit (.bool false)], args := [d] }
  | _ => none }
def WordsCutWrongFalsely : Prop := wordsCutRow.holds Tryd.pinned (OpenSpec.ofChange wordsCutWrong)

/-- 'incunablelaw14.WordsMay': WHATEVER THE INPUT: true; the input reads as it did. -/
def wordsMaySpec : ChangeSpec := { name := "wordsMay", fn := fun _ => fun
  | [d1, d2] => { results := [.lit (.bool true)], args := [d1, d2] }
  | _ => none }
def wordsMayRow : OpenClaim := { program := "ytlepaciglkodbaadoor", sum := "c88655f3d134334e69905946a65439ff73a33fe1864901f6c366c170217ffa27", func := "incunable/incunablelaw14.WordsMay", spec := "wordsMay", inPlace := ["internal/bytealg.IndexByteString"], unfollowed := true, recurses := true, named := ["incunable/words.spelled"], apart := false, laid := [("incunable/words.spelled", laid_incunable_words_spelled)] }
def WordsMaySaid : Prop := wordsMayRow.holds Tryd.pinned (OpenSpec.ofChange wordsMaySpec)

/-- ITS FALSE NEIGHBOUR: 'it returns false'. Refute it at one input. -/
def wordsMayWrong : ChangeSpec := { name := "wordsMay", fn := fun _ => fun
  | [d1, d2] => { results := [.lit (.bool false)], args := [d1, d2] }
  | _ => none }
def WordsMayWrongFalsely : Prop := wordsMayRow.holds Tryd.pinned (OpenSpec.ofChange wordsMayWrong)

/-- 'incunablelaw14.WordsOrder': WHATEVER THE INPUT: true; the input reads as it did. -/
def wordsOrderSpec : ChangeSpec := { name := "wordsOrder", fn := fun _ => fun
  | [d] => { results := [.lit (.bool true)], args := [d] }
  | _ => none }
def wordsOrderRow : OpenClaim := { program := "ytlepaciglkodbaadoor", sum := "c88655f3d134334e69905946a65439ff73a33fe1864901f6c366c170217ffa27", func := "incunable/incunablelaw14.WordsOrder", spec := "wordsOrder", inPlace := ["internal/bytealg.IndexByteString"], unfollowed := true, recurses := true, named := ["incunable/words.spelled"], apart := false, laid := [("incunable/words.spelled", laid_incunable_words_spelled)] }
def WordsOrderSaid : Prop := wordsOrderRow.holds Tryd.pinned (OpenSpec.ofChange wordsOrderSpec)

/-- ITS FALSE NEIGHBOUR: 'it returns false'. Refute it at one input. -/
def wordsOrderWrong : ChangeSpec := { name := "wordsOrder", fn := fun _ => fun
  | [d] => { results := [.lit (.bool false)], args := [d] }
  | _ => none }
def WordsOrderWrongFalsely : Prop := wordsOrderRow.holds Tryd.pinned (OpenSpec.ofChange wordsOrderWrong)

/-- 'incunablelaw14.WordsAlone': WHATEVER THE INPUT: true; the input reads as it did. -/
def wordsAloneSpec : ChangeSpec := { name := "wordsAlone", fn := fun _ => fun
  | [d1, d2] => { results := [.lit (.bool true)], args := [d1, d2] }
  | _ => none }
def wordsAloneRow : OpenClaim := { program := "ytlepaciglkodbaadoor", sum := "c88655f3d134334e69905946a65439ff73a33fe1864901f6c366c170217ffa27", func := "incunable/incunablelaw14.WordsAlone", spec := "wordsAlone", inPlace := ["internal/bytealg.IndexByteString"], unfollowed := true, recurses := true, named := ["incunable/words.spelled"], apart := false, laid := [("incunable/words.spelled", laid_incunable_words_spelled)] }
def WordsAloneSaid : Prop := wordsAloneRow.holds Tryd.pinned (OpenSpec.ofChange wordsAloneSpec)

/-- ITS FALSE NEIGHBOUR: 'it returns false'. Refute it at one input. -/
def wordsAloneWrong : ChangeSpec := { name := "wordsAlone", fn := fun _ => fun
  | [d1, d2] => { results := [.lit (.bool false)], args := [d1, d2] }
  | _ => none }
def WordsAloneWrongFalsely : Prop := wordsAloneRow.holds Tryd.pinned (OpenSpec.ofChange wordsAloneWrong)

/-- 'incunablelaw14.WordsJoin': WHATEVER THE INPUT: true; the input reads as it did. -/
def wordsJoinSpec : ChangeSpec := { name := "wordsJoin", fn := fun _ => fun
  | [d1, d2] => { results := [.lit (.bool true)], args := [d1, d2] }
  | _ => none }
def wordsJoinRow : OpenClaim := { program := "ytlepaciglkodbaadoor", sum := "c88655f3d134334e69905946a65439ff73a33fe1864901f6c366c170217ffa27", func := "incunable/incunablelaw14.WordsJoin", spec := "wordsJoin", inPlace := ["internal/bytealg.IndexByteString"], unfollowed := true, recurses := true, named := ["incunable/words.spelled"], apart := false, laid := [("incunable/words.spelled", laid_incunable_words_spelled)] }
def WordsJoinSaid : Prop := wordsJoinRow.holds Tryd.pinned (OpenSpec.ofChange wordsJoinSpec)

/-- ITS FALSE NEIGHBOUR: 'it returns false'. Refute it at one input. -/
def wordsJoinWrong : ChangeSpec := { name := "wordsJoin", fn := fun _ => fun
  | [d1, d2] => { results := [.lit (.bool false)], args := [d1, d2] }
  | _ => none }
def WordsJoinWrongFalsely : Prop := wordsJoinRow.holds Tryd.pinned (OpenSpec.ofChange wordsJoinWrong)

/-- 'incunablelaw14.WordsSpread': WHATEVER THE INPUT: true; the input reads as it did. -/
def wordsSpreadSpec : ChangeSpec := { name := "wordsSpread", fn := fun _ => fun
  | [d1, d2, d3] => { results := [.lit (.bool true)], args := [d1, d2, d3] }
  | _ => none }
def wordsSpreadRow : OpenClaim := { program := "ytlepaciglkodbaadoor", sum := "c88655f3d134334e69905946a65439ff73a33fe1864901f6c366c170217ffa27", func := "incunable/incunablelaw14.WordsSpread", spec := "wordsSpread", inPlace := ["internal/bytealg.IndexByteString"], unfollowed := true, recurses := true, named := ["incunable/words.spelled"], apart := false, laid := [("incunable/words.spelled", laid_incunable_words_spelled)] }
def WordsSpreadSaid : Prop := wordsSpreadRow.holds Tryd.pinned (OpenSpec.ofChange wordsSpreadSpec)

/-- ITS FALSE NEIGHBOUR: 'it returns false'. Refute it at one input. -/
def wordsSpreadWrong : ChangeSpec := { name := "wordsSpread", fn := fun _ => fun
  | [d1, d2, d3] => { results := [.lit (.bool false)], args := [d1, d2, d3] }
  | _ => none }
def WordsSpreadWrongFalsely : Prop := wordsSpreadRow.holds Tryd.pinned (OpenSpec.ofChange wordsSpreadWrong)

/-- 'incunablelaw14.WordsKnown': WHATEVER THE INPUT: true; the input reads as it did. -/
def wordsKnownSpec : ChangeSpec := { name := "wordsKnown", fn := fun _ => fun
  | [] => { results := [.lit (.bool true)], args := [] }
  | _ => none }
def wordsKnownRow : OpenClaim := { program := "ytlepaciglkodbaadoor", sum := "c88655f3d134334e69905946a65439ff73a33fe1864901f6c366c170217ffa27", func := "incunable/incunablelaw14.WordsKnown", spec := "wordsKnown", inPlace := ["internal/abi.NoEscape", "internal/bytealg.MakeNoZero", "internal/bytealg.IndexByteString"], unfollowed := true, recurses := true, named := ["incunable/words.spelled"], apart := false, laid := [("incunable/words.spelled", laid_incunable_words_spelled)] }
def WordsKnownSaid : Prop := wordsKnownRow.holds Tryd.pinned (OpenSpec.ofChange wordsKnownSpec)

/-- ITS FALSE NEIGHBOUR: 'it returns false'. Refute it at one input. -/
def wordsKnownWrong : ChangeSpec := { name := "wordsKnown", fn := fun _ => fun
  | [] => { results := [.lit (.bool false)], args := [] }
  | _ => none }
def WordsKnownWrongFalsely : Prop := wordsKnownRow.holds Tryd.pinned (OpenSpec.ofChange wordsKnownWrong)

/- THE SECOND FORM. 'bulk': how many values and letters a reading holds, each counted each time it is reached (what is shared counts as often as it is met; a slice's spare places count too). A statement '..UptoSaid' is the law's where the arguments, and the package variables that the reading takes, are together of bulk at most 1048576: NARROWER than '..Said'. Prove '..Said' where nothing that the law and all that it calls make is longer than what came in: it says more and counts as full. Else prove '..UptoSaid'. A law counts once. -/
mutual
def uptoBulk {H : Type} : DataW H → Nat
  | .lit (.string bytes) => bytes.length + 1
  | .lit _ => 1
  | .nil => 1
  | .ptr d => uptoBulk d + 1
  | .slice elems spare => uptoBulkAll elems + uptoBulkAll spare + 1
  | .agg parts => uptoBulkAll parts + 1
  | .iface _ d => uptoBulk d + 1
  | .map entries => uptoBulkEntries entries + 1
  | .held _ => 1
def uptoBulkAll {H : Type} : List (DataW H) → Nat
  | [] => 0
  | d :: r => uptoBulk d + uptoBulkAll r
def uptoBulkEntries {H : Type} : List (Lit × DataW H) → Nat
  | [] => 0
  | x :: r => uptoBulkEntry x + uptoBulkEntries r
def uptoBulkEntry {H : Type} : Lit × DataW H → Nat
  | (.string bytes, d) => bytes.length + uptoBulk d + 1
  | (_, d) => uptoBulk d + 1
 end
def uptoSmall : (H : Type) → List (DataW H) → Bool := fun _ ds => decide (uptoBulkAll ds ≤ 1048576)
def OpenSpec.upto (s : _root_.Go.ChangeSpec) : _root_.Go.OpenSpec := { _root_.Go.OpenSpec.ofChange s with cond := some uptoSmall }

/-- 'incunablelaw14.WordsCut', WHERE WHAT IT READS IS OF BULK AT MOST 1048576: true; the input reads as it did. -/
def wordsCutUptoRow : OpenClaim := { program := "ytlepaciglkodbaadoor", sum := "c88655f3d134334e69905946a65439ff73a33fe1864901f6c366c170217ffa27", func := "incunable/incunablelaw14.WordsCut", spec := "wordsCut", inPlace := ["internal/bytealg.IndexByteString"], unfollowed := true, recurses := true, named := ["incunable/words.spelled"], apart := false, laid := [("incunable/words.spelled", laid_incunable_words_spelled)], narrowed := true }
def WordsCutUptoSaid : Prop := wordsCutUptoRow.holds Tryd.pinned (OpenSpec.upto wordsCutSpec)

/-- 'incunablelaw14.WordsMay', WHERE WHAT IT READS IS OF BULK AT MOST 1048576: true; the input reads as it did. -/
def wordsMayUptoRow : OpenClaim := { program := "ytlepaciglkodbaadoor", sum := "c88655f3d134334e69905946a65439ff73a33fe1864901f6c366c170217ffa27", func := "incunable/incunablelaw14.WordsMay", spec := "wordsMay", inPlace := ["internal/bytealg.IndexByteString"], unfollowed := true, recurses := true, named := ["incunable/words.spelled"], apart := false, laid := [("incunable/words.spelled", laid_incunable_words_spelled)], narrowed := true }
def WordsMayUptoSaid : Prop := wordsMayUptoRow.holds Tryd.pinned (OpenSpec.upto wordsMaySpec)

/-- 'incunablelaw14.WordsOrder', WHERE WHAT IT READS IS OF BULK AT MOST 1048576: true; the input reads as it did. -/
def wordsOrderUptoRow : OpenClaim := { program := "ytlepaciglkodbaadoor", sum := "c88655f3d134334e69905946a65439ff73a33fe1864901f6c366c170217ffa27", func := "incunable/incunablelaw14.WordsOrder", spec := "wordsOrder", inPlace := ["internal/bytealg.IndexByteString"], unfollowed := true, recurses := true, named := ["incunable/words.spelled"], apart := false, laid := [("incunable/words.spelled", laid_incunable_words_spelled)], narrowed := true }
def WordsOrderUptoSaid : Prop := wordsOrderUptoRow.holds Tryd.pinned (OpenSpec.upto wordsOrderSpec)

/-- 'incunablelaw14.WordsAlone', WHERE WHAT IT READS IS OF BULK AT MOST 1048576: true; the input reads as it did. -/
def wordsAloneUptoRow : OpenClaim := { program := "ytlepaciglkodbaadoor", sum := "c88655f3d134334e69905946a65439ff73a33fe1864901f6c366c170217ffa27", func := "incunable/incunablelaw14.WordsAlone", spec := "wordsAlone", inPlace := ["internal/bytealg.IndexByteString"], unfollowed := true, recurses := true, named := ["incunable/words.spelled"], apart := false, laid := [("incunable/words.spelled", laid_incunable_words_spelled)], narrowed := true }
def WordsAloneUptoSaid : Prop := wordsAloneUptoRow.holds Tryd.pinned (OpenSpec.upto wordsAloneSpec)

/-- 'incunablelaw14.WordsJoin', WHERE WHAT IT READS IS OF BULK AT MOST 1048576: true; the input reads as it did. -/
def wordsJoinUptoRow : OpenClaim := { program := "ytlepaciglkodbaadoor", sum := "c88655f3d134334e69905946a65439ff73a33fe1864901f6c366c170217ffa27", func := "incunable/incunablelaw14.WordsJoin", spec := "wordsJoin", inPlace := ["internal/bytealg.IndexByteString"], unfollowed := true, recurses := true, named := ["incunable/words.spelled"], apart := false, laid := [("incunable/words.spelled", laid_incunable_words_spelled)], narrowed := true }
def WordsJoinUptoSaid : Prop := wordsJoinUptoRow.holds Tryd.pinned (OpenSpec.upto wordsJoinSpec)

/-- 'incunablelaw14.WordsSpread', WHERE WHAT IT READS IS OF BULK AT MOST 1048576: true; the input reads as it did. -/
def wordsSpreadUptoRow : OpenClaim := { program := "ytlepaciglkodbaadoor", sum := "c88655f3d134334e69905946a65439ff73a33fe1864901f6c366c170217ffa27", func := "incunable/incunablelaw14.WordsSpread", spec := "wordsSpread", inPlace := ["internal/bytealg.IndexByteString"], unfollowed := true, recurses := true, named := ["incunable/words.spelled"], apart := false, laid := [("incunable/words.spelled", laid_incunable_words_spelled)], narrowed := true }
def WordsSpreadUptoSaid : Prop := wordsSpreadUptoRow.holds Tryd.pinned (OpenSpec.upto wordsSpreadSpec)

/-- 'incunablelaw14.WordsKnown', WHERE WHAT IT READS IS OF BULK AT MOST 1048576: true; the input reads as it did. -/
def wordsKnownUptoRow : OpenClaim := { program := "ytlepaciglkodbaadoor", sum := "c88655f3d134334e69905946a65439ff73a33fe1864901f6c366c170217ffa27", func := "incunable/incunablelaw14.WordsKnown", spec := "wordsKnown", inPlace := ["internal/abi.NoEscape", "internal/bytealg.MakeNoZero", "internal/bytealg.IndexByteString"], unfollowed := true, recurses := true, named := ["incunable/words.spelled"], apart := false, laid := [("incunable/words.spelled", laid_incunable_words_spelled)], narrowed := true }
def WordsKnownUptoSaid : Prop := wordsKnownUptoRow.holds Tryd.pinned (OpenSpec.upto wordsKnownSpec)

end Rows
end Go.Proofs.YtlepaciglkodbaaDoor
