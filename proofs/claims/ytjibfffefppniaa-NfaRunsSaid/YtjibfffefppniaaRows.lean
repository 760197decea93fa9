/-
  No cell of these rows narrows 'for every input' (looked for: loops, veiled, ifaces, maps, wideKeys, modest, calm, conditions, laid).
  DERIVED. THE GIVEN ROWS OF THIS SEAT. 4 by the template 'for every input the law returns true; each argument reads behind the call as it read before'; 0 by the template 'total and deterministic' (their statements: YtjibfffefppniaaTotals.lean).
  GIVEN WITH THE SEED: the statements are not yours to turn. If you find one false, say at which input.
  Laid BY PROGRAM, IN A SANDBOX (cutbox-rows.mjs): the forced cells as the released guide's own fill.sh prints them over the translation 6d54fe31bbaa1bde… (all of the seat's roots in one cut). By AI agents, Wed Nov 11 2026. No macro, syntax, notation, axiom, sorry.
-/
import Derived.Test.YtjibfffefppniaaChecked
import GoSem.Claim
import GoSem.ClaimJoined
import GoSem.ClaimMapViews
import Derived.JoinedTies
import Derived.KernelRfl
namespace Go.Proofs.Ytjibfffefppniaa
/- THE CELL 'sum', in the pinned program and in every row, IS THE sha256 OF THE DUMP (.gsa) THAT YtjibfffefppniaaProg.lean LOADS. Nothing in Lean hashes anything: it is a label: what it is worth is what the hold of that sum in a sandbox is worth. -/
noncomputable def Try.pinned : Pinned := { name := "ytjibfffefppniaa", sum := "6d54fe31bbaa1bdee69dfaaea976c29ba27a892f0ecca387a352ad5fea6230c4", checked := Try.checked }
namespace Rows
def none {H : Type} : Left H := { results := [], args := [] }

/-- 'incunablelaw10.NfaRuns': WHATEVER THE INPUT: true; the input reads as it did. -/
def nfaRunsSpec : ChangeSpec := { name := "nfaRuns", fn := fun _ => fun
  | [d1, d2] => { results := [.lit (.bool true)], args := [d1, d2] }
  | _ => none }
def nfaRunsRow : OpenClaim := { program := "ytjibfffefppniaa", sum := "6d54fe31bbaa1bdee69dfaaea976c29ba27a892f0ecca387a352ad5fea6230c4", func := "incunable/incunablelaw10.NfaRuns", spec := "nfaRuns", inPlace := ["internal/bytealg.IndexByteString"], unfollowed := true, recurses := true, apart := false }
def NfaRunsSaid : Prop := nfaRunsRow.holds Try.pinned (OpenSpec.ofChange nfaRunsSpec)

/-- ITS FALSE NEIGHBOUR: 'it returns false'. Refute it at one input. -/
def nfaRunsWrong : ChangeSpec := { name := "nfaRuns", fn := fun _ => fun
  | [d1, d2] => { results := [.lit (.bool false)], args := [d1, d2] }
  | _ => none }
def NfaRunsWrongFalsely : Prop := nfaRunsRow.holds Try.pinned (OpenSpec.ofChange nfaRunsWrong)

/-- 'incunablelaw10.NfaCloses': WHATEVER THE INPUT: true; the input reads as it did. -/
def nfaClosesSpec : ChangeSpec := { name := "nfaCloses", fn := fun _ => fun
  | [d1, d2, d3] => { results := [.lit (.bool true)], args := [d1, d2, d3] }
  | _ => none }
def nfaClosesRow : OpenClaim := { program := "ytjibfffefppniaa", sum := "6d54fe31bbaa1bdee69dfaaea976c29ba27a892f0ecca387a352ad5fea6230c4", func := "incunable/incunablelaw10.NfaCloses", spec := "nfaCloses", inPlace := ["internal/bytealg.IndexByteString"], unfollowed := true, recurses := true, apart := false }
def NfaClosesSaid : Prop := nfaClosesRow.holds Try.pinned (OpenSpec.ofChange nfaClosesSpec)

/-- ITS FALSE NEIGHBOUR: 'it returns false'. Refute it at one input. -/
def nfaClosesWrong : ChangeSpec := { name := "nfaCloses", fn := fun _ => fun
  | [d1, d2, d3] => { results := [.lit (.bool false)], args := [d1, d2, d3] }
  | _ => none }
def NfaClosesWrongFalsely : Prop := nfaClosesRow.holds Try.pinned (OpenSpec.ofChange nfaClosesWrong)

/-- 'incunablelaw10.NfaStepwise': WHATEVER THE INPUT: true; the input reads as it did. -/
def nfaStepwiseSpec : ChangeSpec := { name := "nfaStepwise", fn := fun _ => fun
  | [d1, d2] => { results := [.lit (.bool true)], args := [d1, d2] }
  | _ => none }
def nfaStepwiseRow : OpenClaim := { program := "ytjibfffefppniaa", sum := "6d54fe31bbaa1bdee69dfaaea976c29ba27a892f0ecca387a352ad5fea6230c4", func := "incunable/incunablelaw10.NfaStepwise", spec := "nfaStepwise", inPlace := ["internal/bytealg.IndexByteString"], unfollowed := true, recurses := true, apart := false }
def NfaStepwiseSaid : Prop := nfaStepwiseRow.holds Try.pinned (OpenSpec.ofChange nfaStepwiseSpec)

/-- ITS FALSE NEIGHBOUR: 'it returns false'. Refute it at one input. -/
def nfaStepwiseWrong : ChangeSpec := { name := "nfaStepwise", fn := fun _ => fun
  | [d1, d2] => { results := [.lit (.bool false)], args := [d1, d2] }
  | _ => none }
def NfaStepwiseWrongFalsely : Prop := nfaStepwiseRow.holds Try.pinned (OpenSpec.ofChange nfaStepwiseWrong)

/-- 'incunablelaw10.NfaOrder': WHATEVER THE INPUT: true; the input reads as it did. -/
def nfaOrderSpec : ChangeSpec := { name := "nfaOrder", fn := fun _ => fun
  | [d1, d2, d3] => { results := [.lit (.bool true)], args := [d1, d2, d3] }
  | _ => none }
def nfaOrderRow : OpenClaim := { program := "ytjibfffefppniaa", sum := "6d54fe31bbaa1bdee69dfaaea976c29ba27a892f0ecca387a352ad5fea6230c4", func := "incunable/incunablelaw10.NfaOrder", spec := "nfaOrder", inPlace := ["internal/bytealg.IndexByteString"], unfollowed := true, recurses := true, apart := false }
def NfaOrderSaid : Prop := nfaOrderRow.holds Try.pinned (OpenSpec.ofChange nfaOrderSpec)

/-- ITS FALSE NEIGHBOUR: 'it returns false'. Refute it at one input. -/
def nfaOrderWrong : ChangeSpec := { name := "nfaOrder", fn := fun _ => fun
  | [d1, d2, d3] => { results := [.lit (.bool false)], args := [d1, d2, d3] }
  | _ => none }
def NfaOrderWrongFalsely : Prop := nfaOrderRow.holds Try.pinned (OpenSpec.ofChange nfaOrderWrong)

/- THE SECOND FORM. 'bulk': how many values and letters a reading holds, each counted each time it is reached (what is shared counts as often as it is met; a slice's spare places count too). A statement '..UptoSaid' is the law's where the arguments, and the package variables that the reading takes, are together of bulk at most 1048576: NARROWER than '..Said'. Prove '..Said' where nothing that the law and all that it calls make is longer than what came in: it says more and counts as full. Else prove '..UptoSaid'. A law counts once. -/
mutual
def uptoBulk {H : Type} : DataW H → Nat
  | .lit (.string bytes) => bytes.length + 1
  | .lit _ => 1
  | .nil => 1
  | .ptr d => uptoBulk d + 1
  | .slice elems spare => uptoBulkAll elems + uptoBulkAll spare + 1
  | .agg parts => uptoBulkAll parts + 1
  | .iface _ d => uptoBulk d + 1
  | .map entries => uptoBulkEntries entries + 1
  | .held _ => 1
def uptoBulkAll {H : Type} : List (DataW H) → Nat
  | [] => 0
  | d :: r => uptoBulk d + uptoBulkAll r
def uptoBulkEntries {H : Type} : List (Lit × DataW H) → Nat
  | [] => 0
  | x :: r => uptoBulkEntry x + uptoBulkEntries r
def uptoBulkEntry {H : Type} : Lit × DataW H → Nat
  | (.string bytes, d) => bytes.length + uptoBulk d + 1
  | (_, d) => uptoBulk d + 1
 end
def uptoSmall : (H : Type) → List (DataW H) → Bool := fun _ ds => decide (uptoBulkAll ds ≤ 1048576)
def OpenSpec.upto (s : _root_.Go.ChangeSpec) : _root_.Go.OpenSpec := { _root_.Go.OpenSpec.ofChange s with cond := some uptoSmall }

/-- 'incunablelaw10.NfaRuns', WHERE WHAT IT READS IS OF BULK AT MOST 1048576: true; the input reads as it did. -/
def nfaRunsUptoRow : OpenClaim := { program := "ytjibfffefppniaa", sum := "6d54fe31bbaa1bdee69dfaaea976c29ba27a892f0ecca387a352ad5fea6230c4", func := "incunable/incunablelaw10.NfaRuns", spec := "nfaRuns", inPlace := ["internal/bytealg.IndexByteString"], unfollowed := true, recurses := true, apart := false, narrowed := true }
def NfaRunsUptoSaid : Prop := nfaRunsUptoRow.holds Try.pinned (OpenSpec.upto nfaRunsSpec)

/-- 'incunablelaw10.NfaCloses', WHERE WHAT IT READS IS OF BULK AT MOST 1048576: true; the input reads as it did. -/
def nfaClosesUptoRow : OpenClaim := { program := "ytjibfffefppniaa", sum := "6d54fe31bbaa1bdee69dfaaea976c29ba27a892f0ecca387a352ad5fea6230c4", func := "incunable/incunablelaw10.NfaCloses", spec := "nfaCloses", inPlace := ["internal/bytealg.IndexByteString"], unfollowed := true, recurses := true, apart := false, narrowed := true }
def NfaClosesUptoSaid : Prop := nfaClosesUptoRow.holds Try.pinned (OpenSpec.upto nfaClosesSpec)

/-- 'incunablelaw10.NfaStepwise', WHERE WHAT IT READS IS OF BULK AT MOST 1048576: true; the input reads as it did. -/
def nfaStepwiseUptoRow : OpenClaim := { program := "ytjibfffefppniaa", sum := "6d54fe31bbaa1bdee69dfaaea976c29ba27a892f0ecca387a352ad5fea6230c4", func := "incunable/incunablelaw10.NfaStepwise", spec := "nfaStepwise", inPlace := ["internal/bytealg.IndexByteString"], unfollowed := true, recurses := true, apart := false, narrowed := true }
def NfaStepwiseUptoSaid : Prop := nfaStepwiseUptoRow.holds Try.pinned (OpenSpec.upto nfaStepwiseSpec)

/-- 'incunablelaw10.NfaOrder', WHERE WHAT IT READS IS OF BULK AT MOST 1048576: true; the input reads as it did. -/
def nfaOrderUptoRow : OpenClaim := { program := "ytjibfffefppniaa", sum := "6d54fe31bbaa1bdee69dfaaea976c29ba27a892f0ecca387a352ad5fea6230c4", func := "incunable/incunablelaw10.NfaOrder", spec := "nfaOrder", inPlace := ["internal/bytealg.IndexByteString"], unfollowed := true, recurses := true, apart := false, narrowed := true }
def NfaOrderUptoSaid : Prop := nfaOrderUptoRow.holds Try.pinned (OpenSpec.upto nfaOrderSpec)

end Rows
end Go.Proofs.Ytjibfffefppniaa
