/-
  No cell of these rows narrows 'for every input' (looked for: loops, veiled, ifaces, maps, wideKeys, modest, calm, conditions, laid).
  DERIVED. THE GIVEN ROWS OF THIS SEAT. 8 by the template 'for every input the law returns true; each argument reads behind the call as it read before'; 0 by the template 'total and deterministic' (their statements: YtobfmlgoelmcpaaTotals.lean).
  GIVEN WITH THE SEED: the statements are not yours to turn. If you find one false, say at which input.
  Laid BY PROGRAM, IN A SANDBOX (cutbox-rows.mjs): the forced cells as the released guide's own fill.sh prints them over the translation bbe97f0c9880f425… (all of the seat's roots in one cut). By AI agents, Wed Nov 11 2026. No macro, syntax, notation, axiom, sorry.
-/
import Derived.Test.YtobfmlgoelmcpaaChecked
import GoSem.Claim
import GoSem.ClaimJoined
import GoSem.ClaimMapViews
import Derived.JoinedTies
import Derived.KernelRfl
namespace Go.Proofs.Ytobfmlgoelmcpaa
/- THE CELL 'sum', in the pinned program and in every row, IS THE sha256 OF THE DUMP (.gsa) THAT YtobfmlgoelmcpaaProg.lean LOADS. Nothing in Lean hashes anything: it is a label: what it is worth is what the hold of that sum in a sandbox is worth. -/
noncomputable def Try.pinned : Pinned := { name := "ytobfmlgoelmcpaa", sum := "bbe97f0c9880f42512e7d56aaba1071e9442cad9d3a4f7aa395827f850662013", checked := Try.checked }
namespace Rows
def none {H : Type} : Left H := { results := [], args := [] }

/-- 'incunablelaw02.CrcAnswers': WHATEVER THE INPUT: true; the input reads as it did. -/
def crcAnswersSpec : ChangeSpec := { name := "crcAnswers", fn := fun _ => fun
  | [d1, d2] => { results := [.lit (.bool true)], args := [d1, d2] }
  | _ => none }
def crcAnswersRow : OpenClaim := { program := "ytobfmlgoelmcpaa", sum := "bbe97f0c9880f42512e7d56aaba1071e9442cad9d3a4f7aa395827f850662013", func := "incunable/incunablelaw02.CrcAnswers", spec := "crcAnswers", unfollowed := true, recurses := true, apart := false }
def CrcAnswersSaid : Prop := crcAnswersRow.holds Try.pinned (OpenSpec.ofChange crcAnswersSpec)

/-- ITS FALSE NEIGHBOUR: 'it returns false'. Refute it at one input. -/
def crcAnswersWrong : ChangeSpec := { name := "crcAnswers", fn := fun _ => fun
  | [d1, d2] => { results := [.lit (.bool false)], args := [d1, d2] }
  | _ => none }
def CrcAnswersWrongFalsely : Prop := crcAnswersRow.holds Try.pinned (OpenSpec.ofChange crcAnswersWrong)

/-- 'incunablelaw02.CrcMany': WHATEVER THE INPUT: true; the input reads as it did. -/
def crcManySpec : ChangeSpec := { name := "crcMany", fn := fun _ => fun
  | [d1, d2, d3] => { results := [.lit (.bool true)], args := [d1, d2, d3] }
  | _ => none }
def crcManyRow : OpenClaim := { program := "ytobfmlgoelmcpaa", sum := "bbe97f0c9880f42512e7d56aaba1071e9442cad9d3a4f7aa395827f850662013", func := "incunable/incunablelaw02.CrcMany", spec := "crcMany", unfollowed := true, recurses := true, apart := false }
def CrcManySaid : Prop := crcManyRow.holds Try.pinned (OpenSpec.ofChange crcManySpec)

/-- ITS FALSE NEIGHBOUR: 'it returns false'. Refute it at one input. -/
def crcManyWrong : ChangeSpec := { name := "crcMany", fn := fun _ => fun
  | [d1, d2, d3] => { results := [.lit (.bool false)], args := [d1, d2, d3] }
  | _ => none }
def CrcManyWrongFalsely : Prop := crcManyRow.holds Try.pinned (OpenSpec.ofChange crcManyWrong)

/-- 'incunablelaw02.CrcBack': WHATEVER THE INPUT: true; the input reads as it did. -/
def crcBackSpec : ChangeSpec := { name := "crcBack", fn := fun _ => fun
  | [d1, d2, d3] => { results := [.lit (.bool true)], args := [d1, d2, d3] }
  | _ => none }
def crcBackRow : OpenClaim := { program := "ytobfmlgoelmcpaa", sum := "bbe97f0c9880f42512e7d56aaba1071e9442cad9d3a4f7aa395827f850662013", func := "incunable/incunablelaw02.CrcBack", spec := "crcBack", unfollowed := true, recurses := true, apart := false }
def CrcBackSaid : Prop := crcBackRow.holds Try.pinned (OpenSpec.ofChange crcBackSpec)

/-- ITS FALSE NEIGHBOUR: 'it returns false'. Refute it at one input. -/
def crcBackWrong : ChangeSpec := { name := "crcBack", fn := fun _ => fun
  | [d1, d2, d3] => { results := [.lit (.bool false)], args := [d1, d2, d3] }
  | _ => none }
def CrcBackWrongFalsely : Prop := crcBackRow.holds Try.pinned (OpenSpec.ofChange crcBackWrong)

/-- 'incunablelaw02.CrcReach': WHATEVER THE INPUT: true; the input reads as it did. -/
def crcReachSpec : ChangeSpec := { name := "crcReach", fn := fun _ => fun
  | [d1, d2, d3] => { results := [.lit (.bool true)], args := [d1, d2, d3] }
  | _ => none }
def crcReachRow : OpenClaim := { program := "ytobfmlgoelmcpaa", sum := "bbe97f0c9880f42512e7d56aaba1071e9442cad9d3a4f7aa395827f850662013", func := "incunable/incunablelaw02.CrcReach", spec := "crcReach", unfollowed := true, recurses := true, apart := false }
def CrcReachSaid : Prop := crcReachRow.holds Try.pinned (OpenSpec.ofChange crcReachSpec)

/-- ITS FALSE NEIGHBOUR: 'it returns false'. Refute it at one input. -/
def crcReachWrong : ChangeSpec := { name := "crcReach", fn := fun _ => fun
  | [d1, d2, d3] => { results := [.lit (.bool false)], args := [d1, d2, d3] }
  | _ => none }
def CrcReachWrongFalsely : Prop := crcReachRow.holds Try.pinned (OpenSpec.ofChange crcReachWrong)

/-- 'incunablelaw02.CrcBurst': WHATEVER THE INPUT: true; the input reads as it did. -/
def crcBurstSpec : ChangeSpec := { name := "crcBurst", fn := fun _ => fun
  | [d1, d2, d3] => { results := [.lit (.bool true)], args := [d1, d2, d3] }
  | _ => none }
def crcBurstRow : OpenClaim := { program := "ytobfmlgoelmcpaa", sum := "bbe97f0c9880f42512e7d56aaba1071e9442cad9d3a4f7aa395827f850662013", func := "incunable/incunablelaw02.CrcBurst", spec := "crcBurst", unfollowed := true, recurses := true, apart := false }
def CrcBurstSaid : Prop := crcBurstRow.holds Try.pinned (OpenSpec.ofChange crcBurstSpec)

/-- ITS FALSE NEIGHBOUR: 'it returns false'. Refute it at one input. -/
def crcBurstWrong : ChangeSpec := { name := "crcBurst", fn := fun _ => fun
  | [d1, d2, d3] => { results := [.lit (.bool false)], args := [d1, d2, d3] }
  | _ => none }
def CrcBurstWrongFalsely : Prop := crcBurstRow.holds Try.pinned (OpenSpec.ofChange crcBurstWrong)

/-- 'incunablelaw02.CrcPlaces': WHATEVER THE INPUT: true; the input reads as it did. -/
def crcPlacesSpec : ChangeSpec := { name := "crcPlaces", fn := fun _ => fun
  | [d1, d2] => { results := [.lit (.bool true)], args := [d1, d2] }
  | _ => none }
def crcPlacesRow : OpenClaim := { program := "ytobfmlgoelmcpaa", sum := "bbe97f0c9880f42512e7d56aaba1071e9442cad9d3a4f7aa395827f850662013", func := "incunable/incunablelaw02.CrcPlaces", spec := "crcPlaces", unfollowed := true, recurses := true, apart := false }
def CrcPlacesSaid : Prop := crcPlacesRow.holds Try.pinned (OpenSpec.ofChange crcPlacesSpec)

/-- ITS FALSE NEIGHBOUR: 'it returns false'. Refute it at one input. -/
def crcPlacesWrong : ChangeSpec := { name := "crcPlaces", fn := fun _ => fun
  | [d1, d2] => { results := [.lit (.bool false)], args := [d1, d2] }
  | _ => none }
def CrcPlacesWrongFalsely : Prop := crcPlacesRow.holds Try.pinned (OpenSpec.ofChange crcPlacesWrong)

/-- 'incunablelaw02.CrcNoughts': WHATEVER THE INPUT: true; the input reads as it did. -/
def crcNoughtsSpec : ChangeSpec := { name := "crcNoughts", fn := fun _ => fun
  | [d1, d2] => { results := [.lit (.bool true)], args := [d1, d2] }
  | _ => none }
def crcNoughtsRow : OpenClaim := { program := "ytobfmlgoelmcpaa", sum := "bbe97f0c9880f42512e7d56aaba1071e9442cad9d3a4f7aa395827f850662013", func := "incunable/incunablelaw02.CrcNoughts", spec := "crcNoughts", unfollowed := true, recurses := true, apart := false }
def CrcNoughtsSaid : Prop := crcNoughtsRow.holds Try.pinned (OpenSpec.ofChange crcNoughtsSpec)

/-- ITS FALSE NEIGHBOUR: 'it returns false'. Refute it at one input. -/
def crcNoughtsWrong : ChangeSpec := { name := "crcNoughts", fn := fun _ => fun
  | [d1, d2] => { results := [.lit (.bool false)], args := [d1, d2] }
  | _ => none }
def CrcNoughtsWrongFalsely : Prop := crcNoughtsRow.holds Try.pinned (OpenSpec.ofChange crcNoughtsWrong)

/-- 'incunablelaw02.CrcKnown': WHATEVER THE INPUT: true; the input reads as it did. -/
def crcKnownSpec : ChangeSpec := { name := "crcKnown", fn := fun _ => fun
  | [] => { results := [.lit (.bool true)], args := [] }
  | _ => none }
def crcKnownRow : OpenClaim := { program := "ytobfmlgoelmcpaa", sum := "bbe97f0c9880f42512e7d56aaba1071e9442cad9d3a4f7aa395827f850662013", func := "incunable/incunablelaw02.CrcKnown", spec := "crcKnown", unfollowed := true, recurses := true, apart := false }
def CrcKnownSaid : Prop := crcKnownRow.holds Try.pinned (OpenSpec.ofChange crcKnownSpec)

/-- ITS FALSE NEIGHBOUR: 'it returns false'. Refute it at one input. -/
def crcKnownWrong : ChangeSpec := { name := "crcKnown", fn := fun _ => fun
  | [] => { results := [.lit (.bool false)], args := [] }
  | _ => none }
def CrcKnownWrongFalsely : Prop := crcKnownRow.holds Try.pinned (OpenSpec.ofChange crcKnownWrong)

/- THE SECOND FORM. 'bulk': how many values and letters a reading holds, each counted each time it is reached (what is shared counts as often as it is met; a slice's spare places count too). A statement '..UptoSaid' is the law's where the arguments, and the package variables that the reading takes, are together of bulk at most 1048576: NARROWER than '..Said'. Prove '..Said' where nothing that the law and all that it calls make is longer than what came in: it says more and counts as full. Else prove '..UptoSaid'. A law counts once. -/
mutual
def uptoBulk {H : Type} : DataW H → Nat
  | .lit (.string bytes) => bytes.length + 1
  | .lit _ => 1
  | .nil => 1
  | .ptr d => uptoBulk d + 1
  | .slice elems spare => uptoBulkAll elems + uptoBulkAll spare + 1
  | .agg parts => uptoBulkAll parts + 1
  | .iface _ d => uptoBulk d + 1
  | .map entries => uptoBulkEntries entries + 1
  | .held _ => 1
def uptoBulkAll {H : Type} : List (DataW H) → Nat
  | [] => 0
  | d :: r => uptoBulk d + uptoBulkAll r
def uptoBulkEntries {H : Type} : List (Lit × DataW H) → Nat
  | [] => 0
  | x :: r => uptoBulkEntry x + uptoBulkEntries r
def uptoBulkEntry {H : Type} : Lit × DataW H → Nat
  | (.string bytes, d) => bytes.length + uptoBulk d + 1
  | (_, d) => uptoBulk d + 1
 end
def uptoSmall : (H : Type) → List (DataW H) → Bool := fun _ ds => decide (uptoBulkAll ds ≤ 1048576)
def OpenSpec.upto (s : _root_.Go.ChangeSpec) : _root_.Go.OpenSpec := { _root_.Go.OpenSpec.ofChange s with cond := some uptoSmall }

/-- 'incunablelaw02.CrcAnswers', WHERE WHAT IT READS IS OF BULK AT MOST 1048576: true; the input reads as it did. -/
def crcAnswersUptoRow : OpenClaim := { program := "ytobfmlgoelmcpaa", sum := "bbe97f0c9880f42512e7d56aaba1071e9442cad9d3a4f7aa395827f850662013", func := "incunable/incunablelaw02.CrcAnswers", spec := "crcAnswers", unfollowed := true, recurses := true, apart := false, narrowed := true }
def CrcAnswersUptoSaid : Prop := crcAnswersUptoRow.holds Try.pinned (OpenSpec.upto crcAnswersSpec)

/-- 'incunablelaw02.CrcMany', WHERE WHAT IT READS IS OF BULK AT MOST 1048576: true; the input reads as it did. -/
def crcManyUptoRow : OpenClaim := { program := "ytobfmlgoelmcpaa", sum := "bbe97f0c9880f42512e7d56aaba1071e9442cad9d3a4f7aa395827f850662013", func := "incunable/incunablelaw02.CrcMany", spec := "crcMany", unfollowed := true, recurses := true, apart := false, narrowed := true }
def CrcManyUptoSaid : Prop := crcManyUptoRow.holds Try.pinned (OpenSpec.upto crcManySpec)

/-- 'incunablelaw02.CrcBack', WHERE WHAT IT READS IS OF BULK AT MOST 1048576: true; the input reads as it did. -/
def crcBackUptoRow : OpenClaim := { program := "ytobfmlgoelmcpaa", sum := "bbe97f0c9880f42512e7d56aaba1071e9442cad9d3a4f7aa395827f850662013", func := "incunable/incunablelaw02.CrcBack", spec := "crcBack", unfollowed := true, recurses := true, apart := false, narrowed := true }
def CrcBackUptoSaid : Prop := crcBackUptoRow.holds Try.pinned (OpenSpec.upto crcBackSpec)

/-- 'incunablelaw02.CrcReach', WHERE WHAT IT READS IS OF BULK AT MOST 1048576: true; the input reads as it did. -/
def crcReachUptoRow : OpenClaim := { program := "ytobfmlgoelmcpaa", sum := "bbe97f0c9880f42512e7d56aaba1071e9442cad9d3a4f7aa395827f850662013", func := "incunable/incunablelaw02.CrcReach", spec := "crcReach", unfollowed := true, recurses := true, apart := false, narrowed := true }
def CrcReachUptoSaid : Prop := crcReachUptoRow.holds Try.pinned (OpenSpec.upto crcReachSpec)

/-- 'incunablelaw02.CrcBurst', WHERE WHAT IT READS IS OF BULK AT MOST 1048576: true; the input reads as it did. -/
def crcBurstUptoRow : OpenClaim := { program := "ytobfmlgoelmcpaa", sum := "bbe97f0c9880f42512e7d56aaba1071e9442cad9d3a4f7aa395827f850662013", func := "incunable/incunablelaw02.CrcBurst", spec := "crcBurst", unfollowed := true, recurses := true, apart := false, narrowed := true }
def CrcBurstUptoSaid : Prop := crcBurstUptoRow.holds Try.pinned (OpenSpec.upto crcBurstSpec)

/-- 'incunablelaw02.CrcPlaces', WHERE WHAT IT READS IS OF BULK AT MOST 1048576: true; the input reads as it did. -/
def crcPlacesUptoRow : OpenClaim := { program := "ytobfmlgoelmcpaa", sum := "bbe97f0c9880f42512e7d56aaba1071e9442cad9d3a4f7aa395827f850662013", func := "incunable/incunablelaw02.CrcPlaces", spec := "crcPlaces", unfollowed := true, recurses := true, apart := false, narrowed := true }
def CrcPlacesUptoSaid : Prop := crcPlacesUptoRow.holds Try.pinned (OpenSpec.upto crcPlacesSpec)

/-- 'incunablelaw02.CrcNoughts', WHERE WHAT IT READS IS OF BULK AT MOST 1048576: true; the input reads as it did. -/
def crcNoughtsUptoRow : OpenClaim := { program := "ytobfmlgoelmcpaa", sum := "bbe97f0c9880f42512e7d56aaba1071e9442cad9d3a4f7aa395827f850662013", func := "incunable/incunablelaw02.CrcNoughts", spec := "crcNoughts", unfollowed := true, recurses := true, apart := false, narrowed := true }
def CrcNoughtsUptoSaid : Prop := crcNoughtsUptoRow.holds Try.pinned (OpenSpec.upto crcNoughtsSpec)

/-- 'incunablelaw02.CrcKnown', WHERE WHAT IT READS IS OF BULK AT MOST 1048576: true; the input reads as it did. -/
def crcKnownUptoRow : OpenClaim := { program := "ytobfmlgoelmcpaa", sum := "bbe97f0c9880f42512e7d56aaba1071e9442cad9d3a4f7aa395827f850662013", func := "incunable/incunablelaw02.CrcKnown", spec := "crcKnown", unfollowed := true, recurses := true, apart := false, narrowed := true }
def CrcKnownUptoSaid : Prop := crcKnownUptoRow.holds Try.pinned (OpenSpec.upto crcKnownSpec)

end Rows
end Go.Proofs.Ytobfmlgoelmcpaa
