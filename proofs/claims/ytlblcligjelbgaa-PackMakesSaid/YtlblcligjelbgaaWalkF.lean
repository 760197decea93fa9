/- What bytes.Equal and bytes.HasPrefix of the library do: contracts over the translated program. -/
import Derived.Test.YtlblcligjelbgaaStr
set_option linter.unusedVariables false
namespace Go.Proofs.Ytlblcligjelbgaa
open Go.RowKit

set_option maxHeartbeats 400000 in
set_option maxRecDepth 20000 in
theorem equal_any (A A' : Option Addr) (n c n' c' : Nat) (l l' : List UInt8) (w : World) (hl : l.length = n) (hl' : l'.length = n') (hr : Rd w A l) (hr' : Rd w A' l') :
    Calls Try.prog 40 #[.slice A n c, .slice A' n' c'] w fun e w' => e = .returned (.bool (decide (l = l'))) ∧ w' = w := by
  have s1 := string_of w A n c l hl hr
  have s2 := string_of w A' n' c' l' hl' hr'
  have eb : (l == l') = decide (l = l') := by
    by_cases h : l = l'
    · subst h; simp
    · simp [h]
  have EB := Lib.hid eb
  clear eb
  go_enter Try.func40, Try.ntmps40
  go_wp2
  go_ret
  refine ⟨?_, rfl⟩
  show Ending.returned (Value.bool (l == l')) = _
  rw [EB.out]

/-- Does a list begin with another one? -/
def begins (l l' : List UInt8) : Bool := decide (l' <+: l)

end Go.Proofs.Ytlblcligjelbgaa
