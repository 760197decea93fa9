/- What bytes.Equal and bytes.HasPrefix of the library do: contracts over the translated program. -/
import Derived.Test.YthoocdgaiojkmaaWalkE
set_option linter.unusedVariables false
namespace Go.Proofs.Ythoocdgaiojkmaa
open Go.RowKit

set_option maxHeartbeats 400000 in
set_option maxRecDepth 20000 in
theorem equal_any (A A' : Option Addr) (n c n' c' : Nat) (l l' : List UInt8) (w : World) (hl : l.length = n) (hl' : l'.length = n') (hr : Rd w A l) (hr' : Rd w A' l') :
    Calls Try.prog 28 #[.slice A n c, .slice A' n' c'] w fun e w' => e = .returned (.bool (decide (l = l'))) ∧ w' = w := by
  have s1 := string_of w A n c l hl hr
  have s2 := string_of w A' n' c' l' hl' hr'
  have eb : (l == l') = decide (l = l') := by
    by_cases h : l = l'
    · subst h; simp
    · simp [h]
  have EB := Lib.hid eb
  clear eb
  go_enter Try.func28, Try.ntmps28
  go_wp2
  go_ret
  refine ⟨?_, rfl⟩
  show Ending.returned (Value.bool (l == l')) = _
  rw [EB.out]

/-- Does a list begin with another one? -/
def begins (l l' : List UInt8) : Bool := decide (l' <+: l)

set_option maxHeartbeats 400000 in
set_option maxRecDepth 20000 in
theorem prefix_any (A A' : Option Addr) (n c n' c' : Nat) (l l' : List UInt8) (w : World) (hl : l.length = n) (hl' : l'.length = n') (hr : Rd w A l) (hr' : Rd w A' l') (hnc : n ≤ c) (hc : c ≤ maxLen) :
    Calls Try.prog 27 #[.slice A n c, .slice A' n' c'] w fun e w' => e = .returned (.bool (begins l l')) ∧ w' = w := by
  unfold maxLen at hc
  by_cases hle : n' ≤ n
  · have hq := equal_any A A' n' c n' c' (l.take n') l' w (by rw [List.length_take, hl]; omega) hl' (hr.take n') hr'
    have hbg : decide (l.take n' = l') = begins l l' := by
      unfold begins
      rw [decide_eq_decide, List.prefix_iff_eq_take, hl']
      exact eq_comm
    rw [hbg] at hq
    have HQ := Lib.hid hq
    clear hq hl hl' hr hr' hbg
    generalize begins l l' = b at *
    have g1 : decide (n' ≤ n) = true := by simp [hle]
    have g2 : decide ((n' : Int) ≤ (n : Int)) = true := by simp [hle]
    go_enter Try.func27, Try.ntmps27
    go_wp2_with (go_at_call 28; refine (HQ.out).mono ?_; rintro e w' ⟨rfl, rfl⟩)
    go_ret
    exact ⟨rfl, rfl⟩
  · have hbg : begins l l' = false := by
      unfold begins
      rw [decide_eq_false_iff_not]
      intro h
      have := h.length_le
      omega
    have HBG := Lib.hid hbg
    clear hl hl' hr hr' hbg
    have g1 : decide (n' ≤ n) = false := by simp; omega
    have g2 : decide ((n' : Int) ≤ (n : Int)) = false := by simp; omega
    go_enter Try.func27, Try.ntmps27
    go_wp2_with fail
    go_ret
    exact ⟨by rw [HBG.out]; rfl, rfl⟩
end Go.Proofs.Ythoocdgaiojkmaa
