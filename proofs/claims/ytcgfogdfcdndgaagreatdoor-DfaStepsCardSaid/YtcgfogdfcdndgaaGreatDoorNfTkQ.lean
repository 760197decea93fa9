/- Nets of trees: a net of patterns leads from its beginning to a pattern's end by just those texts that the pattern takes. No program in it. -/
import Derived.Test.YtcgfogdfcdndgaaGreatDoorNfXQ
import Derived.Test.YtcgfogdfcdndgaaGreatDoorSetMQ
set_option linter.unusedVariables false
set_option linter.unusedSimpArgs false
namespace Go.Proofs.YtcgfogdfcdndgaaGreatDoor

def inQ (S k : Nat) (t : Rx) : Nat := S + 2 * (k + t.size - 1)
/-! What is left to be read at a state. -/
def Rst (S : Nat) : Nat → Rx → Nat → List UInt8 → Prop
  | k, .nil, q, u => (q = inQ S k .nil ∧ Mt .nil u) ∨ (q = inQ S k .nil + 1 ∧ u = [])
  | k, .set s, q, u => (q = inQ S k (.set s) ∧ Mt (.set s) u) ∨ (q = inQ S k (.set s) + 1 ∧ u = [])
  | k, .seq a b, q, u => (q = inQ S k (.seq a b) ∧ Mt (.seq a b) u) ∨ (q = inQ S k (.seq a b) + 1 ∧ u = []) ∨ (∃ u1 u2, u = u1 ++ u2 ∧ Rst S k a q u1 ∧ Mt b u2) ∨ Rst S (k + a.size) b q u
  | k, .alt a b, q, u => (q = inQ S k (.alt a b) ∧ Mt (.alt a b) u) ∨ (q = inQ S k (.alt a b) + 1 ∧ u = []) ∨ Rst S k a q u ∨ Rst S (k + a.size) b q u
  | k, .star a, q, u => (q = inQ S k (.star a) ∧ Mt (.star a) u) ∨ (q = inQ S k (.star a) + 1 ∧ u = []) ∨ ∃ u1 u2, u = u1 ++ u2 ∧ Rst S k a q u1 ∧ Mt (.star a) u2
  | k, .plus a, q, u => (q = inQ S k (.plus a) ∧ Mt (.plus a) u) ∨ (q = inQ S k (.plus a) + 1 ∧ u = []) ∨ ∃ u1 u2, u = u1 ++ u2 ∧ Rst S k a q u1 ∧ Mt (.star a) u2
def NR : Nat → List Rx → Nat → Nat → List UInt8 → Prop
  | _, [], _, _, _ => False
  | S, t :: ts, 0, q, u => (q = 0 ∧ Mt t u) ∨ Rst S 0 t q u
  | S, t :: ts, r + 1, q, u => NR (S + 2 * t.size) ts r q u
end Go.Proofs.YtcgfogdfcdndgaaGreatDoor

/- Nets of trees may be; the rule that is told is the first tree that takes the text; what steps make is what a run makes. No program in it. -/
set_option linter.unusedVariables false
set_option linter.unusedSimpArgs false
namespace Go.Proofs.YtcgfogdfcdndgaaGreatDoor

theorem for_congr {S : Nat} {E : List Ed} (hE : EdN S E) (hS : S ≤ 2048) {a b : List Nat} (ha : InN S a) (hb : InN S b) (h : ∀ x, x ∈ a ↔ x ∈ b) (x : Nat) : x ∈ forE E a ↔ x ∈ forE E b := by
  rw [(for_spec hE hS ha).2.2, (for_spec hE hS hb).2.2]
  exact ⟨Rch.mono fun y hy => .base ((h y).1 hy), Rch.mono fun y hy => .base ((h y).2 hy)⟩
end Go.Proofs.YtcgfogdfcdndgaaGreatDoor
