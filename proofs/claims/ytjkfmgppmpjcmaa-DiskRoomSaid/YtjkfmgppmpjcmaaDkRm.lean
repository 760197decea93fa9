/- A plain disk with two files: how much room is left. No program here, and no condition. -/
import Derived.Test.YtjkfmgppmpjcmaaDkV
set_option linter.unusedVariables false
set_option linter.unusedSimpArgs false
namespace Go.Proofs.Ytjkfmgppmpjcmaa

def rm1 (r : Nat) (B : BS) : DS := ⟨false, r, B.length, [⟨B, 0, 1⟩], [([97], 0)], [], [⟨[], [97], some 0⟩]⟩
def rm2 (r : Nat) (B : BS) : DS := ⟨false, r, B.length, [⟨B, 0, 2⟩], [([97], 0)], [([97], 0)], []⟩
def rm3 (r : Nat) (B : BS) : DS := ⟨false, r, B.length, [⟨B, 0, 1⟩], [], [([97], 0)], [⟨[97], [], none⟩]⟩
def rm4 (r : Nat) (B C : BS) : DS := ⟨false, r, B.length + C.length, [⟨B, 0, 1⟩, ⟨C, 0, 1⟩], [([98], 1)], [([97], 0)], [⟨[97], [], none⟩, ⟨[], [98], some 1⟩]⟩
def rm5 (r : Nat) (B C : BS) : DS := ⟨false, r, C.length, [⟨B, 0, 0⟩, ⟨C, 0, 2⟩], [([98], 1)], [([98], 1)], []⟩
def rm6 (r : Nat) (B : BS) : DS := ⟨false, r, 0, [⟨B, 0, 0⟩], [], [], []⟩
theorem room0 {r : Nat} {B : BS} (h : B.length ≤ r) : dE (newE r) ⟨0, [97], [], B⟩ = (rm1 r B, 0) := by
  have e : (newE r).used + B.length ≤ (newE r).room := by simpa [newE] using h
  simp only [dE, e, if_true]
  simp [rm1, appE, bornE, changeE, doT, relE, holE, getE, delE, putE, insE, addE, newE]
theorem room0' {r : Nat} {B : BS} (h : ¬ B.length ≤ r) : dE (newE r) ⟨0, [97], [], B⟩ = (newE r, 52) := by
  have e : ¬ (newE r).used + B.length ≤ (newE r).room := by simpa [newE] using h
  simp only [dE, e, if_false]
theorem room1 (r : Nat) (B : BS) : dE (rm1 r B) ⟨4, [], [], []⟩ = (rm2 r B, 0) := by
  simp [dE, rm1, rm2, keepE, playT, doT, relE, holE, getE, delE, putE, insE]
theorem room2 (r : Nat) (B : BS) : dE (rm2 r B) ⟨3, [97], [], []⟩ = (rm3 r B, 0) := by
  simp [dE, rm2, rm3, changeE, doT, relE, holE, getE, delE, putE, insE]
theorem room3 {r : Nat} {B C : BS} (h : B.length + C.length ≤ r) : dE (rm3 r B) ⟨0, [98], [], C⟩ = (rm4 r B C, 0) := by
  have e : (rm3 r B).used + C.length ≤ (rm3 r B).room := h
  simp only [dE, e, if_true]
  simp [rm3, rm4, appE, bornE, changeE, doT, relE, holE, getE, delE, putE, insE, addE]
theorem room3' {r : Nat} {B C : BS} (h : ¬ B.length + C.length ≤ r) : dE (rm3 r B) ⟨0, [98], [], C⟩ = (rm3 r B, 52) := by
  have e : ¬ (rm3 r B).used + C.length ≤ (rm3 r B).room := h
  simp only [dE, e, if_false]
theorem room4 (r : Nat) (B C : BS) : dE (rm4 r B C) ⟨4, [], [], []⟩ = (rm5 r B C, 0) := by
  simp [dE, rm4, rm5, keepE, playT, doT, relE, holE, getE, delE, putE, insE]
theorem room5 {r : Nat} {B C E : BS} (h : C.length + E.length ≤ r) : (dE (rm5 r B C) ⟨0, [98], [], E⟩).2 = 0 := by
  have e : (rm5 r B C).used + E.length ≤ (rm5 r B C).room := h
  simp only [dE, e, if_true]
theorem room6 (r : Nat) (B : BS) : dE (rm3 r B) ⟨4, [], [], []⟩ = (rm6 r B, 0) := by
  simp [dE, rm3, rm6, keepE, playT, doT, relE, holE, getE, delE, putE, insE]
theorem room7 {r : Nat} {B E : BS} (h : E.length ≤ r) : (dE (rm6 r B) ⟨0, [98], [], E⟩).2 = 0 := by
  have e : (rm6 r B).used + E.length ≤ (rm6 r B).room := by show 0 + E.length ≤ r; omega
  simp only [dE, e, if_true]
end Go.Proofs.Ytjkfmgppmpjcmaa
