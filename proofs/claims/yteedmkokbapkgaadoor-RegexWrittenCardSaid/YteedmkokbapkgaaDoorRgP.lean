/- How a pattern is read, and how it is written: what was written is read as it was. No program in it. -/
import Derived.Test.YteedmkokbapkgaaDoorRgM
set_option linter.unusedVariables false
set_option linter.unusedSimpArgs false
namespace Go.Proofs.YteedmkokbapkgaaDoor

inductive Res (α : Type) where
  | ok (v : α) (r : List UInt8)
  | bad (r : List UInt8)
  | out
def look (r : List UInt8) : UInt8 := r.headD 0
def sgA : List UInt8 := [40, 41, 91, 93, 124, 42, 43, 63, 46, 92, 47]
def sgC : List UInt8 := [91, 93, 92, 94, 45, 47]
def ltrs : List UInt8 := [110, 116, 114]
def lttd : List UInt8 := [10, 9, 13]
def dgts : List UInt8 := [48, 49, 50, 51, 52, 53, 54, 55, 56, 57, 97, 98, 99, 100, 101, 102]
def idxB : List UInt8 → UInt8 → Option Nat
  | [], _ => none
  | x :: l, b => if x = b then some 0 else (idxB l b).map (· + 1)
def hasB (l : List UInt8) (b : UInt8) : Bool := (idxB l b).isSome
def plainB (b : UInt8) (sg : List UInt8) : Bool := decide (32 ≤ b) && decide (b ≤ 126) && !hasB sg b
def signB (b : UInt8) : Bool := hasB sgA b || hasB sgC b
def digM : List UInt8 → Res Nat
  | [] => .bad []
  | b :: t => match idxB dgts b with
    | some i => .ok i t
    | none => .bad (b :: t)
def escM : List UInt8 → Res UInt8
  | [] => .bad []
  | b :: t =>
    if b = 120 then
      match digM t with
      | .ok h t1 => match digM t1 with
        | .ok l t2 => .ok (UInt8.ofNat (16 * h + l)) t2
        | .bad x => .bad x
        | .out => .out
      | .bad x => .bad x
      | .out => .out
    else match idxB ltrs b with
      | some i => .ok (lttd.getD i 0) t
      | none => if signB b then .ok b t else .bad (b :: t)
def oneM (sg : List UInt8) : List UInt8 → Res UInt8
  | [] => .bad []
  | b :: t => if b = 92 then escM t else if plainB b sg then .ok b t else .bad (b :: t)
def spanS (a b : Nat) : S4 := s4 (allW nilW ((List.range (b + 1 - a)).map (a + ·)))
def strM (r : List UInt8) : Res S4 :=
  match oneM sgC r with
  | .ok a r1 =>
    if look r1 = 45 then
      match oneM sgC r1.tail with
      | .ok b r2 => if b < a then .bad r1.tail else .ok (spanS a.toNat b.toNat) r2
      | .bad x => .bad x
      | .out => .out
    else .ok (oneS a.toNat) r1
  | .bad x => .bad x
  | .out => .out
def clsL : Nat → S4 → List UInt8 → Res S4
  | 0, _, _ => .out
  | f + 1, s, r => if look r = 93 then .ok s r.tail else
    match strM r with
    | .ok s2 r2 => clsL f (orS s s2) r2
    | .bad x => .bad x
    | .out => .out
def notS (s : S4) : S4 := s4 (notW s.f)
def clsM (r : List UInt8) : Res S4 :=
  match strM (if look r = 94 then r.tail else r) with
  | .ok s r1 => match clsL (r1.length + 1) s r1 with
    | .ok s2 r2 => .ok (if look r = 94 then notS s2 else s2) r2
    | .bad x => .bad x
    | .out => .out
  | .bad x => .bad x
  | .out => .out
def dotS : S4 := notS (oneS 10)
def reps : Rx → List UInt8 → Rx × List UInt8
  | t, [] => (t, [])
  | t, b :: r => if b = 42 then reps (.star t) r else if b = 43 then reps (.plus t) r else if b = 63 then reps (.alt t .nil) r else (t, b :: r)
def endsB (r : List UInt8) : Bool := decide (r = []) || decide (look r = 124) || decide (look r = 41)
inductive Md where
  | ways
  | waysL (t : Rx)
  | way
  | wayL (t : Rx)
  | piece
  | atom
def parM : Nat → Md → List UInt8 → Res Rx
  | 0, _, _ => .out
  | f + 1, .ways, r => match parM f .way r with
    | .ok t r1 => parM f (.waysL t) r1
    | x => x
  | f + 1, .waysL t, r => if look r = 124 then
      match parM f .way r.tail with
      | .ok t2 r2 => parM f (.waysL (.alt t t2)) r2
      | x => x
    else .ok t r
  | f + 1, .way, r => if endsB r then .ok .nil r else
      match parM f .piece r with
      | .ok t r1 => parM f (.wayL t) r1
      | x => x
  | f + 1, .wayL t, r => if endsB r then .ok t r else
      match parM f .piece r with
      | .ok t2 r2 => parM f (.wayL (.seq t t2)) r2
      | x => x
  | f + 1, .piece, r => match parM f .atom r with
    | .ok t r1 => .ok (reps t r1).1 (reps t r1).2
    | x => x
  | f + 1, .atom, r =>
    if look r = 40 then
      match parM f .ways r.tail with
      | .ok t r1 => if look r1 = 41 then .ok t r1.tail else .bad r1
      | x => x
    else if look r = 91 then
      match clsM r.tail with
      | .ok s r1 => .ok (.set s) r1
      | .bad x => .bad x
      | .out => .out
    else if look r = 46 then .ok (.set dotS) r.tail
    else match oneM sgA r with
      | .ok c r1 => .ok (.set (oneS c.toNat)) r1
      | .bad x => .bad x
      | .out => .out

/-! What is read is nearer to the end. -/
theorem digM_len {r r1 : List UInt8} {v : Nat} (h : digM r = .ok v r1) : r1.length < r.length := by
  cases r with
  | nil => cases h
  | cons b t =>
    rw [digM] at h
    split at h
    · injection h with _ h; subst h; simp
    · cases h
theorem escM_len {r r1 : List UInt8} {v : UInt8} (h : escM r = .ok v r1) : r1.length < r.length := by
  cases r with
  | nil => cases h
  | cons b t =>
    rw [escM] at h
    split at h
    · split at h
      · rename_i h1
        split at h
        · rename_i h2
          have := digM_len h1
          have := digM_len h2
          injection h with _ h; subst h; simp; omega
        · cases h
        · cases h
      · cases h
      · cases h
    · split at h
      · injection h with _ h; subst h; simp
      · split at h
        · injection h with _ h; subst h; simp
        · cases h
theorem oneM_len {sg r r1 : List UInt8} {v : UInt8} (h : oneM sg r = .ok v r1) : r1.length < r.length := by
  cases r with
  | nil => cases h
  | cons b t =>
    rw [oneM] at h
    split at h
    · have := escM_len h; simp; omega
    · split at h
      · injection h with _ h; subst h; simp
      · cases h
theorem digM_out (r : List UInt8) : digM r ≠ .out := by
  cases r with
  | nil => simp [digM]
  | cons b t => rw [digM]; split <;> simp
theorem escM_out (r : List UInt8) : escM r ≠ .out := by
  cases r with
  | nil => simp [escM]
  | cons b t =>
    rw [escM]
    split
    · split
      · split
        · simp
        · simp
        · rename_i h; exact absurd h (digM_out _)
      · simp
      · rename_i h; exact absurd h (digM_out _)
    · split
      · simp
      · split <;> simp
theorem oneM_out (sg r : List UInt8) : oneM sg r ≠ .out := by
  cases r with
  | nil => simp [oneM]
  | cons b t =>
    rw [oneM]
    split
    · exact escM_out _
    · split <;> simp
theorem strM_len {r r1 : List UInt8} {v : S4} (h : strM r = .ok v r1) : r1.length < r.length := by
  rw [strM] at h
  split at h
  · rename_i a r2 h1
    have i1 := oneM_len h1
    split at h
    · split at h
      · rename_i b r3 h2
        have i2 := oneM_len h2
        split at h
        · cases h
        · injection h with _ h; subst h
          have : r2.tail.length ≤ r2.length := by simp
          omega
      · cases h
      · cases h
    · injection h with _ h; subst h; exact i1
  · cases h
  · cases h
theorem strM_out (r : List UInt8) : strM r ≠ .out := by
  rw [strM]
  split
  · split
    · split
      · split <;> simp
      · simp
      · rename_i h; exact absurd h (oneM_out _ _)
    · simp
  · simp
  · rename_i h; exact absurd h (oneM_out _ _)
theorem clsL_len : ∀ (f : Nat) {s : S4} {r r1 : List UInt8} {v : S4}, clsL f s r = .ok v r1 → r1.length ≤ r.length
  | 0, s, r, r1, v, h => by cases h
  | f + 1, s, r, r1, v, h => by
    rw [clsL] at h
    split at h
    · injection h with _ h; subst h; simp
    · split at h
      · rename_i h1
        have := strM_len h1
        have := clsL_len f h
        omega
      · cases h
      · cases h
theorem clsL_out : ∀ (f : Nat) (s : S4) (r : List UInt8), r.length < f → clsL f s r ≠ .out
  | 0, s, r, hf => absurd hf (by omega)
  | f + 1, s, r, hf => by
    rw [clsL]
    split
    · simp
    · split
      · rename_i h1
        have := strM_len h1
        exact clsL_out f _ _ (by omega)
      · simp
      · rename_i h; exact absurd h (strM_out _)
theorem clsM_len {r r1 : List UInt8} {v : S4} (h : clsM r = .ok v r1) : r1.length ≤ r.length := by
  rw [clsM] at h
  have h0 : (if look r = 94 then r.tail else r).length ≤ r.length := by split <;> simp
  split at h
  · rename_i h1
    have := strM_len h1
    split at h
    · rename_i h2
      have := clsL_len _ h2
      injection h with _ h; subst h; omega
    · cases h
    · cases h
  · cases h
  · cases h
theorem clsM_out (r : List UInt8) : clsM r ≠ .out := by
  rw [clsM]
  split
  · split
    · simp
    · simp
    · rename_i h; exact absurd h (clsL_out _ _ _ (by omega))
  · simp
  · rename_i h; exact absurd h (strM_out _)
theorem reps_len : ∀ (r : List UInt8) (t : Rx), (reps t r).2.length ≤ r.length
  | [], t => by simp [reps]
  | b :: r, t => by
    rw [reps]
    split
    · have := reps_len r (.star t); simp; omega
    · split
      · have := reps_len r (.plus t); simp; omega
      · split
        · have := reps_len r (.alt t .nil); simp; omega
        · simp
theorem look_tail {r : List UInt8} {b : UInt8} (h : look r = b) (hb : b ≠ 0) : r.tail.length + 1 = r.length := by
  cases r with
  | nil => exact absurd h.symm hb
  | cons x t => rfl
/-- How much fuel is enough. -/
def fuelM : Md → Nat → Nat
  | .ways, n => 5 * n + 4
  | .waysL _, n => 5 * n + 3
  | .way, n => 5 * n + 3
  | .wayL _, n => 5 * n + 2
  | .piece, n => 5 * n + 1
  | .atom, n => 5 * n
/-- What a part reads at least. -/
def leastM : Md → Nat
  | .piece => 1
  | .atom => 1
  | _ => 0
theorem parM_len : ∀ (f : Nat) (m : Md) (r : List UInt8) (t : Rx) (r1 : List UInt8), parM f m r = .ok t r1 → r1.length + leastM m ≤ r.length
  | 0, m, r, t, r1, h => by cases h
  | f + 1, .ways, r, t, r1, h => by
    rw [parM] at h
    split at h
    · rename_i h1
      have := parM_len f _ _ _ _ h1
      have := parM_len f _ _ _ _ h
      simp only [leastM] at *; omega
    · rename_i hx
      exact absurd h (hx _ _)
  | f + 1, .waysL u, r, t, r1, h => by
    rw [parM] at h
    split at h
    · rename_i hl
      have := look_tail hl (by decide)
      split at h
      · rename_i h1
        have := parM_len f _ _ _ _ h1
        have := parM_len f _ _ _ _ h
        simp only [leastM] at *; omega
      · rename_i hx
        exact absurd h (hx _ _)
    · injection h with _ h; subst h; simp [leastM]
  | f + 1, .way, r, t, r1, h => by
    rw [parM] at h
    split at h
    · injection h with _ h; subst h; simp [leastM]
    · split at h
      · rename_i h1
        have := parM_len f _ _ _ _ h1
        have := parM_len f _ _ _ _ h
        simp only [leastM] at *; omega
      · rename_i hx
        exact absurd h (hx _ _)
  | f + 1, .wayL u, r, t, r1, h => by
    rw [parM] at h
    split at h
    · injection h with _ h; subst h; simp [leastM]
    · split at h
      · rename_i h1
        have := parM_len f _ _ _ _ h1
        have := parM_len f _ _ _ _ h
        simp only [leastM] at *; omega
      · rename_i hx
        exact absurd h (hx _ _)
  | f + 1, .piece, r, t, r1, h => by
    rw [parM] at h
    split at h
    · rename_i t1 r2 h1
      have := parM_len f _ _ _ _ h1
      have := reps_len r2 t1
      injection h with _ h; subst h
      simp only [leastM] at *; omega
    · rename_i hx
      exact absurd h (hx _ _)
  | f + 1, .atom, r, t, r1, h => by
    rw [parM] at h
    split at h
    · rename_i hl
      have := look_tail hl (by decide)
      split at h
      · rename_i t1 r2 h1
        have := parM_len f _ _ _ _ h1
        split at h
        · rename_i hl2
          have := look_tail hl2 (by decide)
          injection h with _ h; subst h
          simp only [leastM] at *; omega
        · cases h
      · rename_i hx
        exact absurd h (hx _ _)
    · split at h
      · rename_i hl
        have := look_tail hl (by decide)
        split at h
        · rename_i h1
          have := clsM_len h1
          injection h with _ h; subst h
          simp only [leastM] at *; omega
        · cases h
        · cases h
      · split at h
        · rename_i hl
          have := look_tail hl (by decide)
          injection h with _ h; subst h
          simp only [leastM] at *; omega
        · split at h
          · rename_i h1
            have := oneM_len h1
            injection h with _ h; subst h
            simp only [leastM] at *; omega
          · cases h
          · cases h
/-- How many nodes are made at most. -/
def sizeM : Md → Nat → Nat
  | .ways, n => 2 * n + 1
  | .waysL u, n => u.size + 2 * n
  | .way, n => 2 * n + 1
  | .wayL u, n => u.size + 2 * n
  | .piece, n => 2 * n - 1
  | .atom, n => 2 * n - 1
theorem reps_size : ∀ (r : List UInt8) (t : Rx), (reps t r).1.size + 2 * (reps t r).2.length ≤ t.size + 2 * r.length
  | [], t => by simp [reps]
  | b :: r, t => by
    rw [reps]
    split
    · have := reps_size r (.star t); simp [Rx.size] at this ⊢; omega
    · split
      · have := reps_size r (.plus t); simp [Rx.size] at this ⊢; omega
      · split
        · have := reps_size r (.alt t .nil); simp [Rx.size] at this ⊢; omega
        · simp
theorem parM_size : ∀ (f : Nat) (m : Md) (r : List UInt8) (t : Rx) (r1 : List UInt8), parM f m r = .ok t r1 → t.size + 2 * r1.length ≤ sizeM m r.length
  | 0, m, r, t, r1, h => by cases h
  | f + 1, .ways, r, t, r1, h => by
    rw [parM] at h
    split at h
    · rename_i h1
      have := parM_size f _ _ _ _ h1
      have := parM_size f _ _ _ _ h
      simp only [sizeM] at *; omega
    · rename_i hx
      exact absurd h (hx _ _)
  | f + 1, .waysL u, r, t, r1, h => by
    rw [parM] at h
    split at h
    · rename_i hl
      have := look_tail hl (by decide)
      split at h
      · rename_i h1
        have := parM_size f _ _ _ _ h1
        have := parM_size f _ _ _ _ h
        simp only [sizeM, Rx.size] at *; omega
      · rename_i hx
        exact absurd h (hx _ _)
    · injection h with h1 h2; subst h1 h2; simp [sizeM]
  | f + 1, .way, r, t, r1, h => by
    rw [parM] at h
    split at h
    · injection h with h1 h2; subst h1 h2; simp [sizeM, Rx.size]; omega
    · split at h
      · rename_i h1
        have := parM_len f _ _ _ _ h1
        have := parM_size f _ _ _ _ h1
        have := parM_size f _ _ _ _ h
        simp only [sizeM, leastM] at *; omega
      · rename_i hx
        exact absurd h (hx _ _)
  | f + 1, .wayL u, r, t, r1, h => by
    rw [parM] at h
    split at h
    · injection h with h1 h2; subst h1 h2; simp [sizeM]
    · split at h
      · rename_i h1
        have := parM_len f _ _ _ _ h1
        have := parM_size f _ _ _ _ h1
        have := parM_size f _ _ _ _ h
        simp only [sizeM, leastM, Rx.size] at *; omega
      · rename_i hx
        exact absurd h (hx _ _)
  | f + 1, .piece, r, t, r1, h => by
    rw [parM] at h
    split at h
    · rename_i t1 r2 h1
      have := parM_len f _ _ _ _ h1
      have := parM_size f _ _ _ _ h1
      have := reps_size r2 t1
      injection h with h1 h2; subst h1 h2
      simp only [sizeM, leastM] at *; omega
    · rename_i hx
      exact absurd h (hx _ _)
  | f + 1, .atom, r, t, r1, h => by
    rw [parM] at h
    split at h
    · rename_i hl
      have := look_tail hl (by decide)
      split at h
      · rename_i t1 r2 h1
        have := parM_size f _ _ _ _ h1
        split at h
        · rename_i hl2
          have := look_tail hl2 (by decide)
          injection h with h1 h2; subst h1 h2
          simp only [sizeM] at *; omega
        · cases h
      · rename_i hx
        exact absurd h (hx _ _)
    · split at h
      · rename_i hl
        have := look_tail hl (by decide)
        split at h
        · rename_i h1
          have := clsM_len h1
          injection h with h1 h2; subst h1 h2
          simp only [sizeM, Rx.size] at *; omega
        · cases h
        · cases h
      · split at h
        · rename_i hl
          have := look_tail hl (by decide)
          injection h with h1 h2; subst h1 h2
          simp only [sizeM, Rx.size] at *; omega
        · split at h
          · rename_i h1
            have := oneM_len h1
            injection h with h1 h2; subst h1 h2
            simp only [sizeM, Rx.size] at *; omega
          · cases h
          · cases h
theorem ends_ne {r : List UInt8} (h : ¬ endsB r = true) : r ≠ [] := by
  intro e
  subst e
  exact h rfl
theorem parM_out : ∀ (f : Nat) (m : Md) (r : List UInt8), fuelM m r.length < f → parM f m r ≠ .out
  | 0, m, r, h => absurd h (by omega)
  | f + 1, .ways, r, hf => by
    simp only [fuelM] at hf
    rw [parM]
    split
    · rename_i h1
      have := parM_len f _ _ _ _ h1
      exact parM_out f _ _ (by simp only [fuelM, leastM] at *; omega)
    · exact parM_out f _ _ (by simp only [fuelM, leastM] at *; omega)
  | f + 1, .waysL u, r, hf => by
    simp only [fuelM] at hf
    rw [parM]
    split
    · rename_i hl
      have := look_tail hl (by decide)
      split
      · rename_i h1
        have := parM_len f _ _ _ _ h1
        exact parM_out f _ _ (by simp only [fuelM, leastM] at *; omega)
      · exact parM_out f _ _ (by simp only [fuelM, leastM] at *; omega)
    · simp
  | f + 1, .way, r, hf => by
    simp only [fuelM] at hf
    rw [parM]
    split
    · simp
    · split
      · rename_i h1
        have := parM_len f _ _ _ _ h1
        exact parM_out f _ _ (by simp only [fuelM, leastM] at *; omega)
      · exact parM_out f _ _ (by simp only [fuelM, leastM] at *; omega)
  | f + 1, .wayL u, r, hf => by
    simp only [fuelM] at hf
    rw [parM]
    split
    · simp
    · split
      · rename_i h1
        have := parM_len f _ _ _ _ h1
        exact parM_out f _ _ (by simp only [fuelM, leastM] at *; omega)
      · exact parM_out f _ _ (by simp only [fuelM, leastM] at *; omega)
  | f + 1, .piece, r, hf => by
    simp only [fuelM] at hf
    rw [parM]
    split
    · simp
    · exact parM_out f _ _ (by simp only [fuelM, leastM] at *; omega)
  | f + 1, .atom, r, hf => by
    simp only [fuelM] at hf
    rw [parM]
    split
    · rename_i hl
      have := look_tail hl (by decide)
      split
      · split <;> simp
      · exact parM_out f _ _ (by simp only [fuelM, leastM] at *; omega)
    · split
      · split
        · simp
        · simp
        · rename_i h; exact absurd h (clsM_out _)
      · split
        · simp
        · split
          · simp
          · simp
          · rename_i h; exact absurd h (oneM_out _ _)

end Go.Proofs.YteedmkokbapkgaaDoor
