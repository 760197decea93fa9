/- Words of the grammar language: how bytes are cut, as functions on lists; what is cut is cut so alone, and with other things between. No program in it. -/
import Derived.Test.YtlepaciglkodbaaDoorRows
set_option linter.unusedVariables false
set_option linter.unusedSimpArgs false
namespace Go.Proofs.YtlepaciglkodbaaDoor

def smB (n : Nat) : Bool := decide (97 ≤ n) && decide (n ≤ 122)
def cpB (n : Nat) : Bool := decide (65 ≤ n) && decide (n ≤ 90)
def dgB (n : Nat) : Bool := decide (48 ≤ n) && decide (n ≤ 57)
def ltB (n : Nat) : Bool := smB n || cpB n || dgB n || n == 95
def ptB (n : Nat) : Bool := smB n || dgB n || n == 46 || n == 95 || n == 45 || n == 47
def endB (n : Nat) : Bool := n == 10 || n == 13
def spB (n : Nat) : Bool := n == 32 || n == 9 || n == 10 || n == 13
def sgB (n : Nat) : Bool := n == 61 || n == 59 || n == 58 || n == 124

def runN (p : Nat → Bool) : List UInt8 → Nat
  | [] => 0
  | b :: t => if p b.toNat = true then runN p t + 1 else 0
def patN : List UInt8 → Nat
  | [] => 0
  | b :: t => if b = 47 then 0 else if endB b.toNat = true then 0 else if b = 92 then
      match t with
      | [] => 0
      | c :: t' => if endB c.toNat = true then 0 else patN t' + 2
    else patN t + 1
def letN : List UInt8 → Nat
  | [] => 0
  | b :: t => if dgB b.toNat = true then 0 else runN ltB (b :: t)

def wImport : List UInt8 := [105, 109, 112, 111, 114, 116]
def wStart : List UInt8 := [115, 116, 97, 114, 116]
def wTerm : List UInt8 := [116, 101, 114, 109]
def wSkip : List UInt8 := [115, 107, 105, 112]
def wLeft : List UInt8 := [108, 101, 102, 116]
def wRight : List UInt8 := [114, 105, 103, 104, 116]
def wNone : List UInt8 := [110, 111, 110, 101]
def wRule : List UInt8 := [114, 117, 108, 101]
def wPrec : List UInt8 := [112, 114, 101, 99]
/-- How a kind is written. -/
def spellE : Nat → List UInt8
  | 5 => wImport
  | 6 => wStart
  | 7 => wTerm
  | 8 => wSkip
  | 9 => wLeft
  | 10 => wRight
  | 11 => wNone
  | 12 => wRule
  | 13 => wPrec
  | _ => []
/-- The kind of letters: from a kind on. -/
def kindFrom (s : List UInt8) : Nat → Nat → Nat
  | 0, _ => 1
  | f + 1, k => if s = spellE k then k else kindFrom s f (k + 1)
def kindW (s : List UInt8) : Nat := kindFrom s 9 5
/-- The kind of a text that is a word of the language or a name; 0, if it is neither. -/
def kindE (s : List UInt8) : Nat := if letN s = 0 ∨ letN s < s.length ∨ 24 < letN s then 0 else kindW s

/-- The word with which bytes begin: its kind, and how many bytes it has. -/
def firstE : List UInt8 → Option (Nat × Nat)
  | [] => none
  | b :: t =>
    if sgB b.toNat = true then some (4, 1)
    else if b = 34 then
      if 0 < runN ptB t ∧ runN ptB t ≤ 32 ∧ (t.drop (runN ptB t)).head? = some 34 then some (2, runN ptB t + 2) else none
    else if b = 47 then
      if (t.drop (patN t)).head? = some 47 then some (3, patN t + 2) else none
    else if letN (b :: t) = 0 ∨ 24 < letN (b :: t) then none
    else some (kindW ((b :: t).take (letN (b :: t))), letN (b :: t))

structure Tk where
  kind : Nat
  from' : Nat
  to : Nat
deriving DecidableEq
inductive CutR where
  | bad (at' : Nat)
  | ok (l : List Tk)
deriving DecidableEq
def CutR.app (acc : List Tk) : CutR → CutR
  | .bad a => .bad a
  | .ok l => .ok (acc ++ l)
/-- Bytes cut into words: from a place on, so many bytes behind which it goes on, and whether a remark is under way. -/
def cutS : List UInt8 → Nat → Nat → Bool → CutR
  | [], _, _, _ => .ok []
  | _ :: t, p, n + 1, r => cutS t (p + 1) n r
  | b :: t, p, 0, true => cutS t (p + 1) 0 (b != 10)
  | b :: t, p, 0, false =>
    if spB b.toNat = true then cutS t (p + 1) 0 false
    else if b = 35 then cutS t (p + 1) 0 true
    else match firstE (b :: t) with
      | none => .bad p
      | some (k, n) => (cutS t (p + 1) (n - 1) false).app [⟨k, p, p + n⟩]
def cutE (l : List UInt8) : CutR := cutS l 0 0 false
/-- How many bytes there are ahead of the first word. -/
def gapN : Bool → List UInt8 → Nat
  | _, [] => 0
  | true, b :: t => gapN (b != 10) t + 1
  | false, b :: t => if spB b.toNat = true then gapN false t + 1 else if b = 35 then gapN true t + 1 else 0

theorem CutR.app_app (a b : List Tk) (r : CutR) : (r.app b).app a = r.app (a ++ b) := by
  cases r <;> simp [CutR.app]
theorem CutR.app_nil (r : CutR) : r.app [] = r := by cases r <;> simp [CutR.app]

theorem cut_skip : ∀ (n : Nat) (l : List UInt8) (p : Nat) (r : Bool), n ≤ l.length → cutS l p n r = cutS (l.drop n) (p + n) 0 r
  | 0, l, p, r, h => by simp
  | n + 1, [], p, r, h => by simp at h
  | n + 1, b :: t, p, r, h => by
    rw [cutS, cut_skip n t (p + 1) r (by simpa using h), List.drop_succ_cons, Nat.add_assoc, Nat.add_comm 1 n]

theorem run_le (p : Nat → Bool) : ∀ l : List UInt8, runN p l ≤ l.length
  | [] => Nat.le_refl _
  | b :: t => by
    have := run_le p t
    rw [runN]
    split <;> simp <;> omega
theorem pat_le : ∀ l : List UInt8, patN l ≤ l.length
  | [] => Nat.le_refl _
  | [b] => by
    rw [patN]
    repeat' split
    all_goals simp_all [patN]
  | b :: c :: t' => by
    have h1 := pat_le t'
    have h2 := pat_le (c :: t')
    rw [patN]
    simp only [List.length_cons] at *
    repeat' split
    all_goals (try simp_all)
    all_goals (try omega)
theorem let_le (l : List UInt8) : letN l ≤ l.length := by
  cases l with
  | nil => exact Nat.le_refl _
  | cons b t =>
    rw [letN]
    split
    · simp
    · exact run_le _ _
theorem head_drop {l : List UInt8} {n : Nat} {c : UInt8} (h : (l.drop n).head? = some c) : n < l.length := by
  by_cases hn : n < l.length
  · exact hn
  · rw [List.drop_eq_nil_of_le (by omega)] at h
    cases h
theorem first_pos {l : List UInt8} {k n : Nat} (h : firstE l = some (k, n)) : 1 ≤ n ∧ n ≤ l.length := by
  cases l with
  | nil => cases h
  | cons b t =>
    rw [firstE] at h
    repeat' split at h
    all_goals (first | (cases h; done) | skip)
    · obtain ⟨rfl, rfl⟩ := Prod.mk.inj (Option.some.inj h); simp
    · rename_i hh
      obtain ⟨rfl, rfl⟩ := Prod.mk.inj (Option.some.inj h)
      have := head_drop hh.2.2
      simp; omega
    · rename_i hh
      obtain ⟨rfl, rfl⟩ := Prod.mk.inj (Option.some.inj h)
      have := head_drop hh
      simp; omega
    · rename_i hh
      obtain ⟨rfl, rfl⟩ := Prod.mk.inj (Option.some.inj h)
      have := let_le (b :: t)
      omega

/-- The gap, then the word. -/
theorem cut_gap : ∀ (l : List UInt8) (p : Nat) (r : Bool), cutS l p 0 r = cutS (l.drop (gapN r l)) (p + gapN r l) 0 false
  | [], p, r => by cases r <;> simp [gapN, cutS]
  | b :: t, p, true => by
    rw [cutS, cut_gap t (p + 1), gapN, List.drop_succ_cons, Nat.add_assoc, Nat.add_comm 1]
  | b :: t, p, false => by
    by_cases h1 : spB b.toNat = true
    · rw [cutS, if_pos h1, cut_gap t (p + 1), gapN, if_pos h1, List.drop_succ_cons, Nat.add_assoc, Nat.add_comm 1]
    · by_cases h2 : b = 35
      · rw [cutS, if_neg h1, if_pos h2, cut_gap t (p + 1), gapN, if_neg h1, if_pos h2, List.drop_succ_cons, Nat.add_assoc, Nat.add_comm 1]
      · rw [gapN, if_neg h1, if_neg h2]
        rfl
theorem gap_le : ∀ (l : List UInt8) (r : Bool), gapN r l ≤ l.length
  | [], r => by cases r <;> simp [gapN]
  | b :: t, true => by have := gap_le t (b != 10); simp [gapN]; omega
  | b :: t, false => by
    have h1 := gap_le t false
    have h2 := gap_le t true
    rw [gapN]
    split
    · simp; omega
    · split
      · simp; omega
      · simp
/-- Where no gap is, and bytes are left, there is a word, or none begins. -/
def Stop (l : List UInt8) : Prop := gapN false l = 0
theorem gap_stop : ∀ (l : List UInt8) (r : Bool), Stop (l.drop (gapN r l))
  | [], r => by cases r <;> simp [Stop, gapN]
  | b :: t, true => by
    have := gap_stop t (b != 10)
    rw [gapN, List.drop_succ_cons]
    exact this
  | b :: t, false => by
    by_cases h1 : spB b.toNat = true
    · rw [gapN, if_pos h1, List.drop_succ_cons]
      exact gap_stop t false
    · by_cases h2 : b = 35
      · rw [gapN, if_neg h1, if_pos h2, List.drop_succ_cons]
        exact gap_stop t true
      · have : gapN false (b :: t) = 0 := by rw [gapN, if_neg h1, if_neg h2]
        rw [this]
        exact this
theorem cut_bad {l : List UInt8} (p : Nat) (hs : Stop l) (hl : 0 < l.length) (h : firstE l = none) : cutS l p 0 false = .bad p := by
  cases l with
  | nil => simp at hl
  | cons b t =>
    unfold Stop at hs
    rw [gapN] at hs
    rw [cutS]
    split at hs
    · omega
    · rename_i h1
      split at hs
      · omega
      · rename_i h2
        rw [if_neg h1, if_neg h2, h]
theorem cut_word {l : List UInt8} (p : Nat) (hs : Stop l) {k n : Nat} (h : firstE l = some (k, n)) : cutS l p 0 false = (cutS (l.drop n) (p + n) 0 false).app [⟨k, p, p + n⟩] := by
  obtain ⟨hp, hn⟩ := first_pos h
  cases l with
  | nil => cases h
  | cons b t =>
    unfold Stop at hs
    rw [gapN] at hs
    rw [cutS]
    split at hs
    · omega
    · rename_i h1
      split at hs
      · omega
      · rename_i h2
        rw [if_neg h1, if_neg h2, h]
        simp only []
        simp only [List.length_cons] at hn
        rw [cut_skip (n - 1) t (p + 1) false (by omega)]
        obtain ⟨m, rfl⟩ : ∃ m, n = m + 1 := ⟨n - 1, by omega⟩
        simp only [Nat.add_sub_cancel, List.drop_succ_cons]
        rw [show p + 1 + m = p + (m + 1) by omega]

theorem know_one : cutE [116, 101, 114, 109, 32, 110, 32, 61, 32, 47, 91, 48, 45, 57, 93, 43, 47, 59] = .ok [⟨7, 0, 4⟩, ⟨1, 5, 6⟩, ⟨4, 7, 8⟩, ⟨3, 9, 17⟩, ⟨4, 17, 18⟩] := by decide +kernel
theorem know_two : cutE [105, 109, 112, 111, 114, 116, 32, 34, 97, 47, 98, 46, 103, 34, 59, 32, 35, 32, 120] = .ok [⟨5, 0, 6⟩, ⟨2, 7, 14⟩, ⟨4, 14, 15⟩] := by decide +kernel
theorem know_three : cutE [114, 117, 108, 101, 115, 32, 58, 32, 57] = .bad 8 := by decide +kernel
theorem know_four : cutE [47, 97, 92, 47, 98, 47, 32, 47, 97] = .bad 7 := by decide +kernel

end Go.Proofs.YtlepaciglkodbaaDoor
