/- Numbers and texts as lists of bytes: plain lists, no program. -/
import Derived.Test.YtlblcligjelbgaaBytes
namespace Go.Proofs.Ytlblcligjelbgaa

/-- A number's last byte. -/
def dig0 (n : Nat) : UInt8 := UInt8.ofNat n
/-- A number's first byte, where others follow. -/
def dig1 (n : Nat) : UInt8 := UInt8.ofNat (128 + n % 128)
theorem dig0_nat {n : Nat} (h : n < 128) : (dig0 n).toNat = n := by simp [dig0]; omega
theorem dig1_nat (n : Nat) : (dig1 n).toNat = 128 + n % 128 := by
  unfold dig1
  rw [UInt8.toNat_ofNat']
  exact Nat.mod_eq_of_lt (by omega)

/-- A number's bytes. -/
def digs (n : Nat) : List UInt8 := if h : n < 128 then [dig0 n] else dig1 n :: digs (n / 128)
  termination_by n
  decreasing_by omega

theorem digs_small {n : Nat} (h : n < 128) : digs n = [dig0 n] := by rw [digs, dif_pos h]
theorem digs_big {n : Nat} (h : 128 ≤ n) : digs n = dig1 n :: digs (n / 128) := by rw [digs, dif_neg (by omega)]
theorem bv_dig0 {n : Nat} (h : n < 128) : Value.int IntKind.u8 (n : Int) = bv (dig0 n) := by unfold bv; rw [dig0_nat h]
theorem bv_dig1 (n : Nat) : Value.int IntKind.u8 (128 + (n : Int) % 128) = bv (dig1 n) := by unfold bv; rw [dig1_nat]; simp

/-- How many bytes a number has that begins here, k bytes of it being gone already; or what is wrong. -/
def extE (k : Nat) : List UInt8 → Nat × Nat
  | [] => (0, 3)
  | c :: r => if c.toNat < 128 then (k + 1, 0) else if k + 1 = 8 then (0, 4) else extE (k + 1) r

/-- What digits make. -/
def val : List UInt8 → Nat
  | [] => 0
  | c :: r => c.toNat % 128 + 128 * val r

/-- The number that bytes begin with, how many bytes it has, and what is wrong. -/
def headE (l : List UInt8) : Nat × Nat × Nat :=
  if (extE 0 l).2 ≠ 0 then (0, 0, (extE 0 l).2)
  else if 1 < (extE 0 l).1 ∧ l.getD ((extE 0 l).1 - 1) 0 = 0 then (0, 0, 4)
  else if 9007199254740991 < val (l.take (extE 0 l).1) then (0, 0, 4)
  else (val (l.take (extE 0 l).1), (extE 0 l).1, 0)

/-- TakeNum. -/
def takeN (l : List UInt8) : Nat × List UInt8 × Nat := if (headE l).2.2 ≠ 0 then (0, [], (headE l).2.2) else ((headE l).1, l.drop (headE l).2.1, 0)

/-- Text. -/
def textE (t : List UInt8) (most : Int) : List UInt8 × Nat := if most < 0 then ([], 2) else if most < t.length then ([], 5) else (digs t.length ++ t, 0)

/-- TakeText. -/
def takeT (l : List UInt8) (most : Int) : List UInt8 × List UInt8 × Nat :=
  if most < 0 then ([], [], 2)
  else if (headE l).2.2 ≠ 0 then ([], [], (headE l).2.2)
  else if most < (headE l).1 then ([], [], 5)
  else if (l.drop (headE l).2.1).length < (headE l).1 then ([], [], 3)
  else ((l.drop (headE l).2.1).take (headE l).1, (l.drop (headE l).2.1).drop (headE l).1, 0)

/-- Num. -/
def numE (n : Int) : List UInt8 × Nat := if n < 0 ∨ 9007199254740991 < n then ([], 2) else (digs n.toNat, 0)

theorem take_more {l l' : List UInt8} {k : Nat} (h : l.take k = l'.take k) (h1 : k < l.length) (h2 : k < l'.length) (he : l[k] = l'[k]) : l.take (k + 1) = l'.take (k + 1) := by
  rw [List.take_succ_eq_append_getElem h1, List.take_succ_eq_append_getElem h2, h, he]

/-- extE at a list of which the first k bytes are gone. -/
theorem ext_cons {l : List UInt8} {k : Nat} (h : k < l.length) : l.drop k = l[k] :: l.drop (k + 1) := (List.drop_eq_getElem_cons h)

theorem ext_facts (l : List UInt8) : ∀ k, k < 8 → ((extE k l).2 = 0 ∧ k < (extE k l).1 ∧ (extE k l).1 ≤ 8 ∧ (extE k l).1 ≤ k + l.length) ∨ ((extE k l).1 = 0 ∧ ((extE k l).2 = 3 ∨ (extE k l).2 = 4)) := by
  induction l with
  | nil => intro k _; right; simp [extE]
  | cons c r ih =>
    intro k hk
    unfold extE
    by_cases h1 : c.toNat < 128
    · rw [if_pos h1]; left; simp; omega
    · rw [if_neg h1]
      by_cases h2 : k + 1 = 8
      · rw [if_pos h2]; right; simp
      · rw [if_neg h2]
        rcases ih (k + 1) (by omega) with h | h
        · left; simp only [List.length_cons]; omega
        · exact .inr h

theorem val_append (l r : List UInt8) : val (l ++ r) = val l + 128 ^ l.length * val r := by
  induction l with
  | nil => simp [val]
  | cons c l ih => simp only [List.cons_append, val, ih, List.length_cons, Nat.pow_succ]; rw [Nat.mul_add, Nat.mul_comm (128 ^ l.length) 128, Nat.mul_assoc]; omega
theorem val_lt (l : List UInt8) : val l < 128 ^ l.length := by
  induction l with
  | nil => simp [val]
  | cons c l ih => simp only [val, List.length_cons, Nat.pow_succ]; have : c.toNat % 128 < 128 := Nat.mod_lt _ (by omega); omega
theorem val_more {l : List UInt8} {k : Nat} (h : k < l.length) : val (l.take (k + 1)) = val (l.take k) + 128 ^ k * (l[k].toNat % 128) := by
  rw [List.take_succ_eq_append_getElem h, val_append]
  simp [val, Nat.min_eq_left (Nat.le_of_lt h)]

theorem head_facts (l : List UInt8) : ((headE l).2.2 = 0 ∧ (headE l).1 ≤ 9007199254740991 ∧ 0 < (headE l).2.1 ∧ (headE l).2.1 ≤ 8 ∧ (headE l).2.1 ≤ l.length) ∨ ((headE l).1 = 0 ∧ (headE l).2.1 = 0 ∧ ((headE l).2.2 = 3 ∨ (headE l).2.2 = 4)) := by
  unfold headE
  rcases ext_facts l 0 (by omega) with ⟨h1, h2, h3, h4⟩ | ⟨h1, h2⟩
  · rw [if_neg (by omega)]
    split
    · right; simp
    · split
      · right; simp
      · left; simp; omega
  · rw [if_pos (by omega)]
    exact .inr ⟨rfl, rfl, h2⟩

theorem digs_len_pos (n : Nat) : 0 < (digs n).length := by
  rw [digs]; split <;> simp
theorem digs_len_le : ∀ (k n : Nat), n < 128 ^ k → (digs n).length ≤ k ∨ k = 0
  | 0, _, _ => .inr rfl
  | k + 1, n, h => by
    by_cases hs : n < 128
    · rw [digs_small hs]; left; simp
    · rw [digs_big (by omega)]
      left
      rcases digs_len_le k (n / 128) (by rw [Nat.pow_succ] at h; omega) with h2 | h2
      · simpa using h2
      · subst h2; simp at h; omega

end Go.Proofs.Ytlblcligjelbgaa
