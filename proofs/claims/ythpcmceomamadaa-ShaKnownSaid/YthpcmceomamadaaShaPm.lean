/- Padded bytes, piece by piece. No program in it. -/
import Derived.Test.YthpcmceomamadaaShaN
namespace Go.Proofs.Ythpcmceomamadaa

/-- The first k bytes of a count of eight. -/
def eightL (n k : Nat) : List UInt8 := (List.range k).map (fun j => UInt8.ofNat (n / 2 ^ (8 * (7 - j))))
theorem eightL_len (n k : Nat) : (eightL n k).length = k := by simp [eightL]
theorem eightL_step (n k i : Nat) (h : k + i = 7) : eightL n (k + 1) = eightL n k ++ [UInt8.ofNat (n / 2 ^ (8 * i))] := by
  unfold eightL
  rw [List.range_succ, List.map_append]
  have e : 7 - k = i := by omega
  simp [e]
/-- Noughts. -/
def nulL (z : Nat) : List UInt8 := List.replicate z 0
/-- What is made, z noughts being there. -/
def padZ (l : List UInt8) (z : Nat) : List UInt8 := (l ++ [128]) ++ nulL z
theorem padZ_len (l : List UInt8) (z : Nat) : (padZ l z).length = l.length + 1 + z := by simp [padZ, nulL]; omega
theorem padZ_step (l : List UInt8) (z : Nat) : padZ l (z + 1) = padZ l z ++ [0] := by
  unfold padZ nulL
  rw [List.replicate_succ', List.append_assoc, List.append_assoc]
  simp
theorem pad_whole (l : List UInt8) (z : Nat) (hz : l.length + 9 + z = padN l.length) : padZ l z ++ eightL (8 * l.length) 8 = padE l := by
  apply List.ext_getElem?
  intro j
  by_cases hj : j < padN l.length
  · unfold padE
    rw [List.getElem?_map, List.getElem?_range hj, Option.map_some]
    unfold padI
    by_cases h1 : j < l.length
    · rw [if_pos h1, List.getElem?_append_left (by rw [padZ_len]; omega)]
      unfold padZ
      rw [List.getElem?_append_left (by simp; omega), List.getElem?_append_left h1, List.getD_eq_getElem?_getD, List.getElem?_eq_getElem h1]
      rfl
    · rw [if_neg h1]
      by_cases h2 : j = l.length
      · rw [if_pos h2, List.getElem?_append_left (by rw [padZ_len]; omega)]
        unfold padZ
        rw [List.getElem?_append_left (by simp; omega), List.getElem?_append_right (by omega), h2, Nat.sub_self]
        rfl
      · rw [if_neg h2]
        by_cases h3 : padN l.length - 8 ≤ j
        · rw [if_pos h3, List.getElem?_append_right (by rw [padZ_len]; omega), padZ_len]
          unfold eightL
          rw [List.getElem?_map, List.getElem?_range (by omega), Option.map_some]
          have e : 7 - (j - (l.length + 1 + z)) = padN l.length - 1 - j := by omega
          rw [e]
        · rw [if_neg h3, List.getElem?_append_left (by rw [padZ_len]; omega)]
          unfold padZ nulL
          rw [List.getElem?_append_right (by simp; omega), List.getElem?_replicate, if_pos (by simp; omega)]
  · rw [List.getElem?_eq_none (by rw [List.length_append, padZ_len, eightL_len]; omega), List.getElem?_eq_none (by rw [padE_len]; omega)]
/-- When there are enough. -/
theorem pad_full (n z N : Nat) (hN : padN n = N) (hz : n + 9 + z ≤ N) : (n + 1 + z) % 64 = 56 ↔ n + 9 + z = N := by
  unfold padN at hN
  omega

end Go.Proofs.Ythpcmceomamadaa
