/- The sum of bytes: a burst of at most 32 bits is told; four bytes reach each sum; noughts alone. Plain words, no program. -/
import Derived.Test.YtncpkblgiepdpaaGreatCrcMath
set_option linter.unusedVariables false
namespace Go.Proofs.YtncpkblgiepdpaaGreat

theorem byte_bit (c : UInt8) (i : Nat) (h : 8 ≤ i) : (BitVec.ofNat 32 c.toNat).getLsbD i = false := by
  rw [BitVec.getLsbD_ofNat]
  have h1 : c.toNat < 2 ^ i := Nat.lt_of_lt_of_le c.toNat_lt (by
    have := Nat.pow_le_pow_right (n := 2) (by omega) h
    omega)
  rw [Nat.testBit_lt_two_pow h1]
  simp
theorem byte_zero {c : UInt8} (h : ∀ i, i < 8 → (BitVec.ofNat 32 c.toNat).getLsbD i = false) : c = 0 := by
  apply UInt8.toNat_inj.1
  apply Nat.eq_of_testBit_eq
  intro i
  rcases Nat.lt_or_ge i 8 with hi | hi
  · have := h i hi
    rw [BitVec.getLsbD_ofNat] at this
    simp only [Bool.and_eq_false_iff, decide_eq_false_iff_not] at this
    rcases this with h1 | h1
    · omega
    · rw [h1]; simp
  · have h1 : c.toNat < 2 ^ i := Nat.lt_of_lt_of_le c.toNat_lt (by
      have := Nat.pow_le_pow_right (n := 2) (by omega) hi
      omega)
    rw [Nat.testBit_lt_two_pow h1]
    simp

/-- Bytes as a word, the lowest first. -/
def leVal : List UInt8 → BitVec 32
  | [] => 0#32
  | c :: l => BitVec.ofNat 32 c.toNat ^^^ (leVal l <<< 8)

theorem shl8_bit (x : BitVec 32) (i : Nat) : (x <<< 8).getLsbD i = (decide (i < 32) && !decide (i < 8) && x.getLsbD (i - 8)) := by rw [BitVec.getLsbD_shiftLeft]
theorem leVal_high : ∀ (l : List UInt8) (i : Nat), 8 * l.length ≤ i → (leVal l).getLsbD i = false
  | [], i, _ => by simp [leVal]
  | c :: l, i, h => by
    rw [List.length_cons] at h
    rw [leVal, BitVec.getLsbD_xor, byte_bit c i (by omega), shl8_bit, leVal_high l (i - 8) (by omega)]
    simp
theorem shl8_back (x : BitVec 32) (h : ∀ i, 24 ≤ i → x.getLsbD i = false) : stpN 8 (x <<< 8) = x := by
  rw [stpN_low 8 _ (fun i hi => by rw [shl8_bit]; simp [hi])]
  apply BitVec.eq_of_getLsbD_eq
  intro i hi
  rw [BitVec.getLsbD_ushiftRight, shl8_bit]
  rcases Nat.lt_or_ge i 24 with h1 | h1
  · have e1 : decide (8 + i < 32) = true := by simp; omega
    have e2 : decide (8 + i < 8) = false := by simp
    rw [e1, e2, Nat.add_sub_cancel_left]
    simp
  · rw [h i h1]
    have e1 : decide (8 + i < 32) = false := by simp; omega
    rw [e1]
    simp

/-- Up to four bytes at once. -/
theorem takeBs_small : ∀ (l : List UInt8) (x : BitVec 32), l.length ≤ 4 → takeBs x l = stpN (8 * l.length) (x ^^^ leVal l)
  | [], x, _ => by simp [takeBs, leVal, stpN]
  | c :: l, x, h => by
    rw [List.length_cons] at h
    show takeBs (takeB x c) l = _
    rw [takeBs_small l _ (by omega), List.length_cons, Nat.mul_add, Nat.mul_one, Nat.add_comm, stpN_add]
    congr 1
    unfold takeB
    rw [leVal, ← BitVec.xor_assoc, stpN_xor 8 (x ^^^ _), shl8_back _ (fun i hi => leVal_high l i (by omega))]

theorem leVal_zero : ∀ (l : List UInt8), l.length ≤ 4 → leVal l = 0#32 → ∀ c ∈ l, c = 0
  | [], _, _, c, hc => by cases hc
  | d :: l, hl, h, c, hc => by
    rw [List.length_cons] at hl
    have hb : ∀ i, (leVal (d :: l)).getLsbD i = false := fun i => by rw [h]; simp
    have hd : d = 0 := byte_zero fun i hi => by
      have := hb i
      rw [leVal, BitVec.getLsbD_xor, shl8_bit] at this
      have e : decide (i < 8) = true := by simp [hi]
      rw [e] at this
      simpa using this
    have hl0 : leVal l = 0#32 := by
      apply BitVec.eq_of_getLsbD_eq
      intro i hi
      rcases Nat.lt_or_ge i 24 with h1 | h1
      · have := hb (8 + i)
        rw [leVal, BitVec.getLsbD_xor, byte_bit d (8 + i) (by omega), shl8_bit, Nat.add_sub_cancel_left] at this
        have e1 : decide (8 + i < 32) = true := by simp; omega
        have e2 : decide (8 + i < 8) = false := by simp
        rw [e1, e2] at this
        simpa using this
      · rw [leVal_high l i (by omega)]
        simp
    rcases List.mem_cons.1 hc with rfl | hc
    · exact hd
    · exact leVal_zero l (by omega) hl0 c hc

/-- A burst over at most four bytes. -/
theorem burst4 {l : List UInt8} (hl : l.length ≤ 4) (h : takeBs 0#32 l = 0#32) : ∀ c ∈ l, c = 0 := by
  rw [takeBs_small l _ hl, BitVec.zero_xor] at h
  exact leVal_zero l hl (stpN_eq_zero h)

/-- A burst over five bytes, of 32 bits from the s-th on. -/
theorem burst5 {l : List UInt8} {d : UInt8} {s : Nat} (hl : l.length = 4) (hs : s < 8) (hlow : ∀ i, i < s → (leVal l).getLsbD i = false) (hd : d.toNat < 2 ^ s) (h : takeBs 0#32 (l ++ [d]) = 0#32) : (∀ c ∈ l, c = 0) ∧ d = 0 := by
  rw [takeBs_append, takeBs_small l _ (by omega), BitVec.zero_xor, hl] at h
  have h1 : stpN 32 (leVal l) ^^^ BitVec.ofNat 32 d.toNat = 0#32 := stpN_eq_zero (n := 8) h
  have h2 : stpN 32 (leVal l) = BitVec.ofNat 32 d.toNat := BitVec.xor_eq_zero_iff.1 h1
  have e32 : 32 = s + (32 - s) := by omega
  have h3 : stpN 32 (leVal l) = stpN (32 - s) (leVal l >>> s) := by
    conv => lhs; rw [e32]
    rw [stpN_add, stpN_low s _ hlow]
  have hdb : ∀ i, s ≤ i → (BitVec.ofNat 32 d.toNat).getLsbD i = false := fun i hi => by
    rw [BitVec.getLsbD_ofNat, Nat.testBit_lt_two_pow (Nat.lt_of_lt_of_le hd (Nat.pow_le_pow_right (by omega) hi))]
    simp
  have h4 : stpN (32 - s) (BitVec.ofNat 32 d.toNat <<< (32 - s)) = BitVec.ofNat 32 d.toNat := by
    rw [stpN_low _ _ (fun i hi => by rw [BitVec.getLsbD_shiftLeft]; simp [hi])]
    apply BitVec.eq_of_getLsbD_eq
    intro i hi
    rw [BitVec.getLsbD_ushiftRight, BitVec.getLsbD_shiftLeft, Nat.add_sub_cancel_left]
    rcases Nat.lt_or_ge i s with hlt | hge
    · have e1 : decide (32 - s + i < 32) = true := by simp; omega
      have e2 : decide (32 - s + i < 32 - s) = false := by simp
      rw [e1, e2]
      simp
    · rw [hdb i hge]
      simp
  have h5 : leVal l >>> s = BitVec.ofNat 32 d.toNat <<< (32 - s) := stpN_inj (n := 32 - s) (by rw [← h3, h2, h4])
  have hz : leVal l >>> s = 0#32 := by
    apply BitVec.eq_of_getLsbD_eq
    intro i hi
    rcases Nat.lt_or_ge i (32 - s) with hlt | hge
    · rw [h5, BitVec.getLsbD_shiftLeft]
      simp [hlt]
    · rw [BitVec.getLsbD_ushiftRight, BitVec.getLsbD_of_ge _ _ (by omega)]
      simp
  have hl0 : leVal l = 0#32 := by
    apply BitVec.eq_of_getLsbD_eq
    intro i hi
    rcases Nat.lt_or_ge i s with hlt | hge
    · rw [hlow i hlt]
      simp
    · have := congrArg (fun x => BitVec.getLsbD x (i - s)) hz
      simp only [BitVec.getLsbD_ushiftRight] at this
      rw [Nat.add_sub_cancel' hge] at this
      rw [this]
      simp
  refine ⟨leVal_zero l (by omega) hl0, ?_⟩
  rw [hl0, stpN_zero] at h2
  refine byte_zero fun i hi => ?_
  rw [← h2]
  simp

/-- Sums of lists that are as long differ just if what they differ by is told. -/
theorem sums_same {a b : List UInt8} (h : a.length = b.length) : ofE a = ofE b ↔ takeBs 0#32 (xors a b) = 0#32 := by
  have hx := takeBs_xor a b (~~~ 0#32) (~~~ 0#32) h
  rw [BitVec.xor_self] at hx
  rw [← hx, BitVec.xor_eq_zero_iff]
  unfold ofE onE
  exact ⟨fun g => by rw [← BitVec.not_not (b := takeBs (~~~ 0#32) a), g, BitVec.not_not], fun g => by rw [g]⟩

end Go.Proofs.YtncpkblgiepdpaaGreat
