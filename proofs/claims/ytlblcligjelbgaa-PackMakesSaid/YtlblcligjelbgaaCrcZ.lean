/- Bits of a list turned within 32: plain words on lists. -/
import Derived.Test.YtlblcligjelbgaaCrcF
set_option linter.unusedVariables false
namespace Go.Proofs.Ytlblcligjelbgaa
open Go.RowKit

theorem xors_len {a b : List UInt8} (h : a.length = b.length) : (xors a b).length = a.length := by unfold xors; rw [List.length_zipWith]; omega
theorem xors_get {a b : List UInt8} {j : Nat} (h : j < (xors a b).length) (ha : j < a.length) (hb : j < b.length) : (xors a b)[j] = a[j] ^^^ b[j] := by simp [xors]
theorem xors_back {l z : List UInt8} (h : l.length = z.length) : xors (xors l z) l = z := by
  apply List.ext_getElem
  · rw [xors_len (by rw [xors_len h]), xors_len h, h]
  · intro j h1 h2
    rw [xors_get h1 (by rw [xors_len h]; omega) (by omega), xors_get _ (by omega) h2, UInt8.xor_comm l[j], UInt8.xor_assoc, UInt8.xor_self, UInt8.xor_zero]
theorem xors_none {l z : List UInt8} (h : l.length = z.length) (hz : ∀ c ∈ z, c = 0) : xors l z = l := by
  apply List.ext_getElem
  · rw [xors_len h]
  · intro j h1 h2
    rw [xors_get h1 h2 (by omega), hz _ (List.getElem_mem _), UInt8.xor_zero]

/-- What is turned is told, if the turned bits alone are. -/
theorem turned {l z : List UInt8} (h : l.length = z.length) (hz : takeBs 0#32 z = 0#32 → ∀ c ∈ z, c = 0) : ofE (xors l z) = ofE l ↔ xors l z = l := by
  rw [sums_same (by rw [xors_len h]), xors_back h]
  constructor
  · intro g
    exact xors_none h (hz g)
  · intro g
    have e : z = xors l l := by rw [← xors_back h, g]
    have e2 : takeBs 0#32 (xors l l) = takeBs (~~~ 0#32) l ^^^ takeBs (~~~ 0#32) l := by rw [takeBs_xor l l _ _ rfl, BitVec.xor_self]
    rw [e, e2, BitVec.xor_self]

theorem takeBs_lead (p : Nat) (z : List UInt8) : takeBs 0#32 (List.replicate p 0 ++ z) = takeBs 0#32 z := by rw [takeBs_append, takeBs_noughts, stpN_zero]
theorem takeBs_trail {z : List UInt8} {q : Nat} (h : takeBs 0#32 (z ++ List.replicate q 0) = 0#32) : takeBs 0#32 z = 0#32 := by
  rw [takeBs_append, takeBs_noughts] at h
  exact stpN_eq_zero h

/-- A number's byte at a place. -/
def byteAt (N j : Nat) : UInt8 := UInt8.ofNat (N / 256 ^ j % 256)
theorem byteAt_nat (N j : Nat) : (byteAt N j).toNat = N / 256 ^ j % 256 := by
  unfold byteAt
  rw [UInt8.toNat_ofNat']
  omega
theorem byteAt_high {N j k : Nat} (h : N / 256 ^ k = 0) (hj : k ≤ j) : byteAt N j = 0 := by
  apply UInt8.toNat_inj.1
  rw [byteAt_nat]
  have h1 : 256 ^ k ≤ 256 ^ j := Nat.pow_le_pow_right (by omega) hj
  have h2 : N / 256 ^ j ≤ N / 256 ^ k := Nat.div_le_div_left h1 (Nat.pow_pos (by omega))
  rw [h] at h2
  rw [Nat.eq_zero_of_le_zero h2]
  rfl
/-- The bytes that are laid over a list from a place on, up to another one. -/
def zl (n p i N : Nat) : List UInt8 := (List.range n).map fun j => if p ≤ j ∧ j < i then byteAt N (j - p) else 0
theorem zl_len (n p i N : Nat) : (zl n p i N).length = n := by simp [zl]
theorem zl_get {n p i N j : Nat} (h : j < (zl n p i N).length) : (zl n p i N)[j] = if p ≤ j ∧ j < i then byteAt N (j - p) else 0 := by simp [zl]
theorem zl_start (n p N : Nat) : ∀ c ∈ zl n p p N, c = 0 := by
  intro c hc
  unfold zl at hc
  obtain ⟨j, _, rfl⟩ := List.mem_map.1 hc
  rw [if_neg (by omega)]
theorem zl_next {l : List UInt8} {n p i N : Nat} (hl : l.length = n) (hp : p ≤ i) (hi : i < n) (h : i < (xors l (zl n p i N)).length) :
    xors l (zl n p (i + 1) N) = (xors l (zl n p i N)).set i ((xors l (zl n p i N))[i] ^^^ byteAt N (i - p)) := by
  apply List.ext_getElem
  · rw [List.length_set, xors_len (by rw [zl_len]; omega), xors_len (by rw [zl_len]; omega)]
  · intro j h1 h2
    have hj : j < n := by rw [xors_len (by rw [zl_len]; omega)] at h1; omega
    have a1 : j < (zl n p (i + 1) N).length := by rw [zl_len]; omega
    have a2 : j < (zl n p i N).length := by rw [zl_len]; omega
    have a3 : i < (zl n p i N).length := by rw [zl_len]; omega
    rw [xors_get h1 (by omega) a1, zl_get a1, List.getElem_set]
    by_cases e : i = j
    · subst e
      rw [if_pos rfl, if_pos ⟨hp, by omega⟩, xors_get h (by omega) a3, zl_get a3, if_neg (by omega), UInt8.xor_zero]
    · rw [if_neg e, xors_get _ (by omega) a2, zl_get a2]
      by_cases g : p ≤ j ∧ j < i
      · rw [if_pos ⟨g.1, by omega⟩, if_pos g]
      · rw [if_neg (by omega), if_neg g]
theorem zl_end {n p i N : Nat} (hp : p ≤ i) (hi : i ≤ n) (h : i = n ∨ N / 256 ^ (i - p) = 0) : zl n p i N = zl n p n N := by
  rcases h with rfl | h
  · rfl
  · apply List.ext_getElem
    · rw [zl_len, zl_len]
    · intro j h1 h2
      rw [zl_get h1, zl_get h2]
      rw [zl_len] at h2
      by_cases g : p ≤ j ∧ j < i
      · rw [if_pos g, if_pos ⟨g.1, h2⟩]
      · rw [if_neg g]
        by_cases g2 : p ≤ j
        · rw [if_pos ⟨g2, h2⟩, byteAt_high h (by omega)]
        · rw [if_neg (by omega)]
theorem zl_parts {n p N : Nat} (hp : p ≤ n) : zl n p n N = List.replicate p 0 ++ (List.range (n - p)).map (byteAt N) := by
  apply List.ext_getElem
  · rw [zl_len]; simp; omega
  · intro j h1 h2
    rw [zl_get h1]
    rw [zl_len] at h1
    rw [List.getElem_append]
    by_cases g : j < p
    · rw [if_neg (by omega), dif_pos (by simpa using g)]
      simp
    · rw [if_pos ⟨by omega, h1⟩, dif_neg (by simpa using g)]
      simp

theorem four_byteAt (N : Nat) : fourE (BitVec.ofNat 32 N) = [byteAt N 0, byteAt N 1, byteAt N 2, byteAt N 3] := by
  have e : ∀ k j : Nat, (BitVec.ofNat 32 N >>> k).toNat % 256 = N / 256 ^ j % 256 → lowB (BitVec.ofNat 32 N >>> k) = byteAt N j := fun k j h => UInt8.toNat_inj.1 (by rw [lowB_nat, byteAt_nat, h])
  have e0 : lowB (BitVec.ofNat 32 N) = byteAt N 0 := UInt8.toNat_inj.1 (by rw [lowB_nat, byteAt_nat, BitVec.toNat_ofNat]; omega)
  unfold fourE
  rw [e0, e 8 1 (by rw [BitVec.toNat_ushiftRight, BitVec.toNat_ofNat, Nat.shiftRight_eq_div_pow]; omega), e 16 2 (by rw [BitVec.toNat_ushiftRight, BitVec.toNat_ofNat, Nat.shiftRight_eq_div_pow]; omega), e 24 3 (by rw [BitVec.toNat_ushiftRight, BitVec.toNat_ofNat, Nat.shiftRight_eq_div_pow]; omega)]

/-- A burst of at most 32 bits, from any bit of a byte on. -/
theorem burst_bytes {x s q : Nat} (hx : x < 4294967296) (hs : s < 8) (h : takeBs 0#32 ((List.range q).map (byteAt (x * 2 ^ s))) = 0#32) : ∀ c ∈ (List.range q).map (byteAt (x * 2 ^ s)), c = 0 := by
  rcases Nat.lt_or_ge q 5 with hq | hq
  · exact burst4 (by simp; omega) h
  · obtain ⟨r, rfl⟩ : ∃ r, q = 5 + r := ⟨q - 5, by omega⟩
    have hp : 2 ^ s ≤ 128 := by
      have := Nat.pow_le_pow_right (n := 2) (by omega) (show s ≤ 7 by omega)
      omega
    have hN : x * 2 ^ s < 256 ^ 5 := by
      have h1 : x * 2 ^ s ≤ x * 128 := Nat.mul_le_mul_left x hp
      omega
    have e : (List.range (5 + r)).map (byteAt (x * 2 ^ s)) = fourE (BitVec.ofNat 32 (x * 2 ^ s)) ++ [byteAt (x * 2 ^ s) 4] ++ List.replicate r 0 := by
      rw [four_byteAt, List.range_add, List.map_append]
      congr 1
      rw [List.map_map]
      apply List.ext_getElem
      · simp
      · intro j h1 h2
        simp only [List.getElem_map, List.getElem_range, List.getElem_replicate, Function.comp]
        exact byteAt_high (k := 5) (Nat.div_eq_of_lt hN) (by omega)
    rw [e] at h ⊢
    have h2 := burst5 (s := s) (by rfl) hs (fun i hi => by
      rw [leVal_four, BitVec.getLsbD_ofNat, Nat.mul_comm, Nat.testBit_two_pow_mul]
      have : decide (i ≥ s) = false := by simp; omega
      rw [this]
      simp) (by
      rw [byteAt_nat]
      have h1 : x * 2 ^ s / 256 ^ 4 < 2 ^ s := Nat.div_lt_of_lt_mul (Nat.mul_lt_mul_of_pos_right (by omega) (Nat.pow_pos (by omega)))
      exact Nat.lt_of_le_of_lt (Nat.mod_le _ _) h1) (takeBs_trail h)
    intro c hc
    rcases List.mem_append.1 hc with hc | hc
    · rcases List.mem_append.1 hc with hc | hc
      · exact h2.1 c hc
      · rw [List.mem_singleton.1 hc]
        exact h2.2
    · exact (List.mem_replicate.1 hc).2

theorem burst_told {l : List UInt8} {n p x s : Nat} (hl : l.length = n) (hp : p ≤ n) (hx : x < 4294967296) (hs : s < 8) : ofE (xors l (zl n p n (x * 2 ^ s))) = ofE l ↔ xors l (zl n p n (x * 2 ^ s)) = l := by
  refine turned (by rw [zl_len, hl]) ?_
  rw [zl_parts hp, takeBs_lead]
  intro h c hc
  rcases List.mem_append.1 hc with hc | hc
  · exact (List.mem_replicate.1 hc).2
  · exact burst_bytes hx hs h c hc

/-- Two bytes that stand side by side change places. -/
theorem places_told {l : List UInt8} {k : Nat} (h : k + 1 < l.length) : ofE ((l.set k l[k + 1]).set (k + 1) l[k]) = ofE l ↔ l[k] = l[k + 1] := by
  obtain ⟨z, hz⟩ : ∃ z, z = List.replicate k 0 ++ ([l[k] ^^^ l[k + 1], l[k] ^^^ l[k + 1]] ++ List.replicate (l.length - k - 2) 0) := ⟨_, rfl⟩
  have hzl : l.length = z.length := by rw [hz]; simp; omega
  have e : (l.set k l[k + 1]).set (k + 1) l[k] = xors l z := by
    apply List.ext_getElem
    · rw [xors_len hzl]; simp
    · intro j h1 h2
      have hj : j < l.length := by simpa using h1
      rw [xors_get h2 hj (by omega), List.getElem_set, List.getElem_set]
      by_cases e1 : k + 1 = j
      · subst e1
        have : z[k + 1]'(by omega) = l[k] ^^^ l[k + 1] := by
          simp only [hz]
          rw [List.getElem_append_right (by simp), List.getElem_append_left (by simp)]
          simp
        rw [if_pos rfl, this, UInt8.xor_comm l[k], ← UInt8.xor_assoc, UInt8.xor_self, UInt8.zero_xor]
      · rw [if_neg e1]
        by_cases e2 : k = j
        · subst e2
          have : z[k]'(by omega) = l[k] ^^^ l[k + 1] := by
            simp only [hz]
            rw [List.getElem_append_right (by simp), List.getElem_append_left (by simp)]
            simp
          rw [if_pos rfl, this, ← UInt8.xor_assoc, UInt8.xor_self, UInt8.zero_xor]
        · rw [if_neg e2]
          have : z[j]'(by omega) = 0 := by
            simp only [hz]
            rcases Nat.lt_or_ge j k with g | g
            · rw [List.getElem_append_left (by simpa using g)]
              simp
            · rw [List.getElem_append_right (by simpa using g), List.getElem_append_right (by simp; omega)]
              simp
          rw [this, UInt8.xor_zero]
  rw [e, turned hzl]
  · constructor
    · intro g
      rw [← e] at g
      have h1 : ((l.set k l[k + 1]).set (k + 1) l[k])[k + 1]'(by simpa using h) = l[k + 1] := by simp only [g]
      simpa using h1
    · intro g
      refine xors_none hzl fun c hc => ?_
      rw [hz, g] at hc
      simp only [UInt8.xor_self, List.mem_append, List.mem_cons, List.mem_replicate, List.not_mem_nil, or_false] at hc
      rcases hc with hc | (hc | hc) | hc
      · exact hc.2
      · exact hc
      · exact hc
      · exact hc.2
  · rw [hz, takeBs_lead]
    intro g c hc
    have g2 := burst4 (by simp) (takeBs_trail g)
    rcases List.mem_append.1 hc with hc | hc
    · exact (List.mem_replicate.1 hc).2
    · rcases List.mem_append.1 hc with hc | hc
      · exact g2 c hc
      · exact (List.mem_replicate.1 hc).2

end Go.Proofs.Ytlblcligjelbgaa
