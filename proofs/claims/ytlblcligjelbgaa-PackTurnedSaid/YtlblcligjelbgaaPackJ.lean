/- Bits turned one by one within 32: plain words on lists. -/
import Derived.Test.YtlblcligjelbgaaPackMath
set_option linter.unusedVariables false
namespace Go.Proofs.Ytlblcligjelbgaa
open Go.RowKit

theorem byte_bits (N j t : Nat) : (N / 256 ^ j % 256).testBit t = (decide (t < 8) && N.testBit (8 * j + t)) := by
  have e : (256 : Nat) ^ j = 2 ^ (8 * j) := by rw [Nat.pow_mul]
  rw [e, show (256 : Nat) = 2 ^ 8 from rfl, Nat.testBit_mod_two_pow, Nat.testBit_div_two_pow]
  congr 2
  omega
theorem add_bits {M q : Nat} (h : M < 2 ^ q) (t : Nat) : (M + 2 ^ q).testBit t = (M.testBit t ^^ decide (t = q)) := by
  rcases Nat.lt_trichotomy t q with hl | rfl | hg
  · rw [Nat.add_comm, Nat.testBit_two_pow_add_gt hl]
    simp [show ¬ t = q by omega]
  · rw [Nat.add_comm, Nat.testBit_two_pow_add_eq]
    simp
  · have h1 : M.testBit t = false := Nat.testBit_lt_two_pow (Nat.lt_of_lt_of_le h (Nat.pow_le_pow_right (by omega) (by omega)))
    have h2 : (M + 2 ^ q).testBit t = false := Nat.testBit_lt_two_pow (by
      have := Nat.pow_le_pow_right (n := 2) (by omega) (show q + 1 ≤ t by omega)
      rw [Nat.pow_succ] at this
      omega)
    rw [h1, h2]
    simp [show ¬ t = q by omega]
def bitB (k : Nat) : UInt8 := UInt8.ofNat (2 ^ k)
theorem bitB_nat {k : Nat} (h : k < 8) : (bitB k).toNat = 2 ^ k := by
  unfold bitB
  rw [UInt8.toNat_ofNat']
  exact Nat.mod_eq_of_lt (Nat.pow_lt_pow_right (a := 2) (by omega) h)
theorem byte_turn {M q : Nat} (h : M < 2 ^ q) (j : Nat) : byteAt (M + 2 ^ q) j = if j = q / 8 then byteAt M j ^^^ bitB (q % 8) else byteAt M j := by
  apply UInt8.toNat_inj.1
  apply Nat.eq_of_testBit_eq
  intro t
  by_cases hj : j = q / 8
  · rw [if_pos hj, UInt8.toNat_xor, Nat.testBit_xor, byteAt_nat, byteAt_nat, byte_bits, byte_bits, bitB_nat (Nat.mod_lt _ (by omega)), Nat.testBit_two_pow, add_bits h]
    by_cases ht : t < 8
    · have : (8 * j + t = q) = (q % 8 = t) := by apply propext; omega
      simp [ht, this]
    · have : ¬ q % 8 = t := by omega
      simp [ht, this]
  · rw [if_neg hj, byteAt_nat, byteAt_nat, byte_bits, byte_bits, add_bits h]
    by_cases ht : t < 8
    · have : ¬ 8 * j + t = q := by omega
      simp [ht, this]
    · simp [ht]
theorem zl_turn {l : List UInt8} {n p M q : Nat} (hl : l.length = n) (h : M < 2 ^ q) (hq : p + q / 8 < n) (h' : p + q / 8 < (xors l (zl n p n M)).length) :
    xors l (zl n p n (M + 2 ^ q)) = (xors l (zl n p n M)).set (p + q / 8) ((xors l (zl n p n M))[p + q / 8] ^^^ bitB (q % 8)) := by
  have l1 : l.length = (zl n p n (M + 2 ^ q)).length := by rw [zl_len, hl]
  have l2 : l.length = (zl n p n M).length := by rw [zl_len, hl]
  apply List.ext_getElem
  · rw [List.length_set, xors_len l1, xors_len l2]
  · intro j h1 h2
    have hj : j < n := by rw [xors_len l1, hl] at h1; exact h1
    rw [List.getElem_set, xors_get h1 (by omega) (by rw [zl_len]; exact hj), zl_get]
    by_cases e : p + q / 8 = j
    · subst e
      rw [if_pos rfl, xors_get h' (by omega) (by rw [zl_len]; exact hj), zl_get, if_pos ⟨by omega, hj⟩, if_pos ⟨by omega, hj⟩, byte_turn h, if_pos (by omega), UInt8.xor_assoc]
    · rw [if_neg e, xors_get (by rw [xors_len l2]; omega) (by omega) (by rw [zl_len]; exact hj), zl_get]
      by_cases hp : p ≤ j ∧ j < n
      · rw [if_pos hp, if_pos hp, byte_turn h, if_neg (by omega)]
      · rw [if_neg hp, if_neg hp]
theorem zl_turn' {l : List UInt8} {n p M q i r : Nat} (hl : l.length = n) (h : M < 2 ^ q) (hi : p + q / 8 = i) (hr : q % 8 = r) (hq : i < n) (h' : i < (xors l (zl n p n M)).length) :
    xors l (zl n p n (M + 2 ^ q)) = (xors l (zl n p n M)).set i ((xors l (zl n p n M))[i] ^^^ bitB r) := by
  subst hi hr
  exact zl_turn hl h hq h'
theorem zl_zero (n p : Nat) : ∀ c ∈ zl n p n 0, c = 0 := by
  intro c hc
  obtain ⟨j, hj, rfl⟩ := List.mem_iff_getElem.1 hc
  rw [zl_get]
  split
  · apply UInt8.toNat_inj.1
    rw [byteAt_nat]
    simp
  · rfl
theorem zl_some {l : List UInt8} {n p M : Nat} (hl : l.length = n) (hM : M < 2 ^ (8 * n - 8 * p)) (hp : p ≤ n) (h : xors l (zl n p n M) = l) : M = 0 := by
  have l2 : l.length = (zl n p n M).length := by rw [zl_len, hl]
  apply Nat.eq_of_testBit_eq
  intro t
  rw [Nat.zero_testBit]
  by_cases ht : t < 8 * n - 8 * p
  · have hj : p + t / 8 < n := by omega
    have e := xors_back l2
    rw [h] at e
    have hlen : p + t / 8 < (xors l l).length := by rw [xors_len rfl]; omega
    have e2 : (xors l l)[p + t / 8]'hlen = (zl n p n M)[p + t / 8]'(by rw [zl_len]; exact hj) := by simp only [e]
    rw [xors_get hlen (by omega) (by omega), UInt8.xor_self, zl_get, if_pos ⟨by omega, hj⟩] at e2
    have e3 := congrArg UInt8.toNat e2
    rw [byteAt_nat] at e3
    have e4 := byte_bits M (p + t / 8 - p) (t % 8)
    rw [← e3] at e4
    have : 8 * (p + t / 8 - p) + t % 8 = t := by omega
    rw [this] at e4
    simp [Nat.mod_lt t (show 0 < 8 by omega)] at e4
    exact e4
  · exact Nat.testBit_lt_two_pow (Nat.lt_of_lt_of_le hM (Nat.pow_le_pow_right (by omega) (by omega)))
theorem mod_more (x i : Nat) : x % 2 ^ (i + 1) = x % 2 ^ i + 2 ^ i * (x / 2 ^ i % 2) := by rw [Nat.pow_succ, Nat.mod_mul]
/-- What is turned within 32 bits is told. -/
theorem turned_told {b : List UInt8} {n p s N : Nat} (hl : b.length = n) (hp : p ≤ n) (hs : s < 8) (hN : N < 4294967296) (hM : N * 2 ^ s < 2 ^ (8 * n - 8 * p)) (hu : (unpackE b).2.2 = 0) :
    decide ((unpackE (xors b (zl n p n (N * 2 ^ s)))).2.2 = 0) = decide (N = 0) := by
  have l2 : b.length = (zl n p n (N * 2 ^ s)).length := by rw [zl_len, hl]
  rw [decide_eq_decide]
  constructor
  · intro h
    have h2 := (burst_told hl hp hN hs).1 (sums_of_packs h hu)
    have h3 := zl_some hl hM hp h2
    rcases Nat.mul_eq_zero.1 h3 with h | h
    · exact h
    · exact absurd h (by have := Nat.two_pow_pos s; omega)
  · rintro rfl
    rw [Nat.zero_mul, xors_none (by rw [zl_len, hl]) (zl_zero n p)]
    exact hu

end Go.Proofs.Ytlblcligjelbgaa
