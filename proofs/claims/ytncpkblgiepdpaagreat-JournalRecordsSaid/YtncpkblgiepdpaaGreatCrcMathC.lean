/- The sum of noughts alone: up to 4999 of them no two lists have the same one (reckoned through by the kernel); four bytes reach each sum. Plain words, no program. -/
import Derived.Test.YtncpkblgiepdpaaGreatCrcMathB
set_option linter.unusedVariables false
namespace Go.Proofs.YtncpkblgiepdpaaGreat

/-- A bit falls out of a number. -/
def st1 (x : Nat) : Nat := (x / 2) ^^^ (x % 2 * 3988292384)
def it : Nat → Nat → Nat
  | 0, x => x
  | n + 1, x => match st1 x with
    | 0 => it n 0
    | y + 1 => it n (y + 1)
/-- Of n noughts, and of fewer, none comes back to where it began. -/
def chk : Nat → Nat → Bool
  | 0, _ => true
  | n + 1, x => match it 8 x with
    | 0 => chk n 0
    | y + 1 => (y + 1 != 4294967295) && chk n (y + 1)

theorem it_succ (n x : Nat) : it (n + 1) x = it n (st1 x) := by
  rw [it]
  split <;> simp_all
theorem chk_succ (n x : Nat) : chk (n + 1) x = ((it 8 x != 4294967295) && chk n (it 8 x)) := by
  rw [chk]
  split
  · rename_i h; rw [h]; simp
  · rename_i y h; rw [h]

theorem lsb_mod (x : BitVec 32) : x.getLsbD 0 = decide (x.toNat % 2 = 1) := by
  rw [BitVec.getLsbD, Nat.testBit_zero]

theorem stp_nat (x : BitVec 32) : (stp x).toNat = st1 x.toNat := by
  unfold stp st1
  rw [BitVec.toNat_xor, BitVec.toNat_ushiftRight, Nat.shiftRight_eq_div_pow, lsb_mod]
  by_cases h : x.toNat % 2 = 1
  · simp [h, poly]
  · have h0 : x.toNat % 2 = 0 := by omega
    simp [h0]
theorem it_stpN : ∀ (n : Nat) (x : BitVec 32), it n x.toNat = (stpN n x).toNat
  | 0, _ => rfl
  | n + 1, x => by rw [it_succ, ← stp_nat, it_stpN n]; rfl

theorem chk_ne : ∀ (n : Nat) (x : BitVec 32), chk n x.toNat = true → ∀ k, 0 < k → k ≤ n → stpN (8 * k) x ≠ BitVec.allOnes 32
  | 0, x, _, k, h0, h1 => by omega
  | n + 1, x, h, k, h0, h1 => by
    rw [chk_succ, it_stpN, Bool.and_eq_true] at h
    obtain ⟨h2, h3⟩ := h
    rcases k with _ | k
    · omega
    · rw [Nat.mul_add, Nat.mul_one, Nat.add_comm, stpN_add]
      rcases Nat.eq_zero_or_pos k with rfl | hk
      · intro e
        have e' : stpN 8 x = BitVec.allOnes 32 := e
        rw [e'] at h2
        exact absurd h2 (by decide)
      · exact chk_ne n (stpN 8 x) h3 k hk (by omega)

set_option maxRecDepth 100000 in
theorem chk_all : chk 4999 4294967295 = true := by decide +kernel

theorem noughts_ne {k : Nat} (h0 : 0 < k) (h1 : k ≤ 4999) : stpN (8 * k) (BitVec.allOnes 32) ≠ BitVec.allOnes 32 :=
  chk_ne 4999 (BitVec.allOnes 32) chk_all k h0 h1

theorem noughts_inj {m n : Nat} (hm : m < 5000) (hn : n < 5000) : ofE (List.replicate m 0) = ofE (List.replicate n 0) ↔ m = n := by
  have key : ∀ a b : Nat, a ≤ b → b < 5000 → stpN (8 * a) (BitVec.allOnes 32) = stpN (8 * b) (BitVec.allOnes 32) → a = b := by
    intro a b hab hb h
    rcases Nat.eq_or_lt_of_le hab with e | hlt
    · exact e
    · exfalso
      have e : 8 * b = 8 * (b - a) + 8 * a := by omega
      rw [e, stpN_add] at h
      exact noughts_ne (by omega) (by omega) (stpN_inj h).symm
  constructor
  · intro h
    unfold ofE onE at h
    rw [takeBs_noughts, takeBs_noughts] at h
    have h2 : stpN (8 * m) (~~~ 0#32) = stpN (8 * n) (~~~ 0#32) := by
      rw [← BitVec.not_not (b := stpN (8 * m) (~~~ 0#32)), h, BitVec.not_not]
    have e0 : (~~~ 0#32 : BitVec 32) = BitVec.allOnes 32 := by decide
    rw [e0] at h2
    rcases Nat.le_total m n with hle | hle
    · exact key m n hle hn h2
    · exact (key n m hle hm h2.symm).symm
  · intro h
    rw [h]

/-- Four bytes behind others. -/
theorem reach {own : BitVec 32} {l : List UInt8} (hl : l.length = 4) (b : List UInt8) (hb : ofE b = own) : ofE (b ++ l) = ~~~ (stpN 32 (~~~ own ^^^ leVal l)) := by
  have h : ofE (b ++ l) = onE (ofE b) l := onE_append _ _ _
  rw [h, hb]
  unfold onE
  rw [takeBs_small l _ (by omega), hl]
theorem ahead_four (want : BitVec 32) : aheadE want [0, 0, 0, 0] = ~~~ (ustN 32 (~~~ want)) := by
  have h := takeBs_small [0, 0, 0, 0] (ustN 32 (~~~ want)) (by simp)
  have e : leVal [0, 0, 0, 0] = 0#32 := by decide
  rw [e, BitVec.xor_zero] at h
  have h2 : takeBs (ustN 32 (~~~ want)) [0, 0, 0, 0] = ~~~ want := by rw [h]; exact stpN_ustN 32 _
  unfold aheadE
  rw [← h2, untakeBs_takeBs, h2]
theorem all_four : stpN 32 (BitVec.allOnes 32) = ~~~ 0x2144DF1C#32 := by decide +kernel

end Go.Proofs.YtncpkblgiepdpaaGreat
