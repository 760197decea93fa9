/- Bring, literal bytes, a number in four bytes: what stages besides the second use of stage 2. -/
import Derived.Test.YtlblcligjelbgaaCrcA
set_option linter.unusedVariables false
namespace Go.Proofs.Ytlblcligjelbgaa
open Go.RowKit

set_option maxHeartbeats 1000000 in
set_option maxRecDepth 20000 in
theorem bring_any (i : Int) (n : Nat) (w : World) (h1 : -9223372036854775808 ≤ i) (h2 : i ≤ 9223372036854775807) (hn : 0 < n) (hn2 : n ≤ 9223372036854775807) :
    Calls Try.prog 26 #[.int .i64 i, .int .i64 n] w fun e w' => e = .returned (.int .i64 (i % n)) ∧ w = w' := by
  by_cases hi : 0 ≤ i
  · have hm0 : 0 ≤ i % (n : Int) := Int.emod_nonneg _ (by omega)
    go_enter Try.func26, Try.ntmps26
    go_wp2_with fail
    go_ret
    exact ⟨rfl, rfl⟩
  · have hneg : i.tmod n = -((-i) % (n : Int)) := by
      have e := Int.neg_tmod (a := -i) (b := (n : Int))
      rw [Int.neg_neg] at e
      rw [e, Int.tmod_eq_emod_of_nonneg (a := -i) (by omega)]
    have g1 : 0 ≤ (-i) % (n : Int) := Int.emod_nonneg _ (by omega)
    have g2 : (-i) % (n : Int) < n := Int.emod_lt_of_pos _ (by omega)
    have g3 : i % (n : Int) = if (-i) % (n : Int) = 0 then 0 else n - (-i) % (n : Int) := by
      have d := Int.mul_ediv_add_emod (-i) n
      generalize (-i) % (n : Int) = r at *
      generalize (-i) / (n : Int) = q at *
      by_cases hr : r = 0
      · rw [if_pos hr]
        have e : i = (n : Int) * (-q) := by rw [Int.mul_neg]; omega
        rw [e, Int.mul_emod_right]
      · rw [if_neg hr]
        have e : i = (n - r) + (n : Int) * (-q - 1) := by rw [Int.mul_sub, Int.mul_neg, Int.mul_one]; omega
        rw [e, Int.add_mul_emod_self_left]
        exact Int.emod_eq_of_lt (by omega) (by omega)
    have HN := Lib.hid hneg
    have H3 := Lib.hid g3
    clear hneg g3
    by_cases hz : (-i) % (n : Int) = 0
    · have b1 : decide (i.tmod n < 0) = false := by rw [HN.out]; simp; omega
      have HZ := Lib.hid hz
      clear hz
      go_enter Try.func26, Try.ntmps26
      go_wp2_with fail
      go_ret
      refine ⟨?_, rfl⟩
      rw [H3.out, if_pos HZ.out]
      show Ending.returned (Value.int IntKind.i64 (i.tmod n)) = _
      rw [HN.out, HZ.out]; rfl
    · have b1 : decide (i.tmod n < 0) = true := by rw [HN.out]; simp; omega
      have b2 : i.tmod n < 0 := by rw [HN.out]; omega
      have b3 : -(n : Int) < i.tmod n := by rw [HN.out]; omega
      go_enter Try.func26, Try.ntmps26
      go_wp2_with fail
      go_ret
      refine ⟨?_, rfl⟩
      rw [H3.out, if_neg hz]
      show Ending.returned (Value.int IntKind.i64 (i.tmod n + n)) = _
      rw [HN.out]
      congr 2
      omega

/-- 'Bring', the place under a name. -/
theorem bring_nat (i : Int) (n : Nat) (h1 : -9223372036854775808 ≤ i) (h2 : i ≤ 9223372036854775807) (hn : 0 < n) (hn2 : n ≤ 9223372036854775807) :
    ∃ j : Nat, j < n ∧ Hid ((j : Int) = i % n) ∧ Hid (∀ w : World, Calls Try.prog 26 #[.int .i64 i, .int .i64 n] w fun e w' => e = .returned (.int .i64 (j : Int)) ∧ w = w') := by
  have g1 : 0 ≤ i % (n : Int) := Int.emod_nonneg _ (by omega)
  have g2 : i % (n : Int) < n := Int.emod_lt_of_pos _ (by omega)
  refine ⟨(i % (n : Int)).toNat, by omega, Int.toNat_of_nonneg g1, fun w => ?_⟩
  rw [Int.toNat_of_nonneg g1]
  exact bring_any i n w h1 h2 hn hn2

/-- Bytes that a literal laid down, whatever its mark. -/
theorem Rd.litF (w : World) (l : List UInt8) (fr : Nat × Nat) : Rd (w.alloc (.cells (l.map bv).toArray 5 fr)) (some ⟨w.heap.size, 0, none⟩) l := fun h => by
  refine ⟨_, rfl, fun j hj => ?_⟩
  have e : (⟨w.heap.size, 0, none⟩ : Addr).add j = ⟨w.heap.size, j, none⟩ := by unfold Addr.add; split <;> simp_all
  rw [e, cell_of_row _ _ j (l.map bv).toArray 5 fr (heap_alloc_new w _)]
  simp [hj]


/-- A number's bytes, the lowest first. -/
def fourE (x : BitVec 32) : List UInt8 := [lowB x, lowB (x >>> 8), lowB (x >>> 16), lowB (x >>> 24)]
theorem split8 (x : BitVec 32) : BitVec.ofNat 32 (lowB x).toNat ^^^ (x >>> 8) <<< 8 = x := by
  apply BitVec.eq_of_getLsbD_eq
  intro i hi
  rw [BitVec.getLsbD_xor, shl8_bit]
  rcases Nat.lt_or_ge i 8 with h | h
  · rw [low_bit x i h]
    simp [h]
  · rw [byte_bit _ _ h, BitVec.getLsbD_ushiftRight, Nat.add_sub_cancel' h]
    have e1 : decide (i < 32) = true := by simp [hi]
    have e2 : decide (i < 8) = false := by simp; omega
    rw [e1, e2]
    simp
theorem leVal_four (x : BitVec 32) : leVal (fourE x) = x := by
  have h0 : x >>> 32 = 0#32 := by
    apply BitVec.eq_of_getLsbD_eq
    intro i hi
    rw [BitVec.getLsbD_ushiftRight, BitVec.getLsbD_of_ge _ _ (by omega)]
    simp
  have s1 := split8 x
  have s2 := split8 (x >>> 8)
  have s3 := split8 (x >>> 16)
  have s4 := split8 (x >>> 24)
  rw [← BitVec.shiftRight_add] at s2 s3 s4
  rw [h0] at s4
  unfold fourE
  simp only [leVal]
  rw [s4, s3, s2, s1]
theorem four_inj {x y : BitVec 32} (h : fourE x = fourE y) : x = y := by rw [← leVal_four x, h, leVal_four]

theorem bv_low (x : BitVec 32) : Value.int .u8 ((x.toNat : Int) % 256) = bv (lowB x) := by
  unfold bv
  rw [lowB_nat]
  rfl
theorem bv_mid (x : BitVec 32) (k n : Nat) (h : 2 ^ k = n) : Value.int .u8 ((x.toNat : Int) / n % 256) = bv (lowB (x >>> k)) := by
  rw [← bv_low, half32, ← h]
  simp
theorem bv_top (x : BitVec 32) : Value.int .u8 ((x.toNat : Int) / 16777216) = bv (lowB (x >>> 24)) := by
  rw [← bv_low, half32]
  have := x.isLt
  have e : (x.toNat : Int) / 16777216 = (x.toNat : Int) / 2 ^ 24 % 256 := by omega
  rw [e]

end Go.Proofs.Ytlblcligjelbgaa
