/- Root of the program: Mul64, isWithin, root, isPrime, Root. No condition but the arguments' bounds. -/
import Derived.Test.YthpcmceomamadaaShaA
import Derived.Test.YthpcmceomamadaaShaM
import Derived.Lib.Mul64
import Derived.Laws.Bits64b
set_option linter.unusedVariables false
namespace Go.Proofs.Ythpcmceomamadaa
open Go.RowKit

theorem m32 (a : Nat) (ha : a < 18446744073709551616) : bits .and .u64 (a : Int) 4294967295 = ((a % 4294967296 : Nat) : Int) := by
  have h := bits_and_u64_nat a 4294967295 ha (by omega)
  rw [show a &&& 4294967295 = a % 4294967296 from Nat.and_two_pow_sub_one_eq_mod a 32] at h
  exact h
theorem d32 (a : Nat) : (a : Int) / 4294967296 = ((a / 4294967296 : Nat) : Int) := by omega
theorem mulN (a b : Nat) : (a : Int) * (b : Int) = ((a * b : Nat) : Int) := (Int.natCast_mul a b).symm
theorem addN (a b : Nat) : (a : Int) + (b : Int) = ((a + b : Nat) : Int) := (Int.natCast_add a b).symm
theorem wN (a : Nat) (ha : a < 18446744073709551616) : IntKind.u64.wrap (a : Int) = (a : Int) := by rw [IntKind.wrap_u64]; omega
theorem wM (a : Nat) : IntKind.u64.wrap (a : Int) = ((a % 18446744073709551616 : Nat) : Int) := by rw [IntKind.wrap_u64]; omega

def Pair64 (w : World) (h l : Nat) (e : Ending) (w' : World) : Prop := e = .returned (.tuple #[.int .u64 (h : Int), .int .u64 (l : Int)]) ∧ w = w'

set_option maxHeartbeats 1000000 in
theorem mul64_any (x y : Nat) (hx : x < 18446744073709551616) (hy : y < 18446744073709551616) (w : World) :
    Calls Try.prog 60 #[.int .u64 (x : Int), .int .u64 (y : Int)] w (Pair64 w (x * y / 18446744073709551616) (x * y % 18446744073709551616)) := by
  obtain ⟨bd, bt, bw, hhi⟩ := Lib.mul64_hi x y hx hy
  have ba := Lib.half_mul_le (a := x / 4294967296) (b := y / 4294967296) (by omega) (by omega)
  have bb := Lib.half_mul_le (a := x / 4294967296) (b := y % 4294967296) (by omega) (by omega)
  have bc := Lib.half_mul_le (a := x % 4294967296) (b := y / 4294967296) (by omega) (by omega)
  have ba' : x / 4294967296 * (y / 4294967296) < 18446744073709551616 := by omega
  have bb' : x / 4294967296 * (y % 4294967296) < 18446744073709551616 := by omega
  have bc' : x % 4294967296 * (y / 4294967296) < 18446744073709551616 := by omega
  have bh1 : x / 4294967296 * (y / 4294967296) + (x / 4294967296 * (y % 4294967296) + x % 4294967296 * (y % 4294967296) / 4294967296) / 4294967296 < 18446744073709551616 := by omega
  have bh : x / 4294967296 * (y / 4294967296) + (x / 4294967296 * (y % 4294967296) + x % 4294967296 * (y % 4294967296) / 4294967296) / 4294967296 + ((x / 4294967296 * (y % 4294967296) + x % 4294967296 * (y % 4294967296) / 4294967296) % 4294967296 + x % 4294967296 * (y / 4294967296)) / 4294967296 < 18446744073709551616 := by omega
  go_enter Try.func60, Try.ntmps60
  go_wp2
  simp only [m32 x hx, m32 y hy, d32, mulN, addN, wN _ bd, wN _ bb', wN _ bt, m32 _ bt, wN _ bc', wN _ bw, wN _ ba', wN _ bh1, wN _ bh, wM (x * y)]
  rw [hhi]
  go_ret2
  exact ⟨rfl, rfl⟩

def GotB (w : World) (b : Bool) (e : Ending) (w' : World) : Prop := e = .returned (.bool b) ∧ w = w'

set_option maxHeartbeats 1000000 in
theorem within_two (x n : Nat) (hx : x < 137438953472) (hn : n ≤ 1000) (w : World) (b : Bool) (hb : isW x 2 n = b) :
    Calls Try.prog 51 #[.int .u64 (x : Int), .int .i64 2, .int .i64 (n : Int)] w (GotB w b) := by
  obtain ⟨H, hH⟩ : ∃ H, x * x / 18446744073709551616 = H := ⟨_, rfl⟩
  obtain ⟨L, hL⟩ : ∃ L, x * x % 18446744073709551616 = L := ⟨_, rfl⟩
  have e := isW_two (n := n) hH hL
  rw [hb] at e
  have hM := mul64_any x x (by omega) (by omega)
  rw [hH, hL] at hM
  have hl : L < 18446744073709551616 := by omega
  have hh : H < 18446744073709551616 := by
    have := Nat.mul_lt_mul'' hx hx
    omega
  have HM := Lib.hid hM
  have HE := Lib.hid e
  clear hM e hH hL hb
  by_cases c1 : H < n
  · go_enter Try.func51, Try.ntmps51
    go_wp2_with fail
    refine (HM.out _).mono ?_
    rintro e w1 ⟨rfl, rfl⟩
    go_wp2
    go_ret
    exact ⟨by rw [HE.out]; simp [c1], rfl⟩
  · have g1 : decide (H < n) = false := by simp; omega
    by_cases c2 : H = n
    · have g2 : ((H : Int) == (n : Int)) = true := by simp [c2]
      have C2 := Lib.hid c2
      have C1 := Lib.hid c1
      clear c2 c1
      by_cases c3 : L = 0
      · have g3 : ((L : Int) == 0) = true := by simp [c3]
        have C3 := Lib.hid c3
        clear c3
        go_enter Try.func51, Try.ntmps51
        go_wp2_with fail
        refine (HM.out _).mono ?_
        rintro e w1 ⟨rfl, rfl⟩
        go_wp2
        go_ret
        exact ⟨by rw [HE.out]; simp [C2.out, C3.out], rfl⟩
      · have g3 : ((L : Int) == 0) = false := by simp [c3]
        have C3 := Lib.hid c3
        clear c3
        go_enter Try.func51, Try.ntmps51
        go_wp2_with fail
        refine (HM.out _).mono ?_
        rintro e w1 ⟨rfl, rfl⟩
        go_wp2
        go_ret
        exact ⟨by rw [HE.out]; simp [C2.out, C3.out], rfl⟩
    · have g2 : ((H : Int) == (n : Int)) = false := by simp; omega
      have C2 := Lib.hid c2
      have C1 := Lib.hid c1
      clear c2 c1
      go_enter Try.func51, Try.ntmps51
      go_wp2_with fail
      refine (HM.out _).mono ?_
      rintro e w1 ⟨rfl, rfl⟩
      go_wp2
      go_ret
      exact ⟨by rw [HE.out]; simp [C2.out, C1.out], rfl⟩

set_option maxHeartbeats 1000000 in
theorem within_three (x n : Nat) (hx : x < 137438953472) (hn : n ≤ 1000) (w : World) (b : Bool) (hb : isW x 3 n = b) :
    Calls Try.prog 51 #[.int .u64 (x : Int), .int .i64 3, .int .i64 (n : Int)] w (GotB w b) := by
  obtain ⟨H, hH⟩ : ∃ H, x * x / 18446744073709551616 = H := ⟨_, rfl⟩
  obtain ⟨L, hL⟩ : ∃ L, x * x % 18446744073709551616 = L := ⟨_, rfl⟩
  obtain ⟨H2, hH2⟩ : ∃ H, L * x / 18446744073709551616 = H := ⟨_, rfl⟩
  obtain ⟨L2, hL2⟩ : ∃ H, L * x % 18446744073709551616 = H := ⟨_, rfl⟩
  have e := isW_three (n := n) hH hL hH2 hL2
  rw [hb] at e
  have hl : L < 18446744073709551616 := by omega
  have hM := mul64_any x x (by omega) (by omega)
  have hM2 := mul64_any L x (by omega) (by omega)
  rw [hH, hL] at hM
  rw [hH2, hL2] at hM2
  have hh : H < 1024 := by
    have := Nat.mul_lt_mul'' hx hx
    omega
  have hh2 : H2 < 137438953472 := by
    have := Nat.mul_lt_mul'' hl hx
    omega
  have hl2 : L2 < 18446744073709551616 := by omega
  have hp : H * x < 1024 * 137438953472 := Nat.mul_lt_mul'' hh hx
  obtain ⟨M, hM3⟩ : ∃ M, H * x = M := ⟨_, rfl⟩
  rw [hM3] at e hp
  have q1 : IntKind.u64.wrap ((H : Int) * (x : Int)) = (M : Int) := by rw [mulN, hM3]; exact wN _ (by omega)
  have q1' : (H : Int) * (x : Int) = (M : Int) := by rw [mulN, hM3]
  obtain ⟨T, hT⟩ : ∃ T, H2 + M = T := ⟨_, rfl⟩
  rw [hT] at e
  have ht : T < 18446744073709551616 := by omega
  have q2 : (H2 : Int) + (M : Int) = (T : Int) := by omega
  obtain ⟨B, hB⟩ : ∃ T, n * 4294967296 = T := ⟨_, rfl⟩
  rw [hB] at e
  have q3 : (n : Int) * 4294967296 = (B : Int) := by omega
  have hbd : B < 18446744073709551616 := by omega
  have HM := Lib.hid hM
  have HM2 := Lib.hid hM2
  have HE := Lib.hid e
  clear hM hM2 e hH hL hb hH2 hL2 hT hB hM3
  by_cases c1 : T < B
  · go_enter Try.func51, Try.ntmps51
    go_wp2_with fail
    refine (HM.out _).mono ?_
    rintro e w1 ⟨rfl, rfl⟩
    go_wp2_with fail
    refine (HM2.out _).mono ?_
    rintro e w1 ⟨rfl, rfl⟩
    go_wp2
    go_ret
    exact ⟨by rw [HE.out]; simp [c1], rfl⟩
  · have g1 : decide (T < B) = false := by simp; omega
    by_cases c2 : T = B
    · have g2 : ((T : Int) == (B : Int)) = true := by simp [c2]
      have C2 := Lib.hid c2
      have C1 := Lib.hid c1
      clear c2 c1
      by_cases c3 : L2 = 0
      · have g3 : ((L2 : Int) == 0) = true := by simp [c3]
        have C3 := Lib.hid c3
        clear c3
        go_enter Try.func51, Try.ntmps51
        go_wp2_with fail
        refine (HM.out _).mono ?_
        rintro e w1 ⟨rfl, rfl⟩
        go_wp2_with fail
        refine (HM2.out _).mono ?_
        rintro e w1 ⟨rfl, rfl⟩
        go_wp2
        go_ret
        exact ⟨by rw [HE.out]; simp [C2.out, C3.out], rfl⟩
      · have g3 : ((L2 : Int) == 0) = false := by simp [c3]
        have C3 := Lib.hid c3
        clear c3
        go_enter Try.func51, Try.ntmps51
        go_wp2_with fail
        refine (HM.out _).mono ?_
        rintro e w1 ⟨rfl, rfl⟩
        go_wp2_with fail
        refine (HM2.out _).mono ?_
        rintro e w1 ⟨rfl, rfl⟩
        go_wp2
        go_ret
        exact ⟨by rw [HE.out]; simp [C2.out, C3.out], rfl⟩
    · have g2 : ((T : Int) == (B : Int)) = false := by simp; omega
      have C2 := Lib.hid c2
      have C1 := Lib.hid c1
      clear c2 c1
      go_enter Try.func51, Try.ntmps51
      go_wp2_with fail
      refine (HM.out _).mono ?_
      rintro e w1 ⟨rfl, rfl⟩
      go_wp2_with fail
      refine (HM2.out _).mono ?_
      rintro e w1 ⟨rfl, rfl⟩
      go_wp2
      go_ret
      exact ⟨by rw [HE.out]; simp [C2.out, C1.out], rfl⟩

theorem within_any (x p n : Nat) (hp : p = 2 ∨ p = 3) (hx : x < 137438953472) (hn : n ≤ 1000) (w : World) (b : Bool) (hb : isW x p n = b) :
    Calls Try.prog 51 #[.int .u64 (x : Int), .int .i64 (p : Int), .int .i64 (n : Int)] w (GotB w b) := by
  rcases hp with rfl | rfl
  · exact within_two x n hx hn w b hb
  · exact within_three x n hx hn w b hb

theorem or64 (x k : Nat) (hk : k < 37) (hx : x < 137438953472) (hd : x % 2 ^ (k + 1) = 0) : bits .or .u64 (x : Int) ((2 ^ k : Nat) : Int) = ((x + 2 ^ k : Nat) : Int) := by
  have h2 : 2 ^ k < 2 ^ 37 := Nat.pow_lt_pow_right (by omega) hk
  have h := bits_or_u64_nat x (2 ^ k) (by omega) (by omega)
  rw [h]
  congr 1
  have e : x = 2 ^ (k + 1) * (x / 2 ^ (k + 1)) := by
    have := Nat.div_add_mod x (2 ^ (k + 1))
    omega
  have h3 : 2 ^ k < 2 ^ (k + 1) := Nat.pow_lt_pow_right (by omega) (by omega)
  rw [e, ← Nat.two_pow_add_eq_or_of_lt h3]

end Go.Proofs.Ythpcmceomamadaa
