/- Root of the program: root, isPrime, Root. No condition but the arguments' bounds. -/
import Derived.Test.YthpcmceomamadaaShaR
set_option linter.unusedVariables false
namespace Go.Proofs.Ythpcmceomamadaa
open Go.RowKit

theorem rootE_end (p n : Nat) : ((rootN p n : Nat) : Int) % 4294967296 = ((rootW p n).toNat : Int) := by
  unfold rootW
  rw [BitVec.toNat_ofNat]
  omega
theorem pow_in (k : Nat) (hk : k < 37) : (2 : Nat) ^ k < 137438953472 := Nat.pow_lt_pow_right (by omega) hk

set_option maxHeartbeats 1000000 in
set_option maxRecDepth 20000 in
theorem root_any (p n : Nat) (hp : p = 2 ∨ p = 3) (hn : n ≤ 1000) (w : World) :
    Calls Try.prog 27 #[.int .i64 (p : Int), .int .i64 (n : Int)] w (Same32 w (rootW p n)) := by
  have HP := Lib.hid hp
  clear hp
  go_enter Try.func27, Try.ntmps27
  go_wp2
  go_loop [5, 6] (fun s i => ∃ (k x : Nat), k ≤ 37 ∧ i = .int .i64 ((k : Int) - 1) ∧ s = .int .u64 (x : Int) ∧ Hid (rootGo p n k x = rootN p n) ∧ Hid (x % 2 ^ k = 0) ∧ Hid (x + 2 ^ k ≤ 2 ^ 37)) (fun _ i => (intOf i + 1).toNat)
  case atStart => exact ⟨37, 0, by omega, rfl, rfl, rfl, rfl, show (0 : Nat) + 2 ^ 37 ≤ 2 ^ 37 by decide⟩
  case round =>
    obtain ⟨k, x, hk, rfl, rfl, HX, HD, HL⟩ := hrel
    rcases k with _ | k
    · go_wp2
      go_ret
      refine ⟨?_, rfl⟩
      have h := HX.out
      rw [← rootE_end, ← h]
      rfl
    · have hx : x < 137438953472 := by have := HL.out; have := Nat.two_pow_pos (k + 1); omega
      have ek : ((k + 1 : Nat) : Int) - 1 = (k : Int) := by omega
      rw [ek]
      clear ek
      obtain ⟨y, hy⟩ : ∃ y, x + 2 ^ k = y := ⟨_, rfl⟩
      have hor : bits .or .u64 (x : Int) (IntKind.u64.wrap (2 ^ k)) = (y : Int) := by
        have h := or64 x k (by omega) hx HD.out
        have hp := pow_in k (by omega)
        have e : ((2 : Int) ^ k) = ((2 ^ k : Nat) : Int) := by simp
        rw [e, wN _ (by omega), h, hy]
      have hy2 : y < 137438953472 := by
        have h := HL.out
        have := Nat.two_pow_pos k
        rw [Nat.pow_succ] at h
        omega
      have hd1 : x % 2 ^ k = 0 := by
        have h : 2 ^ (k + 1) ∣ x := Nat.dvd_of_mod_eq_zero HD.out
        exact Nat.mod_eq_zero_of_dvd (Nat.dvd_trans (Nat.pow_dvd_pow 2 (by omega)) h)
      have hd2 : y % 2 ^ k = 0 := by rw [← hy, Nat.add_mod_right]; exact hd1
      have hl1 : x + 2 ^ k ≤ 2 ^ 37 := by omega
      have hl2 : y + 2 ^ k ≤ 2 ^ 37 := by have h := HL.out; rw [Nat.pow_succ] at h; omega
      have D1 := Lib.hid hd1
      have D2 := Lib.hid hd2
      have L1 := Lib.hid hl1
      have L2 := Lib.hid hl2
      have HY := Lib.hid hy
      clear hd1 hd2 hl1 hl2 hy
      cases hb : isW y p n
      · have HB := Lib.hid hb
        clear hb
        go_wp2_with fail
        refine (within_any y p n HP.out hy2 hn _ false HB.out).mono ?_
        rintro e w1 ⟨rfl, rfl⟩
        go_wp2
        refine ⟨⟨k, x, by omega, by go_num, rfl, ?_, D1, L1⟩, by simp [intOf]⟩
        rw [← rootGo_no (by rw [HY.out]; exact HB.out)]
        exact HX
      · have HB := Lib.hid hb
        clear hb
        go_wp2_with fail
        refine (within_any y p n HP.out hy2 hn _ true HB.out).mono ?_
        rintro e w1 ⟨rfl, rfl⟩
        go_wp2
        refine ⟨⟨k, y, by omega, by go_num, rfl, ?_, D2, L2⟩, by simp [intOf]⟩
        rw [← HY.out, ← rootGo_yes (by rw [HY.out]; exact HB.out)]
        exact HX

set_option maxHeartbeats 1000000 in
set_option maxRecDepth 20000 in
theorem isPrime_any (n : Nat) (h1 : 2 ≤ n) (h2 : n ≤ 311) (w : World) : Calls Try.prog 53 #[.int .i64 (n : Int)] w (GotB w (prB n)) := by
  go_enter Try.func53, Try.ntmps53
  go_wp2
  go_loop [3] (fun i => ∃ d : Nat, 2 ≤ d ∧ d ≤ n ∧ i = .int .i64 (d : Int) ∧ Hid (∀ e, 2 ≤ e → e < d → n % e ≠ 0)) (fun i => n - (intOf i).toNat)
  case atStart => exact ⟨2, by omega, h1, rfl, fun e he hl => by omega⟩
  case round =>
    obtain ⟨d, hd1, hd2, rfl, HD⟩ := hrel
    obtain ⟨q, hq⟩ : ∃ q, d * d = q := ⟨_, rfl⟩
    have hq2 : q ≤ 96721 := by have := Nat.mul_le_mul hd2 hd2; have := Nat.mul_le_mul h2 h2; omega
    have hmul : (d : Int) * (d : Int) = (q : Int) := by rw [mulN, hq]
    obtain ⟨r, hr⟩ : ∃ r, n % d = r := ⟨_, rfl⟩
    have hrem : (n : Int) % (d : Int) = (r : Int) := by omega
    have HQ := Lib.hid hq
    have HR := Lib.hid hr
    clear hq hr
    by_cases hle : q ≤ n
    · have hdn : d < n := by
        have : 2 * d ≤ d * d := Nat.mul_le_mul_right d hd1
        have := HQ.out
        omega
      by_cases hz : r = 0
      · subst hz
        go_wp2
        go_ret
        exact ⟨by rw [pr_no hd1 hdn HR.out]; rfl, rfl⟩
      · have hz2 : ((r : Int) == 0) = false := by simp; omega
        have HZ := Lib.hid hz
        clear hz
        go_wp2
        refine ⟨⟨d + 1, by omega, by omega, by go_num, fun e he hl => ?_⟩, by simp [intOf]; omega⟩
        by_cases h : e = d
        · subst h
          rw [HR.out]; exact HZ.out
        · exact HD.out e he (by omega)
    · go_wp2
      go_ret
      exact ⟨by rw [pr_yes h1 h2 (by have := HQ.out; omega) HD.out]; rfl, rfl⟩

def GotRoot (w : World) (x : BitVec 32) (f : Int) (e : Ending) (w' : World) : Prop := e = .returned (.tuple #[.int .u32 (x.toNat : Int), .int .i64 f]) ∧ w = w'

set_option maxHeartbeats 1000000 in
set_option maxRecDepth 20000 in
theorem Root_yes (p n : Nat) (hp : p = 2 ∨ p = 3) (h1 : 1 ≤ n) (hn : n ≤ 1000) (w : World) :
    Calls Try.prog 8 #[.int .i64 (p : Int), .int .i64 (n : Int)] w (GotRoot w (rootW p n) 0) := by
  rcases hp with rfl | rfl
  · go_enter Try.func8, Try.ntmps8
    go_wp2_with fail
    refine (root_any 2 n (by decide) hn _).mono ?_
    rintro e w1 ⟨rfl, rfl⟩
    go_wp2
    go_ret2
    exact ⟨rfl, rfl⟩
  · go_enter Try.func8, Try.ntmps8
    go_wp2_with fail
    refine (root_any 3 n (by decide) hn _).mono ?_
    rintro e w1 ⟨rfl, rfl⟩
    go_wp2
    go_ret2
    exact ⟨rfl, rfl⟩

set_option maxHeartbeats 1000000 in
set_option maxRecDepth 20000 in
theorem Root_no (p n : Int) (h : ¬((p = 2 ∨ p = 3) ∧ 1 ≤ n ∧ n ≤ 1000)) (w : World) :
    Calls Try.prog 8 #[.int .i64 p, .int .i64 n] w (GotRoot w 0 2) := by
  have H := Lib.hid h
  clear h
  by_cases h2 : p = 2
  · subst h2
    by_cases h1 : n < 1
    · go_enter Try.func8, Try.ntmps8
      go_wp2
      go_ret2
      exact ⟨rfl, rfl⟩
    · have h3 : 1000 < n := by have := H.out; omega
      go_enter Try.func8, Try.ntmps8
      go_wp2
      go_ret2
      exact ⟨rfl, rfl⟩
  · by_cases h3 : p = 3
    · subst h3
      by_cases h1 : n < 1
      · go_enter Try.func8, Try.ntmps8
        go_wp2
        go_ret2
        exact ⟨rfl, rfl⟩
      · have h3 : 1000 < n := by have := H.out; omega
        go_enter Try.func8, Try.ntmps8
        go_wp2
        go_ret2
        exact ⟨rfl, rfl⟩
    · have b2 : (p != 2) = true := by simp [h2]
      have b3 : (p != 3) = true := by simp [h3]
      clear h2 h3
      go_enter Try.func8, Try.ntmps8
      go_wp2
      go_ret2
      exact ⟨rfl, rfl⟩

end Go.Proofs.Ythpcmceomamadaa
