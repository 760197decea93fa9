/- ShaSquares: the square root of a square has nothing behind the point, nor has the cube's root of a cube; a greater number of the same whole part has more. No condition. -/
import Derived.Test.YthinlacbnimimaaShaX
import Derived.Test.YthinlacbnimimaaShaSq
import Derived.Test.YthinlacbnimimaaRow
set_option linter.unusedVariables false
set_option linter.unusedSimpArgs false
namespace Go.Proofs.Ythinlacbnimimaa
open Go.ChangeShapes Go.WideShapes Go.ChangeAt Go.RowKit

theorem sq_zero {k : Nat} (h1 : 1 ≤ k) (h2 : k ≤ 30) : (rootW 2 (k * k)).toNat = 0 := by
  have h := List.all_eq_true.1 sqZero_holds (k - 1) (by simp; omega)
  rw [Nat.sub_add_cancel h1] at h
  exact Nat.eq_of_beq_eq_true h
theorem cube_zero {k : Nat} (h1 : 1 ≤ k) (h2 : k ≤ 10) : (rootW 3 (k * k * k)).toNat = 0 := by
  have h := List.all_eq_true.1 cubeZero_holds (k - 1) (by simp; omega)
  rw [Nat.sub_add_cancel h1] at h
  exact Nat.eq_of_beq_eq_true h
theorem sq_more {k m : Nat} (h1 : k * k < m) (h2 : m < (k + 1) * (k + 1)) (h3 : m ≤ 1000) (h4 : 1 ≤ k) : (rootW 2 (m - 1)).toNat < (rootW 2 m).toNat := by
  have hm : 2 ≤ m := by have := Nat.mul_le_mul h4 h4; omega
  have h := List.all_eq_true.1 sqMore_holds (m - 2) (by simp; omega)
  have e1 : m - 2 + 1 = m - 1 := by omega
  have e2 : m - 2 + 2 = m := by omega
  rw [e1, e2] at h
  rcases Bool.or_eq_true_iff.1 h with h | h
  · obtain ⟨j, _, hj⟩ := List.any_eq_true.1 h
    have hj := Nat.eq_of_beq_eq_true hj
    exfalso
    rcases Nat.lt_or_ge j (k + 1) with hlt | hge
    · have := Nat.mul_le_mul (Nat.le_of_lt_succ hlt) (Nat.le_of_lt_succ hlt)
      omega
    · have := Nat.mul_le_mul hge hge
      omega
  · rwa [Nat.blt_eq] at h

set_option maxHeartbeats 2000000 in
set_option maxRecDepth 100000 in
theorem squares_walk (n : Int) (w : World) (a : -9223372036854775808 ≤ n) (b : n ≤ 9223372036854775807) : Calls Try.prog 11 #[.int .i64 n] w (Yes w) := by
  obtain ⟨j, hj, _, HJ⟩ := bring_nat n 30 a b (by omega) (by omega)
  obtain ⟨k, hk⟩ : ∃ k, j + 1 = k := ⟨_, rfl⟩
  obtain ⟨q, hq⟩ : ∃ q, k * k = q := ⟨_, rfl⟩
  obtain ⟨Q, hQ⟩ : ∃ q, (k + 1) * (k + 1) = q := ⟨_, rfl⟩
  obtain ⟨c, hc⟩ : ∃ x, q * k = x := ⟨_, rfl⟩
  have k1 : 1 ≤ k := by omega
  have k2 : k ≤ 30 := by omega
  have q1 : q ≤ 900 := by have := Nat.mul_le_mul k2 k2; omega
  have q0 : 1 ≤ q := by have := Nat.mul_le_mul k1 k1; omega
  have Q1 : Q ≤ 961 := by
    have h : (k + 1) * (k + 1) ≤ 31 * 31 := Nat.mul_le_mul (by omega) (by omega)
    rw [hQ] at h
    omega
  have qQ : q < Q := by
    have h : (k + 1) * (k + 1) = k * k + k + k + 1 := by rw [Nat.add_mul, Nat.mul_add]; omega
    rw [hQ, hq] at h
    omega
  have c1 : c ≤ 27000 := by have := Nat.mul_le_mul q1 k2; omega
  have ek : 1 + (j : Int) = (k : Int) := by omega
  have eq : (k : Int) * (k : Int) = (q : Int) := by rw [mulN, hq]
  have ec : (q : Int) * (k : Int) = (c : Int) := by rw [mulN, hc]
  have eQ : ((k : Int) + 1) * ((k : Int) + 1) = (Q : Int) := by
    have : ((k : Int) + 1) = ((k + 1 : Nat) : Int) := by omega
    rw [this, mulN, hQ]
  have z2 : ((rootW 2 q).toNat : Int) = 0 := by rw [← hq, sq_zero k1 k2]; rfl
  have R2 := Lib.hid (root_is 2 q 0 (.inl rfl) q0 (by omega) z2)
  have HQ := Lib.hid hQ
  have Hq := Lib.hid hq
  have Z2 := Lib.hid z2
  have HC := Lib.hid hc
  clear hQ hq hk z2 hc
  by_cases h10 : k ≤ 10
  · have z3 : ((rootW 3 c).toNat : Int) = 0 := by rw [← HC.out, ← Hq.out, cube_zero k1 h10]; rfl
    have c1000 : c ≤ 1000 := by
      have := Nat.mul_le_mul (Nat.mul_le_mul h10 h10) h10
      rw [Hq.out, HC.out] at this
      exact this
    have c0 : 1 ≤ c := by have := Nat.mul_le_mul q0 k1; rw [HC.out] at this; exact this
    have R3 := Lib.hid (root_is 3 c 0 (.inr rfl) c0 c1000 z3)
    clear z3
    go_enter Try.func11, Try.ntmps11
    go_wp2_with fail
    refine (HJ.out _).mono ?_
    rintro e w1 ⟨rfl, rfl⟩
    go_wp2_with fail
    refine (R2.out _).mono ?_
    rintro e w1 ⟨rfl, rfl⟩
    go_wp2_with fail
    refine (R3.out _).mono ?_
    rintro e w1 ⟨rfl, rfl⟩
    go_wp2
    go_loop [5, 4] (fun i t => ∃ m : Nat, q + 1 ≤ m ∧ m ≤ Q ∧ i = .int .i64 (m : Int) ∧ t = .int .u32 ((rootW 2 (m - 1)).toNat : Int)) (fun i _ => Q - (intOf i).toNat)
    case atStart => exact ⟨q + 1, by omega, by omega, by go_num, by rw [Nat.add_sub_cancel, Z2.out]⟩
    case round =>
      obtain ⟨m, hm1, hm2, rfl, rfl⟩ := hrel
      by_cases hlt : m < Q
      · have hlt' : (m : Int) < (Q : Int) := by omega
        by_cases h1000 : m ≤ 1000
        · have hmore := sq_more (k := k) (m := m) (by rw [Hq.out]; omega) (by rw [HQ.out]; exact hlt) h1000 k1
          have hR := Lib.hid (Root_yes 2 m (.inl rfl) (by omega) h1000)
          generalize hx : rootW 2 m = x at *
          generalize hy : rootW 2 (m - 1) = y at *
          have HX := Lib.hid hx
          have hb : decide ((x.toNat : Int) ≤ (y.toNat : Int)) = false := by simp; omega
          have hb2 : decide (x.toNat ≤ y.toNat) = false := by simp; omega
          clear hx hy hmore
          go_wp2_with fail
          refine (hR.out _).mono ?_
          rintro e w1 ⟨rfl, rfl⟩
          go_wp2
          exact ⟨⟨m + 1, by omega, by omega, by go_num, by rw [Nat.add_sub_cancel, HX.out]⟩, by simp [intOf]; omega⟩
        · exfalso
          omega
      · have hge : ¬ (m : Int) < (Q : Int) := by omega
        go_wp2_with fail
        refine (awake_any _).mono ?_
        rintro e w1 ⟨rfl, hb⟩
        go_wp2
        go_ret
        exact ⟨rfl, hb⟩
  · go_enter Try.func11, Try.ntmps11
    go_wp2_with fail
    refine (HJ.out _).mono ?_
    rintro e w1 ⟨rfl, rfl⟩
    go_wp2_with fail
    refine (R2.out _).mono ?_
    rintro e w1 ⟨rfl, rfl⟩
    go_wp2
    go_loop [5, 4] (fun i t => ∃ m : Nat, q + 1 ≤ m ∧ m ≤ Q ∧ i = .int .i64 (m : Int) ∧ t = .int .u32 ((rootW 2 (m - 1)).toNat : Int)) (fun i _ => Q - (intOf i).toNat)
    case atStart => exact ⟨q + 1, by omega, by omega, by go_num, by rw [Nat.add_sub_cancel, Z2.out]⟩
    case round =>
      obtain ⟨m, hm1, hm2, rfl, rfl⟩ := hrel
      by_cases hlt : m < Q
      · have hlt' : (m : Int) < (Q : Int) := by omega
        by_cases h1000 : m ≤ 1000
        · have hmore := sq_more (k := k) (m := m) (by rw [Hq.out]; omega) (by rw [HQ.out]; exact hlt) h1000 k1
          have hR := Lib.hid (Root_yes 2 m (.inl rfl) (by omega) h1000)
          generalize hx : rootW 2 m = x at *
          generalize hy : rootW 2 (m - 1) = y at *
          have HX := Lib.hid hx
          have hb : decide ((x.toNat : Int) ≤ (y.toNat : Int)) = false := by simp; omega
          have hb2 : decide (x.toNat ≤ y.toNat) = false := by simp; omega
          clear hx hy hmore
          go_wp2_with fail
          refine (hR.out _).mono ?_
          rintro e w1 ⟨rfl, rfl⟩
          go_wp2
          exact ⟨⟨m + 1, by omega, by omega, by go_num, by rw [Nat.add_sub_cancel, HX.out]⟩, by simp [intOf]; omega⟩
        · exfalso
          omega
      · have hge : ¬ (m : Int) < (Q : Int) := by omega
        go_wp2_with fail
        refine (awake_any _).mono ?_
        rintro e w1 ⟨rfl, hb⟩
        go_wp2
        go_ret
        exact ⟨rfl, hb⟩

set_option maxRecDepth 100000 in
theorem ShaSquares_holds : Rows.ShaSquaresSaid :=
  OpenClaim.holds_of_wide 11 Try.f11 rfl rfl rfl rfl rfl rfl rfl ⟨rfl, rfl, rfl, rfl, rfl⟩ rfl rfl rfl rfl rfl (by kernel_rfl) Try.func11 (by kernel_rfl)
    (of_decide_eq_true (by kernel_rfl)) (by unfold Func.isWrapper; first | (rw [if_pos (by decide +kernel)]; kernel_rfl) | (rw [if_neg (by decide +kernel)]; exact ⟨rfl, rfl⟩))
    (fun os started H enc _ => law_lifted (s := Rows.shaSquaresSpec) Try.func11 (by kernel_rfl) rfl
      (fun H ds h => by rw [Try.params11] at h; match ds, h with | [_], _ => rfl) (by kernel_rfl) (by kernel_rfl)
      os started H enc
      (ChangeSpec.witness6 (enc := enc) (C := Try.checked) false ⟨#[], #[.int .i64 0], []⟩ 8 (by kernel_rfl) (by kernel_rfl) (by kernel_rfl) (by kernel_rfl))
      (fun W args ds p h => by
        obtain ⟨⟨base, hok⟩, hA, hl⟩ := h
        rw [Try.params11] at hok hA hl
        obtain ⟨v0, d0, rfl, rfl, g0⟩ := trodAll_one hA
        obtain ⟨n0, rfl, a0, b0⟩ := open_i64 (hok 0 3 v0 rfl rfl) g0
        exact squares_walk n0 W a0 b0))

end Go.Proofs.Ythinlacbnimimaa
