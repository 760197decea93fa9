/- VarnumSizes: for every two ints the law answers true: a number has more bytes than another one only if it is greater, and as many as seven bits make. No condition. -/
import Derived.Test.YthoocdgaiojkmaaWalkE
import Derived.Test.YthoocdgaiojkmaaRow
set_option linter.unusedVariables false
namespace Go.Proofs.Ythoocdgaiojkmaa
open Go.ChangeShapes Go.WideShapes Go.ChangeAt Go.RowKit

theorem digs_len_exact : ∀ (k n : Nat), n < 128 ^ (k + 1) → (k = 0 ∨ 128 ^ k ≤ n) → (digs n).length = k + 1
  | 0, n, h, _ => by rw [digs_small (by simpa using h)]; rfl
  | k + 1, n, h, h2 => by
    have h3 : 128 ^ (k + 1) ≤ n := by rcases h2 with h2 | h2; (omega); (exact h2)
    have h1 : 1 ≤ 128 ^ k := Nat.one_le_pow _ _ (by omega)
    rw [Nat.pow_succ] at h3 h
    rw [digs_big (by omega), List.length_cons, digs_len_exact k (n / 128) (by omega) (.inr (by omega))]

set_option maxHeartbeats 1000000 in
set_option maxRecDepth 20000 in
theorem sizes_walk (n m : Int) (w : World) (h1 : -9223372036854775808 ≤ n) (h2 : n ≤ 9223372036854775807) (h3 : -9223372036854775808 ≤ m) (h4 : m ≤ 9223372036854775807) :
    Calls Try.prog 10 #[.int .i64 n, .int .i64 m] w (Yes w) := by
  have hN := nb_le n
  have hM := nb_le m
  go_enter Try.func10, Try.ntmps10
  go_wp2_with (go_at_call 19; refine (works_any _).mono ?_; rintro e w1 ⟨rfl, hb1⟩)
  refine (number_any n w1 h1 h2).mono ?_
  rintro e w1' ⟨rfl, rfl⟩
  go_wp2_with fail
  refine (num_ok (nb n) w1 hN).mono ?_
  rintro e w2 ⟨v2, rfl, ho2, hb2⟩
  obtain ⟨A2, n2, c2, rfl, HL2, hc2, hc2', _⟩ := ho2.form
  have hB2 := bl_trans hb1 hb2
  clear ho2 hb2 hb1
  go_wp2_with fail
  refine (number_any m w2 h3 h4).mono ?_
  rintro e w2' ⟨rfl, rfl⟩
  go_wp2_with fail
  refine (num_ok (nb m) w2 hM).mono ?_
  rintro e w3 ⟨v3, rfl, ho3, hb3⟩
  obtain ⟨A3, n3, c3, rfl, HL3, hc3, hc3', _⟩ := ho3.form
  have hB3 := bl_trans hB2 hb3
  clear ho3 hb3 hB2
  have hn2 : n2 ≤ 8 := by have := HL2.out; have := digs_len8 hN; omega
  have hn3 : n3 ≤ 8 := by have := HL3.out; have := digs_len8 hM; omega
  go_wp2_with fail
  go_loop [9, 10] (fun s t => ∃ k M : Nat, k ≤ 8 ∧ M ≤ 1152921504606846975 ∧ s = .int .i64 ((k + 1 : Nat) : Int) ∧ t = .int .i64 (M : Int) ∧ Hid (M + 1 = 128 ^ (k + 1) ∧ (k = 0 ∨ 128 ^ k ≤ nb n))) (fun _ t => nb n - (intOf t).toNat)
  case atStart => exact ⟨0, 127, by omega, by omega, rfl, rfl, by decide, .inl rfl⟩
  case round =>
    obtain ⟨k, M, hk, hMM, rfl, rfl, HK⟩ := hrel
    by_cases hlt : M < nb n
    · go_wp2_with (go_at_call 26; refine (number_any n _ h1 h2).mono ?_; rintro e w1' ⟨rfl, rfl⟩)
      have hk8 : k + 1 ≤ 8 := by
        obtain ⟨e1, _⟩ := HK.out
        rcases Nat.lt_or_ge 7 k with hh | hh
        · have := Nat.pow_le_pow_right (n := 128) (by omega) (show 9 ≤ k + 1 by omega)
          omega
        · omega
      refine ⟨⟨k + 1, M * 128 + 127, hk8, by omega, by go_num, by go_num, ?_, .inr ?_⟩, by simp [intOf]; omega⟩
      · have := HK.out.1
        rw [Nat.pow_succ, ← this]
        omega
      · have := HK.out.1
        omega
    · have hlen : n2 = k + 1 := by
        obtain ⟨e1, e2⟩ := HK.out
        rw [← HL2.out]
        exact digs_len_exact k (nb n) (by omega) e2
      have hmono : n2 ≤ n3 ∨ nb m < nb n := by
        rw [← HL2.out, ← HL3.out]
        rcases Nat.lt_or_ge (nb m) (nb n) with hh | hh
        · exact .inr hh
        · exact .inl (digs_mono _ _ hh)
      subst hlen
      by_cases hle : k + 1 ≤ n3
      · go_wp2_with (go_at_call 26; refine (number_any n _ h1 h2).mono ?_; rintro e w1' ⟨rfl, rfl⟩)
        go_ret
        exact ⟨rfl, hB3⟩
      · have hgt : nb m < nb n := by omega
        have hb : decide ((k : Int) + 1 ≤ (n3 : Int)) = false := by simp; omega
        go_wp2_with (go_at_call 26; refine (number_any _ _ (by omega) (by omega)).mono ?_; rintro e w1' ⟨rfl, rfl⟩)
        go_ret
        exact ⟨rfl, hB3⟩

set_option maxRecDepth 100000 in
theorem VarnumSizes_holds : Rows.VarnumSizesSaid :=
  OpenClaim.holds_of_wide 10 Try.f10 rfl rfl rfl rfl rfl rfl rfl ⟨rfl, rfl, rfl, rfl, rfl⟩ rfl rfl rfl rfl rfl (by kernel_rfl) Try.func10 (by kernel_rfl)
    (of_decide_eq_true (by kernel_rfl)) (by unfold Func.isWrapper; first | (rw [if_pos (by decide +kernel)]; kernel_rfl) | (rw [if_neg (by decide +kernel)]; exact ⟨rfl, rfl⟩))
    (fun os started H enc _ => law_lifted (s := Rows.varnumSizesSpec) Try.func10 (by kernel_rfl) rfl
      (fun H ds h => by rw [Try.params10] at h; match ds, h with | [_, _], _ => rfl) (by kernel_rfl) (by kernel_rfl)
      os started H enc
      (ChangeSpec.witness6 (enc := enc) (C := Try.checked) false ⟨#[], #[.int .i64 0, .int .i64 0], []⟩ 8 (by kernel_rfl) (by kernel_rfl) (by kernel_rfl) (by kernel_rfl))
      (fun W args ds p h => by
        obtain ⟨⟨base, hok⟩, hA, hl⟩ := h
        rw [Try.params10] at hok hA hl
        obtain ⟨v0, v1, d0, d1, p0, p1, rfl, rfl, rfl, g0, g1⟩ := trodAll_two hA
        obtain ⟨n0, rfl, a0, b0⟩ := open_i64 (hok 0 3 v0 rfl rfl) g0
        obtain ⟨n1, rfl, a1, b1⟩ := open_i64 (hok 1 3 v1 rfl rfl) g1
        exact sizes_walk n0 n1 W a0 b0 a1 b1))

end Go.Proofs.Ythoocdgaiojkmaa
