/- The walk of ShaPadded: Pad begins with the bytes, then 128; its end tells how many bits there were; there are as few blocks as can be. No condition. -/
import Derived.Test.YthpcmceomamadaaShaPd
import Derived.Test.YthpcmceomamadaaRow
set_option linter.unusedVariables false
set_option linter.unusedSimpArgs false
namespace Go.Proofs.Ythpcmceomamadaa
open Go.ChangeShapes Go.WideShapes Go.ChangeAt Go.RowKit

theorem cut_to {l : List UInt8} {m k : Nat} (hl : l.length = m) (hk : k ≤ m) : (l.take k).length = k := by rw [List.length_take, hl]; omega

set_option maxHeartbeats 4000000 in
set_option maxRecDepth 100000 in
theorem padded_walk (A : Option Addr) (m c : Nat) (l : List UInt8) (w : World) (hl : l.length = m) (hmc : m ≤ c) (hc : c ≤ 9223372036854775807) (hr : Rd w A l) :
    Calls Try.prog 23 #[.slice A m c] w (Yes w) := by
  obtain ⟨k, _, hk1, hk2, hmin⟩ := min_lit m 5000 5000 rfl
  have hlk := cut_to hl hk1
  have hrk := hr.take k
  generalize l.take k = l' at *
  have HL := Lib.hid hlk
  have HRk := Lib.hid hrk
  clear hl hlk hr hrk
  obtain ⟨N, hN⟩ : ∃ N, padN l'.length = N := ⟨_, rfl⟩
  obtain ⟨r1, r2, r3⟩ := padN_room l'.length
  rw [hN, HL.out] at r1 r2
  rw [hN] at r3
  have r4 : (N : Int) % 64 = 0 := by omega
  have HN := Lib.hid hN
  clear hN r3
  go_enter Try.func23, Try.ntmps23
  go_wp2_with fail
  refine (pad_got A k c l' _ HL.out HRk.out hk2).mono ?_
  rintro e w1 ⟨g, cp, rfl, hcp, hg, hP, hB1⟩
  rw [HN.out] at hcp ⊢
  have HP := Lib.hid hP
  have HB := Lib.hid hB1
  clear hP hB1
  have b1 : decide (k + 73 ≤ N) = false := by simp; omega
  have b2 : decide (N < k + 9) = false := by simp; omega
  have b3 : decide ((k : Int) + 73 ≤ (N : Int)) = false := by simp; omega
  have b4 : decide ((N : Int) < (k : Int) + 9) = false := by simp; omega
  go_wp2_with fail
  have htk : (padE l').take k = l' := by have h := take_pad l'; rw [HL.out] at h; exact h
  have hrt := HP.out.rd.take k
  rw [htk] at hrt
  refine (eq_any (some ⟨g, 0, none⟩) A k cp k c l' l' _ HL.out HL.out hrt (HRk.out.below HB.out) (by simp only [maxLen]; omega) (by simp only [maxLen]; omega)).mono ?_
  rintro e w2 ⟨rfl, hB2⟩
  have hP2 := HP.out.below hB2
  have hB := bl_trans HB.out hB2
  have cn := hP2.cell (j := k) (by rw [HN.out]; omega)
  have hmk := padI_mark l'
  rw [HL.out] at hmk
  rw [hmk] at cn
  have cn' : w2.cell? ⟨g, k, none⟩ = some (.int .u8 128) := cn
  have HP2 := Lib.hid hP2
  have HB2 := Lib.hid hB
  have dt : decide (l' = l') = true := by simp
  clear cn hmk hP2 hB hB2 HP HB hrt htk
  go_wp2_with fail
  clear b1 b2 b3 b4
  obtain ⟨M, hM⟩ : ∃ M, N = M + 8 := ⟨N - 8, by omega⟩
  have hkM : k + 1 ≤ M := by omega
  have eM : (N : Int) - 8 = (M : Int) := by omega
  have hN5 : N ≤ 5073 := by omega
  go_loop [4, 5] (fun t i => ∃ j q : Nat, j ≤ 8 ∧ i = .int .i64 ((q : Nat) : Int) ∧ q = M + j ∧ t = .int .i64 ((8 * k / 256 ^ (8 - j) : Nat) : Int)) (fun _ i => N - (intOf i).toNat)
  case atStart =>
    refine ⟨0, M, by omega, by rw [eM], rfl, ?_⟩
    have e : 8 * k / 256 ^ (8 - 0) = 0 := Nat.div_eq_of_lt (by omega)
    rw [e]
    rfl
  case round =>
    obtain ⟨j, q, hj, rfl, hq, rfl⟩ := hrel
    by_cases hlt : q < N
    · have hj8 : j < 8 := by omega
      have cq := HP2.out.cell (j := q) (by rw [HN.out]; exact hlt)
      have hv := padI_count l' j hj8
      have e1 : padN l'.length - 8 + j = q := by rw [HN.out]; omega
      rw [e1, HL.out] at hv
      have hmore := count_more (8 * k) j hj8
      obtain ⟨V, hV⟩ : ∃ V, 8 * k / 256 ^ (8 - j) = V := ⟨_, rfl⟩
      obtain ⟨B, hB⟩ : ∃ B, (padI l' 8 q).toNat = B := ⟨_, rfl⟩
      rw [hB] at cq hv
      rw [hV] at hmore ⊢
      have hV5 : V ≤ 40000 := by
        have := Nat.div_le_self (8 * k) (256 ^ (8 - j))
        omega
      have hB5 : B < 256 := by rw [hv]; exact Nat.mod_lt _ (by omega)
      rw [← hv] at hmore
      have hlt' : (q : Int) < (N : Int) := by omega
      have HQ := Lib.hid hq
      have HM := Lib.hid hmore
      clear hv hmore hV hB hq hM eM
      go_wp2
      refine ⟨⟨j + 1, q + 1, by omega, by go_num, by rw [HQ.out]; rfl, ?_⟩, by simp [intOf]; omega⟩
      have e8 : 8 - (j + 1) = 7 - j := by omega
      rw [e8, ← HM.out]
      go_num
    · obtain rfl : j = 8 := by omega
      obtain rfl : q = N := by omega
      have e0 : 8 * k / 256 ^ (8 - 8) = 8 * k := by simp
      rw [e0]
      have HM := Lib.hid hM
      have hM2 : (q : Int) - 8 = (M : Int) := by omega
      clear hM hq e0 eM
      go_wp2
      go_loop [6] (fun i => ∃ j : Nat, k + 1 ≤ j ∧ j ≤ M ∧ i = .int .i64 (j : Int)) (fun i => M - (intOf i).toNat)
      case atStart => exact ⟨k + 1, by omega, hkM, by go_num⟩
      case round =>
        obtain ⟨j, hj1, hj2, rfl⟩ := hrel
        by_cases hlt2 : j < M
        · have cj := HP2.out.cell (j := j) (by rw [HN.out]; have := HM.out; omega)
          rw [padI_null l' j (by rw [HL.out]; omega) (by rw [HN.out]; have := HM.out; omega)] at cj
          have cj' : w2.cell? ⟨g, j, none⟩ = some (.int .u8 0) := cj
          have hj3 : j < q := by have := HM.out; omega
          clear cj
          go_wp2
          exact ⟨⟨j + 1, by omega, by omega, by go_num⟩, by simp [intOf]; omega⟩
        · obtain rfl : j = M := by omega
          have b8 : ((8 * (k : Int)) == 8 * (k : Int)) = true := by simp
          go_wp2_with fail
          refine (awake_any _).mono ?_
          rintro e w3 ⟨rfl, hb⟩
          go_wp2
          go_ret
          exact ⟨rfl, bl_trans HB2.out hb⟩

end Go.Proofs.Ythpcmceomamadaa
