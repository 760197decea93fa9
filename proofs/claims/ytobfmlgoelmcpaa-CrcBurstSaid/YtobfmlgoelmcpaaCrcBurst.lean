/- CrcBurst: for all bytes, every number of 32 bits and every place the law answers true: if some bits are turned, all within 32 that stand one behind the other, the sum is another one. No condition. -/
import Derived.Test.YtobfmlgoelmcpaaCrcC
import Derived.Test.YtobfmlgoelmcpaaCrcE
import Derived.Test.YtobfmlgoelmcpaaRow32
set_option linter.unusedVariables false
namespace Go.Proofs.Ytobfmlgoelmcpaa
open Go.ChangeShapes Go.WideShapes Go.ChangeAt Go.RowKit


theorem shifted (x : BitVec 32) (s : Nat) (hs : s < 8) : ∃ N : Nat, IntKind.u64.wrap ((x.toNat : Int) * 2 ^ s) = (N : Int) ∧ N ≤ 1099511627775 ∧ N = x.toNat * 2 ^ s := by
  have hp : 2 ^ s ≤ 128 := by
    have := Nat.pow_le_pow_right (n := 2) (by omega) (show s ≤ 7 by omega)
    omega
  have hx := x.isLt
  have h1 : x.toNat * 2 ^ s ≤ x.toNat * 128 := Nat.mul_le_mul_left _ hp
  refine ⟨x.toNat * 2 ^ s, ?_, by omega, rfl⟩
  have e : (x.toNat : Int) * 2 ^ s = ((x.toNat * 2 ^ s : Nat) : Int) := by simp
  rw [e, IntKind.wrap_u64]
  omega

def BurstRel (l : List UInt8) (m p N : Nat) (w w1 : World) (g c2 : Nat) (nv iv : Value) (wr : World) : Prop :=
  ∃ j : Nat, p + j ≤ m ∧ iv = .int .i64 ((p + j : Nat) : Int) ∧ nv = .int .u64 ((N / 256 ^ j : Nat) : Int) ∧ Own wr w1.heap.size (.slice (some ⟨g, 0, none⟩) m c2) (xors l (zl m p (p + j) N)) ∧ Below w.heap.size w wr

set_option maxHeartbeats 1000000 in
set_option maxRecDepth 20000 in
theorem burst_walk (A : Option Addr) (m c : Nat) (l : List UInt8) (x : BitVec 32) (f0 f1 : Int) (w : World) (hl : l.length = m) (hmc : m ≤ c) (hc : c ≤ 140737488351232) (hr : Rd w A l)
    (h1 : -9223372036854775808 ≤ f0) (h2 : f0 ≤ 9223372036854775807) (h3 : -9223372036854775808 ≤ f1) (h4 : f1 ≤ 9223372036854775807) :
    Calls Try.prog 7 #[.slice A m c, .int .u32 (x.toNat : Int), .agg #[.int .i64 f0, .int .i64 f1]] w (Yes w) := by
  have HL := Lib.hid hl
  clear hl
  by_cases hm0 : m = 0
  · have hb : ((m : Int) == 0) = true := by simp [hm0]
    have HM := Lib.hid hm0
    clear hm0
    go_enter Try.func7, Try.ntmps7
    go_wp2_with fail
    refine (works_any _).mono ?_
    rintro e w1 ⟨rfl, hb1⟩
    go_wp2
    go_ret
    exact ⟨rfl, bl_of_alloc hb1⟩
  · have hb : ((m : Int) == 0) = false := by simp [hm0]
    obtain ⟨s, hs, _, HS⟩ := bring_nat f1 8 h3 h4 (by omega) (by omega)
    obtain ⟨p, hp, _, HP⟩ := bring_nat f0 m h1 h2 (by omega) (by omega)
    clear hm0
    go_enter Try.func7, Try.ntmps7
    go_wp2_with fail
    refine (works_any _).mono ?_
    rintro e w1 ⟨rfl, hb1⟩
    have hB1 := bl_of_alloc hb1
    have hc0 : w1.cell? ⟨w.heap.size, 0, none⟩ = some (.int .i64 f0) := by rw [hb1.cell (by simp)]; simp
    have hc1 : w1.cell? ⟨w.heap.size, 1, none⟩ = some (.int .i64 f1) := by rw [hb1.cell (by simp)]; simp
    have hsz := hb1.size
    clear hb1
    obtain ⟨N, hN, hN2, hNx⟩ : ∃ N : Nat, IntKind.u64.wrap ((x.toNat : Int) * 2 ^ s) = (N : Int) ∧ N ≤ 1099511627775 ∧ N = x.toNat * 2 ^ s := shifted x s hs
    have HN := Lib.hid hNx
    clear hNx
    go_wp2_with fail
    refine (HS.out w1).mono ?_
    rintro e w1' ⟨rfl, rfl⟩
    go_wp2_with fail
    clear hN hc1
    refine (behind_any none A 0 0 m c [] l w1 rfl HL.out (Rd.nil _ _) (hr.below hB1) (by omega)).mono ?_
    rintro e w2 ⟨v2, rfl, ho2, hb2⟩
    have hB2 := bl_trans hB1 hb2
    obtain ⟨A2, n2, c2, rfl, HL2, hc2, hc2', hr2⟩ := ho2.form
    obtain rfl : m = n2 := by rw [← HL2.out, ← HL.out]; simp
    obtain ⟨_, g, rfl, hg1, hg2, _, _⟩ := ho2.head (by omega)
    have ho2 : Own w2 w1.heap.size (.slice (some ⟨g, 0, none⟩) m c2) l := ho2
    have hc2 : w2.cell? ⟨w.heap.size, 0, none⟩ = some (.int .i64 f0) := by rw [hb2.cell (World.block_lt_of_cell? w1 _ hc0)]; exact hc0
    unfold maxLen at hc2'
    clear hc0
    go_wp2_with fail
    refine (HP.out w2).mono ?_
    rintro e w2' ⟨rfl, rfl⟩
    go_wp2_with fail
    have hwg : w.heap.size ≤ g := by have := hB1.size; omega
    have ho0 : Own w2 w1.heap.size (.slice (some ⟨g, 0, none⟩) m c2) (xors l (zl m p p N)) := by
      rw [xors_none (by rw [zl_len, HL.out]) (zl_start m p N)]
      exact ho2
    clear ho2 hr2 hb2 hc2 hsz
    go_loopw [7, 9] (fun nv iv wr => BurstRel l m p N w w1 g c2 nv iv wr) (fun _ i _ => m - (intOf i).toNat)
    case atStart => exact ⟨0, by omega, rfl, by simp, ho0, hB2⟩
    case round =>
      obtain ⟨j, hj, rfl, rfl, hoj, hBj⟩ := hrel
      obtain ⟨M, hM, hM2⟩ : ∃ M : Nat, M = N / 256 ^ j ∧ M ≤ N := ⟨_, rfl, Nat.div_le_self _ _⟩
      rw [← hM]
      have HM := Lib.hid hM
      clear hM
      by_cases hgo : p + j < m ∧ 0 < M
      · obtain ⟨g1, g2⟩ := hgo
        have hlen : (xors l (zl m p (p + j) N)).length = m := by rw [xors_len (by rw [zl_len, HL.out]), HL.out]
        have hjl : p + j < (xors l (zl m p (p + j) N)).length := by omega
        have k1 := hoj.cellAt hjl
        have k2 := hoj.frozenAt (p + j)
        obtain ⟨d, hd⟩ : ∃ d : UInt8, d = (xors l (zl m p (p + j) N))[p + j] := ⟨_, rfl⟩
        rw [← hd] at k1
        have HD := Lib.hid hd
        clear hd
        have hx8 : bits .xor .u8 (d.toNat : Int) ((M : Int) % 256) = ((d ^^^ byteAt N j).toNat : Int) := by
          rw [← xor8, byteAt_nat, ← HM.out]
          rfl
        have hst := hoj.stored (p + j) (d ^^^ byteAt N j) (.int .u8 ((d ^^^ byteAt N j).toNat : Int)) rfl
        have ht : xors l (zl m p (p + j + 1) N) = (xors l (zl m p (p + j) N)).set (p + j) (d ^^^ byteAt N j) := by
          rw [zl_next HL.out (by omega) g1 hjl, HD.out, Nat.add_sub_cancel_left]
        have HST := Lib.hid hst
        have HT := Lib.hid ht
        clear hst ht hlen
        go_wp2
        refine ⟨⟨j + 1, by omega, by go_num, ?_, ?_, hBj.setCell (p := ⟨g, p + j, none⟩) hwg _⟩, by simp [intOf]; omega⟩
        · rw [HM.out, Nat.pow_succ, ← Nat.div_div_eq_div_mul]
          rfl
        · have h := HST.out.1
          rw [← HT.out, UInt8.toNat_xor] at h
          exact h
      · have hend : p + j = m ∨ N / 256 ^ (p + j - p) = 0 := by
          rw [Nat.add_sub_cancel_left, ← HM.out]
          omega
        have hx := x.isLt
        have hbt := burst_told (l := l) (n := m) (p := p) (x := x.toNat) (s := s) HL.out (by omega) (by omega) hs
        rw [← HN.out] at hbt
        rw [zl_end (by omega) hj hend] at hoj
        have hrL := hoj.rd
        have hlL : (xors l (zl m p m N)).length = m := by rw [xors_len (by rw [zl_len, HL.out]), HL.out]
        generalize xors l (zl m p m N) = L at *
        have HLL := Lib.hid hlL
        have HE : Hid ((((ofE L).toNat : Int) == ((ofE l).toNat : Int)) = decide (L = l)) := by
          show (_ == _) = decide _
          by_cases h : L = l
          · rw [h]; simp
          · rw [ne32 (fun e => h (hbt.1 e))]
            simp [h]
        clear hbt hlL hend hx hoj ho0
        by_cases hpm : p + j < m
        · have hM0 : ¬ 0 < M := by omega
          have hM1 : decide ((0 : Int) < (M : Int)) = false := by simp; omega
          clear hgo
          go_wp2_with fail
          refine (of_any (some ⟨g, 0, none⟩) m c2 L wr HLL.out hrL (by simp [maxLen]; omega)).mono ?_
          rintro e w4 ⟨rfl, hb4⟩
          have hB4 := bl_trans hBj hb4
          go_wp2_with fail
          refine (of_any A m c l w4 HL.out (hr.below hB4) (by simp [maxLen]; omega)).mono ?_
          rintro e w5 ⟨rfl, hb5⟩
          have hB5 := bl_trans hB4 hb5
          have hrL5 := (hrL.below hb4).below hb5
          go_wp2_with fail
          refine (eq_any (some ⟨g, 0, none⟩) A m c2 m c L l w5 HLL.out HL.out hrL5 (hr.below hB5) (by simp [maxLen]; omega) (by simp [maxLen]; omega)).mono ?_
          rintro e w6 ⟨rfl, hb6⟩
          have hB6 := bl_trans hB5 hb6
          go_wp2
          go_ret
          refine ⟨?_, hB6⟩
          show Ending.returned (.bool ((((ofE L).toNat : Int) == ((ofE l).toNat : Int)) == decide (L = l))) = _
          rw [HE.out]
          simp
        · clear hgo
          go_wp2_with fail
          refine (of_any (some ⟨g, 0, none⟩) m c2 L wr HLL.out hrL (by simp [maxLen]; omega)).mono ?_
          rintro e w4 ⟨rfl, hb4⟩
          have hB4 := bl_trans hBj hb4
          go_wp2_with fail
          refine (of_any A m c l w4 HL.out (hr.below hB4) (by simp [maxLen]; omega)).mono ?_
          rintro e w5 ⟨rfl, hb5⟩
          have hB5 := bl_trans hB4 hb5
          have hrL5 := (hrL.below hb4).below hb5
          go_wp2_with fail
          refine (eq_any (some ⟨g, 0, none⟩) A m c2 m c L l w5 HLL.out HL.out hrL5 (hr.below hB5) (by simp [maxLen]; omega) (by simp [maxLen]; omega)).mono ?_
          rintro e w6 ⟨rfl, hb6⟩
          have hB6 := bl_trans hB5 hb6
          go_wp2
          go_ret
          refine ⟨?_, hB6⟩
          show Ending.returned (.bool ((((ofE L).toNat : Int) == ((ofE l).toNat : Int)) == decide (L = l))) = _
          rw [HE.out]
          simp

set_option maxRecDepth 100000 in
theorem CrcBurst_holds : Rows.CrcBurstSaid :=
  OpenClaim.holds_of_wide 7 Try.f7 rfl rfl rfl rfl rfl rfl rfl ⟨rfl, rfl, rfl, rfl, rfl⟩ rfl rfl rfl rfl rfl (by kernel_rfl) Try.func7 (by kernel_rfl)
    (of_decide_eq_true (by kernel_rfl)) (by unfold Func.isWrapper; first | (rw [if_pos (by decide +kernel)]; kernel_rfl) | (rw [if_neg (by decide +kernel)]; exact ⟨rfl, rfl⟩))
    (fun os started H enc _ => law_lifted (s := Rows.crcBurstSpec) Try.func7 (by kernel_rfl) rfl
      (fun H ds h => by rw [Try.params7] at h; match ds, h with | [_, _, _], _ => rfl) (by kernel_rfl) (by kernel_rfl)
      os started H enc
      (ChangeSpec.witness6 (enc := enc) (C := Try.checked) false ⟨#[], #[.slice none 0 0, .int .u32 0, .agg #[.int .i64 0, .int .i64 0]], []⟩ 8 (by kernel_rfl) (by kernel_rfl) (by kernel_rfl) (by kernel_rfl))
      (fun W args ds p h => by
        obtain ⟨⟨base, hok⟩, hA, hl⟩ := h
        rw [Try.params7] at hok hA hl
        obtain ⟨v0, v1, v2, d0, d1, d2, p0, p1, p2, rfl, rfl, rfl, g0, g1, g2⟩ := trodAll_three hA
        obtain ⟨A0, n0, c0, l0, rfl, e0, a0, b0, r0⟩ := open_bytes (hok 0 23 v0 rfl rfl) g0 (hl 0 23 d0 rfl rfl)
        obtain ⟨n1, rfl⟩ := open_u32 (hok 1 22 v1 rfl rfl) g1
        obtain ⟨x2, y2, rfl, a2, b2, a2', b2'⟩ := open_i64x2 (hok 2 37 v2 rfl rfl) g2
        exact burst_walk A0 n0 c0 l0 n1 x2 y2 W e0 a0 b0 r0 a2 b2 a2' b2'))

end Go.Proofs.Ytobfmlgoelmcpaa
