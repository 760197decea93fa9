/- PackTurned: if some bits of a pack are turned, all within 32 that stand one behind the other, it is none any more. -/
import Derived.Test.YtlblcligjelbgaaPackI
import Derived.Test.YtlblcligjelbgaaPackJ
import Derived.Test.YtlblcligjelbgaaRow32
set_option linter.unusedVariables false
namespace Go.Proofs.Ytlblcligjelbgaa
open Go.ChangeShapes Go.WideShapes Go.ChangeAt Go.RowKit

theorem bit_of (x : BitVec 32) (i : Nat) (hi : i < 32) : ((x.toNat : Int) / 2 ^ i) = ((x >>> i).toNat : Int) := (half32 x i).symm
theorem bit_yes {x : BitVec 32} {i : Nat} (h : x.toNat / 2 ^ i % 2 = 1) : (bits .and .u32 ((x.toNat : Int) / 2 ^ i) 1 == 1) = true := by
  rw [← half32 x i, and1, if_pos]
  · rfl
  · rw [BitVec.getLsbD_ushiftRight, Nat.add_zero, BitVec.getLsbD, Nat.testBit_eq_decide_div_mod_eq]
    simpa using h
theorem bit_no {x : BitVec 32} {i : Nat} (h : ¬ x.toNat / 2 ^ i % 2 = 1) : (bits .and .u32 ((x.toNat : Int) / 2 ^ i) 1 == 1) = false := by
  rw [← half32 x i, and1, if_neg]
  · rfl
  · rw [BitVec.getLsbD_ushiftRight, Nat.add_zero, BitVec.getLsbD, Nat.testBit_eq_decide_div_mod_eq]
    simpa using h
theorem bitB_int {k : Nat} (h : k < 8) : ((bitB k).toNat : Int) = 2 ^ k % 256 := by
  have e : ∀ k : Fin 8, ((bitB k).toNat : Int) = 2 ^ (k : Nat) % 256 := by decide
  exact e ⟨k, h⟩
theorem int_zero (z : Nat) : ((z : Int) == 0) = decide (z = 0) := by
  by_cases h : z = 0
  · subst h; rfl
  · rw [decide_eq_false h]; exact beq_eq_false_iff_ne.2 (by omega)
theorem unpack_go {A : Option Addr} {n c : Nat} {l : List UInt8} {w : World} (hl : l.length = n) (hr : Rd w A l) (hnc : n ≤ c) (hc : c ≤ maxLen) :
    Calls Try.prog 23 #[.slice A n c] w fun e w' => ∃ v, e = .returned (.tuple #[.int .i64 ((unpackE l).1 : Int), v, .int .i64 ((unpackE l).2.2 : Int)]) ∧ Below w.heap.size w w' := by
  refine (unpack_any A n c l w hl hr hnc hc).mono ?_
  rintro e w' ⟨v, rs, rfl, _, _, hb⟩
  exact ⟨v, rfl, hb⟩

set_option maxHeartbeats 2000000 in
set_option maxRecDepth 20000 in
theorem packTurned_any (A : Option Addr) (n c : Nat) (at0 : Int) (x : BitVec 32) (ll : List (List UInt8)) (w : World) (hl : ll.length = n) (hr : RdC w A ll) (hnc : n ≤ c) (hc : c ≤ maxLen)
    (h1 : -9223372036854775808 ≤ at0) (h2 : at0 ≤ 9223372036854775807) :
    Calls Try.prog 7 #[.slice A n c, .int .i64 at0, .int .u32 (x.toNat : Int)] w (Yes w) := by
  unfold maxLen at hc
  have HL := Lib.hid hl
  clear hl
  have hkb : n % 256 < 256 := Nat.mod_lt _ (by omega)
  obtain ⟨b, hp, hb1, hb2⟩ := made_ok ll ((n % 256 : Nat) : Int) (by omega) (by omega)
  have HU := Lib.hid (show (unpackE b).2.2 = 0 by rw [unpack_pack hp])
  have hp' : packE ((n : Int) % 256) (madeE ll) = (b, 0) := by rw [← hp]; congr 1
  have HP := Lib.hid hp'
  have HD := Lib.hid (made_small ll)
  have HMA := Lib.hid (fun (W : World) (hb : Below w.heap.size w W) => made_any A n c ll W HL.out (hr.below hb) (by simp only [maxLen]; omega))
  clear hp hp'
  generalize madeE ll = ss at *
  go_enter Try.func7, Try.ntmps7
  go_wp2_with fail
  refine (works_any w).mono ?_
  rintro e w1 ⟨rfl, g1⟩
  go_wp2_with fail
  refine (HMA.out _ g1).mono ?_
  rintro e w2 ⟨A2, n2, c2, rfl, HL2, hnc2, hc2, hr2, g2⟩
  have gB2 := bl_trans g1 g2
  clear g1 g2 HMA hr
  go_wp2_with fail
  refine (pack_is HL2.out hr2 (by omega) HD.out HP.out).mono ?_
  rintro e w4 ⟨v4, rfl, ho4, g4⟩
  obtain ⟨A4, n4, c4, rfl, HL4, hnc4, hc4, _⟩ := ho4.form
  rw [HL4.out] at hb1 hb2
  have gB4 := bl_trans gB2 g4
  have hs24 := gB2.size
  unfold maxLen at hc4
  obtain ⟨_, gb, rfl, hgb, _, _, _⟩ := ho4.head (by omega)
  have hgb' : w.heap.size ≤ gb := by omega
  clear g4 hr2
  obtain ⟨a, ha, _, HJ⟩ := bring_nat at0 (8 * n4) h1 h2 (by omega) (by omega)
  have HJ' : Hid (∀ w : World, Calls Try.prog 26 #[.int .i64 at0, .int .i64 (8 * (n4 : Int))] w fun e w' => e = .returned (.int .i64 (a : Int)) ∧ w = w') := by
    unfold Hid
    intro W
    have := HJ.out W
    simpa using this
  have hb0 : ((n4 : Int) == 0) = false := by simp; omega
  go_wp2_with fail
  refine (HJ'.out _).mono ?_
  rintro e w5 ⟨rfl, rfl⟩
  go_wp2_with fail
  go_loopw [9, 10] (fun tf i wr => ∃ k : Nat, k ≤ 32 ∧ a + k ≤ 8 * n4 ∧ i = .int .i64 (k : Int) ∧ tf = .bool (decide (x.toNat % 2 ^ k ≠ 0)) ∧ Own wr w.heap.size (.slice (some ⟨gb, 0, none⟩) n4 c4) (xors b (zl n4 (a / 8) n4 (x.toNat % 2 ^ k * 2 ^ (a % 8)))) ∧ Below w.heap.size w wr) (fun _ i _ => 32 - (intOf i).toNat)
  case atStart =>
    refine ⟨0, by omega, by omega, rfl, by simp [Nat.mod_one], ?_, gB4⟩
    rw [Nat.pow_zero, Nat.mod_one, Nat.zero_mul, xors_none (by rw [zl_len, HL4.out]) (zl_zero n4 (a / 8))]
    exact ho4.more hs24
  case round =>
    clear ho4
    obtain ⟨k, hk, hak, rfl, rfl, ho, hbl⟩ := hrel
    have l2 : b.length = (zl n4 (a / 8) n4 (x.toNat % 2 ^ k * 2 ^ (a % 8))).length := by rw [zl_len, HL4.out]
    have hxl : (xors b (zl n4 (a / 8) n4 (x.toNat % 2 ^ k * 2 ^ (a % 8)))).length = n4 := by rw [xors_len l2, HL4.out]
    have HXL := Lib.hid hxl
    clear l2 hxl
    by_cases hlt : k < 32 ∧ a + k < 8 * n4
    · have hb32 : decide ((k : Int) < 32) = true := by simp; omega
      have hb8 : decide ((a : Int) + (k : Int) < 8 * (n4 : Int)) = true := by simp; omega
      by_cases hbit : x.toNat / 2 ^ k % 2 = 1
      · have hby := bit_yes hbit
        have HBT := Lib.hid hbit
        clear hbit
        have hq : (a + k) / 8 < (xors b (zl n4 (a / 8) n4 (x.toNat % 2 ^ k * 2 ^ (a % 8)))).length := by rw [HXL.out]; omega
        have hcell := ho.cellAt hq
        have hfr := ho.frozenAt ((a + k) / 8)
        have hbyte : ((xors b (zl n4 (a / 8) n4 (x.toNat % 2 ^ k * 2 ^ (a % 8))))[(a + k) / 8]'hq).toNat < 256 := UInt8.toNat_lt _
        go_wp2_with fail
        have r2 : (((a : Int) + (k : Int)) / 8).toNat = (a + k) / 8 := by omega
        have r3 : ((a : Int) + (k : Int)) / 8 < (n4 : Int) := by omega
        have r4 : (0 : Int) ≤ ((a : Int) + (k : Int)) / 8 := by omega
        have r5 : (((a : Int) + (k : Int)) % 8).toNat = (a + k) % 8 := by omega
        have r6 : (0 : Int) ≤ ((a : Int) + (k : Int)) % 8 := by omega
        have d1 : wr.drew.cell? ⟨gb, (a + k) / 8, none⟩ = some (.int .u8 (((xors b (zl n4 (a / 8) n4 (x.toNat % 2 ^ k * 2 ^ (a % 8))))[(a + k) / 8]'hq).toNat : Int)) := hcell
        have d2 : wr.drew.frozen? ⟨gb, (a + k) / 8, none⟩ = false := hfr
        go_region
        all_goals
          go_wp2_with fail
          obtain ⟨hst, hgst⟩ := ho.stored ((a + k) / 8) (((xors b (zl n4 (a / 8) n4 (x.toNat % 2 ^ k * 2 ^ (a % 8))))[(a + k) / 8]'hq) ^^^ bitB ((a + k) % 8)) (Value.int IntKind.u8 (bits BinOp.xor IntKind.u8 (((xors b (zl n4 (a / 8) n4 (x.toNat % 2 ^ k * 2 ^ (a % 8))))[(a + k) / 8]'hq).toNat : Int) (2 ^ ((a + k) % 8) % 256))) (by rw [← bitB_int (Nat.mod_lt (a + k) (show 0 < 8 by omega)), xor8]; rfl)
          have hm : x.toNat % 2 ^ (k + 1) = x.toNat % 2 ^ k + 2 ^ k := by rw [mod_more, HBT.out, Nat.mul_one]
          have hmm : x.toNat % 2 ^ (k + 1) * 2 ^ (a % 8) = x.toNat % 2 ^ k * 2 ^ (a % 8) + 2 ^ (a % 8 + k) := by rw [hm, Nat.add_mul, ← Nat.pow_add, Nat.add_comm k]
          have hMl : x.toNat % 2 ^ k * 2 ^ (a % 8) < 2 ^ (a % 8 + k) := by
            rw [Nat.add_comm, Nat.pow_add]
            exact Nat.mul_lt_mul_of_pos_right (Nat.mod_lt _ (Nat.two_pow_pos k)) (Nat.two_pow_pos _)
          have hzt := zl_turn' (i := (a + k) / 8) (r := (a + k) % 8) HL4.out hMl (by omega) (by omega) (by omega) hq
          rw [← hmm] at hzt
          rw [← hzt] at hst
          refine ⟨⟨k + 1, by omega, by omega, by go_num, ?_, hst.below (Below.drew (Below.refl _ _)), (bl_grown hbl hgst (fun q hq => by cases hq; exact hgb')).drew⟩, by simp [intOf]; omega⟩
          have : x.toNat % 2 ^ (k + 1) ≠ 0 := by have := Nat.two_pow_pos k; omega
          simp [this]
      · have hbn := bit_no hbit
        have HBT := Lib.hid hbit
        clear hbit
        go_wp2_with fail
        have hm : x.toNat % 2 ^ (k + 1) = x.toNat % 2 ^ k := by
          have h0 : x.toNat / 2 ^ k % 2 = 0 := by have := HBT.out; omega
          rw [mod_more, h0]; simp
        refine ⟨⟨k + 1, by omega, by omega, by go_num, by rw [hm], by rw [hm]; exact ho, hbl⟩, by simp [intOf]; omega⟩
    · have hN : x.toNat % 2 ^ k < 4294967296 := Nat.lt_of_lt_of_le (Nat.mod_lt _ (Nat.two_pow_pos k)) (Nat.pow_le_pow_right (n := 2) (by omega) (show k ≤ 32 by omega))
      have hM : x.toNat % 2 ^ k * 2 ^ (a % 8) < 2 ^ (8 * n4 - 8 * (a / 8)) := by
        have h1 : x.toNat % 2 ^ k * 2 ^ (a % 8) < 2 ^ k * 2 ^ (a % 8) := Nat.mul_lt_mul_of_pos_right (Nat.mod_lt _ (Nat.two_pow_pos k)) (Nat.two_pow_pos _)
        rw [← Nat.pow_add] at h1
        exact Nat.lt_of_lt_of_le h1 (Nat.pow_le_pow_right (by omega) (by omega))
      have ht := turned_told HL4.out (show a / 8 ≤ n4 by omega) (Nat.mod_lt a (show 0 < 8 by omega)) hN hM HU.out
      have HT := Lib.hid ht
      clear ht hN hM
      have hr8 := ho.rd
      generalize hbb : xors b (zl n4 (a / 8) n4 (x.toNat % 2 ^ k * 2 ^ (a % 8))) = b' at *
      clear hbb ho
      by_cases hk32 : k < 32
      · have hb32 : decide ((k : Int) < 32) = true := by simp; omega
        have hb8 : decide ((a : Int) + (k : Int) < 8 * (n4 : Int)) = false := by simp; omega
        go_wp2_with fail
        refine (unpack_go HXL.out hr8 hnc4 (by simp only [maxLen]; omega)).mono ?_
        rintro e w8 ⟨v8, rfl, g8⟩
        go_wp2_with fail
        go_ret
        refine ⟨?_, bl_trans hbl g8⟩
        show Ending.returned (Value.bool (((((unpackE b').2.2 : Nat) : Int) == 0) == decide (x.toNat % 2 ^ k = 0))) = _
        rw [int_zero, HT.out]
        simp
      · have hb32 : decide ((k : Int) < 32) = false := by simp; omega
        go_wp2_with fail
        refine (unpack_go HXL.out hr8 hnc4 (by simp only [maxLen]; omega)).mono ?_
        rintro e w8 ⟨v8, rfl, g8⟩
        go_wp2_with fail
        go_ret
        refine ⟨?_, bl_trans hbl g8⟩
        show Ending.returned (Value.bool (((((unpackE b').2.2 : Nat) : Int) == 0) == decide (x.toNat % 2 ^ k = 0))) = _
        rw [int_zero, HT.out]
        simp

set_option maxRecDepth 100000 in
theorem PackTurned_holds : Rows.PackTurnedSaid :=
  OpenClaim.holds_of_wide 7 Try.f7 rfl rfl rfl rfl rfl rfl rfl ⟨rfl, rfl, rfl, rfl, rfl⟩ rfl rfl rfl rfl rfl (by kernel_rfl) Try.func7 (by kernel_rfl)
    (of_decide_eq_true (by kernel_rfl)) (by unfold Func.isWrapper; first | (rw [if_pos (by decide +kernel)]; kernel_rfl) | (rw [if_neg (by decide +kernel)]; exact ⟨rfl, rfl⟩))
    (fun os started H enc _ => law_lifted (s := Rows.packTurnedSpec) Try.func7 (by kernel_rfl) rfl
      (fun H ds h => by rw [Try.params7] at h; match ds, h with | [_, _, _], _ => rfl) (by kernel_rfl) (by kernel_rfl)
      os started H enc
      (ChangeSpec.witness6 (enc := enc) (C := Try.checked) false ⟨#[], #[.slice none 0 0, .int .i64 0, .int .u32 0], []⟩ 8 (by kernel_rfl) (by kernel_rfl) (by kernel_rfl) (by kernel_rfl))
      (fun W args ds p h => by
        obtain ⟨⟨base, hok⟩, hA, hl⟩ := h
        rw [Try.params7] at hok hA hl
        obtain ⟨v0, v1, v2, d0, d1, d2, p0, p1, p2, rfl, rfl, rfl, g0, g1, g2⟩ := trodAll_three hA
        obtain ⟨A0, n0, c0, l0, rfl, e0, a0, b0, r0⟩ := open_lists (hok 0 43 v0 rfl rfl) g0
        obtain ⟨n1, rfl, a1, b1⟩ := open_i64 (hok 1 3 v1 rfl rfl) g1
        obtain ⟨n2, rfl⟩ := open_u32 (hok 2 47 v2 rfl rfl) g2
        exact packTurned_any A0 n0 c0 n1 n2 l0 W e0 r0 a0 b0 a1 b1))

end Go.Proofs.Ytlblcligjelbgaa
