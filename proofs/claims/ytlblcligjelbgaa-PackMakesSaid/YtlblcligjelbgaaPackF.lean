/- Unpack of package pack: a contract over the translated program. -/
import Derived.Test.YtlblcligjelbgaaPackE
import Derived.Test.YtlblcligjelbgaaWalkF
set_option linter.unusedVariables false
namespace Go.Proofs.Ytlblcligjelbgaa
open Go.RowKit

/-- A kind, sections, and an error's number. -/
def GotPack (w : World) (k : Nat) (ss : List Sec) (er : Nat) (e : Ending) (w' : World) : Prop :=
  ∃ v rs, e = .returned (.tuple #[.int .i64 (k : Int), v, .int .i64 (er : Int)]) ∧ OwnS w' w.heap.size v rs ∧ Hid (rowsOf rs = ss) ∧ Below w.heap.size w w'

theorem size_facts (l : List UInt8) : ((sizeE l).2 = 0 ∧ 11 ≤ (sizeE l).1 ∧ (sizeE l).1 ≤ 262144) ∨ ((sizeE l).1 = 0 ∧ 0 < (sizeE l).2 ∧ (sizeE l).2 ≤ 5) := by
  unfold sizeE
  repeat' split
  all_goals simp
  all_goals omega

theorem equal_is {A A' : Option Addr} {n c n' c' : Nat} {l l' : List UInt8} {w : World} {b : Bool} (hl : l.length = n) (hl' : l'.length = n') (hr : Rd w A l) (hr' : Rd w A' l') (h : decide (l = l') = b) :
    Calls Try.prog 40 #[.slice A n c, .slice A' n' c'] w fun e w' => e = .returned (.bool b) ∧ w' = w := h ▸ equal_any A A' n c n' c' l l' w hl hl' hr hr'

set_option maxHeartbeats 2000000 in
set_option maxRecDepth 20000 in
theorem unpack_any (A : Option Addr) (n c : Nat) (l : List UInt8) (w : World) (hl : l.length = n) (hr : Rd w A l) (hnc : n ≤ c) (hc : c ≤ maxLen) :
    Calls Try.prog 23 #[.slice A n c] w (GotPack w (unpackE l).1 (unpackE l).2.1 (unpackE l).2.2) := by
  have HL := Lib.hid hl
  have HU : Hid (unpackE l = _) := Lib.hid (unpackE.eq_1 l)
  rw [hl] at HU
  clear hl
  have HZ := Lib.hid (size_any A n c l w HL.out hr hnc hc)
  have hsf := size_facts l
  generalize sizeE l = zz at *
  obtain ⟨z, er⟩ := zz
  dsimp only at HU HZ hsf
  unfold maxLen at hc
  rcases hsf with ⟨rfl, hz1, hz2⟩ | ⟨rfl, he1, he2⟩
  · rw [if_neg (by simp)] at HU
    by_cases h1 : n < z
    · rw [if_pos h1] at HU
      go_enter Try.func23, Try.ntmps23
      go_wp2_with fail
      refine (HZ.out).mono ?_
      rintro e w1 ⟨rfl, hb1⟩
      go_wp2_with fail
      go_ret3
      rw [HU.out]
      exact ⟨_, [], rfl, OwnS.nil _ _, rfl, hb1⟩
    · rw [if_neg h1] at HU
      by_cases h2 : z < n
      · rw [if_pos h2] at HU
        go_enter Try.func23, Try.ntmps23
        go_wp2_with fail
        refine (HZ.out).mono ?_
        rintro e w1 ⟨rfl, hb1⟩
        go_wp2_with fail
        go_ret3
        rw [HU.out]
        exact ⟨_, [], rfl, OwnS.nil _ _, rfl, hb1⟩
      · rw [if_neg h2] at HU
        obtain rfl : z = n := by omega
        have HLt : Hid ((l.take (z - 4)).length = z - 4) := by unfold Hid; rw [List.length_take, HL.out]; omega
        have hcut : ∀ W : World, (Instr.slice 24 (.slice A z c) none (some (.int .i64 ((z : Int) - 4))) none).run Try.prog W = .ok (.slice A (z - 4) c) W := fun W => by
          obtain ⟨i, hi, _, hs1, _⟩ := info_parts info_u8
          have he : Try.prog.elem 24 = 5 := by kernel_rfl
          rw [run_slice_h W 24 A z c (by rw [he]; exact Try.underlying24) .i64 ((z : Int) - 4) (by omega) (by omega)]
          have e : ((z : Int) - 4).toNat = z - 4 := by omega
          simp [sizeOf, typeInfo, he, hi, hs1, sliced, Result.andThen, e]
          intro _
          cases A <;> simp [Addr.add]
        by_cases h3 : sealE (l.take (z - 4)) = l
        · have HB := Lib.hid (show decide (sealE (l.take (z - 4)) = l) = true by simp [h3])
          rw [if_neg (by simpa using h3)] at HU
          have H3 := Lib.hid h3
          clear h3
          obtain ⟨A7, hcut7, hr7⟩ := cut_from A (z - 4) c 7 (l.take (z - 4)) w HLt.out (hr.take (z - 4)) (by omega) (by omega)
          have hcut7' : ∀ W : World, (Instr.slice 24 (.slice A (z - 4) c) (some (.int .i64 7)) none none).run Try.prog W = .ok (.slice A7 (z - 4 - 7) (c - 7)) W := hcut7
          clear hcut7
          have HL7 : Hid (((l.take (z - 4)).drop 7).length = z - 4 - 7) := by unfold Hid; rw [List.length_drop, HLt.out]
          obtain ⟨ad, rfl, hc6⟩ := hr.cell (k := 6) (by have := HL.out; omega)
          have H6 : Hid (l.getD 6 0 = l[6]'(by have := HL.out; omega)) := getD_of _
          have hb6 : (l[6]'(by have := HL.out; omega)).toNat < 256 := UInt8.toNat_lt _
          rcases hs : secsE 0 ((l.take (z - 4)).drop 7) with _ | ss
          · rw [hs] at HU
            have HS := Lib.hid hs
            clear hs
            go_enter Try.func23, Try.ntmps23
            go_wp2_with fail
            refine (HZ.out).mono ?_
            rintro e w1 ⟨rfl, hb1⟩
            go_wp2_with fail
            refine (sealed_any (some ad) (z - 4) c _ _ HLt.out ((hr.take _).below hb1) (by omega) (by omega)).mono ?_
            rintro e w2 ⟨v2, rfl, ho2, hb2⟩
            obtain ⟨A2, n2, c2, rfl, HL2, _, _, hr2⟩ := ho2.form
            have hB2 := bl_trans hb1 hb2
            go_wp2_with fail
            refine (equal_is HL2.out HL.out hr2 (hr.below hB2) HB.out).mono ?_
            rintro e w3 ⟨rfl, rfl⟩
            go_wp2_with fail
            refine (sections_any A7 (z - 4 - 7) (c - 7) _ _ HL7.out (hr7.below hB2) (by omega) (by simp only [maxLen]; omega) (by omega)).mono ?_
            rintro e w4 ⟨v, rs, rfl, hS, HR, hb4⟩
            rw [HS.out]
            go_wp2_with fail
            go_ret3
            rw [HU.out]
            exact ⟨_, [], rfl, OwnS.nil _ _, rfl, bl_trans hB2 hb4⟩
          · rw [hs] at HU
            have HS := Lib.hid hs
            clear hs
            go_enter Try.func23, Try.ntmps23
            go_wp2_with fail
            refine (HZ.out).mono ?_
            rintro e w1 ⟨rfl, hb1⟩
            go_wp2_with fail
            refine (sealed_any (some ad) (z - 4) c _ _ HLt.out ((hr.take _).below hb1) (by omega) (by omega)).mono ?_
            rintro e w2 ⟨v2, rfl, ho2, hb2⟩
            obtain ⟨A2, n2, c2, rfl, HL2, _, _, hr2⟩ := ho2.form
            have hB2 := bl_trans hb1 hb2
            go_wp2_with fail
            refine (equal_is HL2.out HL.out hr2 (hr.below hB2) HB.out).mono ?_
            rintro e w3 ⟨rfl, rfl⟩
            go_wp2_with fail
            refine (sections_any A7 (z - 4 - 7) (c - 7) _ _ HL7.out (hr7.below hB2) (by omega) (by simp only [maxLen]; omega) (by omega)).mono ?_
            rintro e w4 ⟨v, rs, rfl, hS, HR, hb4⟩
            rw [HS.out] at HR ⊢
            have hB4 := bl_trans hB2 hb4
            have hc64 := (hB4.cell (World.block_lt_of_cell? _ _ hc6)).trans hc6
            have hc64' : w4.cell? ⟨ad.block, ad.off + 6, none⟩ = some (.int .u8 ((l[6]'(by have := HL.out; omega)).toNat : Int)) := by simpa [Addr.add] using hc64
            go_wp2_with fail
            go_ret3
            rw [HU.out, H6.out]
            exact ⟨v, rs, rfl, hS.lower hB2.size, by simpa using HR, hB4⟩
        · have HB := Lib.hid (show decide (sealE (l.take (z - 4)) = l) = false by simp [h3])
          rw [if_pos (by simpa using h3)] at HU
          clear h3
          go_enter Try.func23, Try.ntmps23
          go_wp2_with fail
          refine (HZ.out).mono ?_
          rintro e w1 ⟨rfl, hb1⟩
          go_wp2_with fail
          refine (sealed_any A (z - 4) c _ _ HLt.out ((hr.take _).below hb1) (by omega) (by omega)).mono ?_
          rintro e w2 ⟨v2, rfl, ho2, hb2⟩
          obtain ⟨A2, n2, c2, rfl, HL2, _, _, hr2⟩ := ho2.form
          have hB2 := bl_trans hb1 hb2
          go_wp2_with fail
          refine (equal_is HL2.out HL.out hr2 (hr.below hB2) HB.out).mono ?_
          rintro e w3 ⟨rfl, rfl⟩
          go_wp2_with fail
          go_ret3
          rw [HU.out]
          exact ⟨_, [], rfl, OwnS.nil _ _, rfl, hB2⟩
  · rw [if_pos (by omega)] at HU
    have hbe : ((er : Int) != 0) = true := by simp; omega
    have hbe' : ((er : Int) == 0) = false := by simp; omega
    go_enter Try.func23, Try.ntmps23
    go_wp2_with fail
    refine (HZ.out).mono ?_
    rintro e w1 ⟨rfl, hb1⟩
    go_wp2_with fail
    go_ret3
    rw [HU.out]
    exact ⟨_, [], rfl, OwnS.nil _ _, rfl, hb1⟩

end Go.Proofs.Ytlblcligjelbgaa
