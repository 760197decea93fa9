/- PackAgain: what can be unpacked is packed so. -/
import Derived.Test.YtlblcligjelbgaaPackG
import Derived.Test.YtlblcligjelbgaaRow
set_option linter.unusedVariables false
namespace Go.Proofs.Ytlblcligjelbgaa
open Go.ChangeShapes Go.WideShapes Go.ChangeAt Go.RowKit

set_option maxHeartbeats 2000000 in
set_option maxRecDepth 20000 in
theorem packAgain_any (A : Option Addr) (n c : Nat) (l : List UInt8) (w : World) (hl : l.length = n) (hr : Rd w A l) (hnc : n ≤ c) (hc : c ≤ 140737488351232) :
    Calls Try.prog 6 #[.slice A n c] w (Yes w) := by
  have HL := Lib.hid hl
  clear hl
  by_cases h0 : (unpackE l).2.2 = 0
  · have hp := pack_unpack h0
    obtain ⟨_, _, _, hsz, _, _⟩ := pack_ok hp
    have HU : Hid (unpackE l = ((unpackE l).1, (unpackE l).2.1, 0)) := by unfold Hid; rw [← h0]
    have hd : ∀ s ∈ (unpackE l).2.1, s.2.length ≤ 150000000000000 := fun s hs => by have := body_data hs; omega
    have HD := Lib.hid hd
    have HP := Lib.hid hp
    clear h0 hsz hd hp
    generalize (unpackE l).1 = k at *
    generalize (unpackE l).2.1 = ss at *
    go_enter Try.func6, Try.ntmps6
    go_wp2_with fail
    refine (works_any w).mono ?_
    rintro e w1 ⟨rfl, hb1⟩
    go_wp2_with fail
    refine (unpack_is HL.out (hr.below hb1) hnc (by simp only [maxLen]; omega) HU.out).mono ?_
    rintro e w2 ⟨vs, rs, rfl, hS, HR, hb2⟩
    obtain ⟨As, ns, cs, rfl, HLs, HLs', hncs, hcs, hrs⟩ := hS.rd
    rw [HR.out] at HLs hrs
    have hB2 := bl_trans hb1 hb2
    clear hb1 hb2 hS HR
    go_wp2_with fail
    refine (pack_is HLs.out hrs (by omega) HD.out HP.out).mono ?_
    rintro e w3 ⟨v3, rfl, ho3, hb3⟩
    obtain ⟨A3, n3, c3, rfl, HL3, hnc3, hc3, hr3⟩ := ho3.form
    have hB3 := bl_trans hB2 hb3
    go_wp2_with fail
    refine (eq_is (b := true) HL.out HL3.out (hr.below hB3) hr3 (by simp only [maxLen]; omega) (by omega) (by simp)).mono ?_
    rintro e w4 ⟨rfl, hb4⟩
    go_wp2_with fail
    go_ret
    exact ⟨rfl, bl_trans hB3 hb4⟩
  · have hu : unpackE l = (0, [], (unpackE l).2.2) := (unpack_err l).resolve_left h0
    generalize (unpackE l).2.2 = er at *
    have HU := Lib.hid hu
    have hbe : ((er : Int) != 0) = true := by simp; omega
    have hbe' : ((er : Int) == 0) = false := by simp; omega
    clear hu
    go_enter Try.func6, Try.ntmps6
    go_wp2_with fail
    refine (works_any w).mono ?_
    rintro e w1 ⟨rfl, hb1⟩
    go_wp2_with fail
    refine (unpack_is HL.out (hr.below hb1) hnc (by simp only [maxLen]; omega) HU.out).mono ?_
    rintro e w2 ⟨vs, rs, rfl, hS, HR, hb2⟩
    obtain ⟨As, ns, cs, rfl, HLs, HLs', hncs, hcs, hrs⟩ := hS.rd
    rw [HR.out] at HLs
    have hns : ns = 0 := HLs.out.symm
    subst hns
    go_wp2_with fail
    go_ret
    exact ⟨rfl, bl_trans hb1 hb2⟩

set_option maxRecDepth 100000 in
theorem PackAgain_holds : Rows.PackAgainSaid :=
  OpenClaim.holds_of_wide 6 Try.f6 rfl rfl rfl rfl rfl rfl rfl ⟨rfl, rfl, rfl, rfl, rfl⟩ rfl rfl rfl rfl rfl (by kernel_rfl) Try.func6 (by kernel_rfl)
    (of_decide_eq_true (by kernel_rfl)) (by unfold Func.isWrapper; first | (rw [if_pos (by decide +kernel)]; kernel_rfl) | (rw [if_neg (by decide +kernel)]; exact ⟨rfl, rfl⟩))
    (fun os started H enc _ => law_lifted (s := Rows.packAgainSpec) Try.func6 (by kernel_rfl) rfl
      (fun H ds h => by rw [Try.params6] at h; match ds, h with | [_], _ => rfl) (by kernel_rfl) (by kernel_rfl)
      os started H enc
      (ChangeSpec.witness6 (enc := enc) (C := Try.checked) false ⟨#[], #[.slice none 0 0], []⟩ 8 (by kernel_rfl) (by kernel_rfl) (by kernel_rfl) (by kernel_rfl))
      (fun W args ds p h => by
        obtain ⟨⟨base, hok⟩, hA, hl⟩ := h
        rw [Try.params6] at hok hA hl
        obtain ⟨v0, d0, rfl, rfl, g0⟩ := trodAll_one hA
        obtain ⟨A0, n0, c0, l0, rfl, e0, a0, b0, r0⟩ := open_bytes (hok 0 24 v0 rfl rfl) g0 (hl 0 24 d0 rfl rfl)
        exact packAgain_any A0 n0 c0 l0 W e0 r0 a0 b0))

end Go.Proofs.Ytlblcligjelbgaa
