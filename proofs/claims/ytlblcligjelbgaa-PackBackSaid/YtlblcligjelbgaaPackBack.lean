/- PackBack: what was packed is unpacked as it was. -/
import Derived.Test.YtlblcligjelbgaaPackI
set_option linter.unusedVariables false
namespace Go.Proofs.Ytlblcligjelbgaa
open Go.ChangeShapes Go.WideShapes Go.ChangeAt Go.RowKit

set_option maxHeartbeats 2000000 in
set_option maxRecDepth 20000 in
theorem packBack_any (kind : Int) (A : Option Addr) (n c : Nat) (ll : List (List UInt8)) (w : World) (h1 : -9223372036854775808 ≤ kind) (h2 : kind ≤ 9223372036854775807) (hl : ll.length = n) (hr : RdC w A ll) (hnc : n ≤ c) (hc : c ≤ maxLen) :
    Calls Try.prog 5 #[.int .i64 kind, .slice A n c] w (Yes w) := by
  have HL := Lib.hid hl
  clear hl
  obtain ⟨j, hj, HJ⟩ := bring_to kind 256 256 rfl h1 h2 (by omega) (by omega)
  obtain ⟨b, hp, hb1, hb2⟩ := made_ok ll (j : Int) (by omega) (by omega)
  have hu := unpack_pack hp
  have hz := size_cut hp []
  rw [List.append_nil] at hz
  rw [Int.toNat_natCast] at hu
  have HP := Lib.hid hp
  have HU := Lib.hid hu
  have HZ := Lib.hid hz
  have HD := Lib.hid (made_small ll)
  clear hp hu hz
  have HMA := Lib.hid (fun (W : World) (hb : Below w.heap.size w W) => made_any A n c ll W HL.out (hr.below hb) (by omega))
  generalize madeE ll = ss at *
  go_enter Try.func5, Try.ntmps5
  go_wp2_with fail
  refine (works_any w).mono ?_
  rintro e w1 ⟨rfl, g1⟩
  go_wp2_with fail
  refine (HMA.out _ g1).mono ?_
  rintro e w2 ⟨A2, n2, c2, rfl, HL2, hnc2, hc2, hr2, g2⟩
  have gB2 := bl_trans g1 g2
  clear g1 g2 HMA hr
  go_wp2_with fail
  refine (HJ.out _).mono ?_
  rintro e w3 ⟨rfl, rfl⟩
  go_wp2_with fail
  refine (pack_is HL2.out hr2 (by omega) HD.out HP.out).mono ?_
  rintro e w4 ⟨v4, rfl, ho4, g4⟩
  obtain ⟨A4, n4, c4, rfl, HL4, hnc4, hc4, hr4⟩ := ho4.form
  rw [HL4.out] at HZ
  have hr24 := hr2.below g4
  have gB4 := bl_trans gB2 g4
  clear g4 gB2 hr2 ho4
  go_wp2_with fail
  refine (unpack_is HL4.out hr4 hnc4 hc4 HU.out).mono ?_
  rintro e w5 ⟨v5, rs, rfl, hS, HR, g5⟩
  obtain ⟨As, ns, cs, rfl, HLs, HLs', hncs, hcs, hrs⟩ := hS.rd
  rw [HR.out] at HLs hrs
  have hr25 := hr24.below g5
  have hr45 := hr4.below g5
  have gB5 := bl_trans gB4 g5
  clear g5 gB4 hr24 hr4 hS
  go_wp2_with fail
  refine (size_is HL4.out hr45 hnc4 hc4 HZ.out).mono ?_
  rintro e w6 ⟨rfl, g6⟩
  have hr26 := hr25.below g6
  have hrs6 := hrs.below g6
  have gB6 := bl_trans gB5 g6
  have hbj : ((j : Int) == (j : Int)) = true := by simp
  have hbn : ((n4 : Int) == (n4 : Int)) = true := by simp
  clear g6 gB5 hr25 hrs hr45
  go_wp2_with fail
  refine (HJ.out _).mono ?_
  rintro e w7 ⟨rfl, rfl⟩
  go_wp2_with fail
  refine (same_yes A2 As n2 c2 ns cs ss _ HL2.out HLs.out hr26 hrs6 (by omega)).mono ?_
  rintro e w8 ⟨rfl, g8⟩
  go_wp2_with fail
  go_ret
  exact ⟨rfl, bl_trans gB6 g8⟩

set_option maxRecDepth 100000 in
theorem PackBack_holds : Rows.PackBackSaid :=
  OpenClaim.holds_of_wide 5 Try.f5 rfl rfl rfl rfl rfl rfl rfl ⟨rfl, rfl, rfl, rfl, rfl⟩ rfl rfl rfl rfl rfl (by kernel_rfl) Try.func5 (by kernel_rfl)
    (of_decide_eq_true (by kernel_rfl)) (by unfold Func.isWrapper; first | (rw [if_pos (by decide +kernel)]; kernel_rfl) | (rw [if_neg (by decide +kernel)]; exact ⟨rfl, rfl⟩))
    (fun os started H enc _ => law_lifted (s := Rows.packBackSpec) Try.func5 (by kernel_rfl) rfl
      (fun H ds h => by rw [Try.params5] at h; match ds, h with | [_, _], _ => rfl) (by kernel_rfl) (by kernel_rfl)
      os started H enc
      (ChangeSpec.witness6 (enc := enc) (C := Try.checked) false ⟨#[], #[.int .i64 0, .slice none 0 0], []⟩ 8 (by kernel_rfl) (by kernel_rfl) (by kernel_rfl) (by kernel_rfl))
      (fun W args ds p h => by
        obtain ⟨⟨base, hok⟩, hA, hl⟩ := h
        rw [Try.params5] at hok hA hl
        obtain ⟨v0, v1, d0, d1, p0, p1, rfl, rfl, rfl, g0, g1⟩ := trodAll_two hA
        obtain ⟨n0, rfl, a0, b0⟩ := open_i64 (hok 0 3 v0 rfl rfl) g0
        obtain ⟨A1, n1, c1, l1, rfl, e1, a1, b1, r1⟩ := open_lists (hok 1 43 v1 rfl rfl) g1
        exact packBack_any n0 A1 n1 c1 l1 W a0 b0 e1 r1 a1 b1))

end Go.Proofs.Ytlblcligjelbgaa
