/- PackMakes: Pack and Find answer as the chapter says, of all kinds, sections and tags; what is handed in stays, what is answered is memory of its own. -/
import Derived.Test.YtlblcligjelbgaaPackV
set_option linter.unusedVariables false
namespace Go.Proofs.Ytlblcligjelbgaa
open Go.ChangeShapes Go.WideShapes Go.ChangeAt Go.RowKit

theorem refPack_is {kind : Int} {A : Option Addr} {n c : Nat} {ss : List Sec} {w : World} {b : List UInt8} {er : Nat} (hl : ss.length = n) (hr : RdS w A ss) (hn : n ≤ maxLen) (hd : ∀ s ∈ ss, s.2.length ≤ 150000000000000) (h : packE kind ss = (b, er)) :
    Calls Try.prog 13 #[.int .i64 kind, .slice A n c] w (GotBytesE w b er) := by
  have h' := refPack_any kind A n c ss w hl hr hn hd
  rw [h] at h'
  exact h'

set_option maxHeartbeats 2000000 in
set_option maxRecDepth 20000 in
theorem packMakes_any (kind : Int) (A : Option Addr) (n c : Nat) (tag : Int) (ss : List Sec) (w : World) (hl : ss.length = n) (hr : RdS w A ss) (hnc : n ≤ c) (hc : c * 32 ≤ 140737488351232) (hd : ∀ s ∈ ss, s.2.length ≤ 150000000000000) :
    Calls Try.prog 3 #[.int .i64 kind, .slice A n c, .int .i64 tag] w (Yes w) := by
  have HL := Lib.hid hl
  have HD := Lib.hid hd
  clear hl hd
  obtain ⟨b, er, HP⟩ : ∃ b er, Hid (packE kind ss = (b, er)) := ⟨_, _, rfl⟩
  have HD2 : Hid (∀ s ∈ ss, s.2.length ≤ 200000000000000) := Lib.hid (fun s hs => by have := HD.out s hs; omega)
  have HFA := Lib.hid (fun (A : Option Addr) (n c : Nat) (w : World) (h1 : ss.length = n) (h2 : RdS w A ss) (h3 : n ≤ maxLen) => find_any A n c tag ss w h1 h2 h3 HD2.out)
  have HFB := Lib.hid (fun (A : Option Addr) (n c : Nat) (w : World) (h1 : ss.length = n) (h2 : RdS w A ss) (h3 : n ≤ maxLen) => refFind_any A n c tag ss w h1 h2 h3 HD2.out)
  generalize findE tag ss = o at *
  have q1 : ((er : Int) != (er : Int)) = false := by simp
  have q2 : (o.isSome != o.isSome) = false := by simp
  have q3 : (o.isSome == o.isSome) = true := by simp
  go_enter Try.func3, Try.ntmps3
  go_wp2_with fail
  refine (refCopy_any A n c ss w HL.out hr (by omega) HD.out).mono ?_
  rintro e w1 ⟨v1, rs, rfl, hS, HR, g1⟩
  obtain ⟨As, ns, cs, rfl, HLs, HLs', hncs, hcs, hrs⟩ := hS.rd
  rw [HR.out] at HLs hrs
  clear hS HR
  have hr1 := hr.below g1
  go_wp2_with fail
  refine (pack_is HLs.out hrs (by omega) HD.out HP.out).mono ?_
  rintro e w2 ⟨v2, rfl, ho2, g2⟩
  obtain ⟨A2, n2, c2, rfl, HL2, hnc2, hc2, hr2⟩ := ho2.form
  go_wp2_with fail
  refine (refPack_is HL.out (hr1.below g2) (by simp only [maxLen]; omega) HD.out HP.out).mono ?_
  rintro e w3 ⟨v3, rfl, ho3, g3⟩
  obtain ⟨A3, n3, c3, rfl, HL3, hnc3, hc3, hr3⟩ := ho3.form
  have g13 := bl_trans g2 g3
  have ho23 := ho2.below g3
  clear g2 g3 ho2 hr2 ho3
  go_wp2_with fail
  refine (HFA.out As ns cs _ HLs.out (hrs.below g13) (by omega)).mono ?_
  rintro e w4 ⟨v4, rfl, ho4, g4⟩
  obtain ⟨A4, n4, c4, rfl, HL4, hnc4, hc4, hr4⟩ := ho4.form
  have hap2 := own_apart' ho23 ho4 (Nat.le_refl _)
  have g14 := bl_trans g13 g4
  have ho24 := ho23.below g4
  have hr34 := hr3.below g4
  clear g4 ho23 hr3
  go_wp2_with fail
  refine (HFB.out A n c _ HL.out (hr1.below g14) (by simp only [maxLen]; omega)).mono ?_
  rintro e w5 ⟨v5, rfl, ho5, g5⟩
  obtain ⟨A5, n5, c5, rfl, HL5, hnc5, hc5, hr5⟩ := ho5.form
  have g15 := bl_trans g14 g5
  have ho25 := ho24.below g5
  have ho45 := ho4.below g5
  have hr35 := hr34.below g5
  have hs13 := g13.size
  clear g5 ho24 ho4 hr34 ho5 g14 hr4
  go_wp2_with fail
  refine (eq_is (b := true) HL2.out HL3.out ho25.rd hr35 (by omega) (by omega) (by simp)).mono ?_
  rintro e w6 ⟨rfl, g6⟩
  have g16 := bl_trans g15 g6
  have ho26 := ho25.below g6
  have ho46 := ho45.below g6
  have hr56 := hr5.below g6
  clear g6 ho25 ho45 hr5 hr35 g15
  go_wp2_with fail
  refine (eq_is (b := true) HL4.out HL5.out ho46.rd hr56 (by omega) (by omega) (by simp)).mono ?_
  rintro e w7 ⟨rfl, g7⟩
  have g17 := bl_trans g16 g7
  have ho27 := ho26.below g7
  have ho47 := ho46.below g7
  clear g7 ho26 ho46 hr56 g16
  go_wp2_with fail
  refine (spoil_any A2 n2 c2 w1.heap.size _ _ ho27 (by omega)).mono ?_
  rintro e w8 ⟨rfl, hg8⟩
  have g18 : Below w1.heap.size w1 w8 := bl_grown g17 hg8 (fun k hk => (ho27.lt k hk).1)
  have ho48 := ho47.kept hg8 hap2
  clear hg8 g17 ho27 ho47
  go_wp2_with fail
  refine (spoil_any A4 n4 c4 w3.heap.size _ _ ho48 (by omega)).mono ?_
  rintro e w9 ⟨rfl, hg9⟩
  have g19 : Below w1.heap.size w1 w9 := bl_grown g18 hg9 (fun k hk => by have := (ho48.lt k hk).1; omega)
  clear hg9 g18 ho48
  go_wp2_with fail
  refine (same_yes As A ns cs n c ss _ HLs.out HL.out (hrs.below g19) (hr1.below g19) (by omega)).mono ?_
  rintro e wA ⟨rfl, gA⟩
  go_wp2_with fail
  refine (works_any _).mono ?_
  rintro e wB ⟨rfl, gB⟩
  go_wp2_with fail
  go_ret
  exact ⟨rfl, bl_trans g1 (bl_trans g19 (bl_trans gA gB))⟩

set_option maxRecDepth 100000 in
theorem PackMakes_holds : Rows.PackMakesSaid :=
  OpenClaim.holds_of_wide 3 Try.f3 rfl rfl rfl rfl rfl rfl rfl ⟨rfl, rfl, rfl, rfl, rfl⟩ rfl rfl rfl rfl rfl (by kernel_rfl) Try.func3 (by kernel_rfl)
    (of_decide_eq_true (by kernel_rfl)) (by unfold Func.isWrapper; first | (rw [if_pos (by decide +kernel)]; kernel_rfl) | (rw [if_neg (by decide +kernel)]; exact ⟨rfl, rfl⟩))
    (fun os started H enc _ => law_lifted (s := Rows.packMakesSpec) Try.func3 (by kernel_rfl) rfl
      (fun H ds h => by rw [Try.params3] at h; match ds, h with | [_, _, _], _ => rfl) (by kernel_rfl) (by kernel_rfl)
      os started H enc
      (ChangeSpec.witness6 (enc := enc) (C := Try.checked) false ⟨#[], #[.int .i64 0, .slice none 0 0, .int .i64 0], []⟩ 8 (by kernel_rfl) (by kernel_rfl) (by kernel_rfl) (by kernel_rfl))
      (fun W args ds p h => by
        obtain ⟨⟨base, hok⟩, hA, hl⟩ := h
        rw [Try.params3] at hok hA hl
        obtain ⟨v0, v1, v2, d0, d1, d2, p0, p1, p2, rfl, rfl, rfl, g0, g1, g2⟩ := trodAll_three hA
        obtain ⟨n0, rfl, a0, b0⟩ := open_i64 (hok 0 3 v0 rfl rfl) g0
        obtain ⟨A1, n1, c1, l1, rfl, e1, a1, b1, r1, s1⟩ := open_secs (hok 1 22 v1 rfl rfl) g1 (hl 1 22 d1 rfl rfl)
        obtain ⟨n2, rfl, a2, b2⟩ := open_i64 (hok 2 3 v2 rfl rfl) g2
        exact packMakes_any n0 A1 n1 c1 n2 l1 W e1 r1 a1 b1 s1))

end Go.Proofs.Ytlblcligjelbgaa
