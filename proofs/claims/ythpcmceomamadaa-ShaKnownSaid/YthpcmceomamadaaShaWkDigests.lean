/- The walk of ShaDigests: the program's digest is the document's. No condition. -/
import Derived.Test.YthpcmceomamadaaShaOf
import Derived.Test.YthpcmceomamadaaShaOp
set_option linter.unusedVariables false
set_option linter.unusedSimpArgs false
namespace Go.Proofs.Ythpcmceomamadaa
open Go.ChangeShapes Go.WideShapes Go.ChangeAt Go.RowKit

theorem eq_yesD (A A' : Option Addr) (n c n' c' : Nat) (l : List UInt8) (w : World) (hl : l.length = n) (hl' : l.length = n') (hr : Rd w A l) (hr' : Rd w A' l) (hn : n ≤ maxLen) (hn' : n' ≤ maxLen) :
    Calls Try.prog 12 #[.slice A n c, .slice A' n' c'] w (GotBool w true) := by
  have h := eq_any A A' n c n' c' l l w hl hl' hr hr' hn hn'
  rw [decide_eq_true rfl] at h
  exact h

set_option maxHeartbeats 2000000 in
set_option maxRecDepth 100000 in
theorem digests_walk (A : Option Addr) (m c : Nat) (l : List UInt8) (w : World) (hl : l.length = m) (hmc : m ≤ c) (hcl : c ≤ 9223372036854775807) (hr : Rd w A l) :
    Calls Try.prog 6 #[.slice A m c] w (Yes w) := by
  obtain ⟨n, hn0, hk1, hk2, hmin⟩ := min_lit m 3000 3000 rfl
  have hlk : (l.take n).length = n := by rw [List.length_take]; omega
  have hrk := hr.take n
  generalize l.take n = l' at *
  have HL := Lib.hid hlk
  have HRk := Lib.hid hrk
  clear hl hlk hr hrk hn0
  go_enter Try.func6, Try.ntmps6
  go_wp2_with fail
  refine (copy_any A n c l' _ HL.out HRk.out (by omega)).mono ?_
  rintro e w1 ⟨v1, rfl, ho1, hb1⟩
  obtain ⟨A1, n1, c1, rfl, HL1, _, _, hr1⟩ := ho1.form
  have hn1 : n1 ≤ 3000 := by rw [← HL1.out, HL.out]; exact hk2
  have HR1 := Lib.hid hr1
  have HB1 := Lib.hid hb1
  clear ho1 hr1 hb1
  go_wp2_with fail
  refine (of_any A1 n1 c1 l' _ HL1.out HR1.out (by omega)).mono ?_
  rintro e w2 ⟨rfl, hb2⟩
  have HR2 := Lib.hid (HR1.out.below hb2)
  have HB2 := Lib.hid (bl_trans HB1.out hb2)
  obtain ⟨s, hs⟩ : ∃ s, stateE l' = s := ⟨_, rfl⟩
  rw [hs]
  have HS := Lib.hid hs
  clear hb2 hs HR1 HB1
  go_wp2_with fail
  refine (refOf_any A n c l' _ HL.out (HRk.out.below HB2.out) (by omega)).mono ?_
  rintro e w3 ⟨rfl, hb3⟩
  rw [HS.out]
  have HR3 := Lib.hid (HR2.out.below hb3)
  have HB3 := Lib.hid (bl_trans HB2.out hb3)
  have hsw := fun W => same_is (byteOf s) W
  clear hb3 HR2 HB2 HS
  go_wp2_with fail
  refine (eq_yesD A1 A n1 c1 n c l' _ HL1.out HL.out HR3.out (HRk.out.below HB3.out) (by simp only [maxLen]; omega) (by simp only [maxLen]; omega)).mono ?_
  rintro e w5 ⟨rfl, hb5⟩
  have HB5 := Lib.hid (bl_trans HB3.out hb5)
  clear hb5 HR3 HB3
  go_wp2_with fail
  refine (awake_any _).mono ?_
  rintro e w8 ⟨rfl, hb8⟩
  clear hsw hmin
  go_wp2
  go_ret
  exact ⟨rfl, bl_trans HB5.out hb8⟩

end Go.Proofs.Ythpcmceomamadaa
