/- The walk of ShaPads: the program's Pad and Begin are the document's. No condition. -/
import Derived.Test.YthpcmceomamadaaShaPe
import Derived.Test.YthpcmceomamadaaShaOp
import Derived.Test.YthpcmceomamadaaShaCh
set_option linter.unusedVariables false
set_option linter.unusedSimpArgs false
namespace Go.Proofs.Ythpcmceomamadaa
open Go.ChangeShapes Go.WideShapes Go.ChangeAt Go.RowKit

theorem eq_yes (A A' : Option Addr) (n c n' c' : Nat) (l : List UInt8) (w : World) (hl : l.length = n) (hl' : l.length = n') (hr : Rd w A l) (hr' : Rd w A' l) (hn : n ≤ maxLen) (hn' : n' ≤ maxLen) :
    Calls Try.prog 12 #[.slice A n c, .slice A' n' c'] w (GotBool w true) := by
  have h := eq_any A A' n c n' c' l l w hl hl' hr hr' hn hn'
  rw [decide_eq_true rfl] at h
  exact h

set_option maxHeartbeats 2000000 in
set_option maxRecDepth 100000 in
theorem pads_walk (A : Option Addr) (m c : Nat) (l : List UInt8) (w : World) (hl : l.length = m) (hmc : m ≤ c) (hcl : c ≤ 9223372036854775807) (hr : Rd w A l) :
    Calls Try.prog 4 #[.slice A m c] w (Yes w) := by
  obtain ⟨n, hn0, hk1, hk2, hmin⟩ := min_lit m 5000 5000 rfl
  have hlk : (l.take n).length = n := by rw [List.length_take]; omega
  have hrk := hr.take n
  generalize l.take n = l' at *
  have HL := Lib.hid hlk
  have HRk := Lib.hid hrk
  have hsw := fun W => same_words hW W
  clear hl hlk hr hrk hn0
  go_enter Try.func4, Try.ntmps4
  go_wp2_with fail
  refine (copy_any A n c l' _ HL.out HRk.out (by omega)).mono ?_
  rintro e w1 ⟨v1, rfl, ho1, hb1⟩
  obtain ⟨A1, n1, c1, rfl, HL1, _, _, hr1⟩ := ho1.form
  have hn1 : n1 ≤ 5000 := by rw [← HL1.out, HL.out]; exact hk2
  have HR1 := Lib.hid hr1
  have HB1 := Lib.hid hb1
  clear ho1 hr1 hb1
  go_wp2_with fail
  refine (pad_any A1 n1 c1 l' _ HL1.out HR1.out hn1).mono ?_
  rintro e w2 ⟨v2, rfl, ho2, hb2⟩
  obtain ⟨A2, n2, c2, rfl, HL2, _, _, hr2⟩ := ho2.form
  have hn2 : n2 ≤ 6000 := by have h := padN_room l'.length; rw [← HL2.out, padE_len]; have := HL.out; omega
  have HR2 := Lib.hid hr2
  have HR1' := Lib.hid (HR1.out.below hb2)
  have HB2 := Lib.hid (bl_trans HB1.out hb2)
  clear ho2 hr2 hb2 HR1 HB1
  go_wp2_with fail
  refine (refPad_any A n c l' _ HL.out (HRk.out.below HB2.out) hk2).mono ?_
  rintro e w3 ⟨v3, rfl, ho3, hb3⟩
  obtain ⟨A3, n3, c3, rfl, HL3, _, _, hr3⟩ := ho3.form
  have hn3 : n3 ≤ 6000 := by rw [← HL3.out, HL2.out]; exact hn2
  have HR3 := Lib.hid hr3
  have HR2' := Lib.hid (HR2.out.below hb3)
  have HR1'' := Lib.hid (HR1'.out.below hb3)
  have HB3 := Lib.hid (bl_trans HB2.out hb3)
  clear ho3 hr3 hb3 HR2 HR1' HB2
  go_wp2_with fail
  refine (eq_yes A2 A3 n2 c2 n3 c3 (padE l') _ HL2.out HL3.out HR2'.out HR3.out (by simp only [maxLen]; omega) (by simp only [maxLen]; omega)).mono ?_
  rintro e w4 ⟨rfl, hb4⟩
  have HR1a := Lib.hid (HR1''.out.below hb4)
  have HB4 := Lib.hid (bl_trans HB3.out hb4)
  clear hb4 HR2' HR3 HR1'' HB3
  go_wp2_with fail
  refine (eq_yes A1 A n1 c1 n c l' _ HL1.out HL.out HR1a.out (HRk.out.below HB4.out) (by simp only [maxLen]; omega) (by simp only [maxLen]; omega)).mono ?_
  rintro e w5 ⟨rfl, hb5⟩
  have HB5 := Lib.hid (bl_trans HB4.out hb5)
  clear hb5 HR1a HB4
  go_wp2_with fail
  refine (begin_f _).mono ?_
  rintro e w6 ⟨rfl, hb6⟩
  have HB6 := Lib.hid (bl_trans HB5.out hb6)
  clear hb6 HB5
  go_wp2_with fail
  refine (refBegin_any _).mono ?_
  rintro e w7 ⟨rfl, hb7⟩
  have HB7 := Lib.hid (bl_trans HB6.out hb7)
  clear hb7 HB6
  go_wp2_with fail
  refine (awake_any _).mono ?_
  rintro e w8 ⟨rfl, hb8⟩
  clear hsw hmin
  go_wp2
  go_ret
  exact ⟨rfl, bl_trans HB7.out hb8⟩

end Go.Proofs.Ythpcmceomamadaa
