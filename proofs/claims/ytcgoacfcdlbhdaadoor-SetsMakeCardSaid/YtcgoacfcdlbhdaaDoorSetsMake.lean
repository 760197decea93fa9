/- SetsMake: for all bytes and both ends the program's Of and Span answer as the document's do. Under: the table of math/bits that the row lists is as its initialiser lays it. -/
import Derived.Test.YtcgoacfcdlbhdaaDoorSetRow
import Derived.Test.YtcgoacfcdlbhdaaDoorSetH
set_option linter.unusedVariables false
set_option linter.unusedSimpArgs false
namespace Go.Proofs.YtcgoacfcdlbhdaaDoor
open Go.ChangeShapes Go.WideShapes Go.ChangeAt Go.RowKit

set_option maxHeartbeats 2000000 in
set_option maxRecDepth 20000 in
theorem make_walk (A : Option Addr) (n c : Nat) (s : List UInt8) (a b : Nat) (w : World) (hs : s.length = n) (hn : n ≤ 140737488351232) (hr : Rd w A s) (ha : a < 256) (hb : b < 256) (hT : Tab w) :
    Calls Tryd.prog 4 #[.slice A n c, .int .u8 (a : Int), .int .u8 (b : Int)] w (Yes w) := by
  have q1 := same_sets (Eq4.refl (allW nilW (natL s)))
  have q2 := same_sets (Eq4.refl (allW nilW (spanL a (b + 1 - a))))
  have HS := Lib.hid hs
  have HR := Lib.hid hr
  have HT := Lib.hid hT
  have HA := Lib.hid ha
  have HB := Lib.hid hb
  clear hs hr hT ha hb
  go_enter Tryd.func4, Tryd.ntmps4
  go_wp2_with fail
  refine (of_any A n c s HS.out hn _ HR.out).mono ?_
  rintro e w1 ⟨rfl, hb1⟩
  have B1 := Lib.hid hb1
  clear hb1
  go_wp2_with fail
  refine (refOf_any A n c s HS.out hn _ (HR.out.below B1.out)).mono ?_
  rintro e w2 ⟨rfl, hb2⟩
  have B2 := Lib.hid (bl_trans B1.out hb2)
  clear hb2 B1
  go_wp2_with fail
  refine (span_any a b HA.out HB.out _).mono ?_
  rintro e w3 ⟨rfl, hb3⟩
  have B3 := Lib.hid (bl_trans B2.out hb3)
  clear hb3 B2
  go_wp2_with fail
  refine (refSpan_any a b HA.out HB.out _).mono ?_
  rintro e w4 ⟨rfl, hb4⟩
  have B4 := Lib.hid (bl_trans B3.out hb4)
  clear hb4 B3
  go_wp2_with fail
  refine (works_any _ (HT.out.below B4.out)).mono ?_
  rintro e w5 ⟨rfl, hb5⟩
  have B5 := Lib.hid (bl_trans B4.out hb5)
  clear hb5 B4
  go_wp2
  go_ret
  exact ⟨rfl, B5.out⟩

theorem laid_met (os : Os) : laidMet Tryd.prog laidL ((laidWorld os).forCall (fun _ _ => 0) ⟨#[], #[.slice none 0 0, .int .u8 0, .int .u8 0], []⟩).memory :=
  laidMet_of_run' 8 (by kernel_rfl) (by kernel_rfl)
theorem reads (os : Os) {H : Type} (enc : TypeId × Value → H) : ∃ places, DataW.whole enc Tryd.prog ((laidWorld os).forCall (fun _ _ => 0) ⟨#[], #[.slice none 0 0, .int .u8 0, .int .u8 0], []⟩).memory Tryd.f4.params.toList Rows.setsMakeSpec.vars false (#[.slice none 0 0, .int .u8 0, .int .u8 0] : Array Value).toList 8 = some ([.nil, .lit (.int .u8 0), .lit (.int .u8 0)], [], places) :=
  ⟨[], by kernel_rfl⟩
set_option maxRecDepth 100000 in
theorem SetsMake_said : Rows.SetsMakeSaid :=
  OpenClaim.holds_of_cond 4 Tryd.f4 rfl rfl rfl rfl rfl rfl rfl ⟨rfl, rfl, rfl, rfl, rfl⟩ rfl rfl rfl rfl rfl (by kernel_rfl) Tryd.func4 (by kernel_rfl)
    (of_decide_eq_true (by kernel_rfl)) (by unfold Func.isWrapper; first | (rw [if_pos (by decide +kernel)]; kernel_rfl) | (rw [if_neg (by decide +kernel)]; exact ⟨rfl, rfl⟩))
    (fun os started H enc _ F => by
      rw [OpenClaim.pre_eq_preRow]
      obtain ⟨places, hx⟩ := reads os enc
      exact law_lifted_laid (s := Rows.setsMakeSpec) (conds := Rows.setsMakeRow.domain) Tryd.func4 (by kernel_rfl) rfl
        (fun H ds h => by rw [Tryd.params4] at h; match ds, h with | [_, _, _], _ => rfl) (by kernel_rfl) (by kernel_rfl) os started H enc F
        (witness_row_at (enc := enc) (C := Tryd.checked) false (laidWorld os) #[.slice none 0 0, .int .u8 0, .int .u8 0] rfl (by kernel_rfl) (by kernel_rfl) (by kernel_rfl)
          (OpenSpec.preRow_of_cond 8 hx (by kernel_rfl) (fun k hk => by cases hk) (by kernel_rfl) (laid_met os)))
        (fun W args ds p h hT => by
          obtain ⟨⟨base, hok⟩, hA, hl⟩ := h
          rw [Tryd.params4] at hok hA hl
          obtain ⟨v0, v1, v2, d0, d1, d2, p0, p1, p2, rfl, rfl, rfl, g0, g1, g2⟩ := trodAll_three hA
          obtain ⟨A0, n0, c0, l0, rfl, e0, a0, b0, r0⟩ := open_bytes (hok 0 30 v0 rfl rfl) g0 (hl 0 30 d0 rfl rfl)
          obtain ⟨n1, rfl, a1⟩ := open_u8 (hok 1 5 v1 rfl rfl) g1
          obtain ⟨n2, rfl, a2⟩ := open_u8 (hok 2 5 v2 rfl rfl) g2
          exact make_walk A0 n0 c0 l0 n1 n2 W e0 (by omega) r0 a1 a2 hT))

theorem plain_params (f : FuncId) (fn : Func) (hf : Tryd.pinned.checked.prog.funcNamed "incunable/incunablelaw08.SetsMake" = some f) (hfn : Tryd.pinned.checked.prog.funcs[f]? = some fn) :
    false = Tryd.pinned.checked.prog.looks [] ∧ ∀ (j : Nat) t, fn.params[j]? = some t → Tryd.pinned.checked.prog.wantsStandIn t = false := by
  obtain rfl : f = 4 := Option.some.inj ((show Tryd.prog.funcNamed "incunable/incunablelaw08.SetsMake" = some 4 by kernel_rfl).symm.trans hf) |>.symm
  obtain rfl : fn = Tryd.f4 := (Option.some.inj (Tryd.func4.symm.trans hfn)).symm
  refine ⟨by kernel_rfl, fun j t ht => ?_⟩
  rw [Tryd.params4] at ht
  have hm : t ∈ [30, 5, 5] := by simpa using Array.mem_of_getElem? ht
  have hall : ([30, 5, 5].all fun u => !Tryd.prog.wantsStandIn u) = true := by kernel_rfl
  exact (show Tryd.prog.wantsStandIn t = false by simpa using List.all_eq_true.1 hall t hm)

/-- The card. -/
theorem SetsMakeCard_holds : Rows.SetsMakeCardSaid :=
  Claim7.holds_tied_plain_at .later [] _ _ _ _ SetsMake_said (fun _ h => by cases h) (by kernel_rfl) (fun _ h => by cases h) setsMake_row_tie rfl ⟨rfl, rfl⟩ (by kernel_rfl) rfl plain_params (by kernel_rfl)

end Go.Proofs.YtcgoacfcdlbhdaaDoor

