/- PackReads: Size and Unpack answer as the chapter says, of all bytes; what is handed in stays, what is answered is memory of its own. -/
import Derived.Test.YtlblcligjelbgaaPackS
set_option linter.unusedVariables false
namespace Go.Proofs.Ytlblcligjelbgaa
open Go.ChangeShapes Go.WideShapes Go.ChangeAt Go.RowKit

theorem refSize_is {A : Option Addr} {n c : Nat} {l : List UInt8} {w : World} {z er : Nat} (hl : l.length = n) (hr : Rd w A l) (hnc : n ≤ c) (hc : c ≤ maxLen) (h : sizeE l = (z, er)) :
    Calls Try.prog 22 #[.slice A n c] w (GotSz w z er) := by
  have h' := refSize_any A n c l w hl hr hnc hc
  rw [h] at h'
  exact h'
theorem refUnpack_is {A : Option Addr} {n c : Nat} {l : List UInt8} {w : World} {k er : Nat} {ss : List Sec} (hl : l.length = n) (hr : Rd w A l) (hnc : n ≤ c) (hc : c ≤ maxLen) (h : unpackE l = (k, ss, er)) :
    Calls Try.prog 24 #[.slice A n c] w (GotPack w k ss er) := by
  have h' := refUnpack_any A n c l w hl hr hnc hc
  rw [h] at h'
  exact h'

set_option maxHeartbeats 2000000 in
set_option maxRecDepth 20000 in
theorem packReads_any (A : Option Addr) (n c : Nat) (l : List UInt8) (w : World) (hl : l.length = n) (hr : Rd w A l) (hnc : n ≤ c) (hc : c ≤ 140737488351232) :
    Calls Try.prog 4 #[.slice A n c] w (Yes w) := by
  have HL := Lib.hid hl
  clear hl
  obtain ⟨z, er, HZ⟩ : ∃ z er, Hid (sizeE l = (z, er)) := ⟨_, _, rfl⟩
  obtain ⟨k, ss, eu, HU⟩ : ∃ k ss eu, Hid (unpackE l = (k, ss, eu)) := ⟨_, _, _, rfl⟩
  have q1 : ((z : Int) != (z : Int)) = false := by simp
  have q2 : ((er : Int) != (er : Int)) = false := by simp
  have q3 : ((k : Int) != (k : Int)) = false := by simp
  have q4 : ((eu : Int) != (eu : Int)) = false := by simp
  go_enter Try.func4, Try.ntmps4
  go_wp2_with fail
  refine (copy_any A n c l w HL.out hr (by omega)).mono ?_
  rintro e w1 ⟨v1, rfl, ho1, g1⟩
  obtain ⟨A1, n1, c1, rfl, HL1, hnc1, hc1, hr1⟩ := ho1.form
  clear ho1
  go_wp2_with fail
  refine (size_is HL1.out hr1 hnc1 hc1 HZ.out).mono ?_
  rintro e w2 ⟨rfl, g2⟩
  have gB2 := bl_trans g1 g2
  have hr12 := hr1.below g2
  clear g1 g2 hr1
  go_wp2_with fail
  refine (refSize_is HL.out (hr.below gB2) hnc (by simp only [maxLen]; omega) HZ.out).mono ?_
  rintro e w3 ⟨rfl, g3⟩
  have gB3 := bl_trans gB2 g3
  have hr13 := hr12.below g3
  clear gB2 g3 hr12
  go_wp2_with fail
  refine (unpack_is HL1.out hr13 hnc1 hc1 HU.out).mono ?_
  rintro e w4 ⟨v4, rs, rfl, hS, HR, g4⟩
  obtain ⟨As, ns, cs, rfl, HLs, HLs', hncs, hcs, hrs⟩ := hS.rd
  rw [HR.out] at HLs hrs
  have gB4 := bl_trans gB3 g4
  go_wp2_with fail
  refine (refUnpack_is HL.out (hr.below gB4) hnc (by simp only [maxLen]; omega) HU.out).mono ?_
  rintro e w5 ⟨v5, rt, rfl, hT, HQ, g5⟩
  obtain ⟨At, nt, ct, rfl, HLt, HLt', hnct, hct, hrt⟩ := hT.rd
  rw [HQ.out] at HLt hrt
  have g35 := bl_trans g4 g5
  have hS5 := hS.below g5
  have hrs5 := hrs.below g5
  clear g4 g5 hrs hT hS gB4
  unfold maxLen at hcs
  go_wp2_with fail
  refine (same_yes As At ns cs nt ct ss _ HLs.out HLt.out hrs5 hrt (by simp only [maxLen]; omega)).mono ?_
  rintro e w6 ⟨rfl, g6⟩
  have g36 := bl_trans g35 g6
  have hS6 := hS5.below g6
  clear g6 g35 hS5 hrs5 hrt
  have HAP := Lib.hid (List.pairwise_iff_getElem.1 hS6.apart)
  go_wp2_with fail
  go_loopw [14] (fun i wr => ∃ j : Nat, j ≤ ns ∧ i = .int .i64 (j : Int) ∧ wr.ownsRow w3.heap.size 41 2 (.slice As ns cs) rs.length (rowCells rs) ∧ (∀ m (h : m < rs.length), j ≤ m → Own wr w3.heap.size rs[m].2 rs[m].1.2) ∧ Below w3.heap.size w3 wr) (fun i _ => ns - (intOf i).toNat)
  case atStart => exact ⟨0, Nat.zero_le _, rfl, hS6.row, fun m h _ => hS6.data _ (List.getElem_mem h), g36⟩
  case round =>
    clear hS6 g36
    obtain ⟨j, hj, rfl, hrow, hdata, hbl⟩ := hrel
    by_cases hlt : j < ns
    · have hj' : j < rs.length := by have := HLs'.out; omega
      obtain ⟨gr, hgr⟩ : ∃ gr, As = some ⟨gr, 0, none⟩ := by
        rcases hrow.2 with ⟨h1, h2⟩ | ⟨gq, cap, cur, h1, _⟩
        · omega
        · cases h1
          exact ⟨gq, rfl⟩
      subst hgr
      have hod := hdata j hj' (Nat.le_refl _)
      obtain ⟨Ad, nd, cd, ev, HLd, hncd, hcd, _⟩ := hod.form
      have hc2 := World.ownsRow.cells hrow (g := gr) rfl (j * 2 + 1) _ (rowCells_get rs j hj').2
      rw [ev] at hc2 hod
      have hc2' : wr.cell? ⟨gr, j * 2 + 1, none⟩ = some (.slice Ad nd cd) := by simpa [Addr.add] using hc2
      clear hc2
      go_wp2_with fail
      refine (spoil_any Ad nd cd w3.heap.size _ _ hod (by omega)).mono ?_
      rintro e w7 ⟨rfl, hg7⟩
      go_wp2_with fail
      refine ⟨⟨j + 1, by omega, by go_num, World.ownsRow.kept hrow hg7 (types_ne' hod hrow), fun m hm hjm => ?_, bl_grown hbl hg7 (fun q hq => (hod.lt q hq).1)⟩, by simp [intOf]; omega⟩
      refine (hdata m hm (by omega)).kept hg7 ?_
      have := HAP.out j m hj' hm (by omega)
      rw [ev] at this
      exact this
    · go_wp2_with fail
      have gBr := bl_trans gB3 hbl
      refine (eq_is (b := true) HL1.out HL.out (hr13.below hbl) (hr.below gBr) (by omega) (by simp only [maxLen]; omega) (by simp)).mono ?_
      rintro e w8 ⟨rfl, g8⟩
      go_wp2_with fail
      refine (works_any _).mono ?_
      rintro e w9 ⟨rfl, g9⟩
      go_wp2_with fail
      go_ret
      exact ⟨rfl, bl_trans gBr (bl_trans g8 g9)⟩

set_option maxRecDepth 100000 in
theorem PackReads_holds : Rows.PackReadsSaid :=
  OpenClaim.holds_of_wide 4 Try.f4 rfl rfl rfl rfl rfl rfl rfl ⟨rfl, rfl, rfl, rfl, rfl⟩ rfl rfl rfl rfl rfl (by kernel_rfl) Try.func4 (by kernel_rfl)
    (of_decide_eq_true (by kernel_rfl)) (by unfold Func.isWrapper; first | (rw [if_pos (by decide +kernel)]; kernel_rfl) | (rw [if_neg (by decide +kernel)]; exact ⟨rfl, rfl⟩))
    (fun os started H enc _ => law_lifted (s := Rows.packReadsSpec) Try.func4 (by kernel_rfl) rfl
      (fun H ds h => by rw [Try.params4] at h; match ds, h with | [_], _ => rfl) (by kernel_rfl) (by kernel_rfl)
      os started H enc
      (ChangeSpec.witness6 (enc := enc) (C := Try.checked) false ⟨#[], #[.slice none 0 0], []⟩ 8 (by kernel_rfl) (by kernel_rfl) (by kernel_rfl) (by kernel_rfl))
      (fun W args ds p h => by
        obtain ⟨⟨base, hok⟩, hA, hl⟩ := h
        rw [Try.params4] at hok hA hl
        obtain ⟨v0, d0, rfl, rfl, g0⟩ := trodAll_one hA
        obtain ⟨A0, n0, c0, l0, rfl, e0, a0, b0, r0⟩ := open_bytes (hok 0 24 v0 rfl rfl) g0 (hl 0 24 d0 rfl rfl)
        exact packReads_any A0 n0 c0 l0 W e0 r0 a0 b0))

end Go.Proofs.Ytlblcligjelbgaa
