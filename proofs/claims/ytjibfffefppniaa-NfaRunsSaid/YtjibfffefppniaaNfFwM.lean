/- The law's few: few patterns, of few nodes, that may be. -/
import Derived.Test.YtjibfffefppniaaNfCmM
import Derived.BigQuiet
set_option linter.unusedVariables false
set_option linter.unusedSimpArgs false
namespace Go.Proofs.Ytjibfffefppniaa
open Go.RowKit
attribute [local go_sem] Oper.semAt_some

def fewP (l : List RN) : Bool := decide (l.length ≤ 60) && decide (checkE l = 0)
def fewE (Ls : List (List RN)) : Bool := decide (Ls.length ≤ 6) && Ls.all fewP
theorem few_true {Ls : List (List RN)} (h : fewE Ls = true) : Ls.length ≤ 6 ∧ ∀ l ∈ Ls, l.length ≤ 60 ∧ checkE l = 0 := by
  unfold fewE at h
  rw [Bool.and_eq_true, decide_eq_true_iff, List.all_eq_true] at h
  refine ⟨h.1, fun l hl => ?_⟩
  have := h.2 l hl
  unfold fewP at this
  rwa [Bool.and_eq_true, decide_eq_true_iff, decide_eq_true_iff] at this
set_option maxHeartbeats 4000000 in
set_option maxRecDepth 20000 in
theorem few_any (Ls : List (List RN)) (A : Option Addr) (n c : Nat) (hn : Ls.length = n) (hn2 : n ≤ 140737488355328) (W : World) (hr : RdX W A Ls) :
    Calls Try.prog 17 #[.slice A n c] W (GotBl W (fewE Ls)) := by
  generalize hQ : GotBl W (fewE Ls) = Q
  have HQ := Lib.hid hQ
  have HN := Lib.hid hn
  have HR := Lib.hid hr
  clear hQ hn hr
  by_cases h6 : n ≤ 6
  · have HF := Lib.hid (show fewE Ls = Ls.all fewP by unfold fewE; rw [decide_eq_true (by rw [HN.out]; exact h6), Bool.true_and])
    have d6 : decide ((n : Int) ≤ 6) = true := by simp; omega
    go_enter Try.func17, Try.ntmps17
    go_wp2_with fail
    go_loopw [3] (fun vi wr => ∃ k : Nat, k ≤ n ∧ vi = .int .i64 (k : Int) ∧ Hid ((Ls.take k).all fewP = true) ∧ Hid (Below W.heap.size W wr)) (fun vi _ => n - (intOf vi).toNat)
    case atStart => exact ⟨0, Nat.zero_le _, rfl, rfl, Below.refl _ _⟩
    case round =>
      obtain ⟨k, hk, rfl, HA, HB⟩ := hrel
      by_cases hlt : k < n
      · have hkl : k < Ls.length := by rw [HN.out]; exact hlt
        obtain ⟨ad, B, m, d, hA, hc, hm, hmd, hrr⟩ := (HR.out.below HB.out) k hkl
        subst hA
        have HM := Lib.hid hm
        have HRR := Lib.hid hrr
        have TK := Lib.hid (show (Ls.take (k + 1)).all fewP = ((Ls.take k).all fewP && fewP Ls[k]) by rw [List.take_succ_eq_append_getElem hkl, List.all_append]; simp)
        have HBD := Lib.hid (show fewP Ls[k] = false → Ls.all fewP = false from fun h => by
          rw [Bool.eq_false_iff]
          intro ha
          rw [List.all_eq_true.1 ha _ (List.getElem_mem hkl)] at h
          cases h)
        generalize Ls[k] = l at *
        have HC := Lib.hid (check_any l B m d HM.out wr HRR.out hmd)
        have LX := Lib.hid (show ∀ j u, [Value.slice B m d][j]? = some u → wr.cell? ((ad.add k).add j) = some u from fun j u hu => by
          match j, hu with
          | 0, hu =>
            simp at hu
            subst hu
            rw [Addr.add_add]
            exact hc)
        clear hkl hm hrr
        by_cases h60 : m ≤ 60
        · have t1 : decide ((60 : Int) < (m : Int)) = false := by simp; omega
          have t2 : decide (60 < m) = false := by simp; omega
          have HP := Lib.hid (show fewP l = decide (checkE l = 0) by unfold fewP; rw [HM.out, decide_eq_true h60, Bool.true_and])
          generalize checkE l = ce at *
          go_wp2_with (refine wpList_load_part 69 1 _ rfl rfl (ad.add k) rfl [.slice B m d] (agg_rex' _) (sz_rex' _) rfl LX.out ?_)
          refine HC.out.mono ?_
          rintro e w2 ⟨rfl, hb2⟩
          have HB2 := Lib.hid (bl_trans HB.out hb2)
          clear hb2 HC HB hc LX
          by_cases hce : ce = 0
          · subst hce
            have HP2 := Lib.hid (show (Ls.take (k + 1)).all fewP = true by rw [TK.out, HA.out, HP.out]; rfl)
            go_wp2_with fail
            exact ⟨⟨k + 1, by omega, by go_num, HP2.out, HB2.out⟩, by simp [intOf]; omega⟩
          · have hce2 : ((ce : Int) != 0) = true := by simp; omega
            have HX := Lib.hid (HBD.out (by rw [HP.out]; simp [hce]))
            clear hce
            go_wp2_with fail
            refine post_is HQ ?_
            rw [HF.out, HX.out]
            exact ⟨rfl, HB2.out⟩
        · have t1 : decide ((60 : Int) < (m : Int)) = true := by simp; omega
          have t2 : decide (60 < m) = true := by simp; omega
          have HX := Lib.hid (HBD.out (by unfold fewP; rw [HM.out, decide_eq_false h60, Bool.false_and]))
          clear h60 HC LX
          go_wp2_with fail
          refine post_is HQ ?_
          rw [HF.out, HX.out]
          exact ⟨rfl, HB.out⟩
      · obtain rfl : k = n := by omega
        have HX := Lib.hid (show Ls.all fewP = true from by have := HA.out; rwa [List.take_of_length_le (by rw [HN.out]; omega)] at this)
        go_wp2_with fail
        refine post_is HQ ?_
        rw [HF.out, HX.out]
        exact ⟨rfl, HB.out⟩
  · have HF := Lib.hid (show fewE Ls = false by unfold fewE; rw [decide_eq_false (by rw [HN.out]; exact h6), Bool.false_and])
    have d6 : decide ((n : Int) ≤ 6) = false := by simp; omega
    have d0 : decide ((0 : Int) < (n : Int)) = true := by simp; omega
    go_enter Try.func17, Try.ntmps17
    go_wp2_with fail
    go_loopw [3] (fun vi wr => vi = .int .i64 0 ∧ wr = W) (fun _ _ => 0)
    case atStart => exact ⟨rfl, rfl⟩
    case round =>
      obtain ⟨rfl, rfl⟩ := hrel
      go_wp2_with fail
      refine post_is HQ ?_
      rw [HF.out]
      exact ⟨rfl, Below.refl _ _⟩

end Go.Proofs.Ytjibfffefppniaa
