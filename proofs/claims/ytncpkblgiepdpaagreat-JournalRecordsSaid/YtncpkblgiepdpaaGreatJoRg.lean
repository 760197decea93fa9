/- The document's own record of layer 6: contracts over the translated program. No condition but what each statement names. -/
import Derived.Test.YtncpkblgiepdpaaGreatJoRf
set_option linter.unusedVariables false
set_option linter.unusedSimpArgs false
namespace Go.Proofs.YtncpkblgiepdpaaGreat
open Go.RowKit

theorem ne_byte {p q : UInt8} (h : p ≠ q) : ¬ ((p.toNat : Int) = (q.toNat : Int)) := fun e => h (UInt8.toNat_inj.1 (by omega))
set_option maxHeartbeats 2000000 in
set_option maxRecDepth 20000 in
theorem isSum_any (A : Option Addr) (c : Nat) (l : List UInt8) (x : BitVec 32) (w : World) (hl : l.length = 4) (hr : Rd w A l) :
    Calls Tryz.prog 82 #[.slice A 4 c, .int .u32 (x.toNat : Int)] w fun e w' => e = .returned (.bool (decide (l = leB x))) ∧ Below w.heap.size w w' := by
  obtain ⟨p0, p1, p2, p3, rfl⟩ : ∃ a b c d, l = [a, b, c, d] := by
    match l, hl with
    | [a, b, c, d], _ => exact ⟨a, b, c, d, rfl⟩
  have hs := refSum_any x w
  generalize hq : leB x = L at hs
  obtain ⟨q0, q1, q2, q3, rfl⟩ : ∃ a b c d, L = [a, b, c, d] := ⟨_, _, _, _, hq.symm⟩
  clear hq hl
  go_enter Tryz.func82, Tryz.ntmps82
  go_wp2_with fail
  refine hs.mono ?_
  rintro e w1 ⟨v1, rfl, ho1, hb1⟩
  obtain ⟨A1, c1, rfl, _, _, hr1⟩ := ho1.shape
  have hr2 := hr.below hb1
  obtain ⟨ad, rfl, a0⟩ := hr2.cell (k := 0) (by simp)
  obtain ⟨_, e1, a1⟩ := hr2.cell (k := 1) (by simp)
  cases e1
  obtain ⟨_, e1, a2⟩ := hr2.cell (k := 2) (by simp)
  cases e1
  obtain ⟨_, e1, a3⟩ := hr2.cell (k := 3) (by simp)
  cases e1
  obtain ⟨bd, rfl, b0⟩ := hr1.cell (k := 0) (by simp)
  obtain ⟨_, e1, b1⟩ := hr1.cell (k := 1) (by simp)
  cases e1
  obtain ⟨_, e1, b2⟩ := hr1.cell (k := 2) (by simp)
  cases e1
  obtain ⟨_, e1, b3⟩ := hr1.cell (k := 3) (by simp)
  cases e1
  simp only [List.getElem_cons_zero, List.getElem_cons_succ, Addr.add, Nat.add_zero, if_true, Nat.succ_ne_zero, if_false, Nat.reduceEqDiff] at a0 a1 a2 a3 b0 b1 b2 b3
  clear ho1 hs hr hr1 hr2
  have hd : ∀ p : UInt8, ((p.toNat : Int) == (p.toNat : Int)) = true := fun p => by simp
  by_cases e0 : p0 = q0
  · subst e0
    have d0 := hd p0
    by_cases e1 : p1 = q1
    · subst e1
      have d1 := hd p1
      by_cases e2 : p2 = q2
      · subst e2
        have d2 := hd p2
        by_cases e3 : p3 = q3
        · subst e3
          have d3 := hd p3
          clear hd
          go_wp2_with fail
          go_quiet (fail)
          go_wp2_with fail
          go_ret
          exact ⟨by simp, bl_drewN hb1 _⟩
        · have n3 : ((p3.toNat : Int) == (q3.toNat : Int)) = false := by simpa using ne_byte e3
          clear hd
          go_wp2_with fail
          go_quiet (fail)
          go_wp2_with fail
          go_ret
          exact ⟨by simp [ne_byte e3, e3], bl_drewN hb1 _⟩
      · have n2 : ((p2.toNat : Int) == (q2.toNat : Int)) = false := by simpa using ne_byte e2
        clear hd
        go_wp2_with fail
        go_quiet (fail)
        go_wp2_with fail
        go_ret
        exact ⟨by simp [ne_byte e2, e2], bl_drewN hb1 _⟩
    · have n1 : ((p1.toNat : Int) == (q1.toNat : Int)) = false := by simpa using ne_byte e1
      clear hd
      go_wp2_with fail
      go_quiet (fail)
      go_wp2_with fail
      go_ret
      exact ⟨by simp [ne_byte e1, e1], bl_drewN hb1 _⟩
  · have n0 : ((p0.toNat : Int) == (q0.toNat : Int)) = false := by simpa using ne_byte e0
    clear hd
    go_wp2_with fail
    go_quiet (fail)
    go_wp2_with fail
    go_ret
    exact ⟨by simp [ne_byte e0, e0], bl_drewN hb1 _⟩
end Go.Proofs.YtncpkblgiepdpaaGreat
