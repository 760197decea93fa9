/- Check: whether a list of nodes is one tree. No condition. -/
import Derived.Test.YteedmkokbapkgaaDoorRgJ
set_option linter.unusedVariables false
set_option linter.unusedSimpArgs false
namespace Go.Proofs.YteedmkokbapkgaaDoor
open Go.RowKit

/-- Numbers in memory. -/
def RdZ (w : World) (A : Option Addr) (bs : List Nat) : Prop := ∀ k (h : k < bs.length), ∃ ad, A = some ad ∧ w.cell? (ad.add k) = some (.int .i64 ((bs[k] : Nat) : Int))
theorem RdZ.below {w w' : World} {A : Option Addr} {bs : List Nat} (h : RdZ w A bs) (hb : Below w.heap.size w w') : RdZ w' A bs := fun k hk => by
  obtain ⟨ad, e, hc⟩ := h k hk
  exact ⟨ad, e, (hb.cell (World.block_lt_of_cell? w _ hc)).trans hc⟩
def GotBeg (w : World) : Option Nat → Ending → World → Prop
  | some i => fun e w' => e = .returned (.tuple #[.int .i64 (i : Int), .bool true]) ∧ Below w.heap.size w w'
  | none => fun e w' => (∃ z : Int, e = .returned (.tuple #[.int .i64 z, .bool false])) ∧ Below w.heap.size w w'
theorem int_ne {a b : Int} (h : ¬ a = b) : (a == b) = false := by simp [h]
theorem int_nb {a b : Int} (h : ¬ a = b) : (a != b) = true := by simp [h]
theorem int_eb (a : Int) : (a != a) = false := by simp
theorem int_eq (a : Int) : (a == a) = true := by simp

set_option maxRecDepth 20000 in
set_option maxHeartbeats 4000000 in
theorem begin_any (bs : List Nat) (n : RN) (A : Option Addr) (m c : Nat) (hm : bs.length = m) (w : World) (hr : RdZ w A bs) (hl : m ≤ 256) (hb : ∀ j (h : j < bs.length), bs[j] ≤ j) :
    Calls Tryd.prog 47 #[.slice A m c, aggR n] w (GotBeg w (begin1 bs n)) := by
  obtain ⟨kd, a, b, z0, z1, z2, z3⟩ := n
  generalize hQ : GotBeg w (begin1 bs ⟨kd, a, b, z0, z1, z2, z3⟩) = Q
  have HQ := Lib.hid hQ
  have HR := Lib.hid hr
  have HB := Lib.hid hb
  have HM := Lib.hid hm
  have hB := bl_alloc (Below.refl w.heap.size w) (.cells #[.int .i64 kd, dv z0, dv z1, dv z2, dv z3, .int .i64 a, .int .i64 b] 59)
  have HBL := Lib.hid hB
  have hsub : wrap64 ((m : Int) - 1) = (m : Int) - 1 := IntWalk.wrap64_in _ ⟨by omega, by omega⟩
  clear hQ hr hb hB hm
  show Calls Tryd.prog 47 #[.slice A m c, .agg #[.int .i64 kd, dv z0, dv z1, dv z2, dv z3, .int .i64 a, .int .i64 b]] w Q
  by_cases hk1 : kd = 1 ∨ kd = 2
  · by_cases ha : a = 0
    · subst ha
      by_cases hb : b = 0
      · subst hb
        rcases hk1 with rfl | rfl
        all_goals
          go_enter Tryd.func47, Tryd.ntmps47
          go_wp2_with (go_quiet (fail))
          refine post_is HQ ?_
          rw [begin1, if_pos (by simp), if_pos ⟨rfl, rfl⟩, HM.out]
          exact ⟨rfl, by first | exact HBL.out | exact bl_drewN HBL.out _ | exact bl_drewN (bl_drewN HBL.out _) _⟩
      · have hbb := int_ne hb
        have HBB := Lib.hid hb
        clear hb
        rcases hk1 with rfl | rfl
        all_goals
          go_enter Tryd.func47, Tryd.ntmps47
          go_wp2_with (go_quiet (fail))
          refine post_is HQ ?_
          rw [begin1, if_pos (by simp), if_neg (fun h => HBB.out h.2)]
          exact ⟨⟨_, rfl⟩, by first | exact HBL.out | exact bl_drewN HBL.out _ | exact bl_drewN (bl_drewN HBL.out _) _⟩
    · have haa := int_ne ha
      have HAA := Lib.hid ha
      clear ha
      rcases hk1 with rfl | rfl
      all_goals
        go_enter Tryd.func47, Tryd.ntmps47
        go_wp2_with (go_quiet (fail))
        refine post_is HQ ?_
        rw [begin1, if_pos (by simp), if_neg (fun h => HAA.out h.1)]
        exact ⟨⟨_, rfl⟩, by first | exact HBL.out | exact bl_drewN HBL.out _ | exact bl_drewN (bl_drewN HBL.out _) _⟩
  have n1 : (kd == 1) = false := int_ne (fun e => hk1 (Or.inl e))
  have n2 : (kd == 2) = false := int_ne (fun e => hk1 (Or.inr e))
  have HK1 := Lib.hid hk1
  clear hk1
  by_cases hk5 : kd = 5 ∨ kd = 6
  · by_cases hz : m = 0
    · subst hz
      rcases hk5 with rfl | rfl
      all_goals
        go_enter Tryd.func47, Tryd.ntmps47
        go_wp2_with (go_quiet (fail))
        refine post_is HQ ?_
        rw [begin1, if_neg HK1.out, if_pos (by simp), if_pos (Or.inl HM.out)]
        exact ⟨⟨_, rfl⟩, by first | exact HBL.out | exact bl_drewN HBL.out _ | exact bl_drewN (bl_drewN HBL.out _) _⟩
    have hz0 : ((m : Int) == 0) = false := by simp; omega
    have HZ := Lib.hid hz
    clear hz
    by_cases ha : a = (m : Int) - 1
    · subst ha
      have eb1 := int_eb ((m : Int) - 1)
      by_cases hb : b = 0
      · subst hb
        obtain ⟨ad, rfl, hcell⟩ := HR.out (m - 1) (by have := HM.out; have := HZ.out; omega)
        have hgd : bs.getD (m - 1) 0 = bs[m - 1]'(by have := HM.out; have := HZ.out; omega) := by rw [List.getD_eq_getElem?_getD, List.getElem?_eq_getElem]; rfl
        rw [← hgd] at hcell
        have hcl : (w.alloc (.cells #[.int .i64 kd, dv z0, dv z1, dv z2, dv z3, .int .i64 ((m : Int) - 1), .int .i64 0] 59)).cell? (ad.add (m - 1)) = some (.int .i64 ((bs.getD (m - 1) 0 : Nat) : Int)) := (World.cell?_alloc_lt _ _ _ (World.block_lt_of_cell? w _ hcell)).trans hcell
        have HGD := Lib.hid hgd
        have hi1 : (0 : Int) ≤ (m : Int) - 1 := by have := HZ.out; omega
        have hi2 : (m : Int) - 1 < (m : Int) := by omega
        have htn : ((m : Int) - 1).toNat = m - 1 := by omega
        clear hcell hgd
        generalize hv : bs.getD (m - 1) 0 = v at *
        have HV := Lib.hid hv
        clear hv
        rcases hk5 with rfl | rfl
        all_goals
          go_enter Tryd.func47, Tryd.ntmps47
          go_wp2_with (go_quiet (fail))
          refine post_is HQ ?_
          rw [begin1, if_neg HK1.out, if_pos (by simp), if_neg (by rw [HM.out]; have := HZ.out; simp; exact this), HM.out, HV.out]
          exact ⟨rfl, by first | exact HBL.out | exact bl_drewN HBL.out _ | exact bl_drewN (bl_drewN HBL.out _) _⟩
      · have hbb := int_nb hb
        have HBB := Lib.hid hb
        clear hb
        rcases hk5 with rfl | rfl
        all_goals
          go_enter Tryd.func47, Tryd.ntmps47
          go_wp2_with (go_quiet (fail))
          refine post_is HQ ?_
          rw [begin1, if_neg HK1.out, if_pos (by simp), if_pos (Or.inr (Or.inr HBB.out))]
          exact ⟨⟨_, rfl⟩, by first | exact HBL.out | exact bl_drewN HBL.out _ | exact bl_drewN (bl_drewN HBL.out _) _⟩
    · have haa := int_nb ha
      have HAA := Lib.hid ha
      clear ha
      rcases hk5 with rfl | rfl
      all_goals
        go_enter Tryd.func47, Tryd.ntmps47
        go_wp2_with (go_quiet (fail))
        refine post_is HQ ?_
        rw [begin1, if_neg HK1.out, if_pos (by simp), if_pos (Or.inr (Or.inl (by rw [HM.out]; exact HAA.out)))]
        exact ⟨⟨_, rfl⟩, by first | exact HBL.out | exact bl_drewN HBL.out _ | exact bl_drewN (bl_drewN HBL.out _) _⟩
  have n5 : (kd == 5) = false := int_ne (fun e => hk5 (Or.inl e))
  have n6 : (kd == 6) = false := int_ne (fun e => hk5 (Or.inr e))
  have HK5 := Lib.hid hk5
  clear hk5
  by_cases hk3 : kd = 3 ∨ kd = 4
  · by_cases hz : m = 0
    · subst hz
      rcases hk3 with rfl | rfl
      all_goals
        go_enter Tryd.func47, Tryd.ntmps47
        go_wp2_with (go_quiet (fail))
        refine post_is HQ ?_
        rw [begin1, if_neg HK1.out, if_neg HK5.out, if_pos (by simp), if_pos (Or.inl HM.out)]
        exact ⟨⟨_, rfl⟩, by first | exact HBL.out | exact bl_drewN HBL.out _ | exact bl_drewN (bl_drewN HBL.out _) _⟩
    have hz0 : ((m : Int) == 0) = false := by simp; omega
    have HZ := Lib.hid hz
    clear hz
    by_cases hb : b = (m : Int) - 1
    · subst hb
      have eb1 := int_eb ((m : Int) - 1)
      obtain ⟨ad, rfl, hcell⟩ := HR.out (m - 1) (by have := HM.out; have := HZ.out; omega)
      have hgd : bs.getD (m - 1) 0 = bs[m - 1]'(by have := HM.out; have := HZ.out; omega) := by rw [List.getD_eq_getElem?_getD, List.getElem?_eq_getElem]; rfl
      rw [← hgd] at hcell
      have hcl : (w.alloc (.cells #[.int .i64 kd, dv z0, dv z1, dv z2, dv z3, .int .i64 a, .int .i64 ((m : Int) - 1)] 59)).cell? (ad.add (m - 1)) = some (.int .i64 ((bs.getD (m - 1) 0 : Nat) : Int)) := (World.cell?_alloc_lt _ _ _ (World.block_lt_of_cell? w _ hcell)).trans hcell
      have HGD := Lib.hid hgd
      have hi1 : (0 : Int) ≤ (m : Int) - 1 := by have := HZ.out; omega
      have hi2 : (m : Int) - 1 < (m : Int) := by omega
      have htn : ((m : Int) - 1).toNat = m - 1 := by omega
      clear hcell hgd
      have hle : bs.getD (m - 1) 0 ≤ m - 1 := by rw [HGD.out]; exact HB.out _ _
      generalize hv : bs.getD (m - 1) 0 = v at *
      have HV := Lib.hid hv
      clear hv
      by_cases hv0 : v = 0
      · have HV0 := Lib.hid hv0
        have hv1 : ((v : Int) == 0) = true := by rw [hv0]; rfl
        clear hv0
        rcases hk3 with rfl | rfl
        all_goals
          go_enter Tryd.func47, Tryd.ntmps47
          go_wp2_with (go_quiet (fail))
          refine post_is HQ ?_
          rw [begin1, if_neg HK1.out, if_neg HK5.out, if_pos (by simp), if_pos (Or.inr (Or.inr (Or.inl (by rw [HM.out, HV.out]; exact HV0.out))))]
          exact ⟨⟨_, rfl⟩, by first | exact HBL.out | exact bl_drewN HBL.out _ | exact bl_drewN (bl_drewN HBL.out _) _⟩
      have hv1 : ((v : Int) == 0) = false := by simp; omega
      have hsv : wrap64 ((v : Int) - 1) = (v : Int) - 1 := IntWalk.wrap64_in _ ⟨by omega, by omega⟩
      have HV0 := Lib.hid hv0
      clear hv0
      by_cases ha : a = (v : Int) - 1
      · subst ha
        have eb2 := int_eb ((v : Int) - 1)
        obtain ⟨ad', e', hcell⟩ := HR.out (v - 1) (by have := HM.out; have := HZ.out; have := HV0.out; omega)
        cases e'
        have hgd : bs.getD (v - 1) 0 = bs[v - 1]'(by have := HM.out; have := HZ.out; have := HV0.out; omega) := by rw [List.getD_eq_getElem?_getD, List.getElem?_eq_getElem]; rfl
        rw [← hgd] at hcell
        have hcl2 : (w.alloc (.cells #[.int .i64 kd, dv z0, dv z1, dv z2, dv z3, .int .i64 ((v : Int) - 1), .int .i64 ((m : Int) - 1)] 59)).cell? (ad.add (v - 1)) = some (.int .i64 ((bs.getD (v - 1) 0 : Nat) : Int)) := (World.cell?_alloc_lt _ _ _ (World.block_lt_of_cell? w _ hcell)).trans hcell
        have hj1 : (0 : Int) ≤ (v : Int) - 1 := by have := HV0.out; omega
        have hj2 : (v : Int) - 1 < (m : Int) := by have := HZ.out; omega
        have hjn : ((v : Int) - 1).toNat = v - 1 := by omega
        clear hcell hgd
        generalize hu : bs.getD (v - 1) 0 = u at *
        have HU := Lib.hid hu
        clear hu
        rcases hk3 with rfl | rfl
        all_goals
          go_enter Tryd.func47, Tryd.ntmps47
          go_wp2_with (go_quiet (fail))
          refine post_is HQ ?_
          rw [begin1, if_neg HK1.out, if_neg HK5.out, if_pos (by simp), if_neg (by rw [HM.out, HV.out]; have := HZ.out; have := HV0.out; simp; exact ⟨by assumption, by assumption⟩), HM.out, HV.out, HU.out]
          exact ⟨rfl, by first | exact HBL.out | exact bl_drewN HBL.out _ | exact bl_drewN (bl_drewN HBL.out _) _⟩
      · have haa := int_nb ha
        have HAA := Lib.hid ha
        clear ha
        rcases hk3 with rfl | rfl
        all_goals
          go_enter Tryd.func47, Tryd.ntmps47
          go_wp2_with (go_quiet (fail))
          refine post_is HQ ?_
          rw [begin1, if_neg HK1.out, if_neg HK5.out, if_pos (by simp), if_pos (Or.inr (Or.inr (Or.inr (by rw [HM.out, HV.out]; exact HAA.out))))]
          exact ⟨⟨_, rfl⟩, by first | exact HBL.out | exact bl_drewN HBL.out _ | exact bl_drewN (bl_drewN HBL.out _) _⟩
    · have hbb := int_nb hb
      have HBB := Lib.hid hb
      clear hb
      rcases hk3 with rfl | rfl
      all_goals
        go_enter Tryd.func47, Tryd.ntmps47
        go_wp2_with (go_quiet (fail))
        refine post_is HQ ?_
        rw [begin1, if_neg HK1.out, if_neg HK5.out, if_pos (by simp), if_pos (Or.inr (Or.inl (by rw [HM.out]; exact HBB.out)))]
        exact ⟨⟨_, rfl⟩, by first | exact HBL.out | exact bl_drewN HBL.out _ | exact bl_drewN (bl_drewN HBL.out _) _⟩
  have n3 : (kd == 3) = false := int_ne (fun e => hk3 (Or.inl e))
  have n4 : (kd == 4) = false := int_ne (fun e => hk3 (Or.inr e))
  have HK3 := Lib.hid hk3
  clear hk3
  go_enter Tryd.func47, Tryd.ntmps47
  go_wp2_with (go_quiet (fail))
  refine post_is HQ ?_
  rw [begin1, if_neg HK1.out, if_neg HK5.out, if_neg HK3.out]
  exact ⟨⟨_, rfl⟩, by first | exact HBL.out | exact bl_drewN HBL.out _ | exact bl_drewN (bl_drewN HBL.out _) _⟩

end Go.Proofs.YteedmkokbapkgaaDoor
