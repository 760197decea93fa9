/- The law's works: the chapter's examples hold. Under: math/bits' table as it was laid. -/
import Derived.Test.YteedmkokbapkgaaDoorRgWk
set_option linter.unusedVariables false
set_option linter.unusedSimpArgs false
namespace Go.Proofs.YteedmkokbapkgaaDoor
open Go.RowKit

theorem same_true (l l' : List RN) (he : l = l') (A : Option Addr) (n c : Nat) (A' : Option Addr) (n' c' : Nat) (hn : l.length = n) (hn' : l'.length = n') (hmx : n ≤ maxLen) (w : World) (hr : RdR w A l) (hr' : RdR w A' l') :
    Calls Tryd.prog 16 #[.agg #[.slice A n c], .agg #[.slice A' n' c']] w (GotB w true) := by
  have h := same_any l l' A n c A' n' c' hn hn' hmx w hr hr'
  rw [decide_eq_true he] at h
  exact h
theorem of_lit (l : List UInt8) (n : Nat) (hn : l.length = n) (hm : n ≤ 1000) (w : World) (cs : Array Value) (hcs : cs = (l.map bv).toArray) : Calls Tryd.prog 31 #[.slice (some ⟨w.heap.size, 0, none⟩) n n] (w.alloc (.cells cs 5)) (GotS (w.alloc (.cells cs 5)) (s4 (allW nilW (natL l)))) := by
  subst hcs
  exact (of_any _ n n l hn (by omega) _ (Rd.lit0 w l (0, 0))).mono fun e w' h => h.gotS rfl
theorem of_abcx (w : World) : Calls Tryd.prog 31 #[.slice (some ⟨w.heap.size, 0, none⟩) 4 4] (w.alloc (.cells #[.int .u8 97, .int .u8 98, .int .u8 99, .int .u8 120] 5)) (GotS (w.alloc (.cells #[.int .u8 97, .int .u8 98, .int .u8 99, .int .u8 120] 5)) pABCX) := of_lit [97, 98, 99, 120] 4 rfl (by omega) w _ rfl
theorem one_97 : s4 (allW nilW (natL [97])) = pA := by decide +kernel
theorem one_98 : s4 (allW nilW (natL [98])) = pB := by decide +kernel
/-- A variable that holds a pattern. -/
structure HX (w : World) (base b : Nat) (A : Option Addr) (n c : Nat) (l : List RN) : Prop where
  cell : w.heap[b]? = some (.cells #[.slice A n c] 24 (0, 0))
  own : OwnR w base (.slice A n c) l
  len : l.length = n
  cap : n ≤ c
  max : c ≤ maxLen
theorem HX.below {w w' : World} {base b n c : Nat} {A : Option Addr} {l : List RN} (h : HX w base b A n c l) (hb : Below w.heap.size w w') : HX w' base b A n c l :=
  ⟨(hb.block b (Array.getElem?_eq_some_iff.1 h.cell).1).trans h.cell, h.own.below hb, h.len, h.cap, h.max⟩
theorem HX.rd {w : World} {base b n c : Nat} {A : Option Addr} {l : List RN} (h : HX w base b A n c l) : RdR w A l := by
  obtain ⟨A', n', c', e, _, _, _, hr⟩ := h.own.form
  injection e with e1 e2 e3
  subst e1
  exact hr

/-- What stays while the examples are gone through. -/
structure WS (w : World) (b1 b2 b3 : Nat) (A1 : Option Addr) (n1 c1 : Nat) (A2 : Option Addr) (n2 c2 : Nat) (A3 : Option Addr) (W : World) : Prop where
  x1 : HX W w.heap.size b1 A1 n1 c1 [⟨2, 0, 0, pA⟩]
  x2 : HX W w.heap.size b2 A2 n2 c2 [⟨2, 0, 0, pB⟩]
  x3 : HX W w.heap.size b3 A3 4 4 (flat 0 tAB)
  below : Below w.heap.size w W
theorem WS.then {w W W' : World} {b1 b2 b3 n1 c1 n2 c2 : Nat} {A1 A2 A3 : Option Addr} (h : WS w b1 b2 b3 A1 n1 c1 A2 n2 c2 A3 W) (hb : Below W.heap.size W W') : WS w b1 b2 b3 A1 n1 c1 A2 n2 c2 A3 W' :=
  ⟨h.x1.below hb, h.x2.below hb, h.x3.below hb, bl_trans h.below hb⟩

set_option maxRecDepth 100000 in
set_option maxHeartbeats 8000000 in
theorem works_any (w : World) (hT : Tab w) : Calls Tryd.prog 17 #[] w (GotB w true) := by
  generalize hQ : GotB w true = Q
  have HQ := Lib.hid hQ
  have HT := Lib.hid hT
  clear hQ hT
  go_enter Tryd.func17, Tryd.ntmps17
  go_wp2_with fail
  refine (of_lit [97] 1 rfl (by omega) _ _ rfl).mono ?_
  rintro e w1 ⟨rfl, hb1⟩
  have B1 := Lib.hid (bl_trans (bl_alloc (Below.refl w.heap.size w) (.cells #[.int .u8 97] 5)) hb1)
  clear hb1
  rw [one_97]
  go_wp2_with fail
  refine (one_pat pA _).mono ?_
  rintro e w2 ⟨v1, rfl, ho1, hb2⟩
  obtain ⟨A1, n1, c1, rfl, HL1, hc1, hm1, _⟩ := ho1.form
  have B2 := Lib.hid (bl_trans B1.out hb2)
  have O2 := Lib.hid (ho1.more B1.out.size)
  clear hb2 ho1 B1
  go_wp2_with fail
  refine (of_lit [98] 1 rfl (by omega) _ _ rfl).mono ?_
  rintro e w3 ⟨rfl, hb3⟩
  have hb3' := bl_trans (bl_alloc (Below.refl w2.heap.size w2) (.cells #[.int .u8 98] 5)) hb3
  have B3 := Lib.hid (bl_trans B2.out hb3')
  have O3 := Lib.hid (O2.out.below hb3')
  clear hb3 hb3' B2 O2
  rw [one_98]
  go_wp2_with fail
  refine (one_pat pB _).mono ?_
  rintro e w4 ⟨v2, rfl, ho2, hb4⟩
  obtain ⟨A2, n2, c2, rfl, HL2, hc2, hm2, _⟩ := ho2.form
  have B4 := Lib.hid (bl_trans B3.out hb4)
  have O4 := Lib.hid (O3.out.below hb4)
  have P4 := Lib.hid (ho2.more B3.out.size)
  clear hb4 ho2 B3 O3
  go_upto_region 2 with fail
  have hx1 : HX ((w4.alloc (.cells #[.slice A1 n1 c1] 24)).alloc (.cells #[.slice A2 n2 c2] 24)) w.heap.size w4.heap.size A1 n1 c1 [⟨2, 0, 0, pA⟩] :=
    ⟨by rw [Below.heap_alloc _ _ _ (by simp)]; exact heap_alloc_new w4 _, O4.out.below (bl_alloc (bl_alloc (Below.refl _ _) _) _), HL1.out, hc1, hm1⟩
  have hx2 : HX ((w4.alloc (.cells #[.slice A1 n1 c1] 24)).alloc (.cells #[.slice A2 n2 c2] 24)) w.heap.size (w4.heap.size + 1) A2 n2 c2 [⟨2, 0, 0, pB⟩] :=
    ⟨by have := heap_alloc_new (w4.alloc (.cells #[.slice A1 n1 c1] 24)) (.cells #[.slice A2 n2 c2] 24); rwa [World.size_alloc] at this, P4.out.below (bl_alloc (bl_alloc (Below.refl _ _) _) _), HL2.out, hc2, hm2⟩
  have hb5 := bl_alloc (bl_alloc B4.out (.cells #[.slice A1 n1 c1] 24)) (.cells #[.slice A2 n2 c2] 24)
  have X1 := Lib.hid hx1
  have X2 := Lib.hid hx2
  have B5 := Lib.hid hb5
  have S4 := Lib.hid B4.out.size
  clear hx1 hx2 hb5 B4 O4 P4
  generalize (w4.alloc (.cells #[.slice A1 n1 c1] 24)).alloc (.cells #[.slice A2 n2 c2] 24) = w5 at *
  generalize w4.heap.size = b1 at *
  go_wp2_with fail
  refine (of_lit [97] 1 rfl (by omega) _ _ rfl).mono ?_
  rintro e w6 ⟨rfl, hb6⟩
  have hb6' := bl_trans (bl_alloc (Below.refl w5.heap.size w5) (.cells #[.int .u8 97] 5)) hb6
  have B6 := Lib.hid (bl_trans B5.out hb6')
  have Y1 := Lib.hid (X1.out.below hb6')
  have Y2 := Lib.hid (X2.out.below hb6')
  clear hb6 hb6' B5 X1 X2
  rw [one_97]
  go_wp2_with (refine wpList_leafN _ _ 2 pA rfl rfl rfl rfl ?_)
  refine (of_lit [98] 1 rfl (by omega) _ _ rfl).mono ?_
  rintro e w7 ⟨rfl, hb7⟩
  have hb7' := bl_trans (bl_alloc (Below.refl w6.heap.size w6) (.cells #[.int .u8 98] 5)) hb7
  have B7 := Lib.hid (bl_trans B6.out hb7')
  have Z1 := Lib.hid (Y1.out.below hb7')
  have Z2 := Lib.hid (Y2.out.below hb7')
  clear hb7 hb7' B6 Y1 Y2
  rw [one_98]
  go_upto_region 3 with (refine wpList_leafN _ _ 2 pB rfl rfl rfl rfl ?_)
  have ho3 := ownR_lit (w := w7) w.heap.size (flat 0 tAB) B7.out.size (by rw [fl_ab]; simp [maxLen])
  rw [fl_ab] at ho3
  have hx3 : HX ((w7.alloc (.cells (cellsN [⟨2, 0, 0, pA⟩, ⟨2, 0, 0, pB⟩, ⟨5, 1, 0, nilS⟩, ⟨3, 0, 2, nilS⟩]).toArray 59)).alloc (.cells #[.slice (some ⟨w7.heap.size, 0, none⟩) 4 4] 24)) w.heap.size (w7.heap.size + 1) (some ⟨w7.heap.size, 0, none⟩) 4 4 (flat 0 tAB) := by
    refine ⟨?_, ?_, by rw [fl_ab]; rfl, Nat.le_refl _, by simp [maxLen]⟩
    · have := heap_alloc_new (w7.alloc (.cells (cellsN [⟨2, 0, 0, pA⟩, ⟨2, 0, 0, pB⟩, ⟨5, 1, 0, nilS⟩, ⟨3, 0, 2, nilS⟩]).toArray 59)) (.cells #[.slice (some ⟨w7.heap.size, 0, none⟩) 4 4] 24)
      rwa [World.size_alloc] at this
    · rw [fl_ab]
      exact OwnR.below ho3 (bl_alloc (Below.refl _ _) _)
  have hb8 := bl_alloc (bl_alloc (Below.refl w7.heap.size w7) (.cells (cellsN [⟨2, 0, 0, pA⟩, ⟨2, 0, 0, pB⟩, ⟨5, 1, 0, nilS⟩, ⟨3, 0, 2, nilS⟩]).toArray 59)) (.cells #[.slice (some ⟨w7.heap.size, 0, none⟩) 4 4] 24)
  have hws : WS w b1 (b1 + 1) (w7.heap.size + 1) A1 n1 c1 A2 n2 c2 (some ⟨w7.heap.size, 0, none⟩) ((w7.alloc (.cells (cellsN [⟨2, 0, 0, pA⟩, ⟨2, 0, 0, pB⟩, ⟨5, 1, 0, nilS⟩, ⟨3, 0, 2, nilS⟩]).toArray 59)).alloc (.cells #[.slice (some ⟨w7.heap.size, 0, none⟩) 4 4] 24)) :=
    ⟨Z1.out.below hb8, Z2.out.below hb8, hx3, bl_trans B7.out hb8⟩
  have WS8 := Lib.hid hws
  clear ho3 hx3 hb8 hws B7 Z1 Z2
  show Code.wp _ _ _ _ ((w7.alloc (.cells (cellsN [⟨2, 0, 0, pA⟩, ⟨2, 0, 0, pB⟩, ⟨5, 1, 0, nilS⟩, ⟨3, 0, 2, nilS⟩]).toArray 59)).alloc (.cells #[.slice (some ⟨w7.heap.size, 0, none⟩) 4 4] 24))
  generalize (w7.alloc (.cells (cellsN [⟨2, 0, 0, pA⟩, ⟨2, 0, 0, pB⟩, ⟨5, 1, 0, nilS⟩, ⟨3, 0, 2, nilS⟩]).toArray 59)).alloc (.cells #[.slice (some ⟨w7.heap.size, 0, none⟩) 4 4] 24) = w8 at *
  generalize w7.heap.size = q7 at *
  go_wp2_with fail
  refine (w_of1 _).mono ?_
  rintro e w9 ⟨v9, rfl, ho9, hb9⟩
  obtain ⟨A9, n9, c9, rfl, HL9, hc9, hm9, hr9⟩ := ho9.form
  have WS9 := Lib.hid (WS8.out.then hb9)
  clear hb9 ho9 WS8
  go_wp2_with fail
  refine (w_nil A9 n9 c9 _ (HT.out.below WS9.out.below) HL9.out hr9 hc9).mono ?_
  rintro e w10 ⟨rfl, hb10⟩
  have WS10 := Lib.hid (WS9.out.then hb10)
  clear hb10 WS9 hr9
  go_wp2_with fail
  refine wp_region_held_drew (S := WS w b1 (b1 + 1) (q7 + 1) A1 n1 c1 A2 n2 c2 (some ⟨q7, 0, none⟩)) (by kernel_rfl) (WS10.out.then (bl_drewN (Below.refl _ _) 1)) (fun hHeld => ?_)
  clear WS10
  try simp only [List.getElem_toArray, List.getElem_cons_zero, List.getElem_cons_succ, Act.put, List.setIfInBounds_toArray, List.set_cons_zero, List.set_cons_succ]
  refine wpAnyH_take (i := 1) (v := ?vza1) rfl (by kernel_rfl) (by kernel_rfl) (by kernel_rfl) (fun _ _ _ h => h) (Or.inl ⟨by rfl, ?yza1⟩) hHeld ?rza1
  case yza1 => (intro wS hSw; have q1 := cell_of_row wS _ 0 _ _ _ hSw.x3.cell; clear hSw; go_simp; try (with_reducible rfl))
  try simp only [List.getElem_toArray, List.getElem_cons_zero, List.getElem_cons_succ, Act.put, List.setIfInBounds_toArray, List.set_cons_zero, List.set_cons_succ]
  refine wpAnyH_ready (rs := [0]) (by kernel_rfl) (by simp) (AllReadyH.cons rfl (fun K hK => ?_) AllReadyH.nil)
  rw [if_pos (by rfl)]
  go_simp
  go_at_call 32
  refine (w_of1 _).mono ?_
  rintro e w11 ⟨v11, rfl, ho, hb⟩
  obtain ⟨A11, n11, c11, rfl, HL11, hc11, hm11, hr⟩ := ho.form
  clear ho
  have hS1 := hHeld.then hb
  have HRa := Lib.hid hr
  clear hr
  clear hHeld hb
  go_wp2_with fail
  refine hK.out _ _ hS1 (fun hHeld => ?_)
  clear hK K hS1
  try simp only [List.getElem_toArray, List.getElem_cons_zero, List.getElem_cons_succ, Act.put, List.setIfInBounds_toArray, List.set_cons_zero, List.set_cons_succ]
  refine wpAnyH_ready (rs := [2]) (by kernel_rfl) (by simp) (AllReadyH.cons rfl (fun K hK => ?_) AllReadyH.nil)
  rw [if_pos (by rfl)]
  go_simp
  go_at_call 16
  refine (same_true (flat 0 tAB) (flat 0 tAB) rfl A11 n11 c11 (some ⟨q7, 0, none⟩) 4 4 HL11.out hHeld.x3.len (Nat.le_trans hc11 hm11) _ HRa.out hHeld.x3.rd).mono ?_
  rintro e w12 ⟨rfl, hb⟩
  have hS1 := hHeld.then hb
  clear HRa
  clear hHeld hb
  go_wp2_with fail
  refine hK.out _ _ hS1 (fun hHeld => ?_)
  clear hK K hS1
  try simp only [List.getElem_toArray, List.getElem_cons_zero, List.getElem_cons_succ, Act.put, List.setIfInBounds_toArray, List.set_cons_zero, List.set_cons_succ]
  refine wpAnyH_take (i := 3) (v := ?vza3) rfl (by kernel_rfl) (by kernel_rfl) (by kernel_rfl) (fun _ _ _ h => h) (Or.inl ⟨by rfl, ?yza3⟩) hHeld ?rza3
  case yza3 => (intro wS hSw; clear hSw; go_simp; try (with_reducible rfl))
  try simp only [List.getElem_toArray, List.getElem_cons_zero, List.getElem_cons_succ, Act.put, List.setIfInBounds_toArray, List.set_cons_zero, List.set_cons_succ]
  refine wpAnyH_take (i := 4) (v := ?vza4) rfl (by kernel_rfl) (by kernel_rfl) (by kernel_rfl) (fun _ _ _ h => h) (Or.inl ⟨by rfl, ?yza4⟩) hHeld ?rza4
  case yza4 => (intro wS hSw; clear hSw; go_simp; try (with_reducible rfl))
  try simp only [List.getElem_toArray, List.getElem_cons_zero, List.getElem_cons_succ, Act.put, List.setIfInBounds_toArray, List.set_cons_zero, List.set_cons_succ]
  refine wpAnyH_take (i := 5) (v := ?vza5) rfl (by kernel_rfl) (by kernel_rfl) (by kernel_rfl) (fun _ _ _ h => h) (Or.inl ⟨by rfl, ?yza5⟩) hHeld ?rza5
  case yza5 => (intro wS hSw; clear hSw; go_simp; try (with_reducible rfl))
  try simp only [List.getElem_toArray, List.getElem_cons_zero, List.getElem_cons_succ, Act.put, List.setIfInBounds_toArray, List.set_cons_zero, List.set_cons_succ]
  refine wpAnyH_take (i := 6) (v := ?vza6) rfl (by kernel_rfl) (by kernel_rfl) (by kernel_rfl) (fun _ _ _ h => h) (Or.inl ⟨by rfl, ?yza6⟩) hHeld ?rza6
  case yza6 => (intro wS hSw; clear hSw; go_simp; try (with_reducible rfl))
  try simp only [List.getElem_toArray, List.getElem_cons_zero, List.getElem_cons_succ, Act.put, List.setIfInBounds_toArray, List.set_cons_zero, List.set_cons_succ]
  refine wpAnyH_take (i := 7) (v := ?vza7) rfl (by kernel_rfl) (by kernel_rfl) (by kernel_rfl) (fun _ _ _ h => h) (Or.inl ⟨by rfl, ?yza7⟩) hHeld ?rza7
  case yza7 => (intro wS hSw; clear hSw; go_simp; try (with_reducible rfl))
  try simp only [List.getElem_toArray, List.getElem_cons_zero, List.getElem_cons_succ, Act.put, List.setIfInBounds_toArray, List.set_cons_zero, List.set_cons_succ]
  refine wpAnyH_take (i := 8) (v := ?vza8) rfl (by kernel_rfl) (by kernel_rfl) (by kernel_rfl) (fun _ _ _ h => h) (Or.inl ⟨by rfl, ?yza8⟩) hHeld ?rza8
  case yza8 => (intro wS hSw; clear hSw; go_simp; try (with_reducible rfl))
  try simp only [List.getElem_toArray, List.getElem_cons_zero, List.getElem_cons_succ, Act.put, List.setIfInBounds_toArray, List.set_cons_zero, List.set_cons_succ]
  refine wpAnyH_take (i := 9) (v := ?vza9) rfl (by kernel_rfl) (by kernel_rfl) (by kernel_rfl) (fun _ _ _ h => h) (Or.inl ⟨by rfl, ?yza9⟩) hHeld ?rza9
  case yza9 => (intro wS hSw; clear hSw; go_simp; try (with_reducible rfl))
  try simp only [List.getElem_toArray, List.getElem_cons_zero, List.getElem_cons_succ, Act.put, List.setIfInBounds_toArray, List.set_cons_zero, List.set_cons_succ]
  refine wpAnyH_take (i := 10) (v := ?vza10) rfl (by kernel_rfl) (by kernel_rfl) (by kernel_rfl) (fun _ _ _ h => h) (Or.inl ⟨by rfl, ?yza10⟩) hHeld ?rza10
  case yza10 => (intro wS hSw; clear hSw; go_simp; try (with_reducible rfl))
  try simp only [List.getElem_toArray, List.getElem_cons_zero, List.getElem_cons_succ, Act.put, List.setIfInBounds_toArray, List.set_cons_zero, List.set_cons_succ]
  refine wpAnyH_take (i := 11) (v := ?vza11) rfl (by kernel_rfl) (by kernel_rfl) (by kernel_rfl) (fun _ _ _ h => h) (Or.inl ⟨by rfl, ?yza11⟩) hHeld ?rza11
  case yza11 => (intro wS hSw; clear hSw; go_simp; try (with_reducible rfl))
  try simp only [List.getElem_toArray, List.getElem_cons_zero, List.getElem_cons_succ, Act.put, List.setIfInBounds_toArray, List.set_cons_zero, List.set_cons_succ]
  refine wpAnyH_ready (rs := [12]) (by kernel_rfl) (by simp) (AllReadyH.cons rfl (fun K hK => ?_) AllReadyH.nil)
  rw [if_pos (by rfl)]
  go_simp
  go_at_call 25
  refine (w_t1 _ (HT.out.below hHeld.below)).mono ?_
  rintro e w13 ⟨rfl, hb⟩
  have hS1 := hHeld.then hb
  clear hHeld hb
  go_wp2_with fail
  refine hK.out _ _ hS1 (fun hHeld => ?_)
  clear hK K hS1
  try simp only [List.getElem_toArray, List.getElem_cons_zero, List.getElem_cons_succ, Act.put, List.setIfInBounds_toArray, List.set_cons_zero, List.set_cons_succ]
  refine wpAnyH_take (i := 13) (v := ?vza13) rfl (by kernel_rfl) (by kernel_rfl) (by kernel_rfl) (fun _ _ _ h => h) (Or.inl ⟨by rfl, ?yza13⟩) hHeld ?rza13
  case yza13 => (intro wS hSw; clear hSw; go_simp; try (with_reducible rfl))
  try simp only [List.getElem_toArray, List.getElem_cons_zero, List.getElem_cons_succ, Act.put, List.setIfInBounds_toArray, List.set_cons_zero, List.set_cons_succ]
  refine wpAnyH_take (i := 14) (v := ?vza14) rfl (by kernel_rfl) (by kernel_rfl) (by kernel_rfl) (fun _ _ _ h => h) (Or.inl ⟨by rfl, ?yza14⟩) hHeld ?rza14
  case yza14 => (intro wS hSw; clear hSw; go_simp; try (with_reducible rfl))
  try simp only [List.getElem_toArray, List.getElem_cons_zero, List.getElem_cons_succ, Act.put, List.setIfInBounds_toArray, List.set_cons_zero, List.set_cons_succ]
  refine wpAnyH_ready (rs := [15]) (by kernel_rfl) (by simp) (AllReadyH.cons rfl (fun K hK => ?_) AllReadyH.nil)
  rw [if_pos (by rfl)]
  go_simp
  go_at_call 25
  refine (w_t2 _ (HT.out.below hHeld.below)).mono ?_
  rintro e w14 ⟨rfl, hb⟩
  have hS1 := hHeld.then hb
  clear hHeld hb
  go_wp2_with fail
  refine hK.out _ _ hS1 (fun hHeld => ?_)
  clear hK K hS1
  try simp only [List.getElem_toArray, List.getElem_cons_zero, List.getElem_cons_succ, Act.put, List.setIfInBounds_toArray, List.set_cons_zero, List.set_cons_succ]
  refine wpAnyH_take (i := 16) (v := ?vza16) rfl (by kernel_rfl) (by kernel_rfl) (by kernel_rfl) (fun _ _ _ h => h) (Or.inl ⟨by rfl, ?yza16⟩) hHeld ?rza16
  case yza16 => (intro wS hSw; clear hSw; go_simp; try (with_reducible rfl))
  try simp only [List.getElem_toArray, List.getElem_cons_zero, List.getElem_cons_succ, Act.put, List.setIfInBounds_toArray, List.set_cons_zero, List.set_cons_succ]
  refine wpAnyH_take (i := 17) (v := ?vza17) rfl (by kernel_rfl) (by kernel_rfl) (by kernel_rfl) (fun _ _ _ h => h) (Or.inl ⟨by rfl, ?yza17⟩) hHeld ?rza17
  case yza17 => (intro wS hSw; clear hSw; go_simp; try (with_reducible rfl))
  try simp only [List.getElem_toArray, List.getElem_cons_zero, List.getElem_cons_succ, Act.put, List.setIfInBounds_toArray, List.set_cons_zero, List.set_cons_succ]
  refine wpAnyH_take (i := 18) (v := ?vza18) rfl (by kernel_rfl) (by kernel_rfl) (by kernel_rfl) (fun _ _ _ h => h) (Or.inl ⟨by rfl, ?yza18⟩) hHeld ?rza18
  case yza18 => (intro wS hSw; clear hSw; go_simp; try (with_reducible rfl))
  try simp only [List.getElem_toArray, List.getElem_cons_zero, List.getElem_cons_succ, Act.put, List.setIfInBounds_toArray, List.set_cons_zero, List.set_cons_succ]
  refine wpAnyH_take (i := 20) (v := ?vza20) rfl (by kernel_rfl) (by kernel_rfl) (by kernel_rfl) (fun _ _ _ h => h) (Or.inl ⟨by rfl, ?yza20⟩) hHeld ?rza20
  case yza20 => (intro wS hSw; have q1 := cell_of_row wS _ 0 _ _ _ hSw.x1.cell; clear hSw; go_simp; try (with_reducible rfl))
  try simp only [List.getElem_toArray, List.getElem_cons_zero, List.getElem_cons_succ, Act.put, List.setIfInBounds_toArray, List.set_cons_zero, List.set_cons_succ]
  refine wpAnyH_ready (rs := [19]) (by kernel_rfl) (by simp) (AllReadyH.cons rfl (fun K hK => ?_) AllReadyH.nil)
  rw [if_pos (by rfl)]
  go_simp
  go_at_call 32
  refine (w_of2 _).mono ?_
  rintro e w15 ⟨v15, rfl, ho, hb⟩
  obtain ⟨A15, n15, c15, rfl, HL15, hc15, hm15, hr⟩ := ho.form
  clear ho
  have hS1 := hHeld.then hb
  have HRb := Lib.hid hr
  clear hr
  clear hHeld hb
  go_wp2_with fail
  refine hK.out _ _ hS1 (fun hHeld => ?_)
  clear hK K hS1
  try simp only [List.getElem_toArray, List.getElem_cons_zero, List.getElem_cons_succ, Act.put, List.setIfInBounds_toArray, List.set_cons_zero, List.set_cons_succ]
  refine wpAnyH_ready (rs := [21]) (by kernel_rfl) (by simp) (AllReadyH.cons rfl (fun K hK => ?_) AllReadyH.nil)
  rw [if_pos (by rfl)]
  go_simp
  go_at_call 33
  refine (none_any _).mono ?_
  rintro e w16 ⟨v16, rfl, ho, hb⟩
  obtain ⟨A16, n16, c16, rfl, HL16, hc16, hm16, hr⟩ := ho.form
  clear ho
  have hS1 := hHeld.then hb
  have HRbx := Lib.hid (HRb.out.below hb)
  clear HRb
  have HRb := HRbx
  clear HRbx
  have HRn := Lib.hid hr
  clear hr
  clear hHeld hb
  go_wp2_with fail
  refine hK.out _ _ hS1 (fun hHeld => ?_)
  clear hK K hS1
  try simp only [List.getElem_toArray, List.getElem_cons_zero, List.getElem_cons_succ, Act.put, List.setIfInBounds_toArray, List.set_cons_zero, List.set_cons_succ]
  refine wpAnyH_ready (rs := [22]) (by kernel_rfl) (by simp) (AllReadyH.cons rfl (fun K hK => ?_) AllReadyH.nil)
  rw [if_pos (by rfl)]
  go_simp
  go_at_call 23
  refine (join_any 4 [⟨2, 0, 0, pA⟩] [⟨1, 0, 0, nilS⟩] A1 n1 c1 A16 n16 c16 hHeld.x1.len HL16.out (by have := hHeld.x1.len; simp at this; omega) (by have := HL16.out; simp at this; omega) (by have := hHeld.x1.len; have := HL16.out; simp at *; omega) (by intro x hx; simp at hx; subst hx; simp) _ hHeld.x1.rd HRn.out).mono ?_
  rintro e w17 ⟨v17, rfl, ho, hb⟩
  obtain ⟨A17, n17, c17, rfl, HL17, hc17, hm17, hr⟩ := ho.form
  clear ho
  have hS1 := hHeld.then hb
  clear HRn
  have HRbx := Lib.hid (HRb.out.below hb)
  clear HRb
  have HRb := HRbx
  clear HRbx
  rw [jn_1] at HL17 hr
  have HRj := Lib.hid hr
  clear hr
  clear hHeld hb
  go_wp2_with fail
  refine hK.out _ _ hS1 (fun hHeld => ?_)
  clear hK K hS1
  try simp only [List.getElem_toArray, List.getElem_cons_zero, List.getElem_cons_succ, Act.put, List.setIfInBounds_toArray, List.set_cons_zero, List.set_cons_succ]
  refine wpAnyH_ready (rs := [23]) (by kernel_rfl) (by simp) (AllReadyH.cons rfl (fun K hK => ?_) AllReadyH.nil)
  rw [if_pos (by rfl)]
  go_simp
  go_at_call 16
  refine (same_true (flat 0 tA0) (flat 0 tA0) rfl A15 n15 c15 A17 n17 c17 HL15.out HL17.out (Nat.le_trans hc15 hm15) _ HRb.out HRj.out).mono ?_
  rintro e w18 ⟨rfl, hb⟩
  have hS1 := hHeld.then hb
  clear HRb
  clear HRj
  clear hHeld hb
  go_wp2_with fail
  refine hK.out _ _ hS1 (fun hHeld => ?_)
  clear hK K hS1
  try simp only [List.getElem_toArray, List.getElem_cons_zero, List.getElem_cons_succ, Act.put, List.setIfInBounds_toArray, List.set_cons_zero, List.set_cons_succ]
  refine wpAnyH_take (i := 24) (v := ?vza24) rfl (by kernel_rfl) (by kernel_rfl) (by kernel_rfl) (fun _ _ _ h => h) (Or.inl ⟨by rfl, ?yza24⟩) hHeld ?rza24
  case yza24 => (intro wS hSw; clear hSw; go_simp; try (with_reducible rfl))
  try simp only [List.getElem_toArray, List.getElem_cons_zero, List.getElem_cons_succ, Act.put, List.setIfInBounds_toArray, List.set_cons_zero, List.set_cons_succ]
  refine wpAnyH_take (i := 25) (v := ?vza25) rfl (by kernel_rfl) (by kernel_rfl) (by kernel_rfl) (fun _ _ _ h => h) (Or.inl ⟨by rfl, ?yza25⟩) hHeld ?rza25
  case yza25 => (intro wS hSw; clear hSw; go_simp; try (with_reducible rfl))
  try simp only [List.getElem_toArray, List.getElem_cons_zero, List.getElem_cons_succ, Act.put, List.setIfInBounds_toArray, List.set_cons_zero, List.set_cons_succ]
  refine wpAnyH_ready (rs := [26]) (by kernel_rfl) (by simp) (AllReadyH.cons rfl (fun K hK => ?_) AllReadyH.nil)
  rw [if_pos (by rfl)]
  go_simp
  go_at_call 34
  refine (w_f1 _).mono ?_
  rintro e w19 ⟨rfl, hb⟩
  have hS1 := hHeld.then hb
  clear hHeld hb
  go_wp2_with fail
  refine hK.out _ _ hS1 (fun hHeld => ?_)
  clear hK K hS1
  try simp only [List.getElem_toArray, List.getElem_cons_zero, List.getElem_cons_succ, Act.put, List.setIfInBounds_toArray, List.set_cons_zero, List.set_cons_succ]
  refine wpAnyH_take (i := 27) (v := ?vza27) rfl (by kernel_rfl) (by kernel_rfl) (by kernel_rfl) (fun _ _ _ h => h) (Or.inl ⟨by rfl, ?yza27⟩) hHeld ?rza27
  case yza27 => (intro wS hSw; clear hSw; go_simp; try (with_reducible rfl))
  try simp only [List.getElem_toArray, List.getElem_cons_zero, List.getElem_cons_succ, Act.put, List.setIfInBounds_toArray, List.set_cons_zero, List.set_cons_succ]
  refine wpAnyH_take (i := 28) (v := ?vza28) rfl (by kernel_rfl) (by kernel_rfl) (by kernel_rfl) (fun _ _ _ h => h) (Or.inl ⟨by rfl, ?yza28⟩) hHeld ?rza28
  case yza28 => (intro wS hSw; clear hSw; go_simp; try (with_reducible rfl))
  try simp only [List.getElem_toArray, List.getElem_cons_zero, List.getElem_cons_succ, Act.put, List.setIfInBounds_toArray, List.set_cons_zero, List.set_cons_succ]
  refine wpAnyH_ready (rs := [29]) (by kernel_rfl) (by simp) (AllReadyH.cons rfl (fun K hK => ?_) AllReadyH.nil)
  rw [if_pos (by rfl)]
  go_simp
  go_at_call 34
  refine (w_f2 _).mono ?_
  rintro e w20 ⟨rfl, hb⟩
  have hS1 := hHeld.then hb
  clear hHeld hb
  go_wp2_with fail
  refine hK.out _ _ hS1 (fun hHeld => ?_)
  clear hK K hS1
  try simp only [List.getElem_toArray, List.getElem_cons_zero, List.getElem_cons_succ, Act.put, List.setIfInBounds_toArray, List.set_cons_zero, List.set_cons_succ]
  refine wpAnyH_take (i := 30) (v := ?vza30) rfl (by kernel_rfl) (by kernel_rfl) (by kernel_rfl) (fun _ _ _ h => h) (Or.inl ⟨by rfl, ?yza30⟩) hHeld ?rza30
  case yza30 => (intro wS hSw; clear hSw; go_simp; try (with_reducible rfl))
  try simp only [List.getElem_toArray, List.getElem_cons_zero, List.getElem_cons_succ, Act.put, List.setIfInBounds_toArray, List.set_cons_zero, List.set_cons_succ]
  refine wpAnyH_take (i := 31) (v := ?vza31) rfl (by kernel_rfl) (by kernel_rfl) (by kernel_rfl) (fun _ _ _ h => h) (Or.inl ⟨by rfl, ?yza31⟩) hHeld ?rza31
  case yza31 => (intro wS hSw; clear hSw; go_simp; try (with_reducible rfl))
  try simp only [List.getElem_toArray, List.getElem_cons_zero, List.getElem_cons_succ, Act.put, List.setIfInBounds_toArray, List.set_cons_zero, List.set_cons_succ]
  refine wpAnyH_ready (rs := [32]) (by kernel_rfl) (by simp) (AllReadyH.cons rfl (fun K hK => ?_) AllReadyH.nil)
  rw [if_pos (by rfl)]
  go_simp
  go_at_call 34
  refine (w_f3 _).mono ?_
  rintro e w21 ⟨rfl, hb⟩
  have hS1 := hHeld.then hb
  clear hHeld hb
  go_wp2_with fail
  refine hK.out _ _ hS1 (fun hHeld => ?_)
  clear hK K hS1
  try simp only [List.getElem_toArray, List.getElem_cons_zero, List.getElem_cons_succ, Act.put, List.setIfInBounds_toArray, List.set_cons_zero, List.set_cons_succ]
  refine wpAnyH_take (i := 33) (v := ?vza33) rfl (by kernel_rfl) (by kernel_rfl) (by kernel_rfl) (fun _ _ _ h => h) (Or.inl ⟨by rfl, ?yza33⟩) hHeld ?rza33
  case yza33 => (intro wS hSw; clear hSw; go_simp; try (with_reducible rfl))
  try simp only [List.getElem_toArray, List.getElem_cons_zero, List.getElem_cons_succ, Act.put, List.setIfInBounds_toArray, List.set_cons_zero, List.set_cons_succ]
  refine wpAnyH_take (i := 34) (v := ?vza34) rfl (by kernel_rfl) (by kernel_rfl) (by kernel_rfl) (fun _ _ _ h => h) (Or.inl ⟨by rfl, ?yza34⟩) hHeld ?rza34
  case yza34 => (intro wS hSw; clear hSw; go_simp; try (with_reducible rfl))
  try simp only [List.getElem_toArray, List.getElem_cons_zero, List.getElem_cons_succ, Act.put, List.setIfInBounds_toArray, List.set_cons_zero, List.set_cons_succ]
  refine wpAnyH_ready (rs := [35]) (by kernel_rfl) (by simp) (AllReadyH.cons rfl (fun K hK => ?_) AllReadyH.nil)
  rw [if_pos (by rfl)]
  go_simp
  go_at_call 34
  refine (w_f4 _).mono ?_
  rintro e w22 ⟨rfl, hb⟩
  have hS1 := hHeld.then hb
  clear hHeld hb
  go_wp2_with fail
  refine hK.out _ _ hS1 (fun hHeld => ?_)
  clear hK K hS1
  try simp only [List.getElem_toArray, List.getElem_cons_zero, List.getElem_cons_succ, Act.put, List.setIfInBounds_toArray, List.set_cons_zero, List.set_cons_succ]
  refine wpAnyH_take (i := 36) (v := ?vza36) rfl (by kernel_rfl) (by kernel_rfl) (by kernel_rfl) (fun _ _ _ h => h) (Or.inl ⟨by rfl, ?yza36⟩) hHeld ?rza36
  case yza36 => (intro wS hSw; clear hSw; go_simp; try (with_reducible rfl))
  try simp only [List.getElem_toArray, List.getElem_cons_zero, List.getElem_cons_succ, Act.put, List.setIfInBounds_toArray, List.set_cons_zero, List.set_cons_succ]
  refine wpAnyH_take (i := 37) (v := ?vza37) rfl (by kernel_rfl) (by kernel_rfl) (by kernel_rfl) (fun _ _ _ h => h) (Or.inl ⟨by rfl, ?yza37⟩) hHeld ?rza37
  case yza37 => (intro wS hSw; clear hSw; go_simp; try (with_reducible rfl))
  try simp only [List.getElem_toArray, List.getElem_cons_zero, List.getElem_cons_succ, Act.put, List.setIfInBounds_toArray, List.set_cons_zero, List.set_cons_succ]
  refine wpAnyH_take (i := 38) (v := ?vza38) rfl (by kernel_rfl) (by kernel_rfl) (by kernel_rfl) (fun _ _ _ h => h) (Or.inl ⟨by rfl, ?yza38⟩) hHeld ?rza38
  case yza38 => (intro wS hSw; have q1 := cell_of_row wS _ 0 _ _ _ hSw.x1.cell; clear hSw; go_simp; try (with_reducible rfl))
  try simp only [List.getElem_toArray, List.getElem_cons_zero, List.getElem_cons_succ, Act.put, List.setIfInBounds_toArray, List.set_cons_zero, List.set_cons_succ]
  refine wpAnyH_take (i := 39) (v := ?vza39) rfl (by kernel_rfl) (by kernel_rfl) (by kernel_rfl) (fun _ _ _ h => h) (Or.inl ⟨by rfl, ?yza39⟩) hHeld ?rza39
  case yza39 => (intro wS hSw; have q1 := cell_of_row wS _ 0 _ _ _ hSw.x2.cell; clear hSw; go_simp; try (with_reducible rfl))
  try simp only [List.getElem_toArray, List.getElem_cons_zero, List.getElem_cons_succ, Act.put, List.setIfInBounds_toArray, List.set_cons_zero, List.set_cons_succ]
  refine wpAnyH_ready (rs := [40]) (by kernel_rfl) (by simp) (AllReadyH.cons rfl (fun K hK => ?_) AllReadyH.nil)
  rw [if_pos (by rfl)]
  go_simp
  go_at_call 23
  refine (join_any 3 [⟨2, 0, 0, pA⟩] [⟨2, 0, 0, pB⟩] A1 n1 c1 A2 n2 c2 hHeld.x1.len hHeld.x2.len (by have := hHeld.x1.len; simp at this; omega) (by have := hHeld.x2.len; simp at this; omega) (by have := hHeld.x1.len; have := hHeld.x2.len; simp at *; omega) (by intro x hx; simp at hx; subst hx; simp) _ hHeld.x1.rd hHeld.x2.rd).mono ?_
  rintro e w23 ⟨v23, rfl, ho, hb⟩
  obtain ⟨A23, n23, c23, rfl, HL23, hc23, hm23, hr⟩ := ho.form
  clear ho
  have hS1 := hHeld.then hb
  have e23 : n23 = 3 := by have := HL23.out; simp [joinE] at this; omega
  subst e23
  have HRs := Lib.hid hr
  clear hr
  clear hHeld hb
  go_wp2_with fail
  refine hK.out _ _ hS1 (fun hHeld => ?_)
  clear hK K hS1
  try simp only [List.getElem_toArray, List.getElem_cons_zero, List.getElem_cons_succ, Act.put, List.setIfInBounds_toArray, List.set_cons_zero, List.set_cons_succ]
  refine wpAnyH_ready (rs := [41]) (by kernel_rfl) (by simp) (AllReadyH.cons rfl (fun K hK => ?_) AllReadyH.nil)
  rw [if_pos (by rfl)]
  go_simp
  go_at_call 24
  refine (over_any 5 (joinE 3 [⟨2, 0, 0, pA⟩] [⟨2, 0, 0, pB⟩]) A23 3 c23 HL23.out (by omega) (by omega) _ HRs.out).mono ?_
  rintro e w24 ⟨v24, rfl, ho, hb⟩
  obtain ⟨A24, n24, c24, rfl, HL24, hc24, hm24, hr⟩ := ho.form
  clear ho
  have hS1 := hHeld.then hb
  clear HRs
  rw [show ((3 - 1 : Nat) : Int) = 2 from rfl, jn_2] at HL24 hr
  have HRo := Lib.hid hr
  clear hr
  clear hHeld hb
  go_wp2_with fail
  refine hK.out _ _ hS1 (fun hHeld => ?_)
  clear hK K hS1
  try simp only [List.getElem_toArray, List.getElem_cons_zero, List.getElem_cons_succ, Act.put, List.setIfInBounds_toArray, List.set_cons_zero, List.set_cons_succ]
  refine wpAnyH_ready (rs := [42]) (by kernel_rfl) (by simp) (AllReadyH.cons rfl (fun K hK => ?_) AllReadyH.nil)
  rw [if_pos (by rfl)]
  go_simp
  go_at_call 35
  refine (w_p1 A24 n24 c24 _ (HT.out.below hHeld.below) HL24.out HRo.out hc24).mono ?_
  rintro e w25 ⟨rfl, hb⟩
  have hS1 := hHeld.then hb
  clear HRo
  clear hHeld hb
  go_wp2_with fail
  refine hK.out _ _ hS1 (fun hHeld => ?_)
  clear hK K hS1
  try simp only [List.getElem_toArray, List.getElem_cons_zero, List.getElem_cons_succ, Act.put, List.setIfInBounds_toArray, List.set_cons_zero, List.set_cons_succ]
  refine wpAnyH_take (i := 43) (v := ?vza43) rfl (by kernel_rfl) (by kernel_rfl) (by kernel_rfl) (fun _ _ _ h => h) (Or.inl ⟨by rfl, ?yza43⟩) hHeld ?rza43
  case yza43 => (intro wS hSw; clear hSw; go_simp; try (with_reducible rfl))
  try simp only [List.getElem_toArray, List.getElem_cons_zero, List.getElem_cons_succ, Act.put, List.setIfInBounds_toArray, List.set_cons_zero, List.set_cons_succ]
  refine wpAnyH_take (i := 44) (v := ?vza44) rfl (by kernel_rfl) (by kernel_rfl) (by kernel_rfl) (fun _ _ _ h => h) (Or.inl ⟨by rfl, ?yza44⟩) hHeld ?rza44
  case yza44 => (intro wS hSw; clear hSw; go_simp; try (with_reducible rfl))
  try simp only [List.getElem_toArray, List.getElem_cons_zero, List.getElem_cons_succ, Act.put, List.setIfInBounds_toArray, List.set_cons_zero, List.set_cons_succ]
  refine wpAnyH_ready (rs := [45]) (by kernel_rfl) (by simp) (AllReadyH.cons rfl (fun K hK => ?_) AllReadyH.nil)
  rw [if_pos (by rfl)]
  go_simp
  refine hK.out _ _ (hHeld.then (bl_alloc (Below.refl _ _) _)) (fun hHeld => ?_)
  clear hK K
  try simp only [List.getElem_toArray, List.getElem_cons_zero, List.getElem_cons_succ, Act.put, List.setIfInBounds_toArray, List.set_cons_zero, List.set_cons_succ]
  refine wpAnyH_ready (rs := [46]) (by kernel_rfl) (by simp) (AllReadyH.cons rfl (fun K hK => ?_) AllReadyH.nil)
  rw [if_pos (by rfl)]
  go_simp
  go_at_call 31
  refine (of_abcx _).mono ?_
  rintro e w26 ⟨rfl, hb⟩
  have hS1 := hHeld.then hb
  clear hHeld hb
  go_wp2_with fail
  refine hK.out _ _ hS1 (fun hHeld => ?_)
  clear hK K hS1
  try simp only [List.getElem_toArray, List.getElem_cons_zero, List.getElem_cons_succ, Act.put, List.setIfInBounds_toArray, List.set_cons_zero, List.set_cons_succ]
  refine wpAnyH_ready (rs := [47]) (by kernel_rfl) (by simp) (AllReadyH.cons rfl (fun K hK => ?_) AllReadyH.nil)
  rw [if_pos (by rfl)]
  go_simp
  go_at_call 30
  refine (one_pat pABCX _).mono ?_
  rintro e w27 ⟨v27, rfl, ho, hb⟩
  obtain ⟨A27, n27, c27, rfl, HL27, hc27, hm27, hr⟩ := ho.form
  clear ho
  have hS1 := hHeld.then hb
  have HRp := Lib.hid hr
  clear hr
  clear hHeld hb
  go_wp2_with fail
  refine hK.out _ _ hS1 (fun hHeld => ?_)
  clear hK K hS1
  try simp only [List.getElem_toArray, List.getElem_cons_zero, List.getElem_cons_succ, Act.put, List.setIfInBounds_toArray, List.set_cons_zero, List.set_cons_succ]
  refine wpAnyH_ready (rs := [48]) (by kernel_rfl) (by simp) (AllReadyH.cons rfl (fun K hK => ?_) AllReadyH.nil)
  rw [if_pos (by rfl)]
  go_simp
  go_at_call 35
  refine (w_p2 A27 n27 c27 _ (HT.out.below hHeld.below) HL27.out HRp.out hc27).mono ?_
  rintro e w28 ⟨rfl, hb⟩
  have hS1 := hHeld.then hb
  clear HRp
  clear hHeld hb
  go_wp2_with fail
  refine hK.out _ _ hS1 (fun hHeld => ?_)
  clear hK K hS1
  try simp only [List.getElem_toArray, List.getElem_cons_zero, List.getElem_cons_succ, Act.put, List.setIfInBounds_toArray, List.set_cons_zero, List.set_cons_succ]
  refine wpAnyH_take (i := 49) (v := ?vza49) rfl (by kernel_rfl) (by kernel_rfl) (by kernel_rfl) (fun _ _ _ h => h) (Or.inl ⟨by rfl, ?yza49⟩) hHeld ?rza49
  case yza49 => (intro wS hSw; clear hSw; go_simp; try (with_reducible rfl))
  try simp only [List.getElem_toArray, List.getElem_cons_zero, List.getElem_cons_succ, Act.put, List.setIfInBounds_toArray, List.set_cons_zero, List.set_cons_succ]
  refine wpAnyH_take (i := 50) (v := ?vza50) rfl (by kernel_rfl) (by kernel_rfl) (by kernel_rfl) (fun _ _ _ h => h) (Or.inl ⟨by rfl, ?yza50⟩) hHeld ?rza50
  case yza50 => (intro wS hSw; clear hSw; go_simp; try (with_reducible rfl))
  try simp only [List.getElem_toArray, List.getElem_cons_zero, List.getElem_cons_succ, Act.put, List.setIfInBounds_toArray, List.set_cons_zero, List.set_cons_succ]
  refine wpAnyH_ready (rs := [51]) (by kernel_rfl) (by simp) (AllReadyH.cons rfl (fun K hK => ?_) AllReadyH.nil)
  rw [if_pos (by rfl)]
  go_simp
  go_at_call 36
  refine (w_all _).mono ?_
  rintro e w29 ⟨rfl, hb⟩
  have hS1 := hHeld.then hb
  clear hHeld hb
  go_wp2_with fail
  refine hK.out _ _ hS1 (fun hHeld => ?_)
  clear hK K hS1
  try simp only [List.getElem_toArray, List.getElem_cons_zero, List.getElem_cons_succ, Act.put, List.setIfInBounds_toArray, List.set_cons_zero, List.set_cons_succ]
  refine wpAnyH_ready (rs := [52]) (by kernel_rfl) (by simp) (AllReadyH.cons rfl (fun K hK => ?_) AllReadyH.nil)
  rw [if_pos (by rfl)]
  go_simp
  go_at_call 30
  refine (one_pat pAll _).mono ?_
  rintro e w30 ⟨v30, rfl, ho, hb⟩
  obtain ⟨A30, n30, c30, rfl, HL30, hc30, hm30, hr⟩ := ho.form
  clear ho
  have hS1 := hHeld.then hb
  have HRq := Lib.hid hr
  clear hr
  clear hHeld hb
  go_wp2_with fail
  refine hK.out _ _ hS1 (fun hHeld => ?_)
  clear hK K hS1
  try simp only [List.getElem_toArray, List.getElem_cons_zero, List.getElem_cons_succ, Act.put, List.setIfInBounds_toArray, List.set_cons_zero, List.set_cons_succ]
  refine wpAnyH_ready (rs := [53]) (by kernel_rfl) (by simp) (AllReadyH.cons rfl (fun K hK => ?_) AllReadyH.nil)
  rw [if_pos (by rfl)]
  go_simp
  go_at_call 35
  refine (w_p3 A30 n30 c30 _ (HT.out.below hHeld.below) HL30.out HRq.out hc30).mono ?_
  rintro e w31 ⟨rfl, hb⟩
  have hS1 := hHeld.then hb
  clear HRq
  clear hHeld hb
  go_wp2_with fail
  refine hK.out _ _ hS1 (fun hHeld => ?_)
  clear hK K hS1
  try simp only [List.getElem_toArray, List.getElem_cons_zero, List.getElem_cons_succ, Act.put, List.setIfInBounds_toArray, List.set_cons_zero, List.set_cons_succ]
  refine wpAnyH_take (i := 54) (v := ?vza54) rfl (by kernel_rfl) (by kernel_rfl) (by kernel_rfl) (fun _ _ _ h => h) (Or.inl ⟨by rfl, ?yza54⟩) hHeld ?rza54
  case yza54 => (intro wS hSw; clear hSw; go_simp; try (with_reducible rfl))
  try simp only [List.getElem_toArray, List.getElem_cons_zero, List.getElem_cons_succ, Act.put, List.setIfInBounds_toArray, List.set_cons_zero, List.set_cons_succ]
  refine wpAnyH_take (i := 55) (v := ?vza55) rfl (by kernel_rfl) (by kernel_rfl) (by kernel_rfl) (fun _ _ _ h => h) (Or.inl ⟨by rfl, ?yza55⟩) hHeld ?rza55
  case yza55 => (intro wS hSw; clear hSw; go_simp; try (with_reducible rfl))
  try simp only [List.getElem_toArray, List.getElem_cons_zero, List.getElem_cons_succ, Act.put, List.setIfInBounds_toArray, List.set_cons_zero, List.set_cons_succ]
  refine wpAnyH_done (by kernel_rfl) ?_ _
  have HBb := Lib.hid hHeld.below
  clear hHeld
  go_wp2_with fail
  exact post_is HQ ⟨rfl, HBb.out⟩

end Go.Proofs.YteedmkokbapkgaaDoor
