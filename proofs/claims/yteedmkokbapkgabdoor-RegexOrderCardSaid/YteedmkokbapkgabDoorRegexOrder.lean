/- RegexOrder: the order and the brackets of ways, and the brackets of pieces, do not matter, whatever three patterns and text are handed in. Under: math/bits' table as the row lists it. -/
import Derived.Test.YteedmkokbapkgabDoorRgPs
import Derived.Test.YteedmkokbapkgabDoorRgR3
import Derived.Deep.DeepCutAuto
set_option linter.unusedVariables false
set_option linter.unusedSimpArgs false
namespace Go.Proofs.YteedmkokbapkgabDoor
open Go.ChangeShapes Go.WideShapes Go.ChangeAt Go.RowKit

def tri {α : Type} (a b c : α) : Nat → α := fun i => if i = 0 then a else if i = 1 then b else c
/-- Three patterns in an array, and a text, while the law goes on. -/
structure OS (w : World) (g : Nat) (Af : Nat → Option Addr) (nf cf : Nat → Nat) (Lf : Nat → List RN) (At : Option Addr) (T : List UInt8) (W : World) : Prop where
  k : W.heap[g]? = some (.cells #[.slice (Af 0) (nf 0) (cf 0), .slice (Af 1) (nf 1) (cf 1), .slice (Af 2) (nf 2) (cf 2)] 25 (0, 0))
  r : ∀ i, i < 3 → RdR W (Af i) (Lf i)
  rt : Rd W At T
  tab : Tab W
  below : Below w.heap.size w W
section
variable {w W W' : World} {g : Nat} {Af : Nat → Option Addr} {nf cf : Nat → Nat} {Lf : Nat → List RN} {At : Option Addr} {T : List UInt8}
theorem OS.then (h : OS w g Af nf cf Lf At T W) (hb : Below W.heap.size W W') : OS w g Af nf cf Lf At T W' :=
  ⟨(hb.block g (Array.getElem?_eq_some_iff.1 h.k).1).trans h.k, fun i hi => (h.r i hi).below hb, h.rt.below hb, h.tab.below hb, bl_trans h.below hb⟩
theorem OS.at (h : OS w g Af nf cf Lf At T W) {i : Nat} (hi : i < 3) : W.cell? ⟨g, i, none⟩ = some (.slice (Af i) (nf i) (cf i)) := by
  rw [cell_of_row W g i _ _ _ h.k]
  match i, hi with
  | 0, _ => rfl
  | 1, _ => rfl
  | 2, _ => rfl
theorem OS.cut (h : OS w g Af nf cf Lf At T W) (j : Nat) : OS w g Af nf cf Lf At (T.take j) W := ⟨h.k, h.r, h.rt.take j, h.tab, h.below⟩
end
/-- Three patterns in variables of their own. -/
structure QS (w : World) (g1 g2 g3 : Nat) (Af : Nat → Option Addr) (nf cf : Nat → Nat) (Lf : Nat → List RN) (At : Option Addr) (T : List UInt8) (W : World) : Prop where
  k1 : W.heap[g1]? = some (.cells #[.slice (Af 0) (nf 0) (cf 0)] 24 (0, 0))
  k2 : W.heap[g2]? = some (.cells #[.slice (Af 1) (nf 1) (cf 1)] 24 (0, 0))
  k3 : W.heap[g3]? = some (.cells #[.slice (Af 2) (nf 2) (cf 2)] 24 (0, 0))
  r : ∀ i, i < 3 → RdR W (Af i) (Lf i)
  rt : Rd W At T
  tab : Tab W
  below : Below w.heap.size w W
section
variable {w W W' : World} {g1 g2 g3 : Nat} {Af : Nat → Option Addr} {nf cf : Nat → Nat} {Lf : Nat → List RN} {At : Option Addr} {T : List UInt8}
theorem QS.then (h : QS w g1 g2 g3 Af nf cf Lf At T W) (hb : Below W.heap.size W W') : QS w g1 g2 g3 Af nf cf Lf At T W' :=
  ⟨(hb.block g1 (Array.getElem?_eq_some_iff.1 h.k1).1).trans h.k1, (hb.block g2 (Array.getElem?_eq_some_iff.1 h.k2).1).trans h.k2, (hb.block g3 (Array.getElem?_eq_some_iff.1 h.k3).1).trans h.k3, fun i hi => (h.r i hi).below hb, h.rt.below hb, h.tab.below hb, bl_trans h.below hb⟩
theorem QS.q1 (h : QS w g1 g2 g3 Af nf cf Lf At T W) : W.cell? ⟨g1, 0, none⟩ = some (.slice (Af 0) (nf 0) (cf 0)) := cell_of_row W _ 0 _ _ _ h.k1
theorem QS.q2 (h : QS w g1 g2 g3 Af nf cf Lf At T W) : W.cell? ⟨g2, 0, none⟩ = some (.slice (Af 1) (nf 1) (cf 1)) := cell_of_row W _ 0 _ _ _ h.k2
theorem QS.q3 (h : QS w g1 g2 g3 Af nf cf Lf At T W) : W.cell? ⟨g3, 0, none⟩ = some (.slice (Af 2) (nf 2) (cf 2)) := cell_of_row W _ 0 _ _ _ h.k3
end

set_option maxRecDepth 100000 in
set_option maxHeartbeats 16000000 in
theorem order_walk0 (Af : Nat → Option Addr) (nf cf : Nat → Nat) (Lf : Nat → List RN) (T0 : List UInt8) (At : Option Addr) (nt ct : Nat) (hn : ∀ i, i < 3 → (Lf i).length = nf i) (hc : ∀ i, i < 3 → nf i ≤ cf i) (hm : ∀ i, i < 3 → cf i * 56 ≤ 140737488351232)
    (hnt : T0.length = nt) (hct : nt ≤ ct) (hmt : ct ≤ 140737488351232) (w : World) (hT : Tab w) (hr : ∀ i, i < 3 → RdR w (Af i) (Lf i)) (hrt : Rd w At T0) :
    Calls Tryd.prog 3 #[.agg #[.slice (Af 0) (nf 0) (cf 0), .slice (Af 1) (nf 1) (cf 1), .slice (Af 2) (nf 2) (cf 2)], .slice At nt ct] w (Yes w) := by
  obtain ⟨m, HM, hm12, hm13, hmin⟩ := min_lit nt 20 20 rfl
  have hctm := cut_to2 At nt ct m hm12 hct
  have b0 := bl_alloc (Below.refl w.heap.size w) (.cells #[.slice (Af 0) (nf 0) (cf 0), .slice (Af 1) (nf 1) (cf 1), .slice (Af 2) (nf 2) (cf 2)] 25)
  have s0 : OS w w.heap.size Af nf cf Lf At T0 (w.alloc (.cells #[.slice (Af 0) (nf 0) (cf 0), .slice (Af 1) (nf 1) (cf 1), .slice (Af 2) (nf 2) (cf 2)] 25)) :=
    ⟨heap_alloc_new w _, fun i hi => (hr i hi).below b0, hrt.below b0, hT.below b0, b0⟩
  generalize hQ : Yes w = Q
  have HQ := Lib.hid hQ
  have S0 := Lib.hid s0
  have HN := Lib.hid hn
  have HC := Lib.hid hc
  have HMX := Lib.hid hm
  have HNT := Lib.hid hnt
  clear hQ hT hr hrt hn hc hm hnt s0 b0
  go_enter Tryd.func3, Tryd.ntmps3
  go_wp2_with fail
  refine (works_any _ S0.out.tab).mono ?_
  rintro e w2 ⟨rfl, hb2⟩
  have S2 := Lib.hid (S0.out.then hb2)
  clear hb2 S0
  generalize w.heap.size = g at *
  go_wp2_with fail
  go_loopw [5] (fun vi wr => ∃ i : Nat, i ≤ 3 ∧ vi = .int .i64 (i : Int) ∧ Hid (OS w g Af nf cf Lf At T0 wr) ∧ Hid (∀ j, j < i → checkE (Lf j) = 0 ∧ nf j ≤ 60)) (fun vi _ => 3 - (intOf vi).toNat)
  case atStart => exact ⟨0, by omega, rfl, S2, fun j h => absurd h (by omega)⟩
  case round =>
    obtain ⟨i, hi, rfl, SR, HF⟩ := hrel
    clear S2
    by_cases hlt : i < 3
    · have q1 := SR.out.at hlt
      have HQ1 := Lib.hid q1
      go_wp2_with fail
      refine (check_any (Lf i) (Af i) (nf i) (cf i) (HN.out i hlt) _ (SR.out.r i hlt) (HC.out i hlt)).mono ?_
      rintro e w3 ⟨rfl, hb3⟩
      have S3 := Lib.hid (SR.out.then hb3)
      clear hb3 SR q1 HQ1
      by_cases hk : ¬ checkE (Lf i) = 0
      · generalize checkE (Lf i) = k at *
        have h' : ((k : Int) == 0) = false := by simp; omega
        go_wp2_with fail
        exact post_is HQ ⟨rfl, S3.out.below⟩
      rw [Decidable.not_not] at hk
      rw [hk]
      have q1 := S3.out.at hlt
      by_cases h60 : 60 < nf i
      · have hgt : decide ((60 : Int) < (nf i : Int)) = true := by simp; omega
        go_wp2_with fail
        exact post_is HQ ⟨rfl, S3.out.below⟩
      have hgt : decide ((60 : Int) < (nf i : Int)) = false := by simp; omega
      have HK := Lib.hid hk
      clear hk
      go_wp2_with fail
      refine ⟨⟨i + 1, by omega, by go_num, S3, fun j hj => ?_⟩, by simp [intOf]; omega⟩
      by_cases hji : j = i
      · subst hji
        exact ⟨HK.out, by omega⟩
      · exact HF.out j (by omega)
    · obtain rfl : i = 3 := by omega
      obtain ⟨ha, hna⟩ := HF.out 0 (by omega)
      obtain ⟨hb, hnb⟩ := HF.out 1 (by omega)
      obtain ⟨hc, hnc⟩ := HF.out 2 (by omega)
      obtain ⟨ta, ea, hs1, hs2⟩ := tree_or ha
      obtain ⟨tb, eb, hs3, hs4⟩ := tree_or hb
      obtain ⟨tc, ec, hs5, hs6⟩ := tree_or hc
      have hza : ta.size = nf 0 := by rw [hs1, HN.out 0 (by omega)]
      have hzb : tb.size = nf 1 := by rw [hs3, HN.out 1 (by omega)]
      have hzc : tc.size = nf 2 := by rw [hs5, HN.out 2 (by omega)]
      have EA := Lib.hid ea
      have EB := Lib.hid eb
      have EC := Lib.hid ec
      have S4 := Lib.hid (SR.out.cut m)
      have HT3 := Lib.hid (show (T0.take m).length = m by rw [List.length_take, HNT.out]; omega)
      clear ha hb hc ea eb ec hs1 hs2 hs3 hs4 hs5 hs6 HF SR
      generalize T0.take m = T at *
      go_wp2_with fail
      go_cut [6, 7, 8] (fun t6 t7 t8 wx => ∃ g1 g2 g3, t6 = .pointer (some ⟨g1, 0, none⟩) ∧ t7 = .pointer (some ⟨g2, 0, none⟩) ∧ t8 = .pointer (some ⟨g3, 0, none⟩) ∧ QS w g1 g2 g3 Af nf cf Lf At T wx)
      case first =>
        refine wp_region_held_drew (S := fun W => Below wr.heap.size wr W) (by kernel_rfl) (bl_drewN (Below.refl _ _) 1) (fun hHeld => ?_)
        try simp only [List.getElem_toArray, List.getElem_cons_zero, List.getElem_cons_succ, Act.put, List.setIfInBounds_toArray, List.set_cons_zero, List.set_cons_succ]
        refine wpAnyH_take (i := 0) (v := ?vzr0) rfl (by kernel_rfl) (by kernel_rfl) (by kernel_rfl) (fun _ _ _ h => h) (Or.inl ⟨by rfl, ?yzr0⟩) hHeld ?rzr0
        case yzr0 => (intro wS hSw; clear hSw; go_simp; try (with_reducible rfl))
        try simp only [List.getElem_toArray, List.getElem_cons_zero, List.getElem_cons_succ, Act.put, List.setIfInBounds_toArray, List.set_cons_zero, List.set_cons_succ]
        refine wpAnyH_take (i := 1) (v := ?vzr1) rfl (by kernel_rfl) (by kernel_rfl) (by kernel_rfl) (fun _ _ _ h => h) (Or.inl ⟨by rfl, ?yzr1⟩) hHeld ?rzr1
        case yzr1 => (intro wS hSw; have q1 := (S4.out.then hSw).at (i := 0) (by omega); clear hSw; go_simp; try (with_reducible rfl))
        try simp only [List.getElem_toArray, List.getElem_cons_zero, List.getElem_cons_succ, Act.put, List.setIfInBounds_toArray, List.set_cons_zero, List.set_cons_succ]
        refine wpAnyH_take (i := 2) (v := ?vzr2) rfl (by kernel_rfl) (by kernel_rfl) (by kernel_rfl) (fun _ _ _ h => h) (Or.inl ⟨by rfl, ?yzr2⟩) hHeld ?rzr2
        case yzr2 => (intro wS hSw; clear hSw; go_simp; try (with_reducible rfl))
        try simp only [List.getElem_toArray, List.getElem_cons_zero, List.getElem_cons_succ, Act.put, List.setIfInBounds_toArray, List.set_cons_zero, List.set_cons_succ]
        refine wpAnyH_take (i := 3) (v := ?vzr3) rfl (by kernel_rfl) (by kernel_rfl) (by kernel_rfl) (fun _ _ _ h => h) (Or.inl ⟨by rfl, ?yzr3⟩) hHeld ?rzr3
        case yzr3 => (intro wS hSw; have q1 := (S4.out.then hSw).at (i := 1) (by omega); clear hSw; go_simp; try (with_reducible rfl))
        try simp only [List.getElem_toArray, List.getElem_cons_zero, List.getElem_cons_succ, Act.put, List.setIfInBounds_toArray, List.set_cons_zero, List.set_cons_succ]
        refine wpAnyH_take (i := 4) (v := ?vzr4) rfl (by kernel_rfl) (by kernel_rfl) (by kernel_rfl) (fun _ _ _ h => h) (Or.inl ⟨by rfl, ?yzr4⟩) hHeld ?rzr4
        case yzr4 => (intro wS hSw; clear hSw; go_simp; try (with_reducible rfl))
        try simp only [List.getElem_toArray, List.getElem_cons_zero, List.getElem_cons_succ, Act.put, List.setIfInBounds_toArray, List.set_cons_zero, List.set_cons_succ]
        refine wpAnyH_take (i := 5) (v := ?vzr5) rfl (by kernel_rfl) (by kernel_rfl) (by kernel_rfl) (fun _ _ _ h => h) (Or.inl ⟨by rfl, ?yzr5⟩) hHeld ?rzr5
        case yzr5 => (intro wS hSw; have q1 := (S4.out.then hSw).at (i := 2) (by omega); clear hSw; go_simp; try (with_reducible rfl))
        try simp only [List.getElem_toArray, List.getElem_cons_zero, List.getElem_cons_succ, Act.put, List.setIfInBounds_toArray, List.set_cons_zero, List.set_cons_succ]
        generalize wr.drew = wa0 at *
        refine wpAnyH_ready (rs := [6, 7, 8]) (by kernel_rfl) (by simp) (AllReadyH.cons rfl (fun K hK => ?_) (AllReadyH.cons rfl (fun K hK => ?_) (AllReadyH.cons rfl (fun K hK => ?_) AllReadyH.nil)))
        · go_simp
          have hk6 := heap_alloc_new wa0 (.cells #[.slice none 0 0] 24)
          have hsz6 := hHeld.size
          have hb := bl_alloc hHeld (.cells #[.slice none 0 0] 24)
          refine hK.out _ _ hb (fun hHeld => ?_)
          clear hK K hb
          generalize wa0.alloc (.cells #[.slice none 0 0] 24) = wa1 at *
          generalize wa0.heap.size = p6 at *
          try simp only [List.getElem_toArray, List.getElem_cons_zero, List.getElem_cons_succ, Act.put, List.setIfInBounds_toArray, List.set_cons_zero, List.set_cons_succ]
          refine wpAnyH_ready (rs := [7, 8]) (by kernel_rfl) (by simp) (AllReadyH.cons rfl (fun K hK => ?_) (AllReadyH.cons rfl (fun K hK => ?_) AllReadyH.nil))
          · go_simp
            have hk7 := heap_alloc_new wa1 (.cells #[.slice none 0 0] 24)
            have hl67 := (Array.getElem?_eq_some_iff.1 hk6).1
            have hn6 := (Below.heap_alloc wa1 (.cells #[.slice none 0 0] 24) p6 hl67).trans hk6
            clear hk6
            have hk6 := hn6
            clear hn6
            have hsz7 := hHeld.size
            have hb := bl_alloc hHeld (.cells #[.slice none 0 0] 24)
            refine hK.out _ _ hb (fun hHeld => ?_)
            clear hK K hb
            generalize wa1.alloc (.cells #[.slice none 0 0] 24) = wa2 at *
            generalize wa1.heap.size = p7 at *
            try simp only [List.getElem_toArray, List.getElem_cons_zero, List.getElem_cons_succ, Act.put, List.setIfInBounds_toArray, List.set_cons_zero, List.set_cons_succ]
            refine wpAnyH_ready (rs := [8]) (by kernel_rfl) (by simp) (AllReadyH.cons rfl (fun K hK => ?_) AllReadyH.nil)
            go_simp
            have hk8 := heap_alloc_new wa2 (.cells #[.slice none 0 0] 24)
            have hl68 := (Array.getElem?_eq_some_iff.1 hk6).1
            have hn6 := (Below.heap_alloc wa2 (.cells #[.slice none 0 0] 24) p6 hl68).trans hk6
            clear hk6
            have hk6 := hn6
            clear hn6
            have hl78 := (Array.getElem?_eq_some_iff.1 hk7).1
            have hn7 := (Below.heap_alloc wa2 (.cells #[.slice none 0 0] 24) p7 hl78).trans hk7
            clear hk7
            have hk7 := hn7
            clear hn7
            have hsz8 := hHeld.size
            have hb := bl_alloc hHeld (.cells #[.slice none 0 0] 24)
            refine hK.out _ _ hb (fun hHeld => ?_)
            clear hK K hb
            generalize wa2.alloc (.cells #[.slice none 0 0] 24) = wa3 at *
            generalize wa2.heap.size = p8 at *
            try simp only [List.getElem_toArray, List.getElem_cons_zero, List.getElem_cons_succ, Act.put, List.setIfInBounds_toArray, List.set_cons_zero, List.set_cons_succ]
            refine wpAnyH_ready (rs := [9]) (by kernel_rfl) (by simp) (AllReadyH.cons rfl (fun K hK => ?_) AllReadyH.nil)
            rw [if_pos (by rfl)]
            refine wp_store_row 24 _ _ rfl p6 #[.slice (Af 0) (nf 0) (cf 0)] rfl rfl 24 _ hk6 (by rw [size_rex]; rfl) rfl (by simp [Value.oneCell']) ?_
            have hn6 := setRow_heap _ _ _ #[.slice (Af 0) (nf 0) (cf 0)] _ _ hk6
            have hn7 := (setRow_other wa3 p6 p7 #[.slice (Af 0) (nf 0) (cf 0)] (by omega)).trans hk7
            have hn8 := (setRow_other wa3 p6 p8 #[.slice (Af 0) (nf 0) (cf 0)] (by omega)).trans hk8
            clear hk6 hk7 hk8
            have hk6 := hn6
            have hk7 := hn7
            have hk8 := hn8
            clear hn6 hn7 hn8
            have hb := bl_setRow hHeld hsz6 #[.slice (Af 0) (nf 0) (cf 0)]
            refine hK.out _ _ hb (fun hHeld => ?_)
            clear hK K hb
            generalize wa3.setRow p6 #[.slice (Af 0) (nf 0) (cf 0)] = wa4 at *
            try simp only [List.getElem_toArray, List.getElem_cons_zero, List.getElem_cons_succ, Act.put, List.setIfInBounds_toArray, List.set_cons_zero, List.set_cons_succ]
            refine wpAnyH_ready (rs := [10]) (by kernel_rfl) (by simp) (AllReadyH.cons rfl (fun K hK => ?_) AllReadyH.nil)
            rw [if_pos (by rfl)]
            refine wp_store_row 24 _ _ rfl p7 #[.slice (Af 1) (nf 1) (cf 1)] rfl rfl 24 _ hk7 (by rw [size_rex]; rfl) rfl (by simp [Value.oneCell']) ?_
            have hn6 := (setRow_other wa4 p7 p6 #[.slice (Af 1) (nf 1) (cf 1)] (by omega)).trans hk6
            have hn7 := setRow_heap _ _ _ #[.slice (Af 1) (nf 1) (cf 1)] _ _ hk7
            have hn8 := (setRow_other wa4 p7 p8 #[.slice (Af 1) (nf 1) (cf 1)] (by omega)).trans hk8
            clear hk6 hk7 hk8
            have hk6 := hn6
            have hk7 := hn7
            have hk8 := hn8
            clear hn6 hn7 hn8
            have hb := bl_setRow hHeld hsz7 #[.slice (Af 1) (nf 1) (cf 1)]
            refine hK.out _ _ hb (fun hHeld => ?_)
            clear hK K hb
            generalize wa4.setRow p7 #[.slice (Af 1) (nf 1) (cf 1)] = wa5 at *
            try simp only [List.getElem_toArray, List.getElem_cons_zero, List.getElem_cons_succ, Act.put, List.setIfInBounds_toArray, List.set_cons_zero, List.set_cons_succ]
            refine wpAnyH_ready (rs := [11]) (by kernel_rfl) (by simp) (AllReadyH.cons rfl (fun K hK => ?_) AllReadyH.nil)
            rw [if_pos (by rfl)]
            refine wp_store_row 24 _ _ rfl p8 #[.slice (Af 2) (nf 2) (cf 2)] rfl rfl 24 _ hk8 (by rw [size_rex]; rfl) rfl (by simp [Value.oneCell']) ?_
            have hn6 := (setRow_other wa5 p8 p6 #[.slice (Af 2) (nf 2) (cf 2)] (by omega)).trans hk6
            have hn7 := (setRow_other wa5 p8 p7 #[.slice (Af 2) (nf 2) (cf 2)] (by omega)).trans hk7
            have hn8 := setRow_heap _ _ _ #[.slice (Af 2) (nf 2) (cf 2)] _ _ hk8
            clear hk6 hk7 hk8
            have hk6 := hn6
            have hk7 := hn7
            have hk8 := hn8
            clear hn6 hn7 hn8
            have hb := bl_setRow hHeld hsz8 #[.slice (Af 2) (nf 2) (cf 2)]
            refine hK.out _ _ hb (fun hHeld => ?_)
            clear hK K hb
            generalize wa5.setRow p8 #[.slice (Af 2) (nf 2) (cf 2)] = wa6 at *
            try simp only [List.getElem_toArray, List.getElem_cons_zero, List.getElem_cons_succ, Act.put, List.setIfInBounds_toArray, List.set_cons_zero, List.set_cons_succ]
            refine wpAnyH_done (by kernel_rfl) ?_ _
            go_wp2_with fail
            go_meet
            have hss := S4.out.then hHeld
            exact ⟨p6, p7, p8, rfl, rfl, rfl, hk6, hk7, hk8, hss.r, hss.rt, hss.tab, hss.below⟩
          · go_simp
            have hk8 := heap_alloc_new wa1 (.cells #[.slice none 0 0] 24)
            have hl68 := (Array.getElem?_eq_some_iff.1 hk6).1
            have hn6 := (Below.heap_alloc wa1 (.cells #[.slice none 0 0] 24) p6 hl68).trans hk6
            clear hk6
            have hk6 := hn6
            clear hn6
            have hsz8 := hHeld.size
            have hb := bl_alloc hHeld (.cells #[.slice none 0 0] 24)
            refine hK.out _ _ hb (fun hHeld => ?_)
            clear hK K hb
            generalize wa1.alloc (.cells #[.slice none 0 0] 24) = wa7 at *
            generalize wa1.heap.size = p8 at *
            try simp only [List.getElem_toArray, List.getElem_cons_zero, List.getElem_cons_succ, Act.put, List.setIfInBounds_toArray, List.set_cons_zero, List.set_cons_succ]
            refine wpAnyH_ready (rs := [7]) (by kernel_rfl) (by simp) (AllReadyH.cons rfl (fun K hK => ?_) AllReadyH.nil)
            go_simp
            have hk7 := heap_alloc_new wa7 (.cells #[.slice none 0 0] 24)
            have hl67 := (Array.getElem?_eq_some_iff.1 hk6).1
            have hn6 := (Below.heap_alloc wa7 (.cells #[.slice none 0 0] 24) p6 hl67).trans hk6
            clear hk6
            have hk6 := hn6
            clear hn6
            have hl87 := (Array.getElem?_eq_some_iff.1 hk8).1
            have hn8 := (Below.heap_alloc wa7 (.cells #[.slice none 0 0] 24) p8 hl87).trans hk8
            clear hk8
            have hk8 := hn8
            clear hn8
            have hsz7 := hHeld.size
            have hb := bl_alloc hHeld (.cells #[.slice none 0 0] 24)
            refine hK.out _ _ hb (fun hHeld => ?_)
            clear hK K hb
            generalize wa7.alloc (.cells #[.slice none 0 0] 24) = wa8 at *
            generalize wa7.heap.size = p7 at *
            try simp only [List.getElem_toArray, List.getElem_cons_zero, List.getElem_cons_succ, Act.put, List.setIfInBounds_toArray, List.set_cons_zero, List.set_cons_succ]
            refine wpAnyH_ready (rs := [9]) (by kernel_rfl) (by simp) (AllReadyH.cons rfl (fun K hK => ?_) AllReadyH.nil)
            rw [if_pos (by rfl)]
            refine wp_store_row 24 _ _ rfl p6 #[.slice (Af 0) (nf 0) (cf 0)] rfl rfl 24 _ hk6 (by rw [size_rex]; rfl) rfl (by simp [Value.oneCell']) ?_
            have hn6 := setRow_heap _ _ _ #[.slice (Af 0) (nf 0) (cf 0)] _ _ hk6
            have hn7 := (setRow_other wa8 p6 p7 #[.slice (Af 0) (nf 0) (cf 0)] (by omega)).trans hk7
            have hn8 := (setRow_other wa8 p6 p8 #[.slice (Af 0) (nf 0) (cf 0)] (by omega)).trans hk8
            clear hk6 hk7 hk8
            have hk6 := hn6
            have hk7 := hn7
            have hk8 := hn8
            clear hn6 hn7 hn8
            have hb := bl_setRow hHeld hsz6 #[.slice (Af 0) (nf 0) (cf 0)]
            refine hK.out _ _ hb (fun hHeld => ?_)
            clear hK K hb
            generalize wa8.setRow p6 #[.slice (Af 0) (nf 0) (cf 0)] = wa9 at *
            try simp only [List.getElem_toArray, List.getElem_cons_zero, List.getElem_cons_succ, Act.put, List.setIfInBounds_toArray, List.set_cons_zero, List.set_cons_succ]
            refine wpAnyH_ready (rs := [10]) (by kernel_rfl) (by simp) (AllReadyH.cons rfl (fun K hK => ?_) AllReadyH.nil)
            rw [if_pos (by rfl)]
            refine wp_store_row 24 _ _ rfl p7 #[.slice (Af 1) (nf 1) (cf 1)] rfl rfl 24 _ hk7 (by rw [size_rex]; rfl) rfl (by simp [Value.oneCell']) ?_
            have hn6 := (setRow_other wa9 p7 p6 #[.slice (Af 1) (nf 1) (cf 1)] (by omega)).trans hk6
            have hn7 := setRow_heap _ _ _ #[.slice (Af 1) (nf 1) (cf 1)] _ _ hk7
            have hn8 := (setRow_other wa9 p7 p8 #[.slice (Af 1) (nf 1) (cf 1)] (by omega)).trans hk8
            clear hk6 hk7 hk8
            have hk6 := hn6
            have hk7 := hn7
            have hk8 := hn8
            clear hn6 hn7 hn8
            have hb := bl_setRow hHeld hsz7 #[.slice (Af 1) (nf 1) (cf 1)]
            refine hK.out _ _ hb (fun hHeld => ?_)
            clear hK K hb
            generalize wa9.setRow p7 #[.slice (Af 1) (nf 1) (cf 1)] = wa10 at *
            try simp only [List.getElem_toArray, List.getElem_cons_zero, List.getElem_cons_succ, Act.put, List.setIfInBounds_toArray, List.set_cons_zero, List.set_cons_succ]
            refine wpAnyH_ready (rs := [11]) (by kernel_rfl) (by simp) (AllReadyH.cons rfl (fun K hK => ?_) AllReadyH.nil)
            rw [if_pos (by rfl)]
            refine wp_store_row 24 _ _ rfl p8 #[.slice (Af 2) (nf 2) (cf 2)] rfl rfl 24 _ hk8 (by rw [size_rex]; rfl) rfl (by simp [Value.oneCell']) ?_
            have hn6 := (setRow_other wa10 p8 p6 #[.slice (Af 2) (nf 2) (cf 2)] (by omega)).trans hk6
            have hn7 := (setRow_other wa10 p8 p7 #[.slice (Af 2) (nf 2) (cf 2)] (by omega)).trans hk7
            have hn8 := setRow_heap _ _ _ #[.slice (Af 2) (nf 2) (cf 2)] _ _ hk8
            clear hk6 hk7 hk8
            have hk6 := hn6
            have hk7 := hn7
            have hk8 := hn8
            clear hn6 hn7 hn8
            have hb := bl_setRow hHeld hsz8 #[.slice (Af 2) (nf 2) (cf 2)]
            refine hK.out _ _ hb (fun hHeld => ?_)
            clear hK K hb
            generalize wa10.setRow p8 #[.slice (Af 2) (nf 2) (cf 2)] = wa11 at *
            try simp only [List.getElem_toArray, List.getElem_cons_zero, List.getElem_cons_succ, Act.put, List.setIfInBounds_toArray, List.set_cons_zero, List.set_cons_succ]
            refine wpAnyH_done (by kernel_rfl) ?_ _
            go_wp2_with fail
            go_meet
            have hss := S4.out.then hHeld
            exact ⟨p6, p7, p8, rfl, rfl, rfl, hk6, hk7, hk8, hss.r, hss.rt, hss.tab, hss.below⟩
        · go_simp
          have hk7 := heap_alloc_new wa0 (.cells #[.slice none 0 0] 24)
          have hsz7 := hHeld.size
          have hb := bl_alloc hHeld (.cells #[.slice none 0 0] 24)
          refine hK.out _ _ hb (fun hHeld => ?_)
          clear hK K hb
          generalize wa0.alloc (.cells #[.slice none 0 0] 24) = wa12 at *
          generalize wa0.heap.size = p7 at *
          try simp only [List.getElem_toArray, List.getElem_cons_zero, List.getElem_cons_succ, Act.put, List.setIfInBounds_toArray, List.set_cons_zero, List.set_cons_succ]
          refine wpAnyH_ready (rs := [6, 8]) (by kernel_rfl) (by simp) (AllReadyH.cons rfl (fun K hK => ?_) (AllReadyH.cons rfl (fun K hK => ?_) AllReadyH.nil))
          · go_simp
            have hk6 := heap_alloc_new wa12 (.cells #[.slice none 0 0] 24)
            have hl76 := (Array.getElem?_eq_some_iff.1 hk7).1
            have hn7 := (Below.heap_alloc wa12 (.cells #[.slice none 0 0] 24) p7 hl76).trans hk7
            clear hk7
            have hk7 := hn7
            clear hn7
            have hsz6 := hHeld.size
            have hb := bl_alloc hHeld (.cells #[.slice none 0 0] 24)
            refine hK.out _ _ hb (fun hHeld => ?_)
            clear hK K hb
            generalize wa12.alloc (.cells #[.slice none 0 0] 24) = wa13 at *
            generalize wa12.heap.size = p6 at *
            try simp only [List.getElem_toArray, List.getElem_cons_zero, List.getElem_cons_succ, Act.put, List.setIfInBounds_toArray, List.set_cons_zero, List.set_cons_succ]
            refine wpAnyH_ready (rs := [8]) (by kernel_rfl) (by simp) (AllReadyH.cons rfl (fun K hK => ?_) AllReadyH.nil)
            go_simp
            have hk8 := heap_alloc_new wa13 (.cells #[.slice none 0 0] 24)
            have hl78 := (Array.getElem?_eq_some_iff.1 hk7).1
            have hn7 := (Below.heap_alloc wa13 (.cells #[.slice none 0 0] 24) p7 hl78).trans hk7
            clear hk7
            have hk7 := hn7
            clear hn7
            have hl68 := (Array.getElem?_eq_some_iff.1 hk6).1
            have hn6 := (Below.heap_alloc wa13 (.cells #[.slice none 0 0] 24) p6 hl68).trans hk6
            clear hk6
            have hk6 := hn6
            clear hn6
            have hsz8 := hHeld.size
            have hb := bl_alloc hHeld (.cells #[.slice none 0 0] 24)
            refine hK.out _ _ hb (fun hHeld => ?_)
            clear hK K hb
            generalize wa13.alloc (.cells #[.slice none 0 0] 24) = wa14 at *
            generalize wa13.heap.size = p8 at *
            try simp only [List.getElem_toArray, List.getElem_cons_zero, List.getElem_cons_succ, Act.put, List.setIfInBounds_toArray, List.set_cons_zero, List.set_cons_succ]
            refine wpAnyH_ready (rs := [9]) (by kernel_rfl) (by simp) (AllReadyH.cons rfl (fun K hK => ?_) AllReadyH.nil)
            rw [if_pos (by rfl)]
            refine wp_store_row 24 _ _ rfl p6 #[.slice (Af 0) (nf 0) (cf 0)] rfl rfl 24 _ hk6 (by rw [size_rex]; rfl) rfl (by simp [Value.oneCell']) ?_
            have hn6 := setRow_heap _ _ _ #[.slice (Af 0) (nf 0) (cf 0)] _ _ hk6
            have hn7 := (setRow_other wa14 p6 p7 #[.slice (Af 0) (nf 0) (cf 0)] (by omega)).trans hk7
            have hn8 := (setRow_other wa14 p6 p8 #[.slice (Af 0) (nf 0) (cf 0)] (by omega)).trans hk8
            clear hk6 hk7 hk8
            have hk6 := hn6
            have hk7 := hn7
            have hk8 := hn8
            clear hn6 hn7 hn8
            have hb := bl_setRow hHeld hsz6 #[.slice (Af 0) (nf 0) (cf 0)]
            refine hK.out _ _ hb (fun hHeld => ?_)
            clear hK K hb
            generalize wa14.setRow p6 #[.slice (Af 0) (nf 0) (cf 0)] = wa15 at *
            try simp only [List.getElem_toArray, List.getElem_cons_zero, List.getElem_cons_succ, Act.put, List.setIfInBounds_toArray, List.set_cons_zero, List.set_cons_succ]
            refine wpAnyH_ready (rs := [10]) (by kernel_rfl) (by simp) (AllReadyH.cons rfl (fun K hK => ?_) AllReadyH.nil)
            rw [if_pos (by rfl)]
            refine wp_store_row 24 _ _ rfl p7 #[.slice (Af 1) (nf 1) (cf 1)] rfl rfl 24 _ hk7 (by rw [size_rex]; rfl) rfl (by simp [Value.oneCell']) ?_
            have hn6 := (setRow_other wa15 p7 p6 #[.slice (Af 1) (nf 1) (cf 1)] (by omega)).trans hk6
            have hn7 := setRow_heap _ _ _ #[.slice (Af 1) (nf 1) (cf 1)] _ _ hk7
            have hn8 := (setRow_other wa15 p7 p8 #[.slice (Af 1) (nf 1) (cf 1)] (by omega)).trans hk8
            clear hk6 hk7 hk8
            have hk6 := hn6
            have hk7 := hn7
            have hk8 := hn8
            clear hn6 hn7 hn8
            have hb := bl_setRow hHeld hsz7 #[.slice (Af 1) (nf 1) (cf 1)]
            refine hK.out _ _ hb (fun hHeld => ?_)
            clear hK K hb
            generalize wa15.setRow p7 #[.slice (Af 1) (nf 1) (cf 1)] = wa16 at *
            try simp only [List.getElem_toArray, List.getElem_cons_zero, List.getElem_cons_succ, Act.put, List.setIfInBounds_toArray, List.set_cons_zero, List.set_cons_succ]
            refine wpAnyH_ready (rs := [11]) (by kernel_rfl) (by simp) (AllReadyH.cons rfl (fun K hK => ?_) AllReadyH.nil)
            rw [if_pos (by rfl)]
            refine wp_store_row 24 _ _ rfl p8 #[.slice (Af 2) (nf 2) (cf 2)] rfl rfl 24 _ hk8 (by rw [size_rex]; rfl) rfl (by simp [Value.oneCell']) ?_
            have hn6 := (setRow_other wa16 p8 p6 #[.slice (Af 2) (nf 2) (cf 2)] (by omega)).trans hk6
            have hn7 := (setRow_other wa16 p8 p7 #[.slice (Af 2) (nf 2) (cf 2)] (by omega)).trans hk7
            have hn8 := setRow_heap _ _ _ #[.slice (Af 2) (nf 2) (cf 2)] _ _ hk8
            clear hk6 hk7 hk8
            have hk6 := hn6
            have hk7 := hn7
            have hk8 := hn8
            clear hn6 hn7 hn8
            have hb := bl_setRow hHeld hsz8 #[.slice (Af 2) (nf 2) (cf 2)]
            refine hK.out _ _ hb (fun hHeld => ?_)
            clear hK K hb
            generalize wa16.setRow p8 #[.slice (Af 2) (nf 2) (cf 2)] = wa17 at *
            try simp only [List.getElem_toArray, List.getElem_cons_zero, List.getElem_cons_succ, Act.put, List.setIfInBounds_toArray, List.set_cons_zero, List.set_cons_succ]
            refine wpAnyH_done (by kernel_rfl) ?_ _
            go_wp2_with fail
            go_meet
            have hss := S4.out.then hHeld
            exact ⟨p6, p7, p8, rfl, rfl, rfl, hk6, hk7, hk8, hss.r, hss.rt, hss.tab, hss.below⟩
          · go_simp
            have hk8 := heap_alloc_new wa12 (.cells #[.slice none 0 0] 24)
            have hl78 := (Array.getElem?_eq_some_iff.1 hk7).1
            have hn7 := (Below.heap_alloc wa12 (.cells #[.slice none 0 0] 24) p7 hl78).trans hk7
            clear hk7
            have hk7 := hn7
            clear hn7
            have hsz8 := hHeld.size
            have hb := bl_alloc hHeld (.cells #[.slice none 0 0] 24)
            refine hK.out _ _ hb (fun hHeld => ?_)
            clear hK K hb
            generalize wa12.alloc (.cells #[.slice none 0 0] 24) = wa18 at *
            generalize wa12.heap.size = p8 at *
            try simp only [List.getElem_toArray, List.getElem_cons_zero, List.getElem_cons_succ, Act.put, List.setIfInBounds_toArray, List.set_cons_zero, List.set_cons_succ]
            refine wpAnyH_ready (rs := [6]) (by kernel_rfl) (by simp) (AllReadyH.cons rfl (fun K hK => ?_) AllReadyH.nil)
            go_simp
            have hk6 := heap_alloc_new wa18 (.cells #[.slice none 0 0] 24)
            have hl76 := (Array.getElem?_eq_some_iff.1 hk7).1
            have hn7 := (Below.heap_alloc wa18 (.cells #[.slice none 0 0] 24) p7 hl76).trans hk7
            clear hk7
            have hk7 := hn7
            clear hn7
            have hl86 := (Array.getElem?_eq_some_iff.1 hk8).1
            have hn8 := (Below.heap_alloc wa18 (.cells #[.slice none 0 0] 24) p8 hl86).trans hk8
            clear hk8
            have hk8 := hn8
            clear hn8
            have hsz6 := hHeld.size
            have hb := bl_alloc hHeld (.cells #[.slice none 0 0] 24)
            refine hK.out _ _ hb (fun hHeld => ?_)
            clear hK K hb
            generalize wa18.alloc (.cells #[.slice none 0 0] 24) = wa19 at *
            generalize wa18.heap.size = p6 at *
            try simp only [List.getElem_toArray, List.getElem_cons_zero, List.getElem_cons_succ, Act.put, List.setIfInBounds_toArray, List.set_cons_zero, List.set_cons_succ]
            refine wpAnyH_ready (rs := [9]) (by kernel_rfl) (by simp) (AllReadyH.cons rfl (fun K hK => ?_) AllReadyH.nil)
            rw [if_pos (by rfl)]
            refine wp_store_row 24 _ _ rfl p6 #[.slice (Af 0) (nf 0) (cf 0)] rfl rfl 24 _ hk6 (by rw [size_rex]; rfl) rfl (by simp [Value.oneCell']) ?_
            have hn6 := setRow_heap _ _ _ #[.slice (Af 0) (nf 0) (cf 0)] _ _ hk6
            have hn7 := (setRow_other wa19 p6 p7 #[.slice (Af 0) (nf 0) (cf 0)] (by omega)).trans hk7
            have hn8 := (setRow_other wa19 p6 p8 #[.slice (Af 0) (nf 0) (cf 0)] (by omega)).trans hk8
            clear hk6 hk7 hk8
            have hk6 := hn6
            have hk7 := hn7
            have hk8 := hn8
            clear hn6 hn7 hn8
            have hb := bl_setRow hHeld hsz6 #[.slice (Af 0) (nf 0) (cf 0)]
            refine hK.out _ _ hb (fun hHeld => ?_)
            clear hK K hb
            generalize wa19.setRow p6 #[.slice (Af 0) (nf 0) (cf 0)] = wa20 at *
            try simp only [List.getElem_toArray, List.getElem_cons_zero, List.getElem_cons_succ, Act.put, List.setIfInBounds_toArray, List.set_cons_zero, List.set_cons_succ]
            refine wpAnyH_ready (rs := [10]) (by kernel_rfl) (by simp) (AllReadyH.cons rfl (fun K hK => ?_) AllReadyH.nil)
            rw [if_pos (by rfl)]
            refine wp_store_row 24 _ _ rfl p7 #[.slice (Af 1) (nf 1) (cf 1)] rfl rfl 24 _ hk7 (by rw [size_rex]; rfl) rfl (by simp [Value.oneCell']) ?_
            have hn6 := (setRow_other wa20 p7 p6 #[.slice (Af 1) (nf 1) (cf 1)] (by omega)).trans hk6
            have hn7 := setRow_heap _ _ _ #[.slice (Af 1) (nf 1) (cf 1)] _ _ hk7
            have hn8 := (setRow_other wa20 p7 p8 #[.slice (Af 1) (nf 1) (cf 1)] (by omega)).trans hk8
            clear hk6 hk7 hk8
            have hk6 := hn6
            have hk7 := hn7
            have hk8 := hn8
            clear hn6 hn7 hn8
            have hb := bl_setRow hHeld hsz7 #[.slice (Af 1) (nf 1) (cf 1)]
            refine hK.out _ _ hb (fun hHeld => ?_)
            clear hK K hb
            generalize wa20.setRow p7 #[.slice (Af 1) (nf 1) (cf 1)] = wa21 at *
            try simp only [List.getElem_toArray, List.getElem_cons_zero, List.getElem_cons_succ, Act.put, List.setIfInBounds_toArray, List.set_cons_zero, List.set_cons_succ]
            refine wpAnyH_ready (rs := [11]) (by kernel_rfl) (by simp) (AllReadyH.cons rfl (fun K hK => ?_) AllReadyH.nil)
            rw [if_pos (by rfl)]
            refine wp_store_row 24 _ _ rfl p8 #[.slice (Af 2) (nf 2) (cf 2)] rfl rfl 24 _ hk8 (by rw [size_rex]; rfl) rfl (by simp [Value.oneCell']) ?_
            have hn6 := (setRow_other wa21 p8 p6 #[.slice (Af 2) (nf 2) (cf 2)] (by omega)).trans hk6
            have hn7 := (setRow_other wa21 p8 p7 #[.slice (Af 2) (nf 2) (cf 2)] (by omega)).trans hk7
            have hn8 := setRow_heap _ _ _ #[.slice (Af 2) (nf 2) (cf 2)] _ _ hk8
            clear hk6 hk7 hk8
            have hk6 := hn6
            have hk7 := hn7
            have hk8 := hn8
            clear hn6 hn7 hn8
            have hb := bl_setRow hHeld hsz8 #[.slice (Af 2) (nf 2) (cf 2)]
            refine hK.out _ _ hb (fun hHeld => ?_)
            clear hK K hb
            generalize wa21.setRow p8 #[.slice (Af 2) (nf 2) (cf 2)] = wa22 at *
            try simp only [List.getElem_toArray, List.getElem_cons_zero, List.getElem_cons_succ, Act.put, List.setIfInBounds_toArray, List.set_cons_zero, List.set_cons_succ]
            refine wpAnyH_done (by kernel_rfl) ?_ _
            go_wp2_with fail
            go_meet
            have hss := S4.out.then hHeld
            exact ⟨p6, p7, p8, rfl, rfl, rfl, hk6, hk7, hk8, hss.r, hss.rt, hss.tab, hss.below⟩
        · go_simp
          have hk8 := heap_alloc_new wa0 (.cells #[.slice none 0 0] 24)
          have hsz8 := hHeld.size
          have hb := bl_alloc hHeld (.cells #[.slice none 0 0] 24)
          refine hK.out _ _ hb (fun hHeld => ?_)
          clear hK K hb
          generalize wa0.alloc (.cells #[.slice none 0 0] 24) = wa23 at *
          generalize wa0.heap.size = p8 at *
          try simp only [List.getElem_toArray, List.getElem_cons_zero, List.getElem_cons_succ, Act.put, List.setIfInBounds_toArray, List.set_cons_zero, List.set_cons_succ]
          refine wpAnyH_ready (rs := [6, 7]) (by kernel_rfl) (by simp) (AllReadyH.cons rfl (fun K hK => ?_) (AllReadyH.cons rfl (fun K hK => ?_) AllReadyH.nil))
          · go_simp
            have hk6 := heap_alloc_new wa23 (.cells #[.slice none 0 0] 24)
            have hl86 := (Array.getElem?_eq_some_iff.1 hk8).1
            have hn8 := (Below.heap_alloc wa23 (.cells #[.slice none 0 0] 24) p8 hl86).trans hk8
            clear hk8
            have hk8 := hn8
            clear hn8
            have hsz6 := hHeld.size
            have hb := bl_alloc hHeld (.cells #[.slice none 0 0] 24)
            refine hK.out _ _ hb (fun hHeld => ?_)
            clear hK K hb
            generalize wa23.alloc (.cells #[.slice none 0 0] 24) = wa24 at *
            generalize wa23.heap.size = p6 at *
            try simp only [List.getElem_toArray, List.getElem_cons_zero, List.getElem_cons_succ, Act.put, List.setIfInBounds_toArray, List.set_cons_zero, List.set_cons_succ]
            refine wpAnyH_ready (rs := [7]) (by kernel_rfl) (by simp) (AllReadyH.cons rfl (fun K hK => ?_) AllReadyH.nil)
            go_simp
            have hk7 := heap_alloc_new wa24 (.cells #[.slice none 0 0] 24)
            have hl87 := (Array.getElem?_eq_some_iff.1 hk8).1
            have hn8 := (Below.heap_alloc wa24 (.cells #[.slice none 0 0] 24) p8 hl87).trans hk8
            clear hk8
            have hk8 := hn8
            clear hn8
            have hl67 := (Array.getElem?_eq_some_iff.1 hk6).1
            have hn6 := (Below.heap_alloc wa24 (.cells #[.slice none 0 0] 24) p6 hl67).trans hk6
            clear hk6
            have hk6 := hn6
            clear hn6
            have hsz7 := hHeld.size
            have hb := bl_alloc hHeld (.cells #[.slice none 0 0] 24)
            refine hK.out _ _ hb (fun hHeld => ?_)
            clear hK K hb
            generalize wa24.alloc (.cells #[.slice none 0 0] 24) = wa25 at *
            generalize wa24.heap.size = p7 at *
            try simp only [List.getElem_toArray, List.getElem_cons_zero, List.getElem_cons_succ, Act.put, List.setIfInBounds_toArray, List.set_cons_zero, List.set_cons_succ]
            refine wpAnyH_ready (rs := [9]) (by kernel_rfl) (by simp) (AllReadyH.cons rfl (fun K hK => ?_) AllReadyH.nil)
            rw [if_pos (by rfl)]
            refine wp_store_row 24 _ _ rfl p6 #[.slice (Af 0) (nf 0) (cf 0)] rfl rfl 24 _ hk6 (by rw [size_rex]; rfl) rfl (by simp [Value.oneCell']) ?_
            have hn6 := setRow_heap _ _ _ #[.slice (Af 0) (nf 0) (cf 0)] _ _ hk6
            have hn7 := (setRow_other wa25 p6 p7 #[.slice (Af 0) (nf 0) (cf 0)] (by omega)).trans hk7
            have hn8 := (setRow_other wa25 p6 p8 #[.slice (Af 0) (nf 0) (cf 0)] (by omega)).trans hk8
            clear hk6 hk7 hk8
            have hk6 := hn6
            have hk7 := hn7
            have hk8 := hn8
            clear hn6 hn7 hn8
            have hb := bl_setRow hHeld hsz6 #[.slice (Af 0) (nf 0) (cf 0)]
            refine hK.out _ _ hb (fun hHeld => ?_)
            clear hK K hb
            generalize wa25.setRow p6 #[.slice (Af 0) (nf 0) (cf 0)] = wa26 at *
            try simp only [List.getElem_toArray, List.getElem_cons_zero, List.getElem_cons_succ, Act.put, List.setIfInBounds_toArray, List.set_cons_zero, List.set_cons_succ]
            refine wpAnyH_ready (rs := [10]) (by kernel_rfl) (by simp) (AllReadyH.cons rfl (fun K hK => ?_) AllReadyH.nil)
            rw [if_pos (by rfl)]
            refine wp_store_row 24 _ _ rfl p7 #[.slice (Af 1) (nf 1) (cf 1)] rfl rfl 24 _ hk7 (by rw [size_rex]; rfl) rfl (by simp [Value.oneCell']) ?_
            have hn6 := (setRow_other wa26 p7 p6 #[.slice (Af 1) (nf 1) (cf 1)] (by omega)).trans hk6
            have hn7 := setRow_heap _ _ _ #[.slice (Af 1) (nf 1) (cf 1)] _ _ hk7
            have hn8 := (setRow_other wa26 p7 p8 #[.slice (Af 1) (nf 1) (cf 1)] (by omega)).trans hk8
            clear hk6 hk7 hk8
            have hk6 := hn6
            have hk7 := hn7
            have hk8 := hn8
            clear hn6 hn7 hn8
            have hb := bl_setRow hHeld hsz7 #[.slice (Af 1) (nf 1) (cf 1)]
            refine hK.out _ _ hb (fun hHeld => ?_)
            clear hK K hb
            generalize wa26.setRow p7 #[.slice (Af 1) (nf 1) (cf 1)] = wa27 at *
            try simp only [List.getElem_toArray, List.getElem_cons_zero, List.getElem_cons_succ, Act.put, List.setIfInBounds_toArray, List.set_cons_zero, List.set_cons_succ]
            refine wpAnyH_ready (rs := [11]) (by kernel_rfl) (by simp) (AllReadyH.cons rfl (fun K hK => ?_) AllReadyH.nil)
            rw [if_pos (by rfl)]
            refine wp_store_row 24 _ _ rfl p8 #[.slice (Af 2) (nf 2) (cf 2)] rfl rfl 24 _ hk8 (by rw [size_rex]; rfl) rfl (by simp [Value.oneCell']) ?_
            have hn6 := (setRow_other wa27 p8 p6 #[.slice (Af 2) (nf 2) (cf 2)] (by omega)).trans hk6
            have hn7 := (setRow_other wa27 p8 p7 #[.slice (Af 2) (nf 2) (cf 2)] (by omega)).trans hk7
            have hn8 := setRow_heap _ _ _ #[.slice (Af 2) (nf 2) (cf 2)] _ _ hk8
            clear hk6 hk7 hk8
            have hk6 := hn6
            have hk7 := hn7
            have hk8 := hn8
            clear hn6 hn7 hn8
            have hb := bl_setRow hHeld hsz8 #[.slice (Af 2) (nf 2) (cf 2)]
            refine hK.out _ _ hb (fun hHeld => ?_)
            clear hK K hb
            generalize wa27.setRow p8 #[.slice (Af 2) (nf 2) (cf 2)] = wa28 at *
            try simp only [List.getElem_toArray, List.getElem_cons_zero, List.getElem_cons_succ, Act.put, List.setIfInBounds_toArray, List.set_cons_zero, List.set_cons_succ]
            refine wpAnyH_done (by kernel_rfl) ?_ _
            go_wp2_with fail
            go_meet
            have hss := S4.out.then hHeld
            exact ⟨p6, p7, p8, rfl, rfl, rfl, hk6, hk7, hk8, hss.r, hss.rt, hss.tab, hss.below⟩
          · go_simp
            have hk7 := heap_alloc_new wa23 (.cells #[.slice none 0 0] 24)
            have hl87 := (Array.getElem?_eq_some_iff.1 hk8).1
            have hn8 := (Below.heap_alloc wa23 (.cells #[.slice none 0 0] 24) p8 hl87).trans hk8
            clear hk8
            have hk8 := hn8
            clear hn8
            have hsz7 := hHeld.size
            have hb := bl_alloc hHeld (.cells #[.slice none 0 0] 24)
            refine hK.out _ _ hb (fun hHeld => ?_)
            clear hK K hb
            generalize wa23.alloc (.cells #[.slice none 0 0] 24) = wa29 at *
            generalize wa23.heap.size = p7 at *
            try simp only [List.getElem_toArray, List.getElem_cons_zero, List.getElem_cons_succ, Act.put, List.setIfInBounds_toArray, List.set_cons_zero, List.set_cons_succ]
            refine wpAnyH_ready (rs := [6]) (by kernel_rfl) (by simp) (AllReadyH.cons rfl (fun K hK => ?_) AllReadyH.nil)
            go_simp
            have hk6 := heap_alloc_new wa29 (.cells #[.slice none 0 0] 24)
            have hl86 := (Array.getElem?_eq_some_iff.1 hk8).1
            have hn8 := (Below.heap_alloc wa29 (.cells #[.slice none 0 0] 24) p8 hl86).trans hk8
            clear hk8
            have hk8 := hn8
            clear hn8
            have hl76 := (Array.getElem?_eq_some_iff.1 hk7).1
            have hn7 := (Below.heap_alloc wa29 (.cells #[.slice none 0 0] 24) p7 hl76).trans hk7
            clear hk7
            have hk7 := hn7
            clear hn7
            have hsz6 := hHeld.size
            have hb := bl_alloc hHeld (.cells #[.slice none 0 0] 24)
            refine hK.out _ _ hb (fun hHeld => ?_)
            clear hK K hb
            generalize wa29.alloc (.cells #[.slice none 0 0] 24) = wa30 at *
            generalize wa29.heap.size = p6 at *
            try simp only [List.getElem_toArray, List.getElem_cons_zero, List.getElem_cons_succ, Act.put, List.setIfInBounds_toArray, List.set_cons_zero, List.set_cons_succ]
            refine wpAnyH_ready (rs := [9]) (by kernel_rfl) (by simp) (AllReadyH.cons rfl (fun K hK => ?_) AllReadyH.nil)
            rw [if_pos (by rfl)]
            refine wp_store_row 24 _ _ rfl p6 #[.slice (Af 0) (nf 0) (cf 0)] rfl rfl 24 _ hk6 (by rw [size_rex]; rfl) rfl (by simp [Value.oneCell']) ?_
            have hn6 := setRow_heap _ _ _ #[.slice (Af 0) (nf 0) (cf 0)] _ _ hk6
            have hn7 := (setRow_other wa30 p6 p7 #[.slice (Af 0) (nf 0) (cf 0)] (by omega)).trans hk7
            have hn8 := (setRow_other wa30 p6 p8 #[.slice (Af 0) (nf 0) (cf 0)] (by omega)).trans hk8
            clear hk6 hk7 hk8
            have hk6 := hn6
            have hk7 := hn7
            have hk8 := hn8
            clear hn6 hn7 hn8
            have hb := bl_setRow hHeld hsz6 #[.slice (Af 0) (nf 0) (cf 0)]
            refine hK.out _ _ hb (fun hHeld => ?_)
            clear hK K hb
            generalize wa30.setRow p6 #[.slice (Af 0) (nf 0) (cf 0)] = wa31 at *
            try simp only [List.getElem_toArray, List.getElem_cons_zero, List.getElem_cons_succ, Act.put, List.setIfInBounds_toArray, List.set_cons_zero, List.set_cons_succ]
            refine wpAnyH_ready (rs := [10]) (by kernel_rfl) (by simp) (AllReadyH.cons rfl (fun K hK => ?_) AllReadyH.nil)
            rw [if_pos (by rfl)]
            refine wp_store_row 24 _ _ rfl p7 #[.slice (Af 1) (nf 1) (cf 1)] rfl rfl 24 _ hk7 (by rw [size_rex]; rfl) rfl (by simp [Value.oneCell']) ?_
            have hn6 := (setRow_other wa31 p7 p6 #[.slice (Af 1) (nf 1) (cf 1)] (by omega)).trans hk6
            have hn7 := setRow_heap _ _ _ #[.slice (Af 1) (nf 1) (cf 1)] _ _ hk7
            have hn8 := (setRow_other wa31 p7 p8 #[.slice (Af 1) (nf 1) (cf 1)] (by omega)).trans hk8
            clear hk6 hk7 hk8
            have hk6 := hn6
            have hk7 := hn7
            have hk8 := hn8
            clear hn6 hn7 hn8
            have hb := bl_setRow hHeld hsz7 #[.slice (Af 1) (nf 1) (cf 1)]
            refine hK.out _ _ hb (fun hHeld => ?_)
            clear hK K hb
            generalize wa31.setRow p7 #[.slice (Af 1) (nf 1) (cf 1)] = wa32 at *
            try simp only [List.getElem_toArray, List.getElem_cons_zero, List.getElem_cons_succ, Act.put, List.setIfInBounds_toArray, List.set_cons_zero, List.set_cons_succ]
            refine wpAnyH_ready (rs := [11]) (by kernel_rfl) (by simp) (AllReadyH.cons rfl (fun K hK => ?_) AllReadyH.nil)
            rw [if_pos (by rfl)]
            refine wp_store_row 24 _ _ rfl p8 #[.slice (Af 2) (nf 2) (cf 2)] rfl rfl 24 _ hk8 (by rw [size_rex]; rfl) rfl (by simp [Value.oneCell']) ?_
            have hn6 := (setRow_other wa32 p8 p6 #[.slice (Af 2) (nf 2) (cf 2)] (by omega)).trans hk6
            have hn7 := (setRow_other wa32 p8 p7 #[.slice (Af 2) (nf 2) (cf 2)] (by omega)).trans hk7
            have hn8 := setRow_heap _ _ _ #[.slice (Af 2) (nf 2) (cf 2)] _ _ hk8
            clear hk6 hk7 hk8
            have hk6 := hn6
            have hk7 := hn7
            have hk8 := hn8
            clear hn6 hn7 hn8
            have hb := bl_setRow hHeld hsz8 #[.slice (Af 2) (nf 2) (cf 2)]
            refine hK.out _ _ hb (fun hHeld => ?_)
            clear hK K hb
            generalize wa32.setRow p8 #[.slice (Af 2) (nf 2) (cf 2)] = wa33 at *
            try simp only [List.getElem_toArray, List.getElem_cons_zero, List.getElem_cons_succ, Act.put, List.setIfInBounds_toArray, List.set_cons_zero, List.set_cons_succ]
            refine wpAnyH_done (by kernel_rfl) ?_ _
            go_wp2_with fail
            go_meet
            have hss := S4.out.then hHeld
            exact ⟨p6, p7, p8, rfl, rfl, rfl, hk6, hk7, hk8, hss.r, hss.rt, hss.tab, hss.below⟩
      case rest =>
        obtain ⟨g1, g2, g3, rfl, rfl, rfl, q10⟩ := hcut
        have Q10 := Lib.hid q10
        clear q10
        go_wp2_with fail
        refine wp_region_held_drew (S := QS w g1 g2 g3 Af nf cf Lf At T) (by kernel_rfl) (Q10.out.then (bl_drewN (Below.refl _ _) 1)) (fun hHeld => ?_)
        clear Q10
        try simp only [List.getElem_toArray, List.getElem_cons_zero, List.getElem_cons_succ, Act.put, List.setIfInBounds_toArray, List.set_cons_zero, List.set_cons_succ]
        refine wpAnyH_take (i := 0) (v := ?vzo100) rfl (by kernel_rfl) (by kernel_rfl) (by kernel_rfl) (fun _ _ _ h => h) (Or.inl ⟨by rfl, ?yzo100⟩) hHeld ?rzo100
        case yzo100 => (intro wS hSw; have q1 := hSw.q1; clear hSw; go_simp; try (with_reducible rfl))
        try simp only [List.getElem_toArray, List.getElem_cons_zero, List.getElem_cons_succ, Act.put, List.setIfInBounds_toArray, List.set_cons_zero, List.set_cons_succ]
        refine wpAnyH_take (i := 1) (v := ?vzo101) rfl (by kernel_rfl) (by kernel_rfl) (by kernel_rfl) (fun _ _ _ h => h) (Or.inl ⟨by rfl, ?yzo101⟩) hHeld ?rzo101
        case yzo101 => (intro wS hSw; have q1 := hSw.q2; clear hSw; go_simp; try (with_reducible rfl))
        try simp only [List.getElem_toArray, List.getElem_cons_zero, List.getElem_cons_succ, Act.put, List.setIfInBounds_toArray, List.set_cons_zero, List.set_cons_succ]
        refine wpAnyH_take (i := 3) (v := ?vzo103) rfl (by kernel_rfl) (by kernel_rfl) (by kernel_rfl) (fun _ _ _ h => h) (Or.inl ⟨by rfl, ?yzo103⟩) hHeld ?rzo103
        case yzo103 => (intro wS hSw; have q1 := hSw.q3; clear hSw; go_simp; try (with_reducible rfl))
        try simp only [List.getElem_toArray, List.getElem_cons_zero, List.getElem_cons_succ, Act.put, List.setIfInBounds_toArray, List.set_cons_zero, List.set_cons_succ]
        refine wpAnyH_take (i := 5) (v := ?vzo105) rfl (by kernel_rfl) (by kernel_rfl) (by kernel_rfl) (fun _ _ _ h => h) (Or.inl ⟨by rfl, ?yzo105⟩) hHeld ?rzo105
        case yzo105 => (intro wS hSw; clear hSw; go_simp; try (with_reducible rfl))
        try simp only [List.getElem_toArray, List.getElem_cons_zero, List.getElem_cons_succ, Act.put, List.setIfInBounds_toArray, List.set_cons_zero, List.set_cons_succ]
        refine wpAnyH_ready (rs := [2]) (by kernel_rfl) (by simp) (AllReadyH.cons rfl (fun K hK => ?_) AllReadyH.nil)
        try rw [if_pos (by rfl)]
        go_simp
        go_at_call 7
        refine (join_alt_any ta tb (Af 0) (nf 0) (cf 0) (Af 1) (nf 1) (cf 1) (by rw [flat_len, hza]) (by rw [flat_len, hzb]) (by omega) _ (by have h := hHeld.r 0 (by omega); rw [EA.out] at h; exact h) (by have h := hHeld.r 1 (by omega); rw [EB.out] at h; exact h)).mono ?_
        rintro e x100 ⟨v, rfl, ho, hb⟩
        obtain ⟨A100, n100, c100, rfl, HL100, hc100, hm100, hr⟩ := ho.form
        have HR100 := Lib.hid hr
        have hS1 := hHeld.then hb
        clear ho hr hHeld hb
        go_wp2_with fail
        refine hK.out _ _ hS1 (fun hHeld => ?_)
        clear hK K hS1
        try simp only [List.getElem_toArray, List.getElem_cons_zero, List.getElem_cons_succ, Act.put, List.setIfInBounds_toArray, List.set_cons_zero, List.set_cons_succ]
        refine wpAnyH_ready (rs := [4]) (by kernel_rfl) (by simp) (AllReadyH.cons rfl (fun K hK => ?_) AllReadyH.nil)
        try rw [if_pos (by rfl)]
        go_simp
        go_at_call 7
        refine (join_alt_any (.alt ta tb) tc A100 n100 c100 (Af 2) (nf 2) (cf 2) HL100.out (by rw [flat_len, hzc]) (by have := HL100.out; rw [flat_len] at this; simp only [Rx.size] at this; omega) _ HR100.out (by have h := hHeld.r 2 (by omega); rw [EC.out] at h; exact h)).mono ?_
        rintro e x101 ⟨v, rfl, ho, hb⟩
        obtain ⟨A101, n101, c101, rfl, HL101, hc101, hm101, hr⟩ := ho.form
        have HR101 := Lib.hid hr
        have hS1 := hHeld.then hb
        clear ho hr hHeld hb
        go_wp2_with fail
        refine hK.out _ _ hS1 (fun hHeld => ?_)
        clear hK K hS1
        try simp only [List.getElem_toArray, List.getElem_cons_zero, List.getElem_cons_succ, Act.put, List.setIfInBounds_toArray, List.set_cons_zero, List.set_cons_succ]
        refine wpAnyH_ready (rs := [6]) (by kernel_rfl) (by simp) (AllReadyH.cons rfl (fun K hK => ?_) AllReadyH.nil)
        try rw [if_pos (by rfl)]
        go_simp
        go_at_call 6
        refine (takes_tree (.alt (.alt ta tb) tc) (by simp only [Rx.size]; omega) A101 n101 c101 HL101.out hc101 At m ct T HT3.out (by omega) _ hHeld.tab HR101.out hHeld.rt).mono ?_
        rintro e x102 ⟨rfl, hb⟩
        have hS1 := hHeld.then hb
        clear hHeld hb
        go_wp2_with fail
        refine hK.out _ _ hS1 (fun hHeld => ?_)
        clear hK K hS1
        try simp only [List.getElem_toArray, List.getElem_cons_zero, List.getElem_cons_succ, Act.put, List.setIfInBounds_toArray, List.set_cons_zero, List.set_cons_succ]
        refine wpAnyH_take (i := 7) (v := ?vzo107) rfl (by kernel_rfl) (by kernel_rfl) (by kernel_rfl) (fun _ _ _ h => h) (Or.inl ⟨by rfl, ?yzo107⟩) hHeld ?rzo107
        case yzo107 => (intro wS hSw; clear hSw; go_simp; try (with_reducible rfl))
        try simp only [List.getElem_toArray, List.getElem_cons_zero, List.getElem_cons_succ, Act.put, List.setIfInBounds_toArray, List.set_cons_zero, List.set_cons_succ]
        refine wpAnyH_take (i := 8) (v := ?vzo108) rfl (by kernel_rfl) (by kernel_rfl) (by kernel_rfl) (fun _ _ _ h => h) (Or.inl ⟨by rfl, ?yzo108⟩) hHeld ?rzo108
        case yzo108 => (intro wS hSw; clear hSw; go_simp; try (with_reducible rfl))
        try simp only [List.getElem_toArray, List.getElem_cons_zero, List.getElem_cons_succ, Act.put, List.setIfInBounds_toArray, List.set_cons_zero, List.set_cons_succ]
        refine wpAnyH_take (i := 9) (v := ?vzo109) rfl (by kernel_rfl) (by kernel_rfl) (by kernel_rfl) (fun _ _ _ h => h) (Or.inl ⟨by rfl, ?yzo109⟩) hHeld ?rzo109
        case yzo109 => (intro wS hSw; clear hSw; go_simp; try (with_reducible rfl))
        try simp only [List.getElem_toArray, List.getElem_cons_zero, List.getElem_cons_succ, Act.put, List.setIfInBounds_toArray, List.set_cons_zero, List.set_cons_succ]
        refine wpAnyH_take (i := 10) (v := ?vzo1010) rfl (by kernel_rfl) (by kernel_rfl) (by kernel_rfl) (fun _ _ _ h => h) (Or.inl ⟨by rfl, ?yzo1010⟩) hHeld ?rzo1010
        case yzo1010 => (intro wS hSw; clear hSw; go_simp; try (with_reducible rfl))
        try simp only [List.getElem_toArray, List.getElem_cons_zero, List.getElem_cons_succ, Act.put, List.setIfInBounds_toArray, List.set_cons_zero, List.set_cons_succ]
        refine wpAnyH_take (i := 11) (v := ?vzo1011) rfl (by kernel_rfl) (by kernel_rfl) (by kernel_rfl) (fun _ _ _ h => h) (Or.inl ⟨by rfl, ?yzo1011⟩) hHeld ?rzo1011
        case yzo1011 => (intro wS hSw; clear hSw; go_simp; try (with_reducible rfl))
        try simp only [List.getElem_toArray, List.getElem_cons_zero, List.getElem_cons_succ, Act.put, List.setIfInBounds_toArray, List.set_cons_zero, List.set_cons_succ]
        refine wpAnyH_done (by kernel_rfl) ?_ _
        have Q11 := Lib.hid hHeld
        clear hHeld
        go_wp2_with fail
        refine wp_region_held_drew (S := QS w g1 g2 g3 Af nf cf Lf At T) (by kernel_rfl) (Q11.out.then (bl_drewN (Below.refl _ _) 1)) (fun hHeld => ?_)
        clear Q11
        try simp only [List.getElem_toArray, List.getElem_cons_zero, List.getElem_cons_succ, Act.put, List.setIfInBounds_toArray, List.set_cons_zero, List.set_cons_succ]
        refine wpAnyH_take (i := 0) (v := ?vzo110) rfl (by kernel_rfl) (by kernel_rfl) (by kernel_rfl) (fun _ _ _ h => h) (Or.inl ⟨by rfl, ?yzo110⟩) hHeld ?rzo110
        case yzo110 => (intro wS hSw; have q1 := hSw.q3; clear hSw; go_simp; try (with_reducible rfl))
        try simp only [List.getElem_toArray, List.getElem_cons_zero, List.getElem_cons_succ, Act.put, List.setIfInBounds_toArray, List.set_cons_zero, List.set_cons_succ]
        refine wpAnyH_take (i := 1) (v := ?vzo111) rfl (by kernel_rfl) (by kernel_rfl) (by kernel_rfl) (fun _ _ _ h => h) (Or.inl ⟨by rfl, ?yzo111⟩) hHeld ?rzo111
        case yzo111 => (intro wS hSw; have q1 := hSw.q2; clear hSw; go_simp; try (with_reducible rfl))
        try simp only [List.getElem_toArray, List.getElem_cons_zero, List.getElem_cons_succ, Act.put, List.setIfInBounds_toArray, List.set_cons_zero, List.set_cons_succ]
        refine wpAnyH_take (i := 2) (v := ?vzo112) rfl (by kernel_rfl) (by kernel_rfl) (by kernel_rfl) (fun _ _ _ h => h) (Or.inl ⟨by rfl, ?yzo112⟩) hHeld ?rzo112
        case yzo112 => (intro wS hSw; have q1 := hSw.q1; clear hSw; go_simp; try (with_reducible rfl))
        try simp only [List.getElem_toArray, List.getElem_cons_zero, List.getElem_cons_succ, Act.put, List.setIfInBounds_toArray, List.set_cons_zero, List.set_cons_succ]
        refine wpAnyH_take (i := 5) (v := ?vzo115) rfl (by kernel_rfl) (by kernel_rfl) (by kernel_rfl) (fun _ _ _ h => h) (Or.inl ⟨by rfl, ?yzo115⟩) hHeld ?rzo115
        case yzo115 => (intro wS hSw; clear hSw; go_simp; try (with_reducible rfl))
        try simp only [List.getElem_toArray, List.getElem_cons_zero, List.getElem_cons_succ, Act.put, List.setIfInBounds_toArray, List.set_cons_zero, List.set_cons_succ]
        refine wpAnyH_ready (rs := [3]) (by kernel_rfl) (by simp) (AllReadyH.cons rfl (fun K hK => ?_) AllReadyH.nil)
        try rw [if_pos (by rfl)]
        go_simp
        go_at_call 7
        refine (join_alt_any tb ta (Af 1) (nf 1) (cf 1) (Af 0) (nf 0) (cf 0) (by rw [flat_len, hzb]) (by rw [flat_len, hza]) (by omega) _ (by have h := hHeld.r 1 (by omega); rw [EB.out] at h; exact h) (by have h := hHeld.r 0 (by omega); rw [EA.out] at h; exact h)).mono ?_
        rintro e x110 ⟨v, rfl, ho, hb⟩
        obtain ⟨A110, n110, c110, rfl, HL110, hc110, hm110, hr⟩ := ho.form
        have HR110 := Lib.hid hr
        have hS1 := hHeld.then hb
        clear ho hr hHeld hb
        go_wp2_with fail
        refine hK.out _ _ hS1 (fun hHeld => ?_)
        clear hK K hS1
        try simp only [List.getElem_toArray, List.getElem_cons_zero, List.getElem_cons_succ, Act.put, List.setIfInBounds_toArray, List.set_cons_zero, List.set_cons_succ]
        refine wpAnyH_ready (rs := [4]) (by kernel_rfl) (by simp) (AllReadyH.cons rfl (fun K hK => ?_) AllReadyH.nil)
        try rw [if_pos (by rfl)]
        go_simp
        go_at_call 7
        refine (join_alt_any tc (.alt tb ta) (Af 2) (nf 2) (cf 2) A110 n110 c110 (by rw [flat_len, hzc]) HL110.out (by have := HL110.out; rw [flat_len] at this; simp only [Rx.size] at this; omega) _ (by have h := hHeld.r 2 (by omega); rw [EC.out] at h; exact h) HR110.out).mono ?_
        rintro e x111 ⟨v, rfl, ho, hb⟩
        obtain ⟨A111, n111, c111, rfl, HL111, hc111, hm111, hr⟩ := ho.form
        have HR111 := Lib.hid hr
        have hS1 := hHeld.then hb
        clear ho hr hHeld hb
        go_wp2_with fail
        refine hK.out _ _ hS1 (fun hHeld => ?_)
        clear hK K hS1
        try simp only [List.getElem_toArray, List.getElem_cons_zero, List.getElem_cons_succ, Act.put, List.setIfInBounds_toArray, List.set_cons_zero, List.set_cons_succ]
        refine wpAnyH_ready (rs := [6]) (by kernel_rfl) (by simp) (AllReadyH.cons rfl (fun K hK => ?_) AllReadyH.nil)
        try rw [if_pos (by rfl)]
        go_simp
        go_at_call 6
        refine (takes_tree (.alt tc (.alt tb ta)) (by simp only [Rx.size]; omega) A111 n111 c111 HL111.out hc111 At m ct T HT3.out (by omega) _ hHeld.tab HR111.out hHeld.rt).mono ?_
        rintro e x112 ⟨rfl, hb⟩
        have hS1 := hHeld.then hb
        clear hHeld hb
        go_wp2_with fail
        refine hK.out _ _ hS1 (fun hHeld => ?_)
        clear hK K hS1
        try simp only [List.getElem_toArray, List.getElem_cons_zero, List.getElem_cons_succ, Act.put, List.setIfInBounds_toArray, List.set_cons_zero, List.set_cons_succ]
        refine wpAnyH_take (i := 7) (v := ?vzo117) rfl (by kernel_rfl) (by kernel_rfl) (by kernel_rfl) (fun _ _ _ h => h) (Or.inl ⟨by rfl, ?yzo117⟩) hHeld ?rzo117
        case yzo117 => (intro wS hSw; clear hSw; go_simp; try (with_reducible rfl))
        try simp only [List.getElem_toArray, List.getElem_cons_zero, List.getElem_cons_succ, Act.put, List.setIfInBounds_toArray, List.set_cons_zero, List.set_cons_succ]
        refine wpAnyH_take (i := 8) (v := ?vzo118) rfl (by kernel_rfl) (by kernel_rfl) (by kernel_rfl) (fun _ _ _ h => h) (Or.inl ⟨by rfl, ?yzo118⟩) hHeld ?rzo118
        case yzo118 => (intro wS hSw; clear hSw; go_simp; try (with_reducible rfl))
        try simp only [List.getElem_toArray, List.getElem_cons_zero, List.getElem_cons_succ, Act.put, List.setIfInBounds_toArray, List.set_cons_zero, List.set_cons_succ]
        refine wpAnyH_take (i := 9) (v := ?vzo119) rfl (by kernel_rfl) (by kernel_rfl) (by kernel_rfl) (fun _ _ _ h => h) (Or.inl ⟨by rfl, ?yzo119⟩) hHeld ?rzo119
        case yzo119 => (intro wS hSw; clear hSw; go_simp; try (with_reducible rfl))
        try simp only [List.getElem_toArray, List.getElem_cons_zero, List.getElem_cons_succ, Act.put, List.setIfInBounds_toArray, List.set_cons_zero, List.set_cons_succ]
        refine wpAnyH_take (i := 10) (v := ?vzo1110) rfl (by kernel_rfl) (by kernel_rfl) (by kernel_rfl) (fun _ _ _ h => h) (Or.inl ⟨by rfl, ?yzo1110⟩) hHeld ?rzo1110
        case yzo1110 => (intro wS hSw; clear hSw; go_simp; try (with_reducible rfl))
        try simp only [List.getElem_toArray, List.getElem_cons_zero, List.getElem_cons_succ, Act.put, List.setIfInBounds_toArray, List.set_cons_zero, List.set_cons_succ]
        refine wpAnyH_take (i := 11) (v := ?vzo1111) rfl (by kernel_rfl) (by kernel_rfl) (by kernel_rfl) (fun _ _ _ h => h) (Or.inl ⟨by rfl, ?yzo1111⟩) hHeld ?rzo1111
        case yzo1111 => (intro wS hSw; clear hSw; go_simp; try (with_reducible rfl))
        try simp only [List.getElem_toArray, List.getElem_cons_zero, List.getElem_cons_succ, Act.put, List.setIfInBounds_toArray, List.set_cons_zero, List.set_cons_succ]
        refine wpAnyH_done (by kernel_rfl) ?_ _
        have Q12 := Lib.hid hHeld
        clear hHeld
        go_wp2_with fail
        refine wp_region_held_drew (S := QS w g1 g2 g3 Af nf cf Lf At T) (by kernel_rfl) (Q12.out.then (bl_drewN (Below.refl _ _) 1)) (fun hHeld => ?_)
        clear Q12
        try simp only [List.getElem_toArray, List.getElem_cons_zero, List.getElem_cons_succ, Act.put, List.setIfInBounds_toArray, List.set_cons_zero, List.set_cons_succ]
        refine wpAnyH_take (i := 0) (v := ?vzo120) rfl (by kernel_rfl) (by kernel_rfl) (by kernel_rfl) (fun _ _ _ h => h) (Or.inl ⟨by rfl, ?yzo120⟩) hHeld ?rzo120
        case yzo120 => (intro wS hSw; have q1 := hSw.q1; clear hSw; go_simp; try (with_reducible rfl))
        try simp only [List.getElem_toArray, List.getElem_cons_zero, List.getElem_cons_succ, Act.put, List.setIfInBounds_toArray, List.set_cons_zero, List.set_cons_succ]
        refine wpAnyH_take (i := 1) (v := ?vzo121) rfl (by kernel_rfl) (by kernel_rfl) (by kernel_rfl) (fun _ _ _ h => h) (Or.inl ⟨by rfl, ?yzo121⟩) hHeld ?rzo121
        case yzo121 => (intro wS hSw; have q1 := hSw.q2; clear hSw; go_simp; try (with_reducible rfl))
        try simp only [List.getElem_toArray, List.getElem_cons_zero, List.getElem_cons_succ, Act.put, List.setIfInBounds_toArray, List.set_cons_zero, List.set_cons_succ]
        refine wpAnyH_take (i := 3) (v := ?vzo123) rfl (by kernel_rfl) (by kernel_rfl) (by kernel_rfl) (fun _ _ _ h => h) (Or.inl ⟨by rfl, ?yzo123⟩) hHeld ?rzo123
        case yzo123 => (intro wS hSw; have q1 := hSw.q3; clear hSw; go_simp; try (with_reducible rfl))
        try simp only [List.getElem_toArray, List.getElem_cons_zero, List.getElem_cons_succ, Act.put, List.setIfInBounds_toArray, List.set_cons_zero, List.set_cons_succ]
        refine wpAnyH_take (i := 5) (v := ?vzo125) rfl (by kernel_rfl) (by kernel_rfl) (by kernel_rfl) (fun _ _ _ h => h) (Or.inl ⟨by rfl, ?yzo125⟩) hHeld ?rzo125
        case yzo125 => (intro wS hSw; clear hSw; go_simp; try (with_reducible rfl))
        try simp only [List.getElem_toArray, List.getElem_cons_zero, List.getElem_cons_succ, Act.put, List.setIfInBounds_toArray, List.set_cons_zero, List.set_cons_succ]
        refine wpAnyH_ready (rs := [2]) (by kernel_rfl) (by simp) (AllReadyH.cons rfl (fun K hK => ?_) AllReadyH.nil)
        try rw [if_pos (by rfl)]
        go_simp
        go_at_call 7
        refine (join_seq_any ta tb (Af 0) (nf 0) (cf 0) (Af 1) (nf 1) (cf 1) (by rw [flat_len, hza]) (by rw [flat_len, hzb]) (by omega) _ (by have h := hHeld.r 0 (by omega); rw [EA.out] at h; exact h) (by have h := hHeld.r 1 (by omega); rw [EB.out] at h; exact h)).mono ?_
        rintro e x120 ⟨v, rfl, ho, hb⟩
        obtain ⟨A120, n120, c120, rfl, HL120, hc120, hm120, hr⟩ := ho.form
        have HR120 := Lib.hid hr
        have hS1 := hHeld.then hb
        clear ho hr hHeld hb
        go_wp2_with fail
        refine hK.out _ _ hS1 (fun hHeld => ?_)
        clear hK K hS1
        try simp only [List.getElem_toArray, List.getElem_cons_zero, List.getElem_cons_succ, Act.put, List.setIfInBounds_toArray, List.set_cons_zero, List.set_cons_succ]
        refine wpAnyH_ready (rs := [4]) (by kernel_rfl) (by simp) (AllReadyH.cons rfl (fun K hK => ?_) AllReadyH.nil)
        try rw [if_pos (by rfl)]
        go_simp
        go_at_call 7
        refine (join_seq_any (.seq ta tb) tc A120 n120 c120 (Af 2) (nf 2) (cf 2) HL120.out (by rw [flat_len, hzc]) (by have := HL120.out; rw [flat_len] at this; simp only [Rx.size] at this; omega) _ HR120.out (by have h := hHeld.r 2 (by omega); rw [EC.out] at h; exact h)).mono ?_
        rintro e x121 ⟨v, rfl, ho, hb⟩
        obtain ⟨A121, n121, c121, rfl, HL121, hc121, hm121, hr⟩ := ho.form
        have HR121 := Lib.hid hr
        have hS1 := hHeld.then hb
        clear ho hr hHeld hb
        go_wp2_with fail
        refine hK.out _ _ hS1 (fun hHeld => ?_)
        clear hK K hS1
        try simp only [List.getElem_toArray, List.getElem_cons_zero, List.getElem_cons_succ, Act.put, List.setIfInBounds_toArray, List.set_cons_zero, List.set_cons_succ]
        refine wpAnyH_ready (rs := [6]) (by kernel_rfl) (by simp) (AllReadyH.cons rfl (fun K hK => ?_) AllReadyH.nil)
        try rw [if_pos (by rfl)]
        go_simp
        go_at_call 6
        refine (takes_tree (.seq (.seq ta tb) tc) (by simp only [Rx.size]; omega) A121 n121 c121 HL121.out hc121 At m ct T HT3.out (by omega) _ hHeld.tab HR121.out hHeld.rt).mono ?_
        rintro e x122 ⟨rfl, hb⟩
        have hS1 := hHeld.then hb
        clear hHeld hb
        go_wp2_with fail
        refine hK.out _ _ hS1 (fun hHeld => ?_)
        clear hK K hS1
        try simp only [List.getElem_toArray, List.getElem_cons_zero, List.getElem_cons_succ, Act.put, List.setIfInBounds_toArray, List.set_cons_zero, List.set_cons_succ]
        refine wpAnyH_take (i := 7) (v := ?vzo127) rfl (by kernel_rfl) (by kernel_rfl) (by kernel_rfl) (fun _ _ _ h => h) (Or.inl ⟨by rfl, ?yzo127⟩) hHeld ?rzo127
        case yzo127 => (intro wS hSw; clear hSw; go_simp; try (with_reducible rfl))
        try simp only [List.getElem_toArray, List.getElem_cons_zero, List.getElem_cons_succ, Act.put, List.setIfInBounds_toArray, List.set_cons_zero, List.set_cons_succ]
        refine wpAnyH_take (i := 8) (v := ?vzo128) rfl (by kernel_rfl) (by kernel_rfl) (by kernel_rfl) (fun _ _ _ h => h) (Or.inl ⟨by rfl, ?yzo128⟩) hHeld ?rzo128
        case yzo128 => (intro wS hSw; clear hSw; go_simp; try (with_reducible rfl))
        try simp only [List.getElem_toArray, List.getElem_cons_zero, List.getElem_cons_succ, Act.put, List.setIfInBounds_toArray, List.set_cons_zero, List.set_cons_succ]
        refine wpAnyH_take (i := 9) (v := ?vzo129) rfl (by kernel_rfl) (by kernel_rfl) (by kernel_rfl) (fun _ _ _ h => h) (Or.inl ⟨by rfl, ?yzo129⟩) hHeld ?rzo129
        case yzo129 => (intro wS hSw; clear hSw; go_simp; try (with_reducible rfl))
        try simp only [List.getElem_toArray, List.getElem_cons_zero, List.getElem_cons_succ, Act.put, List.setIfInBounds_toArray, List.set_cons_zero, List.set_cons_succ]
        refine wpAnyH_take (i := 10) (v := ?vzo1210) rfl (by kernel_rfl) (by kernel_rfl) (by kernel_rfl) (fun _ _ _ h => h) (Or.inl ⟨by rfl, ?yzo1210⟩) hHeld ?rzo1210
        case yzo1210 => (intro wS hSw; clear hSw; go_simp; try (with_reducible rfl))
        try simp only [List.getElem_toArray, List.getElem_cons_zero, List.getElem_cons_succ, Act.put, List.setIfInBounds_toArray, List.set_cons_zero, List.set_cons_succ]
        refine wpAnyH_take (i := 11) (v := ?vzo1211) rfl (by kernel_rfl) (by kernel_rfl) (by kernel_rfl) (fun _ _ _ h => h) (Or.inl ⟨by rfl, ?yzo1211⟩) hHeld ?rzo1211
        case yzo1211 => (intro wS hSw; clear hSw; go_simp; try (with_reducible rfl))
        try simp only [List.getElem_toArray, List.getElem_cons_zero, List.getElem_cons_succ, Act.put, List.setIfInBounds_toArray, List.set_cons_zero, List.set_cons_succ]
        refine wpAnyH_done (by kernel_rfl) ?_ _
        have Q13 := Lib.hid hHeld
        clear hHeld
        go_wp2_with fail
        refine wp_region_held_drew (S := QS w g1 g2 g3 Af nf cf Lf At T) (by kernel_rfl) (Q13.out.then (bl_drewN (Below.refl _ _) 1)) (fun hHeld => ?_)
        clear Q13
        try simp only [List.getElem_toArray, List.getElem_cons_zero, List.getElem_cons_succ, Act.put, List.setIfInBounds_toArray, List.set_cons_zero, List.set_cons_succ]
        refine wpAnyH_take (i := 0) (v := ?vzo130) rfl (by kernel_rfl) (by kernel_rfl) (by kernel_rfl) (fun _ _ _ h => h) (Or.inl ⟨by rfl, ?yzo130⟩) hHeld ?rzo130
        case yzo130 => (intro wS hSw; have q1 := hSw.q1; clear hSw; go_simp; try (with_reducible rfl))
        try simp only [List.getElem_toArray, List.getElem_cons_zero, List.getElem_cons_succ, Act.put, List.setIfInBounds_toArray, List.set_cons_zero, List.set_cons_succ]
        refine wpAnyH_take (i := 1) (v := ?vzo131) rfl (by kernel_rfl) (by kernel_rfl) (by kernel_rfl) (fun _ _ _ h => h) (Or.inl ⟨by rfl, ?yzo131⟩) hHeld ?rzo131
        case yzo131 => (intro wS hSw; have q1 := hSw.q2; clear hSw; go_simp; try (with_reducible rfl))
        try simp only [List.getElem_toArray, List.getElem_cons_zero, List.getElem_cons_succ, Act.put, List.setIfInBounds_toArray, List.set_cons_zero, List.set_cons_succ]
        refine wpAnyH_take (i := 2) (v := ?vzo132) rfl (by kernel_rfl) (by kernel_rfl) (by kernel_rfl) (fun _ _ _ h => h) (Or.inl ⟨by rfl, ?yzo132⟩) hHeld ?rzo132
        case yzo132 => (intro wS hSw; have q1 := hSw.q3; clear hSw; go_simp; try (with_reducible rfl))
        try simp only [List.getElem_toArray, List.getElem_cons_zero, List.getElem_cons_succ, Act.put, List.setIfInBounds_toArray, List.set_cons_zero, List.set_cons_succ]
        refine wpAnyH_take (i := 5) (v := ?vzo135) rfl (by kernel_rfl) (by kernel_rfl) (by kernel_rfl) (fun _ _ _ h => h) (Or.inl ⟨by rfl, ?yzo135⟩) hHeld ?rzo135
        case yzo135 => (intro wS hSw; clear hSw; go_simp; try (with_reducible rfl))
        try simp only [List.getElem_toArray, List.getElem_cons_zero, List.getElem_cons_succ, Act.put, List.setIfInBounds_toArray, List.set_cons_zero, List.set_cons_succ]
        refine wpAnyH_ready (rs := [3]) (by kernel_rfl) (by simp) (AllReadyH.cons rfl (fun K hK => ?_) AllReadyH.nil)
        try rw [if_pos (by rfl)]
        go_simp
        go_at_call 7
        refine (join_seq_any tb tc (Af 1) (nf 1) (cf 1) (Af 2) (nf 2) (cf 2) (by rw [flat_len, hzb]) (by rw [flat_len, hzc]) (by omega) _ (by have h := hHeld.r 1 (by omega); rw [EB.out] at h; exact h) (by have h := hHeld.r 2 (by omega); rw [EC.out] at h; exact h)).mono ?_
        rintro e x130 ⟨v, rfl, ho, hb⟩
        obtain ⟨A130, n130, c130, rfl, HL130, hc130, hm130, hr⟩ := ho.form
        have HR130 := Lib.hid hr
        have hS1 := hHeld.then hb
        clear ho hr hHeld hb
        go_wp2_with fail
        refine hK.out _ _ hS1 (fun hHeld => ?_)
        clear hK K hS1
        try simp only [List.getElem_toArray, List.getElem_cons_zero, List.getElem_cons_succ, Act.put, List.setIfInBounds_toArray, List.set_cons_zero, List.set_cons_succ]
        refine wpAnyH_ready (rs := [4]) (by kernel_rfl) (by simp) (AllReadyH.cons rfl (fun K hK => ?_) AllReadyH.nil)
        try rw [if_pos (by rfl)]
        go_simp
        go_at_call 7
        refine (join_seq_any ta (.seq tb tc) (Af 0) (nf 0) (cf 0) A130 n130 c130 (by rw [flat_len, hza]) HL130.out (by have := HL130.out; rw [flat_len] at this; simp only [Rx.size] at this; omega) _ (by have h := hHeld.r 0 (by omega); rw [EA.out] at h; exact h) HR130.out).mono ?_
        rintro e x131 ⟨v, rfl, ho, hb⟩
        obtain ⟨A131, n131, c131, rfl, HL131, hc131, hm131, hr⟩ := ho.form
        have HR131 := Lib.hid hr
        have hS1 := hHeld.then hb
        clear ho hr hHeld hb
        go_wp2_with fail
        refine hK.out _ _ hS1 (fun hHeld => ?_)
        clear hK K hS1
        try simp only [List.getElem_toArray, List.getElem_cons_zero, List.getElem_cons_succ, Act.put, List.setIfInBounds_toArray, List.set_cons_zero, List.set_cons_succ]
        refine wpAnyH_ready (rs := [6]) (by kernel_rfl) (by simp) (AllReadyH.cons rfl (fun K hK => ?_) AllReadyH.nil)
        try rw [if_pos (by rfl)]
        go_simp
        go_at_call 6
        refine (takes_tree (.seq ta (.seq tb tc)) (by simp only [Rx.size]; omega) A131 n131 c131 HL131.out hc131 At m ct T HT3.out (by omega) _ hHeld.tab HR131.out hHeld.rt).mono ?_
        rintro e x132 ⟨rfl, hb⟩
        have hS1 := hHeld.then hb
        clear hHeld hb
        go_wp2_with fail
        refine hK.out _ _ hS1 (fun hHeld => ?_)
        clear hK K hS1
        try simp only [List.getElem_toArray, List.getElem_cons_zero, List.getElem_cons_succ, Act.put, List.setIfInBounds_toArray, List.set_cons_zero, List.set_cons_succ]
        refine wpAnyH_take (i := 7) (v := ?vzo137) rfl (by kernel_rfl) (by kernel_rfl) (by kernel_rfl) (fun _ _ _ h => h) (Or.inl ⟨by rfl, ?yzo137⟩) hHeld ?rzo137
        case yzo137 => (intro wS hSw; clear hSw; go_simp; try (with_reducible rfl))
        try simp only [List.getElem_toArray, List.getElem_cons_zero, List.getElem_cons_succ, Act.put, List.setIfInBounds_toArray, List.set_cons_zero, List.set_cons_succ]
        refine wpAnyH_take (i := 8) (v := ?vzo138) rfl (by kernel_rfl) (by kernel_rfl) (by kernel_rfl) (fun _ _ _ h => h) (Or.inl ⟨by rfl, ?yzo138⟩) hHeld ?rzo138
        case yzo138 => (intro wS hSw; clear hSw; go_simp; try (with_reducible rfl))
        try simp only [List.getElem_toArray, List.getElem_cons_zero, List.getElem_cons_succ, Act.put, List.setIfInBounds_toArray, List.set_cons_zero, List.set_cons_succ]
        refine wpAnyH_take (i := 9) (v := ?vzo139) rfl (by kernel_rfl) (by kernel_rfl) (by kernel_rfl) (fun _ _ _ h => h) (Or.inl ⟨by rfl, ?yzo139⟩) hHeld ?rzo139
        case yzo139 => (intro wS hSw; clear hSw; go_simp; try (with_reducible rfl))
        try simp only [List.getElem_toArray, List.getElem_cons_zero, List.getElem_cons_succ, Act.put, List.setIfInBounds_toArray, List.set_cons_zero, List.set_cons_succ]
        refine wpAnyH_take (i := 10) (v := ?vzo1310) rfl (by kernel_rfl) (by kernel_rfl) (by kernel_rfl) (fun _ _ _ h => h) (Or.inl ⟨by rfl, ?yzo1310⟩) hHeld ?rzo1310
        case yzo1310 => (intro wS hSw; clear hSw; go_simp; try (with_reducible rfl))
        try simp only [List.getElem_toArray, List.getElem_cons_zero, List.getElem_cons_succ, Act.put, List.setIfInBounds_toArray, List.set_cons_zero, List.set_cons_succ]
        refine wpAnyH_take (i := 11) (v := ?vzo1311) rfl (by kernel_rfl) (by kernel_rfl) (by kernel_rfl) (fun _ _ _ h => h) (Or.inl ⟨by rfl, ?yzo1311⟩) hHeld ?rzo1311
        case yzo1311 => (intro wS hSw; clear hSw; go_simp; try (with_reducible rfl))
        try simp only [List.getElem_toArray, List.getElem_cons_zero, List.getElem_cons_succ, Act.put, List.setIfInBounds_toArray, List.set_cons_zero, List.set_cons_succ]
        refine wpAnyH_done (by kernel_rfl) ?_ _
        have Q14 := Lib.hid hHeld
        clear hHeld
        rw [order_alt ta tb tc T, order_seq ta tb tc T]
        generalize tk (.alt tc (.alt tb ta)) T = ba
        generalize tk (.seq ta (.seq tb tc)) T = bs
        go_wp2_with fail
        all_goals exact post_is HQ ⟨rfl, Q14.out.below⟩

theorem order_walk (A0 A1 A2 : Option Addr) (n0 n1 n2 c0 c1 c2 : Nat) (l0 l1 l2 : List RN) (T0 : List UInt8) (At : Option Addr) (nt ct : Nat) (W : World)
    (p0 : l0.length = n0 ∧ n0 ≤ c0 ∧ c0 * 56 ≤ 140737488351232 ∧ RdR W A0 l0) (p1 : l1.length = n1 ∧ n1 ≤ c1 ∧ c1 * 56 ≤ 140737488351232 ∧ RdR W A1 l1) (p2 : l2.length = n2 ∧ n2 ≤ c2 ∧ c2 * 56 ≤ 140737488351232 ∧ RdR W A2 l2)
    (hnt : T0.length = nt) (hct : nt ≤ ct) (hmt : ct ≤ 140737488351232) (hT : Tab W) (hrt : Rd W At T0) :
    Calls Tryd.prog 3 #[.agg #[.slice A0 n0 c0, .slice A1 n1 c1, .slice A2 n2 c2], .slice At nt ct] W (Yes W) :=
  order_walk0 (tri A0 A1 A2) (tri n0 n1 n2) (tri c0 c1 c2) (tri l0 l1 l2) T0 At nt ct
    (fun i hi => by match i, hi with
      | 0, _ => exact p0.1
      | 1, _ => exact p1.1
      | 2, _ => exact p2.1)
    (fun i hi => by match i, hi with
      | 0, _ => exact p0.2.1
      | 1, _ => exact p1.2.1
      | 2, _ => exact p2.2.1)
    (fun i hi => by match i, hi with
      | 0, _ => exact p0.2.2.1
      | 1, _ => exact p1.2.2.1
      | 2, _ => exact p2.2.2.1)
    hnt hct hmt W hT
    (fun i hi => by match i, hi with
      | 0, _ => exact p0.2.2.2
      | 1, _ => exact p1.2.2.2
      | 2, _ => exact p2.2.2.2)
    hrt

theorem laid_met (os : Os) : laidMet Tryd.prog laidL ((laidWorld os).forCall (fun _ _ => 0) ⟨#[], #[.agg #[.slice none 0 0, .slice none 0 0, .slice none 0 0], .slice none 0 0], []⟩).memory :=
  laidMet_of_run' 8 (by kernel_rfl) (by kernel_rfl)
theorem reads (os : Os) {H : Type} (enc : TypeId × Value → H) : ∃ places, DataW.whole enc Tryd.prog ((laidWorld os).forCall (fun _ _ => 0) ⟨#[], #[.agg #[.slice none 0 0, .slice none 0 0, .slice none 0 0], .slice none 0 0], []⟩).memory Tryd.f3.params.toList Rows.regexOrderSpec.vars false (#[.agg #[.slice none 0 0, .slice none 0 0, .slice none 0 0], .slice none 0 0] : Array Value).toList 8 = some ([.agg [.agg [.nil], .agg [.nil], .agg [.nil]], .nil], [], places) :=
  ⟨[], by kernel_rfl⟩
set_option maxRecDepth 100000 in
theorem RegexOrder_said : Rows.RegexOrderSaid :=
  OpenClaim.holds_of_cond 3 Tryd.f3 rfl rfl rfl rfl rfl rfl rfl ⟨rfl, rfl, rfl, rfl, rfl⟩ rfl rfl rfl rfl rfl (by kernel_rfl) Tryd.func3 (by kernel_rfl)
    (of_decide_eq_true (by kernel_rfl)) (by unfold Func.isWrapper; first | (rw [if_pos (by decide +kernel)]; kernel_rfl) | (rw [if_neg (by decide +kernel)]; exact ⟨rfl, rfl⟩))
    (fun os started H enc _ F => by
      rw [OpenClaim.pre_eq_preRow]
      obtain ⟨places, hx⟩ := reads os enc
      exact law_lifted_laid (s := Rows.regexOrderSpec) (conds := Rows.regexOrderRow.domain) Tryd.func3 (by kernel_rfl) rfl
        (fun H ds h => by rw [Tryd.params3] at h; match ds, h with | [_, _], _ => rfl) (by kernel_rfl) (by kernel_rfl) os started H enc F
        (witness_row_at (enc := enc) (C := Tryd.checked) false (laidWorld os) #[.agg #[.slice none 0 0, .slice none 0 0, .slice none 0 0], .slice none 0 0] rfl (by kernel_rfl) (by kernel_rfl) (by kernel_rfl)
          (OpenSpec.preRow_of_cond 8 hx (by kernel_rfl) (fun k hk => by cases hk) (by kernel_rfl) (laid_met os)))
        (fun W args ds p h hT => by
          obtain ⟨⟨base, hok⟩, hA, hl⟩ := h
          rw [Tryd.params3] at hok hA hl
          obtain ⟨v0, v1, d0, d1, p0, p1, rfl, rfl, rfl, g0, g1⟩ := trodAll_two hA
          obtain ⟨_, _, _, _, _, _, _, _, _, _, _, _, rfl, p0a, p0b, p0c⟩ := open_rex3 (hok 0 25 v0 rfl rfl) g0 (hl 0 25 d0 rfl rfl)
          obtain ⟨A1, n1, c1, l1, rfl, e1, a1, b1, r1⟩ := open_bytes (hok 1 26 v1 rfl rfl) g1 (hl 1 26 d1 rfl rfl)
          exact order_walk _ _ _ _ _ _ _ _ _ _ _ _ _ _ _ _ W p0a p0b p0c e1 a1 b1 hT r1))

theorem plain_params (f : FuncId) (fn : Func) (hf : Tryd.pinned.checked.prog.funcNamed "incunable/incunablelaw09.RegexOrder" = some f) (hfn : Tryd.pinned.checked.prog.funcs[f]? = some fn) :
    true = Tryd.pinned.checked.prog.looks [] ∧ ∀ (j : Nat) t, fn.params[j]? = some t → Tryd.pinned.checked.prog.wantsStandIn t = false := by
  obtain rfl : f = 3 := Option.some.inj ((show Tryd.prog.funcNamed "incunable/incunablelaw09.RegexOrder" = some 3 by kernel_rfl).symm.trans hf) |>.symm
  obtain rfl : fn = Tryd.f3 := (Option.some.inj (Tryd.func3.symm.trans hfn)).symm
  refine ⟨by kernel_rfl, fun j t ht => ?_⟩
  rw [Tryd.params3] at ht
  have hm : t ∈ [25, 26] := by simpa using Array.mem_of_getElem? ht
  have hall : ([25, 26].all fun u => !Tryd.prog.wantsStandIn u) = true := by kernel_rfl
  exact (show Tryd.prog.wantsStandIn t = false by simpa using List.all_eq_true.1 hall t hm)

/-- The card. -/
theorem RegexOrderCard_holds : Rows.RegexOrderCardSaid :=
  Claim7.holds_tied_plain_at .later [] _ _ _ _ RegexOrder_said (fun _ h => by cases h) (by kernel_rfl) (fun _ h => by cases h) regexOrder_row_tie rfl ⟨rfl, rfl⟩ (by kernel_rfl) rfl plain_params (by kernel_rfl)

end Go.Proofs.YteedmkokbapkgabDoor
