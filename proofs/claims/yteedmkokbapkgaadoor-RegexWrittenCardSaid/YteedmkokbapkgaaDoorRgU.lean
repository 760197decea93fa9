/- taking: which places take a byte. Under: math/bits' table as it was laid. -/
import Derived.Test.YteedmkokbapkgaaDoorRgT
set_option linter.unusedVariables false
set_option linter.unusedSimpArgs false
namespace Go.Proofs.YteedmkokbapkgaaDoor
open Go.RowKit Go.Shelf
attribute [local go_sem] Oper.semAt_some

/-- Where a node's set lies. -/
def setAd (ad : Addr) (p : Nat) : Addr := ⟨(ad.add (p * 7)).block, (ad.add (p * 7)).off + 1, none⟩
theorem RdR.set {w : World} {A : Option Addr} {l : List RN} (h : RdR w A l) {p : Nat} (hp : p < l.length) : ∃ ad, A = some ad ∧ ∀ j u, (setCells (labOf l p))[j]? = some u → w.cell? ((setAd ad p).add j) = some u := by
  obtain ⟨ad, e, hc⟩ := h p hp
  have hl : labOf l p = l[p].set := by
    unfold labOf
    rw [List.getD_eq_getElem?_getD, List.getElem?_eq_getElem hp]
    rfl
  refine ⟨ad, e, fun j u hu => ?_⟩
  rw [hl] at hu
  have hj : j < 4 := (List.getElem?_eq_some_iff.1 hu).1
  match j, hj with
  | 0, _ => have := hc 1 u hu; simpa [setAd, Addr.add] using this
  | 1, _ => have := hc 2 u hu; simpa [setAd, Addr.add] using this
  | 2, _ => have := hc 3 u hu; simpa [setAd, Addr.add] using this
  | 3, _ => have := hc 4 u hu; simpa [setAd, Addr.add] using this
def hereK (L : Nat → S4) (s : S4) (c k : Nat) : S4 := (((elems s.f).take k).filter fun p => hasS (L p) c).foldl (fun a p => orS a (oneS p)) nilS
theorem hereK_yes (L : Nat → S4) (s : S4) (c k p : Nat) (h : (elems s.f).take (k + 1) = (elems s.f).take k ++ [p]) (hy : hasS (L p) c = true) : hereK L s c (k + 1) = orS (hereK L s c k) (oneS p) := by
  unfold hereK
  rw [h, List.filter_append, List.foldl_append]
  simp [hy]
theorem hereK_no (L : Nat → S4) (s : S4) (c k p : Nat) (h : (elems s.f).take (k + 1) = (elems s.f).take k ++ [p]) (hy : hasS (L p) c = false) : hereK L s c (k + 1) = hereK L s c k := by
  unfold hereK
  rw [h, List.filter_append, List.foldl_append]
  simp [hy]
theorem new_set5 (w : World) (o1 o2 o3 o4 o5 : Obj) (s : S4) : HS ((((((w.alloc o1).alloc o2).alloc o3).alloc o4).alloc (.cells tab4 57)).alloc o5) (w.heap.size + 1 + 1 + 1 + 1) nilS := by
  have h := HS.new ((((w.alloc o1).alloc o2).alloc o3).alloc o4)
  simp only [World.size_alloc] at h
  exact H4.alloc h o5
theorem of_nat (p : Nat) (hp : p < 256) (w : World) : Calls Tryd.prog 31 #[.slice (some ⟨w.heap.size, 0, none⟩) 1 1] (w.alloc (.cells #[.int .u8 (p : Int)] 5)) (GotS (w.alloc (.cells #[.int .u8 (p : Int)] 5)) (oneS p)) := by
  have h := of_one (UInt8.ofNat p) w
  have e : (UInt8.ofNat p).toNat = p := by simp; omega
  rw [e] at h
  exact h

set_option maxRecDepth 100000 in
set_option maxHeartbeats 4000000 in
theorem taking_any (cs : Array Value) (nn : Bool) (fi la : S4) (A : Option Addr) (N c q : Nat) (l : List RN) (s : S4) (b : UInt8) (w : World) (hch : IsCh cs nn fi la A N c q) (hT : Tab w) (hl : l.length = N) (hr : RdR w A l) (hN : N ≤ 256) (hs : ∀ p, p < 256 → hasS s p = true → p < N) :
    Calls Tryd.prog 52 #[.agg cs, encS s, .int .u8 (b.toNat : Int)] w (GotS w (hereS (labOf l) s b.toNat)) := by
  refine (callsIn_wide (n := 4)).1 ?_
  show CallsIn Fence.wide 4 Tryd.prog 52 #[.agg cs, .agg (row4 s.f), .int .u8 (b.toNat : Int)] w _
  refine callsIn_of_wp_marks Tryd.func52 rfl trivial ?_ rfl
  simp only [Tryd.ntmps52, List.size_toArray, List.length_cons, List.length_nil, Nat.reduceAdd, Nat.reduceSub, Array.replicate_succ, Array.replicate_zero, List.push_toArray, List.append_toArray, List.nil_append, List.cons_append]
  have hfn := fun (B : Nat) (W : World) => func_nil B W
  have hz := zero4
  have hTb : 0 < w.heap.size := World.block_lt_of_cell? w _ (hT 0 (by omega))
  have HLL := Lib.hid hl
  clear hl
  have b1 := bl_alloc (bl_alloc (bl_alloc (bl_alloc (bl_alloc (Below.refl w.heap.size w) (.cells cs 71)) (.cells (row4 s.f) 57)) (.cells #[.int .u8 (b.toNat : Int)] 5)) (.cells tab4 57)) (.cells tab4 57)
  have HA : Hid (H4 (((((w.alloc (.cells cs 71)).alloc (.cells (row4 s.f) 57)).alloc (.cells #[.int .u8 (b.toNat : Int)] 5)).alloc (.cells tab4 57)).alloc (.cells tab4 57)) (w.heap.size + 1) s.f) := Lib.hid ((((H4.new1 w _ s.f).alloc _).alloc _).alloc _)
  gi_wp2_with (first
    | (refine wpListIn_load_row rfl 57 _ rfl (w.heap.size + 1) rfl _ _ (0, 0) _ HA.out Tryd.underlying57 rfl (by rw [size4, row4_size]) ?_)
    | (refine ⟨trivial, ?_⟩; gi_at_call 69; refine (callsIn_wide.2 (all_make s.f _)).mono ?_; rintro e w' ⟨rfl, rfl⟩))
  clear hfn hz HA
  have hX := H4.new (((((w.alloc (.cells cs 71)).alloc (.cells (row4 s.f) 57)).alloc (.cells #[.int .u8 (b.toNat : Int)] 5)).alloc (.cells tab4 57)).alloc (.cells tab4 57)) s.f
  have hB0 := bl_alloc b1 (.cells (row4 s.f) 57)
  have hR : HS ((((((w.alloc (.cells cs 71)).alloc (.cells (row4 s.f) 57)).alloc (.cells #[.int .u8 (b.toNat : Int)] 5)).alloc (.cells tab4 57)).alloc (.cells tab4 57)).alloc (.cells (row4 s.f) 57)) (w.heap.size + 1 + 1 + 1) nilS := by
    have h := HS.new (((w.alloc (.cells cs 71)).alloc (.cells (row4 s.f) 57)).alloc (.cells #[.int .u8 (b.toNat : Int)] 5))
    simp only [World.size_alloc] at h
    exact H4.alloc (H4.alloc h _) _
  have hE := new_set5 w (.cells cs 71) (.cells (row4 s.f) 57) (.cells #[.int .u8 (b.toNat : Int)] 5) (.cells tab4 57) (.cells (row4 s.f) 57) s
  have hP : ((((((w.alloc (.cells cs 71)).alloc (.cells (row4 s.f) 57)).alloc (.cells #[.int .u8 (b.toNat : Int)] 5)).alloc (.cells tab4 57)).alloc (.cells tab4 57)).alloc (.cells (row4 s.f) 57)).heap[w.heap.size]? = some (.cells cs 71 (0, 0)) := by
    rw [Below.heap_alloc _ _ _ (by simp; omega), Below.heap_alloc _ _ _ (by simp; omega), Below.heap_alloc _ _ _ (by simp; omega), Below.heap_alloc _ _ _ (by simp; omega), Below.heap_alloc _ _ _ (by simp)]
    exact heap_alloc_new w _
  have hY : ((((((w.alloc (.cells cs 71)).alloc (.cells (row4 s.f) 57)).alloc (.cells #[.int .u8 (b.toNat : Int)] 5)).alloc (.cells tab4 57)).alloc (.cells tab4 57)).alloc (.cells (row4 s.f) 57)).heap[w.heap.size + 1 + 1]? = some (.cells #[.int .u8 (b.toNat : Int)] 5 (0, 0)) := by
    rw [Below.heap_alloc _ _ _ (by simp), Below.heap_alloc _ _ _ (by simp), Below.heap_alloc _ _ _ (by simp)]
    have := heap_alloc_new ((w.alloc (.cells cs 71)).alloc (.cells (row4 s.f) 57)) (.cells #[.int .u8 (b.toNat : Int)] 5)
    simpa only [World.size_alloc] using this
  simp only [World.size_alloc] at hX
  have hT4 := hT.below hB0
  have hs4 : ((((((w.alloc (.cells cs 71)).alloc (.cells (row4 s.f) 57)).alloc (.cells #[.int .u8 (b.toNat : Int)] 5)).alloc (.cells tab4 57)).alloc (.cells tab4 57)).alloc (.cells (row4 s.f) 57)).heap.size = w.heap.size + 6 := by simp
  have hr4 := hr.below hB0
  clear b1
  generalize (((((w.alloc (.cells cs 71)).alloc (.cells (row4 s.f) 57)).alloc (.cells #[.int .u8 (b.toNat : Int)] 5)).alloc (.cells tab4 57)).alloc (.cells tab4 57)).alloc (.cells (row4 s.f) 57) = W0 at *
  refine wp_told (n := 4) (by omega) (gf := 84) (lb := #[.pointer (some ⟨w.heap.size + 1 + 1 + 1 + 1 + 1, 0, none⟩)]) rfl (enters_of Tryd.func84 (by kernel_rfl) rfl)
    (all_tell 3 (w.heap.size + 1 + 1 + 1 + 1 + 1) w.heap.size s.f (by omega) W0 (by omega) hX hT4 hTb) (Below.refl _ _) (by omega) rfl
    (fun k W => HS W (w.heap.size + 1 + 1 + 1 + 1) (hereK (labOf l) s b.toNat k) ∧ W0.grownBy W (some (w.heap.size + 1 + 1 + 1 + 1))) (fun _ _ _ => False)
    (AbT.and (abT_block (X := fun k => .cells (row4 (hereK (labOf l) s b.toNat k).f) 57 (0, 0)) (by omega)) (abT_grown rfl)) (fun _ _ _ _ _ hs _ _ => hs)
    ⟨hE, ⟨rfl, rfl, rfl, Nat.le_refl _, fun i _ _ => rfl⟩⟩
    (fun x => { tmps := #[.agg cs, .agg (row4 s.f), .int .u8 (b.toNat : Int), .pointer (some ⟨w.heap.size, 0, none⟩), .pointer (some ⟨w.heap.size + 1, 0, none⟩), .pointer (some ⟨w.heap.size + 1 + 1, 0, none⟩), .pointer (some ⟨w.heap.size + 1 + 1 + 1, 0, none⟩), .pointer (some ⟨w.heap.size + 1 + 1 + 1 + 1, 0, none⟩), .int .u8 (x.1 : Int), .agg (row4 s.f),
      .func (.func 84) #[] #[.pointer (some ⟨w.heap.size + 1 + 1 + 1 + 1 + 1, 0, none⟩)], .int .u8 (x.1 : Int), undef, undef, undef, undef, undef, undef, undef, undef, undef, undef, undef, undef, undef, undef], defers := [] }) ?assign ?body ?done ?stop
  case assign =>
    intro l x W K hK
    unfold encB
    gi_wp2
    exact hK
  case body =>
    rintro l0 k hk W ⟨hBk, hG⟩
    obtain ⟨p, hp, hp256, hps, htk⟩ := elems_at s k hk
    rw [hp]
    have hpN := hs p hp256 hps
    have hPk := (hG.block w.heap.size (by omega) (by simp; omega)).trans hP
    have hYk := (hG.block (w.heap.size + 1 + 1) (by omega) (by simp)).trans hY
    obtain ⟨ad, rfl, hset⟩ := hr.set (p := p) (by have := HLL.out; omega)
    have hsetk : ∀ j u, (setCells (labOf l p))[j]? = some u → W.cell? ((setAd ad p).add j) = some u := fun j u hu => by
      have h1 := hset j u hu
      have hlt := World.block_lt_of_cell? w _ h1
      have hb2 : W.heap[((setAd ad p).add j).block]? = w.heap[((setAd ad p).add j).block]? := (hG.block _ (by omega) (by simp; omega)).trans (hB0.block _ hlt)
      rw [← h1]
      simp only [World.cell?, hb2]
    have hWs := hG.size
    have HTK := Lib.hid htk
    have HBk := Lib.hid hBk
    have HG := Lib.hid hG
    have hWl : w.heap.size + 1 + 1 + 1 + 1 < W.heap.size := H4.lt hBk
    clear htk hp hBk hG hT4 hX hP hE hR hr4 hset hr
    gi_wp2_with fail
    refine region_round (S := fun W' => W'.heap[w.heap.size]? = some (.cells cs 71 (0, 0)) ∧ W'.heap[w.heap.size + 1 + 1]? = some (.cells #[.int .u8 (b.toNat : Int)] 5 (0, 0)) ∧ (∀ j u, (setCells (labOf l p))[j]? = some u → W'.cell? ((setAd ad p).add j) = some u) ∧ Below W.heap.size W W') (by kernel_rfl) (by kernel_rfl) (fun ⟨a, w, h⟩ => h.elim) ⟨hPk, hYk, hsetk, bl_drewN (Below.refl W.heap.size W) 1⟩ (fun hHeld => ?_)
    clear hPk hYk hsetk
    try simp only [List.getElem_toArray, List.getElem_cons_zero, List.getElem_cons_succ, Act.put, List.setIfInBounds_toArray, List.set_cons_zero, List.set_cons_succ]
    refine wpAnyH_take (i := 0) (v := ?vzx0) rfl (by kernel_rfl) (by kernel_rfl) (by kernel_rfl) (fun _ _ _ h => h) (Or.inl ⟨by rfl, ?yzx0⟩) hHeld ?rzx0
    case yzx0 => (intro wS hSw; clear hSw; go_simp; try (with_reducible rfl))
    try simp only [List.getElem_toArray, List.getElem_cons_zero, List.getElem_cons_succ, Act.put, List.setIfInBounds_toArray, List.set_cons_zero, List.set_cons_succ]
    refine wpAnyH_take (i := 1) (v := ?vzx1) rfl (by kernel_rfl) (by kernel_rfl) (by kernel_rfl) (fun _ _ _ h => h) (Or.inl ⟨by rfl, ?yzx1⟩) hHeld ?rzx1
    case yzx1 => (intro wS hSw; have q1 := (cell_of_row wS w.heap.size 9 _ _ _ hSw.1).trans hch.nodes; clear hSw; go_simp; try (with_reducible rfl))
    try simp only [List.getElem_toArray, List.getElem_cons_zero, List.getElem_cons_succ, Act.put, List.setIfInBounds_toArray, List.set_cons_zero, List.set_cons_succ]
    refine wpAnyH_take (i := 2) (v := ?vzx2) rfl (by kernel_rfl) (by kernel_rfl) (by kernel_rfl) (fun _ _ _ h => h) (Or.inl ⟨by rfl, ?yzx2⟩) hHeld ?rzx2
    case yzx2 => (intro wS hSw; clear hSw; go_simp; try (with_reducible rfl))
    try simp only [List.getElem_toArray, List.getElem_cons_zero, List.getElem_cons_succ, Act.put, List.setIfInBounds_toArray, List.set_cons_zero, List.set_cons_succ]
    refine wpAnyH_take (i := 3) (v := ?vzx3) rfl (by kernel_rfl) (by kernel_rfl) (by kernel_rfl) (fun _ _ _ h => h) (Or.inl ⟨by rfl, ?yzx3⟩) hHeld ?rzx3
    case yzx3 => (intro wS hSw; clear hSw; go_simp; try (with_reducible rfl))
    try simp only [List.getElem_toArray, List.getElem_cons_zero, List.getElem_cons_succ, Act.put, List.setIfInBounds_toArray, List.set_cons_zero, List.set_cons_succ]
    refine wpAnyH_take (i := 4) (v := ?vzx4) rfl (by kernel_rfl) (by kernel_rfl) (by kernel_rfl) (fun _ _ _ h => h) (Or.inl ⟨by rfl, ?yzx4⟩) hHeld ?rzx4
    case yzx4 => (intro wS hSw; clear hSw; go_simp; try (with_reducible rfl))
    try simp only [List.getElem_toArray, List.getElem_cons_zero, List.getElem_cons_succ, Act.put, List.setIfInBounds_toArray, List.set_cons_zero, List.set_cons_succ]
    refine wpAnyH_take (i := 5) (v := .agg (setCells (labOf l p)).toArray) rfl (by kernel_rfl) (by kernel_rfl) (by kernel_rfl) (fun _ _ _ h => h) (yields_mid 57 4 (by rfl) (.tmp 16) rfl (setAd ad p) rfl (setCells (labOf l p)) agg_set size_set rfl (fun w h => h.2.2.1)) hHeld ?_
    try simp only [List.getElem_toArray, List.getElem_cons_zero, List.getElem_cons_succ, Act.put, List.setIfInBounds_toArray, List.set_cons_zero, List.set_cons_succ]
    refine wpAnyH_take (i := 6) (v := ?vzx6) rfl (by kernel_rfl) (by kernel_rfl) (by kernel_rfl) (fun _ _ _ h => h) (Or.inl ⟨by rfl, ?yzx6⟩) hHeld ?rzx6
    case yzx6 => (intro wS hSw; have q1 := cell_of_row wS (w.heap.size + 1 + 1) 0 _ _ _ hSw.2.1; clear hSw; go_simp; try (with_reducible rfl))
    try simp only [List.getElem_toArray, List.getElem_cons_zero, List.getElem_cons_succ, Act.put, List.setIfInBounds_toArray, List.set_cons_zero, List.set_cons_succ]
    refine wpAnyH_ready (rs := [7]) (by kernel_rfl) (by simp) (AllReadyH.cons rfl (fun K hK => ?_) AllReadyH.nil)
    go_simp
    go_at_call 70
    refine (has_any (labOf l p).f b.toNat b.toNat_lt _).mono ?_
    rintro e w3 ⟨rfl, hb3⟩
    have hS1 : w3.heap[w.heap.size]? = some (.cells cs 71 (0, 0)) ∧ w3.heap[w.heap.size + 1 + 1]? = some (.cells #[.int .u8 (b.toNat : Int)] 5 (0, 0)) ∧ (∀ j u, (setCells (labOf l p))[j]? = some u → w3.cell? ((setAd ad p).add j) = some u) ∧ Below W.heap.size W w3 := ⟨(hb3.block _ (Array.getElem?_eq_some_iff.1 hHeld.1).1).trans hHeld.1, (hb3.block _ (Array.getElem?_eq_some_iff.1 hHeld.2.1).1).trans hHeld.2.1, fun j u hu => (hb3.cell (World.block_lt_of_cell? _ _ (hHeld.2.2.1 j u hu))).trans (hHeld.2.2.1 j u hu), bl_trans hHeld.2.2.2 hb3⟩
    clear hHeld hb3
    go_wp2_with fail
    refine hK.out _ _ hS1 (fun hHeld => ?_)
    clear hK K hS1
    refine wpAnyH_done (by kernel_rfl) ?_ _
    have hb3 := hHeld.2.2.2
    have H3 := Lib.hid (HBk.out.below hb3)
    have G3 := Lib.hid (grown_of_below hb3 (some (w.heap.size + 1 + 1 + 1 + 1)))
    have lw3 := hb3.size
    clear hHeld hb3
    have hgoal : has (labOf l p).f b.toNat = hasS (labOf l p) b.toNat := rfl
    rw [hgoal]
    cases hy : hasS (labOf l p) b.toNat with
    | false =>
      have hno := hereK_no (labOf l) s b.toNat k p HTK.out hy
      have HNO := Lib.hid hno
      clear hno hy hgoal
      gi_wp2_with fail
      have hbe := body_end (n0 := w.heap.size) (m := W0.heap.size) (W := W) G3.out HBk.out (by omega) (by omega) (by omega)
      exact ⟨hbe.1, hbe.2, by rw [HNO.out]; exact H3.out, HG.out.trans G3.out⟩
    | true =>
      have hyes := hereK_yes (labOf l) s b.toNat k p HTK.out hy
      have HYES := Lib.hid hyes
      clear hyes hy hgoal
      gi_wp2_with fail
      refine region_round (S := fun _ => True) (by kernel_rfl) (by kernel_rfl) (fun ⟨a, w, h⟩ => h.elim) trivial (fun _ => ?_)
      have HD : Hid (HS w3.drew (w.heap.size + 1 + 1 + 1 + 1) (hereK (labOf l) s b.toNat k)) := H3
      have GD : Hid (W.grownBy w3.drew (some (w.heap.size + 1 + 1 + 1 + 1))) := Lib.hid (G3.out.trans (grown_of_below (bl_drewN (Below.refl w3.heap.size w3) 1) (some (w.heap.size + 1 + 1 + 1 + 1))))
      clear H3 G3
      try simp only [List.getElem_toArray, List.getElem_cons_zero, List.getElem_cons_succ, Act.put, List.setIfInBounds_toArray, List.set_cons_zero, List.set_cons_succ]
      refine wpAnyH_take (i := 1) (v := .int .u8 (p : Int)) rfl (by kernel_rfl) (by kernel_rfl) (by kernel_rfl) (fun _ _ _ h => h) (.inl ⟨by rfl, fun _ _ => by rfl⟩) trivial ?_
      try simp only [List.getElem_toArray, List.getElem_cons_zero, List.getElem_cons_succ, Act.put, List.setIfInBounds_toArray, List.set_cons_zero, List.set_cons_succ]
      refine wpAnyH_ready (rs := [0, 2]) (by kernel_rfl) (by simp) (AllReadyH.cons rfl (fun K hK => ?_) (AllReadyH.cons rfl (fun K hK => ?_) AllReadyH.nil))
      · rw [if_pos (by rfl)]
        refine wp_load_row 57 _ rfl (w.heap.size + 1 + 1 + 1 + 1) rfl 57 _ (0, 0) _ HD.out Tryd.underlying57 rfl (by rw [size4, row4_size]) ?_
        refine hK.out _ _ trivial (fun _ => ?_)
        clear hK K
        try simp only [List.getElem_toArray, List.getElem_cons_zero, List.getElem_cons_succ, Act.put, List.setIfInBounds_toArray, List.set_cons_zero, List.set_cons_succ]
        refine wpAnyH_ready (rs := [2]) (by kernel_rfl) (by simp) (AllReadyH.cons rfl (fun K hK => ?_) AllReadyH.nil)
        go_simp
        refine hK.out _ _ trivial (fun _ => ?_)
        clear hK K
        try simp only [List.getElem_toArray, List.getElem_cons_zero, List.getElem_cons_succ, Act.put, List.setIfInBounds_toArray, List.set_cons_zero, List.set_cons_succ]
        refine wpAnyH_ready (rs := [3]) (by kernel_rfl) (by simp) (AllReadyH.cons rfl (fun K hK => ?_) AllReadyH.nil)
        go_simp
        go_at_call 31
        refine (of_nat p hp256 w3.drew).mono ?_
        rintro e w4 ⟨rfl, hb4⟩
        have bb4 := bl_trans (bl_alloc (Below.refl w3.drew.heap.size w3.drew) (.cells #[.int .u8 (p : Int)] 5)) hb4
        have H4' := Lib.hid (HD.out.below bb4)
        have G4 := Lib.hid (GD.out.trans (grown_of_below bb4 (some (w.heap.size + 1 + 1 + 1 + 1))))
        clear hb4 bb4
        go_wp2_with fail
        refine hK.out _ _ trivial (fun _ => ?_)
        clear hK K
        try simp only [List.getElem_toArray, List.getElem_cons_zero, List.getElem_cons_succ, Act.put, List.setIfInBounds_toArray, List.set_cons_zero, List.set_cons_succ]
        refine wpAnyH_ready (rs := [4]) (by kernel_rfl) (by simp) (AllReadyH.cons rfl (fun K hK => ?_) AllReadyH.nil)
        go_simp
        go_at_call 68
        refine (union_is (hereK (labOf l) s b.toNat k) (oneS p) _).mono ?_
        rintro e w5 ⟨rfl, hb5⟩
        have h5 := H4'.out.below hb5
        have g5 := G4.out.trans (grown_of_below hb5 (some (w.heap.size + 1 + 1 + 1 + 1)))
        clear hb5
        go_wp2_with fail
        refine hK.out _ _ trivial (fun _ => ?_)
        clear hK K
        try simp only [List.getElem_toArray, List.getElem_cons_zero, List.getElem_cons_succ, Act.put, List.setIfInBounds_toArray, List.set_cons_zero, List.set_cons_succ]
        refine wpAnyH_ready (rs := [5]) (by kernel_rfl) (by simp) (AllReadyH.cons rfl (fun K hK => ?_) AllReadyH.nil)
        rw [if_pos (by rfl)]
        refine wp_store_row 57 _ _ rfl (w.heap.size + 1 + 1 + 1 + 1) _ rfl rfl 57 _ h5 (by rw [size4, row4_size]) (by rw [row4_size, row4_size]) (row4_one _) ?_
        refine hK.out _ _ trivial (fun _ => ?_)
        clear hK K
        refine wpAnyH_done (by kernel_rfl) ?_ _
        have hrow := h5.laid (orS (hereK (labOf l) s b.toNat k) (oneS p))
        rw [← HYES.out] at hrow ⊢
        have hgr : w5.grownBy (w5.setRow (w.heap.size + 1 + 1 + 1 + 1) (row4 (hereK (labOf l) s b.toNat (k + 1)).f)) (some (w.heap.size + 1 + 1 + 1 + 1)) := ⟨rfl, rfl, rfl, by simp, fun i _ hi => setRow_other _ _ _ _ (fun e => hi (by rw [e]))⟩
        have hbe := body_end (n0 := w.heap.size) (m := W0.heap.size) (W := W) (g5.trans hgr) HBk.out (by omega) (by omega) (by omega)
        exact ⟨hbe.1, hbe.2, hrow, HG.out.trans (g5.trans hgr)⟩
      · go_simp
        refine hK.out _ _ trivial (fun _ => ?_)
        clear hK K
        try simp only [List.getElem_toArray, List.getElem_cons_zero, List.getElem_cons_succ, Act.put, List.setIfInBounds_toArray, List.set_cons_zero, List.set_cons_succ]
        refine wpAnyH_ready (rs := [0, 3]) (by kernel_rfl) (by simp) (AllReadyH.cons rfl (fun K hK => ?_) (AllReadyH.cons rfl (fun K hK => ?_) AllReadyH.nil))
        · rw [if_pos (by rfl)]
          refine wp_load_row 57 _ rfl (w.heap.size + 1 + 1 + 1 + 1) rfl 57 _ (0, 0) _ (H4.alloc HD.out _) Tryd.underlying57 rfl (by rw [size4, row4_size]) ?_
          refine hK.out _ _ trivial (fun _ => ?_)
          clear hK K
          try simp only [List.getElem_toArray, List.getElem_cons_zero, List.getElem_cons_succ, Act.put, List.setIfInBounds_toArray, List.set_cons_zero, List.set_cons_succ]
          refine wpAnyH_ready (rs := [3]) (by kernel_rfl) (by simp) (AllReadyH.cons rfl (fun K hK => ?_) AllReadyH.nil)
          go_simp
          go_at_call 31
          refine (of_nat p hp256 w3.drew).mono ?_
          rintro e w4 ⟨rfl, hb4⟩
          have bb4 := bl_trans (bl_alloc (Below.refl w3.drew.heap.size w3.drew) (.cells #[.int .u8 (p : Int)] 5)) hb4
          have H4' := Lib.hid (HD.out.below bb4)
          have G4 := Lib.hid (GD.out.trans (grown_of_below bb4 (some (w.heap.size + 1 + 1 + 1 + 1))))
          clear hb4 bb4
          go_wp2_with fail
          refine hK.out _ _ trivial (fun _ => ?_)
          clear hK K
          try simp only [List.getElem_toArray, List.getElem_cons_zero, List.getElem_cons_succ, Act.put, List.setIfInBounds_toArray, List.set_cons_zero, List.set_cons_succ]
          refine wpAnyH_ready (rs := [4]) (by kernel_rfl) (by simp) (AllReadyH.cons rfl (fun K hK => ?_) AllReadyH.nil)
          go_simp
          go_at_call 68
          refine (union_is (hereK (labOf l) s b.toNat k) (oneS p) _).mono ?_
          rintro e w5 ⟨rfl, hb5⟩
          have h5 := H4'.out.below hb5
          have g5 := G4.out.trans (grown_of_below hb5 (some (w.heap.size + 1 + 1 + 1 + 1)))
          clear hb5
          go_wp2_with fail
          refine hK.out _ _ trivial (fun _ => ?_)
          clear hK K
          try simp only [List.getElem_toArray, List.getElem_cons_zero, List.getElem_cons_succ, Act.put, List.setIfInBounds_toArray, List.set_cons_zero, List.set_cons_succ]
          refine wpAnyH_ready (rs := [5]) (by kernel_rfl) (by simp) (AllReadyH.cons rfl (fun K hK => ?_) AllReadyH.nil)
          rw [if_pos (by rfl)]
          refine wp_store_row 57 _ _ rfl (w.heap.size + 1 + 1 + 1 + 1) _ rfl rfl 57 _ h5 (by rw [size4, row4_size]) (by rw [row4_size, row4_size]) (row4_one _) ?_
          refine hK.out _ _ trivial (fun _ => ?_)
          clear hK K
          refine wpAnyH_done (by kernel_rfl) ?_ _
          have hrow := h5.laid (orS (hereK (labOf l) s b.toNat k) (oneS p))
          rw [← HYES.out] at hrow ⊢
          have hgr : w5.grownBy (w5.setRow (w.heap.size + 1 + 1 + 1 + 1) (row4 (hereK (labOf l) s b.toNat (k + 1)).f)) (some (w.heap.size + 1 + 1 + 1 + 1)) := ⟨rfl, rfl, rfl, by simp, fun i _ hi => setRow_other _ _ _ _ (fun e => hi (by rw [e]))⟩
          have hbe := body_end (n0 := w.heap.size) (m := W0.heap.size) (W := W) (g5.trans hgr) HBk.out (by omega) (by omega) (by omega)
          exact ⟨hbe.1, hbe.2, hrow, HG.out.trans (g5.trans hgr)⟩
        · go_simp
          go_at_call 31
          refine (of_nat p hp256 w3.drew).mono ?_
          rintro e w4 ⟨rfl, hb4⟩
          have bb4 := bl_trans (bl_alloc (Below.refl w3.drew.heap.size w3.drew) (.cells #[.int .u8 (p : Int)] 5)) hb4
          have H4' := Lib.hid (HD.out.below bb4)
          have G4 := Lib.hid (GD.out.trans (grown_of_below bb4 (some (w.heap.size + 1 + 1 + 1 + 1))))
          clear hb4 bb4
          go_wp2_with fail
          refine hK.out _ _ trivial (fun _ => ?_)
          clear hK K
          try simp only [List.getElem_toArray, List.getElem_cons_zero, List.getElem_cons_succ, Act.put, List.setIfInBounds_toArray, List.set_cons_zero, List.set_cons_succ]
          refine wpAnyH_ready (rs := [0]) (by kernel_rfl) (by simp) (AllReadyH.cons rfl (fun K hK => ?_) AllReadyH.nil)
          rw [if_pos (by rfl)]
          refine wp_load_row 57 _ rfl (w.heap.size + 1 + 1 + 1 + 1) rfl 57 _ (0, 0) _ H4'.out Tryd.underlying57 rfl (by rw [size4, row4_size]) ?_
          refine hK.out _ _ trivial (fun _ => ?_)
          clear hK K
          try simp only [List.getElem_toArray, List.getElem_cons_zero, List.getElem_cons_succ, Act.put, List.setIfInBounds_toArray, List.set_cons_zero, List.set_cons_succ]
          refine wpAnyH_ready (rs := [4]) (by kernel_rfl) (by simp) (AllReadyH.cons rfl (fun K hK => ?_) AllReadyH.nil)
          go_simp
          go_at_call 68
          refine (union_is (hereK (labOf l) s b.toNat k) (oneS p) _).mono ?_
          rintro e w5 ⟨rfl, hb5⟩
          have h5 := H4'.out.below hb5
          have g5 := G4.out.trans (grown_of_below hb5 (some (w.heap.size + 1 + 1 + 1 + 1)))
          clear hb5
          go_wp2_with fail
          refine hK.out _ _ trivial (fun _ => ?_)
          clear hK K
          try simp only [List.getElem_toArray, List.getElem_cons_zero, List.getElem_cons_succ, Act.put, List.setIfInBounds_toArray, List.set_cons_zero, List.set_cons_succ]
          refine wpAnyH_ready (rs := [5]) (by kernel_rfl) (by simp) (AllReadyH.cons rfl (fun K hK => ?_) AllReadyH.nil)
          rw [if_pos (by rfl)]
          refine wp_store_row 57 _ _ rfl (w.heap.size + 1 + 1 + 1 + 1) _ rfl rfl 57 _ h5 (by rw [size4, row4_size]) (by rw [row4_size, row4_size]) (row4_one _) ?_
          refine hK.out _ _ trivial (fun _ => ?_)
          clear hK K
          refine wpAnyH_done (by kernel_rfl) ?_ _
          have hrow := h5.laid (orS (hereK (labOf l) s b.toNat k) (oneS p))
          rw [← HYES.out] at hrow ⊢
          have hgr : w5.grownBy (w5.setRow (w.heap.size + 1 + 1 + 1 + 1) (row4 (hereK (labOf l) s b.toNat (k + 1)).f)) (some (w.heap.size + 1 + 1 + 1 + 1)) := ⟨rfl, rfl, rfl, by simp, fun i _ hi => setRow_other _ _ _ _ (fun e => hi (by rw [e]))⟩
          have hbe := body_end (n0 := w.heap.size) (m := W0.heap.size) (W := W) (g5.trans hgr) HBk.out (by omega) (by omega) (by omega)
          exact ⟨hbe.1, hbe.2, hrow, HG.out.trans (g5.trans hgr)⟩
  case done =>
    rintro D W hD ⟨hBk, hG⟩ hK
    have hfull : hereK (labOf l) s b.toNat (finL (elems s.f)).length = hereS (labOf l) s b.toNat := by
      unfold hereK hereS
      rw [finL_len, List.take_length]
    rw [hfull] at hBk
    have hRk : HS W (w.heap.size + 1 + 1 + 1) nilS := (hG.block (w.heap.size + 1 + 1 + 1) (by omega) (by simp)).trans hR
    have HK := Lib.hid hK
    have H1 := Lib.hid hRk
    have H2 := Lib.hid hBk
    have HG := Lib.hid hG
    clear hK hRk hBk hG hT4 hX hP hE hr4 hr hR
    gi_wp2_with (first
      | (refine wpListIn_load_row rfl 57 _ rfl (w.heap.size + 1 + 1 + 1 + 1) rfl _ _ (0, 0) _ H2.out Tryd.underlying57 rfl (by rw [size4, row4_size]) ?_)
      | (refine wpListIn_store_row rfl 57 _ _ rfl (w.heap.size + 1 + 1 + 1) _ rfl rfl _ _ H1.out (by rw [size4, row4_size]) (by rw [row4_size, row4_size]) (row4_one _) ?_))
    have hsr := H1.out.laid (hereS (labOf l) s b.toNat)
    have hKs : (W.setRow (w.heap.size + 1 + 1 + 1) (row4 (hereS (labOf l) s b.toNat).f)).heap[D]? = some (.deferred (some [])) := by rw [setRow_other _ _ _ _ (by omega)]; exact HK.out
    refine ⟨by simp, .inl ⟨_, _, rfl, run_takeDeferred hKs, ?_⟩⟩
    refine ⟨encS (hereS (labOf l) s b.toNat), ?_, rfl, ?_⟩
    · refine results_cell_row rfl _ _ (w.heap.size + 1 + 1 + 1) 57 _ (0, 0) _ rfl ?_ Tryd.underlying57 rfl (by rw [size4, row4_size])
      rw [World.putObj_heap_other (by omega)]
      exact hsr
    · have hbl : Below w.heap.size w W := hB0.grown HG.out (by omega) (fun k e => by cases e; omega)
      exact (bl_setRow hbl (by omega) _).trans (belowK_b (w := w) (Nat.le_refl _) _ D _ _ (by omega) hKs rfl rfl)
  case stop =>
    rintro D c k W _ _ h _
    exact h.elim

end Go.Proofs.YteedmkokbapkgaaDoor
