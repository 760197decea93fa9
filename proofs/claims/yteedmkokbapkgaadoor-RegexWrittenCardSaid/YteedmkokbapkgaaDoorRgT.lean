/- allBehind and taking: which places may follow, and which take a byte. Under: math/bits' table as it was laid. -/
import Derived.Test.YteedmkokbapkgaaDoorRgS
set_option linter.unusedVariables false
set_option linter.unusedSimpArgs false
namespace Go.Proofs.YteedmkokbapkgaaDoor
open Go.RowKit Go.Shelf
attribute [local go_sem] Oper.semAt_some

/-- A structure out of a block's midst, whichever operation comes up first. -/
theorem yields_mid {ops : Array Oper} {S : World → Prop} {op : Oper} {a : Act} (ty : TypeId) (k : Nat) (hw : Region.wanted op (yielded ops a.tmps) = true) (x : Operand) (ho : op.op = .load ty x)
    (ad : Addr) (hx : a.eval x = .pointer (some ad)) (vs : List Value) (hagg : ∀ w, (isAgg ty).run Tryd.prog w = .ok true w) (hsz : ∀ w, (sizeOf ty).run Tryd.prog w = .ok k w) (hk : vs.length = k) (hS : ∀ w, S w → ∀ j u, vs[j]? = some u → w.cell? (ad.add j) = some u) : YieldsIf Tryd.prog ops S op (.agg vs.toArray) a :=
  .inl ⟨hw, fun w hw' => by
    unfold execOp
    simp only [ho, hx, Instr.loadAt, Instr.sureAddr, Sem.run_bind, Sem.run_pure, Result.andThen_ok, run_load_agg ty k w ad vs (hagg w) (hsz w) hk (hS w hw')]⟩
theorem size_chart : (Tryd.prog.info? 71).map (·.size) = some 11 := by kernel_rfl
/-- What a chart's eleven cells are. -/
structure IsCh (cs : Array Value) (nn : Bool) (fi la : S4) (A : Option Addr) (N c q : Nat) : Prop where
  size : cs.size = 11
  none : cs[0]? = some (.bool nn)
  first : ∀ j u, (setCells fi)[j]? = some u → cs[1 + j]? = some u
  last : ∀ j u, (setCells la)[j]? = some u → cs[5 + j]? = some u
  nodes : cs[9]? = some (.slice A N c)
  behind : cs[10]? = some (.slice (some ⟨q, 0, .none⟩) N N)
def nextK (B : Nat → S4) (s : S4) (k : Nat) : S4 := ((elems s.f).take k).foldl (fun a p => orS a (B p)) nilS
theorem nextK_succ (B : Nat → S4) (s : S4) (k p : Nat) (h : (elems s.f).take (k + 1) = (elems s.f).take k ++ [p]) : nextK B s (k + 1) = orS (nextK B s k) (B p) := by
  unfold nextK
  rw [h, List.foldl_append]
  rfl
theorem new_set (w : World) (o1 o2 o3 o4 : Obj) (s : S4) : HS (((((w.alloc o1).alloc o2).alloc o3).alloc (.cells tab4 57)).alloc o4) (w.heap.size + 1 + 1 + 1) nilS := by
  have h := HS.new (((w.alloc o1).alloc o2).alloc o3)
  simp only [World.size_alloc] at h
  exact H4.alloc h o4

set_option maxRecDepth 100000 in
set_option maxHeartbeats 4000000 in
theorem behind_any (cs : Array Value) (nn : Bool) (fi la : S4) (A : Option Addr) (N c q : Nat) (B : Nat → S4) (s : S4) (w : World) (hch : IsCh cs nn fi la A N c q) (hT : Tab w) (hB : HB w q N B) (hN : N ≤ 256) (hs : ∀ p, p < 256 → hasS s p = true → p < N) :
    Calls Tryd.prog 54 #[.agg cs, encS s] w (GotS w (nextS B s)) := by
  refine (callsIn_wide (n := 4)).1 ?_
  show CallsIn Fence.wide 4 Tryd.prog 54 #[.agg cs, .agg (row4 s.f)] w _
  refine callsIn_of_wp_marks Tryd.func54 rfl trivial ?_ rfl
  simp only [Tryd.ntmps54, List.size_toArray, List.length_cons, List.length_nil, Nat.reduceAdd, Nat.reduceSub, Array.replicate_succ, Array.replicate_zero, List.push_toArray, List.append_toArray, List.nil_append, List.cons_append]
  have hfn := fun (B : Nat) (W : World) => func_nil B W
  have hz := zero4
  have hTb : 0 < w.heap.size := World.block_lt_of_cell? w _ (hT 0 (by omega))
  have b1 := bl_alloc (bl_alloc (bl_alloc (bl_alloc (Below.refl w.heap.size w) (.cells cs 71)) (.cells (row4 s.f) 57)) (.cells tab4 57)) (.cells tab4 57)
  have HA : Hid (H4 ((((w.alloc (.cells cs 71)).alloc (.cells (row4 s.f) 57)).alloc (.cells tab4 57)).alloc (.cells tab4 57)) (w.heap.size + 1) s.f) := Lib.hid (((H4.new1 w _ s.f).alloc _).alloc _)
  gi_wp2_with (first
    | (refine wpListIn_load_row rfl 57 _ rfl (w.heap.size + 1) rfl _ _ (0, 0) _ HA.out Tryd.underlying57 rfl (by rw [size4, row4_size]) ?_)
    | (refine ⟨trivial, ?_⟩; gi_at_call 69; refine (callsIn_wide.2 (all_make s.f _)).mono ?_; rintro e w' ⟨rfl, rfl⟩))
  clear hfn hz HA
  have hX := H4.new ((((w.alloc (.cells cs 71)).alloc (.cells (row4 s.f) 57)).alloc (.cells tab4 57)).alloc (.cells tab4 57)) s.f
  have hB0 := bl_alloc b1 (.cells (row4 s.f) 57)
  have hR : HS (((((w.alloc (.cells cs 71)).alloc (.cells (row4 s.f) 57)).alloc (.cells tab4 57)).alloc (.cells tab4 57)).alloc (.cells (row4 s.f) 57)) (w.heap.size + 1 + 1) nilS := by
    have h := HS.new ((w.alloc (.cells cs 71)).alloc (.cells (row4 s.f) 57))
    simp only [World.size_alloc] at h
    exact H4.alloc (H4.alloc h _) _
  have hE := new_set w (.cells cs 71) (.cells (row4 s.f) 57) (.cells tab4 57) (.cells (row4 s.f) 57) s
  have hP : (((((w.alloc (.cells cs 71)).alloc (.cells (row4 s.f) 57)).alloc (.cells tab4 57)).alloc (.cells tab4 57)).alloc (.cells (row4 s.f) 57)).heap[w.heap.size]? = some (.cells cs 71 (0, 0)) := by
    rw [Below.heap_alloc _ _ _ (by simp; omega), Below.heap_alloc _ _ _ (by simp; omega), Below.heap_alloc _ _ _ (by simp; omega), Below.heap_alloc _ _ _ (by simp)]
    exact heap_alloc_new w _
  simp only [World.size_alloc] at hX
  have hT4 := hT.below hB0
  have hq0 := hB.lt
  have hs4 : (((((w.alloc (.cells cs 71)).alloc (.cells (row4 s.f) 57)).alloc (.cells tab4 57)).alloc (.cells tab4 57)).alloc (.cells (row4 s.f) 57)).heap.size = w.heap.size + 5 := by simp
  have hBq := hB.below hB0
  clear b1
  generalize ((((w.alloc (.cells cs 71)).alloc (.cells (row4 s.f) 57)).alloc (.cells tab4 57)).alloc (.cells tab4 57)).alloc (.cells (row4 s.f) 57) = W0 at *
  refine wp_told (n := 4) (by omega) (gf := 84) (lb := #[.pointer (some ⟨w.heap.size + 1 + 1 + 1 + 1, 0, none⟩)]) rfl (enters_of Tryd.func84 (by kernel_rfl) rfl)
    (all_tell 3 (w.heap.size + 1 + 1 + 1 + 1) w.heap.size s.f (by omega) W0 (by omega) hX hT4 hTb) (Below.refl _ _) (by omega) rfl
    (fun k W => HS W (w.heap.size + 1 + 1 + 1) (nextK B s k) ∧ W0.grownBy W (some (w.heap.size + 1 + 1 + 1))) (fun _ _ _ => False)
    (AbT.and (abT_block (X := fun k => .cells (row4 (nextK B s k).f) 57 (0, 0)) (by omega)) (abT_grown rfl)) (fun _ _ _ _ _ hs _ _ => hs)
    ⟨hE, ⟨rfl, rfl, rfl, Nat.le_refl _, fun i _ _ => rfl⟩⟩
    (fun x => { tmps := #[.agg cs, .agg (row4 s.f), .pointer (some ⟨w.heap.size, 0, none⟩), .pointer (some ⟨w.heap.size + 1, 0, none⟩), .pointer (some ⟨w.heap.size + 1 + 1, 0, none⟩), .pointer (some ⟨w.heap.size + 1 + 1 + 1, 0, none⟩), .int .u8 (x.1 : Int), .agg (row4 s.f),
      .func (.func 84) #[] #[.pointer (some ⟨w.heap.size + 1 + 1 + 1 + 1, 0, none⟩)], .int .u8 (x.1 : Int), undef, undef, undef, undef, undef, undef, undef, undef], defers := [] }) ?assign ?body ?done ?stop
  case assign =>
    intro l x W K hK
    unfold encB
    gi_wp2
    exact hK
  case body =>
    rintro l k hk W ⟨hBk, hG⟩
    obtain ⟨p, hp, hp256, hps, htk⟩ := elems_at s k hk
    rw [hp]
    have hpN := hs p hp256 hps
    have hPk := (hG.block w.heap.size (by omega) (by simp; omega)).trans hP
    have hQk : HB W q N B := (hG.block q (by omega) (by simp; omega)).trans hBq
    have hnew := nextK_succ B s k p htk
    have HNEW := Lib.hid hnew
    have hWs := hG.size
    have HBk := Lib.hid hBk
    have HG := Lib.hid hG
    have hWl : w.heap.size + 1 + 1 + 1 < W.heap.size := H4.lt hBk
    clear hnew htk hp hBk hG hT4 hX hP hE hBq hR
    gi_wp2_with fail
    refine region_round (S := fun W' => W'.heap[w.heap.size]? = some (.cells cs 71 (0, 0)) ∧ HB W' q N B ∧ W.grownBy W' (some (w.heap.size + 1 + 1 + 1))) (by kernel_rfl) (by kernel_rfl) (fun ⟨a, w, h⟩ => h.elim) ⟨hPk, hQk, grown_of_below (bl_drewN (Below.refl W.heap.size W) 1) (some (w.heap.size + 1 + 1 + 1))⟩ (fun hHeld => ?_)
    have hBd : HS W.drew (w.heap.size + 1 + 1 + 1) (nextK B s k) := HBk.out
    clear hPk hQk
    try simp only [List.getElem_toArray, List.getElem_cons_zero, List.getElem_cons_succ, Act.put, List.setIfInBounds_toArray, List.set_cons_zero, List.set_cons_succ]
    refine wpAnyH_take (i := 1) (v := ?vzx1) rfl (by kernel_rfl) (by kernel_rfl) (by kernel_rfl) (fun _ _ _ h => h) (Or.inl ⟨by rfl, ?yzx1⟩) hHeld ?rzx1
    case yzx1 => (intro wS hSw; clear hSw; go_simp; try (with_reducible rfl))
    try simp only [List.getElem_toArray, List.getElem_cons_zero, List.getElem_cons_succ, Act.put, List.setIfInBounds_toArray, List.set_cons_zero, List.set_cons_succ]
    refine wpAnyH_take (i := 2) (v := ?vzx2) rfl (by kernel_rfl) (by kernel_rfl) (by kernel_rfl) (fun _ _ _ h => h) (Or.inl ⟨by rfl, ?yzx2⟩) hHeld ?rzx2
    case yzx2 => (intro wS hSw; have q1 := (cell_of_row wS w.heap.size 10 _ _ _ hSw.1).trans hch.behind; clear hSw; go_simp; try (with_reducible rfl))
    try simp only [List.getElem_toArray, List.getElem_cons_zero, List.getElem_cons_succ, Act.put, List.setIfInBounds_toArray, List.set_cons_zero, List.set_cons_succ]
    refine wpAnyH_take (i := 3) (v := ?vzx3) rfl (by kernel_rfl) (by kernel_rfl) (by kernel_rfl) (fun _ _ _ h => h) (Or.inl ⟨by rfl, ?yzx3⟩) hHeld ?rzx3
    case yzx3 => (intro wS hSw; clear hSw; go_simp; try (with_reducible rfl))
    try simp only [List.getElem_toArray, List.getElem_cons_zero, List.getElem_cons_succ, Act.put, List.setIfInBounds_toArray, List.set_cons_zero, List.set_cons_succ]
    refine wpAnyH_take (i := 4) (v := ?vzx4) rfl (by kernel_rfl) (by kernel_rfl) (by kernel_rfl) (fun _ _ _ h => h) (Or.inl ⟨by rfl, ?yzx4⟩) hHeld ?rzx4
    case yzx4 => (intro wS hSw; clear hSw; go_simp; try (with_reducible rfl))
    try simp only [List.getElem_toArray, List.getElem_cons_zero, List.getElem_cons_succ, Act.put, List.setIfInBounds_toArray, List.set_cons_zero, List.set_cons_succ]
    refine wpAnyH_take (i := 5) (v := .agg (setCells (B p)).toArray) rfl (by kernel_rfl) (by kernel_rfl) (by kernel_rfl) (fun _ _ _ h => h) (yields_mid 57 4 (by rfl) (.tmp 14) rfl ⟨q, p * 4, none⟩ rfl (setCells (B p)) agg_set size_set rfl (fun w h => h.2.1.cells hpN)) hHeld ?_
    try simp only [List.getElem_toArray, List.getElem_cons_zero, List.getElem_cons_succ, Act.put, List.setIfInBounds_toArray, List.set_cons_zero, List.set_cons_succ]
    refine wpAnyH_ready (rs := [0]) (by kernel_rfl) (by simp) (AllReadyH.cons rfl (fun K hK => ?_) AllReadyH.nil)
    rw [if_pos (by rfl)]
    refine wp_load_row 57 _ rfl (w.heap.size + 1 + 1 + 1) rfl 57 _ (0, 0) _ hBd Tryd.underlying57 rfl (by rw [size4, row4_size]) ?_
    refine hK.out _ _ hHeld (fun hHeld => ?_)
    clear hK K
    try simp only [List.getElem_toArray, List.getElem_cons_zero, List.getElem_cons_succ, Act.put, List.setIfInBounds_toArray, List.set_cons_zero, List.set_cons_succ]
    refine wpAnyH_ready (rs := [6]) (by kernel_rfl) (by simp) (AllReadyH.cons rfl (fun K hK => ?_) AllReadyH.nil)
    go_simp
    go_at_call 68
    refine (union_is (nextK B s k) (B p) _).mono ?_
    rintro e w3 ⟨rfl, hb3⟩
    have HB3 := Lib.hid (hBd.below hb3)
    have hS1 : w3.heap[w.heap.size]? = some (.cells cs 71 (0, 0)) ∧ HB w3 q N B ∧ W.grownBy w3 (some (w.heap.size + 1 + 1 + 1)) := ⟨(hb3.block _ (Array.getElem?_eq_some_iff.1 hHeld.1).1).trans hHeld.1, hHeld.2.1.below hb3, hHeld.2.2.trans (grown_of_below hb3 _)⟩
    clear hHeld hb3 hBd
    go_wp2_with fail
    refine hK.out _ _ hS1 (fun hHeld => ?_)
    clear hK K hS1
    try simp only [List.getElem_toArray, List.getElem_cons_zero, List.getElem_cons_succ, Act.put, List.setIfInBounds_toArray, List.set_cons_zero, List.set_cons_succ]
    refine wpAnyH_ready (rs := [7]) (by kernel_rfl) (by simp) (AllReadyH.cons rfl (fun K hK => ?_) AllReadyH.nil)
    rw [if_pos (by rfl)]
    refine wp_store_row 57 _ _ rfl (w.heap.size + 1 + 1 + 1) _ rfl rfl 57 _ HB3.out (by rw [size4, row4_size]) (by rw [row4_size, row4_size]) (row4_one _) ?_
    have hrow := HB3.out.laid (orS (nextK B s k) (B p))
    rw [← HNEW.out] at hrow ⊢
    have hgr : w3.grownBy (w3.setRow (w.heap.size + 1 + 1 + 1) (row4 (nextK B s (k + 1)).f)) (some (w.heap.size + 1 + 1 + 1)) := ⟨rfl, rfl, rfl, by simp, fun i _ hi => setRow_other _ _ _ _ (fun e => hi (by rw [e]))⟩
    have hS2 : (w3.setRow (w.heap.size + 1 + 1 + 1) (row4 (nextK B s (k + 1)).f)).heap[w.heap.size]? = some (.cells cs 71 (0, 0)) ∧ HB (w3.setRow (w.heap.size + 1 + 1 + 1) (row4 (nextK B s (k + 1)).f)) q N B ∧ W.grownBy (w3.setRow (w.heap.size + 1 + 1 + 1) (row4 (nextK B s (k + 1)).f)) (some (w.heap.size + 1 + 1 + 1)) :=
      ⟨(setRow_other w3 _ _ _ (by omega)).trans hHeld.1, (setRow_other w3 _ _ _ (by omega)).trans hHeld.2.1, hHeld.2.2.trans hgr⟩
    refine hK.out _ _ hS2 (fun hHeld2 => ?_)
    clear hK K
    refine wpAnyH_done (by kernel_rfl) ?_ _
    have hbe := body_end (n0 := w.heap.size) (m := W0.heap.size) (W := W) hHeld2.2.2 HBk.out (by omega) (by omega) (by omega)
    exact ⟨hbe.1, hbe.2, hrow, HG.out.trans hHeld2.2.2⟩
  case done =>
    rintro D W hD ⟨hBk, hG⟩ hK
    have hfull : nextK B s (finL (elems s.f)).length = nextS B s := by
      unfold nextK nextS
      rw [finL_len, List.take_length]
    rw [hfull] at hBk
    have hRk : HS W (w.heap.size + 1 + 1) nilS := (hG.block (w.heap.size + 1 + 1) (by omega) (by simp)).trans hR
    have HK := Lib.hid hK
    have H1 := Lib.hid hRk
    have H2 := Lib.hid hBk
    have HG := Lib.hid hG
    clear hK hRk hBk hG hT4 hX hP hE hBq hR
    gi_wp2_with (first
      | (refine wpListIn_load_row rfl 57 _ rfl (w.heap.size + 1 + 1 + 1) rfl _ _ (0, 0) _ H2.out Tryd.underlying57 rfl (by rw [size4, row4_size]) ?_)
      | (refine wpListIn_store_row rfl 57 _ _ rfl (w.heap.size + 1 + 1) _ rfl rfl _ _ H1.out (by rw [size4, row4_size]) (by rw [row4_size, row4_size]) (row4_one _) ?_))
    have hsr := H1.out.laid (nextS B s)
    have hKs : (W.setRow (w.heap.size + 1 + 1) (row4 (nextS B s).f)).heap[D]? = some (.deferred (some [])) := by rw [setRow_other _ _ _ _ (by omega)]; exact HK.out
    refine ⟨by simp, .inl ⟨_, _, rfl, run_takeDeferred hKs, ?_⟩⟩
    refine ⟨encS (nextS B s), ?_, rfl, ?_⟩
    · refine results_cell_row rfl _ _ (w.heap.size + 1 + 1) 57 _ (0, 0) _ rfl ?_ Tryd.underlying57 rfl (by rw [size4, row4_size])
      rw [World.putObj_heap_other (by omega)]
      exact hsr
    · have hbl : Below w.heap.size w W := hB0.grown HG.out (by omega) (fun k e => by cases e; omega)
      exact (bl_setRow hbl (by omega) _).trans (belowK_b (w := w) (Nat.le_refl _) _ D _ _ (by omega) hKs rfl rfl)
  case stop =>
    rintro D c k W _ _ h _
    exact h.elim

end Go.Proofs.YteedmkokbapkgaaDoor
