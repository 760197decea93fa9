/- takes of a chart: a text is gone through. Under: math/bits' table as it was laid. -/
import Derived.Test.YtjibfffefppniaaGreatDoorRgSM
set_option linter.unusedVariables false
set_option linter.unusedSimpArgs false
namespace Go.Proofs.YtjibfffefppniaaGreatDoor
open Go.RowKit Go.Shelf

theorem agg_chart (w : World) : (isAgg 64).run Tryz.prog w = .ok true w := by kernel_rfl
theorem sz_chart (w : World) : (sizeOf 64).run Tryz.prog w = .ok 11 w := by kernel_rfl
theorem yields_chart {ops : Array Oper} {S : World → Prop} {op : Oper} {a : Act} (hw : Region.wanted op (yielded ops a.tmps) = true) (x : Operand) (ho : op.op = .load 64 x)
    (b : Nat) (hx : a.eval x = .pointer (some ⟨b, 0, none⟩)) (cs : Array Value) (hk : cs.size = 11) (hS : ∀ w, S w → w.heap[b]? = some (.cells cs 64 (0, 0))) : YieldsIf Tryz.prog ops S op (.agg cs) a := by
  have h := yields_mid (S := S) 64 11 hw x ho ⟨b, 0, none⟩ hx cs.toList agg_chart sz_chart (by simpa using hk) (fun w hw j u hu => by
    rw [add_mk, cell_of_row w b _ _ _ _ (hS w hw)]
    simpa using hu)
  simpa using h
theorem both_is (s t : S4) (w : World) : Calls Tryz.prog 45 #[encS s, encS t] w (GotS w (s4 (andW s.f t.f))) :=
  (both_any s.f t.f w).mono fun e w' h => h.gotS rfl
theorem eq_nil (z : S4) (W : World) : (Op.equalIn 10000 59 (.agg (row4 z.f)) (.agg #[.int .u64 0, .int .u64 0, .int .u64 0, .int .u64 0])).run Tryz.prog W = .ok (decide (z = nilS)) W := by
  by_cases h : z = nilS
  · rw [decide_eq_true h]
    exact same_sets (f := z.f) (g := nilW) (by rw [h]; exact s4_f _) W
  · rw [decide_eq_false h]
    exact other_sets (f := z.f) (g := nilW) (fun e => h (by rw [← f_s4 z]; exact s4_congr e)) W
theorem here_in {L : Nat → S4} {s : S4} {c N : Nat} (hs : ∀ p, p < 256 → hasS s p = true → p < N) : ∀ p, p < 256 → hasS (hereS L s c) p = true → p < N := fun p hp h => hs p hp ((has_here L s c p hp).1 h).1
theorem next_in {B : Nat → S4} {s : S4} {N : Nat} (hs : ∀ p, p < 256 → hasS s p = true → p < N) (hB : ∀ p, p < N → ∀ q, q < 256 → hasS (B p) q = true → q < N) : ∀ p, p < 256 → hasS (nextS B s) p = true → p < N := fun q hq h => by
  obtain ⟨p, hp, h1, h2⟩ := (has_next B s q hq).1 h
  exact hB p (hs p hp h1) q hq h2
theorem cell_first {cs : Array Value} {nn : Bool} {fi la : S4} {A : Option Addr} {N c q : Nat} (hch : IsCh cs nn fi la A N c q) {w : World} {b : Nat} (h : w.heap[b]? = some (.cells cs 64 (0, 0))) : ∀ j u, (setCells fi)[j]? = some u → w.cell? ((⟨b, 1, none⟩ : Addr).add j) = some u := fun j u hu => by
  rw [add_mk, cell_of_row w b _ _ _ _ h]
  exact hch.first j u hu
theorem cell_last {cs : Array Value} {nn : Bool} {fi la : S4} {A : Option Addr} {N c q : Nat} (hch : IsCh cs nn fi la A N c q) {w : World} {b : Nat} (h : w.heap[b]? = some (.cells cs 64 (0, 0))) : ∀ j u, (setCells la)[j]? = some u → w.cell? ((⟨b, 5, none⟩ : Addr).add j) = some u := fun j u hu => by
  rw [add_mk, cell_of_row w b _ _ _ _ h]
  exact hch.last j u hu

set_option maxRecDepth 100000 in
set_option maxHeartbeats 4000000 in
theorem takes_any (cs : Array Value) (nn : Bool) (fi la : S4) (A : Option Addr) (N c q : Nat) (B : Nat → S4) (l : List RN) (At : Option Addr) (n ct : Nat) (t : List UInt8) (w : World) (hch : IsCh cs nn fi la A N c q) (hT : Tab w) (hl : l.length = N) (hr : RdR w A l) (hB : HB w q N B) (hN : N ≤ 256)
    (hfi : ∀ p, p < 256 → hasS fi p = true → p < N) (hBN : ∀ p, p < N → ∀ q, q < 256 → hasS (B p) q = true → q < N) (hn : t.length = n) (ht : Rd w At t) (hnm : n ≤ maxLen) :
    Calls Tryz.prog 24 #[.agg cs, .slice At n ct] w (GotB w (runS (labOf l) B la nn fi t)) := by
  unfold maxLen at hnm
  have hz := zero4
  generalize hQ : GotB w (runS (labOf l) B la nn fi t) = Q
  have HQ := Lib.hid hQ
  have HNT := Lib.hid hn
  have HLL := Lib.hid hl
  have HT := Lib.hid hT
  have HRR := Lib.hid hr
  have HBB := Lib.hid hB
  have HTT := Lib.hid ht
  have HF := Lib.hid hfi
  have HBN := Lib.hid hBN
  clear hQ hn hl hT hr hB ht hfi hBN
  go_enter Tryz.func24, Tryz.ntmps24
  go_wp2_with fail
  have b0 := bl_alloc (Below.refl w.heap.size w) (.cells cs 64)
  have hP : (w.alloc (.cells cs 64)).heap[w.heap.size]? = some (.cells cs 64 (0, 0)) := heap_alloc_new w _
  have hs0 : (w.alloc (.cells cs 64)).heap.size = w.heap.size + 1 := by simp
  generalize w.alloc (.cells cs 64) = w0 at *
  refine wp_region_held_drew (S := fun W' => W'.heap[w.heap.size]? = some (.cells cs 64 (0, 0)) ∧ Below w0.heap.size w0 W') (by kernel_rfl) ⟨hP, bl_drewN (Below.refl w0.heap.size w0) 1⟩ (fun hHeld => ?_)
  clear hP
  try simp only [List.getElem_toArray, List.getElem_cons_zero, List.getElem_cons_succ, Act.put, List.setIfInBounds_toArray, List.set_cons_zero, List.set_cons_succ]
  refine wpAnyH_take (i := 0) (v := ?vza0) rfl (by kernel_rfl) (by kernel_rfl) (by kernel_rfl) (fun _ _ _ h => h) (Or.inl ⟨by rfl, ?yza0⟩) hHeld ?rza0
  case yza0 => (intro wS hSw; clear hSw; go_simp; try (with_reducible rfl))
  try simp only [List.getElem_toArray, List.getElem_cons_zero, List.getElem_cons_succ, Act.put, List.setIfInBounds_toArray, List.set_cons_zero, List.set_cons_succ]
  refine wpAnyH_take (i := 1) (v := ?vza1) rfl (by kernel_rfl) (by kernel_rfl) (by kernel_rfl) (fun _ _ _ h => h) (Or.inl ⟨by rfl, ?yza1⟩) hHeld ?rza1
  case yza1 => (intro wS hSw; clear hSw; go_simp; try (with_reducible rfl))
  try simp only [List.getElem_toArray, List.getElem_cons_zero, List.getElem_cons_succ, Act.put, List.setIfInBounds_toArray, List.set_cons_zero, List.set_cons_succ]
  refine wpAnyH_take (i := 2) (v := ?vza2) rfl (by kernel_rfl) (by kernel_rfl) (by kernel_rfl) (fun _ _ _ h => h) (Or.inl ⟨by rfl, ?yza2⟩) hHeld ?rza2
  case yza2 => (intro wS hSw; have q1 := (cell_of_row wS w.heap.size 0 _ _ _ hSw.1).trans hch.none; clear hSw; go_simp; try (with_reducible rfl))
  try simp only [List.getElem_toArray, List.getElem_cons_zero, List.getElem_cons_succ, Act.put, List.setIfInBounds_toArray, List.set_cons_zero, List.set_cons_succ]
  refine wpAnyH_take (i := 3) (v := ?vza3) rfl (by kernel_rfl) (by kernel_rfl) (by kernel_rfl) (fun _ _ _ h => h) (Or.inl ⟨by rfl, ?yza3⟩) hHeld ?rza3
  case yza3 => (intro wS hSw; clear hSw; go_simp; try (with_reducible rfl))
  try simp only [List.getElem_toArray, List.getElem_cons_zero, List.getElem_cons_succ, Act.put, List.setIfInBounds_toArray, List.set_cons_zero, List.set_cons_succ]
  refine wpAnyH_take (i := 4) (v := ?vza4) rfl (by kernel_rfl) (by kernel_rfl) (by kernel_rfl) (fun _ _ _ h => h) (Or.inl ⟨by rfl, ?yza4⟩) hHeld ?rza4
  case yza4 => (intro wS hSw; clear hSw; go_simp; try (with_reducible rfl))
  try simp only [List.getElem_toArray, List.getElem_cons_zero, List.getElem_cons_succ, Act.put, List.setIfInBounds_toArray, List.set_cons_zero, List.set_cons_succ]
  refine wpAnyH_take (i := 5) (v := .agg (row4 fi.f)) rfl (by kernel_rfl) (by kernel_rfl) (by kernel_rfl) (fun _ _ _ h => h) (yields_mid 59 4 (by rfl) (.tmp 14) rfl ⟨w.heap.size, 1, none⟩ rfl (setCells fi) agg_set size_set rfl (fun w h => cell_first hch h.1)) hHeld ?_
  try simp only [List.getElem_toArray, List.getElem_cons_zero, List.getElem_cons_succ, Act.put, List.setIfInBounds_toArray, List.set_cons_zero, List.set_cons_succ]
  refine wpAnyH_ready (rs := [6]) (by kernel_rfl) (by simp) (AllReadyH.cons rfl (fun K hK => ?_) AllReadyH.nil)
  have hS1 : (w0.alloc (.cells tab4 59)).drew.heap[w.heap.size]? = some (.cells cs 64 (0, 0)) ∧ Below w0.heap.size w0 (w0.alloc (.cells tab4 59)).drew := ⟨((bl_alloc (Below.refl w0.heap.size w0) (.cells tab4 59)).block _ (by omega)).trans hHeld.1, bl_drewN (bl_alloc (Below.refl w0.heap.size w0) (.cells tab4 59)) 1⟩
  have hN0 : HS (w0.alloc (.cells tab4 59)).drew w0.heap.size nilS := HS.new w0
  rw [hs0] at hN0
  clear hHeld
  go_simp
  refine hK.out _ _ hS1 (fun hHeld => ?_)
  clear hK K hS1 hz
  try simp only [List.getElem_toArray, List.getElem_cons_zero, List.getElem_cons_succ, Act.put, List.setIfInBounds_toArray, List.set_cons_zero, List.set_cons_succ]
  refine wpAnyH_take (i := 7) (v := ?vza7) rfl (by kernel_rfl) (by kernel_rfl) (by kernel_rfl) (fun _ _ _ h => h) (Or.inl ⟨by rfl, ?yza7⟩) hHeld ?rza7
  case yza7 => (intro wS hSw; clear hSw; go_simp; try (with_reducible rfl))
  try simp only [List.getElem_toArray, List.getElem_cons_zero, List.getElem_cons_succ, Act.put, List.setIfInBounds_toArray, List.set_cons_zero, List.set_cons_succ]
  refine wpAnyH_ready (rs := [8]) (by kernel_rfl) (by simp) (AllReadyH.cons rfl (fun K hK => ?_) AllReadyH.nil)
  rw [if_pos (by rfl)]
  refine wp_store_row 59 _ _ rfl (w.heap.size + 1) _ rfl rfl 59 _ hN0 (by rw [size4, row4_size]) (by rw [row4_size, row4_size]) (row4_one _) ?_
  have hfs := hN0.laid fi
  have hS2 : ((w0.alloc (.cells tab4 59)).drew.setRow (w.heap.size + 1) (row4 fi.f)).heap[w.heap.size]? = some (.cells cs 64 (0, 0)) ∧ Below w0.heap.size w0 ((w0.alloc (.cells tab4 59)).drew.setRow (w.heap.size + 1) (row4 fi.f)) := ⟨(setRow_other _ _ _ _ (by omega)).trans hHeld.1, bl_setRow hHeld.2 (by omega) _⟩
  generalize (w0.alloc (.cells tab4 59)).drew.setRow (w.heap.size + 1) (row4 fi.f) = w1 at *
  refine hK.out _ _ hS2 (fun hHeld2 => ?_)
  clear hK K hHeld hN0
  refine wpAnyH_done (by kernel_rfl) ?_ _
  have h1 := Lib.hid hHeld2.1
  have B1 := Lib.hid (bl_trans b0 hHeld2.2)
  have F1 := Lib.hid hfs
  clear hHeld2 hS2 hfs b0
  go_wp2_with fail
  go_loopw [5, 18] (fun v5 v18 wr => ∃ (i : Nat) (is : Bool) (nx : S4), i ≤ n ∧ v5 = .bool is ∧ v18 = .int .i64 (i : Int) ∧ Hid (runS (labOf l) B la nn fi t = runS (labOf l) B la is nx (t.drop i)) ∧ Hid (∀ p, p < 256 → hasS nx p = true → p < N) ∧ wr.heap[w.heap.size]? = some (.cells cs 64 (0, 0)) ∧ HS wr (w.heap.size + 1) nx ∧ Below w.heap.size w wr) (fun _ v18 _ => n - (intOf v18).toNat)
  case atStart => exact ⟨0, nn, fi, Nat.zero_le _, rfl, rfl, by unfold Hid; rw [List.drop_zero], HF.out, h1.out, F1.out, B1.out⟩
  case round =>
    clear h1 B1 F1
    obtain ⟨i, is, nx, hi, rfl, rfl, HRUN, HNX, hc, hx, hB1⟩ := hrel
    by_cases hlt : i < n
    · have hlt2 : i < t.length := by have := HNT.out; omega
      obtain ⟨ad, rfl, hcell⟩ := (HTT.out.below hB1).cell (k := i) hlt2
      have hdr : t.drop i = t[i] :: t.drop (i + 1) := List.drop_eq_getElem_cons hlt2
      generalize t[i] = b at *
      have HDR := Lib.hid hdr
      have hsz := hB1.size
      have hxl : w.heap.size + 1 < wr.heap.size := H4.lt hx
      have hcl : w.heap.size < wr.heap.size := (Array.getElem?_eq_some_iff.1 hc).1
      have HC := Lib.hid hc
      have HX := Lib.hid hx
      have HB1 := Lib.hid hB1
      clear hc hx hB1 hdr
      have hz := zero4
      go_wp2_with (first
        | (refine wpList_load_row rfl 64 _ rfl w.heap.size rfl 64 _ (0, 0) _ HC.out Tryz.underlying64 rfl (by rw [size_chart, hch.size]) ?_)
        | (refine wpList_load_row rfl 59 _ rfl (w.heap.size + 1) rfl 59 _ (0, 0) _ HX.out Tryz.underlying59 rfl (by rw [size4, row4_size]) ?_))
      refine (taking_any cs nn fi la A N c q l nx b _ hch (HT.out.below HB1.out) HLL.out (HRR.out.below HB1.out) hN HNX.out).mono ?_
      rintro e w2 ⟨rfl, hb2⟩
      have bA := bl_alloc (Below.refl w2.heap.size w2) (.cells tab4 59)
      have hN9 := HS.new w2
      have hc2 := (hb2.block w.heap.size hcl).trans HC.out
      have hx2 := HX.out.below hb2
      have hl2 := hb2.size
      have hc3 := (bA.block w.heap.size (by omega)).trans hc2
      have hx3 := hx2.below bA
      have b3 := bl_trans HB1.out (bl_trans hb2 bA)
      generalize hh : hereS (labOf l) nx b.toNat = h at *
      have HH := Lib.hid hh
      have HN9 := Lib.hid hN9
      have hc4 := (setRow_other (w2.alloc (.cells tab4 59)) w2.heap.size w.heap.size (row4 h.f) (by omega)).trans hc3
      have hx4 : HS ((w2.alloc (.cells tab4 59)).setRow w2.heap.size (row4 h.f)) (w.heap.size + 1) nx := H4.row hx3 (by omega) _
      have h94 := hN9.laid h
      have b4 := bl_setRow b3 (g := w2.heap.size) (by omega) (row4 h.f)
      clear hh hN9 hb2 bA hc2 hx2 hc3 hx3 b3
      unfold encS
      go_wp2_with (refine wpList_store_row rfl 59 _ _ rfl w2.heap.size _ rfl rfl 59 _ HN9.out (by rw [size4, row4_size]) (by rw [row4_size, row4_size]) (row4_one _) ?_)
      dsimp only [Act.put]
      have hs4 : w2.heap.size < ((w2.alloc (.cells tab4 59)).setRow w2.heap.size (row4 h.f)).heap.size := by simp
      clear HN9 hz
      generalize (w2.alloc (.cells tab4 59)).setRow w2.heap.size (row4 h.f) = w4 at *
      generalize w2.heap.size = b9 at *
      refine wp_region_held_drew (S := fun W' => W'.heap[w.heap.size]? = some (.cells cs 64 (0, 0)) ∧ HS W' b9 h ∧ (∃ z, HS W' (w.heap.size + 1) z) ∧ Below w.heap.size w W') (by kernel_rfl) ⟨hc4, h94, ⟨_, hx4⟩, b4.trans ((bl_drewN (Below.refl w4.heap.size w4) 1).mono b4.size)⟩ (fun hHeld => ?_)
      clear hc4 h94 hx4 b4
      try simp only [List.getElem_toArray, List.getElem_cons_zero, List.getElem_cons_succ, Act.put, List.setIfInBounds_toArray, List.set_cons_zero, List.set_cons_succ]
      refine wpAnyH_take (i := 0) (v := encS h) rfl (by kernel_rfl) (by kernel_rfl) (by kernel_rfl) (fun _ _ _ h => h) (yields_set (by rfl) (.tmp 9) rfl b9 rfl h.f (fun _ hw => hw.2.1)) hHeld ?_
      try simp only [List.getElem_toArray, List.getElem_cons_zero, List.getElem_cons_succ, Act.put, List.setIfInBounds_toArray, List.set_cons_zero, List.set_cons_succ]
      refine wpAnyH_take (i := 1) (v := ?vzb1) rfl (by kernel_rfl) (by kernel_rfl) (by kernel_rfl) (fun _ _ _ h => h) (Or.inl ⟨by rfl, ?yzb1⟩) hHeld ?rzb1
      case yzb1 => (intro wS hSw; clear hSw; go_simp; try (with_reducible rfl))
      try simp only [List.getElem_toArray, List.getElem_cons_zero, List.getElem_cons_succ, Act.put, List.setIfInBounds_toArray, List.set_cons_zero, List.set_cons_succ]
      refine wpAnyH_take (i := 2) (v := ?vzb2) rfl (by kernel_rfl) (by kernel_rfl) (by kernel_rfl) (fun _ _ _ h => h) (Or.inl ⟨by rfl, ?yzb2⟩) hHeld ?rzb2
      case yzb2 => (intro wS hSw; clear hSw; go_simp; try (with_reducible rfl))
      try simp only [List.getElem_toArray, List.getElem_cons_zero, List.getElem_cons_succ, Act.put, List.setIfInBounds_toArray, List.set_cons_zero, List.set_cons_succ]
      refine wpAnyH_take (i := 3) (v := encS la) rfl (by kernel_rfl) (by kernel_rfl) (by kernel_rfl) (fun _ _ _ h => h) (yields_mid 59 4 (by rfl) (.tmp 28) rfl ⟨w.heap.size, 5, none⟩ rfl (setCells la) agg_set size_set rfl (fun w hw => cell_last hch hw.1)) hHeld ?_
      try simp only [List.getElem_toArray, List.getElem_cons_zero, List.getElem_cons_succ, Act.put, List.setIfInBounds_toArray, List.set_cons_zero, List.set_cons_succ]
      refine wpAnyH_take (i := 5) (v := ?vzb5) rfl (by kernel_rfl) (by kernel_rfl) (by kernel_rfl) (fun _ _ _ h => h) (Or.inl ⟨by rfl, ?yzb5⟩) hHeld ?rzb5
      case yzb5 => (intro wS hSw; clear hSw; go_simp; try (with_reducible rfl))
      try simp only [List.getElem_toArray, List.getElem_cons_zero, List.getElem_cons_succ, Act.put, List.setIfInBounds_toArray, List.set_cons_zero, List.set_cons_succ]
      refine wpAnyH_take (i := 7) (v := .agg cs) rfl (by kernel_rfl) (by kernel_rfl) (by kernel_rfl) (fun _ _ _ h => h) (yields_chart (by rfl) (.tmp 2) rfl w.heap.size rfl cs hch.size (fun w hw => hw.1)) hHeld ?_
      try simp only [List.getElem_toArray, List.getElem_cons_zero, List.getElem_cons_succ, Act.put, List.setIfInBounds_toArray, List.set_cons_zero, List.set_cons_succ]
      refine wpAnyH_take (i := 8) (v := encS h) rfl (by kernel_rfl) (by kernel_rfl) (by kernel_rfl) (fun _ _ _ h => h) (yields_set (by rfl) (.tmp 9) rfl b9 rfl h.f (fun _ hw => hw.2.1)) hHeld ?_
      try simp only [List.getElem_toArray, List.getElem_cons_zero, List.getElem_cons_succ, Act.put, List.setIfInBounds_toArray, List.set_cons_zero, List.set_cons_succ]
      refine wpAnyH_ready (rs := [4]) (by kernel_rfl) (by simp) (AllReadyH.cons rfl (fun K hK => ?_) AllReadyH.nil)
      go_simp
      go_at_call 45
      refine (both_is h la _).mono ?_
      rintro e w5 ⟨rfl, hb5⟩
      have hS1 : w5.heap[w.heap.size]? = some (.cells cs 64 (0, 0)) ∧ HS w5 b9 h ∧ (∃ z, HS w5 (w.heap.size + 1) z) ∧ Below w.heap.size w w5 := ⟨(hb5.block _ (Array.getElem?_eq_some_iff.1 hHeld.1).1).trans hHeld.1, hHeld.2.1.below hb5, ⟨_, hHeld.2.2.1.choose_spec.below hb5⟩, bl_trans hHeld.2.2.2 hb5⟩
      clear hHeld hb5
      generalize hz5 : s4 (andW h.f la.f) = z5 at *
      have HZ5 := Lib.hid hz5
      clear hz5
      unfold encS
      go_wp2_with fail
      refine hK.out _ _ hS1 (fun hHeld => ?_)
      clear hK K hS1
      have hset := eq_nil z5
      try simp only [List.getElem_toArray, List.getElem_cons_zero, List.getElem_cons_succ, Act.put, List.setIfInBounds_toArray, List.set_cons_zero, List.set_cons_succ]
      refine wpAnyH_take (i := 6) (v := ?vzb6) rfl (by kernel_rfl) (by kernel_rfl) (by kernel_rfl) (fun _ _ _ h => h) (Or.inl ⟨by rfl, ?yzb6⟩) hHeld ?rzb6
      case yzb6 => (intro wS hSw; clear hSw; go_simp; try (with_reducible rfl))
      try simp only [List.getElem_toArray, List.getElem_cons_zero, List.getElem_cons_succ, Act.put, List.setIfInBounds_toArray, List.set_cons_zero, List.set_cons_succ]
      clear hset
      refine wpAnyH_ready (rs := [9]) (by kernel_rfl) (by simp) (AllReadyH.cons rfl (fun K hK => ?_) AllReadyH.nil)
      go_simp
      go_at_call 46
      refine (rbehind_any cs nn fi la _ N c q B h _ hch (HT.out.below hHeld.2.2.2) (HBB.out.below hHeld.2.2.2) hN (by rw [← HH.out]; exact here_in HNX.out)).mono ?_
      rintro e w6 ⟨rfl, hb6⟩
      have hS1 : w6.heap[w.heap.size]? = some (.cells cs 64 (0, 0)) ∧ HS w6 b9 h ∧ (∃ z, HS w6 (w.heap.size + 1) z) ∧ Below w.heap.size w w6 := ⟨(hb6.block _ (Array.getElem?_eq_some_iff.1 hHeld.1).1).trans hHeld.1, hHeld.2.1.below hb6, ⟨_, hHeld.2.2.1.choose_spec.below hb6⟩, bl_trans hHeld.2.2.2 hb6⟩
      clear hHeld hb6
      generalize hy6 : nextS B h = y6 at *
      have HY6 := Lib.hid hy6
      clear hy6
      unfold encS
      go_wp2_with fail
      refine hK.out _ _ hS1 (fun hHeld => ?_)
      clear hK K hS1
      try simp only [List.getElem_toArray, List.getElem_cons_zero, List.getElem_cons_succ, Act.put, List.setIfInBounds_toArray, List.set_cons_zero, List.set_cons_succ]
      refine wpAnyH_take (i := 10) (v := ?vzb10) rfl (by kernel_rfl) (by kernel_rfl) (by kernel_rfl) (fun _ _ _ h => h) (Or.inl ⟨by rfl, ?yzb10⟩) hHeld ?rzb10
      case yzb10 => (intro wS hSw; clear hSw; go_simp; try (with_reducible rfl))
      try simp only [List.getElem_toArray, List.getElem_cons_zero, List.getElem_cons_succ, Act.put, List.setIfInBounds_toArray, List.set_cons_zero, List.set_cons_succ]
      refine wpAnyH_ready (rs := [11]) (by kernel_rfl) (by simp) (AllReadyH.cons rfl (fun K hK => ?_) AllReadyH.nil)
      rw [if_pos (by rfl)]
      obtain ⟨zo, hzo⟩ := hHeld.2.2.1
      refine wp_store_row 59 _ _ rfl (w.heap.size + 1) _ rfl rfl 59 _ hzo (by rw [size4, row4_size]) (by rw [row4_size, row4_size]) (row4_one _) ?_
      have hfs := hzo.laid y6
      have hS2 : (w6.setRow (w.heap.size + 1) (row4 y6.f)).heap[w.heap.size]? = some (.cells cs 64 (0, 0)) ∧ HS (w6.setRow (w.heap.size + 1) (row4 y6.f)) b9 h ∧ (∃ z, HS (w6.setRow (w.heap.size + 1) (row4 y6.f)) (w.heap.size + 1) z) ∧ Below w.heap.size w (w6.setRow (w.heap.size + 1) (row4 y6.f)) := ⟨(setRow_other _ _ _ _ (by omega)).trans hHeld.1, (setRow_other _ _ _ _ (by omega)).trans hHeld.2.1, ⟨_, hfs⟩, bl_setRow hHeld.2.2.2 (by omega) _⟩
      refine hK.out _ _ hS2 (fun hHeld2 => ?_)
      clear hK K hHeld
      refine wpAnyH_done (by kernel_rfl) ?_ _
      have E1 := Lib.hid hHeld2.1
      have E2 := Lib.hid hfs
      have E3 := Lib.hid hHeld2.2.2.2
      clear hHeld2 hS2 hfs hzo
      go_wp2_with fail
      refine ⟨⟨i + 1, _, y6, by omega, rfl, by go_num, ?_, ?_, E1.out, E2.out, E3.out⟩, by simp [intOf]; omega⟩
      · unfold Hid
        rw [HRUN.out, HDR.out, runS, HH.out, ← HY6.out, meets, HZ5.out]
        try (congr 1; done)
      · show ∀ p, p < 256 → hasS y6 p = true → p < N
        rw [← HY6.out, ← HH.out]
        exact next_in (here_in HNX.out) HBN.out
    · obtain rfl : i = n := by omega
      have HC := Lib.hid hc
      have HB1 := Lib.hid hB1
      clear hc hx hB1
      go_wp2_with fail
      refine post_is HQ ?_
      rw [HRUN.out, List.drop_of_length_le (by have := HNT.out; omega)]
      exact ⟨rfl, HB1.out⟩

end Go.Proofs.YtjibfffefppniaaGreatDoor
