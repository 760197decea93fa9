/- Nodes compared; the document's Same of patterns. -/
import Derived.Test.YtjibfffefppniaaGreatRsCM
set_option linter.unusedVariables false
set_option linter.unusedSimpArgs false
namespace Go.Proofs.YtjibfffefppniaaGreat
open Go.RowKit

set_option maxRecDepth 20000 in
theorem eq_nodes (x y : RN) (w : World) : (Op.equalIn 10000 54 (aggR x) (aggR y)).run Tryz.prog w = .ok (decide (x = y)) w := by
  obtain ⟨k, a, b, s⟩ := x
  obtain ⟨k', a', b', s'⟩ := y
  unfold aggR
  rw [run_equalIn_struct w 9999 54 _ _ (by kernel_rfl) (by kernel_rfl)]
  have hi := Tryz.underlying3
  have hf : (Tryz.prog.fieldsOf 54).toList.map (fun f => (f.name == "_", f.type, f.offset)) = [(false, 3, 0), (false, 37, 1), (false, 3, 5), (false, 3, 6)] := by kernel_rfl
  generalize (Tryz.prog.fieldsOf 54).toList = fs at hf
  obtain ⟨f0, fs, rfl, g0, hf⟩ := List.map_eq_cons_iff.1 hf
  obtain ⟨f1, fs, rfl, g1, hf⟩ := List.map_eq_cons_iff.1 hf
  obtain ⟨f2, fs, rfl, g2, hf⟩ := List.map_eq_cons_iff.1 hf
  obtain ⟨f3, fs, rfl, g3, hf⟩ := List.map_eq_cons_iff.1 hf
  obtain rfl := List.map_eq_nil_iff.1 hf
  simp only [Prod.mk.injEq] at g0 g1 g2 g3
  obtain ⟨n0, t0, o0⟩ := g0
  obtain ⟨n1, t1, o1⟩ := g1
  obtain ⟨n2, t2, o2⟩ := g2
  obtain ⟨n3, t3, o3⟩ := g3
  rw [fields_step n0 (x := .int .i64 k) (y := .int .i64 k') (r := k == k') (by rw [t0, o0]; kernel_rfl) (by rw [t0, o0]; kernel_rfl) (by rw [t0]; exact run_equalIn_int w 9998 3 .i64 .i64 _ _ hi),
    fields_step n1 (x := .agg #[dv s.w0, dv s.w1, dv s.w2, dv s.w3]) (y := .agg #[dv s'.w0, dv s'.w1, dv s'.w2, dv s'.w3]) (r := decide (s = s')) (by rw [t1, o1]; kernel_rfl) (by rw [t1, o1]; kernel_rfl) (by rw [t1]; exact eq_set9 s s' w),
    fields_step n2 (x := .int .i64 a) (y := .int .i64 a') (r := a == a') (by rw [t2, o2]; kernel_rfl) (by rw [t2, o2]; kernel_rfl) (by rw [t2]; exact run_equalIn_int w 9998 3 .i64 .i64 _ _ hi),
    fields_step n3 (x := .int .i64 b) (y := .int .i64 b') (r := b == b') (by rw [t3, o3]; kernel_rfl) (by rw [t3, o3]; kernel_rfl) (by rw [t3]; exact run_equalIn_int w 9998 3 .i64 .i64 _ _ hi)]
  by_cases h0 : k = k' <;> by_cases h1 : s = s' <;> by_cases h5 : a = a' <;> by_cases h6 : b = b' <;> simp [h0, h1, h5, h6, Op.eqFields]

/-! Same -/
theorem agg_rn (w : World) : (isAgg 54).run Tryz.prog w = .ok true w := by kernel_rfl
theorem sz_rn (w : World) : (sizeOf 54).run Tryz.prog w = .ok 7 w := by kernel_rfl
attribute [-go_sem] run_equalIn_agg
set_option maxRecDepth 100000 in
set_option maxHeartbeats 2000000 in
theorem same_any (l l' : List RN) (A : Option Addr) (n c : Nat) (A' : Option Addr) (n' c' : Nat) (hn : l.length = n) (hn' : l'.length = n') (hmx : n ≤ maxLen) (w : World) (hr : RdR w A l) (hr' : RdR w A' l') :
    Calls Tryz.prog 10 #[.agg #[.slice A n c], .agg #[.slice A' n' c']] w (GotB w (decide (l = l'))) := by
  unfold maxLen at hmx
  generalize hQ : GotB w (decide (l = l')) = Q
  have HQ := Lib.hid hQ
  have HR := Lib.hid hr
  have HR' := Lib.hid hr'
  have HN := Lib.hid hn
  have HN' := Lib.hid hn'
  clear hQ hr hr' hn hn'
  have b0 := bl_alloc (bl_alloc (Below.refl w.heap.size w) (.cells #[.slice A n c] 25)) (.cells #[.slice A' n' c'] 25)
  have k1 : ((w.alloc (.cells #[.slice A n c] 25)).alloc (.cells #[.slice A' n' c'] 25)).heap[w.heap.size]? = some (.cells #[.slice A n c] 25 (0, 0)) := by
    rw [Below.heap_alloc _ _ _ (by simp)]
    exact heap_alloc_new w _
  have k2 : ((w.alloc (.cells #[.slice A n c] 25)).alloc (.cells #[.slice A' n' c'] 25)).heap[w.heap.size + 1]? = some (.cells #[.slice A' n' c'] 25 (0, 0)) := by
    have := heap_alloc_new (w.alloc (.cells #[.slice A n c] 25)) (.cells #[.slice A' n' c'] 25)
    rwa [World.size_alloc] at this
  go_enter Tryz.func10, Tryz.ntmps10
  go_upto_region 1 with fail
  generalize (w.alloc (.cells #[.slice A n c] 25)).alloc (.cells #[.slice A' n' c'] 25) = w0 at *
  have c1 : w0.cell? ⟨w.heap.size, 0, none⟩ = some (.slice A n c) := cell_of_row w0 _ 0 _ _ _ k1
  have c2 : w0.cell? ⟨w.heap.size + 1, 0, none⟩ = some (.slice A' n' c') := cell_of_row w0 _ 0 _ _ _ k2
  have HB := Lib.hid b0
  have K1 := Lib.hid k1
  have K2 := Lib.hid k2
  clear b0 k1 k2
  by_cases hnn : n = n'
  · subst hnn
    go_wp2_with fail
    clear c1 c2
    go_loopw [5] (fun v wr => ∃ i : Nat, i ≤ n ∧ v = .int .i64 (i : Int) ∧ Hid (l.take i = l'.take i) ∧ Below w0.heap.size w0 wr) (fun v _ => n - (intOf v).toNat)
    case atStart => exact ⟨0, Nat.zero_le _, rfl, rfl, Below.refl _ _⟩
    case round =>
      obtain ⟨i, hi, rfl, HTK, hb⟩ := hrel
      have d1 := (hb.block w.heap.size (Array.getElem?_eq_some_iff.1 K1.out).1).trans K1.out
      have d2 := (hb.block (w.heap.size + 1) (Array.getElem?_eq_some_iff.1 K2.out).1).trans K2.out
      have c1 : wr.cell? ⟨w.heap.size, 0, none⟩ = some (.slice A n c) := cell_of_row wr _ 0 _ _ _ d1
      have c2 : wr.cell? ⟨w.heap.size + 1, 0, none⟩ = some (.slice A' n c') := cell_of_row wr _ 0 _ _ _ d2
      have hB := bl_trans HB.out hb
      have r1 := HR.out.below hB
      have r2 := HR'.out.below hB
      have HBW := Lib.hid hB
      have HB0 := Lib.hid hb
      clear d1 d2 hb hB
      by_cases hlt : i < n
      · have hl1 : i < l.length := by have := HN.out; omega
        have hl2 : i < l'.length := by have := HN'.out; omega
        obtain ⟨ad, rfl, hcs⟩ := r1 i hl1
        obtain ⟨ad', rfl, hcs'⟩ := r2 i hl2
        have t1 : l.take (i + 1) = l.take i ++ [l[i]] := by rw [List.take_add_one]; simp [hl1]
        have t2 : l'.take (i + 1) = l'.take i ++ [l'[i]] := by rw [List.take_add_one]; simp [hl2]
        have T1 := Lib.hid t1
        have T2 := Lib.hid t2
        have hne : l[i] ≠ l'[i] → l ≠ l' := fun h e => h (by subst e; rfl)
        have HNE := Lib.hid hne
        clear t1 t2 r1 r2 hne
        generalize l[i] = x at *
        generalize l'[i] = y at *
        have HCS := Lib.hid hcs
        have HCS' := Lib.hid hcs'
        clear hcs hcs'
        have hq := eq_nodes x y
        obtain ⟨d, hd⟩ : ∃ d, decide (x = y) = d := ⟨_, rfl⟩
        rw [hd] at hq
        have HD := Lib.hid hd
        clear hd
        go_wp2_with fail
        refine wp_region_held_drew (S := fun W' => W' = wr.drew) (by kernel_rfl) rfl (fun hHeld => ?_)
        have c1d : wr.drew.cell? ⟨w.heap.size, 0, none⟩ = some (.slice (some ad) n c) := c1
        have c2d : wr.drew.cell? ⟨w.heap.size + 1, 0, none⟩ = some (.slice (some ad') n c') := c2
        clear c1 c2
        try simp only [List.getElem_toArray, List.getElem_cons_zero, List.getElem_cons_succ, Act.put, List.setIfInBounds_toArray, List.set_cons_zero, List.set_cons_succ]
        refine wpAnyH_take (i := 0) (v := ?vza0) rfl (by kernel_rfl) (by kernel_rfl) (by kernel_rfl) (fun _ _ _ h => h) (Or.inl ⟨by rfl, ?yza0⟩) hHeld ?rza0
        case yza0 => (intro wS hSw; subst hSw; go_simp; try (with_reducible rfl))
        try simp only [List.getElem_toArray, List.getElem_cons_zero, List.getElem_cons_succ, Act.put, List.setIfInBounds_toArray, List.set_cons_zero, List.set_cons_succ]
        refine wpAnyH_take (i := 1) (v := ?vza1) rfl (by kernel_rfl) (by kernel_rfl) (by kernel_rfl) (fun _ _ _ h => h) (Or.inl ⟨by rfl, ?yza1⟩) hHeld ?rza1
        case yza1 => (intro wS hSw; subst hSw; go_simp; try (with_reducible rfl))
        try simp only [List.getElem_toArray, List.getElem_cons_zero, List.getElem_cons_succ, Act.put, List.setIfInBounds_toArray, List.set_cons_zero, List.set_cons_succ]
        refine wpAnyH_take (i := 2) (v := ?vza2) rfl (by kernel_rfl) (by kernel_rfl) (by kernel_rfl) (fun _ _ _ h => h) (Or.inl ⟨by rfl, ?yza2⟩) hHeld ?rza2
        case yza2 => (intro wS hSw; subst hSw; go_simp; try (with_reducible rfl))
        try simp only [List.getElem_toArray, List.getElem_cons_zero, List.getElem_cons_succ, Act.put, List.setIfInBounds_toArray, List.set_cons_zero, List.set_cons_succ]
        refine wpAnyH_take (i := 3) (v := ?vza3) rfl (by kernel_rfl) (by kernel_rfl) (by kernel_rfl) (fun _ _ _ h => h) (Or.inl ⟨by rfl, ?yza3⟩) hHeld ?rza3
        case yza3 => (intro wS hSw; subst hSw; go_simp; try (with_reducible rfl))
        try simp only [List.getElem_toArray, List.getElem_cons_zero, List.getElem_cons_succ, Act.put, List.setIfInBounds_toArray, List.set_cons_zero, List.set_cons_succ]
        refine wpAnyH_take (i := 4) (v := aggR x) rfl (by kernel_rfl) (by kernel_rfl) (by kernel_rfl) (fun _ _ _ h => h) (yields_part 54 7 (by rfl) (.tmp 23) rfl (ad.add (i * 7)) rfl (cellsR x) agg_rn sz_rn rfl (fun W hW => by subst hW; exact HCS.out)) hHeld ?_
        try simp only [List.getElem_toArray, List.getElem_cons_zero, List.getElem_cons_succ, Act.put, List.setIfInBounds_toArray, List.set_cons_zero, List.set_cons_succ]
        refine wpAnyH_take (i := 5) (v := ?vza5) rfl (by kernel_rfl) (by kernel_rfl) (by kernel_rfl) (fun _ _ _ h => h) (Or.inl ⟨by rfl, ?yza5⟩) hHeld ?rza5
        case yza5 => (intro wS hSw; subst hSw; go_simp; try (with_reducible rfl))
        try simp only [List.getElem_toArray, List.getElem_cons_zero, List.getElem_cons_succ, Act.put, List.setIfInBounds_toArray, List.set_cons_zero, List.set_cons_succ]
        refine wpAnyH_take (i := 6) (v := ?vza6) rfl (by kernel_rfl) (by kernel_rfl) (by kernel_rfl) (fun _ _ _ h => h) (Or.inl ⟨by rfl, ?yza6⟩) hHeld ?rza6
        case yza6 => (intro wS hSw; subst hSw; go_simp; try (with_reducible rfl))
        try simp only [List.getElem_toArray, List.getElem_cons_zero, List.getElem_cons_succ, Act.put, List.setIfInBounds_toArray, List.set_cons_zero, List.set_cons_succ]
        refine wpAnyH_take (i := 7) (v := ?vza7) rfl (by kernel_rfl) (by kernel_rfl) (by kernel_rfl) (fun _ _ _ h => h) (Or.inl ⟨by rfl, ?yza7⟩) hHeld ?rza7
        case yza7 => (intro wS hSw; subst hSw; go_simp; try (with_reducible rfl))
        try simp only [List.getElem_toArray, List.getElem_cons_zero, List.getElem_cons_succ, Act.put, List.setIfInBounds_toArray, List.set_cons_zero, List.set_cons_succ]
        refine wpAnyH_take (i := 8) (v := ?vza8) rfl (by kernel_rfl) (by kernel_rfl) (by kernel_rfl) (fun _ _ _ h => h) (Or.inl ⟨by rfl, ?yza8⟩) hHeld ?rza8
        case yza8 => (intro wS hSw; subst hSw; go_simp; try (with_reducible rfl))
        try simp only [List.getElem_toArray, List.getElem_cons_zero, List.getElem_cons_succ, Act.put, List.setIfInBounds_toArray, List.set_cons_zero, List.set_cons_succ]
        refine wpAnyH_take (i := 9) (v := aggR y) rfl (by kernel_rfl) (by kernel_rfl) (by kernel_rfl) (fun _ _ _ h => h) (yields_part 54 7 (by rfl) (.tmp 28) rfl (ad'.add (i * 7)) rfl (cellsR y) agg_rn sz_rn rfl (fun W hW => by subst hW; exact HCS'.out)) hHeld ?_
        try simp only [List.getElem_toArray, List.getElem_cons_zero, List.getElem_cons_succ, Act.put, List.setIfInBounds_toArray, List.set_cons_zero, List.set_cons_succ]
        unfold aggR at hq
        unfold aggR
        refine wpAnyH_take (i := 10) (v := .bool (!d)) rfl (by kernel_rfl) (by kernel_rfl) (by kernel_rfl) (fun _ _ _ h => h) (Or.inl ⟨by rfl, fun wS hSw => by subst hSw; go_simp; rw [hq]; rfl⟩) hHeld ?_
        try simp only [List.getElem_toArray, List.getElem_cons_zero, List.getElem_cons_succ, Act.put, List.setIfInBounds_toArray, List.set_cons_zero, List.set_cons_succ]
        refine wpAnyH_done (by kernel_rfl) ?_ _
        clear hHeld c1d c2d hq
        cases d with
        | true =>
          have HXY := Lib.hid (of_decide_eq_true HD.out)
          go_wp2_with fail
          refine ⟨⟨i + 1, by omega, by go_num, ?_, bl_drewN HB0.out 1⟩, by simp [intOf]; omega⟩
          unfold Hid
          rw [T1.out, T2.out, HTK.out, HXY.out]
        | false =>
          have HXY := Lib.hid (of_decide_eq_false HD.out)
          go_wp2_with fail
          refine post_is HQ ?_
          rw [decide_eq_false (HNE.out HXY.out)]
          exact ⟨rfl, bl_drewN HBW.out 1⟩
      · obtain rfl : i = n := by omega
        have hll : l = l' := by
          have := HTK.out
          rwa [List.take_of_length_le (by have := HN.out; omega), List.take_of_length_le (by have := HN'.out; omega)] at this
        have HLL := Lib.hid hll
        clear hll r1 r2
        go_wp2_with fail
        refine post_is HQ ?_
        rw [decide_eq_true HLL.out]
        exact ⟨rfl, HBW.out⟩
  · have hnl : l ≠ l' := fun e => hnn (by rw [← HN.out, ← HN'.out, e])
    have HNL := Lib.hid hnl
    clear hnl
    have d1 : ((n : Int) == (n' : Int)) = false := by simp; omega
    go_wp2_with fail
    refine post_is HQ ?_
    rw [decide_eq_false HNL.out]
    exact ⟨rfl, HB.out⟩

end Go.Proofs.YtjibfffefppniaaGreat
