/- The document's Of and Span. No condition, but that the bytes can be read. -/
import Derived.Test.YtcgoacfcdlbhdaaDoorSetF
set_option linter.unusedVariables false
set_option linter.unusedSimpArgs false
namespace Go.Proofs.YtcgoacfcdlbhdaaDoor
open Go.RowKit

theorem narrow8 (k : Nat) (h : k < 256) : IntKind.u8.wrap (k : Int) = (k : Int) := by
  simp [IntKind.wrap, IntKind.signed, IntKind.bits]
  omega
theorem natL_take (s : List UInt8) (k : Nat) (h : k < s.length) : natL (s.take (k + 1)) = natL (s.take k) ++ [s[k].toNat] := by
  unfold natL
  rw [← take_next s k h, List.map_append]
  rfl

set_option maxHeartbeats 4000000 in
set_option maxRecDepth 100000 in
theorem refOf_any (A : Option Addr) (n c : Nat) (s : List UInt8) (hs : s.length = n) (hn : n ≤ 140737488351232) (w : World) (hr : Rd w A s) :
    Calls Tryd.prog 16 #[.slice A n c] w (Got4 w (allW nilW (natL s))) := by
  have hz := zero4
  rw [tab4_row] at hz
  have HS := Lib.hid hs
  have HR := Lib.hid hr
  clear hs hr
  go_enter Tryd.func16, Tryd.ntmps16
  have hC0 := H4.new1 w (.cells (row4 nilW) 24) nilW
  have HC0 := Lib.hid hC0
  clear hC0
  go_wp2_with (refine wpList_store_row rfl 24 _ _ rfl (w.heap.size + 1) _ rfl rfl 24 _ HC0.out (by rw [size4, row4_size]) rfl (row4_one _) ?_)
  clear hz
  have hD := (H4.new w nilW).alloc (.cells (row4 nilW) 24)
  have hL : Below w.heap.size w ((w.alloc (.cells (row4 nilW) 24)).alloc (.cells (row4 nilW) 24)) := bl_alloc (bl_alloc (Below.refl _ _) _) _
  have HC := Lib.hid (HC0.out.laid (f' := nilW))
  have HD := Lib.hid (hD.row (k := w.heap.size + 1) (by omega) (row4 nilW))
  have HL := Lib.hid (bl_setRow hL (g := w.heap.size + 1) (by omega) (row4 nilW))
  clear hD hL HC0
  generalize ((w.alloc (.cells (row4 nilW) 24)).alloc (.cells (row4 nilW) 24)).setRow (w.heap.size + 1) (row4 nilW) = w0 at *
  go_loopw [4] (fun i wr => ∃ k : Nat, k ≤ n ∧ i = .int .i64 k ∧ H4 wr w.heap.size nilW ∧ H4 wr (w.heap.size + 1) (allW nilW (natL (s.take k))) ∧ Below w.heap.size w wr) (fun i _ => n - (intOf i).toNat)
  case atStart => exact ⟨0, by omega, rfl, HD.out, HC.out, HL.out⟩
  case round =>
    clear HC HD HL
    obtain ⟨k, hk, rfl, h3, h4, hB⟩ := hrel
    by_cases hlt : k < n
    · have hks : k < s.length := by rw [HS.out]; exact hlt
      obtain ⟨ad, rfl, hc⟩ := (HR.out.below hB).cell hks
      have hstep := natL_take s k hks
      have h256 := (s[k]).toNat_lt
      obtain ⟨z, hz⟩ : ∃ z, (s[k]).toNat = z := ⟨_, rfl⟩
      rw [hz] at hc hstep h256
      have hz256 : z < 256 := h256
      have HT := Lib.hid hstep
      clear hstep h256 hz
      go_upto_region 5 with fail
      refine wp_region_any (by kernel_rfl) ?_
      have H3 := Lib.hid h3.drew
      have H4' := Lib.hid h4.drew
      have HB := Lib.hid hB.drew
      have hcd : wr.drew.cell? (ad.add k) = some (.int .u8 (z : Int)) := hc
      have HCD := Lib.hid hcd
      clear h3 h4 hB hc hcd
      show wpAny _ _ _ _ _ _ _ wr.drew
      refine wpAny_take (i := 1) (v := ?vq1) rfl (by kernel_rfl) (by kernel_rfl) (by kernel_rfl) (fun _ _ _ h => h) (Or.inl ⟨by rfl, ?yq1⟩) ?rq1
      case yq1 => (intro wS; go_simp; try (with_reducible rfl))
      try simp only [List.getElem_toArray, List.getElem_cons_zero, List.getElem_cons_succ, Act.put, List.setIfInBounds_toArray, List.set_cons_zero, List.set_cons_succ]
      refine wpAny_take (i := 2) (v := ?vq2) rfl (by kernel_rfl) (by kernel_rfl) (by kernel_rfl) (fun _ _ _ h => h) (Or.inl ⟨by rfl, ?yq2⟩) ?rq2
      case yq2 => (intro wS; go_simp; try (with_reducible rfl))
      try simp only [List.getElem_toArray, List.getElem_cons_zero, List.getElem_cons_succ, Act.put, List.setIfInBounds_toArray, List.set_cons_zero, List.set_cons_succ]
      refine wpAny_take (i := 3) (v := ?vq3) rfl (by kernel_rfl) (by kernel_rfl) (by kernel_rfl) (fun _ _ _ h => h) (Or.inl ⟨by rfl, ?yq3⟩) ?rq3
      case yq3 => (intro wS; go_simp; try (with_reducible rfl))
      try simp only [List.getElem_toArray, List.getElem_cons_zero, List.getElem_cons_succ, Act.put, List.setIfInBounds_toArray, List.set_cons_zero, List.set_cons_succ]
      generalize wr.drew = wd at *
      refine wpAny_ready (rs := [0, 4]) (by kernel_rfl) (by simp) (AllReady.cons rfl (fun K hK => ?_) (AllReady.cons rfl (fun K hK => ?_) AllReady.nil))
      · have HK := Lib.hid hK
        clear hK
        rw [if_pos (by rfl)]
        refine wp_load_row 24 _ rfl (w.heap.size + 1) rfl 24 _ (0, 0) _ H4'.out Tryd.underlying24 rfl (by rw [size4, row4_size]) ?_
        refine HK.out _ _ ?_
        clear HK K
        try simp only [List.getElem_toArray, List.getElem_cons_zero, List.getElem_cons_succ, Act.put, List.setIfInBounds_toArray, List.set_cons_zero, List.set_cons_succ]
        refine wpAny_ready (rs := [4]) (by kernel_rfl) (by simp) (AllReady.cons rfl (fun K hK => ?_) AllReady.nil)
        have HK := Lib.hid hK
        clear hK
        have hcd := HCD.out
        go_simp
        clear hcd
        refine HK.out _ _ ?_
        clear HK K
        try simp only [List.getElem_toArray, List.getElem_cons_zero, List.getElem_cons_succ, Act.put, List.setIfInBounds_toArray, List.set_cons_zero, List.set_cons_succ]
        refine wpAny_ready (rs := [5]) (by kernel_rfl) (by simp) (AllReady.cons rfl (fun K hK => ?_) AllReady.nil)
        have HK := Lib.hid hK
        clear hK
        go_simp
        go_at_call 28
        refine (with_any _ z hz256 _).mono ?_
        rintro e w1 ⟨rfl, hb1⟩
        have J3 := Lib.hid (H3.out.below hb1)
        have J4 := Lib.hid (H4'.out.below hb1)
        have JB := Lib.hid (bl_trans HB.out hb1)
        clear hb1
        go_wp2_with fail
        refine HK.out _ _ ?_
        clear HK K
        try simp only [List.getElem_toArray, List.getElem_cons_zero, List.getElem_cons_succ, Act.put, List.setIfInBounds_toArray, List.set_cons_zero, List.set_cons_succ]
        refine wpAny_ready (rs := [6]) (by kernel_rfl) (by simp) (AllReady.cons rfl (fun K hK => ?_) AllReady.nil)
        have HK := Lib.hid hK
        clear hK
        rw [if_pos (by rfl)]
        refine wp_store_row 24 _ _ rfl (w.heap.size + 1) _ rfl rfl 24 _ J4.out (by rw [size4, row4_size]) (by simp only [row4_size]) (row4_one _) ?_
        have K4 := J4.out.laid (f' := putW (allW nilW (natL (s.take k))) z)
        rw [← allW_snoc, ← HT.out] at K4
        have K3 := J3.out.row (k := w.heap.size + 1) (by omega) (row4 (allW nilW (natL (s.take (k + 1)))))
        have KB := bl_setRow JB.out (g := w.heap.size + 1) (by omega) (row4 (allW nilW (natL (s.take (k + 1)))))
        rw [← allW_snoc, ← HT.out]
        refine HK.out _ _ ?_
        clear HK K
        try simp only [List.getElem_toArray, List.getElem_cons_zero, List.getElem_cons_succ, Act.put, List.setIfInBounds_toArray, List.set_cons_zero, List.set_cons_succ]
        refine wpAny_done (by kernel_rfl) ?_ _
        have L4 := Lib.hid K4
        have L3 := Lib.hid K3
        have LB := Lib.hid KB
        clear K4 K3 KB J3 J4 JB
        go_wp2
        exact ⟨⟨k + 1, by omega, by go_num, L3.out, L4.out, LB.out⟩, by simp [intOf]; omega⟩
      · have HK := Lib.hid hK
        clear hK
        have hcd := HCD.out
        go_simp
        clear hcd
        refine HK.out _ _ ?_
        clear HK K
        try simp only [List.getElem_toArray, List.getElem_cons_zero, List.getElem_cons_succ, Act.put, List.setIfInBounds_toArray, List.set_cons_zero, List.set_cons_succ]
        refine wpAny_ready (rs := [0]) (by kernel_rfl) (by simp) (AllReady.cons rfl (fun K hK => ?_) AllReady.nil)
        have HK := Lib.hid hK
        clear hK
        rw [if_pos (by rfl)]
        refine wp_load_row 24 _ rfl (w.heap.size + 1) rfl 24 _ (0, 0) _ H4'.out Tryd.underlying24 rfl (by rw [size4, row4_size]) ?_
        refine HK.out _ _ ?_
        clear HK K
        try simp only [List.getElem_toArray, List.getElem_cons_zero, List.getElem_cons_succ, Act.put, List.setIfInBounds_toArray, List.set_cons_zero, List.set_cons_succ]
        refine wpAny_ready (rs := [5]) (by kernel_rfl) (by simp) (AllReady.cons rfl (fun K hK => ?_) AllReady.nil)
        have HK := Lib.hid hK
        clear hK
        go_simp
        go_at_call 28
        refine (with_any _ z hz256 _).mono ?_
        rintro e w1 ⟨rfl, hb1⟩
        have J3 := Lib.hid (H3.out.below hb1)
        have J4 := Lib.hid (H4'.out.below hb1)
        have JB := Lib.hid (bl_trans HB.out hb1)
        clear hb1
        go_wp2_with fail
        refine HK.out _ _ ?_
        clear HK K
        try simp only [List.getElem_toArray, List.getElem_cons_zero, List.getElem_cons_succ, Act.put, List.setIfInBounds_toArray, List.set_cons_zero, List.set_cons_succ]
        refine wpAny_ready (rs := [6]) (by kernel_rfl) (by simp) (AllReady.cons rfl (fun K hK => ?_) AllReady.nil)
        have HK := Lib.hid hK
        clear hK
        rw [if_pos (by rfl)]
        refine wp_store_row 24 _ _ rfl (w.heap.size + 1) _ rfl rfl 24 _ J4.out (by rw [size4, row4_size]) (by simp only [row4_size]) (row4_one _) ?_
        have K4 := J4.out.laid (f' := putW (allW nilW (natL (s.take k))) z)
        rw [← allW_snoc, ← HT.out] at K4
        have K3 := J3.out.row (k := w.heap.size + 1) (by omega) (row4 (allW nilW (natL (s.take (k + 1)))))
        have KB := bl_setRow JB.out (g := w.heap.size + 1) (by omega) (row4 (allW nilW (natL (s.take (k + 1)))))
        rw [← allW_snoc, ← HT.out]
        refine HK.out _ _ ?_
        clear HK K
        try simp only [List.getElem_toArray, List.getElem_cons_zero, List.getElem_cons_succ, Act.put, List.setIfInBounds_toArray, List.set_cons_zero, List.set_cons_succ]
        refine wpAny_done (by kernel_rfl) ?_ _
        have L4 := Lib.hid K4
        have L3 := Lib.hid K3
        have LB := Lib.hid KB
        clear K4 K3 KB J3 J4 JB
        go_wp2
        exact ⟨⟨k + 1, by omega, by go_num, L3.out, L4.out, LB.out⟩, by simp [intOf]; omega⟩
    · obtain rfl : k = n := by omega
      have e : s.take k = s := List.take_of_length_le (by rw [HS.out]; exact Nat.le_refl _)
      rw [e] at h4
      have H3 := Lib.hid h3
      have H4' := Lib.hid h4
      have HB := Lib.hid hB
      clear h3 h4 hB e
      go_wp2_with (first
        | (refine wpList_load_row rfl 24 _ rfl (w.heap.size + 1) rfl 24 _ (0, 0) _ H4'.out Tryd.underlying24 rfl (by rw [size4, row4_size]) ?_)
        | (refine wpList_store_row rfl 24 _ _ rfl w.heap.size _ rfl rfl 24 _ H3.out (by rw [size4, row4_size]) (by simp only [row4_size]) (row4_one _) ?_))
      refine bodyPost_ret (v := .agg (row4 (allW nilW (natL s)))) (results_cell_row rfl _ _ w.heap.size 24 _ (0, 0) _ rfl (setRow_heap _ _ _ _ _ _ H3.out) Tryd.underlying24 rfl (by rw [size4, row4_size])) rfl ⟨rfl, ?_⟩
      exact bl_setRow HB.out (by omega) _

theorem spanL_succ (a m : Nat) : spanL a (m + 1) = spanL a m ++ [a + m] := by
  unfold spanL
  rw [List.range_succ, List.map_append]
  rfl

set_option maxHeartbeats 4000000 in
set_option maxRecDepth 100000 in
theorem refSpan_any (a b : Nat) (ha : a < 256) (hb : b < 256) (w : World) :
    Calls Tryd.prog 18 #[.int .u8 (a : Int), .int .u8 (b : Int)] w (Got4 w (allW nilW (spanL a (b + 1 - a)))) := by
  have hz := zero4
  rw [tab4_row] at hz
  obtain ⟨m, hm⟩ : ∃ m, b + 1 - a = m := ⟨_, rfl⟩
  rw [hm]
  have HM := Lib.hid hm
  have HA := Lib.hid ha
  have HB' := Lib.hid hb
  clear hm
  go_enter Tryd.func18, Tryd.ntmps18
  have hC0 := H4.new1 w (.cells (row4 nilW) 24) nilW
  have HC0 := Lib.hid hC0
  clear hC0
  go_wp2_with (refine wpList_store_row rfl 24 _ _ rfl (w.heap.size + 1) _ rfl rfl 24 _ HC0.out (by rw [size4, row4_size]) rfl (row4_one _) ?_)
  clear hz
  have hD := (H4.new w nilW).alloc (.cells (row4 nilW) 24)
  have hL : Below w.heap.size w ((w.alloc (.cells (row4 nilW) 24)).alloc (.cells (row4 nilW) 24)) := bl_alloc (bl_alloc (Below.refl _ _) _) _
  have HC := Lib.hid (HC0.out.laid (f' := nilW))
  have HD := Lib.hid (hD.row (k := w.heap.size + 1) (by omega) (row4 nilW))
  have HL := Lib.hid (bl_setRow hL (g := w.heap.size + 1) (by omega) (row4 nilW))
  clear hD hL HC0
  generalize ((w.alloc (.cells (row4 nilW) 24)).alloc (.cells (row4 nilW) 24)).setRow (w.heap.size + 1) (row4 nilW) = w0 at *
  go_loopw [6] (fun i wr => ∃ k : Nat, k ≤ m ∧ i = .int .i64 ((a + k : Nat) : Int) ∧ H4 wr w.heap.size nilW ∧ H4 wr (w.heap.size + 1) (allW nilW (spanL a k)) ∧ Below w.heap.size w wr) (fun i _ => 512 - (intOf i).toNat)
  case atStart => exact ⟨0, by omega, rfl, HD.out, HC.out, HL.out⟩
  case round =>
    clear HC HD HL
    obtain ⟨k, hk, rfl, h3, h4, hB⟩ := hrel
    have hm := HM.out
    obtain ⟨z, hz⟩ : ∃ z, a + k = z := ⟨_, rfl⟩
    rw [hz]
    by_cases hlt : k < m
    · have hstep := spanL_succ a k
      rw [hz] at hstep
      have hz256 : z < 256 := by omega
      have hzb : z ≤ b := by omega
      have hz1 : z + 1 = a + (k + 1) := by omega
      have HT := Lib.hid hstep
      have HZ := Lib.hid hz1
      have H3 := Lib.hid h3
      have H4' := Lib.hid h4
      have HB := Lib.hid hB
      clear hstep hz1 hz h3 h4 hB hm
      go_wp2_with (refine wpList_load_row rfl 24 _ rfl (w.heap.size + 1) rfl 24 _ (0, 0) _ H4'.out Tryd.underlying24 rfl (by rw [size4, row4_size]) ?_)
      try rw [narrow8 z hz256]
      refine (with_any _ z hz256 _).mono ?_
      rintro e w1 ⟨rfl, hb1⟩
      rw [← allW_snoc, ← HT.out]
      have J4 := Lib.hid (H4'.out.below hb1)
      have K4 := Lib.hid (J4.out.laid (f' := allW nilW (spanL a (k + 1))))
      have K3 := Lib.hid ((H3.out.below hb1).row (k := w.heap.size + 1) (by omega) (row4 (allW nilW (spanL a (k + 1)))))
      have KB := Lib.hid (bl_setRow (bl_trans HB.out hb1) (g := w.heap.size + 1) (by omega) (row4 (allW nilW (spanL a (k + 1)))))
      clear hb1 H3 H4' HB
      go_wp2_with (refine wpList_store_row rfl 24 _ _ rfl (w.heap.size + 1) _ rfl rfl 24 _ J4.out (by rw [size4, row4_size]) (by simp only [row4_size]) (row4_one _) ?_)
      exact ⟨⟨k + 1, by omega, by rw [← HZ.out]; go_num, K3.out, K4.out, KB.out⟩, by simp [intOf]; omega⟩
    · obtain rfl : k = m := by omega
      have hzb : ¬ z ≤ b := by omega
      have H3 := Lib.hid h3
      have H4' := Lib.hid h4
      have HB := Lib.hid hB
      clear h3 h4 hB hm hz
      go_wp2_with (first
        | (refine wpList_load_row rfl 24 _ rfl (w.heap.size + 1) rfl 24 _ (0, 0) _ H4'.out Tryd.underlying24 rfl (by rw [size4, row4_size]) ?_)
        | (refine wpList_store_row rfl 24 _ _ rfl w.heap.size _ rfl rfl 24 _ H3.out (by rw [size4, row4_size]) (by simp only [row4_size]) (row4_one _) ?_))
      refine bodyPost_ret (v := .agg (row4 (allW nilW (spanL a k)))) (results_cell_row rfl _ _ w.heap.size 24 _ (0, 0) _ rfl (setRow_heap _ _ _ _ _ _ H3.out) Tryd.underlying24 rfl (by rw [size4, row4_size])) rfl ⟨rfl, ?_⟩
      exact bl_setRow HB.out (by omega) _

end Go.Proofs.YtcgoacfcdlbhdaaDoor
