/- The walk of ShaChain: what the bytes make in two turns is what they make in one. No condition. -/
import Derived.Test.YthpcmceomamadaaShaCh
import Derived.Test.YthpcmceomamadaaShaWkBack
import Derived.Deep.RegionHeld3
import Derived.Deep.MidRow
import Derived.BigQuiet
import Derived.Deep.DeepCutAuto
set_option linter.unusedVariables false
set_option linter.unusedSimpArgs false
namespace Go.Proofs.Ythpcmceomamadaa
open Go.ChangeShapes Go.WideShapes Go.ChangeAt Go.RowKit

theorem rangeF_of {w : World} {b : Nat} {t : TypeId} {f : Nat → BitVec 32} (h : Hw w b t 8 f) : w.rangeAt b 0 (rowF 8 f).toList := fun j v hv => by
  have hj : j < 8 := by
    have := (List.getElem?_eq_some_iff.1 hv).1
    rw [Array.length_toList, rowF_size] at this
    exact this
  have hc := h.cell hj
  rw [Nat.zero_add, hc]
  rw [Array.getElem?_toList, rowF_get _ _ _ hj] at hv
  rw [← hv]
  rfl
/-- 'b[k:]'. -/
theorem cut_tail (g n c k : Nat) (hk : k ≤ n) (hnc : n ≤ c) (W : World) :
    (Instr.slice 28 (.slice (some ⟨g, 0, none⟩) n c) (some (.int .i64 (k : Int))) none none).run Try.prog W = .ok (.slice (some ⟨g, if c = k then 0 else k, none⟩) (n - k) (c - k)) W := by
  obtain ⟨i, hi, _, hs1, _⟩ := info_parts info_u8
  have he : Try.prog.elem 28 = 5 := by kernel_rfl
  rw [run_slice_l W 28 (some ⟨g, 0, none⟩) n c (by rw [he]; exact Try.underlying28) .i64 k (by omega) (by omega)]
  by_cases h3 : c = k
  · simp [sizeOf, typeInfo, he, hi, hs1, sliced, Result.andThen, h3]
  · simp [sizeOf, typeInfo, he, hi, hs1, sliced, Result.andThen, h3, add_zero_at]

theorem cut_to3 {l : List UInt8} {m k : Nat} (hl : l.length = m) (hk : k ≤ m) : (l.take k).length = k := by
  rw [List.length_take]
  omega

set_option maxHeartbeats 8000000 in
set_option maxRecDepth 100000 in
theorem chain_walk (A : Option Addr) (m c : Nat) (l : List UInt8) (z : Int) (w : World) (hl : l.length = m) (hmc : m ≤ c) (hcl : c ≤ 9223372036854775807) (hr : Rd w A l) (z1 : -9223372036854775808 ≤ z) (z2 : z ≤ 9223372036854775807) :
    Calls Try.prog 24 #[.slice A m c, .int .i64 z] w (Yes w) := by
  obtain ⟨n, _, hk1, hk2, hmin⟩ := min_lit m 3000 3000 rfl
  have hlk := cut_to3 hl hk1
  have hrk := hr.take n
  generalize l.take n = l' at *
  have HL := Lib.hid hlk
  have HRk := Lib.hid hrk
  clear hl hlk hr hrk
  obtain ⟨N, hN⟩ : ∃ N, padN l'.length = N := ⟨_, rfl⟩
  obtain ⟨r1, r2, r3⟩ := padN_room l'.length
  rw [hN, HL.out] at r1 r2
  rw [hN] at r3
  obtain ⟨M, hM⟩ : ∃ M, N = 64 * M := ⟨N / 64, by omega⟩
  obtain ⟨M1, hM1⟩ : ∃ M1, M1 = M + 1 := ⟨_, rfl⟩
  have r4 : (N : Int) % 64 = 0 := by omega
  have r4' : (N : Int).tmod 64 = 0 := by rw [Int.tmod_eq_emod_of_nonneg (by omega)]; exact r4
  have r5 : ((N : Int) == 0) = false := by simp; omega
  have r6 : (N : Int) / 64 = (M : Int) := by omega
  have r6' : (N : Int).tdiv 64 = (M : Int) := by rw [Int.tdiv_eq_ediv_of_nonneg (by omega)]; exact r6
  have r7 : (M : Int) + 1 = (M1 : Int) := by omega
  obtain ⟨j, hj, HJ, HBr⟩ := bring_nat z M1 z1 z2 (by omega) (by omega)
  obtain ⟨k, hk⟩ : ∃ k, k = 64 * j := ⟨_, rfl⟩
  have r8 : 64 * (j : Int) = (k : Int) := by omega
  have w1' : IntKind.i64.wrap (M : Int) = (M : Int) := IntWalk.i64_in _ (by omega)
  have w2' : IntKind.i64.wrap (M1 : Int) = (M1 : Int) := IntWalk.i64_in _ (by omega)
  have w3' : IntKind.i64.wrap (k : Int) = (k : Int) := IntWalk.i64_in _ (by omega)
  have kN : k ≤ N := by omega
  have HN := Lib.hid hN
  have HM := Lib.hid hM
  have HK := Lib.hid hk
  have hjm : j ≤ M := by omega
  have n5 : N ≤ 6000 := by omega
  clear hN hM hk r3 hM1 hj
  go_enter Try.func24, Try.ntmps24
  go_wp2_with fail
  refine (pad_got A n c l' _ HL.out HRk.out (by omega)).mono ?_
  rintro e wp ⟨g, cp, rfl, hcp, hg, hP, hB1⟩
  rw [HN.out] at hcp ⊢
  have HP := Lib.hid hP
  have HB := Lib.hid hB1
  clear hP hB1
  go_wp2_with fail
  refine (HBr.out _).mono ?_
  rintro e wp' ⟨rfl, rfl⟩
  go_upto_region 6 with fail
  obtain ⟨x, hx⟩ : ∃ x, foldE beginE ((padE l').take (64 * j)) j = x := ⟨_, rfl⟩
  have HF : Hid (∀ W, Below wp.heap.size wp W → Calls Try.prog 47 #[.agg (rowF 8 beginE.get), .slice (some ⟨g, 0, none⟩) k cp] W (GotFo W x)) := Lib.hid (fun W hW => by
    have ht := ((HP.out.below hW).rd).take (64 * j)
    rw [← HK.out] at ht
    have hlen : ((padE l').take k).length = k := by rw [List.length_take, padE_len, HN.out]; omega
    have h := folded_any beginE g 0 k cp j ((padE l').take k) W hlen HK.out (by omega) (by omega) ht
    rw [← hx, ← HK.out]
    exact h)
  have HXx := Lib.hid hx
  clear hx
  have hz8 := zero8
  have hcutA := cut_head ⟨g, 0, none⟩ N cp k kN hcp
  go_cut [7, 8] (fun t7 t8 wx => ∃ X, t7 = .pointer (some ⟨X, 0, none⟩) ∧ t8 = .bool true ∧ Hw wx X 31 8 x.get ∧ Below wp.heap.size wp wx)
  case first =>
    refine wp_region_held_drew (S := fun w' => Below wp.heap.size wp w') (by kernel_rfl) (Below.drew (Below.refl _ _)) (fun hHeld => ?_)
    refine wpAnyH_take (i := 1) (v := ?vp1) rfl (by kernel_rfl) (by kernel_rfl) (by kernel_rfl) (fun _ _ _ h => h) (Or.inl ⟨by rfl, ?yp1⟩) hHeld ?rp1
    case yp1 => (intro wS hSw; clear hSw; go_simp; try (with_reducible rfl))
    simp only [List.getElem_toArray, List.getElem_cons_zero, List.getElem_cons_succ, Act.put, List.setIfInBounds_toArray, List.set_cons_zero, List.set_cons_succ]
    refine wpAnyH_take (i := 2) (v := ?vp2) rfl (by kernel_rfl) (by kernel_rfl) (by kernel_rfl) (fun _ _ _ h => h) (Or.inl ⟨by rfl, ?yp2⟩) hHeld ?rp2
    case yp2 => (intro wS hSw; clear hSw; go_simp; try (with_reducible rfl))
    simp only [List.getElem_toArray, List.getElem_cons_zero, List.getElem_cons_succ, Act.put, List.setIfInBounds_toArray, List.set_cons_zero, List.set_cons_succ]
    refine wpAnyH_take (i := 3) (v := ?vp3) rfl (by kernel_rfl) (by kernel_rfl) (by kernel_rfl) (fun _ _ _ h => h) (Or.inl ⟨by rfl, ?yp3⟩) hHeld ?rp3
    case yp3 => (intro wS hSw; clear hSw; go_simp; try (with_reducible rfl))
    simp only [List.getElem_toArray, List.getElem_cons_zero, List.getElem_cons_succ, Act.put, List.setIfInBounds_toArray, List.set_cons_zero, List.set_cons_succ]
    refine wpAnyH_ready (rs := [0, 8]) (by kernel_rfl) (by simp) (AllReadyH.cons rfl (fun K hK => ?_) (AllReadyH.cons rfl (fun K hK => ?_) AllReadyH.nil))
    · go_simp
      go_at_call 15; refine (begin_s _).mono ?_
      rintro e wb ⟨rfl, hb⟩
      have hs := bl_trans hHeld hb
      clear hHeld hb
      go_wp2_with fail
      refine hK.out _ _ hs (fun hHeld => ?_)
      clear hK K hs
      try simp only [List.getElem_toArray, List.getElem_cons_zero, List.getElem_cons_succ, Act.put, List.setIfInBounds_toArray, List.set_cons_zero, List.set_cons_succ]
      refine wpAnyH_ready (rs := [4, 8]) (by kernel_rfl) (by simp) (AllReadyH.cons rfl (fun K hK => ?_) (AllReadyH.cons rfl (fun K hK => ?_) AllReadyH.nil))
      · go_simp
        go_at_call 47; refine (HF.out _ hHeld).mono ?_
        rintro e wf ⟨rfl, hb⟩
        have hs := bl_trans hHeld hb
        clear hHeld hb
        go_wp2_with fail
        refine hK.out _ _ hs (fun hHeld => ?_)
        clear hK K hs
        try simp only [List.getElem_toArray, List.getElem_cons_zero, List.getElem_cons_succ, Act.put, List.setIfInBounds_toArray, List.set_cons_zero, List.set_cons_succ]
        refine wpAnyH_take (i := 5) (v := ?va5) rfl (by kernel_rfl) (by kernel_rfl) (by kernel_rfl) (fun _ _ _ h => h) (Or.inl ⟨by rfl, ?ya5⟩) hHeld ?ra5
        case ya5 => (intro wS hSw; clear hSw; go_simp; try (with_reducible rfl))
        simp only [List.getElem_toArray, List.getElem_cons_zero, List.getElem_cons_succ, Act.put, List.setIfInBounds_toArray, List.set_cons_zero, List.set_cons_succ]
        refine wpAnyH_take (i := 6) (v := ?va6) rfl (by kernel_rfl) (by kernel_rfl) (by kernel_rfl) (fun _ _ _ h => h) (Or.inl ⟨by rfl, ?ya6⟩) hHeld ?ra6
        case ya6 => (intro wS hSw; clear hSw; go_simp; try (with_reducible rfl))
        simp only [List.getElem_toArray, List.getElem_cons_zero, List.getElem_cons_succ, Act.put, List.setIfInBounds_toArray, List.set_cons_zero, List.set_cons_succ]
        refine wpAnyH_take (i := 7) (v := ?va7) rfl (by kernel_rfl) (by kernel_rfl) (by kernel_rfl) (fun _ _ _ h => h) (Or.inl ⟨by rfl, ?ya7⟩) hHeld ?ra7
        case ya7 => (intro wS hSw; clear hSw; go_simp; try (with_reducible rfl))
        simp only [List.getElem_toArray, List.getElem_cons_zero, List.getElem_cons_succ, Act.put, List.setIfInBounds_toArray, List.set_cons_zero, List.set_cons_succ]
        refine wpAnyH_ready (rs := [8]) (by kernel_rfl) (by simp) (AllReadyH.cons rfl (fun K hK => ?_) AllReadyH.nil)
        have HHeld0 := Lib.hid hHeld
        have hX : Hw ((wf).alloc (.cells tab8 31)) (wf).heap.size 31 8 (fun _ => 0) := Hw.new tab8_row
        go_simp
        refine hK.out _ _ (bl_alloc hHeld _) (fun hHeld => ?_)
        clear hK K
        try simp only [List.getElem_toArray, List.getElem_cons_zero, List.getElem_cons_succ, Act.put, List.setIfInBounds_toArray, List.set_cons_zero, List.set_cons_succ]
        refine wpAnyH_ready (rs := [9]) (by kernel_rfl) (by simp) (AllReadyH.cons rfl (fun K hK => ?_) AllReadyH.nil)
        rw [if_pos (by rfl)]
        refine wp_store_row 31 _ _ rfl _ _ rfl rfl 31 _ hX (by rw [size8, rowF_size]) (by rw [rowF_size, rowF_size]) (rowF_one _ _) ?_
        have hge := hX.lt
        have hY := setRow_heap _ _ _ (rowF 8 x.get) _ _ hX
        refine hK.out _ _ (bl_setRow hHeld (by have := HHeld0.out.size; omega) _) (fun hHeld => ?_)
        clear hK K
        try simp only [List.getElem_toArray, List.getElem_cons_zero, List.getElem_cons_succ, Act.put, List.setIfInBounds_toArray, List.set_cons_zero, List.set_cons_succ]
        refine wpAnyH_take (i := 10) (v := ?va10) rfl (by kernel_rfl) (by kernel_rfl) (by kernel_rfl) (fun _ _ _ h => h) (Or.inl ⟨by rfl, ?ya10⟩) hHeld ?ra10
        case ya10 => (intro wS hSw; clear hSw; go_simp; try (with_reducible rfl))
        simp only [List.getElem_toArray, List.getElem_cons_zero, List.getElem_cons_succ, Act.put, List.setIfInBounds_toArray, List.set_cons_zero, List.set_cons_succ]
        refine wpAnyH_done (by kernel_rfl) ?_ _
        go_wp2_with fail
        go_meet
        exact ⟨_, rfl, rfl, hY, hHeld⟩
      · have HHeld0 := Lib.hid hHeld
        have hX : Hw ((wb).alloc (.cells tab8 31)) (wb).heap.size 31 8 (fun _ => 0) := Hw.new tab8_row
        go_simp
        refine hK.out _ _ (bl_alloc hHeld _) (fun hHeld => ?_)
        clear hK K
        try simp only [List.getElem_toArray, List.getElem_cons_zero, List.getElem_cons_succ, Act.put, List.setIfInBounds_toArray, List.set_cons_zero, List.set_cons_succ]
        refine wpAnyH_ready (rs := [4]) (by kernel_rfl) (by simp) (AllReadyH.cons rfl (fun K hK => ?_) AllReadyH.nil)
        go_simp
        go_at_call 47; refine (HF.out _ hHeld).mono ?_
        rintro e wf ⟨rfl, hb⟩
        have hs := bl_trans hHeld hb
        have hX := hX.below hb
        clear hHeld hb
        go_wp2_with fail
        refine hK.out _ _ hs (fun hHeld => ?_)
        clear hK K hs
        try simp only [List.getElem_toArray, List.getElem_cons_zero, List.getElem_cons_succ, Act.put, List.setIfInBounds_toArray, List.set_cons_zero, List.set_cons_succ]
        refine wpAnyH_take (i := 5) (v := ?vb5) rfl (by kernel_rfl) (by kernel_rfl) (by kernel_rfl) (fun _ _ _ h => h) (Or.inl ⟨by rfl, ?yb5⟩) hHeld ?rb5
        case yb5 => (intro wS hSw; clear hSw; go_simp; try (with_reducible rfl))
        simp only [List.getElem_toArray, List.getElem_cons_zero, List.getElem_cons_succ, Act.put, List.setIfInBounds_toArray, List.set_cons_zero, List.set_cons_succ]
        refine wpAnyH_take (i := 6) (v := ?vb6) rfl (by kernel_rfl) (by kernel_rfl) (by kernel_rfl) (fun _ _ _ h => h) (Or.inl ⟨by rfl, ?yb6⟩) hHeld ?rb6
        case yb6 => (intro wS hSw; clear hSw; go_simp; try (with_reducible rfl))
        simp only [List.getElem_toArray, List.getElem_cons_zero, List.getElem_cons_succ, Act.put, List.setIfInBounds_toArray, List.set_cons_zero, List.set_cons_succ]
        refine wpAnyH_take (i := 7) (v := ?vb7) rfl (by kernel_rfl) (by kernel_rfl) (by kernel_rfl) (fun _ _ _ h => h) (Or.inl ⟨by rfl, ?yb7⟩) hHeld ?rb7
        case yb7 => (intro wS hSw; clear hSw; go_simp; try (with_reducible rfl))
        simp only [List.getElem_toArray, List.getElem_cons_zero, List.getElem_cons_succ, Act.put, List.setIfInBounds_toArray, List.set_cons_zero, List.set_cons_succ]
        refine wpAnyH_ready (rs := [9]) (by kernel_rfl) (by simp) (AllReadyH.cons rfl (fun K hK => ?_) AllReadyH.nil)
        rw [if_pos (by rfl)]
        refine wp_store_row 31 _ _ rfl _ _ rfl rfl 31 _ hX (by rw [size8, rowF_size]) (by rw [rowF_size, rowF_size]) (rowF_one _ _) ?_
        have hge := hX.lt
        have hY := setRow_heap _ _ _ (rowF 8 x.get) _ _ hX
        refine hK.out _ _ (bl_setRow hHeld (by have := HHeld0.out.size; omega) _) (fun hHeld => ?_)
        clear hK K
        try simp only [List.getElem_toArray, List.getElem_cons_zero, List.getElem_cons_succ, Act.put, List.setIfInBounds_toArray, List.set_cons_zero, List.set_cons_succ]
        refine wpAnyH_take (i := 10) (v := ?vb10) rfl (by kernel_rfl) (by kernel_rfl) (by kernel_rfl) (fun _ _ _ h => h) (Or.inl ⟨by rfl, ?yb10⟩) hHeld ?rb10
        case yb10 => (intro wS hSw; clear hSw; go_simp; try (with_reducible rfl))
        simp only [List.getElem_toArray, List.getElem_cons_zero, List.getElem_cons_succ, Act.put, List.setIfInBounds_toArray, List.set_cons_zero, List.set_cons_succ]
        refine wpAnyH_done (by kernel_rfl) ?_ _
        go_wp2_with fail
        go_meet
        exact ⟨_, rfl, rfl, hY, hHeld⟩
    · have HHeld0 := Lib.hid hHeld
      have hX : Hw ((wp.drew).alloc (.cells tab8 31)) (wp.drew).heap.size 31 8 (fun _ => 0) := Hw.new tab8_row
      go_simp
      refine hK.out _ _ (bl_alloc hHeld _) (fun hHeld => ?_)
      clear hK K
      try simp only [List.getElem_toArray, List.getElem_cons_zero, List.getElem_cons_succ, Act.put, List.setIfInBounds_toArray, List.set_cons_zero, List.set_cons_succ]
      refine wpAnyH_ready (rs := [0]) (by kernel_rfl) (by simp) (AllReadyH.cons rfl (fun K hK => ?_) AllReadyH.nil)
      go_simp
      go_at_call 15; refine (begin_s _).mono ?_
      rintro e wb ⟨rfl, hb⟩
      have hs := bl_trans hHeld hb
      have hX := hX.below hb
      clear hHeld hb
      go_wp2_with fail
      refine hK.out _ _ hs (fun hHeld => ?_)
      clear hK K hs
      try simp only [List.getElem_toArray, List.getElem_cons_zero, List.getElem_cons_succ, Act.put, List.setIfInBounds_toArray, List.set_cons_zero, List.set_cons_succ]
      refine wpAnyH_ready (rs := [4]) (by kernel_rfl) (by simp) (AllReadyH.cons rfl (fun K hK => ?_) AllReadyH.nil)
      go_simp
      go_at_call 47; refine (HF.out _ hHeld).mono ?_
      rintro e wf ⟨rfl, hb⟩
      have hs := bl_trans hHeld hb
      have hX := hX.below hb
      clear hHeld hb
      go_wp2_with fail
      refine hK.out _ _ hs (fun hHeld => ?_)
      clear hK K hs
      try simp only [List.getElem_toArray, List.getElem_cons_zero, List.getElem_cons_succ, Act.put, List.setIfInBounds_toArray, List.set_cons_zero, List.set_cons_succ]
      refine wpAnyH_take (i := 5) (v := ?vc5) rfl (by kernel_rfl) (by kernel_rfl) (by kernel_rfl) (fun _ _ _ h => h) (Or.inl ⟨by rfl, ?yc5⟩) hHeld ?rc5
      case yc5 => (intro wS hSw; clear hSw; go_simp; try (with_reducible rfl))
      simp only [List.getElem_toArray, List.getElem_cons_zero, List.getElem_cons_succ, Act.put, List.setIfInBounds_toArray, List.set_cons_zero, List.set_cons_succ]
      refine wpAnyH_take (i := 6) (v := ?vc6) rfl (by kernel_rfl) (by kernel_rfl) (by kernel_rfl) (fun _ _ _ h => h) (Or.inl ⟨by rfl, ?yc6⟩) hHeld ?rc6
      case yc6 => (intro wS hSw; clear hSw; go_simp; try (with_reducible rfl))
      simp only [List.getElem_toArray, List.getElem_cons_zero, List.getElem_cons_succ, Act.put, List.setIfInBounds_toArray, List.set_cons_zero, List.set_cons_succ]
      refine wpAnyH_take (i := 7) (v := ?vc7) rfl (by kernel_rfl) (by kernel_rfl) (by kernel_rfl) (fun _ _ _ h => h) (Or.inl ⟨by rfl, ?yc7⟩) hHeld ?rc7
      case yc7 => (intro wS hSw; clear hSw; go_simp; try (with_reducible rfl))
      simp only [List.getElem_toArray, List.getElem_cons_zero, List.getElem_cons_succ, Act.put, List.setIfInBounds_toArray, List.set_cons_zero, List.set_cons_succ]
      refine wpAnyH_ready (rs := [9]) (by kernel_rfl) (by simp) (AllReadyH.cons rfl (fun K hK => ?_) AllReadyH.nil)
      rw [if_pos (by rfl)]
      refine wp_store_row 31 _ _ rfl _ _ rfl rfl 31 _ hX (by rw [size8, rowF_size]) (by rw [rowF_size, rowF_size]) (rowF_one _ _) ?_
      have hge := hX.lt
      have hY := setRow_heap _ _ _ (rowF 8 x.get) _ _ hX
      refine hK.out _ _ (bl_setRow hHeld (Nat.le_refl _) _) (fun hHeld => ?_)
      clear hK K
      try simp only [List.getElem_toArray, List.getElem_cons_zero, List.getElem_cons_succ, Act.put, List.setIfInBounds_toArray, List.set_cons_zero, List.set_cons_succ]
      refine wpAnyH_take (i := 10) (v := ?vc10) rfl (by kernel_rfl) (by kernel_rfl) (by kernel_rfl) (fun _ _ _ h => h) (Or.inl ⟨by rfl, ?yc10⟩) hHeld ?rc10
      case yc10 => (intro wS hSw; clear hSw; go_simp; try (with_reducible rfl))
      simp only [List.getElem_toArray, List.getElem_cons_zero, List.getElem_cons_succ, Act.put, List.setIfInBounds_toArray, List.set_cons_zero, List.set_cons_succ]
      refine wpAnyH_done (by kernel_rfl) ?_ _
      go_wp2_with fail
      go_meet
      exact ⟨_, rfl, rfl, hY, hHeld⟩
  case rest =>
    obtain ⟨X, rfl, rfl, hX, hBc⟩ := hcut
    clear hcutA HF hz8
    obtain ⟨r, hr⟩ : ∃ r, N - k = r := ⟨_, rfl⟩
    obtain ⟨off, hoff⟩ : ∃ off, (if cp = k then 0 else k) = off := ⟨_, rfl⟩
    obtain ⟨cr, hcr⟩ : ∃ cr, cp - k = cr := ⟨_, rfl⟩
    have hcutB := cut_tail g N cp k kN hcp
    rw [hr, hoff, hcr] at hcutB
    have HF2 : Hid (∀ W, Below wc.heap.size wc W → Calls Try.prog 47 #[.agg (rowF 8 x.get), .slice (some ⟨g, off, none⟩) r cr] W (GotFo W (stateE l'))) := Lib.hid (fun W hW => by
      have ht := (((HP.out.below hBc).below hW).rd).drop k cp (by rw [padE_len, HN.out]; exact hcp)
      have e : (if cp = k then some (⟨g, 0, none⟩ : Addr) else (some (⟨g, 0, none⟩ : Addr)).map (·.add k)) = some ⟨g, off, none⟩ := by
        rw [← hoff]
        split
        · rfl
        · rw [Option.map_some, add_zero_at]
      rw [e] at ht
      have hlen : ((padE l').drop k).length = r := by rw [List.length_drop, padE_len, HN.out]; omega
      have h := folded_any x g off r cr (M - j) ((padE l').drop k) W hlen (by have := HM.out; have := HK.out; omega) (by omega) (by omega) ht
      rw [← HXx.out] at h
      rw [← HXx.out]
      have h2 := fold_both l' j M hjm (by rw [HN.out]; exact HM.out)
      rw [← HK.out] at h2 h ⊢
      rw [h2] at h
      exact h)
    clear hr hoff hcr
    have HX := Lib.hid hX
    have HBC := Lib.hid (bl_trans HB.out hBc)
    obtain ⟨s, hs⟩ : ∃ s, stateE l' = s := ⟨_, rfl⟩
    rw [hs] at HF2
    have HS := Lib.hid hs
    clear hs hX hBc HXx
    go_upto_region 7 with fail
    have hz8 := zero8
    have hu8 := Try.underlying31
    have hi8 : (Try.prog.info? 31).map (·.size) = some (rowF 8 x.get).toList.length := by rw [size8, Array.length_toList, rowF_size]
    go_cut [9, 10] (fun t9 t10 wx => ∃ Y, t9 = .pointer (some ⟨Y, 0, none⟩) ∧ t10 = .bool true ∧ Hw wx Y 31 8 s.get ∧ Below wc.heap.size wc wx)
    case first =>
      refine wp_region_held_drew (S := fun w' => w'.rangeAt X 0 (rowF 8 x.get).toList ∧ Below wc.heap.size wc w') (by kernel_rfl) ⟨rangeF_of (HX.out.below (Below.drew (Below.refl _ _))), Below.drew (Below.refl _ _)⟩ (fun hHeld => ?_)
      refine wpAnyH_take (i := 0) rfl (by kernel_rfl) (by kernel_rfl) (by kernel_rfl) (fun _ _ _ h => h) (yieldsIf_load_mid (by rfl) _ _ rfl _ _ rfl _ _ (fun _ h => h.1) hu8 rfl hi8) hHeld ?_
      simp only [List.getElem_toArray, List.getElem_cons_zero, List.getElem_cons_succ, Act.put, List.setIfInBounds_toArray, List.set_cons_zero, List.set_cons_succ]
      refine wpAnyH_take (i := 1) (v := ?vq1) rfl (by kernel_rfl) (by kernel_rfl) (by kernel_rfl) (fun _ _ _ h => h) (Or.inl ⟨by rfl, ?yq1⟩) hHeld ?rq1
      case yq1 => (intro wS hSw; clear hSw; go_simp; try (with_reducible rfl))
      simp only [List.getElem_toArray, List.getElem_cons_zero, List.getElem_cons_succ, Act.put, List.setIfInBounds_toArray, List.set_cons_zero, List.set_cons_succ]
      refine wpAnyH_take (i := 2) (v := ?vq2) rfl (by kernel_rfl) (by kernel_rfl) (by kernel_rfl) (fun _ _ _ h => h) (Or.inl ⟨by rfl, ?yq2⟩) hHeld ?rq2
      case yq2 => (intro wS hSw; clear hSw; go_simp; try (with_reducible rfl))
      simp only [List.getElem_toArray, List.getElem_cons_zero, List.getElem_cons_succ, Act.put, List.setIfInBounds_toArray, List.set_cons_zero, List.set_cons_succ]
      refine wpAnyH_take (i := 3) (v := ?vq3) rfl (by kernel_rfl) (by kernel_rfl) (by kernel_rfl) (fun _ _ _ h => h) (Or.inl ⟨by rfl, ?yq3⟩) hHeld ?rq3
      case yq3 => (intro wS hSw; clear hSw; go_simp; try (with_reducible rfl))
      simp only [List.getElem_toArray, List.getElem_cons_zero, List.getElem_cons_succ, Act.put, List.setIfInBounds_toArray, List.set_cons_zero, List.set_cons_succ]
      refine wpAnyH_ready (rs := [4, 8]) (by kernel_rfl) (by simp) (AllReadyH.cons rfl (fun K hK => ?_) (AllReadyH.cons rfl (fun K hK => ?_) AllReadyH.nil))
      · go_simp
        go_at_call 47; refine (HF2.out _ hHeld.2).mono ?_
        rintro e wf ⟨rfl, hb⟩
        have hs := bl_trans hHeld.2 hb
        clear hHeld hb
        go_wp2_with fail
        refine hK.out _ _ ⟨rangeF_of (HX.out.below hs), hs⟩ (fun hHeld => ?_)
        clear hK K hs
        try simp only [List.getElem_toArray, List.getElem_cons_zero, List.getElem_cons_succ, Act.put, List.setIfInBounds_toArray, List.set_cons_zero, List.set_cons_succ]
        refine wpAnyH_take (i := 5) (v := ?vd5) rfl (by kernel_rfl) (by kernel_rfl) (by kernel_rfl) (fun _ _ _ h => h) (Or.inl ⟨by rfl, ?yd5⟩) hHeld ?rd5
        case yd5 => (intro wS hSw; clear hSw; go_simp; try (with_reducible rfl))
        simp only [List.getElem_toArray, List.getElem_cons_zero, List.getElem_cons_succ, Act.put, List.setIfInBounds_toArray, List.set_cons_zero, List.set_cons_succ]
        refine wpAnyH_take (i := 6) (v := ?vd6) rfl (by kernel_rfl) (by kernel_rfl) (by kernel_rfl) (fun _ _ _ h => h) (Or.inl ⟨by rfl, ?yd6⟩) hHeld ?rd6
        case yd6 => (intro wS hSw; clear hSw; go_simp; try (with_reducible rfl))
        simp only [List.getElem_toArray, List.getElem_cons_zero, List.getElem_cons_succ, Act.put, List.setIfInBounds_toArray, List.set_cons_zero, List.set_cons_succ]
        refine wpAnyH_take (i := 7) (v := ?vd7) rfl (by kernel_rfl) (by kernel_rfl) (by kernel_rfl) (fun _ _ _ h => h) (Or.inl ⟨by rfl, ?yd7⟩) hHeld ?rd7
        case yd7 => (intro wS hSw; clear hSw; go_simp; try (with_reducible rfl))
        simp only [List.getElem_toArray, List.getElem_cons_zero, List.getElem_cons_succ, Act.put, List.setIfInBounds_toArray, List.set_cons_zero, List.set_cons_succ]
        refine wpAnyH_ready (rs := [8]) (by kernel_rfl) (by simp) (AllReadyH.cons rfl (fun K hK => ?_) AllReadyH.nil)
        have HHeld0 := Lib.hid hHeld
        have hZ : Hw ((wf).alloc (.cells tab8 31)) (wf).heap.size 31 8 (fun _ => 0) := Hw.new tab8_row
        go_simp
        refine hK.out _ _ ⟨rangeF_of (HX.out.below (bl_alloc hHeld.2 _)), bl_alloc hHeld.2 _⟩ (fun hHeld => ?_)
        clear hK K
        try simp only [List.getElem_toArray, List.getElem_cons_zero, List.getElem_cons_succ, Act.put, List.setIfInBounds_toArray, List.set_cons_zero, List.set_cons_succ]
        refine wpAnyH_ready (rs := [9]) (by kernel_rfl) (by simp) (AllReadyH.cons rfl (fun K hK => ?_) AllReadyH.nil)
        rw [if_pos (by rfl)]
        refine wp_store_row 31 _ _ rfl _ _ rfl rfl 31 _ hZ (by rw [size8, rowF_size]) (by rw [rowF_size, rowF_size]) (rowF_one _ _) ?_
        have hY := setRow_heap _ _ _ (rowF 8 s.get) _ _ hZ
        have hS2 : Below _ _ (World.setRow _ wf.heap.size (rowF 8 s.get)) := bl_setRow hHeld.2 (by have := HHeld0.out.2.size; omega) _
        refine hK.out _ _ ⟨rangeF_of (HX.out.below hS2), hS2⟩ (fun hHeld => ?_)
        clear hK K
        try simp only [List.getElem_toArray, List.getElem_cons_zero, List.getElem_cons_succ, Act.put, List.setIfInBounds_toArray, List.set_cons_zero, List.set_cons_succ]
        refine wpAnyH_take (i := 10) (v := ?vd10) rfl (by kernel_rfl) (by kernel_rfl) (by kernel_rfl) (fun _ _ _ h => h) (Or.inl ⟨by rfl, ?yd10⟩) hHeld ?rd10
        case yd10 => (intro wS hSw; clear hSw; go_simp; try (with_reducible rfl))
        simp only [List.getElem_toArray, List.getElem_cons_zero, List.getElem_cons_succ, Act.put, List.setIfInBounds_toArray, List.set_cons_zero, List.set_cons_succ]
        refine wpAnyH_done (by kernel_rfl) ?_ _
        go_wp2_with fail
        go_meet
        exact ⟨_, rfl, rfl, hY, hHeld.2⟩
      · have HHeld0 := Lib.hid hHeld
        have hZ : Hw ((wc.drew).alloc (.cells tab8 31)) (wc.drew).heap.size 31 8 (fun _ => 0) := Hw.new tab8_row
        go_simp
        refine hK.out _ _ ⟨rangeF_of (HX.out.below (bl_alloc hHeld.2 _)), bl_alloc hHeld.2 _⟩ (fun hHeld => ?_)
        clear hK K
        try simp only [List.getElem_toArray, List.getElem_cons_zero, List.getElem_cons_succ, Act.put, List.setIfInBounds_toArray, List.set_cons_zero, List.set_cons_succ]
        refine wpAnyH_ready (rs := [4]) (by kernel_rfl) (by simp) (AllReadyH.cons rfl (fun K hK => ?_) AllReadyH.nil)
        go_simp
        go_at_call 47; refine (HF2.out _ hHeld.2).mono ?_
        rintro e wf ⟨rfl, hb⟩
        have hs := bl_trans hHeld.2 hb
        have hZ := hZ.below hb
        clear hHeld hb
        go_wp2_with fail
        refine hK.out _ _ ⟨rangeF_of (HX.out.below hs), hs⟩ (fun hHeld => ?_)
        clear hK K hs
        try simp only [List.getElem_toArray, List.getElem_cons_zero, List.getElem_cons_succ, Act.put, List.setIfInBounds_toArray, List.set_cons_zero, List.set_cons_succ]
        refine wpAnyH_take (i := 5) (v := ?ve5) rfl (by kernel_rfl) (by kernel_rfl) (by kernel_rfl) (fun _ _ _ h => h) (Or.inl ⟨by rfl, ?ye5⟩) hHeld ?re5
        case ye5 => (intro wS hSw; clear hSw; go_simp; try (with_reducible rfl))
        simp only [List.getElem_toArray, List.getElem_cons_zero, List.getElem_cons_succ, Act.put, List.setIfInBounds_toArray, List.set_cons_zero, List.set_cons_succ]
        refine wpAnyH_take (i := 6) (v := ?ve6) rfl (by kernel_rfl) (by kernel_rfl) (by kernel_rfl) (fun _ _ _ h => h) (Or.inl ⟨by rfl, ?ye6⟩) hHeld ?re6
        case ye6 => (intro wS hSw; clear hSw; go_simp; try (with_reducible rfl))
        simp only [List.getElem_toArray, List.getElem_cons_zero, List.getElem_cons_succ, Act.put, List.setIfInBounds_toArray, List.set_cons_zero, List.set_cons_succ]
        refine wpAnyH_take (i := 7) (v := ?ve7) rfl (by kernel_rfl) (by kernel_rfl) (by kernel_rfl) (fun _ _ _ h => h) (Or.inl ⟨by rfl, ?ye7⟩) hHeld ?re7
        case ye7 => (intro wS hSw; clear hSw; go_simp; try (with_reducible rfl))
        simp only [List.getElem_toArray, List.getElem_cons_zero, List.getElem_cons_succ, Act.put, List.setIfInBounds_toArray, List.set_cons_zero, List.set_cons_succ]
        refine wpAnyH_ready (rs := [9]) (by kernel_rfl) (by simp) (AllReadyH.cons rfl (fun K hK => ?_) AllReadyH.nil)
        rw [if_pos (by rfl)]
        refine wp_store_row 31 _ _ rfl _ _ rfl rfl 31 _ hZ (by rw [size8, rowF_size]) (by rw [rowF_size, rowF_size]) (rowF_one _ _) ?_
        have hY := setRow_heap _ _ _ (rowF 8 s.get) _ _ hZ
        have hS2 : Below _ _ (World.setRow _ wc.drew.heap.size (rowF 8 s.get)) := bl_setRow hHeld.2 (Nat.le_refl _) _
        refine hK.out _ _ ⟨rangeF_of (HX.out.below hS2), hS2⟩ (fun hHeld => ?_)
        clear hK K
        try simp only [List.getElem_toArray, List.getElem_cons_zero, List.getElem_cons_succ, Act.put, List.setIfInBounds_toArray, List.set_cons_zero, List.set_cons_succ]
        refine wpAnyH_take (i := 10) (v := ?ve10) rfl (by kernel_rfl) (by kernel_rfl) (by kernel_rfl) (fun _ _ _ h => h) (Or.inl ⟨by rfl, ?ye10⟩) hHeld ?re10
        case ye10 => (intro wS hSw; clear hSw; go_simp; try (with_reducible rfl))
        simp only [List.getElem_toArray, List.getElem_cons_zero, List.getElem_cons_succ, Act.put, List.setIfInBounds_toArray, List.set_cons_zero, List.set_cons_succ]
        refine wpAnyH_done (by kernel_rfl) ?_ _
        go_wp2_with fail
        go_meet
        exact ⟨_, rfl, rfl, hY, hHeld.2⟩
    case rest =>
      obtain ⟨Y, rfl, rfl, hY, hBd⟩ := hcut
      clear hcutB HF2 hz8 hu8 hi8
      have HY := Lib.hid hY
      have HBD := Lib.hid (bl_trans HBC.out hBd)
      clear hY hBd
      have hz := zero32
      go_wp2_with fail
      refine (of_any A n c l' _ HL.out (HRk.out.below HBD.out) (by omega)).mono ?_
      rintro e we ⟨rfl, hb⟩
      rw [HS.out]
      have hy := HY.out.below hb
      have hylt := hy.lt
      have hbw := bl_trans HBD.out hb
      have n1 : (we.alloc (.cells tab32 37)).heap[we.heap.size]? = some (.cells tab32 37 (0, 0)) := heap_alloc_new we _
      have m1 : Hb ((we.alloc (.cells tab32 37)).setRow we.heap.size (rowB 32 (byteOf s))) we.heap.size 37 32 (byteOf s) := setRow_heap _ _ _ _ _ _ n1
      have m2 : Hw ((we.alloc (.cells tab32 37)).setRow we.heap.size (rowB 32 (byteOf s))) Y 31 8 s.get := (setRow_other _ _ _ _ (by omega)).trans (hy.alloc _)
      have mB : Below w.heap.size w ((we.alloc (.cells tab32 37)).setRow we.heap.size (rowB 32 (byteOf s))) := bl_setRow (bl_alloc hbw _) hbw.size _
      have N1 := Lib.hid n1
      have M1' := Lib.hid m1
      have M2' := Lib.hid m2
      have MB := Lib.hid mB
      clear n1 m1 m2 mB hb hy hbw HBD HBC HY hylt HX
      go_wp2_with (refine wpList_store_row rfl 37 _ _ rfl we.heap.size _ rfl rfl 37 _ N1.out (by rw [size32, rowB_size]) (by rw [rowB_size]; rfl) (rowB_one _ _) ?_)
      clear N1 hz
      generalize (we.alloc (.cells tab32 37)).setRow we.heap.size (rowB 32 (byteOf s)) = wx at *
      generalize we.heap.size = D at *
      go_loopw [12] (fun i wr => ∃ q : Nat, q ≤ 32 ∧ i = .int .i64 q ∧ Hb wr D 37 32 (byteOf s) ∧ Hw wr Y 31 8 s.get ∧ Below w.heap.size w wr) (fun i _ => 32 - (intOf i).toNat)
      case atStart => exact ⟨0, by omega, rfl, M1'.out, M2'.out, MB.out⟩
      case round =>
        clear M1' M2' MB
        obtain ⟨q, hq, rfl, h1, h8, hB'⟩ := hrel
        by_cases hlt : q < 32
        · obtain ⟨p, hp⟩ : ∃ p, q / 4 = p := ⟨_, rfl⟩
          obtain ⟨u, hu⟩ : ∃ u, q % 4 = u := ⟨_, rfl⟩
          obtain ⟨v, hv⟩ : ∃ v, 8 * u = v := ⟨_, rfl⟩
          obtain ⟨t, ht⟩ : ∃ t, 24 - v = t := ⟨_, rfl⟩
          have hp8 : p < 8 := by omega
          have c8 := h8.cell hp8
          have c1 := h1.cell hlt
          have e1 : (q : Int) / 4 = (p : Int) := by omega
          have e1' : (q : Int).tdiv 4 = (p : Int) := by rw [Int.tdiv_eq_ediv_of_nonneg (by omega)]; exact e1
          have e2 : (q : Int) % 4 = (u : Int) := by omega
          have e2' : (q : Int).tmod 4 = (u : Int) := by rw [Int.tmod_eq_emod_of_nonneg (by omega)]; exact e2
          have e3 : 8 * (u : Int) = (v : Int) := by omega
          have e4 : (24 : Int) - (v : Int) = (t : Int) := by omega
          have f1 : IntKind.i64.wrap (p : Int) = (p : Int) := IntWalk.i64_in _ (by omega)
          have f2 : IntKind.i64.wrap (u : Int) = (u : Int) := IntWalk.i64_in _ (by omega)
          have f3 : IntKind.i64.wrap (v : Int) = (v : Int) := IntWalk.i64_in _ (by omega)
          have f4 : IntKind.i64.wrap (t : Int) = (t : Int) := IntWalk.i64_in _ (by omega)
          have ht24 : t ≤ 24 := by omega
          have hbv : Value.int IntKind.u8 (((s.get p).toNat : Int) / 2 ^ t % 256) = bv (byteOf s q) := by
            rw [byte_val]
            unfold byteOf
            rw [hp, hu, hv, ht]
          have hvi : ((s.get p).toNat : Int) / 2 ^ t % 256 = ((byteOf s q).toNat : Int) := by
            unfold bv at hbv
            injection hbv
          have J1 := Lib.hid h1
          have J8 := Lib.hid h8
          have JB := Lib.hid hB'
          clear h1 h8 hB' hbv hp hu hv ht
          go_wp2
          go_quiet (fail)
          clear e1 e1' e2 e2' e3 e4 f1 f2 f3 f4
          go_wp2
          refine ⟨⟨q + 1, by omega, by go_num, J1.out, J8.out, bl_drewN JB.out nq⟩, by simp [intOf]; omega⟩
        · obtain rfl : q = 32 := by omega
          have JB := Lib.hid hB'
          clear h1 h8 hB'
          go_wp2_with fail
          refine (awake_any _).mono ?_
          rintro e wz ⟨rfl, hb⟩
          go_wp2
          go_ret
          exact ⟨rfl, bl_trans JB.out hb⟩

end Go.Proofs.Ythpcmceomamadaa
