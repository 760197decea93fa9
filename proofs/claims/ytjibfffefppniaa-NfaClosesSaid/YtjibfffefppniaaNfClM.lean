/- The law on what is reached for nothing: the walk. -/
import Derived.Test.YtjibfffefppniaaNfApM
import Derived.Test.YtjibfffefppniaaNfSwM
set_option linter.unusedVariables false
set_option linter.unusedSimpArgs false
namespace Go.Proofs.Ytjibfffefppniaa
open Go.RowKit
attribute [local go_sem] Oper.semAt_some

theorem zl_le {l : List Nat} (h : l.Pairwise (· < ·)) : ∀ i j (hi : i < (zl l).length) (hj : j < (zl l).length), i ≤ j → (zl l)[i] ≤ (zl l)[j] := fun i j hi hj hij => by
  rcases Nat.eq_or_lt_of_le hij with e | h2
  · subst e; exact Int.le_refl _
  · exact Int.le_of_lt (zl_up h i j hi hj h2)
theorem zl_sub {a b : List Nat} (h : ∀ x ∈ a, x ∈ b) : decide (∀ x ∈ zl a, x ∈ zl b) = true := by
  rw [decide_eq_true_iff]
  intro x hx
  unfold zl at *
  obtain ⟨y, hy, rfl⟩ := List.mem_map.1 hx
  exact List.mem_map.2 ⟨y, h y hy, rfl⟩
theorem zl_has {a b : List Nat} (h : ∀ x ∈ a, x ∈ b) (x : Int) (hx : x ∈ zl a) : decide (∀ y ∈ [x], y ∈ zl b) = true := by
  have := zl_sub h
  rw [decide_eq_true_iff] at this ⊢
  intro y hy
  rw [List.mem_singleton] at hy
  subst hy
  exact this _ hx
theorem close_len (s : Nat) (E : List Ed) (l : List Nat) : (closeL s E l).length ≤ s := len_le ((rise_pair s _).imp (fun h => by omega)) (close_in s E l)
theorem in_more {s : Nat} {F : List Nat} {j : Nat} (h : InN s F) (hj : j < s) : InN s (F ++ [j]) := fun x hx => by
  rcases List.mem_append.1 hx with hx | hx
  · exact h x hx
  · rw [List.mem_singleton] at hx; subst hx; exact hj
theorem own_more {w : World} {base : Nat} {q cap : Nat} {F : List Nat} {j : Nat} (h : w.ownsRow base 3 1 (.slice (some ⟨q, 0, none⟩) (F.length + 1) cap) (F.length + 1) (F.map nv ++ [.int .i64 (j : Int)])) : OwnI w base (.slice (some ⟨q, 0, none⟩) (F.length + 1) cap) (F ++ [j]) := by
  unfold OwnI
  rw [List.length_append, List.length_singleton, List.map_append]
  exact h
set_option maxHeartbeats 16000000 in
set_option maxRecDepth 20000 in
theorem closes_walk (S : Int) (A A2 A3 A4 : Option Addr) (n c n2 c2 na ca nb cb : Nat) (E : List Ed) (X la lb : List Int) (W : World) (he : E.length = n ∧ n ≤ c ∧ c * 56 ≤ 140737488351232 ∧ RdE W A E) (hx : X.length = n2 ∧ n2 ≤ c2 ∧ c2 * 8 ≤ 140737488351232 ∧ RdW W A2 X)
    (ha : la.length = na) (hac : na ≤ ca) (hca : ca * 8 ≤ 140737488351232) (ra : RdW W A3 la) (ia : ∀ z ∈ la, -9223372036854775808 ≤ z ∧ z ≤ 9223372036854775807)
    (hb : lb.length = nb) (hbc : nb ≤ cb) (hcb : cb * 8 ≤ 140737488351232) (rb : RdW W A4 lb) (ib : ∀ z ∈ lb, -9223372036854775808 ≤ z ∧ z ≤ 9223372036854775807) :
    Calls Try.prog 4 #[.agg #[.int .i64 S, .slice A n c, .slice A2 n2 c2], .slice A3 na ca, .slice A4 nb cb] W (Yes W) := by
  generalize hQ : Yes W = Q
  have HQ := Lib.hid hQ
  have b0 := bl_alloc (Below.refl W.heap.size W) (.cells #[.int .i64 S, .slice A n c, .slice A2 n2 c2] 25)
  obtain ⟨he1, he2, he3, he4⟩ := he
  obtain ⟨hx1, hx2, hx3, hx4⟩ := hx
  have N0 := Lib.hid (show NetB W W.heap.size S E X A A2 n c n2 c2 (W.alloc (.cells #[.int .i64 S, .slice A n c, .slice A2 n2 c2] 25)) from ⟨heap_alloc_new W _, he4.below b0, hx4.below b0, b0, he1, hx1, he2, hx2, by omega, by omega⟩)
  have A0 := Lib.hid (ra.below b0)
  have B0 := Lib.hid (rb.below b0)
  have HA := Lib.hid ha
  have HB := Lib.hid hb
  have IA := Lib.hid ia
  have IB := Lib.hid ib
  clear hQ b0 he1 he4 hx1 hx4 ra rb ha hb ia ib
  go_enter Try.func4, Try.ntmps4
  go_wp2_with fail
  generalize W.alloc (.cells #[.int .i64 S, .slice A n c, .slice A2 n2 c2] 25) = w0 at *
  generalize W.heap.size = g at *
  refine (works_any _).mono ?_
  rintro e w1 ⟨rfl, hb1⟩
  have N1 := Lib.hid (N0.out.then hb1)
  have A1 := Lib.hid (A0.out.below hb1)
  have B1 := Lib.hid (B0.out.below hb1)
  clear hb1 N0 A0 B0
  have L1 := Lib.hid N1.out.load
  have HK := Lib.hid N1.out.check
  go_wp2_with (refine wpList_load_part 25 3 _ rfl rfl ⟨g, 0, none⟩ rfl [.int .i64 S, .slice A n c, .slice A2 n2 c2] (agg_net _) (sz_net _) rfl L1.out ?_)
  refine HK.out.mono ?_
  rintro e w2 ⟨rfl, hb2⟩
  have N2 := Lib.hid (N1.out.then hb2)
  have RA := Lib.hid (A1.out.below hb2)
  have RB := Lib.hid (B1.out.below hb2)
  clear hb2 N1 A1 B1 L1 HK
  by_cases hk : ¬ checkN S E X = 0
  · generalize checkN S E X = k at *
    have h' : ((k : Int) != 0) = true := by simp; omega
    go_wp2_with fail
    exact post_is HQ ⟨rfl, N2.out.low⟩
  rw [Decidable.not_not] at hk
  have HK := Lib.hid hk
  obtain ⟨s, rfl, s1, s2, s3, s4, s5, s6⟩ := check_ok hk
  have S4 := Lib.hid s4
  rw [hk]
  clear hk s4 s6
  have hwn := N2.out.net
  have hgl : g < w2.heap.size := (Array.getElem?_eq_some_iff.1 hwn).1
  have HGL := Lib.hid hgl
  clear hwn hgl
  go_wp2_with fail
  go_loopw [7, 9] (fun fv iv wr => ∃ (i d : Nat) (B : Option Addr) (F : List Nat), i ≤ na ∧ i ≤ 50 ∧ iv = .int .i64 (i : Int) ∧ fv = .slice B i d ∧ Hid (F.length = i) ∧ Hid (InN s F) ∧ Hid (OwnI wr w2.heap.size (.slice B i d) F) ∧ Hid (Below w2.heap.size w2 wr)) (fun _ iv _ => na - (intOf iv).toNat)
  case atStart => exact ⟨0, 0, none, [], by omega, by omega, rfl, rfl, rfl, (show InN s [] from fun x hx => by cases hx), OwnI.nil _ _, Below.refl _ _⟩
  case round =>
    obtain ⟨i, d, B, F, hin, hi50, rfl, rfl, HFL, INF, OF, HBF⟩ := hrel
    by_cases hl1 : i < na
    · by_cases hl2 : i < 50
      · skip
        have h1 : i < la.length := by rw [HA.out]; exact hl1
        obtain ⟨ad, hA, hc⟩ := (RA.out.below HBF.out) i h1
        subst hA
        obtain ⟨j, hj, _, HBR⟩ := bring_nat la[i] s (IA.out _ (List.getElem_mem h1)).1 (IA.out _ (List.getElem_mem h1)).2 (by omega) (by omega)
        generalize la[i] = z at *
        have N3 := Lib.hid (N2.out.then HBF.out)
        clear h1
        go_wp2_with fail
        refine wp_region_held_drew (S := fun W' => W'.heap[g]? = some (.cells #[.int .i64 (s : Int), .slice A n c, .slice A2 n2 c2] 25 (0, 0)) ∧ W'.cell? (ad.add i) = some (.int .i64 z)) (by kernel_rfl) ⟨N3.out.net, hc⟩ (fun hHeld => ?_)
        have BD := Lib.hid (bl_drewN HBF.out 1)
        have OD := Lib.hid (show OwnI wr.drew w2.heap.size (.slice B i d) F from World.ownsRow.kept OF.out (grown_of_below (Below.drew (Below.refl wr.heap.size wr)) none) (by cases (Value.slice B i d).ownBlock <;> simp))
        clear hc N3 HBF OF
        change Hid (Below w2.heap.size w2 wr.drew) at BD
        generalize wr.drew = wd at *
        try simp only [List.getElem_toArray, List.getElem_cons_zero, List.getElem_cons_succ, Act.put, List.setIfInBounds_toArray, List.set_cons_zero, List.set_cons_succ]
        refine wpAnyH_take (i := 0) (v := ?vzf0) rfl (by kernel_rfl) (by kernel_rfl) (by kernel_rfl) (fun _ _ _ h => h) (Or.inl ⟨by rfl, ?yzf0⟩) hHeld ?rzf0
        case yzf0 => (intro wS hSw; clear hSw; go_simp; try (with_reducible rfl))
        try simp only [List.getElem_toArray, List.getElem_cons_zero, List.getElem_cons_succ, Act.put, List.setIfInBounds_toArray, List.set_cons_zero, List.set_cons_succ]
        refine wpAnyH_take (i := 1) (v := ?vzf1) rfl (by kernel_rfl) (by kernel_rfl) (by kernel_rfl) (fun _ _ _ h => h) (Or.inl ⟨by rfl, ?yzf1⟩) hHeld ?rzf1
        case yzf1 => (intro wS hSw; clear hSw; go_simp; try (with_reducible rfl))
        try simp only [List.getElem_toArray, List.getElem_cons_zero, List.getElem_cons_succ, Act.put, List.setIfInBounds_toArray, List.set_cons_zero, List.set_cons_succ]
        refine wpAnyH_take (i := 2) (v := ?vzf2) rfl (by kernel_rfl) (by kernel_rfl) (by kernel_rfl) (fun _ _ _ h => h) (Or.inl ⟨by rfl, ?yzf2⟩) hHeld ?rzf2
        case yzf2 => (intro wS hSw; clear hSw; go_simp; try (with_reducible rfl))
        try simp only [List.getElem_toArray, List.getElem_cons_zero, List.getElem_cons_succ, Act.put, List.setIfInBounds_toArray, List.set_cons_zero, List.set_cons_succ]
        refine wpAnyH_take (i := 3) (v := ?vzf3) rfl (by kernel_rfl) (by kernel_rfl) (by kernel_rfl) (fun _ _ _ h => h) (Or.inl ⟨by rfl, ?yzf3⟩) hHeld ?rzf3
        case yzf3 => (intro wS hSw; clear hSw; go_simp; try (with_reducible rfl))
        try simp only [List.getElem_toArray, List.getElem_cons_zero, List.getElem_cons_succ, Act.put, List.setIfInBounds_toArray, List.set_cons_zero, List.set_cons_succ]
        refine wpAnyH_take (i := 4) (v := ?vzf4) rfl (by kernel_rfl) (by kernel_rfl) (by kernel_rfl) (fun _ _ _ h => h) (Or.inl ⟨by rfl, ?yzf4⟩) hHeld ?rzf4
        case yzf4 => (intro wS hSw; have q1 := hSw.2; clear hSw; go_simp; try (with_reducible rfl))
        try simp only [List.getElem_toArray, List.getElem_cons_zero, List.getElem_cons_succ, Act.put, List.setIfInBounds_toArray, List.set_cons_zero, List.set_cons_succ]
        refine wpAnyH_take (i := 5) (v := ?vzf5) rfl (by kernel_rfl) (by kernel_rfl) (by kernel_rfl) (fun _ _ _ h => h) (Or.inl ⟨by rfl, ?yzf5⟩) hHeld ?rzf5
        case yzf5 => (intro wS hSw; clear hSw; go_simp; try (with_reducible rfl))
        try simp only [List.getElem_toArray, List.getElem_cons_zero, List.getElem_cons_succ, Act.put, List.setIfInBounds_toArray, List.set_cons_zero, List.set_cons_succ]
        refine wpAnyH_take (i := 6) (v := ?vzf6) rfl (by kernel_rfl) (by kernel_rfl) (by kernel_rfl) (fun _ _ _ h => h) (Or.inl ⟨by rfl, ?yzf6⟩) hHeld ?rzf6
        case yzf6 => (intro wS hSw; have q1 := cell_of_row wS g 0 _ _ _ hSw.1; clear hSw; go_simp; try (with_reducible rfl))
        try simp only [List.getElem_toArray, List.getElem_cons_zero, List.getElem_cons_succ, Act.put, List.setIfInBounds_toArray, List.set_cons_zero, List.set_cons_succ]
        refine wpAnyH_ready (rs := [7]) (by kernel_rfl) (by simp) (AllReadyH.cons rfl (fun K hK => ?_) AllReadyH.nil)
        go_simp
        go_at_call 11
        refine (HBR.out _).mono ?_
        rintro e v1 ⟨rfl, rfl⟩
        go_wp2_with fail
        refine hK.out _ _ hHeld (fun hHeld => ?_)
        clear hK K HBR
        try simp only [List.getElem_toArray, List.getElem_cons_zero, List.getElem_cons_succ, Act.put, List.setIfInBounds_toArray, List.set_cons_zero, List.set_cons_succ]
        refine wpAnyH_ready (rs := [8]) (by kernel_rfl) (by simp) (AllReadyH.cons rfl (fun K hK => ?_) AllReadyH.nil)
        have ka := heap_alloc_new wd (.cells #[.int .i64 (j : Int)] 3)
        have b2 := bl_alloc (Below.refl wd.heap.size wd) (.cells #[.int .i64 (j : Int)] 3)
        have BA := Lib.hid (bl_trans BD.out b2)
        have OA := Lib.hid (show OwnI (wd.alloc (.cells #[.int .i64 (j : Int)] 3)) w2.heap.size (.slice B i d) F from World.ownsRow.alloc OD.out _)
        have hS1 := And.intro ((b2.block g (Array.getElem?_eq_some_iff.1 hHeld.1).1).trans hHeld.1) ((b2.cell (World.block_lt_of_cell? _ _ hHeld.2)).trans hHeld.2)
        go_simp
        refine hK.out _ _ hS1 (fun hHeld => ?_)
        clear hK K hS1 b2 BD OD
        generalize wd.alloc (.cells #[.int .i64 (j : Int)] 3) = we at *
        generalize wd.heap.size = ga at *
        have KA := Lib.hid ka
        clear ka
        try simp only [List.getElem_toArray, List.getElem_cons_zero, List.getElem_cons_succ, Act.put, List.setIfInBounds_toArray, List.set_cons_zero, List.set_cons_succ]
        refine wpAnyH_ready (rs := [9]) (by kernel_rfl) (by simp) (AllReadyH.cons rfl (fun K hK => ?_) AllReadyH.nil)
        rw [if_pos (by rfl)]
        obtain ⟨i0, hi0, hz0, hz1, hz2⟩ := info_parts info_int
        have hfl := HFL.out
        refine wp_append_lies _ _ _ 23 rfl w2.heap.size 3 i0 (.int .i64 0) 1 8 Try.underlying23 hi0 hz0 hz1 hz2 rfl (by omega) (.slice B i d) F.length (F.map nv) rfl OA.out ⟨ga, 0, none⟩ 1 1 [.int .i64 (j : Int)] rfl rfl (fun t u hu => by rw [addr_mk, Nat.zero_add, cell_of_row _ ga t _ _ _ KA.out]; simpa using hu) (by simp [Value.oneCell']) (by omega) (by simp only [maxLen]; omega) (by omega) BA.out.size _ rfl ?_
        intro q cap w3 ho3 hg3 hat3 hlt3
        have B3 := Lib.hid (bl_grown BA.out hg3 (fun i e => (World.ownsRow.lt OA.out i e).1))
        have O3 := Lib.hid (own_more ho3)
        have hgz := HGL.out
        have hS1 := And.intro ((B3.out.block g ((Array.getElem?_eq_some_iff.1 N2.out.net).1)).trans (N2.out.net)) (show w3.cell? (ad.add i) = some (.int .i64 z) from by
          obtain ⟨ad', e', hc'⟩ := (RA.out.below B3.out) i (by rw [HA.out]; exact hl1)
          obtain rfl := Option.some.inj e'
          have h2 := (hg3.cell_far (ad.add i) (World.block_lt_of_cell? _ _ hHeld.2) (fun e => by
            have h3 := (World.ownsRow.lt OA.out _ e.symm).1
            obtain ⟨ad2, e2, hc2⟩ := RA.out i (by rw [HA.out]; exact hl1)
            obtain rfl := Option.some.inj e2
            have h4 := World.block_lt_of_cell? _ _ hc2
            omega))
          exact h2.trans hHeld.2)
        clear hHeld
        refine hK.out _ _ hS1 (fun hHeld => ?_)
        clear hK K hS1 hg3 hat3 hlt3 ho3 hi0 hz0 hz1 hz2 KA OA BA
        try simp only [List.getElem_toArray, List.getElem_cons_zero, List.getElem_cons_succ, Act.put, List.setIfInBounds_toArray, List.set_cons_zero, List.set_cons_succ]
        refine wpAnyH_take (i := 10) (v := ?vzz110) rfl (by kernel_rfl) (by kernel_rfl) (by kernel_rfl) (fun _ _ _ h => h) (Or.inl ⟨by rfl, ?yzz110⟩) hHeld ?rzz110
        case yzz110 => (intro wS hSw; clear hSw; go_simp; try (with_reducible rfl))
        try simp only [List.getElem_toArray, List.getElem_cons_zero, List.getElem_cons_succ, Act.put, List.setIfInBounds_toArray, List.set_cons_zero, List.set_cons_succ]
        refine wpAnyH_done (by kernel_rfl) ?_ _
        go_wp2_with fail
        exact ⟨⟨i + 1, cap, some ⟨q, 0, none⟩, F ++ [j], by omega, by omega, by go_num, by first | rfl | rw [HFL.out], Lib.hid (by rw [List.length_append, List.length_singleton, HFL.out]), in_more INF.out hj, by rw [← HFL.out]; exact O3, B3⟩, by simp [intOf]; omega⟩
      · skip
        obtain ⟨i0, hi0, hz0, hz1, hz2⟩ := info_parts info_int
        have NE := Lib.hid (N2.out.then HBF.out)
        have RBE := Lib.hid (RB.out.below HBF.out)
        have SZE := Lib.hid (show w2.heap.size ≤ wr.heap.size from HBF.out.size)
        obtain ⟨B8, n8, c8, e8, hl8, hc8, hm8, hz8⟩ := OF.out.form
        injection e8 with e81 e82 e83
        subst e81 e82 e83
        have RF := Lib.hid hz8
        have hid : i ≤ d := hc8
        clear hz8 hm8 OF hl8
        go_wp2_with (at_builtin; refine wpList_append_rowsN _ rfl _ _ 23 rfl wr.heap.size 3 i0 (.int .i64 0) 1 8 Try.underlying23 hi0 hz0 hz1 hz2 rfl (by decide) (.slice none 0 0) 0 [] rfl (World.ownsRow_nil _ _ _ _) B i d (F.map nv) rfl (by rw [List.length_map, HFL.out, Nat.mul_one]) (rdz_src RF.out (fun _ => Or.inr trivial)) (nv_one F) (by simp only [maxLen]; omega) (by omega) (Nat.le_refl _) ?_; intro v1 w3 ho3 hg3 hat3)
        have ho4 : OwnI w3 wr.heap.size v1 F := by
          unfold OwnI
          rw [HFL.out]
          rw [Nat.zero_add, List.nil_append] at ho3
          exact ho3
        have OM0 := Lib.hid ho4
        have HB3 := Lib.hid (bl_grown (Below.refl wr.heap.size wr) hg3 (fun i e => by cases e))
        obtain ⟨B3, n3, c3, e3, hl3, _, _, _⟩ := ho4.form
        subst e3
        have HL3 := Lib.hid hl3.out
        generalize wr = wE at *
        clear ho3 ho4 hg3 hat3 hi0 hz0 hz1 hz2 hl3 HBF
        go_wp2_with fail
        go_loopw [8, 10] (fun mv iv wr => ∃ (k m d' : Nat) (B' : Option Addr) (M : List Nat), k ≤ nb ∧ k ≤ 50 ∧ m ≤ i + k ∧ iv = .int .i64 (k : Int) ∧ mv = .slice B' m d' ∧ Hid (M.length = m) ∧ Hid (InN s M) ∧ Hid (∀ x ∈ F, x ∈ M) ∧ Hid (OwnI wr wE.heap.size (.slice B' m d') M) ∧ Hid (Below wE.heap.size wE wr)) (fun _ iv _ => nb - (intOf iv).toNat)
        case atStart => exact ⟨0, n3, c3, B3, F, by omega, by omega, by have h1 := HL3.out; have h2 := HFL.out; omega, rfl, rfl, HL3, INF, fun x hx => hx, OM0, HB3⟩
        case round =>
          obtain ⟨k, m, d', B', M, hkb, hk50, hmk, rfl, rfl, HML, INM, SUB, OM, HBM⟩ := hrel
          clear OM0 HB3 HL3
          by_cases hl1 : k < nb
          · by_cases hl2 : k < 50
            · skip
              have h1 : k < lb.length := by rw [HB.out]; exact hl1
              obtain ⟨ad, hA, hc⟩ := (RBE.out.below HBM.out) k h1
              subst hA
              obtain ⟨j, hj, _, HBR⟩ := bring_nat lb[k] s (IB.out _ (List.getElem_mem h1)).1 (IB.out _ (List.getElem_mem h1)).2 (by omega) (by omega)
              generalize lb[k] = z at *
              have N3 := Lib.hid (NE.out.then HBM.out)
              clear h1
              go_wp2_with fail
              refine wp_region_held_drew (S := fun W' => W'.heap[g]? = some (.cells #[.int .i64 (s : Int), .slice A n c, .slice A2 n2 c2] 25 (0, 0)) ∧ W'.cell? (ad.add k) = some (.int .i64 z)) (by kernel_rfl) ⟨N3.out.net, hc⟩ (fun hHeld => ?_)
              have BD := Lib.hid (bl_drewN HBM.out 1)
              have OD := Lib.hid (show OwnI wr.drew wE.heap.size (.slice B' m d') M from World.ownsRow.kept OM.out (grown_of_below (Below.drew (Below.refl wr.heap.size wr)) none) (by cases (Value.slice B' m d').ownBlock <;> simp))
              clear hc N3 HBM OM
              change Hid (Below wE.heap.size wE wr.drew) at BD
              generalize wr.drew = wd at *
              try simp only [List.getElem_toArray, List.getElem_cons_zero, List.getElem_cons_succ, Act.put, List.setIfInBounds_toArray, List.set_cons_zero, List.set_cons_succ]
              refine wpAnyH_take (i := 0) (v := ?vzm10) rfl (by kernel_rfl) (by kernel_rfl) (by kernel_rfl) (fun _ _ _ h => h) (Or.inl ⟨by rfl, ?yzm10⟩) hHeld ?rzm10
              case yzm10 => (intro wS hSw; clear hSw; go_simp; try (with_reducible rfl))
              try simp only [List.getElem_toArray, List.getElem_cons_zero, List.getElem_cons_succ, Act.put, List.setIfInBounds_toArray, List.set_cons_zero, List.set_cons_succ]
              refine wpAnyH_take (i := 1) (v := ?vzm11) rfl (by kernel_rfl) (by kernel_rfl) (by kernel_rfl) (fun _ _ _ h => h) (Or.inl ⟨by rfl, ?yzm11⟩) hHeld ?rzm11
              case yzm11 => (intro wS hSw; clear hSw; go_simp; try (with_reducible rfl))
              try simp only [List.getElem_toArray, List.getElem_cons_zero, List.getElem_cons_succ, Act.put, List.setIfInBounds_toArray, List.set_cons_zero, List.set_cons_succ]
              refine wpAnyH_take (i := 2) (v := ?vzm12) rfl (by kernel_rfl) (by kernel_rfl) (by kernel_rfl) (fun _ _ _ h => h) (Or.inl ⟨by rfl, ?yzm12⟩) hHeld ?rzm12
              case yzm12 => (intro wS hSw; clear hSw; go_simp; try (with_reducible rfl))
              try simp only [List.getElem_toArray, List.getElem_cons_zero, List.getElem_cons_succ, Act.put, List.setIfInBounds_toArray, List.set_cons_zero, List.set_cons_succ]
              refine wpAnyH_take (i := 3) (v := ?vzm13) rfl (by kernel_rfl) (by kernel_rfl) (by kernel_rfl) (fun _ _ _ h => h) (Or.inl ⟨by rfl, ?yzm13⟩) hHeld ?rzm13
              case yzm13 => (intro wS hSw; clear hSw; go_simp; try (with_reducible rfl))
              try simp only [List.getElem_toArray, List.getElem_cons_zero, List.getElem_cons_succ, Act.put, List.setIfInBounds_toArray, List.set_cons_zero, List.set_cons_succ]
              refine wpAnyH_take (i := 4) (v := ?vzm14) rfl (by kernel_rfl) (by kernel_rfl) (by kernel_rfl) (fun _ _ _ h => h) (Or.inl ⟨by rfl, ?yzm14⟩) hHeld ?rzm14
              case yzm14 => (intro wS hSw; have q1 := hSw.2; clear hSw; go_simp; try (with_reducible rfl))
              try simp only [List.getElem_toArray, List.getElem_cons_zero, List.getElem_cons_succ, Act.put, List.setIfInBounds_toArray, List.set_cons_zero, List.set_cons_succ]
              refine wpAnyH_take (i := 5) (v := ?vzm15) rfl (by kernel_rfl) (by kernel_rfl) (by kernel_rfl) (fun _ _ _ h => h) (Or.inl ⟨by rfl, ?yzm15⟩) hHeld ?rzm15
              case yzm15 => (intro wS hSw; clear hSw; go_simp; try (with_reducible rfl))
              try simp only [List.getElem_toArray, List.getElem_cons_zero, List.getElem_cons_succ, Act.put, List.setIfInBounds_toArray, List.set_cons_zero, List.set_cons_succ]
              refine wpAnyH_take (i := 6) (v := ?vzm16) rfl (by kernel_rfl) (by kernel_rfl) (by kernel_rfl) (fun _ _ _ h => h) (Or.inl ⟨by rfl, ?yzm16⟩) hHeld ?rzm16
              case yzm16 => (intro wS hSw; have q1 := cell_of_row wS g 0 _ _ _ hSw.1; clear hSw; go_simp; try (with_reducible rfl))
              try simp only [List.getElem_toArray, List.getElem_cons_zero, List.getElem_cons_succ, Act.put, List.setIfInBounds_toArray, List.set_cons_zero, List.set_cons_succ]
              refine wpAnyH_ready (rs := [7]) (by kernel_rfl) (by simp) (AllReadyH.cons rfl (fun K hK => ?_) AllReadyH.nil)
              go_simp
              go_at_call 11
              refine (HBR.out _).mono ?_
              rintro e v1 ⟨rfl, rfl⟩
              go_wp2_with fail
              refine hK.out _ _ hHeld (fun hHeld => ?_)
              clear hK K HBR
              try simp only [List.getElem_toArray, List.getElem_cons_zero, List.getElem_cons_succ, Act.put, List.setIfInBounds_toArray, List.set_cons_zero, List.set_cons_succ]
              refine wpAnyH_ready (rs := [8]) (by kernel_rfl) (by simp) (AllReadyH.cons rfl (fun K hK => ?_) AllReadyH.nil)
              have ka := heap_alloc_new wd (.cells #[.int .i64 (j : Int)] 3)
              have b2 := bl_alloc (Below.refl wd.heap.size wd) (.cells #[.int .i64 (j : Int)] 3)
              have BA := Lib.hid (bl_trans BD.out b2)
              have OA := Lib.hid (show OwnI (wd.alloc (.cells #[.int .i64 (j : Int)] 3)) wE.heap.size (.slice B' m d') M from World.ownsRow.alloc OD.out _)
              have hS1 := And.intro ((b2.block g (Array.getElem?_eq_some_iff.1 hHeld.1).1).trans hHeld.1) ((b2.cell (World.block_lt_of_cell? _ _ hHeld.2)).trans hHeld.2)
              go_simp
              refine hK.out _ _ hS1 (fun hHeld => ?_)
              clear hK K hS1 b2 BD OD
              generalize wd.alloc (.cells #[.int .i64 (j : Int)] 3) = we at *
              generalize wd.heap.size = ga at *
              have KA := Lib.hid ka
              clear ka
              try simp only [List.getElem_toArray, List.getElem_cons_zero, List.getElem_cons_succ, Act.put, List.setIfInBounds_toArray, List.set_cons_zero, List.set_cons_succ]
              refine wpAnyH_ready (rs := [9]) (by kernel_rfl) (by simp) (AllReadyH.cons rfl (fun K hK => ?_) AllReadyH.nil)
              rw [if_pos (by rfl)]
              obtain ⟨i0, hi0, hz0, hz1, hz2⟩ := info_parts info_int
              have hfl := HML.out
              refine wp_append_lies _ _ _ 23 rfl wE.heap.size 3 i0 (.int .i64 0) 1 8 Try.underlying23 hi0 hz0 hz1 hz2 rfl (by omega) (.slice B' m d') M.length (M.map nv) rfl OA.out ⟨ga, 0, none⟩ 1 1 [.int .i64 (j : Int)] rfl rfl (fun t u hu => by rw [addr_mk, Nat.zero_add, cell_of_row _ ga t _ _ _ KA.out]; simpa using hu) (by simp [Value.oneCell']) (by omega) (by simp only [maxLen]; omega) (by omega) BA.out.size _ rfl ?_
              intro q cap w3 ho3 hg3 hat3 hlt3
              have B3 := Lib.hid (bl_grown BA.out hg3 (fun i e => (World.ownsRow.lt OA.out i e).1))
              have O3 := Lib.hid (own_more ho3)
              have hgz := HGL.out
              have hS1 := And.intro ((B3.out.block g ((Array.getElem?_eq_some_iff.1 NE.out.net).1)).trans (NE.out.net)) (show w3.cell? (ad.add k) = some (.int .i64 z) from by
                obtain ⟨ad', e', hc'⟩ := (RBE.out.below B3.out) k (by rw [HB.out]; exact hl1)
                obtain rfl := Option.some.inj e'
                have h2 := (hg3.cell_far (ad.add k) (World.block_lt_of_cell? _ _ hHeld.2) (fun e => by
                  have h3 := (World.ownsRow.lt OA.out _ e.symm).1
                  obtain ⟨ad2, e2, hc2⟩ := RBE.out k (by rw [HB.out]; exact hl1)
                  obtain rfl := Option.some.inj e2
                  have h4 := World.block_lt_of_cell? _ _ hc2
                  omega))
                exact h2.trans hHeld.2)
              clear hHeld
              refine hK.out _ _ hS1 (fun hHeld => ?_)
              clear hK K hS1 hg3 hat3 hlt3 ho3 hi0 hz0 hz1 hz2 KA OA BA
              try simp only [List.getElem_toArray, List.getElem_cons_zero, List.getElem_cons_succ, Act.put, List.setIfInBounds_toArray, List.set_cons_zero, List.set_cons_succ]
              refine wpAnyH_take (i := 10) (v := ?vzz210) rfl (by kernel_rfl) (by kernel_rfl) (by kernel_rfl) (fun _ _ _ h => h) (Or.inl ⟨by rfl, ?yzz210⟩) hHeld ?rzz210
              case yzz210 => (intro wS hSw; clear hSw; go_simp; try (with_reducible rfl))
              try simp only [List.getElem_toArray, List.getElem_cons_zero, List.getElem_cons_succ, Act.put, List.setIfInBounds_toArray, List.set_cons_zero, List.set_cons_succ]
              refine wpAnyH_done (by kernel_rfl) ?_ _
              go_wp2_with fail
              exact ⟨⟨k + 1, m + 1, cap, some ⟨q, 0, none⟩, M ++ [j], by omega, by omega, by omega, by go_num, by first | rfl | rw [HML.out], Lib.hid (by rw [List.length_append, List.length_singleton, HML.out]), in_more INM.out hj, fun x hx => List.mem_append_left _ (SUB.out x hx), by rw [← HML.out]; exact O3, B3⟩, by simp [intOf]; omega⟩
            · skip
              have NR := Lib.hid (NE.out.then HBM.out)
              have RF2 := Lib.hid (rdw_z (RF.out.below HBM.out))
              obtain ⟨B8, n8, c8, e8, hl8, hc8, hm8, hz8⟩ := OM.out.form
              injection e8 with e81 e82 e83
              subst e81 e82 e83
              have RM := Lib.hid (rdw_z hz8)
              clear hz8 hc8 hm8 OM hl8
              have CL1 := Lib.hid (close_len s E F)
              have CL2 := Lib.hid (close_len s E M)
              have HX := NR.out.close (zl F) B i d (by rw [zl_len]; exact HFL.out) (by omega) RF2.out
              rw [ask_good HK.out INF.out] at HX
              have HX2 := Lib.hid HX
              have L3 := Lib.hid NR.out.load
              clear HX
              go_wp2_with (refine wpList_load_part 25 3 _ rfl rfl ⟨g, 0, none⟩ rfl [.int .i64 (s : Int), .slice A n c, .slice A2 n2 c2] (agg_net _) (sz_net _) rfl L3.out ?_)
              refine HX2.out.mono ?_
              rintro e w4 ⟨v, rfl, ho, hb⟩
              obtain ⟨A5, n5, c5, rfl, hl5, hc5, hm5, hz⟩ := ho.form
              have N4 := Lib.hid (NR.out.then hb)
              have RF4 := Lib.hid (RF2.out.below hb)
              have RM4 := Lib.hid (RM.out.below hb)
              have X4 := Lib.hid (rdw_z hz)
              have XZ4 := Lib.hid hz
              clear ho hz hb HX2 L3 NR RF2 RM hm5
              dsimp only at hl5 X4 XZ4 ⊢
              have h5 : n5 ≤ 2048 := by have h1 := hl5.out; have h2 := CL1.out; omega
              have HX := N4.out.close (zl (closeL s E F)) A5 n5 c5 (by rw [zl_len]; exact hl5.out) (by omega) X4.out
              rw [ask_good HK.out (close_in s E F)] at HX
              have HX2 := Lib.hid HX
              have L3 := Lib.hid N4.out.load
              clear HX
              go_wp2_with (refine wpList_load_part 25 3 _ rfl rfl ⟨g, 0, none⟩ rfl [.int .i64 (s : Int), .slice A n c, .slice A2 n2 c2] (agg_net _) (sz_net _) rfl L3.out ?_)
              refine HX2.out.mono ?_
              rintro e w5 ⟨v, rfl, ho, hb⟩
              obtain ⟨A6, n6, c6, rfl, hl6, hc6, hm6, hz⟩ := ho.form
              have N5 := Lib.hid (N4.out.then hb)
              have RF5 := Lib.hid (RF4.out.below hb)
              have RM5 := Lib.hid (RM4.out.below hb)
              have X5 := Lib.hid (X4.out.below hb)
              have XZ5 := Lib.hid (XZ4.out.below hb)
              have Y5 := Lib.hid (rdw_z hz)
              clear ho hz hb HX2 L3 N4 RF4 RM4 X4 XZ4 hm6
              dsimp only at hl6 Y5 ⊢
              rw [close_close S4.out s2 INF.out] at hl6 Y5
              have h6 : n6 ≤ 2048 := by have h1 := hl6.out; have h2 := CL1.out; omega
              have HX := N5.out.close (zl M) B' m d' (by rw [zl_len]; exact HML.out) (by omega) RM5.out
              rw [ask_good HK.out INM.out] at HX
              have HX2 := Lib.hid HX
              have L3 := Lib.hid N5.out.load
              clear HX
              go_wp2_with (refine wpList_load_part 25 3 _ rfl rfl ⟨g, 0, none⟩ rfl [.int .i64 (s : Int), .slice A n c, .slice A2 n2 c2] (agg_net _) (sz_net _) rfl L3.out ?_)
              refine HX2.out.mono ?_
              rintro e w6 ⟨v, rfl, ho, hb⟩
              obtain ⟨A7, n7, c7, rfl, hl7, hc7, hm7, hz⟩ := ho.form
              have N6 := Lib.hid (N5.out.then hb)
              have RF6 := Lib.hid (RF5.out.below hb)
              have X6 := Lib.hid (X5.out.below hb)
              have XZ6 := Lib.hid (XZ5.out.below hb)
              have Y6 := Lib.hid (Y5.out.below hb)
              have Z6 := Lib.hid (rdw_z hz)
              have ZZ6 := Lib.hid hz
              clear ho hz hb HX2 L3 N5 RF5 RM5 X5 XZ5 Y5 hm7
              dsimp only at hl7 Z6 ZZ6 ⊢
              have h7 : n7 ≤ 2048 := by have h1 := hl7.out; have h2 := CL2.out; omega
              have q0 := N6.out.q0
              have HC := Lib.hid (rising_yes s (closeL s E F) A5 n5 c5 hl5.out (by omega) (fun i hi => close_in s E F _ (List.getElem_mem hi)) (by omega) (pair_next (rise_pair _ _)) w6 XZ6.out)
              go_wp2_with fail
              refine HC.out.mono ?_
              rintro e w7 ⟨rfl, hb⟩
              have N7 := Lib.hid (N6.out.then hb)
              have RF7 := Lib.hid (RF6.out.below hb)
              have X7 := Lib.hid (X6.out.below hb)
              have Y7 := Lib.hid (Y6.out.below hb)
              have Z7 := Lib.hid (Z6.out.below hb)
              have ZZ7 := Lib.hid (ZZ6.out.below hb)
              clear HC hb q0 N6 RF6 X6 XZ6 Y6 Z6 ZZ6
              have q0 := N7.out.q0
              have HC := Lib.hid (rising_yes s (closeL s E M) A7 n7 c7 hl7.out (by omega) (fun i hi => close_in s E M _ (List.getElem_mem hi)) (by omega) (pair_next (rise_pair _ _)) w7 ZZ7.out)
              go_wp2_with fail
              refine HC.out.mono ?_
              rintro e w8 ⟨rfl, hb⟩
              have N8 := Lib.hid (N7.out.then hb)
              have RF8 := Lib.hid (RF7.out.below hb)
              have X8 := Lib.hid (X7.out.below hb)
              have Y8 := Lib.hid (Y7.out.below hb)
              have Z8 := Lib.hid (Z7.out.below hb)
              clear HC hb q0 N7 RF7 X7 Y7 Z7 ZZ7
              have HC := Lib.hid (show Calls Try.prog 14 #[.slice A5 n5 c5, .slice A6 n6 c6] w8 (GotBl w8 true) from by
                have h := eqInts_any A5 A6 n5 c5 n6 c6 (zl (closeL s E F)) (zl (closeL s E F)) w8 (by rw [zl_len]; exact hl5.out) (by rw [zl_len]; exact hl6.out) X8.out Y8.out (by omega) (by omega)
                rwa [decide_eq_true (show zl (closeL s E F) = zl (closeL s E F) from rfl)] at h)
              go_wp2_with fail
              refine HC.out.mono ?_
              rintro e w9 ⟨rfl, hb⟩
              have N9 := Lib.hid (N8.out.then hb)
              have RF9 := Lib.hid (RF8.out.below hb)
              have X9 := Lib.hid (X8.out.below hb)
              have Z9 := Lib.hid (Z8.out.below hb)
              clear HC hb N8 RF8 X8 Y8 Z8
              have HC := Lib.hid (show Calls Try.prog 15 #[.slice A7 n7 c7, .slice A5 n5 c5] w9 (GotBl w9 true) from by
                have h := lawhas_any (zl (closeL s E M)) (zl (closeL s E F)) A7 A5 n7 c7 n5 c5 (by rw [zl_len]; exact hl7.out) (by rw [zl_len]; exact hl5.out) (by omega) (by omega) (zl_up (rise_pair _ _)) (zl_le (rise_pair _ _)) w9 Z9.out X9.out
                rwa [zl_sub (close_more S4.out s2 INF.out INM.out SUB.out)] at h)
              go_wp2_with fail
              refine HC.out.mono ?_
              rintro e w10 ⟨rfl, hb⟩
              have N10 := Lib.hid (N9.out.then hb)
              have RF10 := Lib.hid (RF9.out.below hb)
              have X10 := Lib.hid (X9.out.below hb)
              clear HC hb N9 RF9 X9 Z9
              go_wp2_with fail
              go_loopw [17] (fun iv wr => ∃ t : Nat, t ≤ i ∧ iv = .int .i64 (t : Int) ∧ Hid (NetB W g (s : Int) E X A A2 n c n2 c2 wr) ∧ Hid (RdW wr B (zl F)) ∧ Hid (RdW wr A5 (zl (closeL s E F)))) (fun iv _ => i - (intOf iv).toNat)
              case atStart => exact ⟨0, Nat.zero_le _, rfl, N10, RF10, X10⟩
              case round =>
                obtain ⟨t, ht, rfl, NT, FT, XT⟩ := hrel
                clear N10 RF10 X10
                by_cases hlt : t < i
                · have ht2 : t < (zl F).length := by rw [zl_len, HFL.out]; exact hlt
                  obtain ⟨A9, hcut9, R9⟩ := cut_one B i d t (zl F) wr (by rw [zl_len]; exact HFL.out) FT.out hlt hid ht2 ((t : Int) + 1) (by omega)
                  have HC := Lib.hid (show Calls Try.prog 15 #[.slice A5 n5 c5, .slice A9 1 (d - t)] wr (GotBl wr true) from by
                    have h := lawhas_any (zl (closeL s E F)) [(zl F)[t]] A5 A9 n5 c5 1 (d - t) (by rw [zl_len]; exact hl5.out) rfl (by omega) (by omega) (zl_up (rise_pair _ _)) (one_up _) wr XT.out R9
                    rwa [zl_has (close_has S4.out s2 INF.out) _ (List.getElem_mem ht2)] at h)
                  have hw1 : IntKind.i64.wrap ((t : Int) + 1) = (t : Int) + 1 := IntWalk.i64_in _ (by omega)
                  clear R9 ht2
                  go_wp2_with fail
                  refine HC.out.mono ?_
                  rintro e w11 ⟨rfl, hb⟩
                  have N11 := Lib.hid (NT.out.then hb)
                  have RF11 := Lib.hid (FT.out.below hb)
                  have X11 := Lib.hid (XT.out.below hb)
                  clear HC hb NT FT XT hcut9
                  go_wp2_with fail
                  exact ⟨⟨t + 1, by omega, by go_num, N11, RF11, X11⟩, by simp [intOf]; omega⟩
                · obtain rfl : t = i := by omega
                  go_wp2_with fail
                  exact post_is HQ ⟨rfl, NT.out.low⟩
          · skip
            have NR := Lib.hid (NE.out.then HBM.out)
            have RF2 := Lib.hid (rdw_z (RF.out.below HBM.out))
            obtain ⟨B8, n8, c8, e8, hl8, hc8, hm8, hz8⟩ := OM.out.form
            injection e8 with e81 e82 e83
            subst e81 e82 e83
            have RM := Lib.hid (rdw_z hz8)
            clear hz8 hc8 hm8 OM hl8
            have CL1 := Lib.hid (close_len s E F)
            have CL2 := Lib.hid (close_len s E M)
            have HX := NR.out.close (zl F) B i d (by rw [zl_len]; exact HFL.out) (by omega) RF2.out
            rw [ask_good HK.out INF.out] at HX
            have HX2 := Lib.hid HX
            have L3 := Lib.hid NR.out.load
            clear HX
            go_wp2_with (refine wpList_load_part 25 3 _ rfl rfl ⟨g, 0, none⟩ rfl [.int .i64 (s : Int), .slice A n c, .slice A2 n2 c2] (agg_net _) (sz_net _) rfl L3.out ?_)
            refine HX2.out.mono ?_
            rintro e w4 ⟨v, rfl, ho, hb⟩
            obtain ⟨A5, n5, c5, rfl, hl5, hc5, hm5, hz⟩ := ho.form
            have N4 := Lib.hid (NR.out.then hb)
            have RF4 := Lib.hid (RF2.out.below hb)
            have RM4 := Lib.hid (RM.out.below hb)
            have X4 := Lib.hid (rdw_z hz)
            have XZ4 := Lib.hid hz
            clear ho hz hb HX2 L3 NR RF2 RM hm5
            dsimp only at hl5 X4 XZ4 ⊢
            have h5 : n5 ≤ 2048 := by have h1 := hl5.out; have h2 := CL1.out; omega
            have HX := N4.out.close (zl (closeL s E F)) A5 n5 c5 (by rw [zl_len]; exact hl5.out) (by omega) X4.out
            rw [ask_good HK.out (close_in s E F)] at HX
            have HX2 := Lib.hid HX
            have L3 := Lib.hid N4.out.load
            clear HX
            go_wp2_with (refine wpList_load_part 25 3 _ rfl rfl ⟨g, 0, none⟩ rfl [.int .i64 (s : Int), .slice A n c, .slice A2 n2 c2] (agg_net _) (sz_net _) rfl L3.out ?_)
            refine HX2.out.mono ?_
            rintro e w5 ⟨v, rfl, ho, hb⟩
            obtain ⟨A6, n6, c6, rfl, hl6, hc6, hm6, hz⟩ := ho.form
            have N5 := Lib.hid (N4.out.then hb)
            have RF5 := Lib.hid (RF4.out.below hb)
            have RM5 := Lib.hid (RM4.out.below hb)
            have X5 := Lib.hid (X4.out.below hb)
            have XZ5 := Lib.hid (XZ4.out.below hb)
            have Y5 := Lib.hid (rdw_z hz)
            clear ho hz hb HX2 L3 N4 RF4 RM4 X4 XZ4 hm6
            dsimp only at hl6 Y5 ⊢
            rw [close_close S4.out s2 INF.out] at hl6 Y5
            have h6 : n6 ≤ 2048 := by have h1 := hl6.out; have h2 := CL1.out; omega
            have HX := N5.out.close (zl M) B' m d' (by rw [zl_len]; exact HML.out) (by omega) RM5.out
            rw [ask_good HK.out INM.out] at HX
            have HX2 := Lib.hid HX
            have L3 := Lib.hid N5.out.load
            clear HX
            go_wp2_with (refine wpList_load_part 25 3 _ rfl rfl ⟨g, 0, none⟩ rfl [.int .i64 (s : Int), .slice A n c, .slice A2 n2 c2] (agg_net _) (sz_net _) rfl L3.out ?_)
            refine HX2.out.mono ?_
            rintro e w6 ⟨v, rfl, ho, hb⟩
            obtain ⟨A7, n7, c7, rfl, hl7, hc7, hm7, hz⟩ := ho.form
            have N6 := Lib.hid (N5.out.then hb)
            have RF6 := Lib.hid (RF5.out.below hb)
            have X6 := Lib.hid (X5.out.below hb)
            have XZ6 := Lib.hid (XZ5.out.below hb)
            have Y6 := Lib.hid (Y5.out.below hb)
            have Z6 := Lib.hid (rdw_z hz)
            have ZZ6 := Lib.hid hz
            clear ho hz hb HX2 L3 N5 RF5 RM5 X5 XZ5 Y5 hm7
            dsimp only at hl7 Z6 ZZ6 ⊢
            have h7 : n7 ≤ 2048 := by have h1 := hl7.out; have h2 := CL2.out; omega
            have q0 := N6.out.q0
            have HC := Lib.hid (rising_yes s (closeL s E F) A5 n5 c5 hl5.out (by omega) (fun i hi => close_in s E F _ (List.getElem_mem hi)) (by omega) (pair_next (rise_pair _ _)) w6 XZ6.out)
            go_wp2_with fail
            refine HC.out.mono ?_
            rintro e w7 ⟨rfl, hb⟩
            have N7 := Lib.hid (N6.out.then hb)
            have RF7 := Lib.hid (RF6.out.below hb)
            have X7 := Lib.hid (X6.out.below hb)
            have Y7 := Lib.hid (Y6.out.below hb)
            have Z7 := Lib.hid (Z6.out.below hb)
            have ZZ7 := Lib.hid (ZZ6.out.below hb)
            clear HC hb q0 N6 RF6 X6 XZ6 Y6 Z6 ZZ6
            have q0 := N7.out.q0
            have HC := Lib.hid (rising_yes s (closeL s E M) A7 n7 c7 hl7.out (by omega) (fun i hi => close_in s E M _ (List.getElem_mem hi)) (by omega) (pair_next (rise_pair _ _)) w7 ZZ7.out)
            go_wp2_with fail
            refine HC.out.mono ?_
            rintro e w8 ⟨rfl, hb⟩
            have N8 := Lib.hid (N7.out.then hb)
            have RF8 := Lib.hid (RF7.out.below hb)
            have X8 := Lib.hid (X7.out.below hb)
            have Y8 := Lib.hid (Y7.out.below hb)
            have Z8 := Lib.hid (Z7.out.below hb)
            clear HC hb q0 N7 RF7 X7 Y7 Z7 ZZ7
            have HC := Lib.hid (show Calls Try.prog 14 #[.slice A5 n5 c5, .slice A6 n6 c6] w8 (GotBl w8 true) from by
              have h := eqInts_any A5 A6 n5 c5 n6 c6 (zl (closeL s E F)) (zl (closeL s E F)) w8 (by rw [zl_len]; exact hl5.out) (by rw [zl_len]; exact hl6.out) X8.out Y8.out (by omega) (by omega)
              rwa [decide_eq_true (show zl (closeL s E F) = zl (closeL s E F) from rfl)] at h)
            go_wp2_with fail
            refine HC.out.mono ?_
            rintro e w9 ⟨rfl, hb⟩
            have N9 := Lib.hid (N8.out.then hb)
            have RF9 := Lib.hid (RF8.out.below hb)
            have X9 := Lib.hid (X8.out.below hb)
            have Z9 := Lib.hid (Z8.out.below hb)
            clear HC hb N8 RF8 X8 Y8 Z8
            have HC := Lib.hid (show Calls Try.prog 15 #[.slice A7 n7 c7, .slice A5 n5 c5] w9 (GotBl w9 true) from by
              have h := lawhas_any (zl (closeL s E M)) (zl (closeL s E F)) A7 A5 n7 c7 n5 c5 (by rw [zl_len]; exact hl7.out) (by rw [zl_len]; exact hl5.out) (by omega) (by omega) (zl_up (rise_pair _ _)) (zl_le (rise_pair _ _)) w9 Z9.out X9.out
              rwa [zl_sub (close_more S4.out s2 INF.out INM.out SUB.out)] at h)
            go_wp2_with fail
            refine HC.out.mono ?_
            rintro e w10 ⟨rfl, hb⟩
            have N10 := Lib.hid (N9.out.then hb)
            have RF10 := Lib.hid (RF9.out.below hb)
            have X10 := Lib.hid (X9.out.below hb)
            clear HC hb N9 RF9 X9 Z9
            go_wp2_with fail
            go_loopw [17] (fun iv wr => ∃ t : Nat, t ≤ i ∧ iv = .int .i64 (t : Int) ∧ Hid (NetB W g (s : Int) E X A A2 n c n2 c2 wr) ∧ Hid (RdW wr B (zl F)) ∧ Hid (RdW wr A5 (zl (closeL s E F)))) (fun iv _ => i - (intOf iv).toNat)
            case atStart => exact ⟨0, Nat.zero_le _, rfl, N10, RF10, X10⟩
            case round =>
              obtain ⟨t, ht, rfl, NT, FT, XT⟩ := hrel
              clear N10 RF10 X10
              by_cases hlt : t < i
              · have ht2 : t < (zl F).length := by rw [zl_len, HFL.out]; exact hlt
                obtain ⟨A9, hcut9, R9⟩ := cut_one B i d t (zl F) wr (by rw [zl_len]; exact HFL.out) FT.out hlt hid ht2 ((t : Int) + 1) (by omega)
                have HC := Lib.hid (show Calls Try.prog 15 #[.slice A5 n5 c5, .slice A9 1 (d - t)] wr (GotBl wr true) from by
                  have h := lawhas_any (zl (closeL s E F)) [(zl F)[t]] A5 A9 n5 c5 1 (d - t) (by rw [zl_len]; exact hl5.out) rfl (by omega) (by omega) (zl_up (rise_pair _ _)) (one_up _) wr XT.out R9
                  rwa [zl_has (close_has S4.out s2 INF.out) _ (List.getElem_mem ht2)] at h)
                have hw1 : IntKind.i64.wrap ((t : Int) + 1) = (t : Int) + 1 := IntWalk.i64_in _ (by omega)
                clear R9 ht2
                go_wp2_with fail
                refine HC.out.mono ?_
                rintro e w11 ⟨rfl, hb⟩
                have N11 := Lib.hid (NT.out.then hb)
                have RF11 := Lib.hid (FT.out.below hb)
                have X11 := Lib.hid (XT.out.below hb)
                clear HC hb NT FT XT hcut9
                go_wp2_with fail
                exact ⟨⟨t + 1, by omega, by go_num, N11, RF11, X11⟩, by simp [intOf]; omega⟩
              · obtain rfl : t = i := by omega
                go_wp2_with fail
                exact post_is HQ ⟨rfl, NT.out.low⟩
    · skip
      obtain ⟨i0, hi0, hz0, hz1, hz2⟩ := info_parts info_int
      have NE := Lib.hid (N2.out.then HBF.out)
      have RBE := Lib.hid (RB.out.below HBF.out)
      have SZE := Lib.hid (show w2.heap.size ≤ wr.heap.size from HBF.out.size)
      obtain ⟨B8, n8, c8, e8, hl8, hc8, hm8, hz8⟩ := OF.out.form
      injection e8 with e81 e82 e83
      subst e81 e82 e83
      have RF := Lib.hid hz8
      have hid : i ≤ d := hc8
      clear hz8 hm8 OF hl8
      go_wp2_with (at_builtin; refine wpList_append_rowsN _ rfl _ _ 23 rfl wr.heap.size 3 i0 (.int .i64 0) 1 8 Try.underlying23 hi0 hz0 hz1 hz2 rfl (by decide) (.slice none 0 0) 0 [] rfl (World.ownsRow_nil _ _ _ _) B i d (F.map nv) rfl (by rw [List.length_map, HFL.out, Nat.mul_one]) (rdz_src RF.out (fun _ => Or.inr trivial)) (nv_one F) (by simp only [maxLen]; omega) (by omega) (Nat.le_refl _) ?_; intro v1 w3 ho3 hg3 hat3)
      have ho4 : OwnI w3 wr.heap.size v1 F := by
        unfold OwnI
        rw [HFL.out]
        rw [Nat.zero_add, List.nil_append] at ho3
        exact ho3
      have OM0 := Lib.hid ho4
      have HB3 := Lib.hid (bl_grown (Below.refl wr.heap.size wr) hg3 (fun i e => by cases e))
      obtain ⟨B3, n3, c3, e3, hl3, _, _, _⟩ := ho4.form
      subst e3
      have HL3 := Lib.hid hl3.out
      generalize wr = wE at *
      clear ho3 ho4 hg3 hat3 hi0 hz0 hz1 hz2 hl3 HBF
      go_wp2_with fail
      go_loopw [8, 10] (fun mv iv wr => ∃ (k m d' : Nat) (B' : Option Addr) (M : List Nat), k ≤ nb ∧ k ≤ 50 ∧ m ≤ i + k ∧ iv = .int .i64 (k : Int) ∧ mv = .slice B' m d' ∧ Hid (M.length = m) ∧ Hid (InN s M) ∧ Hid (∀ x ∈ F, x ∈ M) ∧ Hid (OwnI wr wE.heap.size (.slice B' m d') M) ∧ Hid (Below wE.heap.size wE wr)) (fun _ iv _ => nb - (intOf iv).toNat)
      case atStart => exact ⟨0, n3, c3, B3, F, by omega, by omega, by have h1 := HL3.out; have h2 := HFL.out; omega, rfl, rfl, HL3, INF, fun x hx => hx, OM0, HB3⟩
      case round =>
        obtain ⟨k, m, d', B', M, hkb, hk50, hmk, rfl, rfl, HML, INM, SUB, OM, HBM⟩ := hrel
        clear OM0 HB3 HL3
        by_cases hl1 : k < nb
        · by_cases hl2 : k < 50
          · skip
            have h1 : k < lb.length := by rw [HB.out]; exact hl1
            obtain ⟨ad, hA, hc⟩ := (RBE.out.below HBM.out) k h1
            subst hA
            obtain ⟨j, hj, _, HBR⟩ := bring_nat lb[k] s (IB.out _ (List.getElem_mem h1)).1 (IB.out _ (List.getElem_mem h1)).2 (by omega) (by omega)
            generalize lb[k] = z at *
            have N3 := Lib.hid (NE.out.then HBM.out)
            clear h1
            go_wp2_with fail
            refine wp_region_held_drew (S := fun W' => W'.heap[g]? = some (.cells #[.int .i64 (s : Int), .slice A n c, .slice A2 n2 c2] 25 (0, 0)) ∧ W'.cell? (ad.add k) = some (.int .i64 z)) (by kernel_rfl) ⟨N3.out.net, hc⟩ (fun hHeld => ?_)
            have BD := Lib.hid (bl_drewN HBM.out 1)
            have OD := Lib.hid (show OwnI wr.drew wE.heap.size (.slice B' m d') M from World.ownsRow.kept OM.out (grown_of_below (Below.drew (Below.refl wr.heap.size wr)) none) (by cases (Value.slice B' m d').ownBlock <;> simp))
            clear hc N3 HBM OM
            change Hid (Below wE.heap.size wE wr.drew) at BD
            generalize wr.drew = wd at *
            try simp only [List.getElem_toArray, List.getElem_cons_zero, List.getElem_cons_succ, Act.put, List.setIfInBounds_toArray, List.set_cons_zero, List.set_cons_succ]
            refine wpAnyH_take (i := 0) (v := ?vzm20) rfl (by kernel_rfl) (by kernel_rfl) (by kernel_rfl) (fun _ _ _ h => h) (Or.inl ⟨by rfl, ?yzm20⟩) hHeld ?rzm20
            case yzm20 => (intro wS hSw; clear hSw; go_simp; try (with_reducible rfl))
            try simp only [List.getElem_toArray, List.getElem_cons_zero, List.getElem_cons_succ, Act.put, List.setIfInBounds_toArray, List.set_cons_zero, List.set_cons_succ]
            refine wpAnyH_take (i := 1) (v := ?vzm21) rfl (by kernel_rfl) (by kernel_rfl) (by kernel_rfl) (fun _ _ _ h => h) (Or.inl ⟨by rfl, ?yzm21⟩) hHeld ?rzm21
            case yzm21 => (intro wS hSw; clear hSw; go_simp; try (with_reducible rfl))
            try simp only [List.getElem_toArray, List.getElem_cons_zero, List.getElem_cons_succ, Act.put, List.setIfInBounds_toArray, List.set_cons_zero, List.set_cons_succ]
            refine wpAnyH_take (i := 2) (v := ?vzm22) rfl (by kernel_rfl) (by kernel_rfl) (by kernel_rfl) (fun _ _ _ h => h) (Or.inl ⟨by rfl, ?yzm22⟩) hHeld ?rzm22
            case yzm22 => (intro wS hSw; clear hSw; go_simp; try (with_reducible rfl))
            try simp only [List.getElem_toArray, List.getElem_cons_zero, List.getElem_cons_succ, Act.put, List.setIfInBounds_toArray, List.set_cons_zero, List.set_cons_succ]
            refine wpAnyH_take (i := 3) (v := ?vzm23) rfl (by kernel_rfl) (by kernel_rfl) (by kernel_rfl) (fun _ _ _ h => h) (Or.inl ⟨by rfl, ?yzm23⟩) hHeld ?rzm23
            case yzm23 => (intro wS hSw; clear hSw; go_simp; try (with_reducible rfl))
            try simp only [List.getElem_toArray, List.getElem_cons_zero, List.getElem_cons_succ, Act.put, List.setIfInBounds_toArray, List.set_cons_zero, List.set_cons_succ]
            refine wpAnyH_take (i := 4) (v := ?vzm24) rfl (by kernel_rfl) (by kernel_rfl) (by kernel_rfl) (fun _ _ _ h => h) (Or.inl ⟨by rfl, ?yzm24⟩) hHeld ?rzm24
            case yzm24 => (intro wS hSw; have q1 := hSw.2; clear hSw; go_simp; try (with_reducible rfl))
            try simp only [List.getElem_toArray, List.getElem_cons_zero, List.getElem_cons_succ, Act.put, List.setIfInBounds_toArray, List.set_cons_zero, List.set_cons_succ]
            refine wpAnyH_take (i := 5) (v := ?vzm25) rfl (by kernel_rfl) (by kernel_rfl) (by kernel_rfl) (fun _ _ _ h => h) (Or.inl ⟨by rfl, ?yzm25⟩) hHeld ?rzm25
            case yzm25 => (intro wS hSw; clear hSw; go_simp; try (with_reducible rfl))
            try simp only [List.getElem_toArray, List.getElem_cons_zero, List.getElem_cons_succ, Act.put, List.setIfInBounds_toArray, List.set_cons_zero, List.set_cons_succ]
            refine wpAnyH_take (i := 6) (v := ?vzm26) rfl (by kernel_rfl) (by kernel_rfl) (by kernel_rfl) (fun _ _ _ h => h) (Or.inl ⟨by rfl, ?yzm26⟩) hHeld ?rzm26
            case yzm26 => (intro wS hSw; have q1 := cell_of_row wS g 0 _ _ _ hSw.1; clear hSw; go_simp; try (with_reducible rfl))
            try simp only [List.getElem_toArray, List.getElem_cons_zero, List.getElem_cons_succ, Act.put, List.setIfInBounds_toArray, List.set_cons_zero, List.set_cons_succ]
            refine wpAnyH_ready (rs := [7]) (by kernel_rfl) (by simp) (AllReadyH.cons rfl (fun K hK => ?_) AllReadyH.nil)
            go_simp
            go_at_call 11
            refine (HBR.out _).mono ?_
            rintro e v1 ⟨rfl, rfl⟩
            go_wp2_with fail
            refine hK.out _ _ hHeld (fun hHeld => ?_)
            clear hK K HBR
            try simp only [List.getElem_toArray, List.getElem_cons_zero, List.getElem_cons_succ, Act.put, List.setIfInBounds_toArray, List.set_cons_zero, List.set_cons_succ]
            refine wpAnyH_ready (rs := [8]) (by kernel_rfl) (by simp) (AllReadyH.cons rfl (fun K hK => ?_) AllReadyH.nil)
            have ka := heap_alloc_new wd (.cells #[.int .i64 (j : Int)] 3)
            have b2 := bl_alloc (Below.refl wd.heap.size wd) (.cells #[.int .i64 (j : Int)] 3)
            have BA := Lib.hid (bl_trans BD.out b2)
            have OA := Lib.hid (show OwnI (wd.alloc (.cells #[.int .i64 (j : Int)] 3)) wE.heap.size (.slice B' m d') M from World.ownsRow.alloc OD.out _)
            have hS1 := And.intro ((b2.block g (Array.getElem?_eq_some_iff.1 hHeld.1).1).trans hHeld.1) ((b2.cell (World.block_lt_of_cell? _ _ hHeld.2)).trans hHeld.2)
            go_simp
            refine hK.out _ _ hS1 (fun hHeld => ?_)
            clear hK K hS1 b2 BD OD
            generalize wd.alloc (.cells #[.int .i64 (j : Int)] 3) = we at *
            generalize wd.heap.size = ga at *
            have KA := Lib.hid ka
            clear ka
            try simp only [List.getElem_toArray, List.getElem_cons_zero, List.getElem_cons_succ, Act.put, List.setIfInBounds_toArray, List.set_cons_zero, List.set_cons_succ]
            refine wpAnyH_ready (rs := [9]) (by kernel_rfl) (by simp) (AllReadyH.cons rfl (fun K hK => ?_) AllReadyH.nil)
            rw [if_pos (by rfl)]
            obtain ⟨i0, hi0, hz0, hz1, hz2⟩ := info_parts info_int
            have hfl := HML.out
            refine wp_append_lies _ _ _ 23 rfl wE.heap.size 3 i0 (.int .i64 0) 1 8 Try.underlying23 hi0 hz0 hz1 hz2 rfl (by omega) (.slice B' m d') M.length (M.map nv) rfl OA.out ⟨ga, 0, none⟩ 1 1 [.int .i64 (j : Int)] rfl rfl (fun t u hu => by rw [addr_mk, Nat.zero_add, cell_of_row _ ga t _ _ _ KA.out]; simpa using hu) (by simp [Value.oneCell']) (by omega) (by simp only [maxLen]; omega) (by omega) BA.out.size _ rfl ?_
            intro q cap w3 ho3 hg3 hat3 hlt3
            have B3 := Lib.hid (bl_grown BA.out hg3 (fun i e => (World.ownsRow.lt OA.out i e).1))
            have O3 := Lib.hid (own_more ho3)
            have hgz := HGL.out
            have hS1 := And.intro ((B3.out.block g ((Array.getElem?_eq_some_iff.1 NE.out.net).1)).trans (NE.out.net)) (show w3.cell? (ad.add k) = some (.int .i64 z) from by
              obtain ⟨ad', e', hc'⟩ := (RBE.out.below B3.out) k (by rw [HB.out]; exact hl1)
              obtain rfl := Option.some.inj e'
              have h2 := (hg3.cell_far (ad.add k) (World.block_lt_of_cell? _ _ hHeld.2) (fun e => by
                have h3 := (World.ownsRow.lt OA.out _ e.symm).1
                obtain ⟨ad2, e2, hc2⟩ := RBE.out k (by rw [HB.out]; exact hl1)
                obtain rfl := Option.some.inj e2
                have h4 := World.block_lt_of_cell? _ _ hc2
                omega))
              exact h2.trans hHeld.2)
            clear hHeld
            refine hK.out _ _ hS1 (fun hHeld => ?_)
            clear hK K hS1 hg3 hat3 hlt3 ho3 hi0 hz0 hz1 hz2 KA OA BA
            try simp only [List.getElem_toArray, List.getElem_cons_zero, List.getElem_cons_succ, Act.put, List.setIfInBounds_toArray, List.set_cons_zero, List.set_cons_succ]
            refine wpAnyH_take (i := 10) (v := ?vzz310) rfl (by kernel_rfl) (by kernel_rfl) (by kernel_rfl) (fun _ _ _ h => h) (Or.inl ⟨by rfl, ?yzz310⟩) hHeld ?rzz310
            case yzz310 => (intro wS hSw; clear hSw; go_simp; try (with_reducible rfl))
            try simp only [List.getElem_toArray, List.getElem_cons_zero, List.getElem_cons_succ, Act.put, List.setIfInBounds_toArray, List.set_cons_zero, List.set_cons_succ]
            refine wpAnyH_done (by kernel_rfl) ?_ _
            go_wp2_with fail
            exact ⟨⟨k + 1, m + 1, cap, some ⟨q, 0, none⟩, M ++ [j], by omega, by omega, by omega, by go_num, by first | rfl | rw [HML.out], Lib.hid (by rw [List.length_append, List.length_singleton, HML.out]), in_more INM.out hj, fun x hx => List.mem_append_left _ (SUB.out x hx), by rw [← HML.out]; exact O3, B3⟩, by simp [intOf]; omega⟩
          · skip
            have NR := Lib.hid (NE.out.then HBM.out)
            have RF2 := Lib.hid (rdw_z (RF.out.below HBM.out))
            obtain ⟨B8, n8, c8, e8, hl8, hc8, hm8, hz8⟩ := OM.out.form
            injection e8 with e81 e82 e83
            subst e81 e82 e83
            have RM := Lib.hid (rdw_z hz8)
            clear hz8 hc8 hm8 OM hl8
            have CL1 := Lib.hid (close_len s E F)
            have CL2 := Lib.hid (close_len s E M)
            have HX := NR.out.close (zl F) B i d (by rw [zl_len]; exact HFL.out) (by omega) RF2.out
            rw [ask_good HK.out INF.out] at HX
            have HX2 := Lib.hid HX
            have L3 := Lib.hid NR.out.load
            clear HX
            go_wp2_with (refine wpList_load_part 25 3 _ rfl rfl ⟨g, 0, none⟩ rfl [.int .i64 (s : Int), .slice A n c, .slice A2 n2 c2] (agg_net _) (sz_net _) rfl L3.out ?_)
            refine HX2.out.mono ?_
            rintro e w4 ⟨v, rfl, ho, hb⟩
            obtain ⟨A5, n5, c5, rfl, hl5, hc5, hm5, hz⟩ := ho.form
            have N4 := Lib.hid (NR.out.then hb)
            have RF4 := Lib.hid (RF2.out.below hb)
            have RM4 := Lib.hid (RM.out.below hb)
            have X4 := Lib.hid (rdw_z hz)
            have XZ4 := Lib.hid hz
            clear ho hz hb HX2 L3 NR RF2 RM hm5
            dsimp only at hl5 X4 XZ4 ⊢
            have h5 : n5 ≤ 2048 := by have h1 := hl5.out; have h2 := CL1.out; omega
            have HX := N4.out.close (zl (closeL s E F)) A5 n5 c5 (by rw [zl_len]; exact hl5.out) (by omega) X4.out
            rw [ask_good HK.out (close_in s E F)] at HX
            have HX2 := Lib.hid HX
            have L3 := Lib.hid N4.out.load
            clear HX
            go_wp2_with (refine wpList_load_part 25 3 _ rfl rfl ⟨g, 0, none⟩ rfl [.int .i64 (s : Int), .slice A n c, .slice A2 n2 c2] (agg_net _) (sz_net _) rfl L3.out ?_)
            refine HX2.out.mono ?_
            rintro e w5 ⟨v, rfl, ho, hb⟩
            obtain ⟨A6, n6, c6, rfl, hl6, hc6, hm6, hz⟩ := ho.form
            have N5 := Lib.hid (N4.out.then hb)
            have RF5 := Lib.hid (RF4.out.below hb)
            have RM5 := Lib.hid (RM4.out.below hb)
            have X5 := Lib.hid (X4.out.below hb)
            have XZ5 := Lib.hid (XZ4.out.below hb)
            have Y5 := Lib.hid (rdw_z hz)
            clear ho hz hb HX2 L3 N4 RF4 RM4 X4 XZ4 hm6
            dsimp only at hl6 Y5 ⊢
            rw [close_close S4.out s2 INF.out] at hl6 Y5
            have h6 : n6 ≤ 2048 := by have h1 := hl6.out; have h2 := CL1.out; omega
            have HX := N5.out.close (zl M) B' m d' (by rw [zl_len]; exact HML.out) (by omega) RM5.out
            rw [ask_good HK.out INM.out] at HX
            have HX2 := Lib.hid HX
            have L3 := Lib.hid N5.out.load
            clear HX
            go_wp2_with (refine wpList_load_part 25 3 _ rfl rfl ⟨g, 0, none⟩ rfl [.int .i64 (s : Int), .slice A n c, .slice A2 n2 c2] (agg_net _) (sz_net _) rfl L3.out ?_)
            refine HX2.out.mono ?_
            rintro e w6 ⟨v, rfl, ho, hb⟩
            obtain ⟨A7, n7, c7, rfl, hl7, hc7, hm7, hz⟩ := ho.form
            have N6 := Lib.hid (N5.out.then hb)
            have RF6 := Lib.hid (RF5.out.below hb)
            have X6 := Lib.hid (X5.out.below hb)
            have XZ6 := Lib.hid (XZ5.out.below hb)
            have Y6 := Lib.hid (Y5.out.below hb)
            have Z6 := Lib.hid (rdw_z hz)
            have ZZ6 := Lib.hid hz
            clear ho hz hb HX2 L3 N5 RF5 RM5 X5 XZ5 Y5 hm7
            dsimp only at hl7 Z6 ZZ6 ⊢
            have h7 : n7 ≤ 2048 := by have h1 := hl7.out; have h2 := CL2.out; omega
            have q0 := N6.out.q0
            have HC := Lib.hid (rising_yes s (closeL s E F) A5 n5 c5 hl5.out (by omega) (fun i hi => close_in s E F _ (List.getElem_mem hi)) (by omega) (pair_next (rise_pair _ _)) w6 XZ6.out)
            go_wp2_with fail
            refine HC.out.mono ?_
            rintro e w7 ⟨rfl, hb⟩
            have N7 := Lib.hid (N6.out.then hb)
            have RF7 := Lib.hid (RF6.out.below hb)
            have X7 := Lib.hid (X6.out.below hb)
            have Y7 := Lib.hid (Y6.out.below hb)
            have Z7 := Lib.hid (Z6.out.below hb)
            have ZZ7 := Lib.hid (ZZ6.out.below hb)
            clear HC hb q0 N6 RF6 X6 XZ6 Y6 Z6 ZZ6
            have q0 := N7.out.q0
            have HC := Lib.hid (rising_yes s (closeL s E M) A7 n7 c7 hl7.out (by omega) (fun i hi => close_in s E M _ (List.getElem_mem hi)) (by omega) (pair_next (rise_pair _ _)) w7 ZZ7.out)
            go_wp2_with fail
            refine HC.out.mono ?_
            rintro e w8 ⟨rfl, hb⟩
            have N8 := Lib.hid (N7.out.then hb)
            have RF8 := Lib.hid (RF7.out.below hb)
            have X8 := Lib.hid (X7.out.below hb)
            have Y8 := Lib.hid (Y7.out.below hb)
            have Z8 := Lib.hid (Z7.out.below hb)
            clear HC hb q0 N7 RF7 X7 Y7 Z7 ZZ7
            have HC := Lib.hid (show Calls Try.prog 14 #[.slice A5 n5 c5, .slice A6 n6 c6] w8 (GotBl w8 true) from by
              have h := eqInts_any A5 A6 n5 c5 n6 c6 (zl (closeL s E F)) (zl (closeL s E F)) w8 (by rw [zl_len]; exact hl5.out) (by rw [zl_len]; exact hl6.out) X8.out Y8.out (by omega) (by omega)
              rwa [decide_eq_true (show zl (closeL s E F) = zl (closeL s E F) from rfl)] at h)
            go_wp2_with fail
            refine HC.out.mono ?_
            rintro e w9 ⟨rfl, hb⟩
            have N9 := Lib.hid (N8.out.then hb)
            have RF9 := Lib.hid (RF8.out.below hb)
            have X9 := Lib.hid (X8.out.below hb)
            have Z9 := Lib.hid (Z8.out.below hb)
            clear HC hb N8 RF8 X8 Y8 Z8
            have HC := Lib.hid (show Calls Try.prog 15 #[.slice A7 n7 c7, .slice A5 n5 c5] w9 (GotBl w9 true) from by
              have h := lawhas_any (zl (closeL s E M)) (zl (closeL s E F)) A7 A5 n7 c7 n5 c5 (by rw [zl_len]; exact hl7.out) (by rw [zl_len]; exact hl5.out) (by omega) (by omega) (zl_up (rise_pair _ _)) (zl_le (rise_pair _ _)) w9 Z9.out X9.out
              rwa [zl_sub (close_more S4.out s2 INF.out INM.out SUB.out)] at h)
            go_wp2_with fail
            refine HC.out.mono ?_
            rintro e w10 ⟨rfl, hb⟩
            have N10 := Lib.hid (N9.out.then hb)
            have RF10 := Lib.hid (RF9.out.below hb)
            have X10 := Lib.hid (X9.out.below hb)
            clear HC hb N9 RF9 X9 Z9
            go_wp2_with fail
            go_loopw [17] (fun iv wr => ∃ t : Nat, t ≤ i ∧ iv = .int .i64 (t : Int) ∧ Hid (NetB W g (s : Int) E X A A2 n c n2 c2 wr) ∧ Hid (RdW wr B (zl F)) ∧ Hid (RdW wr A5 (zl (closeL s E F)))) (fun iv _ => i - (intOf iv).toNat)
            case atStart => exact ⟨0, Nat.zero_le _, rfl, N10, RF10, X10⟩
            case round =>
              obtain ⟨t, ht, rfl, NT, FT, XT⟩ := hrel
              clear N10 RF10 X10
              by_cases hlt : t < i
              · have ht2 : t < (zl F).length := by rw [zl_len, HFL.out]; exact hlt
                obtain ⟨A9, hcut9, R9⟩ := cut_one B i d t (zl F) wr (by rw [zl_len]; exact HFL.out) FT.out hlt hid ht2 ((t : Int) + 1) (by omega)
                have HC := Lib.hid (show Calls Try.prog 15 #[.slice A5 n5 c5, .slice A9 1 (d - t)] wr (GotBl wr true) from by
                  have h := lawhas_any (zl (closeL s E F)) [(zl F)[t]] A5 A9 n5 c5 1 (d - t) (by rw [zl_len]; exact hl5.out) rfl (by omega) (by omega) (zl_up (rise_pair _ _)) (one_up _) wr XT.out R9
                  rwa [zl_has (close_has S4.out s2 INF.out) _ (List.getElem_mem ht2)] at h)
                have hw1 : IntKind.i64.wrap ((t : Int) + 1) = (t : Int) + 1 := IntWalk.i64_in _ (by omega)
                clear R9 ht2
                go_wp2_with fail
                refine HC.out.mono ?_
                rintro e w11 ⟨rfl, hb⟩
                have N11 := Lib.hid (NT.out.then hb)
                have RF11 := Lib.hid (FT.out.below hb)
                have X11 := Lib.hid (XT.out.below hb)
                clear HC hb NT FT XT hcut9
                go_wp2_with fail
                exact ⟨⟨t + 1, by omega, by go_num, N11, RF11, X11⟩, by simp [intOf]; omega⟩
              · obtain rfl : t = i := by omega
                go_wp2_with fail
                exact post_is HQ ⟨rfl, NT.out.low⟩
        · skip
          have NR := Lib.hid (NE.out.then HBM.out)
          have RF2 := Lib.hid (rdw_z (RF.out.below HBM.out))
          obtain ⟨B8, n8, c8, e8, hl8, hc8, hm8, hz8⟩ := OM.out.form
          injection e8 with e81 e82 e83
          subst e81 e82 e83
          have RM := Lib.hid (rdw_z hz8)
          clear hz8 hc8 hm8 OM hl8
          have CL1 := Lib.hid (close_len s E F)
          have CL2 := Lib.hid (close_len s E M)
          have HX := NR.out.close (zl F) B i d (by rw [zl_len]; exact HFL.out) (by omega) RF2.out
          rw [ask_good HK.out INF.out] at HX
          have HX2 := Lib.hid HX
          have L3 := Lib.hid NR.out.load
          clear HX
          go_wp2_with (refine wpList_load_part 25 3 _ rfl rfl ⟨g, 0, none⟩ rfl [.int .i64 (s : Int), .slice A n c, .slice A2 n2 c2] (agg_net _) (sz_net _) rfl L3.out ?_)
          refine HX2.out.mono ?_
          rintro e w4 ⟨v, rfl, ho, hb⟩
          obtain ⟨A5, n5, c5, rfl, hl5, hc5, hm5, hz⟩ := ho.form
          have N4 := Lib.hid (NR.out.then hb)
          have RF4 := Lib.hid (RF2.out.below hb)
          have RM4 := Lib.hid (RM.out.below hb)
          have X4 := Lib.hid (rdw_z hz)
          have XZ4 := Lib.hid hz
          clear ho hz hb HX2 L3 NR RF2 RM hm5
          dsimp only at hl5 X4 XZ4 ⊢
          have h5 : n5 ≤ 2048 := by have h1 := hl5.out; have h2 := CL1.out; omega
          have HX := N4.out.close (zl (closeL s E F)) A5 n5 c5 (by rw [zl_len]; exact hl5.out) (by omega) X4.out
          rw [ask_good HK.out (close_in s E F)] at HX
          have HX2 := Lib.hid HX
          have L3 := Lib.hid N4.out.load
          clear HX
          go_wp2_with (refine wpList_load_part 25 3 _ rfl rfl ⟨g, 0, none⟩ rfl [.int .i64 (s : Int), .slice A n c, .slice A2 n2 c2] (agg_net _) (sz_net _) rfl L3.out ?_)
          refine HX2.out.mono ?_
          rintro e w5 ⟨v, rfl, ho, hb⟩
          obtain ⟨A6, n6, c6, rfl, hl6, hc6, hm6, hz⟩ := ho.form
          have N5 := Lib.hid (N4.out.then hb)
          have RF5 := Lib.hid (RF4.out.below hb)
          have RM5 := Lib.hid (RM4.out.below hb)
          have X5 := Lib.hid (X4.out.below hb)
          have XZ5 := Lib.hid (XZ4.out.below hb)
          have Y5 := Lib.hid (rdw_z hz)
          clear ho hz hb HX2 L3 N4 RF4 RM4 X4 XZ4 hm6
          dsimp only at hl6 Y5 ⊢
          rw [close_close S4.out s2 INF.out] at hl6 Y5
          have h6 : n6 ≤ 2048 := by have h1 := hl6.out; have h2 := CL1.out; omega
          have HX := N5.out.close (zl M) B' m d' (by rw [zl_len]; exact HML.out) (by omega) RM5.out
          rw [ask_good HK.out INM.out] at HX
          have HX2 := Lib.hid HX
          have L3 := Lib.hid N5.out.load
          clear HX
          go_wp2_with (refine wpList_load_part 25 3 _ rfl rfl ⟨g, 0, none⟩ rfl [.int .i64 (s : Int), .slice A n c, .slice A2 n2 c2] (agg_net _) (sz_net _) rfl L3.out ?_)
          refine HX2.out.mono ?_
          rintro e w6 ⟨v, rfl, ho, hb⟩
          obtain ⟨A7, n7, c7, rfl, hl7, hc7, hm7, hz⟩ := ho.form
          have N6 := Lib.hid (N5.out.then hb)
          have RF6 := Lib.hid (RF5.out.below hb)
          have X6 := Lib.hid (X5.out.below hb)
          have XZ6 := Lib.hid (XZ5.out.below hb)
          have Y6 := Lib.hid (Y5.out.below hb)
          have Z6 := Lib.hid (rdw_z hz)
          have ZZ6 := Lib.hid hz
          clear ho hz hb HX2 L3 N5 RF5 RM5 X5 XZ5 Y5 hm7
          dsimp only at hl7 Z6 ZZ6 ⊢
          have h7 : n7 ≤ 2048 := by have h1 := hl7.out; have h2 := CL2.out; omega
          have q0 := N6.out.q0
          have HC := Lib.hid (rising_yes s (closeL s E F) A5 n5 c5 hl5.out (by omega) (fun i hi => close_in s E F _ (List.getElem_mem hi)) (by omega) (pair_next (rise_pair _ _)) w6 XZ6.out)
          go_wp2_with fail
          refine HC.out.mono ?_
          rintro e w7 ⟨rfl, hb⟩
          have N7 := Lib.hid (N6.out.then hb)
          have RF7 := Lib.hid (RF6.out.below hb)
          have X7 := Lib.hid (X6.out.below hb)
          have Y7 := Lib.hid (Y6.out.below hb)
          have Z7 := Lib.hid (Z6.out.below hb)
          have ZZ7 := Lib.hid (ZZ6.out.below hb)
          clear HC hb q0 N6 RF6 X6 XZ6 Y6 Z6 ZZ6
          have q0 := N7.out.q0
          have HC := Lib.hid (rising_yes s (closeL s E M) A7 n7 c7 hl7.out (by omega) (fun i hi => close_in s E M _ (List.getElem_mem hi)) (by omega) (pair_next (rise_pair _ _)) w7 ZZ7.out)
          go_wp2_with fail
          refine HC.out.mono ?_
          rintro e w8 ⟨rfl, hb⟩
          have N8 := Lib.hid (N7.out.then hb)
          have RF8 := Lib.hid (RF7.out.below hb)
          have X8 := Lib.hid (X7.out.below hb)
          have Y8 := Lib.hid (Y7.out.below hb)
          have Z8 := Lib.hid (Z7.out.below hb)
          clear HC hb q0 N7 RF7 X7 Y7 Z7 ZZ7
          have HC := Lib.hid (show Calls Try.prog 14 #[.slice A5 n5 c5, .slice A6 n6 c6] w8 (GotBl w8 true) from by
            have h := eqInts_any A5 A6 n5 c5 n6 c6 (zl (closeL s E F)) (zl (closeL s E F)) w8 (by rw [zl_len]; exact hl5.out) (by rw [zl_len]; exact hl6.out) X8.out Y8.out (by omega) (by omega)
            rwa [decide_eq_true (show zl (closeL s E F) = zl (closeL s E F) from rfl)] at h)
          go_wp2_with fail
          refine HC.out.mono ?_
          rintro e w9 ⟨rfl, hb⟩
          have N9 := Lib.hid (N8.out.then hb)
          have RF9 := Lib.hid (RF8.out.below hb)
          have X9 := Lib.hid (X8.out.below hb)
          have Z9 := Lib.hid (Z8.out.below hb)
          clear HC hb N8 RF8 X8 Y8 Z8
          have HC := Lib.hid (show Calls Try.prog 15 #[.slice A7 n7 c7, .slice A5 n5 c5] w9 (GotBl w9 true) from by
            have h := lawhas_any (zl (closeL s E M)) (zl (closeL s E F)) A7 A5 n7 c7 n5 c5 (by rw [zl_len]; exact hl7.out) (by rw [zl_len]; exact hl5.out) (by omega) (by omega) (zl_up (rise_pair _ _)) (zl_le (rise_pair _ _)) w9 Z9.out X9.out
            rwa [zl_sub (close_more S4.out s2 INF.out INM.out SUB.out)] at h)
          go_wp2_with fail
          refine HC.out.mono ?_
          rintro e w10 ⟨rfl, hb⟩
          have N10 := Lib.hid (N9.out.then hb)
          have RF10 := Lib.hid (RF9.out.below hb)
          have X10 := Lib.hid (X9.out.below hb)
          clear HC hb N9 RF9 X9 Z9
          go_wp2_with fail
          go_loopw [17] (fun iv wr => ∃ t : Nat, t ≤ i ∧ iv = .int .i64 (t : Int) ∧ Hid (NetB W g (s : Int) E X A A2 n c n2 c2 wr) ∧ Hid (RdW wr B (zl F)) ∧ Hid (RdW wr A5 (zl (closeL s E F)))) (fun iv _ => i - (intOf iv).toNat)
          case atStart => exact ⟨0, Nat.zero_le _, rfl, N10, RF10, X10⟩
          case round =>
            obtain ⟨t, ht, rfl, NT, FT, XT⟩ := hrel
            clear N10 RF10 X10
            by_cases hlt : t < i
            · have ht2 : t < (zl F).length := by rw [zl_len, HFL.out]; exact hlt
              obtain ⟨A9, hcut9, R9⟩ := cut_one B i d t (zl F) wr (by rw [zl_len]; exact HFL.out) FT.out hlt hid ht2 ((t : Int) + 1) (by omega)
              have HC := Lib.hid (show Calls Try.prog 15 #[.slice A5 n5 c5, .slice A9 1 (d - t)] wr (GotBl wr true) from by
                have h := lawhas_any (zl (closeL s E F)) [(zl F)[t]] A5 A9 n5 c5 1 (d - t) (by rw [zl_len]; exact hl5.out) rfl (by omega) (by omega) (zl_up (rise_pair _ _)) (one_up _) wr XT.out R9
                rwa [zl_has (close_has S4.out s2 INF.out) _ (List.getElem_mem ht2)] at h)
              have hw1 : IntKind.i64.wrap ((t : Int) + 1) = (t : Int) + 1 := IntWalk.i64_in _ (by omega)
              clear R9 ht2
              go_wp2_with fail
              refine HC.out.mono ?_
              rintro e w11 ⟨rfl, hb⟩
              have N11 := Lib.hid (NT.out.then hb)
              have RF11 := Lib.hid (FT.out.below hb)
              have X11 := Lib.hid (XT.out.below hb)
              clear HC hb NT FT XT hcut9
              go_wp2_with fail
              exact ⟨⟨t + 1, by omega, by go_num, N11, RF11, X11⟩, by simp [intOf]; omega⟩
            · obtain rfl : t = i := by omega
              go_wp2_with fail
              exact post_is HQ ⟨rfl, NT.out.low⟩

end Go.Proofs.Ytjibfffefppniaa
