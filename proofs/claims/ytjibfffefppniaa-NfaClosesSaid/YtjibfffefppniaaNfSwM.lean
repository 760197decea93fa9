/- The law on steps: the walk. -/
import Derived.Test.YtjibfffefppniaaNfCmM
set_option linter.unusedVariables false
set_option linter.unusedSimpArgs false
namespace Go.Proofs.Ytjibfffefppniaa
open Go.RowKit
attribute [local go_sem] Oper.semAt_some

theorem zl_len (l : List Nat) : (zl l).length = l.length := by unfold zl; rw [List.length_map]
theorem isin_all (l : List Nat) (x : Int) : decide (∀ y ∈ [x], y ∈ zl l) = isIn l x := by
  unfold isIn
  rw [Bool.eq_iff_iff, decide_eq_true_iff, List.contains_iff_mem]
  simp
theorem zl_up {l : List Nat} (h : l.Pairwise (· < ·)) : ∀ i j (hi : i < (zl l).length) (hj : j < (zl l).length), i < j → (zl l)[i] < (zl l)[j] := fun i j hi hj hij => by
  unfold zl at *
  rw [List.getElem_map, List.getElem_map]
  have := List.pairwise_iff_getElem.1 h i j (by simpa using hi) (by simpa using hj) hij
  omega
theorem pair_next {l : List Nat} (h : l.Pairwise (· < ·)) : ∀ i (h : i + 1 < l.length), l[i]'(Nat.lt_of_succ_lt h) < l[i + 1]'h := fun i hi =>
  List.pairwise_iff_getElem.1 h i (i + 1) (Nat.lt_of_succ_lt hi) hi (Nat.lt_succ_self i)
theorem now_pair (S : Nat) (E : List Ed) (ts : List UInt8) : (nowL S E ts).Pairwise (· < ·) := by
  unfold nowL
  rcases List.eq_nil_or_concat ts with rfl | ⟨l, c, rfl⟩
  · exact rise_pair _ _
  · rw [List.concat_eq_append, List.foldl_append]
    exact rise_pair _ _
theorem one_up (x : Int) : ∀ i j (hi : i < [x].length) (hj : j < [x].length), i ≤ j → [x][i] ≤ [x][j] := fun i j hi hj _ => by
  have h1 : i = 0 := by simpa using hi
  have h2 : j = 0 := by simpa using hj
  subst h1 h2
  exact Int.le_refl _
set_option maxHeartbeats 8000000 in
set_option maxRecDepth 20000 in
theorem stepwise_walk (S : Int) (A A2 At : Option Addr) (n c n2 c2 nt ct : Nat) (E : List Ed) (X : List Int) (T : List UInt8) (W : World) (he : E.length = n ∧ n ≤ c ∧ c * 56 ≤ 140737488351232 ∧ RdE W A E) (hx : X.length = n2 ∧ n2 ≤ c2 ∧ c2 * 8 ≤ 140737488351232 ∧ RdW W A2 X) (ht : T.length = nt) (htc : nt ≤ ct) (hct : ct ≤ 140737488351232) (rt : Rd W At T) :
    Calls Try.prog 5 #[.agg #[.int .i64 S, .slice A n c, .slice A2 n2 c2], .slice At nt ct] W (Yes W) := by
  generalize hQ : Yes W = Q
  have HQ := Lib.hid hQ
  have b0 := bl_alloc (Below.refl W.heap.size W) (.cells #[.int .i64 S, .slice A n c, .slice A2 n2 c2] 25)
  obtain ⟨he1, he2, he3, he4⟩ := he
  obtain ⟨hx1, hx2, hx3, hx4⟩ := hx
  have N0 := Lib.hid (show NetB W W.heap.size S E X A A2 n c n2 c2 (W.alloc (.cells #[.int .i64 S, .slice A n c, .slice A2 n2 c2] 25)) from ⟨heap_alloc_new W _, he4.below b0, hx4.below b0, b0, he1, hx1, he2, hx2, by omega, by omega⟩)
  have R0 := Lib.hid (rt.below b0)
  have HT := Lib.hid ht
  clear hQ b0 he1 he4 hx1 hx4 rt ht
  go_enter Try.func5, Try.ntmps5
  go_wp2_with fail
  generalize W.alloc (.cells #[.int .i64 S, .slice A n c, .slice A2 n2 c2] 25) = w0 at *
  generalize W.heap.size = g at *
  refine (works_any _).mono ?_
  rintro e w1 ⟨rfl, hb1⟩
  have N1 := Lib.hid (N0.out.then hb1)
  have R1 := Lib.hid (R0.out.below hb1)
  clear hb1 N0 R0
  have L1 := Lib.hid N1.out.load
  have HK := Lib.hid N1.out.check
  go_wp2_with (refine wpList_load_part 25 3 _ rfl rfl ⟨g, 0, none⟩ rfl [.int .i64 S, .slice A n c, .slice A2 n2 c2] (agg_net _) (sz_net _) rfl L1.out ?_)
  refine HK.out.mono ?_
  rintro e w2 ⟨rfl, hb2⟩
  have N2 := Lib.hid (N1.out.then hb2)
  have R2 := Lib.hid (R1.out.below hb2)
  clear hb2 N1 R1 L1 HK
  by_cases hk : ¬ checkN S E X = 0
  · generalize checkN S E X = k at *
    have h' : ((k : Int) != 0) = true := by simp; omega
    go_wp2_with fail
    exact post_is HQ ⟨rfl, N2.out.low⟩
  rw [Decidable.not_not] at hk
  have HK := Lib.hid hk
  obtain ⟨s, rfl, s1, s2, s3, s4, s5, s6⟩ := check_ok hk
  have S4 := Lib.hid s4
  rw [hk]
  clear hk s4 s6
  obtain ⟨q, hq, hq1, hq2, hmin⟩ := min_litN nt 20 20 rfl
  have hcut := cut_t At nt ct q hq1 htc
  have R3 := Lib.hid (show Rd w2 At (T.take q) from R2.out.take q)
  have HT2 := Lib.hid (show (T.take q).length = q by rw [List.length_take, HT.out]; omega)
  generalize T.take q = ts at *
  clear R2 HT hq
  have L2 := Lib.hid N2.out.load
  have bA := bl_alloc (Below.refl w2.heap.size w2) (.cells #[.int .i64 0] 3)
  have NA := N2.out.then bA
  have HC := NA.close (zl [0]) (some ⟨w2.heap.size, 0, none⟩) 1 1 rfl (by omega) (rdw_row w2 (zl [0]) #[.int .i64 0] rfl)
  rw [ask_good HK.out (l := [0]) (fun x hx => by rw [List.mem_singleton] at hx; omega)] at HC
  have HC2 := Lib.hid HC
  have NB := Lib.hid NA
  have RB := Lib.hid (R3.out.below bA)
  clear HC bA NA
  go_wp2_with (refine wpList_load_part 25 3 _ rfl rfl ⟨g, 0, none⟩ rfl [.int .i64 (s : Int), .slice A n c, .slice A2 n2 c2] (agg_net _) (sz_net _) rfl L2.out ?_)
  refine HC2.out.mono ?_
  rintro e w3 ⟨v, rfl, ho, hb⟩
  obtain ⟨A3, n3, c3, rfl, hl, hc3, hm3, hz⟩ := ho.form
  have N3 := Lib.hid (NB.out.then hb)
  have R4 := Lib.hid (RB.out.below hb)
  have Q3 := Lib.hid (rdw_z hz)
  have hn3 : n3 ≤ 140737488355328 := by
    have h1 := hl.out
    have h2 : (closeL s E [0]).length ≤ s := len_le ((rise_pair s _).imp (fun h => by omega)) (close_in s E [0])
    dsimp only at h1
    omega
  have L3 := Lib.hid hl.out
  clear ho hl hz HC2 NB L2 N2 R3 RB hb hm3
  dsimp only at Q3 L3 ⊢
  go_wp2_with fail
  go_loopw [5, 6, 7] (fun nv ev iv wr => ∃ (i m d : Nat) (B : Option Addr), i ≤ q ∧ iv = .int .i64 (i : Int) ∧ nv = .slice B m d ∧ ev = .int .i64 0 ∧ m ≤ 140737488355328 ∧ Hid (NetB W g (s : Int) E X A A2 n c n2 c2 wr) ∧ Hid ((nowL s E (ts.take i)).length = m) ∧ Hid (RdW wr B (zl (nowL s E (ts.take i)))) ∧ Hid (Rd wr At ts)) (fun _ _ iv _ => q - (intOf iv).toNat)
  case atStart => exact ⟨0, n3, c3, A3, Nat.zero_le _, rfl, rfl, rfl, hn3, N3, L3, Q3, R4⟩
  case round =>
    obtain ⟨i, m, d, B, hi, rfl, rfl, rfl, hm, NR, LR, QR, RR⟩ := hrel
    clear N3 L3 Q3 R4
    by_cases hlt : i < q
    · have h1 : i < ts.length := by rw [HT2.out]; exact hlt
      obtain ⟨ad, hA, hcell⟩ := RR.out (by omega)
      subst hA
      have hcb := hcell i h1
      have HNX := Lib.hid (now_next s E ts i h1)
      have hch : ts[i].toNat < 256 := ts[i].toNat_lt
      simp only [bv] at hcb
      generalize ts[i].toNat = ch at *
      have HIN := Lib.hid (now_in s E (ts.take i))
      generalize nowL s E (ts.take i) = now at *
      have q0 := NR.out.q0
      have q1 := NR.out.q1
      have q2 := NR.out.q2
      clear hcell h1
      go_wp2_with fail
      refine wp_region_held_drew (S := fun W' => W'.heap[g]? = some (.cells #[.int .i64 (s : Int), .slice A n c, .slice A2 n2 c2] 25 (0, 0)) ∧ W'.cell? (ad.add i) = some (.int .u8 (ch : Int))) (by kernel_rfl) ⟨NR.out.net, hcb⟩ (fun hHeld => ?_)
      have ND := Lib.hid (NR.out.then (Below.drew (Below.refl wr.heap.size wr)))
      have QD := Lib.hid (QR.out.below (Below.drew (Below.refl wr.heap.size wr)))
      have RD := Lib.hid (RR.out.below (Below.drew (Below.refl wr.heap.size wr)))
      clear hcb NR QR RR q0 q1 q2
      generalize wr.drew = wd at *
      try simp only [List.getElem_toArray, List.getElem_cons_zero, List.getElem_cons_succ, Act.put, List.setIfInBounds_toArray, List.set_cons_zero, List.set_cons_succ]
      refine wpAnyH_take (i := 0) (v := .agg #[.int .i64 (s : Int), .slice A n c, .slice A2 n2 c2]) rfl (by kernel_rfl) (by kernel_rfl) (by kernel_rfl) (fun _ _ _ h => h) (yields_part 25 3 (by rfl) (.tmp 2) rfl ⟨g, 0, none⟩ rfl [.int .i64 (s : Int), .slice A n c, .slice A2 n2 c2] agg_net sz_net rfl (fun w hw => load_net w hw.1)) hHeld ?_
      try simp only [List.getElem_toArray, List.getElem_cons_zero, List.getElem_cons_succ, Act.put, List.setIfInBounds_toArray, List.set_cons_zero, List.set_cons_succ]
      refine wpAnyH_take (i := 1) (v := ?vzw1) rfl (by kernel_rfl) (by kernel_rfl) (by kernel_rfl) (fun _ _ _ h => h) (Or.inl ⟨by rfl, ?yzw1⟩) hHeld ?rzw1
      case yzw1 => (intro wS hSw; clear hSw; go_simp; try (with_reducible rfl))
      try simp only [List.getElem_toArray, List.getElem_cons_zero, List.getElem_cons_succ, Act.put, List.setIfInBounds_toArray, List.set_cons_zero, List.set_cons_succ]
      refine wpAnyH_take (i := 2) (v := ?vzw2) rfl (by kernel_rfl) (by kernel_rfl) (by kernel_rfl) (fun _ _ _ h => h) (Or.inl ⟨by rfl, ?yzw2⟩) hHeld ?rzw2
      case yzw2 => (intro wS hSw; clear hSw; go_simp; try (with_reducible rfl))
      try simp only [List.getElem_toArray, List.getElem_cons_zero, List.getElem_cons_succ, Act.put, List.setIfInBounds_toArray, List.set_cons_zero, List.set_cons_succ]
      refine wpAnyH_take (i := 3) (v := ?vzw3) rfl (by kernel_rfl) (by kernel_rfl) (by kernel_rfl) (fun _ _ _ h => h) (Or.inl ⟨by rfl, ?yzw3⟩) hHeld ?rzw3
      case yzw3 => (intro wS hSw; clear hSw; go_simp; try (with_reducible rfl))
      try simp only [List.getElem_toArray, List.getElem_cons_zero, List.getElem_cons_succ, Act.put, List.setIfInBounds_toArray, List.set_cons_zero, List.set_cons_succ]
      refine wpAnyH_take (i := 4) (v := ?vzw4) rfl (by kernel_rfl) (by kernel_rfl) (by kernel_rfl) (fun _ _ _ h => h) (Or.inl ⟨by rfl, ?yzw4⟩) hHeld ?rzw4
      case yzw4 => (intro wS hSw; clear hSw; go_simp; try (with_reducible rfl))
      try simp only [List.getElem_toArray, List.getElem_cons_zero, List.getElem_cons_succ, Act.put, List.setIfInBounds_toArray, List.set_cons_zero, List.set_cons_succ]
      refine wpAnyH_take (i := 5) (v := ?vzw5) rfl (by kernel_rfl) (by kernel_rfl) (by kernel_rfl) (fun _ _ _ h => h) (Or.inl ⟨by rfl, ?yzw5⟩) hHeld ?rzw5
      case yzw5 => (intro wS hSw; have q1 := hSw.2; clear hSw; go_simp; try (with_reducible rfl))
      try simp only [List.getElem_toArray, List.getElem_cons_zero, List.getElem_cons_succ, Act.put, List.setIfInBounds_toArray, List.set_cons_zero, List.set_cons_succ]
      refine wpAnyH_ready (rs := [6]) (by kernel_rfl) (by simp) (AllReadyH.cons rfl (fun K hK => ?_) AllReadyH.nil)
      go_simp
      go_at_call 16
      have HC := ND.out.step ch hch (zl now) B m d (by rw [zl_len]; exact LR.out) hm QD.out
      rw [ask_good HK.out HIN.out] at HC
      refine HC.mono ?_
      rintro e w4 ⟨v, rfl, ho, hb⟩
      obtain ⟨A4, n4, c4, rfl, hl, hc4, hm4, hz⟩ := ho.form
      have N4 := Lib.hid (ND.out.then hb)
      have R4 := Lib.hid (RD.out.below hb)
      have Q4 := Lib.hid (rdw_z hz)
      have Z4 := Lib.hid hz
      have hS1 := And.intro N4.out.net ((hb.cell (World.block_lt_of_cell? _ _ hHeld.2)).trans hHeld.2)
      clear hHeld hz hb ho HC ND QD RD
      dsimp only at hl Q4 Z4 ⊢
      go_wp2_with fail
      refine hK.out _ _ hS1 (fun hHeld => ?_)
      clear hK K hS1
      try simp only [List.getElem_toArray, List.getElem_cons_zero, List.getElem_cons_succ, Act.put, List.setIfInBounds_toArray, List.set_cons_zero, List.set_cons_succ]
      refine wpAnyH_take (i := 7) (v := ?vzw7) rfl (by kernel_rfl) (by kernel_rfl) (by kernel_rfl) (fun _ _ _ h => h) (Or.inl ⟨by rfl, ?yzw7⟩) hHeld ?rzw7
      case yzw7 => (intro wS hSw; clear hSw; go_simp; try (with_reducible rfl))
      try simp only [List.getElem_toArray, List.getElem_cons_zero, List.getElem_cons_succ, Act.put, List.setIfInBounds_toArray, List.set_cons_zero, List.set_cons_succ]
      refine wpAnyH_take (i := 8) (v := ?vzw8) rfl (by kernel_rfl) (by kernel_rfl) (by kernel_rfl) (fun _ _ _ h => h) (Or.inl ⟨by rfl, ?yzw8⟩) hHeld ?rzw8
      case yzw8 => (intro wS hSw; clear hSw; go_simp; try (with_reducible rfl))
      try simp only [List.getElem_toArray, List.getElem_cons_zero, List.getElem_cons_succ, Act.put, List.setIfInBounds_toArray, List.set_cons_zero, List.set_cons_succ]
      refine wpAnyH_take (i := 9) (v := ?vzw9) rfl (by kernel_rfl) (by kernel_rfl) (by kernel_rfl) (fun _ _ _ h => h) (Or.inl ⟨by rfl, ?yzw9⟩) hHeld ?rzw9
      case yzw9 => (intro wS hSw; clear hSw; go_simp; try (with_reducible rfl))
      try simp only [List.getElem_toArray, List.getElem_cons_zero, List.getElem_cons_succ, Act.put, List.setIfInBounds_toArray, List.set_cons_zero, List.set_cons_succ]
      refine wpAnyH_take (i := 10) (v := ?vzw10) rfl (by kernel_rfl) (by kernel_rfl) (by kernel_rfl) (fun _ _ _ h => h) (Or.inl ⟨by rfl, ?yzw10⟩) hHeld ?rzw10
      case yzw10 => (intro wS hSw; clear hSw; go_simp; try (with_reducible rfl))
      try simp only [List.getElem_toArray, List.getElem_cons_zero, List.getElem_cons_succ, Act.put, List.setIfInBounds_toArray, List.set_cons_zero, List.set_cons_succ]
      refine wpAnyH_take (i := 11) (v := ?vzw11) rfl (by kernel_rfl) (by kernel_rfl) (by kernel_rfl) (fun _ _ _ h => h) (Or.inl ⟨by rfl, ?yzw11⟩) hHeld ?rzw11
      case yzw11 => (intro wS hSw; clear hSw; go_simp; try (with_reducible rfl))
      try simp only [List.getElem_toArray, List.getElem_cons_zero, List.getElem_cons_succ, Act.put, List.setIfInBounds_toArray, List.set_cons_zero, List.set_cons_succ]
      refine wpAnyH_done (by kernel_rfl) ?_ _
      have q0 := N4.out.q0
      have HRI := Lib.hid (rising_yes s (stepL s E ch now) A4 n4 c4 hl.out (by have h1 := hl.out; have h2 := len_le ((rise_pair s (behE E ch now)).imp (fun h => by omega)) (step_in s E ch now); unfold stepL at h1; omega) (fun i hi => step_in s E ch now _ (List.getElem_mem hi)) (by omega) (pair_next (rise_pair _ _)) w4 Z4.out)
      go_wp2_with fail
      refine HRI.out.mono ?_
      rintro e w5 ⟨rfl, hb5⟩
      have N5 := Lib.hid (N4.out.then hb5)
      have R5 := Lib.hid (R4.out.below hb5)
      have Q5 := Lib.hid (Q4.out.below hb5)
      have hn4 : n4 ≤ 140737488355328 := by have h1 := hl.out; have h2 := len_le ((rise_pair s (behE E ch now)).imp (fun h => by omega)) (step_in s E ch now); unfold stepL at h1; omega
      clear HRI N4 R4 Q4 Z4 hb5 q0 hHeld
      have L5 := Lib.hid N5.out.load
      have HC := N5.out.close (zl (stepL s E ch now)) A4 n4 c4 (by rw [zl_len]; exact hl.out) hn4 Q5.out
      rw [ask_good HK.out (step_in s E ch now)] at HC
      have HC2 := Lib.hid HC
      clear HC
      go_wp2_with (refine wpList_load_part 25 3 _ rfl rfl ⟨g, 0, none⟩ rfl [.int .i64 (s : Int), .slice A n c, .slice A2 n2 c2] (agg_net _) (sz_net _) rfl L5.out ?_)
      refine HC2.out.mono ?_
      rintro e w6 ⟨v, rfl, ho, hb⟩
      obtain ⟨A6, n6, c6, rfl, hl6, hc6, hm6, hz⟩ := ho.form
      have N6 := Lib.hid (N5.out.then hb)
      have R6 := Lib.hid (R5.out.below hb)
      have Q6 := Lib.hid (rdw_z hz)
      have hn6 : n6 ≤ 140737488355328 := by
        have h1 := hl6.out
        have h2 : (closeL s E (stepL s E ch now)).length ≤ s := len_le ((rise_pair s _).imp (fun h => by omega)) (close_in s E _)
        dsimp only at h1
        omega
      have LE := Lib.hid (show (nowL s E (ts.take (i + 1))).length = n6 from by rw [HNX.out]; exact hl6.out)
      have QE := Lib.hid (show RdW w6 A6 (zl (nowL s E (ts.take (i + 1)))) from by rw [HNX.out]; exact Q6.out)
      clear ho hl6 hz hb HC2 N5 R5 Q5 L5 hm6 Q6 hl
      dsimp only
      go_wp2_with fail
      go_roundw
      case rel =>
        repeat apply Exists.intro
        refine ⟨?_, rfl⟩
        exact ⟨i + 1, n6, c6, A6, by omega, by go_num, rfl, rfl, hn6, N6, LE, QE, R6⟩
      all_goals (simp [intOf]; omega)
    · obtain rfl : i = q := by omega
      rw [show ts.take i = ts from List.take_of_length_le (by rw [HT2.out]; exact Nat.le_refl _)] at LR QR
      have HX0 := Lib.hid (show idxE (nowL s E ts) (X.drop n2) n2 = -1 from by rw [List.drop_of_length_le (by rw [NR.out.lx]; exact Nat.le_refl _)]; rfl)
      have HPR := Lib.hid (now_pair s E ts)
      have HRUN := Lib.hid (show runE (s : Int) E X ts = (idxE (nowL s E ts) X 0, 0) from by
        unfold runE
        rw [if_neg (by rw [HK.out]; simp), if_neg (by rw [HT2.out]; omega)]
        rw [idx_congr (now_all S4.out s1 s2 ts) X 0])
      generalize nowL s E ts = now at *
      have q2 := NR.out.q2
      have hw : IntKind.i64.wrap ((n2 : Int) - 1) = (n2 : Int) - 1 := IntWalk.i64_in _ (by have := NR.out.bx; omega)
      have hbx := NR.out.bx
      go_wp2_with fail
      go_loopw [10, 11] (fun wv rv wq => ∃ (j : Nat) (z : Int), j ≤ n2 ∧ rv = .int .i64 z ∧ Hid (z = (j : Int) - 1) ∧ wv = .int .i64 (idxE now (X.drop j) j) ∧ Hid (NetB W g (s : Int) E X A A2 n c n2 c2 wq) ∧ Hid (RdW wq B (zl now)) ∧ Hid (Rd wq At ts)) (fun _ rv _ => (intOf rv + 1).toNat)
      case atStart => exact ⟨n2, _, Nat.le_refl _, rfl, rfl, by rw [HX0.out], NR, QR, RR⟩
      case round =>
        obtain ⟨j, z, hj, rfl, HZ, rfl, NQ, QQ, RQ⟩ := hrel
        clear NR QR RR q2
        cases j with
        | zero =>
          have hz : z = -1 := by have := HZ.out; omega
          subst hz
          have L7 := Lib.hid NQ.out.load
          have HC := NQ.out.run ts At i ct HT2.out (by omega) (by omega) (by omega) RQ.out
          rw [HRUN.out] at HC
          have HC2 := Lib.hid HC
          clear HC
          rw [List.drop_zero]
          generalize idxE now X 0 = r at *
          go_wp2_with (refine wpList_load_part 25 3 _ rfl rfl ⟨g, 0, none⟩ rfl [.int .i64 (s : Int), .slice A n c, .slice A2 n2 c2] (agg_net _) (sz_net _) rfl L7.out ?_)
          refine HC2.out.mono ?_
          rintro e w8 ⟨rfl, hb8⟩
          have B8 := Lib.hid (bl_trans NQ.out.low hb8)
          clear HC2 hb8 L7
          have t9 : (r == r) = true := by simp
          dsimp only
          go_wp2_with fail
          exact post_is HQ ⟨rfl, B8.out⟩
        | succ j =>
          have hz : z = (j : Int) := by have := HZ.out; omega
          subst hz
          have h2 : j < X.length := by rw [NQ.out.lx]; exact hj
          obtain ⟨A9, hcut9, R9⟩ := cut_one A2 n2 c2 j X wr NQ.out.lx NQ.out.rx hj NQ.out.cx h2 ((j : Int) + 1) (by omega)
          have HBK := Lib.hid (idx_back now X j h2)
          have HIS := Lib.hid (isin_all now X[j])
          have HC := Lib.hid (lawhas_any (zl now) [X[j]] B A9 m d 1 (c2 - j) (by rw [zl_len]; exact LR.out) rfl hm (by omega) (zl_up HPR.out) (one_up _) wr QQ.out R9)
          generalize X[j] = x at *
          have hw1 : IntKind.i64.wrap ((j : Int) + 1) = (j : Int) + 1 := IntWalk.i64_in _ (by omega)
          have hw2 : IntKind.i64.wrap ((j : Int) - 1) = (j : Int) - 1 := IntWalk.i64_in _ (by omega)
          have q2 := NQ.out.q2
          rw [HIS.out] at HC
          clear R9 h2
          go_wp2_with fail
          refine HC.out.mono ?_
          rintro e w8 ⟨rfl, hb8⟩
          have N8 := Lib.hid (NQ.out.then hb8)
          have Q8 := Lib.hid (QQ.out.below hb8)
          have R8 := Lib.hid (RQ.out.below hb8)
          clear hb8 HC NQ QQ RQ q2 hcut9
          cases hin : isIn now x with
          | true =>
            have HB2 := Lib.hid (show idxE now (X.drop j) j = (j : Int) from by rw [HBK.out, if_pos hin])
            clear hin
            go_wp2_with fail
            go_roundw
            case rel =>
              repeat apply Exists.intro
              refine ⟨?_, rfl⟩
              exact ⟨j, _, by omega, rfl, rfl, by rw [HB2.out], N8, Q8, R8⟩
            all_goals (simp [intOf] <;> omega)
          | false =>
            have HB2 := Lib.hid (show idxE now (X.drop j) j = idxE now (X.drop (j + 1)) (j + 1) from by rw [HBK.out, if_neg (by rw [hin]; simp)])
            clear hin
            go_wp2_with fail
            go_roundw
            case rel =>
              repeat apply Exists.intro
              refine ⟨?_, rfl⟩
              exact ⟨j, _, by omega, rfl, rfl, by rw [HB2.out], N8, Q8, R8⟩
            all_goals (simp [intOf] <;> omega)

end Go.Proofs.Ytjibfffefppniaa
