/- The document's Run. -/
import Derived.Test.YtjibfffefppniaaRfHM
set_option linter.unusedVariables false
set_option linter.unusedSimpArgs false
namespace Go.Proofs.Ytjibfffefppniaa
open Go.RowKit
attribute [local go_sem] Oper.semAt_some

theorem trues_one {n : Nat} (hn : 0 < n) (x : Nat) : x ∈ trues ((List.replicate n false).set 0 true) ↔ x ∈ [0] := by
  rw [trues_set (by simpa using hn), trues_none]
  simp
theorem for_same {S : Nat} {E : List Ed} (hE : EdN S E) (hS : S ≤ 2048) {a b : List Nat} (ha : InN S a) (h : ∀ x, x ∈ a ↔ x ∈ b) (x : Nat) : x ∈ forE E a ↔ x ∈ forE E b :=
  for_congr hE hS ha (fun y hy => ha y ((h y).2 hy)) h x
set_option maxRecDepth 100000 in
set_option maxHeartbeats 16000000 in
theorem rrun_any (S : Int) (E : List Ed) (X : List Int) (ts : List UInt8) (Ae Ax At : Option Addr) (ne ce nx cx nt ct : Nat) (hne : E.length = ne) (hnx : X.length = nx) (hnt : ts.length = nt) (hce : ne ≤ ce) (hcx : nx ≤ cx) (hm1 : ne ≤ 140737488355328) (hm2 : nx ≤ 140737488355328) (hm3 : nt ≤ 140737488355328) (W : World) (hr : RdE W Ae E) (hx : RdW W Ax X) (ht : Rd W At ts) :
    Calls Try.prog 8 #[.agg #[.int .i64 S, .slice Ae ne ce, .slice Ax nx cx], .slice At nt ct] W (GotRn W (runE S E X ts)) := by
  generalize hQ : GotRn W (runE S E X ts) = Q
  have HQ := Lib.hid hQ
  have b0 := bl_alloc (Below.refl W.heap.size W) (.cells #[.int .i64 S, .slice Ae ne ce, .slice Ax nx cx] 25)
  have N0 := Lib.hid (show NetB W W.heap.size S E X Ae Ax ne ce nx cx (W.alloc (.cells #[.int .i64 S, .slice Ae ne ce, .slice Ax nx cx] 25)) from ⟨heap_alloc_new W _, hr.below b0, hx.below b0, b0, hne, hnx, hce, hcx, hm1, hm2⟩)
  have R0 := Lib.hid (ht.below b0)
  have HT := Lib.hid hnt
  clear hQ b0 hr hx ht hne hnx hnt
  go_enter Try.func8, Try.ntmps8
  go_upto_region 1 with fail
  generalize W.alloc (.cells #[.int .i64 S, .slice Ae ne ce, .slice Ax nx cx] 25) = w0 at *
  generalize W.heap.size = g at *
  have L0 := Lib.hid N0.out.load
  have HC := Lib.hid (rcheck_any S E X Ae Ax ne ce nx cx N0.out.ln N0.out.lx N0.out.bn N0.out.bx w0 N0.out.re N0.out.rx)
  go_wp2_with (refine wpList_load_part 25 3 _ rfl rfl ⟨g, 0, none⟩ rfl [.int .i64 S, .slice Ae ne ce, .slice Ax nx cx] (agg_net _) (sz_net _) rfl L0.out ?_)
  refine HC.out.mono ?_
  rintro e w2 ⟨rfl, hb2⟩
  have N2 := Lib.hid (N0.out.then hb2)
  have R2 := Lib.hid (R0.out.below hb2)
  clear hb2 HC L0 N0 R0
  by_cases hk : ¬ checkN S E X = 0
  · have HR := Lib.hid (show runE S E X ts = (0, checkN S E X) by rw [runE, if_pos hk])
    generalize checkN S E X = k at *
    have h' : ((k : Int) != 0) = true := by simp; omega
    go_wp2_with fail
    refine post_is HQ ?_
    rw [HR.out]
    exact ⟨rfl, N2.out.low⟩
  rw [Decidable.not_not] at hk
  have HK := Lib.hid hk
  obtain ⟨s, rfl, s1, s2, s3, s4, s5, s6⟩ := check_ok hk
  have S4 := Lib.hid s4
  have S6 := Lib.hid s6
  rw [hk]
  clear hk s4 s6
  by_cases hb : 8192 < nt
  · have HR := Lib.hid (show runE (s : Int) E X ts = (0, 5) by rw [runE, if_neg (by rw [HK.out]; simp), if_pos (by rw [HT.out]; exact hb)])
    have hb' : (8192 : Int) < (nt : Int) := by omega
    go_wp2_with fail
    refine post_is HQ ?_
    rw [HR.out]
    exact ⟨rfl, N2.out.low⟩
  have hb' : ¬ (8192 : Int) < (nt : Int) := by omega
  have HR := Lib.hid (show runE (s : Int) E X ts = (idxE (goneE E (forE E [0]) ts) X 0, 0) by rw [runE, if_neg (by rw [HK.out]; simp), if_neg (by rw [HT.out]; exact hb)])
  have q0 := N2.out.q0
  obtain ⟨q, hq⟩ : ∃ q, w2.heap.size = q := ⟨_, rfl⟩
  have HQ0 := Lib.hid hq
  have hmk := make_marks s (s : Int) rfl (by omega) w2
  rw [hq] at hmk
  have o1 := own_marks w2 s (by omega)
  conv at o1 => arg 3; rw [hq]
  have bm := bl_alloc (Below.refl w2.heap.size w2) (.cells (marks0 s) 4)
  have N3 := Lib.hid (N2.out.then bm)
  have R3 := Lib.hid (R2.out.below bm)
  have B3 := Lib.hid bm
  have O1 := Lib.hid o1
  clear hq o1 bm
  go_upto_region 7 with fail
  generalize w2.alloc (.cells (marks0 s) 4) = w3 at *
  clear hmk q0
  have hln : (List.replicate s false).length = s := List.length_replicate
  have cy := O1.out.cellAt hln (k := 0) (by rw [hln]; omega)
  rw [show (List.replicate s false)[0]'(by rw [hln]; omega) = false from List.getElem_replicate _] at cy
  have hst := O1.out.stored hln 0
  have cz := O1.out.frozenAt hln 0
  have O4 := Lib.hid hst.1
  have B4 := Lib.hid (show Below w2.heap.size w2 (w3.setCell ⟨q, 0, none⟩ (.bool true)) from bl_grown B3.out hst.2 (fun i e => by cases e; rw [HQ0.out]; exact Nat.le_refl _))
  have N4 := Lib.hid (N2.out.then B4.out)
  have R4 := Lib.hid (R2.out.below B4.out)
  have h0s : (0 : Int) < (s : Int) := by omega
  have HL4 := Lib.hid (show ((List.replicate s false).set 0 true).length = s from by rw [List.length_set]; exact hln)
  have HT4 := Lib.hid (trues_one (n := s) (by omega))
  clear hst O1 N3 R3 B3 hln
  go_upto_region 8 with fail
  generalize w3.setCell ⟨q, 0, none⟩ (.bool true) = w4 at *
  clear cy cz
  generalize (List.replicate s false).set 0 true = cs0 at *
  obtain ⟨A4, n4, c4, e4, hl4, hc4, hr4⟩ := O4.out.rd (by rw [HL4.out]; omega)
  injection e4 with e41 e42 e43
  have HC := rfree_any s E cs0 (.bool false) Ae A4 ne ce n4 c4 N4.out.ln N4.out.bn S4.out s1 s2 HL4.out hl4.out w4 N4.out.re hr4 Ax nx cx
  rw [← e41, ← e42, ← e43] at HC
  have HC2 := Lib.hid HC
  have L4 := Lib.hid N4.out.load
  clear HC hl4 hr4 hc4
  subst e41 e42 e43
  go_wp2_with (refine wpList_load_part 25 3 _ rfl rfl ⟨g, 0, none⟩ rfl [.int .i64 (s : Int), .slice Ae ne ce, .slice Ax nx cx] (agg_net _) (sz_net _) rfl L4.out ?_)
  refine HC2.out.mono ?_
  rintro e w5 ⟨v, cs, rfl, ho, hl, hP, hb5⟩
  obtain ⟨A5, n5, c5, rfl, hl5, hc5, hr5⟩ := ho.rd (by rw [hl]; omega)
  have N5 := Lib.hid (N4.out.then hb5)
  have R5 := Lib.hid (R4.out.below hb5)
  have hI4 : InN s (trues cs0) := by rw [← HL4.out]; exact trues_in cs0
  have P5 := Lib.hid (show ∀ x, x ∈ trues cs ↔ x ∈ goneE E (forE E [0]) (ts.take 0) from fun x => (hP x).trans (for_same S4.out s2 hI4 HT4.out x))
  have L5 := Lib.hid hl
  have HN5 := Lib.hid (show n5 = s from by rw [← hl5.out]; exact hl)
  have Q5 := Lib.hid hr5
  clear ho hl hP hb5 hl5 hr5 HC2 L4 N4 R4 O4 B4 HL4 HT4 hI4 hc5 h0s HQ0
  obtain rfl : n5 = s := HN5.out
  go_wp2_with fail
  go_loopw [8, 9] (fun nv iv wr => ∃ (k : Nat) (cs : List Bool) (B : Option Addr) (d : Nat), k ≤ nt ∧ iv = .int .i64 (k : Int) ∧ nv = .slice B n5 d ∧ Hid (NetB W g (n5 : Int) E X Ae Ax ne ce nx cx wr) ∧ Hid (cs.length = n5) ∧ Hid (∀ x, x ∈ trues cs ↔ x ∈ goneE E (forE E [0]) (ts.take k)) ∧ Hid (RdQ wr B cs) ∧ Hid (Rd wr At ts)) (fun _ iv _ => nt - (intOf iv).toNat)
  case atStart => exact ⟨0, cs, A5, c5, Nat.zero_le _, rfl, rfl, N5, L5, P5, Q5, R5⟩
  case round =>
    obtain ⟨k, cs, B, d, hk, rfl, rfl, NR, LR, PR, QR, RR⟩ := hrel
    clear N5 L5 P5 Q5 R5
    by_cases hlt : k < nt
    · have h1 : k < ts.length := by rw [HT.out]; exact hlt
      obtain ⟨ad, hA, hcell⟩ := RR.out (by omega)
      subst hA
      have hcb := hcell k h1
      have HNX := Lib.hid (gone_next E (forE E [0]) ts k h1)
      have hch : ts[k].toNat < 256 := ts[k].toNat_lt
      simp only [bv] at hcb
      generalize ts[k].toNat = ch at *
      have hkn : (k : Int) < (nt : Int) := by omega
      clear hcell h1
      go_wp2_with fail
      refine wp_region_held_drew (S := fun W' => W'.heap[g]? = some (.cells #[.int .i64 (n5 : Int), .slice Ae ne ce, .slice Ax nx cx] 25 (0, 0)) ∧ W'.cell? (ad.add k) = some (.int .u8 (ch : Int))) (by kernel_rfl) ⟨NR.out.net, hcb⟩ (fun hHeld => ?_)
      have ND := Lib.hid (NR.out.then (Below.drew (Below.refl wr.heap.size wr)))
      have QD := Lib.hid (QR.out.below (Below.drew (Below.refl wr.heap.size wr)))
      have RD := Lib.hid (RR.out.below (Below.drew (Below.refl wr.heap.size wr)))
      clear hcb NR QR RR
      generalize wr.drew = wd at *
      try simp only [List.getElem_toArray, List.getElem_cons_zero, List.getElem_cons_succ, Act.put, List.setIfInBounds_toArray, List.set_cons_zero, List.set_cons_succ]
      refine wpAnyH_take (i := 0) (v := .agg #[.int .i64 (n5 : Int), .slice Ae ne ce, .slice Ax nx cx]) rfl (by kernel_rfl) (by kernel_rfl) (by kernel_rfl) (fun _ _ _ h => h) (yields_part 25 3 (by rfl) (.tmp 2) rfl ⟨g, 0, none⟩ rfl [.int .i64 (n5 : Int), .slice Ae ne ce, .slice Ax nx cx] agg_net sz_net rfl (fun w hw => load_net w hw.1)) hHeld ?_
      try simp only [List.getElem_toArray, List.getElem_cons_zero, List.getElem_cons_succ, Act.put, List.setIfInBounds_toArray, List.set_cons_zero, List.set_cons_succ]
      refine wpAnyH_take (i := 1) (v := .agg #[.int .i64 (n5 : Int), .slice Ae ne ce, .slice Ax nx cx]) rfl (by kernel_rfl) (by kernel_rfl) (by kernel_rfl) (fun _ _ _ h => h) (yields_part 25 3 (by rfl) (.tmp 2) rfl ⟨g, 0, none⟩ rfl [.int .i64 (n5 : Int), .slice Ae ne ce, .slice Ax nx cx] agg_net sz_net rfl (fun w hw => load_net w hw.1)) hHeld ?_
      try simp only [List.getElem_toArray, List.getElem_cons_zero, List.getElem_cons_succ, Act.put, List.setIfInBounds_toArray, List.set_cons_zero, List.set_cons_succ]
      refine wpAnyH_take (i := 2) (v := ?vzw2) rfl (by kernel_rfl) (by kernel_rfl) (by kernel_rfl) (fun _ _ _ h => h) (Or.inl ⟨by rfl, ?yzw2⟩) hHeld ?rzw2
      case yzw2 => (intro wS hSw; clear hSw; go_simp; try (with_reducible rfl))
      try simp only [List.getElem_toArray, List.getElem_cons_zero, List.getElem_cons_succ, Act.put, List.setIfInBounds_toArray, List.set_cons_zero, List.set_cons_succ]
      refine wpAnyH_take (i := 3) (v := ?vzw3) rfl (by kernel_rfl) (by kernel_rfl) (by kernel_rfl) (fun _ _ _ h => h) (Or.inl ⟨by rfl, ?yzw3⟩) hHeld ?rzw3
      case yzw3 => (intro wS hSw; clear hSw; go_simp; try (with_reducible rfl))
      try simp only [List.getElem_toArray, List.getElem_cons_zero, List.getElem_cons_succ, Act.put, List.setIfInBounds_toArray, List.set_cons_zero, List.set_cons_succ]
      refine wpAnyH_take (i := 4) (v := ?vzw4) rfl (by kernel_rfl) (by kernel_rfl) (by kernel_rfl) (fun _ _ _ h => h) (Or.inl ⟨by rfl, ?yzw4⟩) hHeld ?rzw4
      case yzw4 => (intro wS hSw; clear hSw; go_simp; try (with_reducible rfl))
      try simp only [List.getElem_toArray, List.getElem_cons_zero, List.getElem_cons_succ, Act.put, List.setIfInBounds_toArray, List.set_cons_zero, List.set_cons_succ]
      refine wpAnyH_take (i := 5) (v := ?vzw5) rfl (by kernel_rfl) (by kernel_rfl) (by kernel_rfl) (fun _ _ _ h => h) (Or.inl ⟨by rfl, ?yzw5⟩) hHeld ?rzw5
      case yzw5 => (intro wS hSw; clear hSw; go_simp; try (with_reducible rfl))
      try simp only [List.getElem_toArray, List.getElem_cons_zero, List.getElem_cons_succ, Act.put, List.setIfInBounds_toArray, List.set_cons_zero, List.set_cons_succ]
      refine wpAnyH_take (i := 6) (v := ?vzw6) rfl (by kernel_rfl) (by kernel_rfl) (by kernel_rfl) (fun _ _ _ h => h) (Or.inl ⟨by rfl, ?yzw6⟩) hHeld ?rzw6
      case yzw6 => (intro wS hSw; have q1 := hSw.2; clear hSw; go_simp; try (with_reducible rfl))
      try simp only [List.getElem_toArray, List.getElem_cons_zero, List.getElem_cons_succ, Act.put, List.setIfInBounds_toArray, List.set_cons_zero, List.set_cons_succ]
      refine wpAnyH_ready (rs := [7]) (by kernel_rfl) (by simp) (AllReadyH.cons rfl (fun K hK => ?_) AllReadyH.nil)
      go_simp
      go_at_call 27
      refine (rbehind_any' n5 E cs ch hch Ae B ne ce n5 d ND.out.ln ND.out.bn S4.out s1 s2 LR.out LR.out wd ND.out.re QD.out Ax nx cx).mono ?_
      rintro e w6 ⟨v, cs1, rfl, ho, hl, hP, hb6⟩
      obtain ⟨A6, n6, c6, rfl, hl6, hc6, hr6⟩ := ho.rd (by rw [hl]; omega)
      obtain rfl : n6 = n5 := by rw [← hl6.out]; exact hl
      have N6 := Lib.hid (ND.out.then hb6)
      have R6 := Lib.hid (RD.out.below hb6)
      have hI := in_beh S4.out ch (goneE E (forE E [0]) (ts.take k))
      have P6 := Lib.hid (show ∀ x, x ∈ trues cs1 ↔ x ∈ behE E ch (goneE E (forE E [0]) (ts.take k)) from fun x => (hP x).trans (beh_congr PR.out x))
      have L6 := Lib.hid hl
      have Q6 := Lib.hid hr6
      have hS1 := And.intro N6.out.net ((hb6.cell (World.block_lt_of_cell? _ _ hHeld.2)).trans hHeld.2)
      clear hHeld ho hl hP hb6 hl6 hr6 hc6 ND QD RD
      go_wp2_with fail
      refine hK.out _ _ hS1 (fun hHeld => ?_)
      clear hK K hS1
      try simp only [List.getElem_toArray, List.getElem_cons_zero, List.getElem_cons_succ, Act.put, List.setIfInBounds_toArray, List.set_cons_zero, List.set_cons_succ]
      refine wpAnyH_ready (rs := [8]) (by kernel_rfl) (by simp) (AllReadyH.cons rfl (fun K hK => ?_) AllReadyH.nil)
      go_simp
      go_at_call 26
      refine (rfree_any n6 E cs1 (.bool false) Ae A6 ne ce n6 c6 N6.out.ln N6.out.bn S4.out s1 s2 L6.out L6.out w6 N6.out.re Q6.out Ax nx cx).mono ?_
      rintro e w7 ⟨v, cs2, rfl, ho, hl, hP, hb7⟩
      obtain ⟨A7, n7, c7, rfl, hl7, hc7, hr7⟩ := ho.rd (by rw [hl]; omega)
      obtain rfl : n7 = n6 := by rw [← hl7.out]; exact hl
      have N7 := Lib.hid (N6.out.then hb7)
      have R7 := Lib.hid (R6.out.below hb7)
      have hI1 : InN n7 (trues cs1) := by rw [← L6.out]; exact trues_in cs1
      have P7 := Lib.hid (show ∀ x, x ∈ trues cs2 ↔ x ∈ goneE E (forE E [0]) (ts.take (k + 1)) from fun x => by rw [HNX.out]; exact (hP x).trans (for_same S4.out s2 hI1 P6.out x))
      have L7 := Lib.hid hl
      have Q7 := Lib.hid hr7
      have hS1 := And.intro N7.out.net ((hb7.cell (World.block_lt_of_cell? _ _ hHeld.2)).trans hHeld.2)
      clear hHeld ho hl hP hb7 hl7 hr7 hc7 N6 R6 P6 L6 Q6 hI hI1
      go_wp2_with fail
      refine hK.out _ _ hS1 (fun hHeld => ?_)
      clear hK K hS1
      try simp only [List.getElem_toArray, List.getElem_cons_zero, List.getElem_cons_succ, Act.put, List.setIfInBounds_toArray, List.set_cons_zero, List.set_cons_succ]
      refine wpAnyH_take (i := 9) (v := ?vzw9) rfl (by kernel_rfl) (by kernel_rfl) (by kernel_rfl) (fun _ _ _ h => h) (Or.inl ⟨by rfl, ?yzw9⟩) hHeld ?rzw9
      case yzw9 => (intro wS hSw; clear hSw; go_simp; try (with_reducible rfl))
      try simp only [List.getElem_toArray, List.getElem_cons_zero, List.getElem_cons_succ, Act.put, List.setIfInBounds_toArray, List.set_cons_zero, List.set_cons_succ]
      refine wpAnyH_done (by kernel_rfl) ?_ _
      go_wp2_with fail
      exact ⟨⟨k + 1, cs2, A7, c7, by omega, by go_num, rfl, N7, L7, P7, Q7, R7⟩, by simp [intOf]; omega⟩
    · obtain rfl : k = nt := by omega
      have HALL := Lib.hid (show ∀ x, x ∈ trues cs ↔ x ∈ goneE E (forE E [0]) ts from by have := PR.out; rwa [List.take_of_length_le (by rw [HT.out]; exact Nat.le_refl _)] at this)
      generalize goneE E (forE E [0]) ts = l at *
      go_wp2_with fail
      go_loopw [10] (fun iv wr => ∃ r : Nat, r ≤ nx ∧ iv = .int .i64 (r : Int) ∧ Hid (∀ i (h : i < X.length), i < r → isIn l X[i] = false) ∧ Hid (NetB W g (n5 : Int) E X Ae Ax ne ce nx cx wr) ∧ Hid (RdQ wr B cs)) (fun iv _ => nx - (intOf iv).toNat)
      case atStart => exact ⟨0, Nat.zero_le _, rfl, (fun i h h2 => absurd h2 (by omega)), NR, QR⟩
      case round =>
        obtain ⟨r, hr, rfl, HNO, NT, QT⟩ := hrel
        clear NR QR
        have q2 := NT.out.q2
        by_cases hlr : r < nx
        · have h2 : r < X.length := by rw [NT.out.lx]; exact hlr
          obtain ⟨adx, hAx, hcx2⟩ := NT.out.rx r h2
          subst hAx
          have hok := List.all_eq_true.1 S6.out _ (List.getElem_mem h2)
          have HAT := Lib.hid (fun h => idx_at l X 0 r h2 HNO.out h)
          have HNN := Lib.hid (show isIn l X[r] = false → ∀ i (h : i < X.length), i < r + 1 → isIn l X[i] = false from fun h i hi h3 => by
            by_cases e : i = r
            · subst e; exact h
            · exact HNO.out i hi (by omega))
          generalize X[r] = x at *
          obtain ⟨y, rfl⟩ : ∃ y : Nat, x = (y : Int) := ⟨x.toNat, by simp [okSt] at hok; omega⟩
          have hy : y < n5 := by simp [okSt] at hok; omega
          have hy2 : (y : Int) < (n5 : Int) := by omega
          obtain ⟨adq, hAq, hcq⟩ := QT.out y (by rw [LR.out]; exact hy)
          subst hAq
          have HTY := Lib.hid (show cs[y]'(by rw [LR.out]; exact hy) = true ↔ y ∈ trues cs from ⟨fun h => mem_trues.2 ⟨_, h⟩, fun h => (mem_trues.1 h).2⟩)
          generalize cs[y]'(by rw [LR.out]; exact hy) = ty at *
          have HIS := Lib.hid (isIn_nat l y)
          have hrx : (r : Int) < (nx : Int) := by omega
          clear hok h2
          cases ty with
          | true =>
            have HRES := Lib.hid (show runE (n5 : Int) E X ts = ((r : Int), 0) from by rw [HR.out, HAT.out (by rw [HIS.out, decide_eq_true_iff]; exact (HALL.out y).1 (HTY.out.1 (by first | rfl | trivial)))]; simp)
            clear HAT HNN HTY
            go_wp2_with fail
            refine post_is HQ ?_
            rw [HRES.out]
            exact ⟨rfl, NT.out.low⟩
          | false =>
            have HN2 := Lib.hid (HNN.out (by rw [HIS.out, decide_eq_false_iff_not]; exact fun h => by have := HTY.out.2 ((HALL.out y).2 h); cases this))
            clear HAT HNN HTY
            go_wp2_with fail
            exact ⟨⟨r + 1, by omega, by go_num, HN2, NT, QT⟩, by simp [intOf]; omega⟩
        · obtain rfl : r = nx := by omega
          have HRES := Lib.hid (show runE (n5 : Int) E X ts = (-1, 0) from by rw [HR.out, idx_none l X 0 (fun i h => HNO.out i h (by rw [← NT.out.lx]; exact h))])
          go_wp2_with fail
          refine post_is HQ ?_
          rw [HRES.out]
          exact ⟨rfl, NT.out.low⟩

end Go.Proofs.Ytjibfffefppniaa
