/- The document's Check of nets. -/
import Derived.Test.YtjibfffefppniaaGreatNfCmM
import Derived.BigQuiet
set_option linter.unusedVariables false
set_option linter.unusedSimpArgs false
namespace Go.Proofs.YtjibfffefppniaaGreat
open Go.RowKit
attribute [local go_sem] Oper.semAt_some

theorem ok_split (S : Int) (e : Ed) : okEd S e = ((!decide (e.fr < 0) && !decide (S ≤ e.fr)) && (!decide (e.to < 0) && !decide (S ≤ e.to)) && !(e.free && !decide (e.set = nilS))) := by
  unfold okEd
  congr 1
  rw [Bool.eq_iff_iff]
  simp
theorem st_split (S x : Int) : okSt S x = (!decide (x < 0) && !decide (S ≤ x)) := by
  unfold okSt
  rw [Bool.eq_iff_iff]
  simp
theorem all_no {α : Type} {l : List α} {p : α → Bool} {k : Nat} (hk : k < l.length) (h : p l[k] = false) : l.all p = false := by
  rw [Bool.eq_false_iff]
  intro ha
  rw [List.all_eq_true.1 ha _ (List.getElem_mem hk)] at h
  cases h
theorem all_next {α : Type} {l : List α} {p : α → Bool} {k : Nat} (hk : k < l.length) (h0 : (l.take k).all p = true) (h : p l[k] = true) : (l.take (k + 1)).all p = true := by
  rw [List.take_succ_eq_append_getElem hk, List.all_append, h0]
  simp [h]
theorem bl_trans' {g : Nat} {W a b : World} (hg : W.heap.size = g) (h : Below g W a) (h2 : Below a.heap.size a b) : Below g W b := by
  subst hg
  exact bl_trans h h2
theorem bl_drewN' {g : Nat} {W a : World} (h : Below g W a) (n : Nat) : Below g W (a.drewN n) := ⟨h.os, h.tape, h.output, h.size, h.block⟩
attribute [-go_sem] run_equalIn_agg
set_option maxRecDepth 100000 in
set_option maxHeartbeats 16000000 in
theorem rcheck_any (S : Int) (E : List Ed) (X : List Int) (Ae Ax : Option Addr) (ne ce nx cx : Nat) (hne : E.length = ne) (hnx : X.length = nx) (hm1 : ne ≤ 140737488355328) (hm2 : nx ≤ 140737488355328) (W : World) (hr : RdE W Ae E) (hx : RdW W Ax X) :
    Calls Tryz.prog 9 #[.agg #[.int .i64 S, .slice Ae ne ce, .slice Ax nx cx]] W (GotEr W (checkN S E X)) := by
  generalize hQ : GotEr W (checkN S E X) = Q
  have HQ := Lib.hid hQ
  have b0 := bl_alloc (Below.refl W.heap.size W) (.cells #[.int .i64 S, .slice Ae ne ce, .slice Ax nx cx] 29)
  have k0 := heap_alloc_new W (.cells #[.int .i64 S, .slice Ae ne ce, .slice Ax nx cx] 29)
  have HE := Lib.hid (hr.below b0)
  have HX := Lib.hid (hx.below b0)
  have HNE := Lib.hid hne
  have HNX := Lib.hid hnx
  have B0 := Lib.hid b0
  have K0 := Lib.hid k0
  clear hQ hr hx hne hnx b0 k0
  go_enter Tryz.func9, Tryz.ntmps9
  go_upto_region 1 with fail
  generalize W.alloc (.cells #[.int .i64 S, .slice Ae ne ce, .slice Ax nx cx] 29) = w0 at *
  generalize hg : W.heap.size = g at *
  have c0 := cell_of_row w0 g 0 _ _ _ K0.out
  have c1 := cell_of_row w0 g 1 _ _ _ K0.out
  have c2 := cell_of_row w0 g 2 _ _ _ K0.out
  have HG := Lib.hid hg
  clear hg
  by_cases h1 : 2048 < S
  · have d1 : decide (2048 < S) = true := by simpa using h1
    have HC := Lib.hid (show checkN S E X = 5 by rw [checkN, if_pos (Or.inl h1)])
    go_wp2_with fail
    refine post_is HQ ?_
    rw [HC.out]
    exact ⟨rfl, by rw [HG.out]; exact B0.out⟩
  have d1 : decide (2048 < S) = false := by simpa using h1
  by_cases h2 : 8192 < ne
  · have d2 : decide ((8192 : Int) < (ne : Int)) = true := by simp; omega
    have d2' : decide (8192 < ne) = true := by simpa using h2
    have HC := Lib.hid (show checkN S E X = 5 by rw [checkN, HNE.out, if_pos (Or.inr (Or.inl h2))])
    go_wp2_with fail
    refine post_is HQ ?_
    rw [HC.out]
    exact ⟨rfl, by rw [HG.out]; exact B0.out⟩
  have d2 : decide ((8192 : Int) < (ne : Int)) = false := by simp; omega
  have d2' : decide (8192 < ne) = false := by simpa using h2
  by_cases h3 : 64 < nx
  · have d3 : decide ((64 : Int) < (nx : Int)) = true := by simp; omega
    have d3' : decide (64 < nx) = true := by simpa using h3
    have HC := Lib.hid (show checkN S E X = 5 by rw [checkN, HNX.out, if_pos (Or.inr (Or.inr h3))])
    go_wp2_with fail
    refine post_is HQ ?_
    rw [HC.out]
    exact ⟨rfl, by rw [HG.out]; exact B0.out⟩
  have d3 : decide ((64 : Int) < (nx : Int)) = false := by simp; omega
  have d3' : decide (64 < nx) = false := by simpa using h3
  have HSM := Lib.hid (show ¬ (2048 < S ∨ 8192 < E.length ∨ 64 < X.length) from by rw [HNE.out, HNX.out]; simp only [not_or]; exact ⟨h1, h2, h3⟩)
  by_cases h4 : S < 1
  · have d4 : decide (S < 1) = true := by simpa using h4
    have HC := Lib.hid (show checkN S E X = 2 by rw [checkN, if_neg HSM.out, if_pos (Or.inl h4)])
    go_wp2_with fail
    refine post_is HQ ?_
    rw [HC.out]
    exact ⟨rfl, by rw [HG.out]; exact B0.out⟩
  have d4 : decide (S < 1) = false := by simpa using h4
  have HBE := Lib.hid (show E.all (okEd S) = false → checkN S E X = 2 from fun h => by rw [checkN, if_neg HSM.out, if_pos (Or.inr (Or.inr h))])
  have HBX := Lib.hid (show X.all (okSt S) = false → checkN S E X = 2 from fun h => by rw [checkN, if_neg HSM.out, if_pos (Or.inr (Or.inl h))])
  have HOK := Lib.hid (show E.all (okEd S) = true → X.all (okSt S) = true → checkN S E X = 0 from fun ha hb => by rw [checkN, if_neg HSM.out, if_neg (by rw [ha, hb]; simp; omega)])
  go_wp2_with fail
  clear c0 c1 c2 d1 d2 d2' d3 d3' d4
  go_loopw [3] (fun vi wr => ∃ k : Nat, k ≤ ne ∧ vi = .int .i64 (k : Int) ∧ Hid ((E.take k).all (okEd S) = true) ∧ Hid (Below w0.heap.size w0 wr)) (fun vi _ => ne - (intOf vi).toNat)
  case atStart => exact ⟨0, Nat.zero_le _, rfl, rfl, Below.refl _ _⟩
  case round =>
    obtain ⟨k, hk, rfl, HA, HB⟩ := hrel
    have KR := Lib.hid ((HB.out.block g (Array.getElem?_eq_some_iff.1 K0.out).1).trans K0.out)
    have BR := Lib.hid (bl_trans' HG.out B0.out HB.out)
    by_cases hlt : k < ne
    · have hkl : k < E.length := by rw [HNE.out]; exact hlt
      obtain ⟨ad, hA, hcs⟩ := (HE.out.below HB.out) k hkl
      subst hA
      have HNO := Lib.hid (fun h => HBE.out (all_no (p := okEd S) hkl h))
      have HNX2 := Lib.hid (fun h => all_next (p := okEd S) hkl HA.out h)
      generalize E[k] = e at *
      have HSPL := Lib.hid (ok_split S e)
      have q0 := cell_of_row wr g 0 _ _ _ KR.out
      have q1 := cell_of_row wr g 1 _ _ _ KR.out
      have LX := Lib.hid (show ∀ j u, [Value.int .i64 e.fr, .int .i64 e.to, .int .u64 (e.set.w0.toNat : Int), .int .u64 (e.set.w1.toNat : Int), .int .u64 (e.set.w2.toNat : Int), .int .u64 (e.set.w3.toNat : Int), .bool e.free][j]? = some u → wr.cell? ((ad.add (k * 7)).add j) = some u from hcs)
      clear hkl hcs HA
      go_upto_region 9 with (refine wpList_load_part 39 7 _ rfl rfl (ad.add (k * 7)) rfl [.int .i64 e.fr, .int .i64 e.to, .int .u64 (e.set.w0.toNat : Int), .int .u64 (e.set.w1.toNat : Int), .int .u64 (e.set.w2.toNat : Int), .int .u64 (e.set.w3.toNat : Int), .bool e.free] (agg_edge _) (sz_edge _) rfl LX.out ?_)
      have kx := heap_alloc_new wr (.cells #[.int .i64 e.fr, .int .i64 e.to, .int .u64 (e.set.w0.toNat : Int), .int .u64 (e.set.w1.toNat : Int), .int .u64 (e.set.w2.toNat : Int), .int .u64 (e.set.w3.toNat : Int), .bool e.free] 39)
      have bx := bl_alloc (Below.refl wr.heap.size wr) (.cells #[.int .i64 e.fr, .int .i64 e.to, .int .u64 (e.set.w0.toNat : Int), .int .u64 (e.set.w1.toNat : Int), .int .u64 (e.set.w2.toNat : Int), .int .u64 (e.set.w3.toNat : Int), .bool e.free] 39)
      have K1 := Lib.hid ((bx.block g (Array.getElem?_eq_some_iff.1 KR.out).1).trans KR.out)
      have B1 := Lib.hid (bl_trans HB.out bx)
      have BR1 := Lib.hid (bl_trans' HG.out BR.out bx)
      clear KR BR bx q0 q1 LX HB
      generalize wr.alloc (.cells #[.int .i64 e.fr, .int .i64 e.to, .int .u64 (e.set.w0.toNat : Int), .int .u64 (e.set.w1.toNat : Int), .int .u64 (e.set.w2.toNat : Int), .int .u64 (e.set.w3.toNat : Int), .bool e.free] 39) = w1 at *
      generalize wr.heap.size = ge at *
      have q0 := cell_of_row w1 g 0 _ _ _ K1.out
      have e0 := cell_of_row w1 ge 0 _ _ _ kx
      have e1 := cell_of_row w1 ge 1 _ _ _ kx
      have e2 := cell_of_row w1 ge 2 _ _ _ kx
      have e3 := cell_of_row w1 ge 3 _ _ _ kx
      have e4 := cell_of_row w1 ge 4 _ _ _ kx
      have e5 := cell_of_row w1 ge 5 _ _ _ kx
      have e6 := cell_of_row w1 ge 6 _ _ _ kx
      have heq := eq_empty e.set
      simp only [List.getElem?_toArray, List.getElem?_cons_succ, List.getElem?_cons_zero] at q0 e0 e1 e2 e3 e4 e5 e6
      obtain ⟨t1, ht1⟩ : ∃ b, decide (e.fr < 0) = b := ⟨_, rfl⟩
      obtain ⟨t2, ht2⟩ : ∃ b, decide (S ≤ e.fr) = b := ⟨_, rfl⟩
      obtain ⟨t3, ht3⟩ : ∃ b, decide (e.to < 0) = b := ⟨_, rfl⟩
      obtain ⟨t4, ht4⟩ : ∃ b, decide (S ≤ e.to) = b := ⟨_, rfl⟩
      obtain ⟨t5, ht5⟩ : ∃ b, e.free = b := ⟨_, rfl⟩
      obtain ⟨t6, ht6⟩ : ∃ b, decide (e.set = nilS) = b := ⟨_, rfl⟩
      rw [ht1, ht2, ht3, ht4, ht5, ht6] at HSPL
      rw [ht6] at heq
      rw [ht5] at e6
      clear kx ht5 ht6
      have BAD : Hid (okEd S e = false → Q (.returned (.int .i64 2)) w1) := fun h => by
        refine post_is HQ ?_
        rw [HNO.out h]
        exact ⟨rfl, by rw [HG.out]; exact BR1.out⟩
      cases t1 with
      | true =>
        have BAD2 := Lib.hid (BAD.out (by rw [HSPL.out]; rfl))
        go_wp2_with fail
        exact BAD2.out
      | false =>
      cases t2 with
      | true =>
        have BAD2 := Lib.hid (BAD.out (by rw [HSPL.out]; rfl))
        go_wp2_with fail
        exact BAD2.out
      | false =>
      cases t3 with
      | true =>
        have BAD2 := Lib.hid (BAD.out (by rw [HSPL.out]; rfl))
        go_wp2_with fail
        exact BAD2.out
      | false =>
      cases t4 with
      | true =>
        have BAD2 := Lib.hid (BAD.out (by rw [HSPL.out]; rfl))
        go_wp2_with fail
        exact BAD2.out
      | false =>
      cases t5 with
      | false =>
        have HN2 := Lib.hid (HNX2.out (by rw [HSPL.out]; rfl))
        go_wp2_with fail
        exact ⟨⟨k + 1, by omega, by go_num, HN2, B1⟩, by simp [intOf]; omega⟩
      | true =>
      cases t6 with
      | true =>
        have HN2 := Lib.hid (HNX2.out (by rw [HSPL.out]; rfl))
        go_wp2_with fail
        exact ⟨⟨k + 1, by omega, by go_num, HN2, B1⟩, by simp [intOf]; omega⟩
      | false =>
        have BAD2 := Lib.hid (BAD.out (by rw [HSPL.out]; rfl))
        go_wp2_with fail
        exact BAD2.out
    · obtain rfl : k = ne := by omega
      have HAE := Lib.hid (show E.all (okEd S) = true from by have := HA.out; rwa [List.take_of_length_le (by rw [HNE.out]; exact Nat.le_refl _)] at this)
      have q1 := cell_of_row wr g 1 _ _ _ KR.out
      go_wp2_with fail
      clear q1
      go_loopw [5] (fun vi wq => ∃ j : Nat, j ≤ nx ∧ vi = .int .i64 (j : Int) ∧ Hid ((X.take j).all (okSt S) = true) ∧ Hid (Below w0.heap.size w0 wq)) (fun vi _ => nx - (intOf vi).toNat)
      case atStart => exact ⟨0, Nat.zero_le _, rfl, rfl, HB⟩
      case round =>
        obtain ⟨j, hj, rfl, HA2, HB2⟩ := hrel
        clear KR BR
        have KR := Lib.hid ((HB2.out.block g (Array.getElem?_eq_some_iff.1 K0.out).1).trans K0.out)
        have BR := Lib.hid (bl_trans' HG.out B0.out HB2.out)
        have q0 := cell_of_row wr g 0 _ _ _ KR.out
        have q2 := cell_of_row wr g 2 _ _ _ KR.out
        simp only [List.getElem?_toArray, List.getElem?_cons_succ, List.getElem?_cons_zero] at q0 q2
        by_cases hlt2 : j < nx
        · have hjl : j < X.length := by rw [HNX.out]; exact hlt2
          obtain ⟨ad, hA, hcx⟩ := (HX.out.below HB2.out) j hjl
          subst hA
          have HNO := Lib.hid (fun h => HBX.out (all_no (p := okSt S) hjl h))
          have HNX2 := Lib.hid (fun h => all_next (p := okSt S) hjl HA2.out h)
          generalize X[j] = x at *
          have HSPL := Lib.hid (st_split S x)
          clear hjl HA2
          obtain ⟨t1, ht1⟩ : ∃ b, decide (x < 0) = b := ⟨_, rfl⟩
          obtain ⟨t2, ht2⟩ : ∃ b, decide (S ≤ x) = b := ⟨_, rfl⟩
          rw [ht1, ht2] at HSPL
          have hjn : (j : Int) < (nx : Int) := by omega
          cases t1 with
          | true =>
            have HC := Lib.hid (HNO.out (by rw [HSPL.out]; rfl))
            go_wp2_with fail
            go_quiet (fail)
            go_wp2_with fail
            refine post_is HQ ?_
            rw [HC.out]
            exact ⟨rfl, by rw [HG.out]; exact bl_drewN' BR.out _⟩
          | false =>
          cases t2 with
          | true =>
            have HC := Lib.hid (HNO.out (by rw [HSPL.out]; rfl))
            go_wp2_with fail
            go_quiet (fail)
            go_wp2_with fail
            refine post_is HQ ?_
            rw [HC.out]
            exact ⟨rfl, by rw [HG.out]; exact bl_drewN' BR.out _⟩
          | false =>
            have HN2 := Lib.hid (HNX2.out (by rw [HSPL.out]; rfl))
            go_wp2_with fail
            go_quiet (fail)
            go_wp2_with fail
            exact ⟨⟨j + 1, by omega, by go_num, HN2, bl_drewN HB2.out _⟩, by simp [intOf]; omega⟩
        · obtain rfl : j = nx := by omega
          have HAX := Lib.hid (show X.all (okSt S) = true from by have := HA2.out; rwa [List.take_of_length_le (by rw [HNX.out]; exact Nat.le_refl _)] at this)
          have HC := Lib.hid (HOK.out HAE.out HAX.out)
          go_wp2_with fail
          refine post_is HQ ?_
          rw [HC.out]
          exact ⟨rfl, by rw [HG.out]; exact BR.out⟩

end Go.Proofs.YtjibfffefppniaaGreat
