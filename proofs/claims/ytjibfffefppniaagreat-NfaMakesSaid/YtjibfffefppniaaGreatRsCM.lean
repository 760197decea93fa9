/- The document's size of trees, and its Check of patterns. -/
import Derived.Test.YtjibfffefppniaaGreatRsBM
import Derived.Test.YtjibfffefppniaaGreatRsMM
set_option linter.unusedVariables false
set_option linter.unusedSimpArgs false
namespace Go.Proofs.YtjibfffefppniaaGreat
open Go.RowKit
attribute [local go_sem] Oper.semAt_some

theorem agg_rnd (w : World) : (isAgg 54).run Tryz.prog w = .ok true w := by kernel_rfl
theorem sz_rnd (w : World) : (sizeOf 54).run Tryz.prog w = .ok 7 w := by kernel_rfl
theorem nd_at {l : List RN} {i : Nat} (h : i < l.length) : ndAt l i = l[i] := by simp [ndAt, List.getD, h]
theorem size_at {l : List RN} {f i : Nat} (h : i < l.length) : sizeF l (f + 1) (i : Int) = szK l[i] (i : Int) (sizeF l f ((i : Int) - 1)) (sizeF l f ((i : Int) - 1 - (sizeF l f ((i : Int) - 1) : Nat))) := by
  rw [sizeF, if_neg (by omega), Int.toNat_natCast, nd_at h]
attribute [-go_sem] run_equalIn_agg
set_option maxRecDepth 100000 in
set_option maxHeartbeats 32000000 in
theorem rsize_any (l : List RN) (A : Option Addr) (n c : Nat) (hn : l.length = n) (h256 : n ≤ 256) : ∀ (f : Nat) (at_ : Int), at_ < f → at_ < n → -1 ≤ at_ → ∀ (W : World), RdR W A l →
    Calls Tryz.prog 41 #[.slice A n c, .int .i64 at_] W (GotE W (sizeF l f at_))
  | 0, at_, h1, h2, h3, W, hr => by
    have hat : at_ = -1 := by omega
    subst hat
    generalize hQ : GotE W (sizeF l 0 (-1)) = Q
    have HQ := Lib.hid hQ
    clear hQ hr
    go_enter Tryz.func41, Tryz.ntmps41
    go_wp2_with fail
    exact post_is HQ ⟨rfl, Below.refl _ _⟩
  | f + 1, at_, h1, h2, h3, W, hr => by
    by_cases h0 : at_ < 0
    · have hat : at_ = -1 := by omega
      subst hat
      have HZ := Lib.hid (show sizeF l (f + 1) (-1) = 0 from by rw [sizeF, if_pos (by omega)])
      generalize hQ : GotE W (sizeF l (f + 1) (-1)) = Q
      have HQ := Lib.hid hQ
      clear hQ hr
      go_enter Tryz.func41, Tryz.ntmps41
      go_wp2_with fail
      refine post_is HQ ?_
      rw [HZ.out]
      exact ⟨rfl, Below.refl _ _⟩
    obtain ⟨i, rfl⟩ : ∃ i : Nat, at_ = (i : Int) := ⟨at_.toNat, by omega⟩
    have hil : i < l.length := by omega
    have IH1 := Lib.hid (fun (W : World) (hr : RdR W A l) => rsize_any l A n c hn h256 f ((i : Int) - 1) (by omega) (by omega) (by omega) W hr)
    have hle := sizeF_le l f ((i : Int) - 1)
    have HSZ := Lib.hid (size_at (f := f) hil)
    have IH2 := Lib.hid (fun (W : World) (hr : RdR W A l) => rsize_any l A n c hn h256 f ((i : Int) - 1 - (sizeF l f ((i : Int) - 1) : Nat)) (by omega) (by omega) (by omega) W hr)
    have hle2 := sizeF_le l f ((i : Int) - 1 - (sizeF l f ((i : Int) - 1) : Nat))
    generalize hQ : GotE W (sizeF l (f + 1) (i : Int)) = Q
    have HQ := Lib.hid hQ
    have HR := Lib.hid hr
    obtain ⟨ad, hA, hcs⟩ := hr i hil
    subst hA
    generalize l[i] = nd at *
    generalize sizeF l (f + 1) (i : Int) = res at *
    generalize sizeF l f ((i : Int) - 1) = k at *
    generalize sizeF l f ((i : Int) - 1 - (k : Nat)) = m at *
    obtain ⟨kd, a, b, ⟨z0, z1, z2, z3⟩⟩ := nd
    have HIL := Lib.hid (show i < n by omega)
    have hk : k ≤ 256 := by omega
    have hm : m ≤ 256 := by omega
    have hkk : (k : Int) ≤ (i : Int) := by omega
    have hin : (i : Int) < (n : Int) := by omega
    have LX := Lib.hid (show ∀ j u, [.int .i64 kd, .int .u64 (z0.toNat : Int), .int .u64 (z1.toNat : Int), .int .u64 (z2.toNat : Int), .int .u64 (z3.toNat : Int), .int .i64 a, .int .i64 b][j]? = some u → W.cell? ((ad.add (i * 7)).add j) = some u from hcs)
    have hw1 : IntKind.i64.wrap ((i : Int) - 1) = (i : Int) - 1 := IntWalk.i64_in _ (by omega)
    have hw2 : IntKind.i64.wrap ((i : Int) - 1 - (k : Int)) = (i : Int) - 1 - (k : Int) := IntWalk.i64_in _ (by omega)
    have dneg : decide ((i : Int) < 0) = false := by simp
    clear hQ hr hcs hil hle hle2 h0 h1 h2 h3 hn
    go_enter Tryz.func41, Tryz.ntmps41
    go_upto_region 4 with (refine wpList_load_part 54 7 _ rfl rfl (ad.add (i * 7)) rfl [.int .i64 kd, .int .u64 (z0.toNat : Int), .int .u64 (z1.toNat : Int), .int .u64 (z2.toNat : Int), .int .u64 (z3.toNat : Int), .int .i64 a, .int .i64 b] (agg_rnd _) (sz_rnd _) rfl LX.out ?_)
    have kx := heap_alloc_new W (.cells #[.int .i64 kd, .int .u64 (z0.toNat : Int), .int .u64 (z1.toNat : Int), .int .u64 (z2.toNat : Int), .int .u64 (z3.toNat : Int), .int .i64 a, .int .i64 b] 54)
    have bx := bl_alloc (Below.refl W.heap.size W) (.cells #[.int .i64 kd, .int .u64 (z0.toNat : Int), .int .u64 (z1.toNat : Int), .int .u64 (z2.toNat : Int), .int .u64 (z3.toNat : Int), .int .i64 a, .int .i64 b] 54)
    have HR0 := Lib.hid (HR.out.below bx)
    have B0 := Lib.hid bx
    clear LX HR bx
    generalize W.alloc (.cells #[.int .i64 kd, .int .u64 (z0.toNat : Int), .int .u64 (z1.toNat : Int), .int .u64 (z2.toNat : Int), .int .u64 (z3.toNat : Int), .int .i64 a, .int .i64 b] 54) = w0 at *
    generalize hg : W.heap.size = g at *
    have HG := Lib.hid hg
    clear hg
    have KX := Lib.hid kx
    have e0 := cell_of_row w0 g 0 _ _ _ kx
    have e1 := cell_of_row w0 g 1 _ _ _ kx
    have e2 := cell_of_row w0 g 2 _ _ _ kx
    have e3 := cell_of_row w0 g 3 _ _ _ kx
    have e4 := cell_of_row w0 g 4 _ _ _ kx
    have e5 := cell_of_row w0 g 5 _ _ _ kx
    have e6 := cell_of_row w0 g 6 _ _ _ kx
    have heq := eq_empty ⟨z0, z1, z2, z3⟩
    simp only [List.getElem?_toArray, List.getElem?_cons_succ, List.getElem?_cons_zero] at e0 e1 e2 e3 e4 e5 e6
    obtain ⟨ts, hts⟩ : ∃ b, decide ((⟨z0, z1, z2, z3⟩ : S4) = nilS) = b := ⟨_, rfl⟩
    rw [hts] at heq
    have HTS := Lib.hid hts
    clear kx hts
    have DONE : Hid (∀ (r : Nat) (w' : World), res = r → Below g W w' → Q (.returned (.int .i64 (r : Int))) w') := fun r w' h hb => by
      subst h
      exact post_is HQ ⟨rfl, by rw [HG.out]; exact hb⟩
    have DONE0 := Lib.hid (fun (w' : World) (h : res = 0) (hb : Below g W w') => (show Q (.returned (.int .i64 0)) w' from DONE.out 0 w' h hb))
    have DONE1 := Lib.hid (fun (w' : World) (h : res = 1) (hb : Below g W w') => (show Q (.returned (.int .i64 1)) w' from DONE.out 1 w' h hb))
    clear HQ
    by_cases h1 : kd = 1
    · subst h1
      cases ts with
      | false =>
        have HZ := Lib.hid (show res = 0 from by rw [HSZ.out]; unfold szK; rw [if_pos ⟨by simp, of_decide_eq_false HTS.out⟩])
        have FIN := Lib.hid (DONE0.out w0 HZ.out B0.out)
        go_wp2_with fail
        exact FIN.out
      | true =>
      have HSN := Lib.hid (of_decide_eq_true HTS.out)
      by_cases ha : a = 0
      · have ta : (a != 0) = false := by simp [ha]
        have HAa := Lib.hid ha
        clear ha
        by_cases hb : b = 0
        · have tb : (b != 0) = false := by simp [hb]
          have HBb := Lib.hid hb
          clear hb
          have HZ := Lib.hid (show res = 1 from by rw [HSZ.out]; unfold szK; rw [HSN.out]; simp [HAa.out, HBb.out])
          have FIN := Lib.hid (DONE1.out w0 HZ.out B0.out)
          go_wp2_with fail
          exact FIN.out
        · have tb : (b != 0) = true := by simp [hb]
          have HBb := Lib.hid hb
          clear hb
          have HZ := Lib.hid (show res = 0 from by rw [HSZ.out]; unfold szK; rw [HSN.out]; simp [HBb.out])
          have FIN := Lib.hid (DONE0.out w0 HZ.out B0.out)
          go_wp2_with fail
          exact FIN.out
      · have ta : (a != 0) = true := by simp [ha]
        have HAa := Lib.hid ha
        clear ha
        have HZ := Lib.hid (show res = 0 from by rw [HSZ.out]; unfold szK; rw [HSN.out]; simp [HAa.out])
        have FIN := Lib.hid (DONE0.out w0 HZ.out B0.out)
        go_wp2_with fail
        exact FIN.out
    by_cases h2 : kd = 2
    · subst h2
      by_cases ha : a = 0
      · have ta : (a != 0) = false := by simp [ha]
        have HAa := Lib.hid ha
        clear ha
        by_cases hb : b = 0
        · have tb : (b != 0) = false := by simp [hb]
          have HBb := Lib.hid hb
          clear hb
          have HZ := Lib.hid (show res = 1 from by rw [HSZ.out]; unfold szK; simp [HAa.out, HBb.out])
          have FIN := Lib.hid (DONE1.out w0 HZ.out B0.out)
          go_wp2_with fail
          exact FIN.out
        · have tb : (b != 0) = true := by simp [hb]
          have HBb := Lib.hid hb
          clear hb
          have HZ := Lib.hid (show res = 0 from by rw [HSZ.out]; unfold szK; simp [HBb.out])
          have FIN := Lib.hid (DONE0.out w0 HZ.out B0.out)
          go_wp2_with fail
          exact FIN.out
      · have ta : (a != 0) = true := by simp [ha]
        have HAa := Lib.hid ha
        clear ha
        have HZ := Lib.hid (show res = 0 from by rw [HSZ.out]; unfold szK; simp [HAa.out])
        have FIN := Lib.hid (DONE0.out w0 HZ.out B0.out)
        go_wp2_with fail
        exact FIN.out
    by_cases h5 : kd = 5
    · subst h5
      cases ts with
      | false =>
        have HZ := Lib.hid (show res = 0 from by rw [HSZ.out]; unfold szK; rw [if_pos ⟨by simp, of_decide_eq_false HTS.out⟩])
        have FIN := Lib.hid (DONE0.out w0 HZ.out B0.out)
        go_wp2_with fail
        exact FIN.out
      | true =>
      have HSN := Lib.hid (of_decide_eq_true HTS.out)
      by_cases ha : a = (i : Int) - 1
      · have ta : (a != (i : Int) - 1) = false := by simp [ha]
        have HAa := Lib.hid ha
        clear ha
        by_cases hb : b = 0
        · have tb : (b != 0) = false := by simp [hb]
          have HBb := Lib.hid hb
          clear hb
          go_wp2_with fail
          refine (IH1.out _ HR0.out).mono ?_
          rintro er w1 ⟨rfl, hb1⟩
          have B1 := Lib.hid (show Below g W w1 from bl_trans' HG.out B0.out hb1)
          have HR1 := Lib.hid (HR0.out.below hb1)
          have K1 := Lib.hid ((hb1.block g (Array.getElem?_eq_some_iff.1 KX.out).1).trans KX.out)
          have q5 := cell_of_row w1 g 5 _ _ _ K1.out
          have q6 := cell_of_row w1 g 6 _ _ _ K1.out
          simp only [List.getElem?_toArray, List.getElem?_cons_succ, List.getElem?_cons_zero] at q5 q6
          clear hb1 HR0 KX e0 e1 e2 e3 e4 e5 e6
          by_cases hk0 : k = 0
          · subst hk0
            have HZ := Lib.hid (show res = 0 from by rw [HSZ.out]; unfold szK; rw [HSN.out]; simp [HAa.out, HBb.out])
            have FIN := Lib.hid (DONE0.out w1 HZ.out B1.out)
            go_wp2_with fail
            exact FIN.out
          · have tk : ((k : Int) == 0) = false := by simp; omega
            have HK0 := Lib.hid hk0
            clear hk0
            have HZ := Lib.hid (show res = k + 1 from by rw [HSZ.out]; unfold szK; rw [HSN.out]; simp [HAa.out, HBb.out, HK0.out])
            have FIN := Lib.hid (DONE.out (k + 1) w1 HZ.out B1.out)
            have hw3 : IntKind.i64.wrap ((k : Int) + 1) = ((k + 1 : Nat) : Int) := by rw [IntWalk.i64_in _ (by omega)]; omega
            go_wp2_with fail
            exact FIN.out
        · have tb : (b != 0) = true := by simp [hb]
          have HBb := Lib.hid hb
          clear hb
          have HZ := Lib.hid (show res = 0 from by rw [HSZ.out]; unfold szK; rw [HSN.out]; simp [HBb.out])
          have FIN := Lib.hid (DONE0.out w0 HZ.out B0.out)
          go_wp2_with fail
          exact FIN.out
      · have ta : (a != (i : Int) - 1) = true := by simp [ha]
        have HAa := Lib.hid ha
        clear ha
        have HZ := Lib.hid (show res = 0 from by rw [HSZ.out]; unfold szK; rw [HSN.out]; simp [HAa.out])
        have FIN := Lib.hid (DONE0.out w0 HZ.out B0.out)
        go_wp2_with fail
        exact FIN.out
    by_cases h6 : kd = 6
    · subst h6
      cases ts with
      | false =>
        have HZ := Lib.hid (show res = 0 from by rw [HSZ.out]; unfold szK; rw [if_pos ⟨by simp, of_decide_eq_false HTS.out⟩])
        have FIN := Lib.hid (DONE0.out w0 HZ.out B0.out)
        go_wp2_with fail
        exact FIN.out
      | true =>
      have HSN := Lib.hid (of_decide_eq_true HTS.out)
      by_cases ha : a = (i : Int) - 1
      · have ta : (a != (i : Int) - 1) = false := by simp [ha]
        have HAa := Lib.hid ha
        clear ha
        by_cases hb : b = 0
        · have tb : (b != 0) = false := by simp [hb]
          have HBb := Lib.hid hb
          clear hb
          go_wp2_with fail
          refine (IH1.out _ HR0.out).mono ?_
          rintro er w1 ⟨rfl, hb1⟩
          have B1 := Lib.hid (show Below g W w1 from bl_trans' HG.out B0.out hb1)
          have HR1 := Lib.hid (HR0.out.below hb1)
          have K1 := Lib.hid ((hb1.block g (Array.getElem?_eq_some_iff.1 KX.out).1).trans KX.out)
          have q5 := cell_of_row w1 g 5 _ _ _ K1.out
          have q6 := cell_of_row w1 g 6 _ _ _ K1.out
          simp only [List.getElem?_toArray, List.getElem?_cons_succ, List.getElem?_cons_zero] at q5 q6
          clear hb1 HR0 KX e0 e1 e2 e3 e4 e5 e6
          by_cases hk0 : k = 0
          · subst hk0
            have HZ := Lib.hid (show res = 0 from by rw [HSZ.out]; unfold szK; rw [HSN.out]; simp [HAa.out, HBb.out])
            have FIN := Lib.hid (DONE0.out w1 HZ.out B1.out)
            go_wp2_with fail
            exact FIN.out
          · have tk : ((k : Int) == 0) = false := by simp; omega
            have HK0 := Lib.hid hk0
            clear hk0
            have HZ := Lib.hid (show res = k + 1 from by rw [HSZ.out]; unfold szK; rw [HSN.out]; simp [HAa.out, HBb.out, HK0.out])
            have FIN := Lib.hid (DONE.out (k + 1) w1 HZ.out B1.out)
            have hw3 : IntKind.i64.wrap ((k : Int) + 1) = ((k + 1 : Nat) : Int) := by rw [IntWalk.i64_in _ (by omega)]; omega
            go_wp2_with fail
            exact FIN.out
        · have tb : (b != 0) = true := by simp [hb]
          have HBb := Lib.hid hb
          clear hb
          have HZ := Lib.hid (show res = 0 from by rw [HSZ.out]; unfold szK; rw [HSN.out]; simp [HBb.out])
          have FIN := Lib.hid (DONE0.out w0 HZ.out B0.out)
          go_wp2_with fail
          exact FIN.out
      · have ta : (a != (i : Int) - 1) = true := by simp [ha]
        have HAa := Lib.hid ha
        clear ha
        have HZ := Lib.hid (show res = 0 from by rw [HSZ.out]; unfold szK; rw [HSN.out]; simp [HAa.out])
        have FIN := Lib.hid (DONE0.out w0 HZ.out B0.out)
        go_wp2_with fail
        exact FIN.out
    by_cases h3 : kd = 3
    · subst h3
      cases ts with
      | false =>
        have HZ := Lib.hid (show res = 0 from by rw [HSZ.out]; unfold szK; rw [if_pos ⟨by simp, of_decide_eq_false HTS.out⟩])
        have FIN := Lib.hid (DONE0.out w0 HZ.out B0.out)
        go_wp2_with fail
        exact FIN.out
      | true =>
      have HSN := Lib.hid (of_decide_eq_true HTS.out)
      go_wp2_with fail
      refine (IH1.out _ HR0.out).mono ?_
      rintro er w1 ⟨rfl, hb1⟩
      have B1 := Lib.hid (show Below g W w1 from bl_trans' HG.out B0.out hb1)
      have HR1 := Lib.hid (HR0.out.below hb1)
      have K1 := Lib.hid ((hb1.block g (Array.getElem?_eq_some_iff.1 KX.out).1).trans KX.out)
      have q5 := cell_of_row w1 g 5 _ _ _ K1.out
      have q6 := cell_of_row w1 g 6 _ _ _ K1.out
      simp only [List.getElem?_toArray, List.getElem?_cons_succ, List.getElem?_cons_zero] at q5 q6
      clear hb1 HR0 KX e0 e1 e2 e3 e4 e5 e6
      by_cases hk0 : k = 0
      · subst hk0
        have HZ := Lib.hid (show res = 0 from by rw [HSZ.out]; unfold szK; rw [HSN.out]; simp)
        have FIN := Lib.hid (DONE0.out w1 HZ.out B1.out)
        go_wp2_with fail
        exact FIN.out
      have tk : ((k : Int) == 0) = false := by simp; omega
      have HK0 := Lib.hid hk0
      clear hk0
      by_cases hb : b = (i : Int) - 1
      rotate_left
      · have tb : (b != (i : Int) - 1) = true := by simp [hb]
        have HBb := Lib.hid hb
        clear hb
        have HZ := Lib.hid (show res = 0 from by rw [HSZ.out]; unfold szK; rw [HSN.out]; simp [HBb.out])
        have FIN := Lib.hid (DONE0.out w1 HZ.out B1.out)
        go_wp2_with fail
        exact FIN.out
      have tb : (b != (i : Int) - 1) = false := by simp [hb]
      have HBb := Lib.hid hb
      clear hb
      by_cases ha : a = (i : Int) - 1 - (k : Int)
      rotate_left
      · have ta : (a != (i : Int) - 1 - (k : Int)) = true := by simp [ha]
        have HAa := Lib.hid ha
        clear ha
        have HZ := Lib.hid (show res = 0 from by rw [HSZ.out]; unfold szK; rw [HSN.out]; simp [HAa.out])
        have FIN := Lib.hid (DONE0.out w1 HZ.out B1.out)
        go_wp2_with fail
        exact FIN.out
      have ta : (a != (i : Int) - 1 - (k : Int)) = false := by simp [ha]
      have HAa := Lib.hid ha
      clear ha
      go_wp2_with fail
      refine (IH2.out _ HR1.out).mono ?_
      rintro er w2 ⟨rfl, hb2⟩
      have B2 := Lib.hid (show Below g W w2 from bl_trans' HG.out B1.out hb2)
      clear hb2 HR1 K1 q5 q6
      by_cases hm0 : m = 0
      · subst hm0
        have HZ := Lib.hid (show res = 0 from by rw [HSZ.out]; unfold szK; rw [HSN.out]; simp)
        have FIN := Lib.hid (DONE0.out w2 HZ.out B2.out)
        go_wp2_with fail
        exact FIN.out
      have tm : ((m : Int) == 0) = false := by simp; omega
      have HM0 := Lib.hid hm0
      clear hm0
      have HZ := Lib.hid (show res = k + m + 1 from by rw [HSZ.out]; unfold szK; rw [HSN.out]; simp [HAa.out, HBb.out, HK0.out, HM0.out])
      have FIN := Lib.hid (DONE.out (k + m + 1) w2 HZ.out B2.out)
      have hw3 : IntKind.i64.wrap ((k : Int) + (m : Int)) = ((k + m : Nat) : Int) := by rw [IntWalk.i64_in _ (by omega)]; omega
      have hw4 : IntKind.i64.wrap (((k + m : Nat) : Int) + 1) = ((k + m + 1 : Nat) : Int) := by rw [IntWalk.i64_in _ (by omega)]; omega
      have hw5 : IntKind.i64.wrap ((k : Int) + (m : Int) + 1) = ((k + m + 1 : Nat) : Int) := by rw [IntWalk.i64_in _ (by omega)]; omega
      go_wp2_with fail
      exact FIN.out
    by_cases h4 : kd = 4
    · subst h4
      cases ts with
      | false =>
        have HZ := Lib.hid (show res = 0 from by rw [HSZ.out]; unfold szK; rw [if_pos ⟨by simp, of_decide_eq_false HTS.out⟩])
        have FIN := Lib.hid (DONE0.out w0 HZ.out B0.out)
        go_wp2_with fail
        exact FIN.out
      | true =>
      have HSN := Lib.hid (of_decide_eq_true HTS.out)
      go_wp2_with fail
      refine (IH1.out _ HR0.out).mono ?_
      rintro er w1 ⟨rfl, hb1⟩
      have B1 := Lib.hid (show Below g W w1 from bl_trans' HG.out B0.out hb1)
      have HR1 := Lib.hid (HR0.out.below hb1)
      have K1 := Lib.hid ((hb1.block g (Array.getElem?_eq_some_iff.1 KX.out).1).trans KX.out)
      have q5 := cell_of_row w1 g 5 _ _ _ K1.out
      have q6 := cell_of_row w1 g 6 _ _ _ K1.out
      simp only [List.getElem?_toArray, List.getElem?_cons_succ, List.getElem?_cons_zero] at q5 q6
      clear hb1 HR0 KX e0 e1 e2 e3 e4 e5 e6
      by_cases hk0 : k = 0
      · subst hk0
        have HZ := Lib.hid (show res = 0 from by rw [HSZ.out]; unfold szK; rw [HSN.out]; simp)
        have FIN := Lib.hid (DONE0.out w1 HZ.out B1.out)
        go_wp2_with fail
        exact FIN.out
      have tk : ((k : Int) == 0) = false := by simp; omega
      have HK0 := Lib.hid hk0
      clear hk0
      by_cases hb : b = (i : Int) - 1
      rotate_left
      · have tb : (b != (i : Int) - 1) = true := by simp [hb]
        have HBb := Lib.hid hb
        clear hb
        have HZ := Lib.hid (show res = 0 from by rw [HSZ.out]; unfold szK; rw [HSN.out]; simp [HBb.out])
        have FIN := Lib.hid (DONE0.out w1 HZ.out B1.out)
        go_wp2_with fail
        exact FIN.out
      have tb : (b != (i : Int) - 1) = false := by simp [hb]
      have HBb := Lib.hid hb
      clear hb
      by_cases ha : a = (i : Int) - 1 - (k : Int)
      rotate_left
      · have ta : (a != (i : Int) - 1 - (k : Int)) = true := by simp [ha]
        have HAa := Lib.hid ha
        clear ha
        have HZ := Lib.hid (show res = 0 from by rw [HSZ.out]; unfold szK; rw [HSN.out]; simp [HAa.out])
        have FIN := Lib.hid (DONE0.out w1 HZ.out B1.out)
        go_wp2_with fail
        exact FIN.out
      have ta : (a != (i : Int) - 1 - (k : Int)) = false := by simp [ha]
      have HAa := Lib.hid ha
      clear ha
      go_wp2_with fail
      refine (IH2.out _ HR1.out).mono ?_
      rintro er w2 ⟨rfl, hb2⟩
      have B2 := Lib.hid (show Below g W w2 from bl_trans' HG.out B1.out hb2)
      clear hb2 HR1 K1 q5 q6
      by_cases hm0 : m = 0
      · subst hm0
        have HZ := Lib.hid (show res = 0 from by rw [HSZ.out]; unfold szK; rw [HSN.out]; simp)
        have FIN := Lib.hid (DONE0.out w2 HZ.out B2.out)
        go_wp2_with fail
        exact FIN.out
      have tm : ((m : Int) == 0) = false := by simp; omega
      have HM0 := Lib.hid hm0
      clear hm0
      have HZ := Lib.hid (show res = k + m + 1 from by rw [HSZ.out]; unfold szK; rw [HSN.out]; simp [HAa.out, HBb.out, HK0.out, HM0.out])
      have FIN := Lib.hid (DONE.out (k + m + 1) w2 HZ.out B2.out)
      have hw3 : IntKind.i64.wrap ((k : Int) + (m : Int)) = ((k + m : Nat) : Int) := by rw [IntWalk.i64_in _ (by omega)]; omega
      have hw4 : IntKind.i64.wrap (((k + m : Nat) : Int) + 1) = ((k + m + 1 : Nat) : Int) := by rw [IntWalk.i64_in _ (by omega)]; omega
      have hw5 : IntKind.i64.wrap ((k : Int) + (m : Int) + 1) = ((k + m + 1 : Nat) : Int) := by rw [IntWalk.i64_in _ (by omega)]; omega
      go_wp2_with fail
      exact FIN.out
    have n1 : (kd == 1) = false := by simp [h1]
    have n2 : (kd == 2) = false := by simp [h2]
    have n2' : (kd != 2) = true := by simp [h2]
    have n3 : (kd == 3) = false := by simp [h3]
    have n4 : (kd == 4) = false := by simp [h4]
    have n5 : (kd == 5) = false := by simp [h5]
    have n6 : (kd == 6) = false := by simp [h6]
    have HZ := Lib.hid (show res = 0 from by rw [HSZ.out]; simp [szK, h1, h2, h3, h4, h5, h6])
    have FIN := Lib.hid (DONE0.out w0 HZ.out B0.out)
    clear h1 h2 h3 h4 h5 h6
    cases ts with
    | false =>
      go_wp2_with fail
      exact FIN.out
    | true =>
      go_wp2_with fail
      exact FIN.out

set_option maxRecDepth 100000 in
set_option maxHeartbeats 4000000 in
theorem rcheck9_any (l : List RN) (A : Option Addr) (n c : Nat) (hn : l.length = n) (hn2 : n ≤ 140737488355328) (W : World) (hr : RdR W A l) :
    Calls Tryz.prog 21 #[.agg #[.slice A n c]] W (GotE W (checkE l)) := by
  generalize hQ : GotE W (checkE l) = Q
  have HQ := Lib.hid hQ
  have b0 := bl_alloc (Below.refl W.heap.size W) (.cells #[.slice A n c] 25)
  have k0 := heap_alloc_new W (.cells #[.slice A n c] 25)
  have HR := Lib.hid (hr.below b0)
  have B0 := Lib.hid b0
  have HN := Lib.hid hn
  have c0 := cell_of_row _ W.heap.size 0 _ _ _ k0
  clear hQ hr b0 k0 hn
  go_enter Tryz.func21, Tryz.ntmps21
  go_upto_region 1 with fail
  generalize W.alloc (.cells #[.slice A n c] 25) = w0 at *
  generalize hg : W.heap.size = g at *
  have HG := Lib.hid hg
  clear hg
  by_cases h256 : 256 < n
  · have d1 : decide ((256 : Int) < (n : Int)) = true := by simp; omega
    have d1' : decide (256 < n) = true := by simpa using h256
    have HC := Lib.hid (show checkE l = 5 by rw [checkE, HN.out, if_pos h256])
    go_wp2_with fail
    refine post_is HQ ?_
    rw [HC.out]
    exact ⟨rfl, by rw [HG.out]; exact B0.out⟩
  have d1 : decide ((256 : Int) < (n : Int)) = false := by simp; omega
  have d1' : decide (256 < n) = false := by simp; omega
  by_cases h0 : n = 0
  · subst h0
    have HC := Lib.hid (show checkE l = 2 by
      have : l = [] := List.length_eq_zero_iff.1 HN.out
      subst this
      rfl)
    go_wp2_with fail
    go_quiet (fail)
    go_wp2_with fail
    refine post_is HQ ?_
    rw [HC.out]
    exact ⟨rfl, by rw [HG.out]; exact bl_drewN' B0.out _⟩
  have t0 : ((n : Int) == 0) = false := by simp; omega
  have hw : IntKind.i64.wrap ((n : Int) - 1) = (n : Int) - 1 := IntWalk.i64_in _ (by omega)
  have HCA := Lib.hid (fun (w : World) (hr : RdR w A l) => rsize_any l A n c HN.out (by omega) (n + 1) ((n : Int) - 1) (by omega) (by omega) (by omega) w hr)
  have HST := Lib.hid (show sizeF l (n + 1) ((n : Int) - 1) = n ↔ oneTree l = true from by
    have h := size_tree l (fun e => h0 (by rw [← HN.out, e]; rfl))
    rw [HN.out] at h
    exact h)
  have HCE := Lib.hid (show checkE l = if oneTree l = true then 0 else 2 from by rw [checkE, HN.out, if_neg h256])
  have hle := sizeF_le l (n + 1) ((n : Int) - 1)
  generalize sizeF l (n + 1) ((n : Int) - 1) = k at *
  have hk : k ≤ 256 := by omega
  clear hle
  by_cases hkn : k = n
  · have t1 : ((k : Int) != (n : Int)) = false := by simp; omega
    have HC := Lib.hid (show checkE l = 0 by rw [HCE.out, if_pos (HST.out.1 hkn)])
    clear hkn
    go_wp2_with fail
    refine wp_region_held_drew (S := fun W' => W'.cell? ⟨g, 0, none⟩ = some (.slice A n c)) (by kernel_rfl) c0 (fun hHeld => ?_)
    have HRD := Lib.hid (HR.out.below (Below.drew (Below.refl w0.heap.size w0)))
    have BD := Lib.hid (show Below g W w0.drew from bl_drewN' B0.out 1)
    have HC2 := Lib.hid (HCA.out w0.drew HRD.out)
    clear c0 HR B0
    generalize w0.drew = wd at *
    try simp only [List.getElem_toArray, List.getElem_cons_zero, List.getElem_cons_succ, Act.put, List.setIfInBounds_toArray, List.set_cons_zero, List.set_cons_succ]
    refine wpAnyH_take (i := 0) (v := ?vzq1x0) rfl (by kernel_rfl) (by kernel_rfl) (by kernel_rfl) (fun _ _ _ h => h) (Or.inl ⟨by rfl, ?yzq1x0⟩) hHeld ?rzq1x0
    case yzq1x0 => (intro wS hSw; have q1 := hSw; clear hSw; go_simp; try (with_reducible rfl))
    try simp only [List.getElem_toArray, List.getElem_cons_zero, List.getElem_cons_succ, Act.put, List.setIfInBounds_toArray, List.set_cons_zero, List.set_cons_succ]
    refine wpAnyH_take (i := 1) (v := ?vzq1x1) rfl (by kernel_rfl) (by kernel_rfl) (by kernel_rfl) (fun _ _ _ h => h) (Or.inl ⟨by rfl, ?yzq1x1⟩) hHeld ?rzq1x1
    case yzq1x1 => (intro wS hSw; have q1 := hSw; clear hSw; go_simp; try (with_reducible rfl))
    try simp only [List.getElem_toArray, List.getElem_cons_zero, List.getElem_cons_succ, Act.put, List.setIfInBounds_toArray, List.set_cons_zero, List.set_cons_succ]
    refine wpAnyH_take (i := 2) (v := ?vzq1x2) rfl (by kernel_rfl) (by kernel_rfl) (by kernel_rfl) (fun _ _ _ h => h) (Or.inl ⟨by rfl, ?yzq1x2⟩) hHeld ?rzq1x2
    case yzq1x2 => (intro wS hSw; have q1 := hSw; clear hSw; go_simp; try (with_reducible rfl))
    try simp only [List.getElem_toArray, List.getElem_cons_zero, List.getElem_cons_succ, Act.put, List.setIfInBounds_toArray, List.set_cons_zero, List.set_cons_succ]
    refine wpAnyH_take (i := 3) (v := ?vzq1x3) rfl (by kernel_rfl) (by kernel_rfl) (by kernel_rfl) (fun _ _ _ h => h) (Or.inl ⟨by rfl, ?yzq1x3⟩) hHeld ?rzq1x3
    case yzq1x3 => (intro wS hSw; have q1 := hSw; clear hSw; go_simp; try (with_reducible rfl))
    try simp only [List.getElem_toArray, List.getElem_cons_zero, List.getElem_cons_succ, Act.put, List.setIfInBounds_toArray, List.set_cons_zero, List.set_cons_succ]
    refine wpAnyH_take (i := 4) (v := ?vzq1x4) rfl (by kernel_rfl) (by kernel_rfl) (by kernel_rfl) (fun _ _ _ h => h) (Or.inl ⟨by rfl, ?yzq1x4⟩) hHeld ?rzq1x4
    case yzq1x4 => (intro wS hSw; have q1 := hSw; clear hSw; go_simp; try (with_reducible rfl))
    try simp only [List.getElem_toArray, List.getElem_cons_zero, List.getElem_cons_succ, Act.put, List.setIfInBounds_toArray, List.set_cons_zero, List.set_cons_succ]
    refine wpAnyH_take (i := 5) (v := ?vzq1x5) rfl (by kernel_rfl) (by kernel_rfl) (by kernel_rfl) (fun _ _ _ h => h) (Or.inl ⟨by rfl, ?yzq1x5⟩) hHeld ?rzq1x5
    case yzq1x5 => (intro wS hSw; have q1 := hSw; clear hSw; go_simp; try (with_reducible rfl))
    try simp only [List.getElem_toArray, List.getElem_cons_zero, List.getElem_cons_succ, Act.put, List.setIfInBounds_toArray, List.set_cons_zero, List.set_cons_succ]
    refine wpAnyH_take (i := 6) (v := ?vzq1x6) rfl (by kernel_rfl) (by kernel_rfl) (by kernel_rfl) (fun _ _ _ h => h) (Or.inl ⟨by rfl, ?yzq1x6⟩) hHeld ?rzq1x6
    case yzq1x6 => (intro wS hSw; have q1 := hSw; clear hSw; go_simp; try (with_reducible rfl))
    try simp only [List.getElem_toArray, List.getElem_cons_zero, List.getElem_cons_succ, Act.put, List.setIfInBounds_toArray, List.set_cons_zero, List.set_cons_succ]
    refine wpAnyH_take (i := 7) (v := ?vzq1x7) rfl (by kernel_rfl) (by kernel_rfl) (by kernel_rfl) (fun _ _ _ h => h) (Or.inl ⟨by rfl, ?yzq1x7⟩) hHeld ?rzq1x7
    case yzq1x7 => (intro wS hSw; have q1 := hSw; clear hSw; go_simp; try (with_reducible rfl))
    try simp only [List.getElem_toArray, List.getElem_cons_zero, List.getElem_cons_succ, Act.put, List.setIfInBounds_toArray, List.set_cons_zero, List.set_cons_succ]
    refine wpAnyH_take (i := 8) (v := ?vzq1x8) rfl (by kernel_rfl) (by kernel_rfl) (by kernel_rfl) (fun _ _ _ h => h) (Or.inl ⟨by rfl, ?yzq1x8⟩) hHeld ?rzq1x8
    case yzq1x8 => (intro wS hSw; have q1 := hSw; clear hSw; go_simp; try (with_reducible rfl))
    try simp only [List.getElem_toArray, List.getElem_cons_zero, List.getElem_cons_succ, Act.put, List.setIfInBounds_toArray, List.set_cons_zero, List.set_cons_succ]
    refine wpAnyH_take (i := 9) (v := ?vzq1x9) rfl (by kernel_rfl) (by kernel_rfl) (by kernel_rfl) (fun _ _ _ h => h) (Or.inl ⟨by rfl, ?yzq1x9⟩) hHeld ?rzq1x9
    case yzq1x9 => (intro wS hSw; have q1 := hSw; clear hSw; go_simp; try (with_reducible rfl))
    try simp only [List.getElem_toArray, List.getElem_cons_zero, List.getElem_cons_succ, Act.put, List.setIfInBounds_toArray, List.set_cons_zero, List.set_cons_succ]
    refine wpAnyH_take (i := 10) (v := ?vzq1x10) rfl (by kernel_rfl) (by kernel_rfl) (by kernel_rfl) (fun _ _ _ h => h) (Or.inl ⟨by rfl, ?yzq1x10⟩) hHeld ?rzq1x10
    case yzq1x10 => (intro wS hSw; have q1 := hSw; clear hSw; go_simp; try (with_reducible rfl))
    try simp only [List.getElem_toArray, List.getElem_cons_zero, List.getElem_cons_succ, Act.put, List.setIfInBounds_toArray, List.set_cons_zero, List.set_cons_succ]
    refine wpAnyH_take (i := 12) (v := ?vzq1x12) rfl (by kernel_rfl) (by kernel_rfl) (by kernel_rfl) (fun _ _ _ h => h) (Or.inl ⟨by rfl, ?yzq1x12⟩) hHeld ?rzq1x12
    case yzq1x12 => (intro wS hSw; have q1 := hSw; clear hSw; go_simp; try (with_reducible rfl))
    try simp only [List.getElem_toArray, List.getElem_cons_zero, List.getElem_cons_succ, Act.put, List.setIfInBounds_toArray, List.set_cons_zero, List.set_cons_succ]
    refine wpAnyH_take (i := 13) (v := ?vzq1x13) rfl (by kernel_rfl) (by kernel_rfl) (by kernel_rfl) (fun _ _ _ h => h) (Or.inl ⟨by rfl, ?yzq1x13⟩) hHeld ?rzq1x13
    case yzq1x13 => (intro wS hSw; have q1 := hSw; clear hSw; go_simp; try (with_reducible rfl))
    try simp only [List.getElem_toArray, List.getElem_cons_zero, List.getElem_cons_succ, Act.put, List.setIfInBounds_toArray, List.set_cons_zero, List.set_cons_succ]
    refine wpAnyH_take (i := 14) (v := ?vzq1x14) rfl (by kernel_rfl) (by kernel_rfl) (by kernel_rfl) (fun _ _ _ h => h) (Or.inl ⟨by rfl, ?yzq1x14⟩) hHeld ?rzq1x14
    case yzq1x14 => (intro wS hSw; have q1 := hSw; clear hSw; go_simp; try (with_reducible rfl))
    try simp only [List.getElem_toArray, List.getElem_cons_zero, List.getElem_cons_succ, Act.put, List.setIfInBounds_toArray, List.set_cons_zero, List.set_cons_succ]
    refine wpAnyH_ready (rs := [11]) (by kernel_rfl) (by simp) (AllReadyH.cons rfl (fun K hK => ?_) AllReadyH.nil)
    go_simp
    go_at_call 41
    refine HC2.out.mono ?_
    rintro er w1 ⟨rfl, hb⟩
    have hS1 := (hb.cell (World.block_lt_of_cell? _ _ hHeld)).trans hHeld
    have B1 := Lib.hid (show Below g W w1 from bl_trans' HG.out BD.out hb)
    clear hHeld hb
    go_wp2_with fail
    refine hK.out _ _ hS1 (fun hHeld => ?_)
    clear hK K hS1
    try simp only [List.getElem_toArray, List.getElem_cons_zero, List.getElem_cons_succ, Act.put, List.setIfInBounds_toArray, List.set_cons_zero, List.set_cons_succ]
    refine wpAnyH_take (i := 15) (v := ?vzq1x15) rfl (by kernel_rfl) (by kernel_rfl) (by kernel_rfl) (fun _ _ _ h => h) (Or.inl ⟨by rfl, ?yzq1x15⟩) hHeld ?rzq1x15
    case yzq1x15 => (intro wS hSw; clear hSw; go_simp; try (with_reducible rfl))
    try simp only [List.getElem_toArray, List.getElem_cons_zero, List.getElem_cons_succ, Act.put, List.setIfInBounds_toArray, List.set_cons_zero, List.set_cons_succ]
    refine wpAnyH_take (i := 16) (v := ?vzq1x16) rfl (by kernel_rfl) (by kernel_rfl) (by kernel_rfl) (fun _ _ _ h => h) (Or.inl ⟨by rfl, ?yzq1x16⟩) hHeld ?rzq1x16
    case yzq1x16 => (intro wS hSw; clear hSw; go_simp; try (with_reducible rfl))
    try simp only [List.getElem_toArray, List.getElem_cons_zero, List.getElem_cons_succ, Act.put, List.setIfInBounds_toArray, List.set_cons_zero, List.set_cons_succ]
    refine wpAnyH_done (by kernel_rfl) ?_ _
    go_wp2_with  fail
    refine post_is HQ ?_
    rw [HC.out]
    exact ⟨rfl, by rw [HG.out]; exact B1.out⟩
  · have t1 : ((k : Int) != (n : Int)) = true := by simp; omega
    have HC := Lib.hid (show checkE l = 2 by rw [HCE.out, if_neg (fun h => hkn (HST.out.2 h))])
    clear hkn
    go_wp2_with fail
    refine wp_region_held_drew (S := fun W' => W'.cell? ⟨g, 0, none⟩ = some (.slice A n c)) (by kernel_rfl) c0 (fun hHeld => ?_)
    have HRD := Lib.hid (HR.out.below (Below.drew (Below.refl w0.heap.size w0)))
    have BD := Lib.hid (show Below g W w0.drew from bl_drewN' B0.out 1)
    have HC2 := Lib.hid (HCA.out w0.drew HRD.out)
    clear c0 HR B0
    generalize w0.drew = wd at *
    try simp only [List.getElem_toArray, List.getElem_cons_zero, List.getElem_cons_succ, Act.put, List.setIfInBounds_toArray, List.set_cons_zero, List.set_cons_succ]
    refine wpAnyH_take (i := 0) (v := ?vzq2x0) rfl (by kernel_rfl) (by kernel_rfl) (by kernel_rfl) (fun _ _ _ h => h) (Or.inl ⟨by rfl, ?yzq2x0⟩) hHeld ?rzq2x0
    case yzq2x0 => (intro wS hSw; have q1 := hSw; clear hSw; go_simp; try (with_reducible rfl))
    try simp only [List.getElem_toArray, List.getElem_cons_zero, List.getElem_cons_succ, Act.put, List.setIfInBounds_toArray, List.set_cons_zero, List.set_cons_succ]
    refine wpAnyH_take (i := 1) (v := ?vzq2x1) rfl (by kernel_rfl) (by kernel_rfl) (by kernel_rfl) (fun _ _ _ h => h) (Or.inl ⟨by rfl, ?yzq2x1⟩) hHeld ?rzq2x1
    case yzq2x1 => (intro wS hSw; have q1 := hSw; clear hSw; go_simp; try (with_reducible rfl))
    try simp only [List.getElem_toArray, List.getElem_cons_zero, List.getElem_cons_succ, Act.put, List.setIfInBounds_toArray, List.set_cons_zero, List.set_cons_succ]
    refine wpAnyH_take (i := 2) (v := ?vzq2x2) rfl (by kernel_rfl) (by kernel_rfl) (by kernel_rfl) (fun _ _ _ h => h) (Or.inl ⟨by rfl, ?yzq2x2⟩) hHeld ?rzq2x2
    case yzq2x2 => (intro wS hSw; have q1 := hSw; clear hSw; go_simp; try (with_reducible rfl))
    try simp only [List.getElem_toArray, List.getElem_cons_zero, List.getElem_cons_succ, Act.put, List.setIfInBounds_toArray, List.set_cons_zero, List.set_cons_succ]
    refine wpAnyH_take (i := 3) (v := ?vzq2x3) rfl (by kernel_rfl) (by kernel_rfl) (by kernel_rfl) (fun _ _ _ h => h) (Or.inl ⟨by rfl, ?yzq2x3⟩) hHeld ?rzq2x3
    case yzq2x3 => (intro wS hSw; have q1 := hSw; clear hSw; go_simp; try (with_reducible rfl))
    try simp only [List.getElem_toArray, List.getElem_cons_zero, List.getElem_cons_succ, Act.put, List.setIfInBounds_toArray, List.set_cons_zero, List.set_cons_succ]
    refine wpAnyH_take (i := 4) (v := ?vzq2x4) rfl (by kernel_rfl) (by kernel_rfl) (by kernel_rfl) (fun _ _ _ h => h) (Or.inl ⟨by rfl, ?yzq2x4⟩) hHeld ?rzq2x4
    case yzq2x4 => (intro wS hSw; have q1 := hSw; clear hSw; go_simp; try (with_reducible rfl))
    try simp only [List.getElem_toArray, List.getElem_cons_zero, List.getElem_cons_succ, Act.put, List.setIfInBounds_toArray, List.set_cons_zero, List.set_cons_succ]
    refine wpAnyH_take (i := 5) (v := ?vzq2x5) rfl (by kernel_rfl) (by kernel_rfl) (by kernel_rfl) (fun _ _ _ h => h) (Or.inl ⟨by rfl, ?yzq2x5⟩) hHeld ?rzq2x5
    case yzq2x5 => (intro wS hSw; have q1 := hSw; clear hSw; go_simp; try (with_reducible rfl))
    try simp only [List.getElem_toArray, List.getElem_cons_zero, List.getElem_cons_succ, Act.put, List.setIfInBounds_toArray, List.set_cons_zero, List.set_cons_succ]
    refine wpAnyH_take (i := 6) (v := ?vzq2x6) rfl (by kernel_rfl) (by kernel_rfl) (by kernel_rfl) (fun _ _ _ h => h) (Or.inl ⟨by rfl, ?yzq2x6⟩) hHeld ?rzq2x6
    case yzq2x6 => (intro wS hSw; have q1 := hSw; clear hSw; go_simp; try (with_reducible rfl))
    try simp only [List.getElem_toArray, List.getElem_cons_zero, List.getElem_cons_succ, Act.put, List.setIfInBounds_toArray, List.set_cons_zero, List.set_cons_succ]
    refine wpAnyH_take (i := 7) (v := ?vzq2x7) rfl (by kernel_rfl) (by kernel_rfl) (by kernel_rfl) (fun _ _ _ h => h) (Or.inl ⟨by rfl, ?yzq2x7⟩) hHeld ?rzq2x7
    case yzq2x7 => (intro wS hSw; have q1 := hSw; clear hSw; go_simp; try (with_reducible rfl))
    try simp only [List.getElem_toArray, List.getElem_cons_zero, List.getElem_cons_succ, Act.put, List.setIfInBounds_toArray, List.set_cons_zero, List.set_cons_succ]
    refine wpAnyH_take (i := 8) (v := ?vzq2x8) rfl (by kernel_rfl) (by kernel_rfl) (by kernel_rfl) (fun _ _ _ h => h) (Or.inl ⟨by rfl, ?yzq2x8⟩) hHeld ?rzq2x8
    case yzq2x8 => (intro wS hSw; have q1 := hSw; clear hSw; go_simp; try (with_reducible rfl))
    try simp only [List.getElem_toArray, List.getElem_cons_zero, List.getElem_cons_succ, Act.put, List.setIfInBounds_toArray, List.set_cons_zero, List.set_cons_succ]
    refine wpAnyH_take (i := 9) (v := ?vzq2x9) rfl (by kernel_rfl) (by kernel_rfl) (by kernel_rfl) (fun _ _ _ h => h) (Or.inl ⟨by rfl, ?yzq2x9⟩) hHeld ?rzq2x9
    case yzq2x9 => (intro wS hSw; have q1 := hSw; clear hSw; go_simp; try (with_reducible rfl))
    try simp only [List.getElem_toArray, List.getElem_cons_zero, List.getElem_cons_succ, Act.put, List.setIfInBounds_toArray, List.set_cons_zero, List.set_cons_succ]
    refine wpAnyH_take (i := 10) (v := ?vzq2x10) rfl (by kernel_rfl) (by kernel_rfl) (by kernel_rfl) (fun _ _ _ h => h) (Or.inl ⟨by rfl, ?yzq2x10⟩) hHeld ?rzq2x10
    case yzq2x10 => (intro wS hSw; have q1 := hSw; clear hSw; go_simp; try (with_reducible rfl))
    try simp only [List.getElem_toArray, List.getElem_cons_zero, List.getElem_cons_succ, Act.put, List.setIfInBounds_toArray, List.set_cons_zero, List.set_cons_succ]
    refine wpAnyH_take (i := 12) (v := ?vzq2x12) rfl (by kernel_rfl) (by kernel_rfl) (by kernel_rfl) (fun _ _ _ h => h) (Or.inl ⟨by rfl, ?yzq2x12⟩) hHeld ?rzq2x12
    case yzq2x12 => (intro wS hSw; have q1 := hSw; clear hSw; go_simp; try (with_reducible rfl))
    try simp only [List.getElem_toArray, List.getElem_cons_zero, List.getElem_cons_succ, Act.put, List.setIfInBounds_toArray, List.set_cons_zero, List.set_cons_succ]
    refine wpAnyH_take (i := 13) (v := ?vzq2x13) rfl (by kernel_rfl) (by kernel_rfl) (by kernel_rfl) (fun _ _ _ h => h) (Or.inl ⟨by rfl, ?yzq2x13⟩) hHeld ?rzq2x13
    case yzq2x13 => (intro wS hSw; have q1 := hSw; clear hSw; go_simp; try (with_reducible rfl))
    try simp only [List.getElem_toArray, List.getElem_cons_zero, List.getElem_cons_succ, Act.put, List.setIfInBounds_toArray, List.set_cons_zero, List.set_cons_succ]
    refine wpAnyH_take (i := 14) (v := ?vzq2x14) rfl (by kernel_rfl) (by kernel_rfl) (by kernel_rfl) (fun _ _ _ h => h) (Or.inl ⟨by rfl, ?yzq2x14⟩) hHeld ?rzq2x14
    case yzq2x14 => (intro wS hSw; have q1 := hSw; clear hSw; go_simp; try (with_reducible rfl))
    try simp only [List.getElem_toArray, List.getElem_cons_zero, List.getElem_cons_succ, Act.put, List.setIfInBounds_toArray, List.set_cons_zero, List.set_cons_succ]
    refine wpAnyH_ready (rs := [11]) (by kernel_rfl) (by simp) (AllReadyH.cons rfl (fun K hK => ?_) AllReadyH.nil)
    go_simp
    go_at_call 41
    refine HC2.out.mono ?_
    rintro er w1 ⟨rfl, hb⟩
    have hS1 := (hb.cell (World.block_lt_of_cell? _ _ hHeld)).trans hHeld
    have B1 := Lib.hid (show Below g W w1 from bl_trans' HG.out BD.out hb)
    clear hHeld hb
    go_wp2_with fail
    refine hK.out _ _ hS1 (fun hHeld => ?_)
    clear hK K hS1
    try simp only [List.getElem_toArray, List.getElem_cons_zero, List.getElem_cons_succ, Act.put, List.setIfInBounds_toArray, List.set_cons_zero, List.set_cons_succ]
    refine wpAnyH_take (i := 15) (v := ?vzq2x15) rfl (by kernel_rfl) (by kernel_rfl) (by kernel_rfl) (fun _ _ _ h => h) (Or.inl ⟨by rfl, ?yzq2x15⟩) hHeld ?rzq2x15
    case yzq2x15 => (intro wS hSw; clear hSw; go_simp; try (with_reducible rfl))
    try simp only [List.getElem_toArray, List.getElem_cons_zero, List.getElem_cons_succ, Act.put, List.setIfInBounds_toArray, List.set_cons_zero, List.set_cons_succ]
    refine wpAnyH_take (i := 16) (v := ?vzq2x16) rfl (by kernel_rfl) (by kernel_rfl) (by kernel_rfl) (fun _ _ _ h => h) (Or.inl ⟨by rfl, ?yzq2x16⟩) hHeld ?rzq2x16
    case yzq2x16 => (intro wS hSw; clear hSw; go_simp; try (with_reducible rfl))
    try simp only [List.getElem_toArray, List.getElem_cons_zero, List.getElem_cons_succ, Act.put, List.setIfInBounds_toArray, List.set_cons_zero, List.set_cons_succ]
    refine wpAnyH_done (by kernel_rfl) ?_ _
    go_wp2_with  fail
    refine post_is HQ ?_
    rw [HC.out]
    exact ⟨rfl, by rw [HG.out]; exact B1.out⟩

end Go.Proofs.YtjibfffefppniaaGreat
