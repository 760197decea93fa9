/- Machines: the law on classes of bytes: the walk. -/
import Derived.Test.YtcgfogdfcdndgaaGreatDoorDhFP
set_option linter.unusedVariables false
set_option linter.unusedSimpArgs false
namespace Go.Proofs.YtcgfogdfcdndgaaGreatDoor
open Go.RowKit
attribute [local go_sem] Oper.semAt_some

theorem bit_val (x : BitVec 64) (k : Nat) : bits .and .u64 ((x.toNat : Int) / 2 ^ k) 1 = if x.getLsbD k = true then 1 else 0 := by
  have e1 : (1 : Int) = ((1#64).toNat : Int) := rfl
  rw [← half64]
  conv => lhs; rw [e1]
  rw [and64]
  have e2 : (x >>> k &&& 1#64) = if x.getLsbD k = true then 1#64 else 0#64 := by
    apply BitVec.eq_of_getLsbD_eq
    intro i hi
    rw [BitVec.getLsbD_and, BitVec.getLsbD_ushiftRight]
    by_cases h0 : i = 0
    · subst h0
      rw [Nat.add_zero]
      cases x.getLsbD k <;> simp
    · have h1 : (1#64).getLsbD i = false := by
        rw [BitVec.getLsbD_one]
        simp [h0]
      rw [h1, Bool.and_false]
      split <;> simp [h1]
  rw [e2]
  split <;> rfl
theorem all_step {α : Type} (l : List α) (p : α → Bool) {k : Nat} (hk : k < l.length) : (l.take (k + 1)).all p = ((l.take k).all p && p l[k]) := by
  rw [List.take_succ_eq_append_getElem hk, List.all_append]
  simp
set_option maxHeartbeats 16000000 in
set_option maxRecDepth 20000 in
theorem dclasses_walk (S : Int) (A A2 : Option Addr) (n c n2 c2 : Nat) (E : List Ed) (X : List Int) (a b : Nat) (ha : a < 256) (hb2 : b < 256) (W : World) (hTab : Tab W) (he : E.length = n ∧ n ≤ c ∧ c * 56 ≤ 140737488351232 ∧ RdE W A E) (hx : X.length = n2 ∧ n2 ≤ c2 ∧ c2 * 8 ≤ 140737488351232 ∧ RdW W A2 X) :
    Calls Tryz.prog 8 #[.agg #[.int .i64 S, .slice A n c, .slice A2 n2 c2], .int .u8 (a : Int), .int .u8 (b : Int)] W (Yes W) := by
  generalize hQ : Yes W = Q
  have HQ := Lib.hid hQ
  have b0 := bl_alloc (Below.refl W.heap.size W) (.cells #[.int .i64 S, .slice A n c, .slice A2 n2 c2] 25)
  obtain ⟨he1, he2, he3, he4⟩ := he
  obtain ⟨hx1, hx2, hx3, hx4⟩ := hx
  have N0 := Lib.hid (show NetB W W.heap.size S E X A A2 n c n2 c2 (W.alloc (.cells #[.int .i64 S, .slice A n c, .slice A2 n2 c2] 25)) from
    ⟨heap_alloc_new W _, he4.below b0, hx4.below b0, b0, he1, hx1, he2, hx2, by omega, by omega⟩)
  have TB0 := Lib.hid (hTab.below b0)
  have hz := zeroD
  clear he1 he2 he4 hx1 hx2 hx4 b0 hTab hQ
  go_enter Tryz.func8, Tryz.ntmps8
  go_upto_region 1 with fail
  generalize W.alloc (.cells #[.int .i64 S, .slice A n c, .slice A2 n2 c2] 25) = w0 at *
  generalize W.heap.size = g at *
  go_wp2_with fail
  refine (works_any _ TB0.out).mono ?_
  rintro e w1 ⟨rfl, hb⟩
  have N1 := Lib.hid (N0.out.then hb)
  have TB1 := Lib.hid (TB0.out.below hb)
  clear hb N0 TB0
  have L1 := Lib.hid N1.out.load
  go_wp2_with (refine wpList_load_part 25 3 _ rfl rfl ⟨g, 0, none⟩ rfl [.int .i64 S, .slice A n c, .slice A2 n2 c2] (agg_net _) (sz_net _) rfl L1.out ?_)
  refine N1.out.check.mono ?_
  rintro e w2 ⟨rfl, hb⟩
  have N2 := Lib.hid (N1.out.then hb)
  have TB2 := Lib.hid (TB1.out.below hb)
  clear hb N1 L1 TB1
  obtain ⟨ck, hck⟩ : ∃ x, checkN S E X = x := ⟨_, rfl⟩
  have HK := Lib.hid hck
  rw [hck]
  clear hck
  by_cases hz0 : ck = 0
  · subst hz0
    have hb1 : ((0 : Int) != 0) = false := rfl
    have L2 := Lib.hid N2.out.load
    go_wp2_with (refine wpList_load_partG 25 3 _ (by rfl) rfl ⟨g, 0, none⟩ rfl [.int .i64 S, .slice A n c, .slice A2 n2 c2] (agg_net _) (sz_net _) rfl L2.out ?_)
    refine (small_any S E X A A2 n c n2 c2 N2.out.ln w2).mono ?_
    rintro e w3 ⟨rfl, hb⟩
    have N3 := Lib.hid (N2.out.then hb)
    have TB3 := Lib.hid (TB2.out.below hb)
    clear hb N2 L2 TB2
    cases (decide (E.length ≤ 200) && decide (S ≤ 200)) with
    | false =>
      go_wp2_with fail
      exact post_is HQ ⟨rfl, N3.out.low⟩
    | true =>
      obtain ⟨s, hs, h1, h2, h3, h4, h5, _⟩ := check_ok HK.out
      subst hs
      have L3 := Lib.hid N3.out.load
      go_wp2_with (refine wpList_load_part 25 3 _ rfl rfl ⟨g, 0, none⟩ rfl [.int .i64 (s : Int), .slice A n c, .slice A2 n2 c2] (agg_net _) (sz_net _) rfl L3.out ?_)
      refine (of_net (s : Int) E X A A2 n c n2 c2 N3.out.ln N3.out.lx N3.out.cn N3.out.cx N3.out.bn N3.out.bx w3 N3.out.re N3.out.rx TB3.out).mono ?_
      rintro e w4 ⟨hb4, h | ⟨_, s2, hs2, _, h⟩⟩
      · exact absurd HK.out h.1
      obtain rfl : s = s2 := by omega
      have N4 := Lib.hid (N3.out.then hb4)
      clear hs2 L3 N3 TB3
      have K2 := heap_alloc_new w4 (.cells dz 33)
      rcases h with ⟨hno, rfl⟩ | ⟨F, n1, vT, vR, ex, hF, rfl, _, hT1, hR1, _⟩
      · have ZS := zero_stored N4.out.low
        go_wp2_with (refine wpList_store_row rfl 33 _ _ rfl w4.heap.size dz rfl rfl _ _ K2 (by rw [sizeD, dz_size]) rfl dz_one ?_)
        exact post_is HQ ⟨rfl, ZS.out.low⟩
      · have hFl := found_len hF
        have hTl : (tabD s E F).length = F.length := by unfold tabD; rw [List.length_map]
        have hRl : (rulesD F X).length = F.length := by unfold rulesD; rw [List.length_map]
        obtain ⟨An, nn, cn, Ax, nx, cx, dv, rfl, rfl, hdv, hds, hdo, MB⟩ := mach_stored (cl := fun c => ((classE E c : Nat) : Int)) hT1 hR1 N4.out.low (by omega) (by omega)
        have bs : Below w4.heap.size w4 ((w4.alloc (.cells dz 33)).setRow w4.heap.size dv) := bl_setRow (bl_alloc (Below.refl _ _) _) (Nat.le_refl _) _
        have N5 := Lib.hid (N4.out.then bs)
        rw [hdv]
        clear hT1 hR1 hTl hRl hF h4 N4 bs hFl
        go_upto_region 6 with (refine wpList_store_row rfl 33 _ _ rfl w4.heap.size dv rfl rfl _ _ K2 (by rw [sizeD, hds]) (by rw [dz_size, hds]) hdo ?_)
        generalize (w4.alloc (.cells dz 33)).setRow w4.heap.size dv = w5 at *
        generalize w4.heap.size = g5 at *
        clear K2 hdo
        have e7 : ((0 : Int) != 0) = false := rfl
        obtain ⟨qa, hqa⟩ : ∃ q, a / 64 = q := ⟨_, rfl⟩
        obtain ⟨ra, hra⟩ : ∃ r, a % 64 = r := ⟨_, rfl⟩
        obtain ⟨qb, hqb⟩ : ∃ q, b / 64 = q := ⟨_, rfl⟩
        obtain ⟨rb, hrb⟩ : ∃ r, b % 64 = r := ⟨_, rfl⟩
        have qa4 : qa < 4 := by omega
        have ra4 : ra < 64 := by omega
        have qb4 : qb < 4 := by omega
        have rb4 : rb < 64 := by omega
        have ea1 : (a : Int) / 64 = (qa : Int) := by omega
        have ea2 : (a : Int) % 64 = (ra : Int) := by omega
        have eb1 : (b : Int) / 64 = (qb : Int) := by omega
        have eb2 : (b : Int) % 64 = (rb : Int) := by omega
        have HHA := Lib.hid (show ∀ t : S4, hasS t a = (t.f qa).getLsbD ra from fun t => by unfold hasS has; rw [hqa, hra])
        have HHB := Lib.hid (show ∀ t : S4, hasS t b = (t.f qb).getLsbD rb from fun t => by unfold hasS has; rw [hqb, hrb])
        clear hqa hra hqb hrb
        have HLN := Lib.hid N5.out.ln
        have hbn := N5.out.bn
        go_wp2_with fail
        go_loopw [9, 10] (fun va vi wr => ∃ (k : Nat) (al : Bool), k ≤ n ∧ vi = .int .i64 (k : Int) ∧ va = .bool al ∧ Hid (al = (E.take k).all fun e => hasS e.set a == hasS e.set b) ∧ Hid (Below w5.heap.size w5 wr)) (fun _ vi _ => n - (intOf vi).toNat)
        case atStart => exact ⟨0, true, Nat.zero_le _, rfl, rfl, rfl, Below.refl _ _⟩
        case round =>
          obtain ⟨k, al, hk, rfl, rfl, HAL, HBW⟩ := hrel
          have N6 := Lib.hid (N5.out.then HBW.out)
          have M6 := Lib.hid (MB.out.then HBW.out)
          have q1 := N6.out.q1
          by_cases hlt : k < n
          · have hkl : k < E.length := by rw [HLN.out]; exact hlt
            obtain ⟨ad, hA, hcE⟩ := N6.out.re k hkl
            subst hA
            have i1 : (k : Int) < (n : Int) := by omega
            have HKN := Lib.hid hlt
            have HST := Lib.hid (all_step E (fun e => hasS e.set a == hasS e.set b) hkl)
            generalize E[k] = ed at *
            have hset : ∀ j u, [Value.int .u64 (ed.set.w0.toNat : Int), .int .u64 (ed.set.w1.toNat : Int), .int .u64 (ed.set.w2.toNat : Int), .int .u64 (ed.set.w3.toNat : Int)][j]? = some u → wr.cell? (((ad.add (k * 7)).add 2).add j) = some u := fun j u hu => by
              rw [add_twice]
              refine hcE (2 + j) u ?_
              rw [← hu, show 2 + j = j + 2 from by omega]
              match j with
              | 0 => rfl
              | 1 => rfl
              | 2 => rfl
              | 3 => rfl
              | j + 4 => simp at hu
            clear hkl hcE
            go_wp2_with (refine wpList_load_part 51 4 _ rfl rfl ((ad.add (k * 7)).add 2) rfl [.int .u64 (ed.set.w0.toNat : Int), .int .u64 (ed.set.w1.toNat : Int), .int .u64 (ed.set.w2.toNat : Int), .int .u64 (ed.set.w3.toNat : Int)] (by kernel_rfl) (by kernel_rfl) rfl hset ?_)
            have hA4 : H4 (wr.alloc (.cells #[.int .u64 (ed.set.w0.toNat : Int), .int .u64 (ed.set.w1.toNat : Int), .int .u64 (ed.set.w2.toNat : Int), .int .u64 (ed.set.w3.toNat : Int)] 51)) wr.heap.size ed.set.f := H4.new wr ed.set.f
            have ca := hA4.cell qa4
            have cb := hA4.cell qb4
            have BA := Lib.hid (bl_trans HBW.out (bl_alloc (Below.refl wr.heap.size wr) (.cells #[.int .u64 (ed.set.w0.toNat : Int), .int .u64 (ed.set.w1.toNat : Int), .int .u64 (ed.set.w2.toNat : Int), .int .u64 (ed.set.w3.toNat : Int)] 51)))
            have VA := bit_val (ed.set.f qa) ra
            have VB := bit_val (ed.set.f qb) rb
            have HSA := Lib.hid (HHA.out ed.set)
            have HSB := Lib.hid (HHB.out ed.set)
            generalize wr.alloc (.cells #[.int .u64 (ed.set.w0.toNat : Int), .int .u64 (ed.set.w1.toNat : Int), .int .u64 (ed.set.w2.toNat : Int), .int .u64 (ed.set.w3.toNat : Int)] 51) = wq at *
            generalize wr.heap.size = gq at *
            obtain ⟨va, hva⟩ : ∃ q : Int, bits .and .u64 (((ed.set.f qa).toNat : Int) / 2 ^ ra) 1 = q := ⟨_, rfl⟩
            obtain ⟨vb, hvb⟩ : ∃ q : Int, bits .and .u64 (((ed.set.f qb).toNat : Int) / 2 ^ rb) 1 = q := ⟨_, rfl⟩
            have HEQ := Lib.hid (show (va == vb) = (hasS ed.set a == hasS ed.set b) from by
              rw [← hva, ← hvb, VA, VB, HSA.out, HSB.out]
              cases (ed.set.f qa).getLsbD ra <;> cases (ed.set.f qb).getLsbD rb <;> rfl)
            clear VA VB hA4 hset q1
            cases al with
            | false =>
              go_wp2_with fail
              go_quiet (fail)
              go_wp2_with fail
              refine ⟨⟨k + 1, false, HKN.out, by go_num, rfl, ?_, bl_drewN BA.out _⟩, by have := HKN.out; simp [intOf]; omega⟩
              unfold Hid
              rw [HST.out, ← HAL.out]
              rfl
            | true =>
              go_wp2_with fail
              go_quiet (fail)
              go_wp2_with fail
              refine ⟨⟨k + 1, _, HKN.out, by go_num, rfl, ?_, bl_drewN BA.out _⟩, by have := HKN.out; simp [intOf]; omega⟩
              unfold Hid
              rw [HST.out, ← HAL.out, HEQ.out]
              rfl
          · obtain rfl : k = n := by omega
            have HAE := Lib.hid (show al = sameC E a b from by
              have := HAL.out
              rw [List.take_of_length_le (by rw [HLN.out]; exact Nat.le_refl _)] at this
              exact this)
            have ca := M6.out.cls ha
            have cb := M6.out.cls hb2
            have HCE := Lib.hid (class_eq E ha hb2)
            generalize classE E a = xa at *
            generalize classE E b = xb at *
            have HBB := Lib.hid (show (((xa : Int) == (xb : Int)) == al) = true from by
              rw [HAE.out]
              cases hs : sameC E a b with
              | true =>
                have := HCE.out.2 hs
                rw [this]
                simp
              | false =>
                have hn : ¬ xa = xb := fun h => by rw [HCE.out.1 h] at hs; cases hs
                have : ((xa : Int) == (xb : Int)) = false := by rw [beq_eq_false_iff_ne]; omega
                rw [this]
                rfl)
            have i1 : (a : Int) < 256 := by omega
            have i2 : (b : Int) < 256 := by omega
            go_wp2_with fail
            go_quiet (fail)
            go_wp2_with fail
            refine post_is HQ ⟨?_, bl_drewN M6.out.low _⟩
            rw [HBB.out]
            rfl
  · have hb1 : ((ck : Int) != 0) = true := by simp; omega
    go_wp2_with fail
    exact post_is HQ ⟨rfl, N2.out.low⟩

end Go.Proofs.YtcgfogdfcdndgaaGreatDoor
