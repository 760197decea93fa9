/- Machines: the document's Step and Run. -/
import Derived.Test.YtcgfogdfcdndgaaGreatDoorDhAP
set_option linter.unusedVariables false
set_option linter.unusedSimpArgs false
namespace Go.Proofs.YtcgfogdfcdndgaaGreatDoor
open Go.RowKit
attribute [local go_sem] Oper.semAt_some

theorem MachB.call_rcheck {W w : World} {g : Nat} {cl : Nat → Int} {T : List (List Int)} {X : List Int} {An Ax : Option Addr} {nn cn nx cx : Nat} {dv : Array Value} (h : MachB W g cl T X An Ax nn cn nx cx dv w) (hrb : ∀ r ∈ T, r.length ≤ 140737488355328) : Calls Tryz.prog 22 #[.agg dv] w (GotEr w (checkD (clL cl) T X)) := by
  have := rchkd_any cl T X An Ax nn cn nx cx h.lt h.lx h.bn h.bx hrb w h.rt h.rx
  rwa [h.hd] at this
theorem next_cl (cl : Nat → Int) (T : List (List Int)) {sn c kc : Nat} (hs : sn < T.length) (hc : c < 256) (hkc : cl c = (kc : Int)) (hk : kc < T[sn].length) : nextD (clL cl) T (sn : Int) c = T[sn][kc] := by
  unfold nextD
  have e1 : (clL cl).getD c 0 = (kc : Int) := by
    unfold clL
    simp [List.getD, hc, hkc]
  rw [e1]
  simp [List.getD, hs, hk]
theorem walk_next (cls : List Int) (T : List (List Int)) {ts : List UInt8} {k : Nat} (hk : k < ts.length) (s : Int) : walkD cls T s (ts.drop k) = if nextD cls T s ts[k].toNat = -1 then -1 else walkD cls T (nextD cls T s ts[k].toNat) (ts.drop (k + 1)) := by
  rw [List.drop_eq_getElem_cons hk]
  rfl
set_option maxRecDepth 100000 in
set_option maxHeartbeats 8000000 in
theorem rrund_any (cl : Nat → Int) (T : List (List Int)) (X : List Int) (An Ax : Option Addr) (nn cn nx cx : Nat) (hnn : T.length = nn) (hnx : X.length = nx) (hn2 : nn ≤ 140737488355328) (hx2 : nx ≤ 140737488355328) (hrb : ∀ r ∈ T, r.length ≤ 140737488355328) (ts : List UInt8) (At : Option Addr) (n c : Nat) (hn : ts.length = n) (hn3 : n ≤ 140737488355328) (W : World) (hr : RdTb W An T) (hx : RdW W Ax X) (ht : Rd W At ts) :
    Calls Tryz.prog 24 #[.agg (mkT cl [.slice An nn cn, .slice Ax nx cx]), .slice At n c] W (GotRn W (runD (clL cl) T X ts)) := by
  generalize hQ : GotRn W (runD (clL cl) T X ts) = Q
  have HQ := Lib.hid hQ
  have b0 := bl_alloc (Below.refl W.heap.size W) (.cells (mkT cl [.slice An nn cn, .slice Ax nx cx]) 33)
  have M0 := Lib.hid (show MachB W W.heap.size cl T X An Ax nn cn nx cx (mkT cl [.slice An nn cn, .slice Ax nx cx]) (W.alloc (.cells (mkT cl [.slice An nn cn, .slice Ax nx cx]) 33)) from
    ⟨heap_alloc_new W _, rfl, hr.below b0, hx.below b0, b0, hnn, hnx, hn2, hx2⟩)
  have HT0 := Lib.hid (ht.below b0)
  have HN := Lib.hid hnn
  have HNX := Lib.hid hnx
  have HTN := Lib.hid hn
  have HCK := Lib.hid (M0.out.call_rcheck hrb)
  clear hQ hr hx hnn hnx b0 hrb hn ht
  generalize mkT cl [.slice An nn cn, .slice Ax nx cx] = dv at *
  go_enter Tryz.func24, Tryz.ntmps24
  go_upto_region 1 with fail
  generalize W.alloc (.cells dv 33) = wA at *
  generalize W.heap.size = g at *
  have hsz2 := M0.out.len
  have HCS := Lib.hid M0.out.load
  go_wp2_with (refine wpList_load_part 33 258 _ rfl rfl ⟨g, 0, none⟩ rfl dv.toList (aggD _) (szD _) hsz2 HCS.out ?_)
  refine HCK.out.mono ?_
  rintro e w2 ⟨rfl, hb2⟩
  have M2 := Lib.hid (M0.out.then hb2)
  have HT2 := Lib.hid (HT0.out.below hb2)
  clear hb2 HCS M0 HCK HT0
  obtain ⟨ck, hck⟩ : ∃ q, checkD (clL cl) T X = q := ⟨_, rfl⟩
  have HK := Lib.hid hck
  rw [hck]
  clear hck
  by_cases hz : ck = 0
  · subst hz
    have HM := Lib.hid (may_of HK.out)
    by_cases hbig : 8192 < n
    · have d1 : decide ((8192 : Int) < (n : Int)) = true := by simp; omega
      go_wp2_with fail
      refine post_is HQ ⟨?_, M2.out.low⟩
      unfold runD
      rw [if_neg (by rw [HK.out]; simp), if_pos (by rw [HTN.out]; exact hbig)]
      rfl
    · have d1 : decide ((8192 : Int) < (n : Int)) = false := by simp; omega
      have HGO := Lib.hid (show runD (clL cl) T X ts = (ruleD X (walkD (clL cl) T 0 ts), 0) from by
        unfold runD
        rw [if_neg (by rw [HK.out]; simp), if_neg (by rw [HTN.out]; exact hbig)])
      go_wp2_with fail
      go_loopw [7, 8] (fun vs vi wr => ∃ (k : Nat) (s : Int), k ≤ n ∧ vi = .int .i64 (k : Int) ∧ vs = .int .i64 s ∧ (s = -1 ∨ (0 ≤ s ∧ s < (nn : Int))) ∧ Hid (walkD (clL cl) T 0 ts = if s = -1 then -1 else walkD (clL cl) T s (ts.drop k)) ∧ Hid (Below w2.heap.size w2 wr)) (fun _ vi _ => n - (intOf vi).toNat)
      case atStart => exact ⟨0, 0, Nat.zero_le _, rfl, rfl, Or.inr ⟨by omega, by have := HM.out.pos; rw [HN.out] at this; omega⟩, rfl, Below.refl _ _⟩
      case round =>
        obtain ⟨k, s, hk, rfl, rfl, hs, HWK, HBW⟩ := hrel
        have M3 := Lib.hid (M2.out.then HBW.out)
        rcases hs with rfl | ⟨hs1, hs2⟩
        · have HRU := Lib.hid (show runD (clL cl) T X ts = (-1, 0) from by
            rw [HGO.out, HWK.out]
            rfl)
          by_cases hlt : k < n
          · go_wp2_with fail
            refine post_is HQ ⟨?_, M3.out.low⟩
            rw [HRU.out]
            rfl
          · obtain rfl : k = n := by omega
            go_wp2_with fail
            refine post_is HQ ⟨?_, M3.out.low⟩
            rw [HRU.out]
            rfl
        · obtain ⟨sn, rfl⟩ : ∃ n : Nat, s = (n : Int) := ⟨s.toNat, by omega⟩
          have d2 : decide ((0 : Int) ≤ (sn : Int)) = true := by simp
          have d3 : decide ((sn : Int) < 0) = false := by rw [decide_eq_false_iff_not]; omega
          have hsl : sn < T.length := by rw [HN.out]; omega
          have HWK2 := Lib.hid (show walkD (clL cl) T 0 ts = walkD (clL cl) T (sn : Int) (ts.drop k) from by rw [HWK.out, if_neg (by omega)])
          clear HWK
          by_cases hlt : k < n
          · have hkl : k < ts.length := by rw [HTN.out]; exact hlt
            obtain ⟨adt, hAt, hct⟩ := (HT2.out.below HBW.out).cell hkl
            subst hAt
            have HNXT := Lib.hid (walk_next (clL cl) T hkl (sn : Int))
            generalize ts[k] = ch at *
            obtain ⟨cn8, hcn⟩ : ∃ q, ch.toNat = q := ⟨_, rfl⟩
            have hc : cn8 < 256 := by rw [← hcn]; exact ch.toNat_lt
            rw [hcn] at hct HNXT
            obtain ⟨ad, hA, B9, m9, d9, hc9, hm9, hmd9, hr9⟩ := M3.out.row hsl
            subst hA
            obtain ⟨k1, k2⟩ := HM.out.cls cn8 hc
            rw [← (HM.out.row sn hsl).1, hm9] at k2
            obtain ⟨kc, hkc⟩ : ∃ n : Nat, cl cn8 = (n : Int) := ⟨(cl cn8).toNat, by omega⟩
            have hkl2 : kc < T[sn].length := by rw [hm9]; omega
            obtain ⟨ad2, hA2, hce⟩ := hr9 kc hkl2
            subst hA2
            obtain ⟨r1, r2⟩ := (HM.out.row sn hsl).2 kc hkl2
            rw [HN.out] at r2
            have HST := Lib.hid (next_cl cl T hsl hc hkc hkl2)
            generalize T[sn][kc] = rv at *
            have c1 := M3.out.next
            have cc : wr.cell? ⟨g, cn8, none⟩ = some (.int .i64 (kc : Int)) := by rw [M3.out.cls hc, hkc]
            have i1 : (sn : Int) < (nn : Int) := by omega
            have i2 : (cn8 : Int) < 256 := by omega
            have i3 : (kc : Int) < (m9 : Int) := by omega
            have i4 : (k : Int) < (n : Int) := by omega
            clear hsl hm9 hr9 hkl hkl2 k1 k2 hkc hcn hs1 hs2
            go_wp2_with fail
            go_quiet (fail)
            go_wp2_with fail
            refine ⟨⟨k + 1, rv, by omega, by go_num, rfl, by omega, ?_, bl_drewN HBW.out _⟩, by simp [intOf]; omega⟩
            unfold Hid
            rw [HWK2.out, HNXT.out, HST.out]
          · obtain rfl : k = n := by omega
            have c2 := M3.out.rule
            have hxl : sn < X.length := by rw [HM.out.rules]; exact hsl
            obtain ⟨adx, hAx, hcx⟩ := M3.out.rx sn hxl
            subst hAx
            have HRU := Lib.hid (show runD (clL cl) T X ts = (X[sn], 0) from by
              rw [HGO.out, HWK2.out, List.drop_eq_nil_of_le (by rw [HTN.out]; exact Nat.le_refl _)]
              show (ruleD X (sn : Int), 0) = _
              unfold ruleD
              rw [if_neg (by omega)]
              simp [List.getD, hxl])
            have i1 : (sn : Int) < (nx : Int) := by rw [HNX.out] at hxl; omega
            generalize X[sn] = rx at *
            clear hxl hsl
            go_wp2_with fail
            refine post_is HQ ⟨?_, M3.out.low⟩
            rw [HRU.out]
            rfl
  · have hz1 : ((ck : Int) = 0) = False := by simp; omega
    have hz2 : ((ck : Int) != 0) = true := by simp; omega
    go_wp2_with fail
    refine post_is HQ ⟨?_, M2.out.low⟩
    unfold runD
    rw [if_pos (by rw [HK.out]; exact hz), HK.out]
    rfl

end Go.Proofs.YtcgfogdfcdndgaaGreatDoor
