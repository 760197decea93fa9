/- Machines: the document's Step and Run. -/
import Derived.Test.YtcgfogdfcdndgaaGreatDoorDhAQ
set_option linter.unusedVariables false
set_option linter.unusedSimpArgs false
namespace Go.Proofs.YtcgfogdfcdndgaaGreatDoor
open Go.RowKit
attribute [local go_sem] Oper.semAt_some

theorem MachB.call_rcheck {W w : World} {g : Nat} {cl : Nat → Int} {T : List (List Int)} {X : List Int} {An Ax : Option Addr} {nn cn nx cx : Nat} {dv : Array Value} (h : MachB W g cl T X An Ax nn cn nx cx dv w) (hrb : ∀ r ∈ T, r.length ≤ 140737488355328) : Calls Tryz.prog 22 #[.agg dv] w (GotEr w (checkD (clL cl) T X)) := by
  have := rchkd_any cl T X An Ax nn cn nx cx h.lt h.lx h.bn h.bx hrb w h.rt h.rx
  rwa [h.hd] at this
theorem next_cl (cl : Nat → Int) (T : List (List Int)) {sn c kc : Nat} (hs : sn < T.length) (hc : c < 256) (hkc : cl c = (kc : Int)) (hk : kc < T[sn].length) : nextD (clL cl) T (sn : Int) c = T[sn][kc] := by
  unfold nextD
  have e1 : (clL cl).getD c 0 = (kc : Int) := by
    unfold clL
    simp [List.getD, hc, hkc]
  rw [e1]
  simp [List.getD, hs, hk]
set_option maxRecDepth 100000 in
set_option maxHeartbeats 8000000 in
theorem rstepd_any (cl : Nat → Int) (T : List (List Int)) (X : List Int) (An Ax : Option Addr) (nn cn nx cx : Nat) (hnn : T.length = nn) (hnx : X.length = nx) (hn2 : nn ≤ 140737488355328) (hx2 : nx ≤ 140737488355328) (hrb : ∀ r ∈ T, r.length ≤ 140737488355328) (s : Int) (c : Nat) (hc : c < 256) (W : World) (hr : RdTb W An T) (hx : RdW W Ax X) :
    Calls Tryz.prog 20 #[.agg (mkT cl [.slice An nn cn, .slice Ax nx cx]), .int .i64 s, .int .u8 (c : Int)] W (GotRn W (stepD (clL cl) T X s c)) := by
  generalize hQ : GotRn W (stepD (clL cl) T X s c) = Q
  have HQ := Lib.hid hQ
  have b0 := bl_alloc (Below.refl W.heap.size W) (.cells (mkT cl [.slice An nn cn, .slice Ax nx cx]) 33)
  have M0 := Lib.hid (show MachB W W.heap.size cl T X An Ax nn cn nx cx (mkT cl [.slice An nn cn, .slice Ax nx cx]) (W.alloc (.cells (mkT cl [.slice An nn cn, .slice Ax nx cx]) 33)) from
    ⟨heap_alloc_new W _, rfl, hr.below b0, hx.below b0, b0, hnn, hnx, hn2, hx2⟩)
  have HN := Lib.hid hnn
  have HCK := Lib.hid (M0.out.call_rcheck hrb)
  clear hQ hr hx hnn hnx b0 hrb
  generalize mkT cl [.slice An nn cn, .slice Ax nx cx] = dv at *
  go_enter Tryz.func20, Tryz.ntmps20
  go_upto_region 1 with fail
  generalize W.alloc (.cells dv 33) = wA at *
  generalize W.heap.size = g at *
  have hsz2 := M0.out.len
  have HCS := Lib.hid M0.out.load
  go_wp2_with (refine wpList_load_part 33 258 _ rfl rfl ⟨g, 0, none⟩ rfl dv.toList (aggD _) (szD _) hsz2 HCS.out ?_)
  refine HCK.out.mono ?_
  rintro e w2 ⟨rfl, hb2⟩
  have M2 := Lib.hid (M0.out.then hb2)
  clear hb2 HCS M0 HCK
  obtain ⟨ck, hck⟩ : ∃ q, checkD (clL cl) T X = q := ⟨_, rfl⟩
  have HK := Lib.hid hck
  rw [hck]
  clear hck
  by_cases hz : ck = 0
  · subst hz
    have HM := Lib.hid (may_of HK.out)
    have c1 := M2.out.next
    by_cases hs : s < 0
    · have d1 : decide (s < 0) = true := by simpa using hs
      go_wp2_with fail
      refine post_is HQ ⟨?_, M2.out.low⟩
      unfold stepD
      rw [if_neg (by rw [HK.out]; simp), if_pos (Or.inl hs)]
      rfl
    · have d1 : decide (s < 0) = false := by simpa using hs
      by_cases hs2 : (nn : Int) ≤ s
      · have d2 : decide ((nn : Int) ≤ s) = true := by simpa using hs2
        go_wp2_with fail
        refine post_is HQ ⟨?_, M2.out.low⟩
        unfold stepD
        rw [if_neg (by rw [HK.out]; simp), if_pos (Or.inr (by rw [HN.out]; exact hs2))]
        rfl
      · have d2 : decide ((nn : Int) ≤ s) = false := by simpa using hs2
        obtain ⟨sn, rfl⟩ : ∃ n : Nat, s = (n : Int) := ⟨s.toNat, by omega⟩
        have hsl : sn < T.length := by rw [HN.out]; omega
        obtain ⟨ad, hA, B9, m9, d9, hc9, hm9, hmd9, hr9⟩ := M2.out.row hsl
        subst hA
        obtain ⟨k1, k2⟩ := HM.out.cls c hc
        rw [← (HM.out.row sn hsl).1, hm9] at k2
        obtain ⟨kc, hkc⟩ : ∃ n : Nat, cl c = (n : Int) := ⟨(cl c).toNat, by omega⟩
        have hkl : kc < T[sn].length := by rw [hm9]; omega
        obtain ⟨ad2, hA2, hce⟩ := hr9 kc hkl
        subst hA2
        have HST := Lib.hid (show stepD (clL cl) T X (sn : Int) c = (T[sn][kc], 0) from by
          unfold stepD
          rw [if_neg (by rw [HK.out]; simp), if_neg (by rw [HN.out]; omega), next_cl cl T hsl hc hkc hkl])
        generalize T[sn][kc] = rv at *
        have cc : w2.cell? ⟨g, c, none⟩ = some (.int .i64 (kc : Int)) := by rw [M2.out.cls hc, hkc]
        have i1 : (sn : Int) < (nn : Int) := by omega
        have i2 : (c : Int) < 256 := by omega
        have i3 : (kc : Int) < (m9 : Int) := by omega
        clear hsl hm9 hr9 hkl k1 k2 hkc hs hs2
        go_wp2_with fail
        go_quiet (fail)
        go_wp2_with fail
        refine post_is HQ ⟨?_, bl_drewN M2.out.low _⟩
        rw [HST.out]
        rfl
  · have hz1 : ((ck : Int) = 0) = False := by simp; omega
    have hz2 : ((ck : Int) != 0) = true := by simp; omega
    go_wp2_with fail
    refine post_is HQ ⟨?_, M2.out.low⟩
    unfold stepD
    rw [if_pos (by rw [HK.out]; exact hz), HK.out]
    rfl
end Go.Proofs.YtcgfogdfcdndgaaGreatDoor
