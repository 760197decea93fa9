/- Machines: the law on runs: the walk. -/
import Derived.Test.YtcgfogdfcdndgaaGreatDoorDhBP
import Derived.Test.YtcgfogdfcdndgaaGreatDoorRowP
set_option linter.unusedVariables false
set_option linter.unusedSimpArgs false
namespace Go.Proofs.YtcgfogdfcdndgaaGreatDoor
open Go.RowKit
attribute [local go_sem] Oper.semAt_some

theorem rows_le {T : List (List Int)} (h : ∀ r ∈ T, r.length * 8 ≤ 140737488351232) : ∀ r ∈ T, r.length ≤ 140737488355328 := fun r hr => by
  have := h r hr
  omega
set_option maxHeartbeats 8000000 in
set_option maxRecDepth 20000 in
theorem druns_walk (cl : Nat → Int) (T : List (List Int)) (X : List Int) (An Ax At : Option Addr) (nn cn nx cx nt ct : Nat) (ts : List UInt8) (W : World) (hTab : Tab W)
    (p1 : T.length = nn ∧ nn ≤ cn ∧ cn * 24 ≤ 140737488351232 ∧ RdTb W An T ∧ ∀ r ∈ T, r.length * 8 ≤ 140737488351232) (p2 : X.length = nx ∧ nx ≤ cx ∧ cx * 8 ≤ 140737488351232 ∧ RdW W Ax X) (ht : ts.length = nt) (htc : nt ≤ ct) (hct : ct ≤ 140737488351232) (rt : Rd W At ts) :
    Calls Tryz.prog 5 #[.agg (mkT cl [.slice An nn cn, .slice Ax nx cx]), .slice At nt ct] W (Yes W) := by
  generalize hQ : Yes W = Q
  have HQ := Lib.hid hQ
  obtain ⟨hnn, hcn, hc8, hr, hrb⟩ := p1
  obtain ⟨hnx, hcx, hx8, hx⟩ := p2
  have b0 := bl_alloc (Below.refl W.heap.size W) (.cells (mkT cl [.slice An nn cn, .slice Ax nx cx]) 33)
  have M0 := Lib.hid (show MachB W W.heap.size cl T X An Ax nn cn nx cx (mkT cl [.slice An nn cn, .slice Ax nx cx]) (W.alloc (.cells (mkT cl [.slice An nn cn, .slice Ax nx cx]) 33)) from
    ⟨heap_alloc_new W _, rfl, hr.below b0, hx.below b0, b0, hnn, hnx, by omega, by omega⟩)
  have HT0 := Lib.hid (rt.below b0)
  have TB0 := Lib.hid (hTab.below b0)
  have HRB := Lib.hid (rows_le hrb)
  clear hQ hr hx hnn hnx b0 hrb rt hTab
  have HR1 := Lib.hid (fun w (h : MachB W W.heap.size cl T X An Ax nn cn nx cx (mkT cl [.slice An nn cn, .slice Ax nx cx]) w) (hT : Rd w At ts) => h.call_run ts At nt ct ht (by omega) hT)
  have HR2 := Lib.hid (fun w (h : MachB W W.heap.size cl T X An Ax nn cn nx cx (mkT cl [.slice An nn cn, .slice Ax nx cx]) w) (hT : Rd w At ts) => rrund_any cl T X An Ax nn cn nx cx h.lt h.lx h.bn h.bx HRB.out ts At nt ct ht (by omega) w h.rt h.rx hT)
  generalize mkT cl [.slice An nn cn, .slice Ax nx cx] = dv at *
  clear ht HRB
  go_enter Tryz.func5, Tryz.ntmps5
  go_upto_region 1 with fail
  generalize W.alloc (.cells dv 33) = wA at *
  generalize W.heap.size = g at *
  have hsz2 := M0.out.len
  have HCS := Lib.hid M0.out.load
  go_wp2_with (refine wpList_load_part 33 258 _ rfl rfl ⟨g, 0, none⟩ rfl dv.toList (aggD _) (szD _) hsz2 HCS.out ?_)
  refine (HR1.out _ M0.out HT0.out).mono ?_
  rintro e w2 ⟨rfl, hb2⟩
  have M2 := Lib.hid (M0.out.then hb2)
  have HT2 := Lib.hid (HT0.out.below hb2)
  have TB2 := Lib.hid (TB0.out.below hb2)
  clear hb2 HCS M0 HT0 TB0
  have HCS := Lib.hid M2.out.load
  go_wp2_with (refine wpList_load_part 33 258 _ rfl rfl ⟨g, 0, none⟩ rfl dv.toList (aggD _) (szD _) hsz2 HCS.out ?_)
  refine (HR2.out _ M2.out HT2.out).mono ?_
  rintro e w3 ⟨rfl, hb3⟩
  have M3 := Lib.hid (M2.out.then hb3)
  have TB3 := Lib.hid (TB2.out.below hb3)
  clear hb3 HCS M2 HT2 TB2
  generalize runD (clL cl) T X ts = rr at *
  obtain ⟨r1, r2⟩ := rr
  have e1 : (r1 == r1) = true := beq_self_eq_true _
  have e2 : ((r2 : Int) == (r2 : Int)) = true := beq_self_eq_true _
  go_wp2_with fail
  refine (works_any _ TB3.out).mono ?_
  rintro e w4 ⟨rfl, hb4⟩
  go_wp2_with fail
  exact post_is HQ ⟨rfl, bl_trans M3.out.low hb4⟩

end Go.Proofs.YtcgfogdfcdndgaaGreatDoor
