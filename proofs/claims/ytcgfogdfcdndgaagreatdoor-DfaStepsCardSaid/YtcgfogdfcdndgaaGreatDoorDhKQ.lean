/- Machines: the law on Check and Step: the walk. -/
import Derived.Test.YtcgfogdfcdndgaaGreatDoorDhJQ
set_option linter.unusedVariables false
set_option linter.unusedSimpArgs false
namespace Go.Proofs.YtcgfogdfcdndgaaGreatDoor
open Go.RowKit
attribute [local go_sem] Oper.semAt_some

/-- A machine in memory that a call made, laid into a box. -/
theorem mach_laid {W w : World} {n1 : Nat} {vT vR : Value} {cl : Nat → Int} {T : List (List Int)} {X : List Int} {ex : Nat → Prop} {nn nx : Nat} (hT : RowsZ w n1 vT T ex) (hR : OwnZ w n1 vR X) (hlow : Below W.heap.size W w) (hn : T.length = nn) (hx : X.length = nx) (hn2 : nn ≤ 140737488355328) (hx2 : nx ≤ 140737488355328) :
    ∃ An cn Ax cx dv, vT = .slice An nn cn ∧ vR = .slice Ax nx cx ∧ mkT cl [vT, vR] = dv ∧ dv.size = 258 ∧ dv.all (·.oneCell') = true ∧ Hid (MachB W w.heap.size cl T X An Ax nn cn nx cx dv ((w.alloc (.cells dz 33)).setRow w.heap.size dv)) := by
  obtain ⟨An, nn', cn, e, hnn⟩ := hT.form
  subst e
  obtain ⟨Ax, nx', cx, e, hnx, hcx, hxr⟩ := hR.rdz
  subst e
  have hnn := hnn.out
  have hnx := hnx.out
  obtain rfl : nn = nn' := hn.symm.trans hnn
  obtain rfl : nx = nx' := hx.symm.trans hnx
  have bs : Below w.heap.size w ((w.alloc (.cells dz 33)).setRow w.heap.size (mkT cl [.slice An nn cn, .slice Ax nx cx])) := bl_setRow (bl_alloc (Below.refl _ _) _) (Nat.le_refl _) _
  exact ⟨An, cn, Ax, cx, _, rfl, rfl, rfl, by rw [mkT_size]; rfl, mkT_one _ _ _ _ _ _ _,
    ⟨setRow_heap _ _ _ _ _ _ (heap_alloc_new w _), rfl, hT.rdt.below bs, hxr.below bs, bl_trans hlow bs, hnn, hnx, hn2, hx2⟩⟩
section
variable {W w : World} {g g' : Nat} {cl : Nat → Int} {T : List (List Int)} {X : List Int} {An Ax Bn Bx : Option Addr} {nn cn nx cx dn dx : Nat} {dv ev : Array Value}
theorem MachB.call_rstep (h : MachB W g cl T X An Ax nn cn nx cx dv w) (hrb : ∀ r ∈ T, r.length ≤ 140737488355328) (s : Int) (c : Nat) (hc : c < 256) : Calls Tryz.prog 20 #[.agg dv, .int .i64 s, .int .u8 (c : Int)] w (GotRn w (stepD (clL cl) T X s c)) := by
  have := rstepd_any cl T X An Ax nn cn nx cx h.lt h.lx h.bn h.bx hrb s c hc w h.rt h.rx
  rwa [h.hd] at this
theorem MachB.call_same (h : MachB W g cl T X An Ax nn cn nx cx dv w) (h' : MachB W g' cl T X Bn Bx nn dn nx dx ev w) (hrb : ∀ r ∈ T, r.length ≤ 140737488355328) : Calls Tryz.prog 16 #[.agg dv, .agg ev] w (GotBl w true) := by
  have := rsamed_any cl T X An Ax Bn Bx nn cn nx cx dn dx h.lt h.lx h.bn h.bx hrb w h.rt h.rx h'.rt h'.rx
  rwa [h.hd, h'.hd] at this
end
set_option maxHeartbeats 16000000 in
set_option maxRecDepth 20000 in
theorem dsteps_walk (cl : Nat → Int) (T : List (List Int)) (X : List Int) (An Ax : Option Addr) (nn cn nx cx : Nat) (s : Int) (c : Nat) (hc : c < 256) (W : World) (hTab : Tab W)
    (p1 : T.length = nn ∧ nn ≤ cn ∧ cn * 24 ≤ 140737488351232 ∧ RdTb W An T ∧ ∀ r ∈ T, r.length * 8 ≤ 140737488351232) (p2 : X.length = nx ∧ nx ≤ cx ∧ cx * 8 ≤ 140737488351232 ∧ RdW W Ax X) :
    Calls Tryz.prog 4 #[.agg (mkT cl [.slice An nn cn, .slice Ax nx cx]), .int .i64 s, .int .u8 (c : Int)] W (Yes W) := by
  generalize hQ : Yes W = Q
  have HQ := Lib.hid hQ
  obtain ⟨hnn, hcn, hc8, hr, hrb⟩ := p1
  obtain ⟨hnx, hcx, hx8, hx⟩ := p2
  have b0 := bl_alloc (Below.refl W.heap.size W) (.cells (mkT cl [.slice An nn cn, .slice Ax nx cx]) 33)
  have M0 := Lib.hid (show MachB W W.heap.size cl T X An Ax nn cn nx cx (mkT cl [.slice An nn cn, .slice Ax nx cx]) (W.alloc (.cells (mkT cl [.slice An nn cn, .slice Ax nx cx]) 33)) from
    ⟨heap_alloc_new W _, rfl, hr.below b0, hx.below b0, b0, hnn, hnx, by omega, by omega⟩)
  have TB0 := Lib.hid (hTab.below b0)
  have HRB := Lib.hid (rows_le hrb)
  have HCP := Lib.hid (fun w (h : MachB W W.heap.size cl T X An Ax nn cn nx cx (mkT cl [.slice An nn cn, .slice Ax nx cx]) w) => rcopyd_any cl T X An Ax nn cn nx cx h.lt h.lx (by omega) (by omega) (fun r hr => by have := hrb r hr; omega) w h.rt h.rx)
  have hz := zeroD
  have HLT := Lib.hid hnn
  have HLX := Lib.hid hnx
  clear hQ hr hx hnn hnx b0 hrb hTab
  generalize mkT cl [.slice An nn cn, .slice Ax nx cx] = dv at *
  go_enter Tryz.func4, Tryz.ntmps4
  go_upto_region 1 with fail
  generalize W.alloc (.cells dv 33) = wA at *
  generalize W.heap.size = g at *
  have hsz2 := M0.out.len
  have HCS := Lib.hid M0.out.load
  go_wp2_with (refine wpList_load_part 33 258 _ rfl rfl ⟨g, 0, none⟩ rfl dv.toList (aggD _) (szD _) hsz2 HCS.out ?_)
  refine (HCP.out _ M0.out).mono ?_
  rintro e w2 ⟨n1, vT, vR, ex, rfl, hn1, hT1, hR1, hb2⟩
  have M2 := Lib.hid (M0.out.then hb2)
  have TB2 := Lib.hid (TB0.out.below hb2)
  obtain ⟨Bn, dn, Bx, dx, ev, rfl, rfl, hev, hes, heo, MC⟩ := mach_laid (cl := cl) hT1 hR1 M2.out.low HLT.out HLX.out M2.out.bn M2.out.bx
  rw [hev]
  clear hT1 hR1 hn1 hb2 hev M0 TB0 HCS HCP
  have K2 := heap_alloc_new w2 (.cells dz 33)
  have bs : Below w2.heap.size w2 ((w2.alloc (.cells dz 33)).setRow w2.heap.size ev) := bl_setRow (bl_alloc (Below.refl _ _) _) (Nat.le_refl _) _
  have M3 := Lib.hid (M2.out.then bs)
  have TB3 := Lib.hid (TB2.out.below bs)
  clear bs M2 TB2
  go_upto_region 2 with (refine wpList_store_row rfl 33 _ _ rfl w2.heap.size ev rfl rfl _ _ K2 (by rw [sizeD, hes]) (by rw [dz_size, hes]) heo ?_)
  generalize (w2.alloc (.cells dz 33)).setRow w2.heap.size ev = w3 at *
  generalize w2.heap.size = gc at *
  clear K2 heo
  have hsz3 := MC.out.len
  have HCS := Lib.hid MC.out.load
  go_wp2_with (refine wpList_load_part 33 258 _ rfl rfl ⟨gc, 0, none⟩ rfl ev.toList (aggD _) (szD _) hsz3 HCS.out ?_)
  refine (MC.out.call_step s c hc).mono ?_
  rintro e w4 ⟨rfl, hb4⟩
  have M4 := Lib.hid (M3.out.then hb4)
  have C4 := Lib.hid (MC.out.then hb4)
  have TB4 := Lib.hid (TB3.out.below hb4)
  clear hb4 M3 MC TB3 HCS
  have HCS := Lib.hid M4.out.load
  go_wp2_with (refine wpList_load_part 33 258 _ rfl rfl ⟨g, 0, none⟩ rfl dv.toList (aggD _) (szD _) hsz2 HCS.out ?_)
  refine (M4.out.call_rstep HRB.out s c hc).mono ?_
  rintro e w5 ⟨rfl, hb5⟩
  have M5 := Lib.hid (M4.out.then hb5)
  have C5 := Lib.hid (C4.out.then hb5)
  have TB5 := Lib.hid (TB4.out.below hb5)
  clear hb5 M4 C4 TB4 HCS
  generalize stepD (clL cl) T X s c = rr at *
  obtain ⟨r1, r2⟩ := rr
  have e1 : (r1 == r1) = true := beq_self_eq_true _
  have e2 : ((r2 : Int) == (r2 : Int)) = true := beq_self_eq_true _
  go_wp2_with fail
  obtain ⟨ck, hck⟩ : ∃ q, checkD (clL cl) T X = q := ⟨_, rfl⟩
  have HCKV := Lib.hid hck
  clear hck
  have e3 : ((ck : Int) == (ck : Int)) = true := beq_self_eq_true _
  refine wp_region_held_drew (S := fun W' => W'.heap[g]? = some (.cells dv 33 (0, 0)) ∧ W'.heap[gc]? = some (.cells ev 33 (0, 0))) (by kernel_rfl) ⟨M5.out.box, C5.out.box⟩ (fun hHeld => ?_)
  have MY := Lib.hid (M5.out.then (Below.drew (Below.refl w5.heap.size w5)))
  have CY := Lib.hid (C5.out.then (Below.drew (Below.refl w5.heap.size w5)))
  have TY := Lib.hid (TB5.out.below (Below.drew (Below.refl w5.heap.size w5)))
  clear M5 C5 TB5
  generalize w5.drew = wd at *
  try simp only [zzA, zzB, zzC, Act.put, zzD, zzE, zzF]
  refine wpAnyH_take (i := 0) (v := .agg ev) rfl (by kernel_rfl) (by kernel_rfl) (by kernel_rfl) (fun _ _ _ h => h) (yields_part 33 258 (by rfl) (.tmp 7) rfl ⟨gc, 0, none⟩ rfl ev.toList aggD szD hsz3 (fun w hw => load_dv hw.2)) hHeld ?_
  try simp only [zzA, zzB, zzC, Act.put, zzD, zzE, zzF]
  refine wpAnyH_take (i := 2) (v := .agg dv) rfl (by kernel_rfl) (by kernel_rfl) (by kernel_rfl) (fun _ _ _ h => h) (yields_part 33 258 (by rfl) (.tmp 3) rfl ⟨g, 0, none⟩ rfl dv.toList aggD szD hsz2 (fun w hw => load_dv hw.1)) hHeld ?_
  try simp only [zzA, zzB, zzC, Act.put, zzD, zzE, zzF]
  refine wpAnyH_ready (rs := [1]) (by kernel_rfl) (by simp) (AllReadyH.cons rfl (fun K hK => ?_) AllReadyH.nil)
  go_simp
  go_at_call 21
  refine (CY.out.call_check).mono ?_
  rintro e w6 ⟨rfl, hb⟩
  have MX := Lib.hid (MY.out.then hb)
  have CX := Lib.hid (CY.out.then hb)
  have TX := Lib.hid (TY.out.below hb)
  have hS1 := And.intro MX.out.box CX.out.box
  clear hb hHeld MY CY TY
  have MY := MX
  have CY := CX
  have TY := TX
  clear MX CX TX
  rw [HCKV.out]
  go_wp2_with fail
  refine hK.out _ _ hS1 (fun hHeld => ?_)
  clear hK K hS1
  try simp only [zzA, zzB, zzC, Act.put, zzD, zzE, zzF]
  refine wpAnyH_ready (rs := [3]) (by kernel_rfl) (by simp) (AllReadyH.cons rfl (fun K hK => ?_) AllReadyH.nil)
  go_simp
  go_at_call 22
  refine (MY.out.call_rcheck HRB.out).mono ?_
  rintro e w7 ⟨rfl, hb⟩
  have MX := Lib.hid (MY.out.then hb)
  have CX := Lib.hid (CY.out.then hb)
  have TX := Lib.hid (TY.out.below hb)
  have hS1 := And.intro MX.out.box CX.out.box
  clear hb hHeld MY CY TY
  have MY := MX
  have CY := CX
  have TY := TX
  clear MX CX TX
  rw [HCKV.out]
  go_wp2_with fail
  refine hK.out _ _ hS1 (fun hHeld => ?_)
  clear hK K hS1
  try simp only [zzA, zzB, zzC, Act.put, zzD, zzE, zzF]
  refine wpAnyH_take (i := 4) (v := ?vzp44) rfl (by kernel_rfl) (by kernel_rfl) (by kernel_rfl) (fun _ _ _ h => h) (Or.inl ⟨by rfl, ?yzp44⟩) hHeld ?rzp44
  case yzp44 => (intro wS hSw; clear hSw; go_simp; try (with_reducible rfl))
  try simp only [zzA, zzB, zzC, Act.put, zzD, zzE, zzF]
  refine wpAnyH_take (i := 5) (v := ?vzp45) rfl (by kernel_rfl) (by kernel_rfl) (by kernel_rfl) (fun _ _ _ h => h) (Or.inl ⟨by rfl, ?yzp45⟩) hHeld ?rzp45
  case yzp45 => (intro wS hSw; clear hSw; go_simp; try (with_reducible rfl))
  try simp only [zzA, zzB, zzC, Act.put, zzD, zzE, zzF]
  refine wpAnyH_take (i := 6) (v := ?vzp46) rfl (by kernel_rfl) (by kernel_rfl) (by kernel_rfl) (fun _ _ _ h => h) (Or.inl ⟨by rfl, ?yzp46⟩) hHeld ?rzp46
  case yzp46 => (intro wS hSw; clear hSw; go_simp; try (with_reducible rfl))
  try simp only [zzA, zzB, zzC, Act.put, zzD, zzE, zzF]
  refine wpAnyH_take (i := 7) (v := ?vzp47) rfl (by kernel_rfl) (by kernel_rfl) (by kernel_rfl) (fun _ _ _ h => h) (Or.inl ⟨by rfl, ?yzp47⟩) hHeld ?rzp47
  case yzp47 => (intro wS hSw; clear hSw; go_simp; try (with_reducible rfl))
  try simp only [zzA, zzB, zzC, Act.put, zzD, zzE, zzF]
  refine wpAnyH_take (i := 8) (v := ?vzp48) rfl (by kernel_rfl) (by kernel_rfl) (by kernel_rfl) (fun _ _ _ h => h) (Or.inl ⟨by rfl, ?yzp48⟩) hHeld ?rzp48
  case yzp48 => (intro wS hSw; clear hSw; go_simp; try (with_reducible rfl))
  try simp only [zzA, zzB, zzC, Act.put, zzD, zzE, zzF]
  refine wpAnyH_take (i := 9) (v := ?vzp49) rfl (by kernel_rfl) (by kernel_rfl) (by kernel_rfl) (fun _ _ _ h => h) (Or.inl ⟨by rfl, ?yzp49⟩) hHeld ?rzp49
  case yzp49 => (intro wS hSw; clear hSw; go_simp; try (with_reducible rfl))
  try simp only [zzA, zzB, zzC, Act.put, zzD, zzE, zzF]
  refine wpAnyH_take (i := 10) (v := ?vzp410) rfl (by kernel_rfl) (by kernel_rfl) (by kernel_rfl) (fun _ _ _ h => h) (Or.inl ⟨by rfl, ?yzp410⟩) hHeld ?rzp410
  case yzp410 => (intro wS hSw; clear hSw; go_simp; try (with_reducible rfl))
  try simp only [zzA, zzB, zzC, Act.put, zzD, zzE, zzF]
  refine wpAnyH_take (i := 11) (v := ?vzp411) rfl (by kernel_rfl) (by kernel_rfl) (by kernel_rfl) (fun _ _ _ h => h) (Or.inl ⟨by rfl, ?yzp411⟩) hHeld ?rzp411
  case yzp411 => (intro wS hSw; clear hSw; go_simp; try (with_reducible rfl))
  try simp only [zzA, zzB, zzC, Act.put, zzD, zzE, zzF]
  refine wpAnyH_take (i := 12) (v := ?vzp412) rfl (by kernel_rfl) (by kernel_rfl) (by kernel_rfl) (fun _ _ _ h => h) (Or.inl ⟨by rfl, ?yzp412⟩) hHeld ?rzp412
  case yzp412 => (intro wS hSw; clear hSw; go_simp; try (with_reducible rfl))
  try simp only [zzA, zzB, zzC, Act.put, zzD, zzE, zzF]
  refine wpAnyH_take (i := 13) (v := ?vzp413) rfl (by kernel_rfl) (by kernel_rfl) (by kernel_rfl) (fun _ _ _ h => h) (Or.inl ⟨by rfl, ?yzp413⟩) hHeld ?rzp413
  case yzp413 => (intro wS hSw; clear hSw; go_simp; try (with_reducible rfl))
  try simp only [zzA, zzB, zzC, Act.put, zzD, zzE, zzF]
  refine wpAnyH_take (i := 14) (v := ?vzp414) rfl (by kernel_rfl) (by kernel_rfl) (by kernel_rfl) (fun _ _ _ h => h) (Or.inl ⟨by rfl, ?yzp414⟩) hHeld ?rzp414
  case yzp414 => (intro wS hSw; clear hSw; go_simp; try (with_reducible rfl))
  try simp only [zzA, zzB, zzC, Act.put, zzD, zzE, zzF]
  refine wpAnyH_take (i := 15) (v := ?vzp415) rfl (by kernel_rfl) (by kernel_rfl) (by kernel_rfl) (fun _ _ _ h => h) (Or.inl ⟨by rfl, ?yzp415⟩) hHeld ?rzp415
  case yzp415 => (intro wS hSw; clear hSw; go_simp; try (with_reducible rfl))
  try simp only [zzA, zzB, zzC, Act.put, zzD, zzE, zzF]
  refine wpAnyH_take (i := 16) (v := .agg ev) rfl (by kernel_rfl) (by kernel_rfl) (by kernel_rfl) (fun _ _ _ h => h) (yields_part 33 258 (by rfl) (.tmp 7) rfl ⟨gc, 0, none⟩ rfl ev.toList aggD szD hsz3 (fun w hw => load_dv hw.2)) hHeld ?_
  try simp only [zzA, zzB, zzC, Act.put, zzD, zzE, zzF]
  refine wpAnyH_take (i := 17) (v := .agg dv) rfl (by kernel_rfl) (by kernel_rfl) (by kernel_rfl) (fun _ _ _ h => h) (yields_part 33 258 (by rfl) (.tmp 3) rfl ⟨g, 0, none⟩ rfl dv.toList aggD szD hsz2 (fun w hw => load_dv hw.1)) hHeld ?_
  try simp only [zzA, zzB, zzC, Act.put, zzD, zzE, zzF]
  refine wpAnyH_ready (rs := [18]) (by kernel_rfl) (by simp) (AllReadyH.cons rfl (fun K hK => ?_) AllReadyH.nil)
  go_simp
  go_at_call 16
  refine (CY.out.call_same MY.out HRB.out).mono ?_
  rintro e w8 ⟨rfl, hb⟩
  have MX := Lib.hid (MY.out.then hb)
  have CX := Lib.hid (CY.out.then hb)
  have TX := Lib.hid (TY.out.below hb)
  have hS1 := And.intro MX.out.box CX.out.box
  clear hb hHeld MY CY TY
  go_wp2_with fail
  refine hK.out _ _ hS1 (fun hHeld => ?_)
  clear hK K hS1
  try simp only [zzA, zzB, zzC, Act.put, zzD, zzE, zzF]
  refine wpAnyH_take (i := 19) (v := ?vzp419) rfl (by kernel_rfl) (by kernel_rfl) (by kernel_rfl) (fun _ _ _ h => h) (Or.inl ⟨by rfl, ?yzp419⟩) hHeld ?rzp419
  case yzp419 => (intro wS hSw; clear hSw; go_simp; try (with_reducible rfl))
  try simp only [zzA, zzB, zzC, Act.put, zzD, zzE, zzF]
  refine wpAnyH_take (i := 20) (v := ?vzp420) rfl (by kernel_rfl) (by kernel_rfl) (by kernel_rfl) (fun _ _ _ h => h) (Or.inl ⟨by rfl, ?yzp420⟩) hHeld ?rzp420
  case yzp420 => (intro wS hSw; clear hSw; go_simp; try (with_reducible rfl))
  try simp only [zzA, zzB, zzC, Act.put, zzD, zzE, zzF]
  refine wpAnyH_ready (rs := [21]) (by kernel_rfl) (by simp) (AllReadyH.cons rfl (fun K hK => ?_) AllReadyH.nil)
  go_simp
  go_at_call 12
  refine (works_any _ TX.out).mono ?_
  rintro e w9 ⟨rfl, hb⟩
  have MZ := Lib.hid (MX.out.then hb)
  have CZ := Lib.hid (CX.out.then hb)
  have hS1 := And.intro MZ.out.box CZ.out.box
  clear hb hHeld MX CX TX
  go_wp2_with fail
  refine hK.out _ _ hS1 (fun hHeld => ?_)
  clear hK K hS1
  try simp only [zzA, zzB, zzC, Act.put, zzD, zzE, zzF]
  refine wpAnyH_take (i := 22) (v := ?vzp422) rfl (by kernel_rfl) (by kernel_rfl) (by kernel_rfl) (fun _ _ _ h => h) (Or.inl ⟨by rfl, ?yzp422⟩) hHeld ?rzp422
  case yzp422 => (intro wS hSw; clear hSw; go_simp; try (with_reducible rfl))
  try simp only [zzA, zzB, zzC, Act.put, zzD, zzE, zzF]
  refine wpAnyH_take (i := 23) (v := ?vzp423) rfl (by kernel_rfl) (by kernel_rfl) (by kernel_rfl) (fun _ _ _ h => h) (Or.inl ⟨by rfl, ?yzp423⟩) hHeld ?rzp423
  case yzp423 => (intro wS hSw; clear hSw; go_simp; try (with_reducible rfl))
  try simp only [zzA, zzB, zzC, Act.put, zzD, zzE, zzF]
  refine wpAnyH_done (by kernel_rfl) ?_ _
  go_wp2_with fail
  exact post_is HQ ⟨rfl, MZ.out.low⟩

end Go.Proofs.YtcgfogdfcdndgaaGreatDoor
