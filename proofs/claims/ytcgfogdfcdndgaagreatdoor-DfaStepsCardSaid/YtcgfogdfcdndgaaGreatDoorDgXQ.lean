/- Machines in boxes; the law's works. -/
import Derived.Test.YtcgfogdfcdndgaaGreatDoorDgPQ
import Derived.Lib.SlBytesConst
set_option linter.unusedVariables false
set_option linter.unusedSimpArgs false
namespace Go.Proofs.YtcgfogdfcdndgaaGreatDoor
open Go.RowKit
attribute [local go_sem] Oper.semAt_some

/-! What calls made reads. -/
theorem RowsZ.rdt {W : World} {n1 nn cn : Nat} {A : Option Addr} {T : List (List Int)} {ex : Nat → Prop} (h : RowsZ W n1 (.slice A nn cn) T ex) : RdTb W A T := fun i hi => by
  obtain ⟨A', n', c', ad, B, m, d, e, ea, _, hc, h1, h2, _, h4, _⟩ := h.row hi
  injection e with e1 e2 e3
  subst e1 ea
  exact ⟨ad, rfl, B, m, d, hc, h1, h2, h4⟩
theorem OwnZ.rdz {w : World} {base : Nat} {v : Value} {l : List Int} (h : OwnZ w base v l) : ∃ A n c, v = .slice A n c ∧ Hid (l.length = n) ∧ n ≤ c ∧ RdW w A l := by
  rcases h.2 with ⟨e, hn⟩ | ⟨g, cap, cur, e, hbs, hg, hnc, hcm, r⟩
  · exact ⟨none, 0, 0, e, hn, Nat.le_refl _, fun i hi => by omega⟩
  · refine ⟨some ⟨g, 0, none⟩, _, cap, e, rfl, hnc, fun i hi => ⟨_, rfl, ?_⟩⟩
    exact World.ownsRow.cells h (g := g) (by rw [e]; rfl) i _ (by rw [List.getElem?_map, List.getElem?_eq_getElem hi]; rfl)
/-- A machine in a box. -/
structure MachB (W : World) (g : Nat) (cl : Nat → Int) (T : List (List Int)) (X : List Int) (An Ax : Option Addr) (nn cn nx cx : Nat) (dv : Array Value) (w : World) : Prop where
  box : w.heap[g]? = some (.cells dv 33 (0, 0))
  hd : mkT cl [.slice An nn cn, .slice Ax nx cx] = dv
  rt : RdTb w An T
  rx : RdW w Ax X
  low : Below W.heap.size W w
  lt : T.length = nn
  lx : X.length = nx
  bn : nn ≤ 140737488355328
  bx : nx ≤ 140737488355328
section
variable {W w w' : World} {g : Nat} {cl : Nat → Int} {T : List (List Int)} {X : List Int} {An Ax : Option Addr} {nn cn nx cx : Nat} {dv : Array Value}
theorem MachB.then (h : MachB W g cl T X An Ax nn cn nx cx dv w) (hb : Below w.heap.size w w') : MachB W g cl T X An Ax nn cn nx cx dv w' :=
  ⟨(hb.block _ (Array.getElem?_eq_some_iff.1 h.box).1).trans h.box, h.hd, h.rt.below hb, h.rx.below hb, bl_trans h.low hb, h.lt, h.lx, h.bn, h.bx⟩
theorem MachB.len (h : MachB W g cl T X An Ax nn cn nx cx dv w) : dv.toList.length = 258 := by
  rw [Array.length_toList, ← h.hd, mkT_size]
  rfl
theorem MachB.load (h : MachB W g cl T X An Ax nn cn nx cx dv w) : ∀ j u, dv.toList[j]? = some u → w.cell? ((⟨g, 0, none⟩ : Addr).add j) = some u := fun j u hu => by
  rw [addr_mk, Nat.zero_add, cell_of_row w g j _ _ _ h.box]
  simpa using hu
theorem MachB.next (h : MachB W g cl T X An Ax nn cn nx cx dv w) : w.cell? ⟨g, 256, none⟩ = some (.slice An nn cn) :=
  (cell_of_row w g 256 _ _ _ h.box).trans (by rw [← h.hd]; exact mkT_at _ _ 0)
theorem MachB.rule (h : MachB W g cl T X An Ax nn cn nx cx dv w) : w.cell? ⟨g, 257, none⟩ = some (.slice Ax nx cx) :=
  (cell_of_row w g 257 _ _ _ h.box).trans (by rw [← h.hd]; exact mkT_at _ _ 1)
theorem MachB.cls (h : MachB W g cl T X An Ax nn cn nx cx dv w) {c : Nat} (hc : c < 256) : w.cell? ⟨g, c, none⟩ = some (.int .i64 (cl c)) :=
  (cell_of_row w g c _ _ _ h.box).trans (by rw [← h.hd]; exact mkT_cl _ _ hc)
theorem MachB.row (h : MachB W g cl T X An Ax nn cn nx cx dv w) {i : Nat} (hi : i < T.length) : ∃ ad, An = some ad ∧ ∃ B m d, w.cell? (ad.add i) = some (.slice B m d) ∧ T[i].length = m ∧ m ≤ d ∧ RdW w B T[i] := h.rt i hi
theorem MachB.call_check (h : MachB W g cl T X An Ax nn cn nx cx dv w) : Calls Tryz.prog 21 #[.agg dv] w (GotEr w (checkD (clL cl) T X)) := by
  have := dcheck_any cl T X An Ax nn cn nx cx h.lt h.lx h.bn h.bx w h.rt h.rx
  rwa [h.hd] at this
theorem MachB.call_step (h : MachB W g cl T X An Ax nn cn nx cx dv w) (s : Int) (c : Nat) (hc : c < 256) : Calls Tryz.prog 19 #[.agg dv, .int .i64 s, .int .u8 (c : Int)] w (GotRn w (stepD (clL cl) T X s c)) := by
  have := dstep_any cl T X An Ax nn cn nx cx h.lt h.lx h.bn h.bx s c hc w h.rt h.rx
  rwa [h.hd] at this
theorem MachB.call_run (h : MachB W g cl T X An Ax nn cn nx cx dv w) (ts : List UInt8) (At : Option Addr) (n c : Nat) (hn : ts.length = n) (hn3 : n ≤ 140737488355328) (ht : Rd w At ts) : Calls Tryz.prog 23 #[.agg dv, .slice At n c] w (GotRn w (runD (clL cl) T X ts)) := by
  have := drun_any cl T X An Ax nn cn nx cx h.lt h.lx h.bn h.bx ts At n c hn hn3 w h.rt h.rx ht
  rwa [h.hd] at this
end

/-- A machine that Of answered, laid into a box. -/
theorem mach_stored {W w : World} {n1 : Nat} {vT vR : Value} {cl : Nat → Int} {T : List (List Int)} {X : List Int} {ex : Nat → Prop} (hT : RowsZ w n1 vT T ex) (hR : OwnZ w n1 vR X) (hlow : Below W.heap.size W w) (hn : T.length ≤ 100000) (hx : X.length ≤ 100000) :
    ∃ An nn cn Ax nx cx dv, vT = .slice An nn cn ∧ vR = .slice Ax nx cx ∧ mkT cl [vT, vR] = dv ∧ dv.size = 258 ∧ dv.all (·.oneCell') = true ∧ Hid (MachB W w.heap.size cl T X An Ax nn cn nx cx dv ((w.alloc (.cells dz 33)).setRow w.heap.size dv)) := by
  obtain ⟨An, nn, cn, e, hnn⟩ := hT.form
  subst e
  obtain ⟨Ax, nx, cx, e, hnx, hcx, hxr⟩ := hR.rdz
  subst e
  have hnn := hnn.out
  have hnx := hnx.out
  have bs : Below w.heap.size w ((w.alloc (.cells dz 33)).setRow w.heap.size (mkT cl [.slice An nn cn, .slice Ax nx cx])) := bl_setRow (bl_alloc (Below.refl _ _) _) (Nat.le_refl _) _
  exact ⟨An, nn, cn, Ax, nx, cx, _, rfl, rfl, rfl, by rw [mkT_size]; rfl, mkT_one _ _ _ _ _ _ _,
    ⟨setRow_heap _ _ _ _ _ _ (heap_alloc_new w _), rfl, hT.rdt.below bs, hxr.below bs, bl_trans hlow bs, hnn, hnx, by omega, by omega⟩⟩
def tAs : Rx := .star (.set (oneS 97))
def tBb : Rx := .set (oneS 98)
def lsW : List (List RN) := [flat 0 tAs, flat 0 tBb]
deriving instance DecidableEq for Res
theorem par_as : parM 60 .ways [97, 42] = .ok tAs [] := by decide +kernel
theorem par_bb : parM 60 .ways [98] = .ok tBb [] := by decide +kernel
def eW : List Ed := netE 1 lsW
def xW : List Int := [4, 6]
theorem ofn_w : ofN lsW = 0 := by decide +kernel
theorem nets_w : netS lsW = 7 := by decide +kernel
theorem netx_w : zl (netX 1 lsW) = xW := by decide +kernel
theorem ew_len : eW.length ≤ 100 := by decide +kernel
theorem chk_w : checkN 7 eW xW = 0 := by decide +kernel
theorem le_w : leastsE eW = [0, 97, 98] := by decide +kernel
def fW : List (List Nat) := [[0, 1, 3, 4, 5], [1, 2, 4], [6]]
theorem fo_w : foundD 7 eW = some fW := by
  unfold foundD
  rw [le_w]
  decide +kernel
def tW : List (List Int) := [[-1, 1, 2], [-1, 1, -1], [-1, -1, -1]]
theorem tab_w : tabD 7 eW fW = tW := by
  unfold tabD
  rw [le_w]
  decide +kernel
theorem rul_w : rulesD fW xW = [0, 0, 1] := by decide +kernel
def clW : List Int := (List.range 256).map fun c => if c = 97 then 1 else if c = 98 then 2 else 0
theorem cls_w : clL (fun c => (classE eW c : Int)) = clW := by
  unfold clL
  simp only [classE, le_w]
  decide +kernel
theorem cl_at {c k : Nat} (hc : c < 256) (h : clW.getD c 0 = (k : Int)) : ((classE eW c : Nat) : Int) = (k : Int) := by
  rw [← h, ← cls_w]
  unfold clL
  simp [List.getD, hc]
theorem run_w1 : runD clW tW [0, 0, 1] [97, 97, 97] = (0, 0) := by decide +kernel
theorem run_w2 : runD clW tW [0, 0, 1] [97, 98] = (-1, 0) := by decide +kernel
theorem step_w : stepD clW tW [0, 0, 1] 0 98 = (2, 0) := by decide +kernel
theorem rdw_row (w : World) (xs : List Int) (vs : Array Value) (hv : vs.toList = xs.map (Value.int .i64)) : RdW (w.alloc (.cells vs 3)) (some ⟨w.heap.size, 0, none⟩) xs := fun k hk => by
  refine ⟨_, rfl, ?_⟩
  rw [addr_mk, Nat.zero_add, cell_of_row _ w.heap.size k _ _ _ (heap_alloc_new w _), ← Array.getElem?_toList, hv]
  simp [hk]
theorem rd_rowD (w : World) (xs : List UInt8) (vs : Array Value) (z : Nat × Nat) (hv : vs.toList = xs.map bv) : Rd (w.alloc (.cells vs 5 z)) (some ⟨w.heap.size, 0, none⟩) xs := fun _ => by
  refine ⟨_, rfl, fun k hk => ?_⟩
  rw [addr_mk, Nat.zero_add, cell_of_row _ w.heap.size k _ _ _ (heap_alloc_new w _), ← Array.getElem?_toList, hv]
  simp [hk]
theorem w_net (W : World) : Calls Tryz.prog 27 #[.slice (some ⟨W.heap.size, 0, none⟩) 2 2] (W.alloc (.cells #[.string ⟨#[97, 42]⟩, .string ⟨#[98]⟩] 9)) (GotNt (W.alloc (.cells #[.string ⟨#[97, 42]⟩, .string ⟨#[98]⟩] 9)) lsW) := by
  have hk := heap_alloc_new W (.cells #[.string ⟨#[97, 42]⟩, .string ⟨#[98]⟩] 9)
  refine net_texts [[97, 42], [98]] lsW _ 2 2 rfl rfl (by omega) _ (fun i h => ?_) (fun i h h' w => ?_)
  · refine ⟨_, rfl, ?_⟩
    match i, h with
    | 0, _ => exact cell_of_row _ W.heap.size 0 _ _ _ hk
    | 1, _ => exact cell_of_row _ W.heap.size 1 _ _ _ hk
  · match i, h with
    | 0, _ =>
      have h := parse_short [97, 42] (by decide) 60 (by rw [par_as]; simp) w
      rw [par_as] at h
      exact h
    | 1, _ =>
      have h := parse_short [98] (by decide) 60 (by rw [par_bb]; simp) w
      rw [par_bb] at h
      exact h
set_option maxRecDepth 100000 in
set_option maxHeartbeats 16000000 in
theorem works_any (W : World) (hT : Tab W) : Calls Tryz.prog 12 #[] W (GotBl W true) := by
  generalize hQ : GotBl W true = Q
  have HQ := Lib.hid hQ
  have HO := Lib.hid (w_net W)
  have b0 := bl_alloc (Below.refl W.heap.size W) (.cells #[.string ⟨#[97, 42]⟩, .string ⟨#[98]⟩] 9)
  have TB := Lib.hid (hT.below b0)
  have B0 := Lib.hid b0
  have hz := zeroD
  clear hQ b0 hT
  have kc := fun (w : World) (C : Array Value) (n c : Nat) => Lib.run_convert_bytes_const (P := Tryz.prog) w 44 5 C n c Tryz.underlying44 Tryz.underlying5
  go_enter Tryz.func12, Tryz.ntmps12
  go_wp2_with fail
  refine HO.out.mono ?_
  rintro e w1 ⟨S, A, n, c, A2, n2, c2, rfl, y1, y2, y3, hb1⟩
  rw [ofn_w, if_pos rfl] at y1 y2 y3
  rw [nets_w] at y3
  subst y3
  obtain ⟨A', n', c', e1, z1, z2, z3, z4⟩ := y1.form
  injection e1 with e1 e2 e3
  subst e1 e2 e3
  obtain ⟨A', n', c', e1, x1, x2, x3, x4⟩ := y2.form
  injection e1 with e1 e2 e3
  subst e1 e2 e3
  have hx := rdw_zl x4
  rw [netx_w] at hx
  have z1' : eW.length = n := z1.out
  have x1' : xW.length = n2 := by rw [← netx_w]; unfold zl; rw [List.length_map]; exact x1.out
  have hn : n ≤ 100 := by rw [← z1']; exact ew_len
  have hn2 : n2 = 2 := x1'.symm
  have HOF := Lib.hid (of_net ((7 : Nat) : Int) eW xW A A2 n c n2 c2 z1' x1' z2 x2 (by omega) (by omega) w1 z4 hx (TB.out.below hb1))
  have B1 := Lib.hid (bl_trans B0.out hb1)
  clear hx z1 z2 z3 z4 x1 x2 x3 x4 y1 y2 hb1 z1' x1' hn hn2 HO B0 TB
  go_wp2_with fail
  refine HOF.out.mono ?_
  rintro e w2 ⟨hb2, h | ⟨_, n7, hn7, _, h⟩⟩
  · exact absurd chk_w h.1
  obtain rfl : 7 = n7 := by omega
  rcases h with ⟨h, _⟩ | ⟨F, n1, vT, vR, ex, hF, rfl, hn1, hT1, hR1, _⟩
  · rw [fo_w] at h
    cases h
  rw [fo_w] at hF
  injection hF with hF
  subst hF
  rw [tab_w] at hT1
  rw [rul_w] at hR1
  have B2 := Lib.hid (bl_trans B1.out hb2)
  obtain ⟨An, nn, cn, Ax, nx, cx, dv, rfl, rfl, hdv, hds, hdo, MB⟩ := mach_stored (cl := fun c => ((classE eW c : Nat) : Int)) hT1 hR1 B2.out (by decide) (by decide)
  obtain rfl : 3 = nn := MB.out.lt
  obtain rfl : 3 = nx := MB.out.lx
  clear hb2 hT1 hR1 hn7 B1 HOF hn1 B2
  have K2 := heap_alloc_new w2 (.cells dz 33)
  rw [hdv]
  clear hdv
  have C97 : ((classE eW 97 : Nat) : Int) = 1 := cl_at (k := 1) (by omega) (by decide +kernel)
  have C98 : ((classE eW 98 : Nat) : Int) = 2 := cl_at (k := 2) (by omega) (by decide +kernel)
  have C99 : ((classE eW 99 : Nat) : Int) = 0 := cl_at (k := 0) (by omega) (by decide +kernel)
  have C0 : ((classE eW 0 : Nat) : Int) = 0 := cl_at (k := 0) (by omega) (by decide +kernel)
  have hR1 := run_w1
  have hR2 := run_w2
  have hS1 := step_w
  rw [← cls_w] at hR1 hR2 hS1
  go_upto_region 2 with (refine wpList_store_row rfl 33 _ _ rfl w2.heap.size dv rfl rfl _ _ K2 (by rw [sizeD, hds]) (by rw [dz_size, hds]) hdo ?_)
  generalize (w2.alloc (.cells dz 33)).setRow w2.heap.size dv = w3 at *
  generalize w2.heap.size = g at *
  clear K2
  have c256 := MB.out.next
  have c257 := MB.out.rule
  have c97 := MB.out.cls (c := 97) (by omega)
  have c98 := MB.out.cls (c := 98) (by omega)
  have c99 := MB.out.cls (c := 99) (by omega)
  have c0 := MB.out.cls (c := 0) (by omega)
  simp only [C97, C98, C99, C0] at c97 c98 c99 c0
  have bA := bl_alloc (Below.refl w3.heap.size w3) (.cells #[.int .i64 0, .int .i64 0, .int .i64 1] 3)
  have MA := Lib.hid (MB.out.then bA)
  have HE := eqInts_any Ax (some ⟨w3.heap.size, 0, none⟩) 3 cx 3 3 [0, 0, 1] [0, 0, 1] (w3.alloc (.cells #[.int .i64 0, .int .i64 0, .int .i64 1] 3)) rfl rfl MA.out.rx (rdw_row w3 [0, 0, 1] #[.int .i64 0, .int .i64 0, .int .i64 1] rfl) (by omega) (by omega)
  rw [show decide (([0, 0, 1] : List Int) = [0, 0, 1]) = true from by decide] at HE
  have HE := Lib.hid HE
  clear bA
  go_wp2_with fail
  refine HE.out.mono ?_
  rintro e w4 ⟨rfl, hb4⟩
  have M4 := Lib.hid (MA.out.then hb4)
  clear hb4 HE MA MB c256 c257 c97 c98 c99 c0
  have hsz2 := M4.out.len
  have HCS := Lib.hid M4.out.load
  go_upto_region 4 with fail
  have bA := bl_alloc (Below.refl w4.heap.size w4) (.cells #[.int .u8 97, .int .u8 97, .int .u8 97] 5 (3, 4))
  have MA := Lib.hid (M4.out.then bA)
  have HC := MA.out.call_run [97, 97, 97] (some ⟨w4.heap.size, 0, none⟩) 3 3 rfl (by omega) (rd_rowD w4 [97, 97, 97] #[.int .u8 97, .int .u8 97, .int .u8 97] (3, 4) rfl)
  rw [hR1] at HC
  have HC := Lib.hid HC
  clear bA M4
  go_wp2_with (refine wpList_load_part 33 258 _ rfl rfl ⟨g, 0, none⟩ rfl dv.toList (aggD _) (szD _) hsz2 HCS.out ?_)
  refine HC.out.mono ?_
  rintro e w5 ⟨rfl, hb5⟩
  have M5 := Lib.hid (MA.out.then hb5)
  clear hb5 HC MA HCS
  have HCS := Lib.hid M5.out.load
  have bA := bl_alloc (Below.refl w5.heap.size w5) (.cells #[.int .u8 97, .int .u8 98] 5 (2, 3))
  have MA := Lib.hid (M5.out.then bA)
  have HC := MA.out.call_run [97, 98] (some ⟨w5.heap.size, 0, none⟩) 2 2 rfl (by omega) (rd_rowD w5 [97, 98] #[.int .u8 97, .int .u8 98] (2, 3) rfl)
  rw [hR2] at HC
  have HC := Lib.hid HC
  clear bA M5
  go_wp2_with (refine wpList_load_part 33 258 _ rfl rfl ⟨g, 0, none⟩ rfl dv.toList (aggD _) (szD _) hsz2 HCS.out ?_)
  refine HC.out.mono ?_
  rintro e w6 ⟨rfl, hb6⟩
  have M6 := Lib.hid (MA.out.then hb6)
  clear hb6 HC MA HCS
  have HCS := Lib.hid M6.out.load
  have HC := M6.out.call_step 0 98 (by omega)
  rw [hS1] at HC
  have HC := Lib.hid HC
  go_wp2_with (refine wpList_load_part 33 258 _ rfl rfl ⟨g, 0, none⟩ rfl dv.toList (aggD _) (szD _) hsz2 HCS.out ?_)
  refine HC.out.mono ?_
  rintro e w7 ⟨rfl, hb7⟩
  have M7 := Lib.hid (M6.out.then hb7)
  clear hb7 HC M6 HCS hR1 hR2 hS1
  go_upto_region 7 with fail
  obtain ⟨ad, hA, B0, m0, d0, hc0, hm0, hmd0, hr0⟩ := M7.out.row (i := 0) (by decide)
  obtain rfl : 3 = m0 := hm0
  subst hA
  have k0 : w7.cell? (ad) = some (.slice B0 3 d0) := by rwa [add_zero_a] at hc0
  have c256 := M7.out.next
  have bA := bl_alloc (Below.refl w7.heap.size w7) (.cells #[.int .i64 (-1), .int .i64 1, .int .i64 2] 3)
  have MA := Lib.hid (M7.out.then bA)
  have HE := eqInts_any B0 (some ⟨w7.heap.size, 0, none⟩) 3 d0 3 3 [-1, 1, 2] [-1, 1, 2] (w7.alloc (.cells #[.int .i64 (-1), .int .i64 1, .int .i64 2] 3)) rfl rfl (hr0.below bA) (rdw_row w7 [-1, 1, 2] #[.int .i64 (-1), .int .i64 1, .int .i64 2] rfl) (by omega) (by omega)
  rw [show decide (([-1, 1, 2] : List Int) = [-1, 1, 2]) = true from by decide] at HE
  have HE := Lib.hid HE
  clear bA
  go_wp2_with fail
  refine HE.out.mono ?_
  rintro e w8 ⟨rfl, hb8⟩
  have M8 := Lib.hid (MA.out.then hb8)
  clear hb8 HE MA M7 c256 k0 hr0 hc0
  obtain ⟨ad1, hA, B1, m1, d1, hc1, hm1, hmd1, hr1⟩ := M8.out.row (i := 1) (by decide)
  obtain rfl : 3 = m1 := hm1
  have hA := Option.some.inj hA
  subst hA
  have k1 : w8.cell? ⟨ad.block, ad.off + 1, none⟩ = some (.slice B1 3 d1) := hc1
  have c256 := M8.out.next
  have bA := bl_alloc (Below.refl w8.heap.size w8) (.cells #[.int .i64 (-1), .int .i64 1, .int .i64 (-1)] 3)
  have MA := Lib.hid (M8.out.then bA)
  have HE := eqInts_any B1 (some ⟨w8.heap.size, 0, none⟩) 3 d1 3 3 [-1, 1, -1] [-1, 1, -1] (w8.alloc (.cells #[.int .i64 (-1), .int .i64 1, .int .i64 (-1)] 3)) rfl rfl (hr1.below bA) (rdw_row w8 [-1, 1, -1] #[.int .i64 (-1), .int .i64 1, .int .i64 (-1)] rfl) (by omega) (by omega)
  rw [show decide (([-1, 1, -1] : List Int) = [-1, 1, -1]) = true from by decide] at HE
  have HE := Lib.hid HE
  clear bA
  go_wp2_with fail
  refine HE.out.mono ?_
  rintro e w9 ⟨rfl, hb9⟩
  have M9 := Lib.hid (MA.out.then hb9)
  clear hb9 HE MA M8 c256 k1 hr1 hc1
  obtain ⟨ad2, hA, B2, m2, d2, hc2, hm2, hmd2, hr2⟩ := M9.out.row (i := 2) (by decide)
  obtain rfl : 3 = m2 := hm2
  have hA := Option.some.inj hA
  subst hA
  have k2 : w9.cell? ⟨ad.block, ad.off + 2, none⟩ = some (.slice B2 3 d2) := hc2
  have c256 := M9.out.next
  have bA := bl_alloc (Below.refl w9.heap.size w9) (.cells #[.int .i64 (-1), .int .i64 (-1), .int .i64 (-1)] 3)
  have MA := Lib.hid (M9.out.then bA)
  have HE := eqInts_any B2 (some ⟨w9.heap.size, 0, none⟩) 3 d2 3 3 [-1, -1, -1] [-1, -1, -1] (w9.alloc (.cells #[.int .i64 (-1), .int .i64 (-1), .int .i64 (-1)] 3)) rfl rfl (hr2.below bA) (rdw_row w9 [-1, -1, -1] #[.int .i64 (-1), .int .i64 (-1), .int .i64 (-1)] rfl) (by omega) (by omega)
  rw [show decide (([-1, -1, -1] : List Int) = [-1, -1, -1]) = true from by decide] at HE
  have HE := Lib.hid HE
  clear bA
  go_wp2_with fail
  refine HE.out.mono ?_
  rintro e w10 ⟨rfl, hb10⟩
  have M10 := Lib.hid (MA.out.then hb10)
  clear hb10 HE MA M9 c256 k2 hr2 hc2
  go_wp2_with fail
  exact post_is HQ ⟨rfl, M10.out.low⟩

end Go.Proofs.YtcgfogdfcdndgaaGreatDoor
