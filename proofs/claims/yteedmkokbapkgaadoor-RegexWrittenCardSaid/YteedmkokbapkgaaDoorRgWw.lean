/- The writer of patterns: node, bare, Print. Under: math/bits' table as it was laid. -/
import Derived.Test.YteedmkokbapkgaaDoorRgWv
set_option linter.unusedVariables false
set_option linter.unusedSimpArgs false
namespace Go.Proofs.YteedmkokbapkgaaDoor
open Go.RowKit

theorem node_set {w : World} {B : Nat} {s : S4} {kd a b : Int} (h : w.heap[B]? = some (.cells #[.int .i64 kd, dv s.w0, dv s.w1, dv s.w2, dv s.w3, .int .i64 a, .int .i64 b] 59 (0, 0))) : ∀ j u, (setCells s)[j]? = some u → w.cell? ((⟨B, 1, none⟩ : Addr).add j) = some u := fun j u hu => by
  have hj : j < 4 := (List.getElem?_eq_some_iff.1 hu).1
  rw [add_mk, cell_of_row w B _ _ _ _ h]
  match j, hj with
  | 0, _ => exact hu
  | 1, _ => exact hu
  | 2, _ => exact hu
  | 3, _ => exact hu
theorem rn_u8 : (59 : TypeId) ≠ 5 := by decide

set_option maxRecDepth 20000 in
set_option maxHeartbeats 2000000 in
theorem node_step {W0 : World} {b : Nat} {A : Option Addr} {n c : Nat} {l : List RN} (hr : RdR W0 A l) (hn : l.length = n) (k : Nat) (t : Rx) (hs : Sits l k t)
    (hbare : ∀ txt w, WAt W0 b A n c txt w → txt.length + (bareW t).length ≤ 10000000 → Calls Tryd.prog 44 #[.pointer (some ⟨b, 0, none⟩), aggR (rootN k t)] w (GotW W0 b A n c w (txt ++ bareW t)))
    (least : Nat) (txt : List UInt8) (w : World) (h : WAt W0 b A n c txt w) (hm : txt.length + (nodeOf least t (bareW t)).length ≤ 10000000) :
    Calls Tryd.prog 26 #[.pointer (some ⟨b, 0, none⟩), .int .i64 ((k + t.size - 1 : Nat) : Int), .int .i64 (least : Int)] w (GotW W0 b A n c w (txt ++ nodeOf least t (bareW t))) := by
  have hroot := hs.root
  have hhold := hold_root k t
  have hbl := h.lt
  have hsz := h.below.size
  generalize hQ : GotW W0 b A n c w (txt ++ nodeOf least t (bareW t)) = Q
  have HQ := Lib.hid hQ
  clear hQ
  generalize k + t.size - 1 = p at *
  generalize rootN k t = nd at *
  obtain ⟨hp, hnd⟩ := List.getElem?_eq_some_iff.1 hroot
  obtain ⟨ad, rfl, hcs⟩ := (hr.below h.below) p hp
  rw [hnd] at hcs
  obtain ⟨v, hg, hv⟩ := h.text
  have c0 : w.cell? ⟨b, 0, none⟩ = some (.slice (some ad) n c) := by rw [cell_of_row w b _ _ _ _ hg]; rfl
  have hpn : p < n := by omega
  obtain ⟨kd, a, bb, z0, z1, z2, z3⟩ := nd
  simp only [] at hhold
  have HW := Lib.hid h
  have HCS := Lib.hid hcs
  have HM := Lib.hid hm
  have HBARE := Lib.hid hbare
  have HH := Lib.hid hhold
  clear h hcs hm hbare hroot hnd hg hv hs hhold
  have hnw := heap_alloc_new w (.cells #[.int .i64 0, .int .u64 0, .int .u64 0, .int .u64 0, .int .u64 0, .int .i64 0, .int .i64 0] 59)
  go_enter Tryd.func26, Tryd.ntmps26
  go_upto_region 1 with (first
    | (refine wpList_load_node _ rfl rfl _ rfl kd a bb z0 z1 z2 z3 HCS.out ?_)
    | (refine wpList_store_row rfl 59 _ _ rfl w.heap.size _ rfl rfl 59 _ hnw (by rw [size_rn]; rfl) (by rfl) (by simp [dv, Value.oneCell']) ?_))
  have hrow := setRow_heap _ _ _ #[.int .i64 kd, dv z0, dv z1, dv z2, dv z3, .int .i64 a, .int .i64 bb] _ _ hnw
  have hB2 : Below w.heap.size w ((w.alloc (.cells #[.int .i64 0, .int .u64 0, .int .u64 0, .int .u64 0, .int .u64 0, .int .i64 0, .int .i64 0] 59)).setRow w.heap.size #[.int .i64 kd, dv z0, dv z1, dv z2, dv z3, .int .i64 a, .int .i64 bb]) := bl_setRow (bl_alloc (Below.refl _ _) _) (Nat.le_refl _) _
  generalize (w.alloc (.cells #[.int .i64 0, .int .u64 0, .int .u64 0, .int .u64 0, .int .u64 0, .int .i64 0, .int .i64 0] 59)).setRow w.heap.size #[.int .i64 kd, dv z0, dv z1, dv z2, dv z3, .int .i64 a, .int .i64 bb] = w2 at *
  have HW2 := Lib.hid (HW.out.then hB2)
  have HK2 := Lib.hid (keeps_below (b := b) hB2)
  have HROW := Lib.hid hrow
  have q0 : w2.cell? ⟨w.heap.size, 0, none⟩ = some (.int .i64 kd) := (node_cells hrow).1
  clear hnw hB2 hrow HW c0
  go_wp2_with fail
  refine (hold_any kd _).mono ?_
  rintro e w3 ⟨rfl, rfl⟩
  rw [HH.out]
  by_cases hle : least ≤ holdT t
  · have hm1 : txt.length + (bareW t).length ≤ 10000000 := by have := HM.out; rwa [nodeOf, if_pos hle] at this
    have hno : nodeOf least t (bareW t) = bareW t := by rw [nodeOf, if_pos hle]
    have d1 : decide (least ≤ holdT t) = true := decide_eq_true hle
    have HM1 := Lib.hid hm1
    have HNO := Lib.hid hno
    generalize holdT t = hd at *
    clear q0 hle hm1 hno
    go_wp2_with (refine wpList_load_row rfl 59 _ rfl w.heap.size rfl 59 _ (0, 0) _ HROW.out Tryd.underlying59 rfl (by rw [size_rn]; rfl) ?_)
    refine (HBARE.out txt _ HW2.out HM1.out).mono ?_
    rintro e w4 ⟨rfl, hw4, hk4⟩
    have HW4 := Lib.hid hw4
    have HK4 := Lib.hid (HK2.out.trans hk4)
    clear hw4 hk4
    go_wp2_with fail
    refine bodyPost_ret (v := .tuple #[]) (results_none Tryd.results26 _ _ _) rfl (post_is HQ ?_)
    rw [HNO.out]
    exact ⟨rfl, HW4.out, HK4.out⟩
  · have hm1 : txt.length + (bareW t).length + 2 ≤ 10000000 := by have := HM.out; rw [nodeOf, if_neg hle] at this; simp at this; omega
    have hno : nodeOf least t (bareW t) = 40 :: (bareW t ++ [41]) := by rw [nodeOf, if_neg hle]
    have d1 : decide (least ≤ holdT t) = false := decide_eq_false hle
    have HM1 := Lib.hid hm1
    have HNO := Lib.hid hno
    generalize holdT t = hd at *
    clear q0 hle hm1 hno
    go_wp2_with fail
    refine (put_any [40] HW2.out (by have := HM1.out; simp; omega)).mono ?_
    rintro e w4 ⟨rfl, hw4, hk4⟩
    have HW4 := Lib.hid hw4
    have HK4 := Lib.hid (HK2.out.trans hk4)
    have HR4 := Lib.hid (hk4 _ _ _ _ HROW.out rn_u8 (by omega))
    clear hw4 hk4 HW2 HK2 HROW
    go_wp2_with (refine wpList_load_row rfl 59 _ rfl w.heap.size rfl 59 _ (0, 0) _ HR4.out Tryd.underlying59 rfl (by rw [size_rn]; rfl) ?_)
    refine (HBARE.out (txt ++ [40]) _ HW4.out (by have := HM1.out; simp; omega)).mono ?_
    rintro e w5 ⟨rfl, hw5, hk5⟩
    have HW5 := Lib.hid hw5
    have HK5 := Lib.hid (HK4.out.trans hk5)
    clear hw5 hk5 HW4 HK4 HR4
    go_wp2_with fail
    refine (put_any [41] HW5.out (by have := HM1.out; simp; omega)).mono ?_
    rintro e w6 ⟨rfl, hw6, hk6⟩
    have HW6 := Lib.hid hw6
    have HK6 := Lib.hid (HK5.out.trans hk6)
    clear hw6 hk6 HW5 HK5
    go_wp2_with fail
    refine bodyPost_ret (v := .tuple #[]) (results_none Tryd.results26 _ _ _) rfl (post_is HQ ?_)
    rw [HNO.out]
    refine ⟨rfl, ?_, HK6.out⟩
    have := HW6.out
    simpa using this

set_option maxRecDepth 20000 in
set_option maxHeartbeats 4000000 in
theorem bare_any {W0 : World} {b : Nat} {A : Option Addr} {n c : Nat} {l : List RN} (hT : Tab W0) (hr : RdR W0 A l) (hn : l.length = n) (t : Rx) : ∀ (k : Nat) (hs : Sits l k t) (txt : List UInt8) (w : World), WAt W0 b A n c txt w → txt.length + (bareW t).length ≤ 10000000 →
    Calls Tryd.prog 44 #[.pointer (some ⟨b, 0, none⟩), aggR (rootN k t)] w (GotW W0 b A n c w (txt ++ bareW t)) := by
  have HT := Lib.hid hT
  clear hT
  induction t with
  | nil =>
    intro k hs txt w h hm
    generalize hQ : GotW W0 b A n c w (txt ++ bareW (.nil)) = Q
    have HQ := Lib.hid hQ
    clear hQ
    have hbl := h.lt
    have hbel := bl_alloc (Below.refl w.heap.size w) (.cells #[.int .i64 1, dv 0, dv 0, dv 0, dv 0, .int .i64 0, .int .i64 0] 59)
    have hnd : (w.alloc (.cells #[.int .i64 1, dv 0, dv 0, dv 0, dv 0, .int .i64 0, .int .i64 0] 59)).heap[w.heap.size]? = some (.cells #[.int .i64 1, dv 0, dv 0, dv 0, dv 0, .int .i64 0, .int .i64 0] 59 (0, 0)) := heap_alloc_new w _
    have HW := Lib.hid (h.then hbel)
    have HK := Lib.hid (keeps_below (b := b) hbel)
    have HM := Lib.hid hm
    have HND := Lib.hid hnd
    obtain ⟨q0, q1, q2, q3, q4, q5, q6⟩ := node_cells hnd
    clear hbel h hm hnd
    show Calls Tryd.prog 44 #[.pointer (some ⟨b, 0, none⟩), .agg #[.int .i64 1, dv 0, dv 0, dv 0, dv 0, .int .i64 0, .int .i64 0]] w Q
    go_enter Tryd.func44, Tryd.ntmps44
    go_wp2_with fail
    refine (put_any [40, 41] HW.out (by have := HM.out; simp [bareW] at this ⊢; omega)).mono ?_
    rintro e w4 ⟨rfl, hw4, hk4⟩
    have HW4 := Lib.hid hw4
    have HK4 := Lib.hid (HK.out.trans hk4)
    clear hw4 hk4 q0 q1 q2 q3 q4 q5 q6
    go_wp2_with fail
    refine bodyPost_ret (v := .tuple #[]) (results_none Tryd.results44 _ _ _) rfl (post_is HQ ?_)
    exact ⟨rfl, HW4.out, HK4.out⟩
  | set s =>
    intro k hs txt w h hm
    generalize hQ : GotW W0 b A n c w (txt ++ bareW (.set s)) = Q
    have HQ := Lib.hid hQ
    clear hQ
    have hbl := h.lt
    have hbel := bl_alloc (Below.refl w.heap.size w) (.cells #[.int .i64 2, dv s.w0, dv s.w1, dv s.w2, dv s.w3, .int .i64 0, .int .i64 0] 59)
    have hnd : (w.alloc (.cells #[.int .i64 2, dv s.w0, dv s.w1, dv s.w2, dv s.w3, .int .i64 0, .int .i64 0] 59)).heap[w.heap.size]? = some (.cells #[.int .i64 2, dv s.w0, dv s.w1, dv s.w2, dv s.w3, .int .i64 0, .int .i64 0] 59 (0, 0)) := heap_alloc_new w _
    have HW := Lib.hid (h.then hbel)
    have HK := Lib.hid (keeps_below (b := b) hbel)
    have HM := Lib.hid hm
    have HND := Lib.hid hnd
    obtain ⟨q0, q1, q2, q3, q4, q5, q6⟩ := node_cells hnd
    clear hbel h hm hnd
    show Calls Tryd.prog 44 #[.pointer (some ⟨b, 0, none⟩), .agg #[.int .i64 2, dv s.w0, dv s.w1, dv s.w2, dv s.w3, .int .i64 0, .int .i64 0]] w Q
    go_enter Tryd.func44, Tryd.ntmps44
    have HSET := Lib.hid (node_set (s := s) HND.out)
    clear q1 q2 q3 q4 q5 q6
    go_wp2_with (refine wpList_load_agg 57 4 _ rfl rfl ⟨w.heap.size, 1, none⟩ rfl (setCells s) (agg_set _) (size_set _) rfl HSET.out ?_)
    refine (wset_any s HT.out HW.out (by have := HM.out; omega)).mono ?_
    rintro e w4 ⟨rfl, hw4, hk4⟩
    have HW4 := Lib.hid hw4
    have HK4 := Lib.hid (HK.out.trans hk4)
    clear hw4 hk4 q0
    go_wp2_with fail
    refine bodyPost_ret (v := .tuple #[]) (results_none Tryd.results44 _ _ _) rfl (post_is HQ ?_)
    exact ⟨rfl, HW4.out, HK4.out⟩
  | seq x y ihx ihy =>
    intro k hs txt w h hm
    have NX := Lib.hid (fun least txt w h hm => node_step hr hn k x hs.seq.1 (ihx k hs.seq.1) least txt w h hm)
    have NY := Lib.hid (fun least txt w h hm => node_step hr hn (k + x.size) y hs.seq.2 (ihy (k + x.size) hs.seq.2) least txt w h hm)
    rw [show rootN k (.seq x y) = ⟨3, ((k + x.size - 1 : Nat) : Int), ((k + x.size + y.size - 1 : Nat) : Int), nilS⟩ from rfl]
    generalize k + x.size - 1 = pa at *
    generalize k + x.size + y.size - 1 = pb at *
    clear ihx ihy hs
    generalize hQ : GotW W0 b A n c w (txt ++ bareW (.seq x y)) = Q
    have HQ := Lib.hid hQ
    clear hQ
    have hbl := h.lt
    have hbel := bl_alloc (Below.refl w.heap.size w) (.cells #[.int .i64 3, dv 0, dv 0, dv 0, dv 0, .int .i64 (pa : Int), .int .i64 (pb : Int)] 59)
    have hnd : (w.alloc (.cells #[.int .i64 3, dv 0, dv 0, dv 0, dv 0, .int .i64 (pa : Int), .int .i64 (pb : Int)] 59)).heap[w.heap.size]? = some (.cells #[.int .i64 3, dv 0, dv 0, dv 0, dv 0, .int .i64 (pa : Int), .int .i64 (pb : Int)] 59 (0, 0)) := heap_alloc_new w _
    have HW := Lib.hid (h.then hbel)
    have HK := Lib.hid (keeps_below (b := b) hbel)
    have HM := Lib.hid hm
    have HND := Lib.hid hnd
    obtain ⟨q0, q1, q2, q3, q4, q5, q6⟩ := node_cells hnd
    clear hbel h hm hnd
    show Calls Tryd.prog 44 #[.pointer (some ⟨b, 0, none⟩), .agg #[.int .i64 3, dv 0, dv 0, dv 0, dv 0, .int .i64 (pa : Int), .int .i64 (pb : Int)]] w Q
    go_enter Tryd.func44, Tryd.ntmps44
    go_wp2_with fail
    refine (NX.out 1 txt _ HW.out (by have := HM.out; rw [bareW] at this; simp at this; omega)).mono ?_
    rintro e w4 ⟨rfl, hw4, hk4⟩
    have HW4 := Lib.hid hw4
    have HK4 := Lib.hid (HK.out.trans hk4)
    have hnd := hk4 _ _ _ _ HND.out rn_u8 (by omega)
    have HND4 := Lib.hid hnd
    clear q0 q1 q2 q3 q4 q5 q6
    obtain ⟨q0, q1, q2, q3, q4, q5, q6⟩ := node_cells hnd
    clear hw4 hk4 hnd HND HW HK
    go_wp2_with fail
    refine (NY.out 2 (txt ++ nodeOf 1 x (bareW x)) _ HW4.out (by have := HM.out; rw [bareW] at this; simp at this ⊢; omega)).mono ?_
    rintro e w6 ⟨rfl, hw6, hk6⟩
    have HW6 := Lib.hid hw6
    have HK6 := Lib.hid (HK4.out.trans hk6)
    clear hw6 hk6 q0 q1 q2 q3 q4 q5 q6
    go_wp2_with fail
    refine bodyPost_ret (v := .tuple #[]) (results_none Tryd.results44 _ _ _) rfl (post_is HQ ?_)
    refine ⟨rfl, ?_, HK6.out⟩
    have := HW6.out
    rw [bareW]
    simpa using this
  | alt x y ihx ihy =>
    intro k hs txt w h hm
    have NX := Lib.hid (fun least txt w h hm => node_step hr hn k x hs.alt.1 (ihx k hs.alt.1) least txt w h hm)
    have NY := Lib.hid (fun least txt w h hm => node_step hr hn (k + x.size) y hs.alt.2 (ihy (k + x.size) hs.alt.2) least txt w h hm)
    rw [show rootN k (.alt x y) = ⟨4, ((k + x.size - 1 : Nat) : Int), ((k + x.size + y.size - 1 : Nat) : Int), nilS⟩ from rfl]
    generalize k + x.size - 1 = pa at *
    generalize k + x.size + y.size - 1 = pb at *
    clear ihx ihy hs
    generalize hQ : GotW W0 b A n c w (txt ++ bareW (.alt x y)) = Q
    have HQ := Lib.hid hQ
    clear hQ
    have hbl := h.lt
    have hbel := bl_alloc (Below.refl w.heap.size w) (.cells #[.int .i64 4, dv 0, dv 0, dv 0, dv 0, .int .i64 (pa : Int), .int .i64 (pb : Int)] 59)
    have hnd : (w.alloc (.cells #[.int .i64 4, dv 0, dv 0, dv 0, dv 0, .int .i64 (pa : Int), .int .i64 (pb : Int)] 59)).heap[w.heap.size]? = some (.cells #[.int .i64 4, dv 0, dv 0, dv 0, dv 0, .int .i64 (pa : Int), .int .i64 (pb : Int)] 59 (0, 0)) := heap_alloc_new w _
    have HW := Lib.hid (h.then hbel)
    have HK := Lib.hid (keeps_below (b := b) hbel)
    have HM := Lib.hid hm
    have HND := Lib.hid hnd
    obtain ⟨q0, q1, q2, q3, q4, q5, q6⟩ := node_cells hnd
    clear hbel h hm hnd
    show Calls Tryd.prog 44 #[.pointer (some ⟨b, 0, none⟩), .agg #[.int .i64 4, dv 0, dv 0, dv 0, dv 0, .int .i64 (pa : Int), .int .i64 (pb : Int)]] w Q
    go_enter Tryd.func44, Tryd.ntmps44
    go_wp2_with fail
    refine (NX.out 0 txt _ HW.out (by have := HM.out; rw [bareW] at this; simp at this; omega)).mono ?_
    rintro e w4 ⟨rfl, hw4, hk4⟩
    have HW4 := Lib.hid hw4
    have HK4 := Lib.hid (HK.out.trans hk4)
    have hnd := hk4 _ _ _ _ HND.out rn_u8 (by omega)
    have HND4 := Lib.hid hnd
    clear q0 q1 q2 q3 q4 q5 q6
    obtain ⟨q0, q1, q2, q3, q4, q5, q6⟩ := node_cells hnd
    clear hw4 hk4 hnd HND HW HK
    go_wp2_with fail
    refine (put_any [124] HW4.out (by have := HM.out; rw [bareW] at this; simp at this ⊢; omega)).mono ?_
    rintro e w5 ⟨rfl, hw5, hk5⟩
    have HW5 := Lib.hid hw5
    have HK5 := Lib.hid (HK4.out.trans hk5)
    have hnd := hk5 _ _ _ _ HND4.out rn_u8 (by omega)
    clear q0 q1 q2 q3 q4 q5 q6
    obtain ⟨q0, q1, q2, q3, q4, q5, q6⟩ := node_cells hnd
    clear hw5 hk5 hnd HND4 HW4 HK4
    go_wp2_with fail
    refine (NY.out 1 (txt ++ nodeOf 0 x (bareW x) ++ [124]) _ HW5.out (by have := HM.out; rw [bareW] at this; simp at this ⊢; omega)).mono ?_
    rintro e w6 ⟨rfl, hw6, hk6⟩
    have HW6 := Lib.hid hw6
    have HK6 := Lib.hid (HK5.out.trans hk6)
    clear hw6 hk6 q0 q1 q2 q3 q4 q5 q6
    go_wp2_with fail
    refine bodyPost_ret (v := .tuple #[]) (results_none Tryd.results44 _ _ _) rfl (post_is HQ ?_)
    refine ⟨rfl, ?_, HK6.out⟩
    have := HW6.out
    rw [bareW]
    simpa using this
  | star x ihx =>
    intro k hs txt w h hm
    have NX := Lib.hid (fun least txt w h hm => node_step hr hn k x hs.star (ihx k hs.star) least txt w h hm)
    rw [show rootN k (.star x) = ⟨5, ((k + x.size - 1 : Nat) : Int), 0, nilS⟩ from rfl]
    generalize k + x.size - 1 = pa at *
    clear ihx hs
    generalize hQ : GotW W0 b A n c w (txt ++ bareW (.star x)) = Q
    have HQ := Lib.hid hQ
    clear hQ
    have hbl := h.lt
    have hbel := bl_alloc (Below.refl w.heap.size w) (.cells #[.int .i64 5, dv 0, dv 0, dv 0, dv 0, .int .i64 (pa : Int), .int .i64 0] 59)
    have hnd : (w.alloc (.cells #[.int .i64 5, dv 0, dv 0, dv 0, dv 0, .int .i64 (pa : Int), .int .i64 0] 59)).heap[w.heap.size]? = some (.cells #[.int .i64 5, dv 0, dv 0, dv 0, dv 0, .int .i64 (pa : Int), .int .i64 0] 59 (0, 0)) := heap_alloc_new w _
    have HW := Lib.hid (h.then hbel)
    have HK := Lib.hid (keeps_below (b := b) hbel)
    have HM := Lib.hid hm
    have HND := Lib.hid hnd
    obtain ⟨q0, q1, q2, q3, q4, q5, q6⟩ := node_cells hnd
    clear hbel h hm hnd
    show Calls Tryd.prog 44 #[.pointer (some ⟨b, 0, none⟩), .agg #[.int .i64 5, dv 0, dv 0, dv 0, dv 0, .int .i64 (pa : Int), .int .i64 0]] w Q
    go_enter Tryd.func44, Tryd.ntmps44
    go_wp2_with fail
    refine (NX.out 2 txt _ HW.out (by have := HM.out; rw [bareW] at this; simp at this; omega)).mono ?_
    rintro e w4 ⟨rfl, hw4, hk4⟩
    have HW4 := Lib.hid hw4
    have HK4 := Lib.hid (HK.out.trans hk4)
    clear q0 q1 q2 q3 q4 q5 q6
    clear hw4 hk4 HND HW HK
    go_wp2_with fail
    refine (put_any [42] HW4.out (by have := HM.out; rw [bareW] at this; simp at this ⊢; omega)).mono ?_
    rintro e w6 ⟨rfl, hw6, hk6⟩
    have HW6 := Lib.hid hw6
    have HK6 := Lib.hid (HK4.out.trans hk6)
    clear hw6 hk6
    go_wp2_with fail
    refine bodyPost_ret (v := .tuple #[]) (results_none Tryd.results44 _ _ _) rfl (post_is HQ ?_)
    refine ⟨rfl, ?_, HK6.out⟩
    have := HW6.out
    rw [bareW]
    simpa using this
  | plus x ihx =>
    intro k hs txt w h hm
    have NX := Lib.hid (fun least txt w h hm => node_step hr hn k x hs.plus (ihx k hs.plus) least txt w h hm)
    rw [show rootN k (.plus x) = ⟨6, ((k + x.size - 1 : Nat) : Int), 0, nilS⟩ from rfl]
    generalize k + x.size - 1 = pa at *
    clear ihx hs
    generalize hQ : GotW W0 b A n c w (txt ++ bareW (.plus x)) = Q
    have HQ := Lib.hid hQ
    clear hQ
    have hbl := h.lt
    have hbel := bl_alloc (Below.refl w.heap.size w) (.cells #[.int .i64 6, dv 0, dv 0, dv 0, dv 0, .int .i64 (pa : Int), .int .i64 0] 59)
    have hnd : (w.alloc (.cells #[.int .i64 6, dv 0, dv 0, dv 0, dv 0, .int .i64 (pa : Int), .int .i64 0] 59)).heap[w.heap.size]? = some (.cells #[.int .i64 6, dv 0, dv 0, dv 0, dv 0, .int .i64 (pa : Int), .int .i64 0] 59 (0, 0)) := heap_alloc_new w _
    have HW := Lib.hid (h.then hbel)
    have HK := Lib.hid (keeps_below (b := b) hbel)
    have HM := Lib.hid hm
    have HND := Lib.hid hnd
    obtain ⟨q0, q1, q2, q3, q4, q5, q6⟩ := node_cells hnd
    clear hbel h hm hnd
    show Calls Tryd.prog 44 #[.pointer (some ⟨b, 0, none⟩), .agg #[.int .i64 6, dv 0, dv 0, dv 0, dv 0, .int .i64 (pa : Int), .int .i64 0]] w Q
    go_enter Tryd.func44, Tryd.ntmps44
    go_wp2_with fail
    refine (NX.out 2 txt _ HW.out (by have := HM.out; rw [bareW] at this; simp at this; omega)).mono ?_
    rintro e w4 ⟨rfl, hw4, hk4⟩
    have HW4 := Lib.hid hw4
    have HK4 := Lib.hid (HK.out.trans hk4)
    clear q0 q1 q2 q3 q4 q5 q6
    clear hw4 hk4 HND HW HK
    go_wp2_with fail
    refine (put_any [43] HW4.out (by have := HM.out; rw [bareW] at this; simp at this ⊢; omega)).mono ?_
    rintro e w6 ⟨rfl, hw6, hk6⟩
    have HW6 := Lib.hid hw6
    have HK6 := Lib.hid (HK4.out.trans hk6)
    clear hw6 hk6
    go_wp2_with fail
    refine bodyPost_ret (v := .tuple #[]) (results_none Tryd.results44 _ _ _) rfl (post_is HQ ?_)
    refine ⟨rfl, ?_, HK6.out⟩
    have := HW6.out
    rw [bareW]
    simpa using this

end Go.Proofs.YteedmkokbapkgaaDoor
