/- The machine of a net: Of, for any net. -/
import Derived.Test.YtcgfogdfcdndgaaGreatDoorDgOQ
import Derived.Test.YtcgfogdfcdndgaaGreatDoorDfMQ
import Derived.Deep.QuietTactic
import Derived.BigQuiet
set_option linter.unusedVariables false
set_option linter.unusedSimpArgs false
namespace Go.Proofs.YtcgfogdfcdndgaaGreatDoor
open Go.RowKit Go.Shelf
attribute [local go_sem] Oper.semAt_some

set_option maxRecDepth 100000 in
set_option maxHeartbeats 8000000 in
theorem of_bad (S : Int) (E : List Ed) (X : List Int) (Ae Ax : Option Addr) (ne ce nx cx : Nat) (hne : E.length = ne) (hnx : X.length = nx) (hce : ne ≤ ce) (hcx : nx ≤ cx) (hm1 : ne ≤ 140737488355328) (hm2 : nx ≤ 140737488355328) (k : Nat) (hchk : checkN S E X = k) (hk : k ≠ 0) (W : World) (hr : RdE W Ae E) (hx : RdW W Ax X) :
    Calls Tryz.prog 13 #[.agg #[.int .i64 S, .slice Ae ne ce, .slice Ax nx cx]] W (fun e W' => e = .returned (.tuple #[.agg dz, .int .i64 (k : Int)]) ∧ Below W.heap.size W W') := by
  generalize hQ : (fun (e : Ending) (W' : World) => e = .returned (.tuple #[.agg dz, .int .i64 (k : Int)]) ∧ Below W.heap.size W W') = R
  have HQ := Lib.hid hQ
  have hz := zeroD
  have HR := Lib.hid hr
  have HX := Lib.hid hx
  have HCHK := Lib.hid hchk
  clear hr hx hchk hQ
  go_enter Tryz.func13, Tryz.ntmps13
  go_wp2_with fail
  have b1 := bl_alloc (bl_alloc (Below.refl W.heap.size W) (.cells #[.int .i64 S, .slice Ae ne ce, .slice Ax nx cx] 25)) (.cells dz 33)
  have k1 : ((W.alloc (.cells #[.int .i64 S, .slice Ae ne ce, .slice Ax nx cx] 25)).alloc (.cells dz 33)).heap[W.heap.size + 1]? = some (.cells dz 33 (0, 0)) := by
    have h := heap_alloc_new (W.alloc (.cells #[.int .i64 S, .slice Ae ne ce, .slice Ax nx cx] 25)) (.cells dz 33)
    rwa [World.size_alloc] at h
  generalize (W.alloc (.cells #[.int .i64 S, .slice Ae ne ce, .slice Ax nx cx] 25)).alloc (.cells dz 33) = wA at *
  refine (ncheck_any S E X Ae Ax ne ce nx cx hne hnx hce hcx hm1 hm2 wA (HR.out.below b1) (HX.out.below b1)).mono ?_
  rw [HCHK.out]
  rintro e w2 ⟨rfl, hb2⟩
  have B2 := Lib.hid (bl_trans b1 hb2)
  have K1 := Lib.hid ((hb2.block (W.heap.size + 1) (Array.getElem?_eq_some_iff.1 k1).1).trans k1)
  clear b1 hb2 k1
  have hk0 : ((k : Int) = 0) = False := by simp; omega
  have hbz := build_dz
  go_wp2_with (refine wpList_store_row rfl 33 _ _ rfl (W.heap.size + 1) dz rfl rfl _ _ K1.out (by rw [sizeD, dz_size]) rfl dz_one ?_)
  refine ⟨rfl, .tuple #[.agg dz, .int .i64 (k : Int)], res_dfa rfl _ _ (W.heap.size + 1) dz _ rfl rfl (setRow_heap _ _ _ dz _ _ K1.out) dz_size, ?_⟩
  rw [← HQ.out]
  exact ⟨rfl, bl_setRow B2.out (by omega) _⟩
/-- What Of answers, for any net. -/
theorem of_net (S : Int) (E : List Ed) (X : List Int) (Ae Ax : Option Addr) (ne ce nx cx : Nat) (hne : E.length = ne) (hnx : X.length = nx) (hce : ne ≤ ce) (hcx : nx ≤ cx) (hm1 : ne ≤ 140737488355328) (hm2 : nx ≤ 140737488355328) (W : World) (hr : RdE W Ae E) (hx : RdW W Ax X) (hT : Tab W) :
    Calls Tryz.prog 13 #[.agg #[.int .i64 S, .slice Ae ne ce, .slice Ax nx cx]] W (fun e W' => Below W.heap.size W W' ∧ ((checkN S E X ≠ 0 ∧ e = .returned (.tuple #[.agg dz, .int .i64 (checkN S E X : Int)])) ∨ (checkN S E X = 0 ∧ ∃ n : Nat, S = (n : Int) ∧ GotDm W n E X e W'))) := by
  by_cases h : checkN S E X = 0
  · obtain ⟨n, rfl, h1, h2, h3, h4, h5, h6⟩ := check_ok h
    exact (of_good n E X Ae Ax ne ce nx cx hne hnx hce hcx h h1 h2 h4 (by omega) (by omega) W hr hx hT (fun W' hb => maker_any n E X Ae Ax ne ce nx cx hne hce h1 h2 h4 (by omega) W' (hr.below hb) (hT.below hb))).mono (fun e W' hg => ⟨hg.1, Or.inr ⟨h, n, rfl, hg⟩⟩)
  · exact (of_bad S E X Ae Ax ne ce nx cx hne hnx hce hcx hm1 hm2 _ rfl h W hr hx).mono (fun e W' hg => ⟨hg.2, Or.inl ⟨h, hg.1⟩⟩)

end Go.Proofs.YtcgfogdfcdndgaaGreatDoor

/- Machines: areWithin: whether all numbers are from one on, and below another one. -/
set_option linter.unusedVariables false
set_option linter.unusedSimpArgs false
namespace Go.Proofs.YtcgfogdfcdndgaaGreatDoor
open Go.RowKit
attribute [local go_sem] Oper.semAt_some

set_option maxRecDepth 20000 in
theorem wst1_any (lo hi x : Int) (b d : Nat) (W : World) (hb : W.heap[b]? = some (.cells #[.int .i64 lo] 3 (0, 0))) (hd : W.heap[d]? = some (.cells #[.int .i64 hi] 3 (0, 0))) :
    Calls Tryz.prog 92 #[.int .i64 x, .pointer (some ⟨b, 0, none⟩), .pointer (some ⟨d, 0, none⟩)] W (GotBl W (!inD lo hi x)) := by
  generalize hQ : GotBl W (!inD lo hi x) = Q
  have HQ := Lib.hid hQ
  have c0 : W.cell? ⟨b, 0, none⟩ = some (.int .i64 lo) := cell_of_row W b 0 _ _ _ hb
  have c1 : W.cell? ⟨d, 0, none⟩ = some (.int .i64 hi) := cell_of_row W d 0 _ _ _ hd
  clear hQ hb hd
  by_cases hx : x < lo
  · have d0 : decide (x < lo) = true := by simpa using hx
    go_enter Tryz.func92, Tryz.ntmps92
    go_wp2_with fail
    refine post_is HQ ⟨?_, Below.refl _ _⟩
    rw [inD, decide_eq_false (show ¬ lo ≤ x by omega)]
    rfl
  · have d0 : decide (x < lo) = false := by simpa using hx
    obtain ⟨q, hq⟩ : ∃ q, decide (hi ≤ x) = q := ⟨_, rfl⟩
    have HO := Lib.hid (show (!inD lo hi x) = q by rw [inD, decide_eq_true (show lo ≤ x by omega), ← hq]; by_cases h : hi ≤ x <;> simp [h] <;> omega)
    go_enter Tryz.func92, Tryz.ntmps92
    go_wp2_with fail
    refine post_is HQ ⟨?_, Below.refl _ _⟩
    rw [HO.out]

set_option maxRecDepth 100000 in
set_option maxHeartbeats 2000000 in
theorem wixst_any (lo hi : Int) (l : List Int) (A : Option Addr) (n c : Nat) (hn : l.length = n) (hn2 : n ≤ 140737488355328) (b d : Nat) (W : World) (hb : W.heap[b]? = some (.cells #[.int .i64 lo] 3 (0, 0))) (hd : W.heap[d]? = some (.cells #[.int .i64 hi] 3 (0, 0))) (hr : RdW W A l) :
    Calls Tryz.prog 47 #[.slice A n c, .func (.func 92) #[] #[.pointer (some ⟨b, 0, none⟩), .pointer (some ⟨d, 0, none⟩)]] W (GotIx W n (!l.all (inD lo hi))) := by
  generalize hQ : GotIx W n (!l.all (inD lo hi)) = Q
  have HQ := Lib.hid hQ
  have HB := Lib.hid hb
  have HD := Lib.hid hd
  have HR := Lib.hid hr
  have HN := Lib.hid hn
  clear hQ hb hd hr hn
  go_enter Tryz.func47, Tryz.ntmps47
  go_wp2_with fail
  go_loopw [8] (fun vi wr => ∃ k : Nat, k ≤ n ∧ vi = .int .i64 (k : Int) ∧ Hid ((l.take k).all (inD lo hi) = true) ∧ Hid (Below W.heap.size W wr)) (fun vi _ => n - (intOf vi).toNat)
  case atStart => exact ⟨0, Nat.zero_le _, rfl, rfl, Below.refl _ _⟩
  case round =>
    obtain ⟨k, hk, rfl, HA, HBW⟩ := hrel
    by_cases hlt : k < n
    · have hkl : k < l.length := by rw [HN.out]; exact hlt
      obtain ⟨ad, hA, hc1⟩ := (HR.out.below HBW.out) k hkl
      subst hA
      have TK := Lib.hid (show (l.take (k + 1)).all (inD lo hi) = ((l.take k).all (inD lo hi) && inD lo hi l[k]) by rw [List.take_succ_eq_append_getElem hkl, List.all_append]; simp)
      have hmem := List.getElem_mem hkl
      have hbd : inD lo hi l[k] = false → l.all (inD lo hi) = false := fun h => by
        rw [Bool.eq_false_iff]
        intro ha
        rw [List.all_eq_true.1 ha _ hmem] at h
        cases h
      generalize l[k] = x at *
      have HBD := Lib.hid hbd
      have hcon := wst1_any lo hi x b d wr ((HBW.out.block b (Array.getElem?_eq_some_iff.1 HB.out).1).trans HB.out) ((HBW.out.block d (Array.getElem?_eq_some_iff.1 HD.out).1).trans HD.out)
      have HCON := Lib.hid hcon
      clear hkl hmem hbd hcon
      go_wp2_with fail
      refine HCON.out.mono ?_
      rintro e w2 ⟨rfl, hb2⟩
      have HB2 := Lib.hid (bl_trans HBW.out hb2)
      clear hb2 HCON HBW hc1
      obtain ⟨q, hq⟩ : ∃ q, inD lo hi x = q := ⟨_, rfl⟩
      rw [hq] at TK HBD ⊢
      clear hq
      cases q with
      | true =>
        go_wp2_with fail
        refine ⟨⟨k + 1, by omega, by go_num, ?_, HB2.out⟩, by simp [intOf]; omega⟩
        unfold Hid
        rw [TK.out, HA.out]
        rfl
      | false =>
        go_wp2_with fail
        refine post_is HQ (Or.inl ⟨k, hlt, rfl, ?_, HB2.out⟩)
        rw [HBD.out trivial]
        rfl
    · obtain rfl : k = n := by omega
      have hall : l.all (inD lo hi) = true := by have := HA.out; rwa [List.take_of_length_le (by rw [HN.out]; omega)] at this
      have HAL := Lib.hid hall
      clear hall
      go_wp2_with fail
      refine post_is HQ (Or.inr ⟨rfl, ?_, HBW.out⟩)
      rw [HAL.out]
      rfl
set_option maxRecDepth 20000 in
theorem wcnst_any (lo hi : Int) (l : List Int) (A : Option Addr) (n c : Nat) (hn : l.length = n) (hn2 : n ≤ 140737488355328) (b d : Nat) (W : World) (hb : W.heap[b]? = some (.cells #[.int .i64 lo] 3 (0, 0))) (hd : W.heap[d]? = some (.cells #[.int .i64 hi] 3 (0, 0))) (hr : RdW W A l) :
    Calls Tryz.prog 67 #[.slice A n c, .func (.func 92) #[] #[.pointer (some ⟨b, 0, none⟩), .pointer (some ⟨d, 0, none⟩)]] W (GotBl W (!l.all (inD lo hi))) := by
  have HC := Lib.hid (wixst_any lo hi l A n c hn hn2 b d W hb hd hr)
  generalize hQ : GotBl W (!l.all (inD lo hi)) = Q
  have HQ := Lib.hid hQ
  clear hQ hb hd hr hn
  go_enter Tryz.func67, Tryz.ntmps67
  go_wp2_with fail
  refine HC.out.mono ?_
  rintro e w2 (⟨k, hk, rfl, h2, hb2⟩ | ⟨rfl, h2, hb2⟩)
  · have HB2 := Lib.hid hb2
    have H2 := Lib.hid h2
    have d0 : decide ((0 : Int) ≤ (k : Int)) = true := by simp
    clear hb2 h2 HC
    go_wp2_with fail
    refine post_is HQ ⟨?_, HB2.out⟩
    rw [H2.out]
    rfl
  · have HB2 := Lib.hid hb2
    have H2 := Lib.hid h2
    clear hb2 h2 HC
    go_wp2_with fail
    refine post_is HQ ⟨?_, HB2.out⟩
    rw [H2.out]
    rfl
set_option maxRecDepth 20000 in
theorem within_any (lo hi : Int) (l : List Int) (A : Option Addr) (n c : Nat) (hn : l.length = n) (hn2 : n ≤ 140737488355328) (W : World) (hr : RdW W A l) :
    Calls Tryz.prog 66 #[.slice A n c, .int .i64 lo, .int .i64 hi] W (GotBl W (l.all (inD lo hi))) := by
  have hb0 := bl_alloc (bl_alloc (Below.refl W.heap.size W) (.cells #[.int .i64 lo] 3)) (.cells #[.int .i64 hi] 3)
  have k0 : ((W.alloc (.cells #[.int .i64 lo] 3)).alloc (.cells #[.int .i64 hi] 3)).heap[W.heap.size]? = some (.cells #[.int .i64 lo] 3 (0, 0)) := by
    rw [Below.heap_alloc _ _ _ (by simp)]
    exact heap_alloc_new W _
  have k1 : ((W.alloc (.cells #[.int .i64 lo] 3)).alloc (.cells #[.int .i64 hi] 3)).heap[W.heap.size + 1]? = some (.cells #[.int .i64 hi] 3 (0, 0)) := by
    have h := heap_alloc_new (W.alloc (.cells #[.int .i64 lo] 3)) (.cells #[.int .i64 hi] 3)
    rwa [World.size_alloc] at h
  have HC := Lib.hid (wcnst_any lo hi l A n c hn hn2 W.heap.size (W.heap.size + 1) _ k0 k1 (hr.below hb0))
  have HB0 := Lib.hid hb0
  have hmf : ∀ (fn : Fn) (first cap : Array Value) (w : World), (Instr.makeFunc fn first cap).run Tryz.prog w = .ok (.func fn first cap) w := fun _ _ _ _ => rfl
  generalize hQ : GotBl W (l.all (inD lo hi)) = Q
  have HQ := Lib.hid hQ
  clear hQ hr hn hb0 k0 k1
  go_enter Tryz.func66, Tryz.ntmps66
  go_wp2_with fail
  refine HC.out.mono ?_
  rintro e w2 ⟨rfl, hb2⟩
  have HB2 := Lib.hid (bl_trans HB0.out hb2)
  clear hb2 HC
  go_wp2_with fail
  refine post_is HQ ⟨?_, HB2.out⟩
  simp

end Go.Proofs.YtcgfogdfcdndgaaGreatDoor

/- Machines: whether a state has too many classes. -/
set_option linter.unusedVariables false
set_option linter.unusedSimpArgs false
namespace Go.Proofs.YtcgfogdfcdndgaaGreatDoor
open Go.RowKit
attribute [local go_sem] Oper.semAt_some

/-- A slice reads as rows of numbers. -/
def RdTb (W : World) (A : Option Addr) (T : List (List Int)) : Prop := ∀ i (h : i < T.length), ∃ ad, A = some ad ∧ ∃ B m d, W.cell? (ad.add i) = some (.slice B m d) ∧ T[i].length = m ∧ m ≤ d ∧ RdW W B T[i]
theorem RdTb.below {w w' : World} {A : Option Addr} {T : List (List Int)} (h : RdTb w A T) (hb : Below w.heap.size w w') : RdTb w' A T := fun i hi => by
  obtain ⟨ad, e, B, m, d, hc, h1, h2, h3⟩ := h i hi
  exact ⟨ad, e, B, m, d, (hb.cell (World.block_lt_of_cell? w _ hc)).trans hc, h1, h2, h3.below hb⟩
def fewC (r : List Int) : Bool := !decide (256 < r.length)
set_option maxRecDepth 20000 in
theorem many_any (B : Option Addr) (m d : Nat) (W : World) : Calls Tryz.prog 38 #[.slice B m d] W (GotBl W (decide (256 < m))) := by
  generalize hQ : GotBl W (decide (256 < m)) = Q
  have HQ := Lib.hid hQ
  clear hQ
  obtain ⟨q, hq⟩ : ∃ q, decide (256 < m) = q := ⟨_, rfl⟩
  have h2 : decide ((256 : Int) < (m : Int)) = q := by rw [← hq]; simp only [decide_eq_decide]; omega
  have HO := Lib.hid hq
  clear hq
  go_enter Tryz.func38, Tryz.ntmps38
  go_wp2_with fail
  refine post_is HQ ⟨?_, Below.refl _ _⟩
  rw [HO.out]
  rfl
set_option maxRecDepth 100000 in
set_option maxHeartbeats 2000000 in
theorem rixst_any (l : List (List Int)) (A : Option Addr) (n c : Nat) (hn : l.length = n) (hn2 : n ≤ 140737488355328) (W : World) (hr : RdTb W A l) :
    Calls Tryz.prog 65 #[.slice A n c, .func (.func 38) #[] #[]] W (GotIx W n (!l.all fewC)) := by
  generalize hQ : GotIx W n (!l.all fewC) = Q
  have HQ := Lib.hid hQ
  have HR := Lib.hid hr
  have HN := Lib.hid hn
  clear hQ hr hn
  go_enter Tryz.func65, Tryz.ntmps65
  go_wp2_with fail
  go_loopw [8] (fun vi wr => ∃ k : Nat, k ≤ n ∧ vi = .int .i64 (k : Int) ∧ Hid ((l.take k).all fewC = true) ∧ Hid (Below W.heap.size W wr)) (fun vi _ => n - (intOf vi).toNat)
  case atStart => exact ⟨0, Nat.zero_le _, rfl, rfl, Below.refl _ _⟩
  case round =>
    obtain ⟨k, hk, rfl, HA, HBW⟩ := hrel
    by_cases hlt : k < n
    · have hkl : k < l.length := by rw [HN.out]; exact hlt
      obtain ⟨ad, hA, Bx, mx, dx, hc1, hmx, _, _⟩ := (HR.out.below HBW.out) k hkl
      subst hA
      have TK := Lib.hid (show (l.take (k + 1)).all fewC = ((l.take k).all fewC && fewC l[k]) by rw [List.take_succ_eq_append_getElem hkl, List.all_append]; simp)
      have hmem := List.getElem_mem hkl
      have hbd : fewC l[k] = false → l.all fewC = false := fun h => by
        rw [Bool.eq_false_iff]
        intro ha
        rw [List.all_eq_true.1 ha _ hmem] at h
        cases h
      generalize l[k] = x at *
      have HBD := Lib.hid hbd
      have hcon := many_any Bx mx dx wr
      rw [show (decide (256 < mx)) = !fewC x from by unfold fewC; rw [hmx]; simp] at hcon
      have HCON := Lib.hid hcon
      clear hkl hmem hbd hcon hmx
      go_wp2_with fail
      refine HCON.out.mono ?_
      rintro e w2 ⟨rfl, hb2⟩
      have HB2 := Lib.hid (bl_trans HBW.out hb2)
      clear hb2 HCON HBW hc1
      obtain ⟨q, hq⟩ : ∃ q, fewC x = q := ⟨_, rfl⟩
      rw [hq] at TK HBD ⊢
      clear hq
      cases q with
      | true =>
        go_wp2_with fail
        refine ⟨⟨k + 1, by omega, by go_num, ?_, HB2.out⟩, by simp [intOf]; omega⟩
        unfold Hid
        rw [TK.out, HA.out]
        rfl
      | false =>
        go_wp2_with fail
        refine post_is HQ (Or.inl ⟨k, hlt, rfl, ?_, HB2.out⟩)
        rw [HBD.out trivial]
        rfl
    · obtain rfl : k = n := by omega
      have hall : l.all fewC = true := by have := HA.out; rwa [List.take_of_length_le (by rw [HN.out]; omega)] at this
      have HAL := Lib.hid hall
      clear hall
      go_wp2_with fail
      refine post_is HQ (Or.inr ⟨rfl, ?_, HBW.out⟩)
      rw [HAL.out]
      rfl
set_option maxRecDepth 20000 in
theorem rcnst_any (l : List (List Int)) (A : Option Addr) (n c : Nat) (hn : l.length = n) (hn2 : n ≤ 140737488355328) (W : World) (hr : RdTb W A l) :
    Calls Tryz.prog 37 #[.slice A n c, .func (.func 38) #[] #[]] W (GotBl W (!l.all fewC)) := by
  have HC := Lib.hid (rixst_any l A n c hn hn2 W hr)
  generalize hQ : GotBl W (!l.all fewC) = Q
  have HQ := Lib.hid hQ
  clear hQ hr hn
  go_enter Tryz.func37, Tryz.ntmps37
  go_wp2_with fail
  refine HC.out.mono ?_
  rintro e w2 (⟨k, hk, rfl, h2, hb2⟩ | ⟨rfl, h2, hb2⟩)
  · have HB2 := Lib.hid hb2
    have H2 := Lib.hid h2
    have d0 : decide ((0 : Int) ≤ (k : Int)) = true := by simp
    clear hb2 h2 HC
    go_wp2_with fail
    refine post_is HQ ⟨?_, HB2.out⟩
    rw [H2.out]
    rfl
  · have HB2 := Lib.hid hb2
    have H2 := Lib.hid h2
    clear hb2 h2 HC
    go_wp2_with fail
    refine post_is HQ ⟨?_, HB2.out⟩
    rw [H2.out]
    rfl

end Go.Proofs.YtcgfogdfcdndgaaGreatDoor

/- Machines: mayBe, Check. -/
set_option linter.unusedVariables false
set_option linter.unusedSimpArgs false
namespace Go.Proofs.YtcgfogdfcdndgaaGreatDoor
open Go.RowKit
attribute [local go_sem] Oper.semAt_some

/-- The classes of bytes, as a list. -/
def clL (cl : Nat → Int) : List Int := (List.range 256).map cl
theorem clL_len (cl : Nat → Int) : (clL cl).length = 256 := by simp [clL]
theorem rd_cls {w : World} {b : Nat} {cl : Nat → Int} {t : List Value} {ty : TypeId} {z : Nat × Nat} (h : w.heap[b]? = some (.cells (mkT cl t) ty z)) : RdW w (some ⟨b, 0, none⟩) (clL cl) := fun k hk => by
  have hk2 : k < 256 := by rwa [clL_len] at hk
  refine ⟨_, rfl, ?_⟩
  rw [addr_mk, Nat.zero_add, cell_of_row w b k _ _ _ h, mkT_cl _ _ hk2]
  simp [clL]
theorem add_zero_a (a : Addr) : a.add 0 = a := by
  unfold Addr.add
  obtain ⟨b, o, f⟩ := a
  cases f <;> rfl
def okRw (c n : Nat) (r : List Int) : Bool := r.length == c && r.all (inD (-1) (n : Int))
set_option maxRecDepth 100000 in
set_option maxHeartbeats 4000000 in
theorem mayd_any (cl : Nat → Int) (T : List (List Int)) (X : List Int) (An Ax : Option Addr) (nn cn nx cx : Nat) (hnn : T.length = nn) (hnx : X.length = nx) (hn2 : nn ≤ 512) (hx2 : nx ≤ 512) (hfew : T.all fewC = true) (W : World) (hr : RdTb W An T) (hx : RdW W Ax X) :
    Calls Tryz.prog 39 #[.agg (mkT cl [.slice An nn cn, .slice Ax nx cx])] W (GotBl W (mayD (clL cl) T X)) := by
  generalize hQ : GotBl W (mayD (clL cl) T X) = Q
  have HQ := Lib.hid hQ
  have b0 := bl_alloc (Below.refl W.heap.size W) (.cells (mkT cl [.slice An nn cn, .slice Ax nx cx]) 33)
  have k0 := heap_alloc_new W (.cells (mkT cl [.slice An nn cn, .slice Ax nx cx]) 33)
  have HR := Lib.hid hr
  have HX := Lib.hid hx
  have HN := Lib.hid hnn
  have HNX := Lib.hid hnx
  have HF := Lib.hid hfew
  clear hQ hr hx hnn hnx hfew
  have K0 := Lib.hid k0
  have B0 := Lib.hid b0
  clear k0 b0
  generalize hD : mkT cl [.slice An nn cn, .slice Ax nx cx] = dv at *
  have HDV := Lib.hid hD
  clear hD
  go_enter Tryz.func39, Tryz.ntmps39
  go_upto_region 1 with fail
  generalize W.alloc (.cells dv 33) = wA at *
  have c1 : wA.cell? ⟨W.heap.size, 256, none⟩ = some (.slice An nn cn) := (cell_of_row wA W.heap.size 256 _ _ _ K0.out).trans (by rw [← HDV.out]; exact mkT_at _ _ 0)
  have c2 : wA.cell? ⟨W.heap.size, 257, none⟩ = some (.slice Ax nx cx) := (cell_of_row wA W.heap.size 257 _ _ _ K0.out).trans (by rw [← HDV.out]; exact mkT_at _ _ 1)
  by_cases hz : nn = 0
  · subst hz
    go_wp2_with fail
    refine post_is HQ ⟨?_, B0.out⟩
    have hT0 : T = [] := List.length_eq_zero_iff.1 HN.out
    subst hT0
    rfl
  · by_cases hxn : nx = nn
    · subst hxn
      have h0 : 0 < T.length := by rw [HN.out]; omega
      obtain ⟨ad, hA, B00, m00, d00, hc0, hm0, hmd0, hr00⟩ := (HR.out.below B0.out) 0 h0
      subst hA
      have HHD := Lib.hid (show (T.headD []).length = m00 from by rw [← hm0]; cases T with | nil => simp at h0 | cons x l => rfl)
      have hms0 : m00 ≤ 256 := by
        have h := List.all_eq_true.1 HF.out _ (List.getElem_mem h0)
        unfold fewC at h
        rw [hm0] at h
        simp at h
        omega
      have hc00 : wA.cell? ad = some (.slice B00 m00 d00) := by rwa [add_zero_a] at hc0
      clear hr00 hm0 h0 hc0
      have hidx : (0 : Int) < (nx : Int) := by omega
      have hb1 : ((nx : Int) == 0) = false := by simp; omega
      go_wp2_with fail
      go_loopw [27] (fun vi wr => ∃ k : Nat, k ≤ nx ∧ vi = .int .i64 (k : Int) ∧ Hid ((T.take k).all (okRw m00 nx) = true) ∧ Hid (Below wA.heap.size wA wr)) (fun vi _ => nx - (intOf vi).toNat)
      case atStart => exact ⟨0, Nat.zero_le _, rfl, rfl, Below.refl _ _⟩
      case round =>
        obtain ⟨k, hk, rfl, HA, HBW⟩ := hrel
        by_cases hlt : k < nx
        · have hkl : k < T.length := by rw [HN.out]; exact hlt
          obtain ⟨ad2, hA2, B9, m9, d9, hc9, hm9, hmd9, hr9⟩ := (HR.out.below (bl_trans B0.out HBW.out)) k hkl
          obtain rfl := Option.some.inj hA2
          have TK := Lib.hid (show (T.take (k + 1)).all (okRw m00 nx) = ((T.take k).all (okRw m00 nx) && (m9 == m00 && T[k].all (inD (-1) (nx : Int)))) by
            rw [List.take_succ_eq_append_getElem hkl, List.all_append]
            simp [okRw, hm9])
          have HBD := Lib.hid (show (m9 == m00 && T[k].all (inD (-1) (nx : Int))) = false → T.all (okRw m00 nx) = false from fun h => by
            rw [Bool.eq_false_iff]
            intro ha
            have h2 := List.all_eq_true.1 ha _ (List.getElem_mem hkl)
            unfold okRw at h2
            rw [hm9, h] at h2
            cases h2)
          have hm9b : m9 ≤ 256 := by
            have h := List.all_eq_true.1 HF.out _ (List.getElem_mem hkl)
            unfold fewC at h
            rw [hm9] at h
            simp at h
            omega
          have HW := Lib.hid (within_any (-1) (nx : Int) T[k] B9 m9 d9 hm9 (by omega) wr hr9)
          generalize T[k].all (inD (-1) (nx : Int)) = qr at *
          clear hkl hm9 hr9 hA2
          by_cases hmm : m9 = m00
          · subst hmm
            have hmb : ((m9 : Int) != (m9 : Int)) = false := by simp
            rw [beq_self_eq_true, Bool.true_and] at TK HBD
            go_wp2_with fail
            refine HW.out.mono ?_
            rintro e w2 ⟨rfl, hb2⟩
            have HB2 := Lib.hid (bl_trans HBW.out hb2)
            clear hb2 HW HBW hc9
            cases qr with
            | true =>
              go_wp2_with fail
              refine ⟨⟨k + 1, by omega, by go_num, ?_, HB2.out⟩, by simp [intOf]; omega⟩
              unfold Hid
              rw [TK.out, HA.out]
              rfl
            | false =>
              go_wp2_with fail
              refine post_is HQ ⟨?_, bl_trans B0.out HB2.out⟩
              unfold mayD
              rw [HHD.out, HN.out, show (T.all fun r => r.length == m9 && r.all (inD (-1) (nx : Int))) = false from HBD.out trivial]
              simp
          · have hmb : ((m9 : Int) != (m00 : Int)) = true := by simp; omega
            rw [show (m9 == m00) = false from by simp [hmm], Bool.false_and] at TK HBD
            go_wp2_with fail
            refine post_is HQ ⟨?_, bl_trans B0.out HBW.out⟩
            unfold mayD
            rw [HHD.out, HN.out, show (T.all fun r => r.length == m00 && r.all (inD (-1) (nx : Int))) = false from HBD.out trivial]
            simp
        · obtain rfl : k = nx := by omega
          have hall : T.all (okRw m00 k) = true := by have := HA.out; rwa [List.take_of_length_le (by rw [HN.out]; exact Nat.le_refl _)] at this
          have HAL := Lib.hid hall
          clear hall
          have hblk : wr.heap[W.heap.size]? = some (.cells dv 33 (0, 0)) := (HBW.out.block W.heap.size (Array.getElem?_eq_some_iff.1 K0.out).1).trans K0.out
          have HC1 := Lib.hid (within_any 0 (m00 : Int) (clL cl) (some ⟨W.heap.size, 0, none⟩) 256 256 (clL_len cl) (by omega) wr (rd_cls (t := [.slice (some ad) k cn, .slice Ax k cx]) (by rw [HDV.out]; exact hblk)))
          have c2r : wr.cell? ⟨W.heap.size, 257, none⟩ = some (.slice Ax k cx) := (HBW.out.cell (World.block_lt_of_cell? wA _ c2)).trans c2
          have HMY := Lib.hid (show mayD (clL cl) T X = ((clL cl).all (inD 0 (m00 : Int)) && X.all (inD (-1) 64)) from by
            unfold mayD
            rw [HHD.out, HN.out, HNX.out, show (T.all fun r => r.length == m00 && r.all (inD (-1) (k : Int))) = true from HAL.out]
            simp [hz])
          clear hblk
          generalize (clL cl).all (inD 0 (m00 : Int)) = q1 at *
          go_wp2_with fail
          refine HC1.out.mono ?_
          rintro e w2 ⟨rfl, hb2⟩
          have HB2 := Lib.hid (bl_trans (bl_trans B0.out HBW.out) hb2)
          have c2s : w2.cell? ⟨W.heap.size, 257, none⟩ = some (.slice Ax k cx) := (hb2.cell (World.block_lt_of_cell? wr _ c2r)).trans c2r
          clear hb2 HC1
          cases q1 with
          | false =>
            go_wp2_with fail
            refine post_is HQ ⟨?_, HB2.out⟩
            rw [HMY.out]
            rfl
          | true =>
            have HC2 := Lib.hid (within_any (-1) 64 X Ax k cx HNX.out (by omega) w2 (HX.out.below HB2.out))
            generalize X.all (inD (-1) 64) = q2 at *
            go_wp2_with fail
            refine HC2.out.mono ?_
            rintro e w3 ⟨rfl, hb3⟩
            have HB3 := Lib.hid (bl_trans HB2.out hb3)
            clear hb3 HC2
            go_wp2_with fail
            refine post_is HQ ⟨?_, HB3.out⟩
            rw [HMY.out]
            rfl
    · have hb1 : ((nn : Int) == 0) = false := by simp; omega
      have hb2 : ((nx : Int) != (nn : Int)) = true := by simp; omega
      go_wp2_with fail
      refine post_is HQ ⟨?_, B0.out⟩
      unfold mayD
      rw [show (X.length != T.length) = true from by rw [HN.out, HNX.out]; simp; omega]
      simp

end Go.Proofs.YtcgfogdfcdndgaaGreatDoor

/- Machines: Check. -/
set_option linter.unusedVariables false
set_option linter.unusedSimpArgs false
namespace Go.Proofs.YtcgfogdfcdndgaaGreatDoor
open Go.RowKit
attribute [local go_sem] Oper.semAt_some

theorem any_few (T : List (List Int)) : T.any (fun r => decide (256 < r.length)) = !T.all fewC := by
  induction T with
  | nil => rfl
  | cons x l ih => rw [List.any_cons, List.all_cons, ih]; unfold fewC; cases decide (256 < x.length) <;> simp
set_option maxRecDepth 100000 in
set_option maxHeartbeats 4000000 in
theorem dcheck_any (cl : Nat → Int) (T : List (List Int)) (X : List Int) (An Ax : Option Addr) (nn cn nx cx : Nat) (hnn : T.length = nn) (hnx : X.length = nx) (hn2 : nn ≤ 140737488355328) (hx2 : nx ≤ 140737488355328) (W : World) (hr : RdTb W An T) (hx : RdW W Ax X) :
    Calls Tryz.prog 21 #[.agg (mkT cl [.slice An nn cn, .slice Ax nx cx])] W (GotEr W (checkD (clL cl) T X)) := by
  generalize hQ : GotEr W (checkD (clL cl) T X) = Q
  have HQ := Lib.hid hQ
  have b0 := bl_alloc (Below.refl W.heap.size W) (.cells (mkT cl [.slice An nn cn, .slice Ax nx cx]) 33)
  have K0 := Lib.hid (heap_alloc_new W (.cells (mkT cl [.slice An nn cn, .slice Ax nx cx]) 33))
  have HR := Lib.hid (hr.below b0)
  have HX := Lib.hid (hx.below b0)
  have HN := Lib.hid hnn
  have HNX := Lib.hid hnx
  have B0 := Lib.hid b0
  clear hQ hr hx hnn hnx b0
  have hsz := mkT_size cl [.slice An nn cn, .slice Ax nx cx]
  generalize hD : mkT cl [.slice An nn cn, .slice Ax nx cx] = dv at *
  have HDV := Lib.hid hD
  clear hD
  go_enter Tryz.func21, Tryz.ntmps21
  go_upto_region 1 with fail
  have hlA : (W.alloc (.cells dv 33)).heap.size = W.heap.size + 1 := World.size_alloc _ _
  generalize W.alloc (.cells dv 33) = wA at *
  have c1 : wA.cell? ⟨W.heap.size, 256, none⟩ = some (.slice An nn cn) := (cell_of_row wA W.heap.size 256 _ _ _ K0.out).trans (by rw [← HDV.out]; exact mkT_at _ _ 0)
  have c2 : wA.cell? ⟨W.heap.size, 257, none⟩ = some (.slice Ax nx cx) := (cell_of_row wA W.heap.size 257 _ _ _ K0.out).trans (by rw [← HDV.out]; exact mkT_at _ _ 1)
  by_cases h1 : 512 < nn
  · have d1 : decide ((512 : Int) < (nn : Int)) = true := by simp; omega
    go_wp2_with fail
    refine post_is HQ ⟨?_, B0.out⟩
    unfold checkD
    rw [if_pos (Or.inl (by rw [HN.out]; exact h1))]
    rfl
  · have d1 : decide ((512 : Int) < (nn : Int)) = false := by simp; omega
    by_cases h2 : 512 < nx
    · have d2 : decide ((512 : Int) < (nx : Int)) = true := by simp; omega
      go_wp2_with fail
      refine post_is HQ ⟨?_, B0.out⟩
      unfold checkD
      rw [if_pos (Or.inr (Or.inl (by rw [HNX.out]; exact h2)))]
      rfl
    · have d2 : decide ((512 : Int) < (nx : Int)) = false := by simp; omega
      have HC := Lib.hid (rcnst_any T An nn cn HN.out hn2 wA HR.out)
      have HAF := Lib.hid (any_few T)
      obtain ⟨qf, hqf⟩ : ∃ q, T.all fewC = q := ⟨_, rfl⟩
      have HF := Lib.hid hqf
      rw [hqf] at HC HAF
      clear hqf
      go_wp2_with fail
      refine HC.out.mono ?_
      rintro e w2 ⟨rfl, hb2⟩
      have HB2 := Lib.hid (bl_trans B0.out hb2)
      have HR2 := Lib.hid (HR.out.below hb2)
      have HX2 := Lib.hid (HX.out.below hb2)
      have K2 := Lib.hid ((hb2.block W.heap.size (by omega)).trans K0.out)
      clear hb2 HC HR HX
      cases qf with
      | false =>
        go_wp2_with fail
        refine post_is HQ ⟨?_, HB2.out⟩
        unfold checkD
        rw [if_pos (Or.inr (Or.inr (by rw [HAF.out]; rfl)))]
        rfl
      | true =>
        have HM := Lib.hid (mayd_any cl T X An Ax nn cn nx cx HN.out HNX.out (by omega) (by omega) HF.out w2 HR2.out HX2.out)
        rw [HDV.out] at HM
        have hsz2 : dv.toList.length = 258 := by rw [Array.length_toList, hsz]; rfl
        have HCS := Lib.hid (show ∀ j u, dv.toList[j]? = some u → w2.cell? ((⟨W.heap.size, 0, none⟩ : Addr).add j) = some u from fun j u hu => by
          rw [addr_mk, Nat.zero_add, cell_of_row w2 W.heap.size j _ _ _ K2.out]
          simpa using hu)
        obtain ⟨qm, hqm⟩ : ∃ q, mayD (clL cl) T X = q := ⟨_, rfl⟩
        have HMQ := Lib.hid hqm
        rw [hqm] at HM
        clear hqm
        go_wp2_with (refine wpList_load_part 33 258 _ rfl rfl ⟨W.heap.size, 0, none⟩ rfl dv.toList (aggD _) (szD _) hsz2 HCS.out ?_)
        refine HM.out.mono ?_
        rintro e w3 ⟨rfl, hb3⟩
        have HB3 := Lib.hid (bl_trans HB2.out hb3)
        clear hb3 HM
        cases qm with
        | true =>
          go_wp2_with fail
          refine post_is HQ ⟨?_, HB3.out⟩
          unfold checkD
          rw [if_neg (by rw [HN.out, HNX.out, HAF.out]; simp; omega), if_pos HMQ.out]
          rfl
        | false =>
          go_wp2_with fail
          refine post_is HQ ⟨?_, HB3.out⟩
          unfold checkD
          rw [if_neg (by rw [HN.out, HNX.out, HAF.out]; simp; omega), if_neg (by rw [HMQ.out]; simp)]
          rfl

end Go.Proofs.YtcgfogdfcdndgaaGreatDoor

/- Machines: Step. -/
set_option linter.unusedVariables false
set_option linter.unusedSimpArgs false
namespace Go.Proofs.YtcgfogdfcdndgaaGreatDoor
open Go.RowKit
attribute [local go_sem] Oper.semAt_some

/-- What a machine that may be is. -/
structure MayD (cl : Nat → Int) (T : List (List Int)) (X : List Int) : Prop where
  le : T.length ≤ 512
  pos : 0 < T.length
  rules : X.length = T.length
  row : ∀ i (h : i < T.length), T[i].length = (T.headD []).length ∧ ∀ k (hk : k < T[i].length), -1 ≤ T[i][k] ∧ T[i][k] < (T.length : Int)
  cls : ∀ c, c < 256 → 0 ≤ cl c ∧ cl c < ((T.headD []).length : Int)
  rule : ∀ i (h : i < X.length), -1 ≤ X[i] ∧ X[i] < 64
theorem may_of {cl : Nat → Int} {T : List (List Int)} {X : List Int} (h : checkD (clL cl) T X = 0) : MayD cl T X := by
  unfold checkD at h
  by_cases h1 : 512 < T.length ∨ 512 < X.length ∨ T.any (fun r => decide (256 < r.length)) = true
  · rw [if_pos h1] at h; cases h
  · rw [if_neg h1] at h
    by_cases h2 : mayD (clL cl) T X = true
    · unfold mayD at h2
      simp only [Bool.and_eq_true, Bool.not_eq_true', Bool.or_eq_false_iff, beq_eq_false_iff_ne, bne_eq_false_iff_eq, List.all_eq_true, beq_iff_eq] at h2
      obtain ⟨⟨⟨a1, a2⟩, a3⟩, a4, a5⟩ := h2
      have inD_iff : ∀ lo hi x, inD lo hi x = true ↔ lo ≤ x ∧ x < hi := fun lo hi x => by unfold inD; simp
      refine ⟨by omega, by omega, a2, fun i hi => ⟨(a3 _ (List.getElem_mem hi)).1, fun k hk => (inD_iff _ _ _).1 ((a3 _ (List.getElem_mem hi)).2 _ (List.getElem_mem hk))⟩, fun c hc => (inD_iff _ _ _).1 (a4 _ ?_), fun i hi => (inD_iff _ _ _).1 (a5 _ (List.getElem_mem hi))⟩
      unfold clL
      exact List.mem_map.2 ⟨c, List.mem_range.2 hc, rfl⟩
    · rw [if_neg h2] at h; cases h
set_option maxRecDepth 100000 in
set_option maxHeartbeats 4000000 in
theorem dstep_any (cl : Nat → Int) (T : List (List Int)) (X : List Int) (An Ax : Option Addr) (nn cn nx cx : Nat) (hnn : T.length = nn) (hnx : X.length = nx) (hn2 : nn ≤ 140737488355328) (hx2 : nx ≤ 140737488355328) (s : Int) (c : Nat) (hc : c < 256) (W : World) (hr : RdTb W An T) (hx : RdW W Ax X) :
    Calls Tryz.prog 19 #[.agg (mkT cl [.slice An nn cn, .slice Ax nx cx]), .int .i64 s, .int .u8 (c : Int)] W (GotRn W (stepD (clL cl) T X s c)) := by
  generalize hQ : GotRn W (stepD (clL cl) T X s c) = Q
  have HQ := Lib.hid hQ
  have b0 := bl_alloc (Below.refl W.heap.size W) (.cells (mkT cl [.slice An nn cn, .slice Ax nx cx]) 33)
  have K0 := Lib.hid (heap_alloc_new W (.cells (mkT cl [.slice An nn cn, .slice Ax nx cx]) 33))
  have HR := Lib.hid (hr.below b0)
  have HX := Lib.hid (hx.below b0)
  have HN := Lib.hid hnn
  have HNX := Lib.hid hnx
  have B0 := Lib.hid b0
  have HCK := Lib.hid (fun w (h : RdTb w An T) (h2 : RdW w Ax X) => dcheck_any cl T X An Ax nn cn nx cx hnn hnx hn2 hx2 w h h2)
  clear hQ hr hx hnn hnx b0
  have hsz := mkT_size cl [.slice An nn cn, .slice Ax nx cx]
  have HCL := Lib.hid (fun c (h : c < 256) => mkT_cl cl [.slice An nn cn, .slice Ax nx cx] h)
  generalize hD : mkT cl [.slice An nn cn, .slice Ax nx cx] = dv at *
  have HDV := Lib.hid hD
  clear hD
  have hsz2 : dv.toList.length = 258 := by rw [Array.length_toList, hsz]; rfl
  have hlA : (W.alloc (.cells dv 33)).heap.size = W.heap.size + 1 := World.size_alloc _ _
  go_enter Tryz.func19, Tryz.ntmps19
  go_upto_region 1 with fail
  generalize W.alloc (.cells dv 33) = wA at *
  have HCS := Lib.hid (show ∀ j u, dv.toList[j]? = some u → wA.cell? ((⟨W.heap.size, 0, none⟩ : Addr).add j) = some u from fun j u hu => by
    rw [addr_mk, Nat.zero_add, cell_of_row wA W.heap.size j _ _ _ K0.out]
    simpa using hu)
  go_wp2_with (refine wpList_load_part 33 258 _ rfl rfl ⟨W.heap.size, 0, none⟩ rfl dv.toList (aggD _) (szD _) hsz2 HCS.out ?_)
  refine (HCK.out wA HR.out HX.out).mono ?_
  rintro e w2 ⟨rfl, hb2⟩
  have HB2 := Lib.hid (bl_trans B0.out hb2)
  have HR2 := Lib.hid (HR.out.below hb2)
  have K2 := Lib.hid ((hb2.block W.heap.size (by omega)).trans K0.out)
  clear hb2 HR HX K0 HCS
  obtain ⟨ck, hck⟩ : ∃ q, checkD (clL cl) T X = q := ⟨_, rfl⟩
  have HK := Lib.hid hck
  rw [hck]
  clear hck
  by_cases hz : ck = 0
  · subst hz
    have HM := Lib.hid (may_of HK.out)
    have c1 : w2.cell? ⟨W.heap.size, 256, none⟩ = some (.slice An nn cn) := (cell_of_row w2 W.heap.size 256 _ _ _ K2.out).trans (by rw [← HDV.out]; exact mkT_at _ _ 0)
    by_cases hs : s < 0
    · have d1 : decide (s < 0) = true := by simpa using hs
      go_wp2_with fail
      refine post_is HQ ⟨?_, HB2.out⟩
      unfold stepD
      rw [if_neg (by rw [HK.out]; simp), if_pos (Or.inl hs)]
      rfl
    · have d1 : decide (s < 0) = false := by simpa using hs
      by_cases hs2 : (nn : Int) ≤ s
      · have d2 : decide ((nn : Int) ≤ s) = true := by simpa using hs2
        go_wp2_with fail
        refine post_is HQ ⟨?_, HB2.out⟩
        unfold stepD
        rw [if_neg (by rw [HK.out]; simp), if_pos (Or.inr (by rw [HN.out]; exact hs2))]
        rfl
      · have d2 : decide ((nn : Int) ≤ s) = false := by simpa using hs2
        obtain ⟨sn, rfl⟩ : ∃ n : Nat, s = (n : Int) := ⟨s.toNat, by omega⟩
        have hsl : sn < T.length := by rw [HN.out]; omega
        obtain ⟨ad, hA, B9, m9, d9, hc9, hm9, hmd9, hr9⟩ := HR2.out sn hsl
        subst hA
        obtain ⟨k1, k2⟩ := HM.out.cls c hc
        rw [← (HM.out.row sn hsl).1, hm9] at k2
        obtain ⟨kc, hkc⟩ : ∃ n : Nat, cl c = (n : Int) := ⟨(cl c).toNat, by omega⟩
        have hkl : kc < T[sn].length := by rw [hm9]; omega
        obtain ⟨ad2, hA2, hce⟩ := hr9 kc hkl
        subst hA2
        have HST := Lib.hid (show stepD (clL cl) T X (sn : Int) c = (T[sn][kc], 0) from by
          unfold stepD nextD
          rw [if_neg (by rw [HK.out]; simp), if_neg (by rw [HN.out]; omega)]
          have e1 : (clL cl).getD c 0 = (kc : Int) := by
            unfold clL
            simp [List.getD, hc, hkc]
          rw [e1]
          simp [List.getD, hsl, hkl])
        generalize T[sn][kc] = rv at *
        have cc : w2.cell? ⟨W.heap.size, c, none⟩ = some (.int .i64 (kc : Int)) := by
          rw [cell_of_row w2 W.heap.size c _ _ _ K2.out, HCL.out c hc, hkc]
        have i1 : (sn : Int) < (nn : Int) := by omega
        have i2 : (c : Int) < 256 := by omega
        have i3 : (kc : Int) < (m9 : Int) := by omega
        clear hsl hm9 hr9 hkl k1 k2 hkc hs hs2
        go_wp2_with fail
        go_quiet (fail)
        go_wp2_with fail
        refine post_is HQ ⟨?_, bl_drewN HB2.out _⟩
        rw [HST.out]
        rfl
  · have hz1 : ((ck : Int) = 0) = False := by simp; omega
    have hz2 : ((ck : Int) != 0) = true := by simp; omega
    go_wp2_with fail
    refine post_is HQ ⟨?_, HB2.out⟩
    unfold stepD
    rw [if_pos (by rw [HK.out]; exact hz), HK.out]
    rfl

end Go.Proofs.YtcgfogdfcdndgaaGreatDoor

/- Machines: Run. -/
set_option linter.unusedVariables false
set_option linter.unusedSimpArgs false
namespace Go.Proofs.YtcgfogdfcdndgaaGreatDoor
open Go.RowKit
attribute [local go_sem] Oper.semAt_some

set_option maxRecDepth 100000 in
set_option maxHeartbeats 4000000 in
theorem drun_any (cl : Nat → Int) (T : List (List Int)) (X : List Int) (An Ax : Option Addr) (nn cn nx cx : Nat) (hnn : T.length = nn) (hnx : X.length = nx) (hn2 : nn ≤ 140737488355328) (hx2 : nx ≤ 140737488355328) (ts : List UInt8) (At : Option Addr) (n c : Nat) (hn : ts.length = n) (hn3 : n ≤ 140737488355328) (W : World) (hr : RdTb W An T) (hx : RdW W Ax X) (ht : Rd W At ts) :
    Calls Tryz.prog 23 #[.agg (mkT cl [.slice An nn cn, .slice Ax nx cx]), .slice At n c] W (GotRn W (runD (clL cl) T X ts)) := by
  generalize hQ : GotRn W (runD (clL cl) T X ts) = Q
  have HQ := Lib.hid hQ
  have b0 := bl_alloc (Below.refl W.heap.size W) (.cells (mkT cl [.slice An nn cn, .slice Ax nx cx]) 33)
  have K0 := Lib.hid (heap_alloc_new W (.cells (mkT cl [.slice An nn cn, .slice Ax nx cx]) 33))
  have HR := Lib.hid (hr.below b0)
  have HX := Lib.hid (hx.below b0)
  have HN := Lib.hid hnn
  have HTS := Lib.hid (ht.below b0)
  have HTN := Lib.hid hn
  have HNX := Lib.hid hnx
  have B0 := Lib.hid b0
  have HCK := Lib.hid (fun w (h : RdTb w An T) (h2 : RdW w Ax X) => dcheck_any cl T X An Ax nn cn nx cx hnn hnx hn2 hx2 w h h2)
  clear hQ hr hx ht hn hnn hnx b0
  have hsz := mkT_size cl [.slice An nn cn, .slice Ax nx cx]
  have HCL := Lib.hid (fun c (h : c < 256) => mkT_cl cl [.slice An nn cn, .slice Ax nx cx] h)
  generalize hD : mkT cl [.slice An nn cn, .slice Ax nx cx] = dv at *
  have HDV := Lib.hid hD
  clear hD
  have hsz2 : dv.toList.length = 258 := by rw [Array.length_toList, hsz]; rfl
  have hlA : (W.alloc (.cells dv 33)).heap.size = W.heap.size + 1 := World.size_alloc _ _
  go_enter Tryz.func23, Tryz.ntmps23
  go_upto_region 1 with fail
  generalize W.alloc (.cells dv 33) = wA at *
  have HCS := Lib.hid (show ∀ j u, dv.toList[j]? = some u → wA.cell? ((⟨W.heap.size, 0, none⟩ : Addr).add j) = some u from fun j u hu => by
    rw [addr_mk, Nat.zero_add, cell_of_row wA W.heap.size j _ _ _ K0.out]
    simpa using hu)
  go_wp2_with (refine wpList_load_part 33 258 _ rfl rfl ⟨W.heap.size, 0, none⟩ rfl dv.toList (aggD _) (szD _) hsz2 HCS.out ?_)
  refine (HCK.out wA HR.out HX.out).mono ?_
  rintro e w2 ⟨rfl, hb2⟩
  have HB2 := Lib.hid (bl_trans B0.out hb2)
  have HR2 := Lib.hid (HR.out.below hb2)
  have HX2 := Lib.hid (HX.out.below hb2)
  have HT2 := Lib.hid (HTS.out.below hb2)
  have K2 := Lib.hid ((hb2.block W.heap.size (by omega)).trans K0.out)
  clear hb2 HR HX HTS K0 HCS
  obtain ⟨ck, hck⟩ : ∃ q, checkD (clL cl) T X = q := ⟨_, rfl⟩
  have HK := Lib.hid hck
  rw [hck]
  clear hck
  by_cases hz : ck = 0
  · subst hz
    have HM := Lib.hid (may_of HK.out)
    have c1 : w2.cell? ⟨W.heap.size, 256, none⟩ = some (.slice An nn cn) := (cell_of_row w2 W.heap.size 256 _ _ _ K2.out).trans (by rw [← HDV.out]; exact mkT_at _ _ 0)
    by_cases hbig : 8192 < n
    · have d1 : decide ((8192 : Int) < (n : Int)) = true := by simp; omega
      go_wp2_with fail
      refine post_is HQ ⟨?_, HB2.out⟩
      unfold runD
      rw [if_neg (by rw [HK.out]; simp), if_pos (by rw [HTN.out]; exact hbig)]
      rfl
    · have d1 : decide ((8192 : Int) < (n : Int)) = false := by simp; omega
      have HGO := Lib.hid (show runD (clL cl) T X ts = (ruleD X (walkD (clL cl) T 0 ts), 0) from by
        unfold runD
        rw [if_neg (by rw [HK.out]; simp), if_neg (by rw [HTN.out]; exact hbig)])
      have hB2 : Below W.heap.size W w2 := HB2.out
      have hlB : W.heap.size < w2.heap.size := (Array.getElem?_eq_some_iff.1 K2.out).1
      go_wp2_with fail
      clear c1
      go_loopw [7, 20] (fun vs vi wr => ∃ (k sn : Nat), k ≤ n ∧ vi = .int .i64 (k : Int) ∧ vs = .int .i64 (sn : Int) ∧ sn < nn ∧ Hid (walkD (clL cl) T 0 ts = walkD (clL cl) T (sn : Int) (ts.drop k)) ∧ Hid (Below w2.heap.size w2 wr)) (fun _ vi _ => n - (intOf vi).toNat)
      case atStart => exact ⟨0, 0, Nat.zero_le _, rfl, rfl, by have := HM.out.pos; rw [HN.out] at this; exact this, rfl, Below.refl _ _⟩
      case round =>
        obtain ⟨k, sn, hk, rfl, rfl, hsn, HWK, HBW⟩ := hrel
        have hBW : Below w2.heap.size w2 wr := HBW.out
        have kr : wr.heap[W.heap.size]? = some (.cells dv 33 (0, 0)) := (hBW.block W.heap.size hlB).trans K2.out
        by_cases hlt : k < n
        · have hkl : k < ts.length := by rw [HTN.out]; exact hlt
          obtain ⟨adt, hAt, hct⟩ := (HT2.out.below hBW).cell hkl
          subst hAt
          have HDR := Lib.hid (show ts.drop k = ts[k] :: ts.drop (k + 1) from List.drop_eq_getElem_cons hkl)
          generalize ts[k] = ch at *
          obtain ⟨cn8, hcn⟩ : ∃ q, ch.toNat = q := ⟨_, rfl⟩
          have hc : cn8 < 256 := by rw [← hcn]; exact ch.toNat_lt
          have hsl : sn < T.length := by rw [HN.out]; exact hsn
          obtain ⟨ad, hA, B9, m9, d9, hc9, hm9, hmd9, hr9⟩ := (HR2.out.below hBW) sn hsl
          subst hA
          obtain ⟨k1, k2⟩ := HM.out.cls cn8 hc
          rw [← (HM.out.row sn hsl).1, hm9] at k2
          obtain ⟨kc, hkc⟩ : ∃ n : Nat, cl cn8 = (n : Int) := ⟨(cl cn8).toNat, by omega⟩
          have hkl2 : kc < T[sn].length := by rw [hm9]; omega
          obtain ⟨ad2, hA2, hce⟩ := hr9 kc hkl2
          subst hA2
          obtain ⟨r1, r2⟩ := (HM.out.row sn hsl).2 kc hkl2
          rw [HN.out] at r2
          have HST := Lib.hid (show nextD (clL cl) T (sn : Int) ch.toNat = T[sn][kc] from by
            unfold nextD
            have e1 : (clL cl).getD ch.toNat 0 = (kc : Int) := by
              unfold clL
              rw [hcn]
              simp [List.getD, hc, hkc]
            rw [e1]
            simp [List.getD, hsl, hkl2])
          generalize T[sn][kc] = rv at *
          have c1 : wr.cell? ⟨W.heap.size, 256, none⟩ = some (.slice (some ad) nn cn) := (cell_of_row wr W.heap.size 256 _ _ _ kr).trans (by rw [← HDV.out]; exact mkT_at _ _ 0)
          have cc : wr.cell? ⟨W.heap.size, cn8, none⟩ = some (.int .i64 (kc : Int)) := by
            rw [cell_of_row wr W.heap.size cn8 _ _ _ kr, HCL.out cn8 hc, hkc]
          rw [hcn] at hct
          have i1 : (sn : Int) < (nn : Int) := by omega
          have i2 : (cn8 : Int) < 256 := by omega
          have i3 : (kc : Int) < (m9 : Int) := by omega
          clear hsl hm9 hr9 hkl hkl2 k1 k2 hkc kr hcn
          have HW2 := Lib.hid (show walkD (clL cl) T 0 ts = if rv = -1 then -1 else walkD (clL cl) T rv (ts.drop (k + 1)) from by
            rw [HWK.out, HDR.out]
            show (if nextD (clL cl) T (sn : Int) ch.toNat = -1 then (-1 : Int) else walkD (clL cl) T (nextD (clL cl) T (sn : Int) ch.toNat) (ts.drop (k + 1))) = _
            rw [HST.out])
          by_cases hm1 : rv = -1
          · subst hm1
            go_wp2_with fail
            go_quiet (fail)
            go_wp2_with fail
            refine post_is HQ ⟨?_, bl_drewN (bl_trans HB2.out HBW.out) _⟩
            rw [HGO.out, HW2.out]
            rfl
          · obtain ⟨rn, rfl⟩ : ∃ n : Nat, rv = (n : Int) := ⟨rv.toNat, by omega⟩
            have e1 : ((rn : Int) == -1) = false := by rw [beq_eq_false_iff_ne]; omega
            go_wp2_with fail
            go_quiet (fail)
            go_wp2_with fail
            refine ⟨⟨k + 1, rn, by omega, by go_num, rfl, by omega, ?_, bl_drewN HBW.out _⟩, by simp [intOf]; omega⟩
            unfold Hid
            rw [HW2.out, if_neg hm1]
        · obtain rfl : k = n := by omega
          have c2 : wr.cell? ⟨W.heap.size, 257, none⟩ = some (.slice Ax nx cx) := (cell_of_row wr W.heap.size 257 _ _ _ kr).trans (by rw [← HDV.out]; exact mkT_at _ _ 1)
          have hxl : sn < X.length := by rw [HM.out.rules, HN.out]; exact hsn
          obtain ⟨adx, hAx, hcx⟩ := (HX2.out.below hBW) sn hxl
          subst hAx
          have HRU := Lib.hid (show runD (clL cl) T X ts = (X[sn], 0) from by
            rw [HGO.out, HWK.out, List.drop_eq_nil_of_le (by rw [HTN.out]; exact Nat.le_refl _)]
            show (ruleD X (sn : Int), 0) = _
            unfold ruleD
            rw [if_neg (by omega)]
            simp [List.getD, hxl])
          have i1 : (sn : Int) < (nx : Int) := by rw [HNX.out] at hxl; omega
          generalize X[sn] = rx at *
          clear hxl kr
          go_wp2_with fail
          refine post_is HQ ⟨?_, bl_trans HB2.out HBW.out⟩
          rw [HRU.out]
          rfl
  · have hz1 : ((ck : Int) = 0) = False := by simp; omega
    have hz2 : ((ck : Int) != 0) = true := by simp; omega
    go_wp2_with fail
    refine post_is HQ ⟨?_, HB2.out⟩
    unfold runD
    rw [if_pos (by rw [HK.out]; exact hz), HK.out]
    rfl

end Go.Proofs.YtcgfogdfcdndgaaGreatDoor

/- The law's net: a net of texts; what reads as patterns. (The first part is NfOf's.) -/
set_option linter.unusedVariables false
set_option linter.unusedSimpArgs false
namespace Go.Proofs.YtcgfogdfcdndgaaGreatDoor
open Go.RowKit
attribute [local go_sem] Oper.semAt_some

theorem cellsN_get : ∀ (l : List RN) (i : Nat) (h : i < l.length) (j : Nat) (u : Value), (cellsR l[i])[j]? = some u → (cellsN l)[i * 7 + j]? = some u
  | x :: l, 0, h, j, u, hu => by
    rw [show cellsN (x :: l) = cellsR x ++ cellsN l from rfl]
    have hj : j < (cellsR x).length := (List.getElem?_eq_some_iff.1 hu).1
    rw [Nat.zero_mul, Nat.zero_add, List.getElem?_append_left hj]
    exact hu
  | x :: l, i + 1, h, j, u, hu => by
    rw [show cellsN (x :: l) = cellsR x ++ cellsN l from rfl]
    have h7 : (cellsR x).length = 7 := rfl
    rw [List.getElem?_append_right (by rw [h7]; omega), h7, show (i + 1) * 7 + j - 7 = i * 7 + j by omega]
    exact cellsN_get l i (by simpa using h) j u hu
/-- Nodes that a call made, as a slice that reads. -/
theorem OwnR.shape {w : World} {base : Nat} {v : Value} {l : List RN} (h : OwnR w base v l) :
    ∃ A n c, v = .slice A n c ∧ Hid (l.length = n) ∧ n ≤ c ∧ c ≤ maxLen ∧ RdR w A l := by
  rcases h.2 with ⟨rfl, hn⟩ | ⟨g, cap, cur, rfl, _, hg, hnc, hcm, hcs, ht⟩
  · exact ⟨none, 0, 0, rfl, hn, Nat.le_refl _, by simp [maxLen], fun i hi => by omega⟩
  · refine ⟨some ⟨g, 0, none⟩, _, cap, rfl, rfl, hnc, hcm, fun i hi => ⟨_, rfl, fun j u hu => ?_⟩⟩
    have := World.ownsRow.cells h (g := g) rfl (i * 7 + j) u (cellsN_get l i hi j u hu)
    rw [addr_mk] at this ⊢
    rw [addr_mk]
    simpa [Nat.add_assoc] using this
theorem OwnR.later {w w' : World} {base : Nat} {v : Value} {l : List RN} (h : OwnR w base v l) (hb : Below w.heap.size w w') : OwnR w' base v l :=
  World.ownsRow.kept h (grown_of_below hb none) (by cases v.ownBlock <;> simp)
theorem OwnR.from {w : World} {base base' : Nat} {v : Value} {l : List RN} (h : OwnR w base v l) (hb : base' ≤ base) : OwnR w base' v l := by
  refine ⟨h.1, ?_⟩
  rcases h.2 with h | ⟨g, cap, cur, e, hg, r⟩
  · exact Or.inl h
  · exact Or.inr ⟨g, cap, cur, e, Nat.le_trans hb hg, r⟩
theorem info_rex : (Tryz.prog.info? 88).map (fun i => (i.zero, i.size, i.bytes)) = some (some (.agg #[.slice none 0 0]), 1, 24) := by kernel_rfl
theorem rows_ne {w : World} {base base' : Nat} {v u : Value} {e1 e2 : TypeId} {s1 s2 n1 n2 : Nat} {x1 x2 : List Value} (he : e1 ≠ e2) (h : w.ownsRow base e1 s1 v n1 x1) (h' : w.ownsRow base' e2 s2 u n2 x2) : ∀ i, v.ownBlock = some i → u.ownBlock ≠ some i := fun i e e' => by
  rcases h.2 with ⟨rfl, _⟩ | ⟨g, cap, cur, rfl, _, hg, _⟩
  · simp [Value.ownBlock] at e
  · obtain rfl : g = i := Option.some.inj e
    rcases h'.2 with ⟨rfl, _⟩ | ⟨g', cap', cur', rfl, _, hg', _⟩
    · simp [Value.ownBlock] at e'
    · obtain rfl : g' = g := Option.some.inj e'
      rw [hg] at hg'
      have := Option.some.inj hg'
      injection this with _ h1 _
      exact he h1
/-- Patterns that a call made. -/
def OwnX (w : World) (base : Nat) (v : Value) (Ls : List (List RN)) : Prop := ∃ vals, w.ownsRow base 88 1 v Ls.length vals ∧ vals.length = Ls.length ∧ ∀ i (h : i < Ls.length), ∃ B m d, vals[i]? = some (.slice B m d) ∧ Ls[i].length = m ∧ m ≤ d ∧ OwnR w base (.slice B m d) Ls[i]
theorem OwnX.nil (w : World) (base : Nat) : OwnX w base (.slice none 0 0) [] := ⟨[], World.ownsRow_nil _ _ _ _, rfl, fun i h => absurd h (by simp)⟩
theorem OwnX.below {w w' : World} {base : Nat} {v : Value} {Ls : List (List RN)} (h : OwnX w base v Ls) (hb : Below w.heap.size w w') : OwnX w' base v Ls := by
  obtain ⟨vals, h1, h2, h3⟩ := h
  refine ⟨vals, World.ownsRow.kept h1 (grown_of_below hb none) (by cases v.ownBlock <;> simp), h2, fun i hi => ?_⟩
  obtain ⟨B, m, d, y1, y2, y3, y4⟩ := h3 i hi
  exact ⟨B, m, d, y1, y2, y3, y4.later hb⟩
theorem OwnX.rdx {w : World} {base : Nat} {v : Value} {Ls : List (List RN)} (h : OwnX w base v Ls) : ∃ B m d, v = .slice B m d ∧ Ls.length = m ∧ m ≤ d ∧ RdX w B Ls := by
  obtain ⟨vals, h1, h2, h3⟩ := h
  rcases h1.2 with ⟨e, hn⟩ | ⟨g, cap, cur, e, hbs, hg, hnc, hcm, r⟩
  · exact ⟨none, 0, 0, e, hn, Nat.le_refl _, fun i hi => by omega⟩
  · refine ⟨some ⟨g, 0, none⟩, _, cap, e, rfl, hnc, fun i hi => ?_⟩
    obtain ⟨B, m, d, y1, y2, y3, y4⟩ := h3 i hi
    obtain ⟨B', m', d', e2, _, _, _, hrd⟩ := y4.shape
    injection e2 with e2 _ _
    subst e2
    exact ⟨_, B, m, d, rfl, World.ownsRow.cells h1 (g := g) (by rw [e]; rfl) i _ y1, y2, y3, hrd⟩
/-- What the law's net answers: as Of, without the error. -/
def GotNt (W : World) (Ls : List (List RN)) (e : Ending) (W' : World) : Prop :=
  ∃ S A n c A2 n2 c2, e = .returned (.agg #[.int .i64 (S : Int), .slice A n c, .slice A2 n2 c2]) ∧ OwnE W' W.heap.size (.slice A n c) (if ofN Ls = 0 then netE 1 Ls else []) ∧ OwnI W' W.heap.size (.slice A2 n2 c2) (if ofN Ls = 0 then netX 1 Ls else []) ∧ S = (if ofN Ls = 0 then netS Ls else 0) ∧ Below W.heap.size W W'
set_option maxRecDepth 100000 in
set_option maxHeartbeats 4000000 in
theorem net_texts (Ss : List (List UInt8)) (Ls : List (List RN)) (A : Option Addr) (n c : Nat) (hn : Ss.length = n) (hl : Ls.length = n) (hn2 : n ≤ 1000) (W : World) (hr : ∀ i (h : i < Ss.length), ∃ ad, A = some ad ∧ W.cell? (ad.add i) = some (.string ⟨Ss[i].toArray⟩))
    (hp : ∀ i (h : i < Ss.length) (h' : i < Ls.length) (w : World), Calls Tryz.prog 50 #[.string ⟨Ss[i].toArray⟩] w (GotP w (Ls[i], 0, 0))) :
    Calls Tryz.prog 27 #[.slice A n c] W (GotNt W Ls) := by
  generalize hQ : GotNt W Ls = Q
  have HQ := Lib.hid hQ
  have HR := Lib.hid hr
  have HP := Lib.hid hp
  have HN := Lib.hid hn
  have HL := Lib.hid hl
  clear hQ hr hp hn hl
  go_enter Tryz.func27, Tryz.ntmps27
  go_wp2_with fail
  have bW := bl_alloc (Below.refl W.heap.size W) (.cells #[.int .i64 0, .slice none 0 0, .slice none 0 0] 25)
  have KW := Lib.hid (heap_alloc_new W (.cells #[.int .i64 0, .slice none 0 0, .slice none 0 0] 25))
  have HR := Lib.hid (show ∀ i (h : i < Ss.length), ∃ ad, A = some ad ∧ (W.alloc (.cells #[.int .i64 0, .slice none 0 0, .slice none 0 0] 25)).cell? (ad.add i) = some (.string ⟨Ss[i].toArray⟩) from fun i h => by
    obtain ⟨ad, e, hc⟩ := HR.out i h
    exact ⟨ad, e, (bW.cell (World.block_lt_of_cell? W _ hc)).trans hc⟩)
  have BW0 := Lib.hid bW
  have hV : (W.alloc (.cells #[.int .i64 0, .slice none 0 0, .slice none 0 0] 25)).heap.size = W.heap.size + 1 := World.size_alloc _ _
  clear bW
  generalize W.alloc (.cells #[.int .i64 0, .slice none 0 0, .slice none 0 0] 25) = V at *
  go_loopw [3, 4] (fun v3 vi wr => ∃ (k : Nat) (A1 : Option Addr) (n1 c1 : Nat), k ≤ n ∧ v3 = .slice A1 n1 c1 ∧ vi = .int .i64 (k : Int) ∧ Hid (OwnX wr V.heap.size (.slice A1 n1 c1) (Ls.take k)) ∧ Hid (Below V.heap.size V wr)) (fun _ vi _ => n - (intOf vi).toNat)
  case atStart => exact ⟨0, none, 0, 0, Nat.zero_le _, rfl, rfl, OwnX.nil _ _, Below.refl _ _⟩
  case round =>
    obtain ⟨k, A1, n1, c1, hk, rfl, rfl, OX, BW⟩ := hrel
    by_cases hlt : k < n
    · have h1 : k < Ss.length := by rw [HN.out]; exact hlt
      have h2 : k < Ls.length := by rw [HL.out]; exact hlt
      obtain ⟨ad, hA, hc⟩ := HR.out k h1
      subst hA
      have hc2 : wr.cell? (ad.add k) = some (.string ⟨Ss[k].toArray⟩) := (BW.out.cell (World.block_lt_of_cell? V _ hc)).trans hc
      have HPK := Lib.hid (HP.out k h1 h2 wr)
      have HTK := Lib.hid (show Ls.take (k + 1) = Ls.take k ++ [Ls[k]] from List.take_succ_eq_append_getElem h2)
      have HTL := Lib.hid (show (Ls.take k).length = k from by rw [List.length_take]; omega)
      generalize Ss[k] = s at *
      generalize Ls[k] = l at *
      generalize Ls.take k = P at *
      clear hc
      go_wp2_with fail
      refine HPK.out.mono ?_
      rintro e w2 ⟨v, rfl, ho, hb2⟩
      obtain ⟨B, m, d, rfl, hlm, hmd, hdm, _⟩ := ho.shape
      have OX2 := OX.out.below hb2
      have B2 := Lib.hid (bl_trans BW.out hb2)
      have ho2 : OwnR w2 V.heap.size (.slice B m d) l := ho.from BW.out.size
      have bx := bl_alloc (Below.refl w2.heap.size w2) (.cells #[.slice B m d] 88)
      have bz := bl_alloc bx (.cells #[.slice B m d] 88)
      have c5 := cell_of_row _ w2.heap.size 0 _ _ _ (heap_alloc_new w2 (.cells #[.slice B m d] 88))
      have L5 := Lib.hid (show ∀ j u, [Value.slice B m d][j]? = some u → (w2.alloc (.cells #[.slice B m d] 88)).cell? ((⟨w2.heap.size, 0, none⟩ : Addr).add j) = some u from fun j u hu => by
        rw [addr_mk, Nat.zero_add, cell_of_row _ w2.heap.size j _ _ _ (heap_alloc_new w2 (.cells #[.slice B m d] 88))]
        simpa using hu)
      have ONE := Lib.hid (show ∀ j u, [Value.slice B m d][j]? = some u → ((w2.alloc (.cells #[.slice B m d] 88)).alloc (.cells #[.slice B m d] 88)).cell? ((⟨w2.heap.size + 1, 0, none⟩ : Addr).add j) = some u from fun j u hu => by
        have h := one_row (w2.alloc (.cells #[.slice B m d] 88)) (.slice B m d) 88 j u hu
        rwa [World.size_alloc] at h)
      have OXZ := Lib.hid (OX2.below bz)
      have ORZ := Lib.hid (ho2.later bz)
      have BZ := Lib.hid (bl_trans B2.out bz)
      obtain ⟨vals, hv1, hv2, hv3⟩ := OXZ.out
      have HV1 := Lib.hid hv1
      have HV2 := Lib.hid hv2
      have HV3 := Lib.hid hv3
      obtain ⟨i0, hi, hz0, hz1, hz2⟩ := info_parts info_rex
      clear ho ho2 hb2 OX2 bx bz hv1 hv2 hv3 HPK OX BW hc2 OXZ
      have hk6 := HTL.out
      go_wp2_with (first | (refine wpList_load_part 88 1 _ rfl rfl ⟨w2.heap.size, 0, none⟩ rfl [.slice B m d] (agg_rex' _) (sz_rex' _) rfl L5.out ?_) | (at_builtin; refine wpList_append_lies _ rfl _ _ 85 rfl V.heap.size 88 i0 (.agg #[.slice none 0 0]) 1 24 Tryz.underlying85 hi hz0 hz1 hz2 rfl (by decide) (.slice A1 n1 c1) P.length vals rfl HV1.out ⟨w2.heap.size + 1, 0, none⟩ 1 1 [.slice B m d] rfl rfl ONE.out (by simp [Value.oneCell']) (by omega) (by simp only [maxLen]; omega) (by omega) BZ.out.size _ rfl ?_; intro g3 c3 w3 ho3 hg3 hat3 hlt3))
      have hnr : ∀ (x : Value) (q : List RN), OwnR ((w2.alloc (.cells #[.slice B m d] 88)).alloc (.cells #[.slice B m d] 88)) V.heap.size x q → OwnR w3 V.heap.size x q := fun x q hq => by
        refine World.ownsRow.kept hq hg3 ?_
        cases hx : x.ownBlock with
        | none => exact Or.inl rfl
        | some j => exact Or.inr fun e => rows_ne (by decide) hq HV1.out j hx e.symm
      refine ⟨⟨k + 1, some ⟨g3, 0, none⟩, k + 1, c3, by omega, rfl, by go_num, ?_, bl_grown BZ.out hg3 (fun i e => (World.ownsRow.lt HV1.out i e).1)⟩, by simp [intOf]; omega⟩
      rw [HTK.out]
      refine ⟨vals ++ [.slice B m d], ?_, by rw [List.length_append, List.length_append, HV2.out]; rfl, fun i hi => ?_⟩
      · have h := ho3
        rw [List.length_append, List.length_singleton]
        rw [hk6] at h ⊢
        exact h
      · by_cases hik : i < P.length
        · obtain ⟨B', m', d', y1, y2, y3, y4⟩ := HV3.out i hik
          refine ⟨B', m', d', by rw [List.getElem?_append_left (by rw [HV2.out]; exact hik)]; exact y1, by rw [List.getElem_append_left hik]; exact y2, y3, ?_⟩
          rw [List.getElem_append_left hik]
          exact hnr _ _ y4
        · obtain rfl : i = P.length := by rw [List.length_append, List.length_singleton] at hi; omega
          refine ⟨B, m, d, by rw [List.getElem?_append_right (by rw [HV2.out]; exact Nat.le_refl _), HV2.out, Nat.sub_self]; rfl, by simp; exact hlm.out, hmd, ?_⟩
          simp only [List.getElem_append_right (Nat.le_refl _), Nat.sub_self, List.getElem_cons_zero]
          exact hnr _ _ ORZ.out
    · obtain rfl : k = n := by omega
      rw [show Ls.take k = Ls from List.take_of_length_le (by rw [HL.out]; exact Nat.le_refl _)] at OX
      obtain ⟨B, m, d, e, x1, x2, x3⟩ := OX.out.rdx
      injection e with e1 e2 e3
      subst e1 e2 e3
      have X1 := Lib.hid x1
      have X3 := Lib.hid x3
      clear x1 x3
      have HOF := Lib.hid (of_all Ls A1 n1 c1 X1.out (by have := X1.out; have := HL.out; omega) wr X3.out)
      have hKr := (BW.out.block W.heap.size (by omega)).trans KW.out
      have HKR := Lib.hid hKr
      clear hKr
      go_wp2_with fail
      refine HOF.out.mono ?_
      rintro e w2 ⟨S, A3, n3, c3, A4, n4, c4, rfl, hE, hI, hS, hb⟩
      have HE3 := Lib.hid hE
      have HI3 := Lib.hid hI
      have HS3 := Lib.hid hS
      have hK2 : w2.heap[W.heap.size]? = _ := (hb.block W.heap.size (Array.getElem?_eq_some_iff.1 HKR.out).1).trans HKR.out
      have HK2 := Lib.hid hK2
      have HB3 := Lib.hid (bl_trans (bl_trans BW0.out BW.out) hb)
      have hl2 : W.heap.size < w2.heap.size := (Array.getElem?_eq_some_iff.1 hK2).1
      clear hE hI hS hb hK2 HOF
      have q0 : w2.cell? ⟨W.heap.size, 0, none⟩ = some (.int .i64 0) := cell_of_row w2 W.heap.size 0 _ _ _ HK2.out
      have q1 : w2.cell? ⟨W.heap.size, 1, none⟩ = some (.slice none 0 0) := cell_of_row w2 W.heap.size 1 _ _ _ HK2.out
      have q2 : w2.cell? ⟨W.heap.size, 2, none⟩ = some (.slice none 0 0) := cell_of_row w2 W.heap.size 2 _ _ _ HK2.out
      have z0 : w2.frozen? ⟨W.heap.size, 0, none⟩ = false := frozen_of_row w2 W.heap.size 0 _ _ HK2.out
      have z1 : w2.frozen? ⟨W.heap.size, 1, none⟩ = false := frozen_of_row w2 W.heap.size 1 _ _ HK2.out
      have z2 : w2.frozen? ⟨W.heap.size, 2, none⟩ = false := frozen_of_row w2 W.heap.size 2 _ _ HK2.out
      have hrz : W.heap.size < wr.heap.size := (Array.getElem?_eq_some_iff.1 HKR.out).1
      go_wp2_with fail
      have s0 := heap_setCell_same w2 W.heap.size 0 _ _ (.int .i64 (S : Int)) HK2.out
      have s1 := heap_setCell_same _ W.heap.size 1 _ _ (.slice A3 n3 c3) s0
      have s2 := heap_setCell_same _ W.heap.size 2 _ _ (.slice A4 n4 c4) s1
      have g3 : ∀ i, i < w2.heap.size → i ≠ W.heap.size → ((((w2.setCell ⟨W.heap.size, 0, none⟩ (.int .i64 (S : Int))).setCell ⟨W.heap.size, 1, none⟩ (.slice A3 n3 c3)).setCell ⟨W.heap.size, 2, none⟩ (.slice A4 n4 c4)).alloc (.cells #[.int .i64 (S : Int), .slice A3 n3 c3, .slice A4 n4 c4] 25)).heap[i]? = w2.heap[i]? := fun i hi hne => by
        rw [Below.heap_alloc _ _ _ (by simpa using hi), set_keep _ _ _ _ i hne, set_keep _ _ _ _ i hne, set_keep _ _ _ _ i hne]
      refine ⟨rfl, _, results_cell_row rfl _ _ W.heap.size 25 #[.int .i64 (S : Int), .slice A3 n3 c3, .slice A4 n4 c4] (0, 0) _ rfl ((Below.heap_alloc _ _ _ (by simpa using hl2)).trans s2) Tryz.underlying25 rfl (by kernel_rfl), ?_⟩
      refine post_is HQ ⟨S, A3, n3, c3, A4, n4, c4, rfl, owns_mono (owns_keep HE3.out (fun i e => ?_)) (by omega), owns_mono (owns_keep HI3.out (fun i e => ?_)) (by omega), HS3.out, ?_⟩
      · have hb := World.ownsRow.lt HE3.out i e
        exact g3 i hb.2 (by omega)
      · have hb := World.ownsRow.lt HI3.out i e
        exact g3 i hb.2 (by omega)
      · exact bl_alloc (bl_grown (bl_grown (bl_grown HB3.out (grown_set _ W.heap.size 0 _) (fun i e => by obtain rfl := Option.some.inj e; exact Nat.le_refl _)) (grown_set _ W.heap.size 1 _) (fun i e => by obtain rfl := Option.some.inj e; exact Nat.le_refl _)) (grown_set _ W.heap.size 2 _) (fun i e => by obtain rfl := Option.some.inj e; exact Nat.le_refl _)) _

end Go.Proofs.YtcgfogdfcdndgaaGreatDoor
