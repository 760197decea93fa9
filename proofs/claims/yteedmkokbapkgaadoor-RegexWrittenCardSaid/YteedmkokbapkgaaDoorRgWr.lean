/- The writer of patterns: bytes put behind what is written. Under: math/bits' table as it was laid. -/
import Derived.Test.YteedmkokbapkgaaDoorRgZ
import Derived.Lib.AppendStr
set_option linter.unusedVariables false
set_option linter.unusedSimpArgs false
namespace Go.Proofs.YteedmkokbapkgaaDoor
open Go.RowKit Go.Lib

/-- A writer at block b, that has written txt; W0: the world in which its maker began. -/
structure WAt (W0 : World) (b : Nat) (A : Option Addr) (n c : Nat) (txt : List UInt8) (w : World) : Prop where
  text : ∃ v, w.heap[b]? = some (.cells #[.slice A n c, v] 50 (0, 0)) ∧ Own w W0.heap.size v txt
  base : W0.heap.size ≤ b
  below : Below W0.heap.size W0 w
/-- All but the writer and its text stands as it did. -/
def Keeps (b : Nat) (w w' : World) : Prop := ∀ k cs t fr, w.heap[k]? = some (.cells cs t fr) → t ≠ 5 → k ≠ b → w'.heap[k]? = some (.cells cs t fr)
theorem Keeps.trans {b : Nat} {w w' w'' : World} (h : Keeps b w w') (h2 : Keeps b w' w'') : Keeps b w w'' := fun k cs t fr hk ht hb => h2 k cs t fr (h k cs t fr hk ht hb) ht hb
theorem keeps_below {b : Nat} {w w' : World} (h : Below w.heap.size w w') : Keeps b w w' := fun k cs t fr hk ht hb => (h.block k (Array.getElem?_eq_some_iff.1 hk).1).trans hk
def GotW (W0 : World) (b : Nat) (A : Option Addr) (n c : Nat) (w : World) (txt : List UInt8) (e : Ending) (w' : World) : Prop := e = .returned (.tuple #[]) ∧ WAt W0 b A n c txt w' ∧ Keeps b w w'
theorem u8_writer : (5 : TypeId) ≠ 50 := by decide
theorem Own.notW {W : World} {base : Nat} {v : Value} {l : List UInt8} (h : Own W base v l) {i : Nat} {cs : Array Value} (hi : W.heap[i]? = some (.cells cs 50 (0, 0))) : v.ownBlock ≠ some i := by
  rcases h.2 with ⟨rfl, _⟩ | ⟨g, cap, cur, rfl, _, hgb, _⟩
  · simp [Value.ownBlock]
  · intro e
    obtain rfl : g = i := by simpa [Value.ownBlock] using e
    rw [hgb] at hi
    injection hi with hi
    injection hi with _ h2 _
    exact absurd h2 u8_writer
theorem WAt.lt {W0 : World} {b : Nat} {A : Option Addr} {n c : Nat} {txt : List UInt8} {w : World} (h : WAt W0 b A n c txt w) : b < w.heap.size := by
  obtain ⟨v, h1, _⟩ := h.text
  exact (Array.getElem?_eq_some_iff.1 h1).1
theorem WAt.then {W0 : World} {b : Nat} {A : Option Addr} {n c : Nat} {txt : List UInt8} {w w' : World} (h : WAt W0 b A n c txt w) (hb : Below w.heap.size w w') : WAt W0 b A n c txt w' := by
  obtain ⟨v, h1, h2⟩ := h.text
  exact ⟨⟨v, (hb.block b (Array.getElem?_eq_some_iff.1 h1).1).trans h1, h2.below hb⟩, h.base, bl_trans h.below hb⟩
/-- The text that an append has made is stored. -/
theorem wAt_store {W0 : World} {b : Nat} {A : Option Addr} {n c : Nat} {txt txt' : List UInt8} {w w' : World} {v v' : Value} (hg : w.heap[b]? = some (.cells #[.slice A n c, v] 50 (0, 0))) (hbase : W0.heap.size ≤ b) (hbel : Below W0.heap.size W0 w) (hv : Own w W0.heap.size v txt)
    (hv' : Own w' W0.heap.size v' txt') (hgr : w.grownBy w' v.ownBlock) : WAt W0 b A n c txt' (w'.setCell ⟨b, 1, none⟩ v') ∧ Keeps b w (w'.setCell ⟨b, 1, none⟩ v') := by
  have hne := hv.notW hg
  have hlt := (Array.getElem?_eq_some_iff.1 hg).1
  have hg' : w'.heap[b]? = _ := (hgr.block b hlt (fun e => hne e.symm)).trans hg
  have hne' := hv'.notW hg'
  have hlt' := (Array.getElem?_eq_some_iff.1 hg').1
  refine ⟨⟨⟨v', heap_setCell_same w' b 1 _ _ v' hg', hv'.kept (grown_set w' b 1 v') (Or.inr hne')⟩, hbase, ?_⟩, fun k cs t fr hk ht hb => ?_⟩
  rotate_left
  · have hkl := (Array.getElem?_eq_some_iff.1 hk).1
    have hko : v.ownBlock ≠ some k := by
      rcases hv.2 with ⟨rfl, _⟩ | ⟨g, cap, cur, rfl, _, hgb, _⟩
      · simp [Value.ownBlock]
      · intro e
        obtain rfl : g = k := by simpa [Value.ownBlock] using e
        rw [hgb] at hk
        injection hk with hk
        injection hk with _ h2 _
        exact absurd h2.symm ht
    have h2 := (hgr.block k hkl (fun e => hko e.symm)).trans hk
    exact ((grown_set w' b 1 v').block k (Array.getElem?_eq_some_iff.1 h2).1 (fun e => hb (Option.some.inj e))).trans h2
  have h1 : Below W0.heap.size W0 w' := bl_grown hbel hgr (fun k e => (hv.lt k e).1)
  exact bl_grown h1 (grown_set w' b 1 v') (fun k e => by cases e; exact hbase)
theorem cells_str (s : List UInt8) : strCells ⟨s.toArray⟩ = s.map bv := by
  unfold strCells
  simp [bv]

theorem own_str {w : World} {base : Nat} {v : Value} {txt s : List UInt8} (h : w.ownsRow base 5 1 v (txt.length + (⟨s.toArray⟩ : ByteArray).size) (txt.map bv ++ strCells ⟨s.toArray⟩)) : Own w base v (txt ++ s) := by
  rw [cells_str] at h
  have hsize : (⟨s.toArray⟩ : ByteArray).size = s.length := by simp [ByteArray.size]
  rw [hsize] at h
  unfold Own
  rw [List.length_append, List.map_append]
  exact h

set_option maxRecDepth 20000 in
set_option maxHeartbeats 1000000 in
theorem put_any {W0 : World} {b : Nat} {A : Option Addr} {n c : Nat} {txt : List UInt8} {w : World} (s : List UInt8) (h : WAt W0 b A n c txt w) (hm : txt.length + s.length ≤ 1000000000) :
    Calls Tryd.prog 45 #[.pointer (some ⟨b, 0, none⟩), .string ⟨s.toArray⟩] w (GotW W0 b A n c w (txt ++ s)) := by
  obtain ⟨⟨v, hg, hv⟩, hbase, hbel⟩ := h
  generalize hQ : GotW W0 b A n c w (txt ++ s) = Q
  have HQ := Lib.hid hQ
  clear hQ
  have c1 : w.cell? ⟨b, 1, none⟩ = some v := by rw [cell_of_row w b _ _ _ _ hg]; rfl
  have hsz := hbel.size
  obtain ⟨i0, hi, hz0, hz1, hz2⟩ := info_parts info_u8
  have hsize : (⟨s.toArray⟩ : ByteArray).size = s.length := by simp [ByteArray.size]
  go_enter Tryd.func45, Tryd.ntmps45
  go_wp2_with (go_loud (at_builtin; refine wpList_append_own_string _ rfl _ _ 35 9 rfl W0.heap.size 5 i0 Tryd.underlying35 Tryd.underlying9 hi hz0 hz1 hz2 v txt.length (txt.map bv) rfl hv ⟨s.toArray⟩ rfl (by rw [hsize]; unfold maxLen; omega) (by rw [hsize]; omega) hsz ?_; intro v' w1 hown hgrow _; have ho := own_str hown; obtain ⟨A2, m2, k2, rfl, _, _, _, _⟩ := ho.form; have hg1 := (hgrow.block b (Array.getElem?_eq_some_iff.1 hg).1 (fun e => hv.notW hg e.symm)).trans hg; have f1 := frozen_of_row w1 b 1 _ _ hg1; have cc1 : w1.cell? ⟨b, 1, none⟩ = some v := (by rw [cell_of_row w1 b _ _ _ _ hg1]; rfl)))
  refine bodyPost_ret (v := .tuple #[]) (results_none Tryd.results45 _ _ _) rfl (post_is HQ ?_)
  exact ⟨rfl, wAt_store hg hbase hbel hv ho hgrow⟩

/-- append of bytes onto bytes that the call made itself, in a region that draws its order. -/
theorem step_append_bytes {ops : Array Oper} {o : Oper} {a : Act} {K : Act → World → Prop} {Q : Exit → Act → World → Prop} {E : Prop} (w : World) (hgd : o.guard = none) (s x : Operand)
    (ho : o.op = .call { callee := .builtin .append, args := #[s, x], argTypes := #[35, 35] })
    (base : Nat) (v : Value) (l : List UInt8) (hs : a.eval s = v) (hown : Own w base v l) (A : Option Addr) (m c : Nat) (l' : List UInt8) (hx : a.eval x = .slice A m c) (hm : l'.length = m) (hr : Rd w A l')
    (hbytes : l.length + l'.length ≤ 200000000000000) (hbase : base ≤ w.heap.size)
    (h : ∀ v' w', Own w' base v' (l ++ l') → w.grownBy w' v.ownBlock → (v'.ownBlock = v.ownBlock ∨ v'.ownBlock = some w.heap.size) → K (a.put o.dst v') w') :
    if Region.wanted o (yielded ops a.tmps) = true then Oper.wp Tryd.prog o a w K Q else E := by
  have hw : Region.wanted o (yielded ops a.tmps) = true := by simp [Region.wanted, hgd]
  rw [if_pos hw]
  obtain ⟨v', w', hr, h2, h3, h5⟩ := run_append_bytes w o.type base v l hown A m c l' hm hr hbytes hbase
  unfold Oper.wp execOp
  simp only [ho, resolve, invoke, builtin, Sem.run_bind, Sem.run_pure, Result.andThen_ok, List.map_toArray, List.map_cons, List.map_nil, hs, hx, hr]
  exact h v' w' h2 h3 h5
theorem Rd.lit0 (w : World) (l : List UInt8) (fr : Nat × Nat) : Rd (w.alloc (.cells (l.map bv).toArray 5 fr)) (some ⟨w.heap.size, 0, none⟩) l := fun h => by
  refine ⟨_, rfl, fun j hj => ?_⟩
  have e : (⟨w.heap.size, 0, none⟩ : Addr).add j = ⟨w.heap.size, j, none⟩ := by unfold Addr.add; split <;> simp_all
  rw [e, cell_of_row _ _ j (l.map bv).toArray 5 fr (heap_alloc_new w _)]
  simp [hj]
theorem grown_a {a c : World} {o : Obj} {row : Option Nat} (k : (a.alloc o).grownBy c row) : a.grownBy c row :=
  World.grownBy.trans (b := a.alloc o) ⟨rfl, rfl, rfl, by simp, fun i hi _ => Below.heap_alloc _ _ _ hi⟩ k
theorem grown_da {a c : World} {o : Obj} {row : Option Nat} (k : (a.drew.alloc o).grownBy c row) : a.grownBy c row :=
  World.grownBy.trans (b := a.drew.alloc o) ⟨rfl, rfl, rfl, by simp, fun i hi _ => Below.heap_alloc _ _ _ hi⟩ k
theorem letter_atk (k : IntKind) (l : List UInt8) (j : Nat) (hj : j < l.length) (z : Int) (hz : z = (j : Int)) (W : World) : (Instr.index 9 (.string ⟨l.toArray⟩) (.int k z)).run Tryd.prog W = .ok (.int .u8 ((l.getD j 0).toNat : Int)) W := by
  subst hz
  have hs : (⟨l.toArray⟩ : ByteArray).size = l.length := by simp [ByteArray.size]
  rw [run_index_string W 9 _ k j Tryd.underlying9, dif_pos ⟨by omega, by rw [hs]; omega⟩]
  have e : (⟨l.toArray⟩ : ByteArray)[(j : Int).toNat]'(by rw [hs]; simpa using hj) = l.getD j 0 := by
    rw [List.getD_eq_getElem?_getD, List.getElem?_eq_getElem hj]
    rfl
  rw [e]
theorem and15w : ∀ n : Nat, n < 256 → bits .and .u8 (n : Int) 15 = ((n % 16 : Nat) : Int) := by decide +kernel
def oneW (sg : List UInt8) (c : UInt8) : List UInt8 :=
  if plainB c sg = true then [c] else match idxB lttd c with
    | some i => [92, ltrs.getD i 0]
    | none => if signB c = true then [92, c] else [92, 120, dgts.getD (c.toNat / 16) 0, dgts.getD (c.toNat % 16) 0]

set_option maxRecDepth 20000 in
set_option maxHeartbeats 1000000 in
theorem one_w {W0 : World} {b : Nat} {A : Option Addr} {n c : Nat} {txt : List UInt8} {w : World} (sg : List UInt8) (x : UInt8) (h : WAt W0 b A n c txt w) (hm : txt.length ≤ 1000000000) :
    Calls Tryd.prog 76 #[.pointer (some ⟨b, 0, none⟩), .int .u8 (x.toNat : Int), .string ⟨sg.toArray⟩] w (GotW W0 b A n c w (txt ++ oneW sg x)) := by
  obtain ⟨⟨v, hg, hv⟩, hbase, hbel⟩ := h
  generalize hQ : GotW W0 b A n c w (txt ++ oneW sg x) = Q
  have HQ := Lib.hid hQ
  clear hQ
  have c1 : w.cell? ⟨b, 1, none⟩ = some v := by rw [cell_of_row w b _ _ _ _ hg]; rfl
  have hsz := hbel.size
  have hblt := (Array.getElem?_eq_some_iff.1 hg).1
  have hx := x.toNat_lt
  have HM := Lib.hid hm
  have HBEL := Lib.hid hbel
  have HV := Lib.hid hv
  have HG := Lib.hid hg
  clear hbel hv hg hm
  go_enter Tryd.func76, Tryd.ntmps76
  go_wp2_with fail
  refine (indexByte_any lttd x _).mono ?_
  rintro e w1 ⟨rfl, rfl⟩
  generalize hi : idxB lttd x = oi
  have HI := Lib.hid hi
  clear hi
  go_wp2_with fail
  refine (plain_any sg x _).mono ?_
  rintro e w1 ⟨rfl, rfl⟩
  cases hp : plainB x sg with
  | true =>
    have HP := Lib.hid hp
    clear hp
    go_wp2_with (at_builtin; refine wpList_append_bytes _ rfl _ _ rfl W0.heap.size v txt rfl (HV.out.alloc _) (some ⟨w.heap.size, 0, none⟩) 1 1 [x] rfl rfl (Rd.lit0 w [x] _) (by have := HM.out; simp; omega) (by simp; omega) ?_; intro v' w1 ho hg3 _; obtain ⟨A2, m2, k2, rfl, _, _, _, _⟩ := ho.form; have gW := grown_a hg3; have hg1 := (gW.block b hblt (fun e => HV.out.notW HG.out e.symm)).trans HG.out; have f1 := frozen_of_row w1 b 1 _ _ hg1; have cc1 : w1.cell? ⟨b, 1, none⟩ = some v := (by rw [cell_of_row w1 b _ _ _ _ hg1]; rfl))
    refine bodyPost_ret (v := .tuple #[]) (results_none Tryd.results76 _ _ _) rfl (post_is HQ ?_)
    rw [oneW, if_pos HP.out]
    exact ⟨rfl, wAt_store HG.out hbase HBEL.out HV.out ho gW⟩
  | false =>
    have HP := Lib.hid hp
    clear hp
    cases oi with
    | some i =>
      have hi3 : i < 3 := idx_lt _ _ _ HI.out
      have hat : ∀ W, (Instr.index 9 (.string ⟨#[110, 116, 114]⟩) (.int .i64 (i : Int))).run Tryd.prog W = .ok (.int .u8 ((ltrs.getD i 0).toNat : Int)) W := fun W => letter_at ltrs i hi3 (i : Int) rfl W
      have hge : decide ((0 : Int) ≤ (i : Int)) = true := by simp
      have hb3 : (ltrs.getD i 0).toNat < 256 := (ltrs.getD i 0).toNat_lt
      have OL := Lib.hid (show Own (w.alloc (.cells ([92, ltrs.getD i 0].map bv).toArray 5)).drew W0.heap.size v txt from Own.alloc HV.out _)
      have RL := Lib.hid (show Rd (w.alloc (.cells ([92, ltrs.getD i 0].map bv).toArray 5)).drew (some ⟨w.heap.size, 0, none⟩) [92, ltrs.getD i 0] from Rd.lit0 w [92, ltrs.getD i 0] (0, 0))
      rw [idxI]
      generalize hy : ltrs.getD i 0 = y at *
      have HY := Lib.hid hy
      clear hy
      go_wp2_with fail
      go_region_law ((refine step_append_bytes _ (by rfl) _ _ (by rfl) W0.heap.size v txt (by rfl) OL.out _ 2 2 [92, y] (by rfl) rfl RL.out (by have := HM.out; simp; omega) (by simp; omega) ?_; intro v3 w3 ho3 hg3 _; obtain ⟨A2, m2, k2, rfl, _, _, _, _⟩ := ho3.form; have gW := grown_ad hg3; have hg1 := (gW.block b hblt (fun e => HV.out.notW HG.out e.symm)).trans HG.out; have f1 := frozen_of_row w3 b 1 _ _ hg1; have cc1 : w3.cell? ⟨b, 1, none⟩ = some v := (by rw [cell_of_row w3 b _ _ _ _ hg1]; rfl)))
      all_goals
        go_wp2_with fail
        refine bodyPost_ret (v := .tuple #[]) (results_none Tryd.results76 _ _ _) rfl (post_is HQ ?_)
        rw [oneW, if_neg (by rw [HP.out]; simp), HI.out]
        simp only []
        rw [HY.out]
        exact ⟨rfl, wAt_store HG.out hbase HBEL.out HV.out ho3 gW⟩
    | none =>
      rw [idxI]
      go_wp2_with fail
      refine (sign_any x _).mono ?_
      rintro e w1 ⟨rfl, rfl⟩
      cases hs : signB x with
      | true =>
        have HS := Lib.hid hs
        clear hs
        go_wp2_with (at_builtin; refine wpList_append_bytes _ rfl _ _ rfl W0.heap.size v txt rfl (HV.out.alloc _) (some ⟨w.heap.size, 0, none⟩) 2 2 [92, x] rfl rfl (Rd.lit0 w [92, x] _) (by have := HM.out; simp; omega) (by simp; omega) ?_; intro v' w1 ho hg3 _; obtain ⟨A2, m2, k2, rfl, _, _, _, _⟩ := ho.form; have gW := grown_a hg3; have hg1 := (gW.block b hblt (fun e => HV.out.notW HG.out e.symm)).trans HG.out; have f1 := frozen_of_row w1 b 1 _ _ hg1; have cc1 : w1.cell? ⟨b, 1, none⟩ = some v := (by rw [cell_of_row w1 b _ _ _ _ hg1]; rfl))
        refine bodyPost_ret (v := .tuple #[]) (results_none Tryd.results76 _ _ _) rfl (post_is HQ ?_)
        rw [oneW, if_neg (by rw [HP.out]; simp), HI.out]
        simp only []
        rw [if_pos HS.out]
        exact ⟨rfl, wAt_store HG.out hbase HBEL.out HV.out ho gW⟩
      | false =>
        have HS := Lib.hid hs
        clear hs
        obtain ⟨q, hq⟩ : ∃ q, x.toNat / 16 = q := ⟨_, rfl⟩
        obtain ⟨r, hr⟩ : ∃ q, x.toNat % 16 = q := ⟨_, rfl⟩
        have q16 : q < 16 := by omega
        have r16 : r < 16 := by omega
        have qi : (q : Int) < 16 := by omega
        have ri : (r : Int) < 16 := by omega
        have e1 : (x.toNat : Int) / 16 = (q : Int) := by omega
        have e2 := and15w x.toNat hx
        rw [hr] at e2
        have d1 : ∀ W, (Instr.index 9 (.string ⟨#[48, 49, 50, 51, 52, 53, 54, 55, 56, 57, 97, 98, 99, 100, 101, 102]⟩) (.int .u8 (q : Int))).run Tryd.prog W = .ok (.int .u8 ((dgts.getD q 0).toNat : Int)) W := fun W => letter_atk .u8 dgts q q16 (q : Int) rfl W
        have d2 : ∀ W, (Instr.index 9 (.string ⟨#[48, 49, 50, 51, 52, 53, 54, 55, 56, 57, 97, 98, 99, 100, 101, 102]⟩) (.int .u8 (r : Int))).run Tryd.prog W = .ok (.int .u8 ((dgts.getD r 0).toNat : Int)) W := fun W => letter_atk .u8 dgts r r16 (r : Int) rfl W
        have HQ1 := Lib.hid hq
        have HR1 := Lib.hid hr
        clear hq hr
        have OL := Lib.hid (show Own (w.alloc (.cells ([92, 120, dgts.getD q 0, dgts.getD r 0].map bv).toArray 5)).drew W0.heap.size v txt from Own.alloc HV.out _)
        have RL := Lib.hid (show Rd (w.alloc (.cells ([92, 120, dgts.getD q 0, dgts.getD r 0].map bv).toArray 5)).drew (some ⟨w.heap.size, 0, none⟩) [92, 120, dgts.getD q 0, dgts.getD r 0] from Rd.lit0 w [92, 120, dgts.getD q 0, dgts.getD r 0] (0, 0))
        generalize hy : dgts.getD q 0 = y at *
        generalize hz : dgts.getD r 0 = z at *
        have HY := Lib.hid hy
        have HZ := Lib.hid hz
        clear hy hz
        go_wp2_with fail
        go_region_law ((refine step_append_bytes _ (by rfl) _ _ (by rfl) W0.heap.size v txt (by rfl) OL.out _ 4 4 [92, 120, y, z] (by rfl) rfl RL.out (by have := HM.out; simp; omega) (by simp; omega) ?_; intro v3 w3 ho3 hg3 _; obtain ⟨A2, m2, k2, rfl, _, _, _, _⟩ := ho3.form; have gW := grown_ad hg3; have hg1 := (gW.block b hblt (fun e => HV.out.notW HG.out e.symm)).trans HG.out; have f1 := frozen_of_row w3 b 1 _ _ hg1; have cc1 : w3.cell? ⟨b, 1, none⟩ = some v := (by rw [cell_of_row w3 b _ _ _ _ hg1]; rfl)))
        all_goals
          go_wp2_with fail
          refine bodyPost_ret (v := .tuple #[]) (results_none Tryd.results76 _ _ _) rfl (post_is HQ ?_)
          rw [oneW, if_neg (by rw [HP.out]; simp), HI.out]
          simp only []
          rw [if_neg (by rw [HS.out]; simp), HQ1.out, HR1.out, HY.out, HZ.out]
          exact ⟨rfl, wAt_store HG.out hbase HBEL.out HV.out ho3 gW⟩

end Go.Proofs.YteedmkokbapkgaaDoor
