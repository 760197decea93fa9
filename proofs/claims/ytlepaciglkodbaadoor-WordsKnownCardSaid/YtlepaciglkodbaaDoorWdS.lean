/- Words of the grammar language: the document's word at a place. No condition. -/
import Derived.Test.YtlepaciglkodbaaDoorWdR
set_option linter.unusedVariables false
set_option linter.unusedSimpArgs false
namespace Go.Proofs.YtlepaciglkodbaaDoor
open Go.RowKit

def wordE (b : List UInt8) (p : Nat) : Tk := match firstE (b.drop p) with
  | some (k, m) => ⟨k, p, p + m⟩
  | none => ⟨0, 0, 0⟩
def GotK (w : World) (t : Tk) (e : Ending) (w' : World) : Prop := e = .returned (.agg (cellsK t).toArray) ∧ Below w.heap.size w w'
theorem size_tk : (Tryd.prog.info? 36).map (·.size) = some 3 := by kernel_rfl
theorem built_none : Tryd.prog.built 36 [] = some #[.int .i64 0, .int .i64 0, .int .i64 0] := by kernel_rfl
/-- The two blocks that 'word' begins with: its answer's, and that of no word. -/
theorem two_blocks (w : World) (cs cs2 : Array Value) : ((w.alloc (.cells cs 36)).alloc (.cells cs2 36)).heap[w.heap.size]? = some (.cells cs 36 (0, 0)) ∧
    ((w.alloc (.cells cs 36)).alloc (.cells cs2 36)).heap[w.heap.size + 1]? = some (.cells cs2 36 (0, 0)) ∧
    Below w.heap.size w ((w.alloc (.cells cs 36)).alloc (.cells cs2 36)) := by
  refine ⟨?_, ?_, bl_alloc (bl_alloc (Below.refl _ _) _) _⟩
  · rw [Below.heap_alloc _ _ _ (by simp)]
    exact heap_alloc_new w _
  · have := heap_alloc_new (w.alloc (.cells cs 36)) (.cells cs2 36)
    rwa [World.size_alloc] at this


set_option maxRecDepth 20000 in
theorem word_sign (A : Option Addr) (n c p : Nat) (b : List UInt8) (w : World) (hl : b.length = n) (hr : Rd w A b) (hn : n ≤ 8192) (hp : p < n) (hs : sgB (b.getD p 0).toNat = true) : Calls Tryd.prog 32 #[.slice A n c, .int .i64 (p : Int)] w (GotK w ⟨4, p, p + 1⟩) := by
  generalize hQ : GotK w ⟨4, p, p + 1⟩ = Q
  have HQ := Lib.hid hQ
  have hbn := built_none
  have hbt := built_tk 4 (p : Int) ((p : Int) + 1)
  obtain ⟨ad, hA, hc⟩ := hr.getD (k := p) (by omega)
  subst hA
  obtain ⟨z0, z1, zb⟩ := two_blocks w #[.int .i64 0, .int .i64 0, .int .i64 0] #[.int .i64 0, .int .i64 0, .int .i64 0]
  have hcz := (zb.cell (World.block_lt_of_cell? w _ hc)).trans hc
  have k00 := cell_of_row _ w.heap.size 0 _ _ _ z0
  have k01 := cell_of_row _ w.heap.size 1 _ _ _ z0
  have k02 := cell_of_row _ w.heap.size 2 _ _ _ z0
  have f00 := frozen_of_row _ w.heap.size 0 _ _ z0
  have f01 := frozen_of_row _ w.heap.size 1 _ _ z0
  have f02 := frozen_of_row _ w.heap.size 2 _ _ z0
  have k10 := cell_of_row _ (w.heap.size + 1) 0 _ _ _ z1
  have k11 := cell_of_row _ (w.heap.size + 1) 1 _ _ _ z1
  have k12 := cell_of_row _ (w.heap.size + 1) 2 _ _ _ z1
  have Z0 := Lib.hid z0
  have Z1 := Lib.hid z1
  have ZB := Lib.hid zb
  unfold sgB at hs
  clear hQ hr hl z0 z1 zb hc
  generalize (b.getD p 0).toNat = x at *
  obtain ⟨c1, h1⟩ : ∃ y, (x == 61) = y := ⟨_, rfl⟩
  obtain ⟨c2, h2⟩ : ∃ y, (x == 59) = y := ⟨_, rfl⟩
  obtain ⟨c3, h3⟩ : ∃ y, (x == 58) = y := ⟨_, rfl⟩
  obtain ⟨c4, h4⟩ : ∃ y, (x == 124) = y := ⟨_, rfl⟩
  have e1 := eqb x 61 61 rfl _ h1
  have e2 := eqb x 59 59 rfl _ h2
  have e3 := eqb x 58 58 rfl _ h3
  have e4 := eqb x 124 124 rfl _ h4
  rw [h1, h2, h3, h4] at hs
  clear h1 h2 h3 h4
  cases c1
  case true =>
    go_enter Tryd.func32, Tryd.ntmps32
    go_wp2_with fail
    obtain ⟨y0, y1, yb⟩ := two_blocks w #[.int .i64 4, .int .i64 (p : Int), .int .i64 ((p : Int) + 1)] #[.int .i64 0, .int .i64 0, .int .i64 0]
    refine bodyPost_ret (v := .agg #[.int .i64 4, .int .i64 (p : Int), .int .i64 ((p : Int) + 1)]) (results_cell_row rfl _ _ w.heap.size 36 _ (0, 0) _ rfl y0 Tryd.underlying36 rfl (by rw [size_tk]; rfl)) rfl (post_is HQ ?_)
    exact ⟨rfl, yb⟩
  case false =>
  cases c2
  case true =>
    go_enter Tryd.func32, Tryd.ntmps32
    go_wp2_with fail
    obtain ⟨y0, y1, yb⟩ := two_blocks w #[.int .i64 4, .int .i64 (p : Int), .int .i64 ((p : Int) + 1)] #[.int .i64 0, .int .i64 0, .int .i64 0]
    refine bodyPost_ret (v := .agg #[.int .i64 4, .int .i64 (p : Int), .int .i64 ((p : Int) + 1)]) (results_cell_row rfl _ _ w.heap.size 36 _ (0, 0) _ rfl y0 Tryd.underlying36 rfl (by rw [size_tk]; rfl)) rfl (post_is HQ ?_)
    exact ⟨rfl, yb⟩
  case false =>
  cases c3
  case true =>
    go_enter Tryd.func32, Tryd.ntmps32
    go_wp2_with fail
    obtain ⟨y0, y1, yb⟩ := two_blocks w #[.int .i64 4, .int .i64 (p : Int), .int .i64 ((p : Int) + 1)] #[.int .i64 0, .int .i64 0, .int .i64 0]
    refine bodyPost_ret (v := .agg #[.int .i64 4, .int .i64 (p : Int), .int .i64 ((p : Int) + 1)]) (results_cell_row rfl _ _ w.heap.size 36 _ (0, 0) _ rfl y0 Tryd.underlying36 rfl (by rw [size_tk]; rfl)) rfl (post_is HQ ?_)
    exact ⟨rfl, yb⟩
  case false =>
  cases c4
  case true =>
    go_enter Tryd.func32, Tryd.ntmps32
    go_wp2_with fail
    obtain ⟨y0, y1, yb⟩ := two_blocks w #[.int .i64 4, .int .i64 (p : Int), .int .i64 ((p : Int) + 1)] #[.int .i64 0, .int .i64 0, .int .i64 0]
    refine bodyPost_ret (v := .agg #[.int .i64 4, .int .i64 (p : Int), .int .i64 ((p : Int) + 1)]) (results_cell_row rfl _ _ w.heap.size 36 _ (0, 0) _ rfl y0 Tryd.underlying36 rfl (by rw [size_tk]; rfl)) rfl (post_is HQ ?_)
    exact ⟨rfl, yb⟩
  case false =>
  simp at hs


theorem three_set (w0 : World) (W : World) (g : Nat) (t : TypeId) (a b c x y z : Value) (hg : W.heap[g]? = some (.cells #[a, b, c] t (0, 0))) (h0 : w0.heap.size ≤ g) (hb : Below w0.heap.size w0 W) :
    (((W.setCell ⟨g, 0, none⟩ x).setCell ⟨g, 1, none⟩ y).setCell ⟨g, 2, none⟩ z).heap[g]? = some (.cells #[x, y, z] t (0, 0)) ∧ Below w0.heap.size w0 (((W.setCell ⟨g, 0, none⟩ x).setCell ⟨g, 1, none⟩ y).setCell ⟨g, 2, none⟩ z) := by
  have h1 := heap_setCell_same W g 0 _ _ x hg
  have h2 := heap_setCell_same _ g 1 _ _ y h1
  have h3 := heap_setCell_same _ g 2 _ _ z h2
  refine ⟨h3, ?_⟩
  have gs : ∀ (W : World) (o : Nat) (v : Value), W.grownBy (W.setCell ⟨g, o, none⟩ v) (some g) := fun W o v => ⟨rfl, rfl, rfl, by simp, fun k _ hk => Below.heap_setCell _ _ _ _ (fun e => hk (by rw [e]))⟩
  have hk : ∀ k, some g = some k → w0.heap.size ≤ k := fun k e => by cases e; exact h0
  exact bl_grown (bl_grown (bl_grown hb (gs _ 0 x) hk) (gs _ 1 y) hk) (gs _ 2 z) hk


/-- The document's answer where a path might begin. -/
def pathK (b : List UInt8) (p : Nat) : Tk := if 0 < runN ptB (b.drop (p + 1)) ∧ runN ptB (b.drop (p + 1)) ≤ 32 ∧ ((b.drop (p + 1)).drop (runN ptB (b.drop (p + 1)))).head? = some 34 then ⟨2, p, p + (runN ptB (b.drop (p + 1)) + 2)⟩ else ⟨0, 0, 0⟩
set_option maxRecDepth 20000 in
theorem word_path (A : Option Addr) (n c p : Nat) (b : List UInt8) (w : World) (hl : b.length = n) (hr : Rd w A b) (hn : n ≤ 8192) (hnc : n ≤ c) (hp : p < n) (hq : b.getD p 0 = 34) : Calls Tryd.prog 32 #[.slice A n c, .int .i64 (p : Int)] w (GotK w (pathK b p)) := by
  have hpi := path_is (b.drop (p + 1))
  generalize hQ : GotK w (pathK b p) = Q
  unfold pathK at hQ
  have hbn := built_none
  have hbt := fun z => built_tk 2 (p : Int) z
  have hed := fun W (hb : Below w.heap.size w W) => endQ_any A n c p b W hl (hr.below hb) hn hp hq
  obtain ⟨ad, hA, hc⟩ := hr.getD (k := p) (by omega)
  rw [hq, show ((34 : UInt8).toNat : Int) = 34 from rfl] at hc
  have HR := Lib.hid hr
  have HL := Lib.hid hl
  subst hA
  obtain ⟨z0, z1, zb⟩ := two_blocks w #[.int .i64 0, .int .i64 0, .int .i64 0] #[.int .i64 0, .int .i64 0, .int .i64 0]
  have hcz := (zb.cell (World.block_lt_of_cell? w _ hc)).trans hc
  have k00 := cell_of_row _ w.heap.size 0 _ _ _ z0
  have k01 := cell_of_row _ w.heap.size 1 _ _ _ z0
  have k02 := cell_of_row _ w.heap.size 2 _ _ _ z0
  have f00 := frozen_of_row _ w.heap.size 0 _ _ z0
  have f01 := frozen_of_row _ w.heap.size 1 _ _ z0
  have f02 := frozen_of_row _ w.heap.size 2 _ _ z0
  have k10 := cell_of_row _ (w.heap.size + 1) 0 _ _ _ z1
  have k11 := cell_of_row _ (w.heap.size + 1) 1 _ _ _ z1
  have k12 := cell_of_row _ (w.heap.size + 1) 2 _ _ _ z1
  have Z0 := Lib.hid z0
  have Z1 := Lib.hid z1
  have ZB := Lib.hid zb
  have he := hed _ zb
  clear hed hr hl z0 z1 zb hc hq
  unfold endQE at he
  rw [← List.drop_drop] at he
  obtain ⟨N, hN⟩ : ∃ N, runN stopP (b.drop (p + 1)) = N := ⟨_, rfl⟩
  rw [hN] at he hpi
  by_cases hh : ((b.drop (p + 1)).drop N).head? = some 34
  · rw [if_pos hh] at he
    have hNl := run_le stopP (b.drop (p + 1))
    rw [hN, List.length_drop, HL.out] at hNl
    have hlt := head_drop hh
    rw [List.length_drop, HL.out] at hlt
    obtain ⟨A', hcm, hrd, hle⟩ := cut_mid (some ad) n c (p + 1) N b _ HL.out (HR.out.below ZB.out) (by omega) hnc ((p : Int) + 1) (((p + 1 + N + 1 : Nat) : Int) - 1) (by simp) (by omega)
    have hdt : (b.take (p + 1 + N)).drop (p + 1) = (b.drop (p + 1)).take N := by rw [List.drop_take]; congr 1; omega
    rw [hdt] at hrd hle
    obtain ⟨M, hM⟩ : ∃ M, p + 1 + N + 1 = M := ⟨_, rfl⟩
    rw [hM] at he hcm
    have hM1 : decide ((M : Int) < 0) = false := by simp
    have hst := fun W hb => string_of W A' N (c - (p + 1)) _ hle.out (hrd.below hb)
    have hip := fun W => risPath_any ((b.drop (p + 1)).take N) W (by rw [hle.out]; omega)
    have HST := Lib.hid hst
    have HZ2 := Lib.hid hM
    have hMb : M ≤ 8193 := by omega
    cases hpp : isPathE ((b.drop (p + 1)).take N) with
    | true =>
      have hyes := hpi.1.1 ⟨hh, hpp⟩
      have hNe := hpi.2 hyes
      rw [hpp] at hip
      rw [if_pos hyes, ← hNe, show p + (N + 2) = M by omega] at hQ
      have HQ := Lib.hid hQ
      clear hQ hpi hyes hNe hh hpp hN hrd hle hdt hst hM
      generalize (b.drop (p + 1)).take N = pt at *
      go_enter Tryd.func32, Tryd.ntmps32
      go_wp2_with fail
      refine he.mono ?_
      rintro e w1 ⟨rfl, hb1⟩
      have hs1 := HST.out _ hb1

      have Z01 := (hb1.block _ (by simp; omega)).trans Z0.out
      have Z11 := (hb1.block _ (by simp)).trans Z1.out
      have k00 := cell_of_row _ w.heap.size 0 _ _ _ Z01
      have k01 := cell_of_row _ w.heap.size 1 _ _ _ Z01
      have k02 := cell_of_row _ w.heap.size 2 _ _ _ Z01
      have f00 := frozen_of_row _ w.heap.size 0 _ _ Z01
      have f01 := frozen_of_row _ w.heap.size 1 _ _ Z01
      have f02 := frozen_of_row _ w.heap.size 2 _ _ Z01
      have k10 := cell_of_row _ (w.heap.size + 1) 0 _ _ _ Z11
      have k11 := cell_of_row _ (w.heap.size + 1) 1 _ _ _ Z11
      have k12 := cell_of_row _ (w.heap.size + 1) 2 _ _ _ Z11
      have T3 := fun x y z => three_set w _ w.heap.size _ _ _ _ x y z Z01 (Nat.le_refl _) (ZB.out.trans (hb1.mono (by simp; omega)))
      have HT3 := Lib.hid T3
      clear Z01 Z11 T3
      go_wp2_with fail
      refine (hip _).mono ?_
      rintro e w2 ⟨rfl, rfl⟩
      go_wp2_with fail
      obtain ⟨y0, yb⟩ := HT3.out (.int .i64 2) (.int .i64 (p : Int)) (.int .i64 (M : Int))
      refine bodyPost_ret (v := .agg #[.int .i64 2, .int .i64 (p : Int), .int .i64 (M : Int)]) (results_cell_row rfl _ _ w.heap.size 36 _ (0, 0) _ rfl y0 Tryd.underlying36 rfl (by rw [size_tk]; rfl)) rfl (post_is HQ ?_)
      exact ⟨rfl, yb⟩
    | false =>
      have hno : ¬ (0 < runN ptB (b.drop (p + 1)) ∧ runN ptB (b.drop (p + 1)) ≤ 32 ∧ ((b.drop (p + 1)).drop (runN ptB (b.drop (p + 1)))).head? = some 34) := fun h => by
        have := (hpi.1.2 h).2
        rw [hpp] at this
        cases this
      rw [hpp] at hip
      rw [if_neg hno] at hQ
      have HQ := Lib.hid hQ
      clear hQ hpi hno hh hpp hN hrd hle hdt hst hM
      generalize (b.drop (p + 1)).take N = pt at *
      go_enter Tryd.func32, Tryd.ntmps32
      go_wp2_with fail
      refine he.mono ?_
      rintro e w1 ⟨rfl, hb1⟩
      have hs1 := HST.out _ hb1

      have Z01 := (hb1.block _ (by simp; omega)).trans Z0.out
      have Z11 := (hb1.block _ (by simp)).trans Z1.out
      have k00 := cell_of_row _ w.heap.size 0 _ _ _ Z01
      have k01 := cell_of_row _ w.heap.size 1 _ _ _ Z01
      have k02 := cell_of_row _ w.heap.size 2 _ _ _ Z01
      have f00 := frozen_of_row _ w.heap.size 0 _ _ Z01
      have f01 := frozen_of_row _ w.heap.size 1 _ _ Z01
      have f02 := frozen_of_row _ w.heap.size 2 _ _ Z01
      have k10 := cell_of_row _ (w.heap.size + 1) 0 _ _ _ Z11
      have k11 := cell_of_row _ (w.heap.size + 1) 1 _ _ _ Z11
      have k12 := cell_of_row _ (w.heap.size + 1) 2 _ _ _ Z11
      have T3 := fun x y z => three_set w _ w.heap.size _ _ _ _ x y z Z01 (Nat.le_refl _) (ZB.out.trans (hb1.mono (by simp; omega)))
      have HT3 := Lib.hid T3
      clear Z01 Z11 T3
      go_wp2_with fail
      refine (hip _).mono ?_
      rintro e w2 ⟨rfl, rfl⟩
      go_wp2_with fail
      obtain ⟨y0, yb⟩ := HT3.out (.int .i64 0) (.int .i64 0) (.int .i64 0)
      refine bodyPost_ret (v := .agg #[.int .i64 0, .int .i64 0, .int .i64 0]) (results_cell_row rfl _ _ w.heap.size 36 _ (0, 0) _ rfl y0 Tryd.underlying36 rfl (by rw [size_tk]; rfl)) rfl (post_is HQ ?_)
      exact ⟨rfl, yb⟩
  · rw [if_neg hh] at he
    have hno : ¬ (0 < runN ptB (b.drop (p + 1)) ∧ runN ptB (b.drop (p + 1)) ≤ 32 ∧ ((b.drop (p + 1)).drop (runN ptB (b.drop (p + 1)))).head? = some 34) := fun h => hh (hpi.1.2 h).1
    rw [if_neg hno] at hQ
    have HQ := Lib.hid hQ
    clear hQ hpi hno hh hN
    go_enter Tryd.func32, Tryd.ntmps32
    go_wp2_with fail
    refine he.mono ?_
    rintro e w1 ⟨rfl, hb1⟩

    have Z01 := (hb1.block _ (by simp; omega)).trans Z0.out
    have Z11 := (hb1.block _ (by simp)).trans Z1.out
    have k00 := cell_of_row _ w.heap.size 0 _ _ _ Z01
    have k01 := cell_of_row _ w.heap.size 1 _ _ _ Z01
    have k02 := cell_of_row _ w.heap.size 2 _ _ _ Z01
    have f00 := frozen_of_row _ w.heap.size 0 _ _ Z01
    have f01 := frozen_of_row _ w.heap.size 1 _ _ Z01
    have f02 := frozen_of_row _ w.heap.size 2 _ _ Z01
    have k10 := cell_of_row _ (w.heap.size + 1) 0 _ _ _ Z11
    have k11 := cell_of_row _ (w.heap.size + 1) 1 _ _ _ Z11
    have k12 := cell_of_row _ (w.heap.size + 1) 2 _ _ _ Z11
    have T3 := fun x y z => three_set w _ w.heap.size _ _ _ _ x y z Z01 (Nat.le_refl _) (ZB.out.trans (hb1.mono (by simp; omega)))
    have HT3 := Lib.hid T3
    clear Z01 Z11 T3
    go_wp2_with fail
    obtain ⟨y0, yb⟩ := HT3.out (.int .i64 0) (.int .i64 0) (.int .i64 0)
    refine bodyPost_ret (v := .agg #[.int .i64 0, .int .i64 0, .int .i64 0]) (results_cell_row rfl _ _ w.heap.size 36 _ (0, 0) _ rfl y0 Tryd.underlying36 rfl (by rw [size_tk]; rfl)) rfl (post_is HQ ?_)
    exact ⟨rfl, yb⟩

/-- The document's answer where a pattern might begin. -/
def patK (b : List UInt8) (p : Nat) : Tk := if ((b.drop (p + 1)).drop (patN (b.drop (p + 1)))).head? = some 47 then ⟨3, p, p + (patN (b.drop (p + 1)) + 2)⟩ else ⟨0, 0, 0⟩
set_option maxRecDepth 20000 in
theorem word_pat (A : Option Addr) (n c p : Nat) (b : List UInt8) (w : World) (hl : b.length = n) (hr : Rd w A b) (hn : n ≤ 8192) (hp : p < n) (hq : b.getD p 0 = 47) : Calls Tryd.prog 32 #[.slice A n c, .int .i64 (p : Int)] w (GotK w (patK b p)) := by
  generalize hQ : GotK w (patK b p) = Q
  unfold patK at hQ
  have hbn := built_none
  have hbt := fun z => built_tk 3 (p : Int) z
  have hed := fun W (hb : Below w.heap.size w W) => endP_any A n c p b W hl (hr.below hb) hn hp hq
  obtain ⟨ad, hA, hc⟩ := hr.getD (k := p) (by omega)
  rw [hq, show ((47 : UInt8).toNat : Int) = 47 from rfl] at hc
  have HR := Lib.hid hr
  have HL := Lib.hid hl
  subst hA
  obtain ⟨z0, z1, zb⟩ := two_blocks w #[.int .i64 0, .int .i64 0, .int .i64 0] #[.int .i64 0, .int .i64 0, .int .i64 0]
  have hcz := (zb.cell (World.block_lt_of_cell? w _ hc)).trans hc
  have k00 := cell_of_row _ w.heap.size 0 _ _ _ z0
  have k01 := cell_of_row _ w.heap.size 1 _ _ _ z0
  have k02 := cell_of_row _ w.heap.size 2 _ _ _ z0
  have f00 := frozen_of_row _ w.heap.size 0 _ _ z0
  have f01 := frozen_of_row _ w.heap.size 1 _ _ z0
  have f02 := frozen_of_row _ w.heap.size 2 _ _ z0
  have k10 := cell_of_row _ (w.heap.size + 1) 0 _ _ _ z1
  have k11 := cell_of_row _ (w.heap.size + 1) 1 _ _ _ z1
  have k12 := cell_of_row _ (w.heap.size + 1) 2 _ _ _ z1
  have Z0 := Lib.hid z0
  have Z1 := Lib.hid z1
  have ZB := Lib.hid zb
  have he := hed _ zb
  clear hed hr hl z0 z1 zb hc hq
  unfold endPE at he
  rw [← List.drop_drop] at he
  generalize patN (b.drop (p + 1)) = N at *
  by_cases hh : ((b.drop (p + 1)).drop N).head? = some 47
  · rw [if_pos hh] at he hQ
    obtain ⟨M, hM⟩ : ∃ M, p + 1 + N + 1 = M := ⟨_, rfl⟩
    rw [hM] at he
    rw [show p + (N + 2) = M by omega] at hQ
    have hM1 : decide ((M : Int) < 0) = false := by simp
    have HQ := Lib.hid hQ
    clear hQ hh hM
    go_enter Tryd.func32, Tryd.ntmps32
    go_wp2_with fail
    refine he.mono ?_
    rintro e w1 ⟨rfl, hb1⟩

    have Z01 := (hb1.block _ (by simp; omega)).trans Z0.out
    have Z11 := (hb1.block _ (by simp)).trans Z1.out
    have k00 := cell_of_row _ w.heap.size 0 _ _ _ Z01
    have k01 := cell_of_row _ w.heap.size 1 _ _ _ Z01
    have k02 := cell_of_row _ w.heap.size 2 _ _ _ Z01
    have f00 := frozen_of_row _ w.heap.size 0 _ _ Z01
    have f01 := frozen_of_row _ w.heap.size 1 _ _ Z01
    have f02 := frozen_of_row _ w.heap.size 2 _ _ Z01
    have k10 := cell_of_row _ (w.heap.size + 1) 0 _ _ _ Z11
    have k11 := cell_of_row _ (w.heap.size + 1) 1 _ _ _ Z11
    have k12 := cell_of_row _ (w.heap.size + 1) 2 _ _ _ Z11
    have T3 := fun x y z => three_set w _ w.heap.size _ _ _ _ x y z Z01 (Nat.le_refl _) (ZB.out.trans (hb1.mono (by simp; omega)))
    have HT3 := Lib.hid T3
    clear Z01 Z11 T3
    go_wp2_with fail
    obtain ⟨y0, yb⟩ := HT3.out (.int .i64 3) (.int .i64 (p : Int)) (.int .i64 (M : Int))
    refine bodyPost_ret (v := .agg #[.int .i64 3, .int .i64 (p : Int), .int .i64 (M : Int)]) (results_cell_row rfl _ _ w.heap.size 36 _ (0, 0) _ rfl y0 Tryd.underlying36 rfl (by rw [size_tk]; rfl)) rfl (post_is HQ ?_)
    exact ⟨rfl, yb⟩
  · rw [if_neg hh] at he hQ
    have HQ := Lib.hid hQ
    clear hQ hh
    go_enter Tryd.func32, Tryd.ntmps32
    go_wp2_with fail
    refine he.mono ?_
    rintro e w1 ⟨rfl, hb1⟩

    have Z01 := (hb1.block _ (by simp; omega)).trans Z0.out
    have Z11 := (hb1.block _ (by simp)).trans Z1.out
    have k00 := cell_of_row _ w.heap.size 0 _ _ _ Z01
    have k01 := cell_of_row _ w.heap.size 1 _ _ _ Z01
    have k02 := cell_of_row _ w.heap.size 2 _ _ _ Z01
    have f00 := frozen_of_row _ w.heap.size 0 _ _ Z01
    have f01 := frozen_of_row _ w.heap.size 1 _ _ Z01
    have f02 := frozen_of_row _ w.heap.size 2 _ _ Z01
    have k10 := cell_of_row _ (w.heap.size + 1) 0 _ _ _ Z11
    have k11 := cell_of_row _ (w.heap.size + 1) 1 _ _ _ Z11
    have k12 := cell_of_row _ (w.heap.size + 1) 2 _ _ _ Z11
    have T3 := fun x y z => three_set w _ w.heap.size _ _ _ _ x y z Z01 (Nat.le_refl _) (ZB.out.trans (hb1.mono (by simp; omega)))
    have HT3 := Lib.hid T3
    clear Z01 Z11 T3
    go_wp2_with fail
    obtain ⟨y0, yb⟩ := HT3.out (.int .i64 0) (.int .i64 0) (.int .i64 0)
    refine bodyPost_ret (v := .agg #[.int .i64 0, .int .i64 0, .int .i64 0]) (results_cell_row rfl _ _ w.heap.size 36 _ (0, 0) _ rfl y0 Tryd.underlying36 rfl (by rw [size_tk]; rfl)) rfl (post_is HQ ?_)
    exact ⟨rfl, yb⟩

/-- What the first byte must be for no word, or for letters. -/
structure Oth (x : Nat) : Prop where
  s : sgB x = false
  q : ((x : Int) == 34) = false
  p : ((x : Int) == 47) = false
set_option maxRecDepth 20000 in
theorem word_none (A : Option Addr) (n c p : Nat) (b : List UInt8) (w : World) (hl : b.length = n) (hr : Rd w A b) (hn : n ≤ 8192) (hp : p < n) (ho : Oth (b.getD p 0).toNat) (hx : letN (b.drop p) = 0) : Calls Tryd.prog 32 #[.slice A n c, .int .i64 (p : Int)] w (GotK w ⟨0, 0, 0⟩) := by
  generalize hQ : GotK w ⟨0, 0, 0⟩ = Q
  have HQ := Lib.hid hQ
  have hbn := built_none
  obtain ⟨ad, hA, hc⟩ := hr.getD (k := p) (by omega)
  have hd := drop_at b p (by omega)
  rw [hd, letN] at hx
  subst hA
  obtain ⟨z0, z1, zb⟩ := two_blocks w #[.int .i64 0, .int .i64 0, .int .i64 0] #[.int .i64 0, .int .i64 0, .int .i64 0]
  have hcz := (zb.cell (World.block_lt_of_cell? w _ hc)).trans hc
  have k00 := cell_of_row _ w.heap.size 0 _ _ _ z0
  have k01 := cell_of_row _ w.heap.size 1 _ _ _ z0
  have k02 := cell_of_row _ w.heap.size 2 _ _ _ z0
  have f00 := frozen_of_row _ w.heap.size 0 _ _ z0
  have f01 := frozen_of_row _ w.heap.size 1 _ _ z0
  have f02 := frozen_of_row _ w.heap.size 2 _ _ z0
  have k10 := cell_of_row _ (w.heap.size + 1) 0 _ _ _ z1
  have k11 := cell_of_row _ (w.heap.size + 1) 1 _ _ _ z1
  have k12 := cell_of_row _ (w.heap.size + 1) 2 _ _ _ z1
  have Z0 := Lib.hid z0
  have Z1 := Lib.hid z1
  have ZB := Lib.hid zb
  have HL0 := Lib.hid hl
  clear hQ hr hl z0 z1 zb hc hd
  have hlt := rletter_any (b.getD p 0).toNat
  have hdg := rdigit_any (b.getD p 0).toNat
  have hx2 : dgB (b.getD p 0).toNat = true ∨ ltB (b.getD p 0).toNat = false := by
    split at hx
    · left; assumption
    · right
      rw [runN] at hx
      split at hx
      · omega
      · rename_i h; simpa using h
  clear hx
  generalize (b.getD p 0).toNat = x at *
  have hs := ho.s
  have e5 := ho.q
  have e6 := ho.p
  have e1 : ((x : Int) == 61) = false := eqb _ 61 61 rfl _ (by revert hs; unfold sgB; cases h : (x == 61) <;> simp)
  have e2 : ((x : Int) == 59) = false := eqb _ 59 59 rfl _ (by revert hs; unfold sgB; cases h : (x == 59) <;> simp)
  have e3 : ((x : Int) == 58) = false := eqb _ 58 58 rfl _ (by revert hs; unfold sgB; cases h : (x == 58) <;> simp)
  have e4 : ((x : Int) == 124) = false := eqb _ 124 124 rfl _ (by revert hs; unfold sgB; cases h : (x == 124) <;> simp)

  clear hs ho
  obtain ⟨c1, h1⟩ : ∃ y, ltB x = y := ⟨_, rfl⟩
  rw [h1] at hlt hx2
  clear h1
  cases c1
  case false =>
    go_enter Tryd.func32, Tryd.ntmps32
    go_wp2_with fail
    refine (hlt _).mono ?_
    rintro e w1 ⟨rfl, rfl⟩
    go_wp2_with fail
    obtain ⟨y0, y1, yb⟩ := two_blocks w #[.int .i64 0, .int .i64 0, .int .i64 0] #[.int .i64 0, .int .i64 0, .int .i64 0]
    refine bodyPost_ret (v := .agg #[.int .i64 0, .int .i64 0, .int .i64 0]) (results_cell_row rfl _ _ w.heap.size 36 _ (0, 0) _ rfl y0 Tryd.underlying36 rfl (by rw [size_tk]; rfl)) rfl (post_is HQ ?_)
    exact ⟨rfl, yb⟩
  case true =>
    have h2 : dgB x = true := by simpa using hx2
    rw [h2] at hdg
    clear h2 hx2
    go_enter Tryd.func32, Tryd.ntmps32
    go_wp2_with fail
    refine (hlt _).mono ?_
    rintro e w1 ⟨rfl, rfl⟩
    go_wp2_with fail
    refine (hdg _).mono ?_
    rintro e w1 ⟨rfl, rfl⟩
    go_wp2_with fail
    obtain ⟨y0, y1, yb⟩ := two_blocks w #[.int .i64 0, .int .i64 0, .int .i64 0] #[.int .i64 0, .int .i64 0, .int .i64 0]
    refine bodyPost_ret (v := .agg #[.int .i64 0, .int .i64 0, .int .i64 0]) (results_cell_row rfl _ _ w.heap.size 36 _ (0, 0) _ rfl y0 Tryd.underlying36 rfl (by rw [size_tk]; rfl)) rfl (post_is HQ ?_)
    exact ⟨rfl, yb⟩

/-- The document's answer where letters begin. -/
def letK (b : List UInt8) (p : Nat) : Tk := if rkindE ((b.drop p).take (letN (b.drop p))) = 0 then ⟨0, 0, 0⟩ else ⟨rkindE ((b.drop p).take (letN (b.drop p))), p, p + letN (b.drop p)⟩
set_option maxRecDepth 20000 in
theorem word_let (A : Option Addr) (n c p : Nat) (b : List UInt8) (w : World) (hl : b.length = n) (hr : Rd w A b) (hn : n ≤ 8192) (hnc : n ≤ c) (hp : p < n) (ho : Oth (b.getD p 0).toNat) (hx : letN (b.drop p) ≠ 0) : Calls Tryd.prog 32 #[.slice A n c, .int .i64 (p : Int)] w (GotK w (letK b p)) := by
  generalize hQ : GotK w (letK b p) = Q
  unfold letK at hQ
  have hbn := built_none
  have hbt := fun k z => built_tk k (p : Int) z
  obtain ⟨ad, hA, hc⟩ := hr.getD (k := p) (by omega)
  have hd := drop_at b p (by omega)
  have hx2 : dgB (b.getD p 0).toNat = false ∧ ltB (b.getD p 0).toNat = true ∧ letN (b.drop p) = runN ltB (b.drop p) := by
    rw [hd] at hx ⊢
    rw [letN] at hx ⊢
    split at hx
    · omega
    · rename_i h
      rw [runN] at hx
      split at hx
      · rename_i h2
        exact ⟨by simpa using h, h2, by rw [if_neg h]⟩
      · omega
  have hlm := let_le (b.drop p)
  have HR := Lib.hid hr
  have HL := Lib.hid hl
  rw [List.length_drop, hl] at hlm
  subst hA
  obtain ⟨z0, z1, zb⟩ := two_blocks w #[.int .i64 0, .int .i64 0, .int .i64 0] #[.int .i64 0, .int .i64 0, .int .i64 0]
  have hcz := (zb.cell (World.block_lt_of_cell? w _ hc)).trans hc
  have k00 := cell_of_row _ w.heap.size 0 _ _ _ z0
  have k01 := cell_of_row _ w.heap.size 1 _ _ _ z0
  have k02 := cell_of_row _ w.heap.size 2 _ _ _ z0
  have f00 := frozen_of_row _ w.heap.size 0 _ _ z0
  have f01 := frozen_of_row _ w.heap.size 1 _ _ z0
  have f02 := frozen_of_row _ w.heap.size 2 _ _ z0
  have k10 := cell_of_row _ (w.heap.size + 1) 0 _ _ _ z1
  have k11 := cell_of_row _ (w.heap.size + 1) 1 _ _ _ z1
  have k12 := cell_of_row _ (w.heap.size + 1) 2 _ _ _ z1
  have Z0 := Lib.hid z0
  have Z1 := Lib.hid z1
  have ZB := Lib.hid zb
  clear hr hl z0 z1 zb hd hx
  have hlt := rletter_any (b.getD p 0).toNat
  have hdg := rdigit_any (b.getD p 0).toNat
  obtain ⟨hx3, hx4, hx5⟩ := hx2
  rw [hx3] at hdg
  rw [hx4] at hlt
  have HC := Lib.hid hc
  clear hc hx3 hx4
  generalize (b.getD p 0).toNat = x at *
  have hs := ho.s
  have e5 := ho.q
  have e6 := ho.p
  have e1 : ((x : Int) == 61) = false := eqb _ 61 61 rfl _ (by revert hs; unfold sgB; cases h : (x == 61) <;> simp)
  have e2 : ((x : Int) == 59) = false := eqb _ 59 59 rfl _ (by revert hs; unfold sgB; cases h : (x == 59) <;> simp)
  have e3 : ((x : Int) == 58) = false := eqb _ 58 58 rfl _ (by revert hs; unfold sgB; cases h : (x == 58) <;> simp)
  have e4 : ((x : Int) == 124) = false := eqb _ 124 124 rfl _ (by revert hs; unfold sgB; cases h : (x == 124) <;> simp)

  clear hs ho
  generalize hm : letN (b.drop p) = m at *
  have hrk : rkindE ((b.drop p).take m) ≤ 13 := by
    unfold rkindE
    rcases kindW_of ((b.drop p).take m) with h | h
    · rw [h, if_pos rfl]; split <;> omega
    · split
      · split <;> omega
      · omega
  obtain ⟨M, hM⟩ : ∃ M, p + m = M := ⟨_, rfl⟩
  obtain ⟨A', hcm, hrd, hle⟩ := cut_mid (some ad) n c p m b _ HL.out (HR.out.below ZB.out) (by omega) hnc (p : Int) (M : Int) rfl (by omega)
  have hdt : (b.take (p + m)).drop p = (b.drop p).take m := by rw [List.drop_take]; congr 1; omega
  rw [hdt] at hrd hle
  have hst := string_of _ A' m (c - p) _ hle.out hrd
  have hkd := fun W => rkind_any ((b.drop p).take m) W (by rw [hle.out]; omega)
  have HM := Lib.hid hx5
  have HMM := Lib.hid hM
  rw [hM] at hQ
  have hpM : p ≤ M := by omega
  have hMn : M ≤ n := by omega
  have HQ := Lib.hid hQ
  clear hQ hrd hle hdt hx5 hm hM
  generalize (b.drop p).take m = pt at *
  generalize rkindE pt = kk at *
  have HST := Lib.hid hst
  clear hst
  go_enter Tryd.func32, Tryd.ntmps32
  go_wp2_with fail
  refine (hlt _).mono ?_
  rintro e w1 ⟨rfl, rfl⟩
  go_wp2_with fail
  refine (hdg _).mono ?_
  rintro e w1 ⟨rfl, rfl⟩
  clear hlt hdg
  go_wp2_with fail
  generalize (w.alloc (.cells #[.int .i64 0, .int .i64 0, .int .i64 0] 36)).alloc (.cells #[.int .i64 0, .int .i64 0, .int .i64 0] 36) = W2 at *
  go_loopw [9] (fun v wr => ∃ i : Nat, p ≤ i ∧ i ≤ n ∧ v = .int .i64 (i : Int) ∧ Hid (M = i + runN ltB (b.drop i)) ∧ wr = W2) (fun v _ => n - (intOf v).toNat)
  case atStart => exact ⟨p, Nat.le_refl _, by omega, rfl, by unfold Hid; rw [← HMM.out, HM.out], rfl⟩
  case round =>
    obtain ⟨i, hi, hin, rfl, HK, hw⟩ := hrel
    subst hw
    by_cases hltn : i < n
    · have hib : i < b.length := by rw [HL.out]; exact hltn
      obtain ⟨ad2, hA, hci0⟩ := HR.out.getD hib
      obtain rfl := Option.some.inj hA
      have hci := (ZB.out.cell (World.block_lt_of_cell? w _ hci0)).trans hci0
      have bl : decide (i < n) = true := by simp [hltn]
      have hlt := rletter_any (b.getD i 0).toNat
      have HYES := Lib.hid (fun h => run_yes (p := ltB) hib h)
      have HNO := Lib.hid (fun h => run_no (p := ltB) hib h)
      clear hci0
      generalize (b.getD i 0).toNat = y at *
      obtain ⟨c1, h1⟩ : ∃ z, ltB y = z := ⟨_, rfl⟩
      rw [h1] at hlt HYES HNO
      clear h1
      cases c1
      case true =>
        have HK2 : Hid (M = (i + 1) + runN ltB (b.drop (i + 1))) := by unfold Hid; rw [HK.out, HYES.out rfl]; omega
        clear HYES HNO
        go_wp2_with fail
        refine (hlt _).mono ?_
        rintro e w1 ⟨rfl, rfl⟩
        go_wp2_with fail
        go_roundw
        case rel => exact ⟨i + 1, by omega, by omega, by go_num, HK2, by first | rfl | trivial⟩
        case measure => simp [intOf]; omega
      case false =>
        have hie : i = M := by rw [HK.out, HNO.out rfl]; rfl
        subst hie
        clear HYES HNO
        go_wp2_with fail
        refine (hlt _).mono ?_
        rintro e w1 ⟨rfl, rfl⟩
        clear hlt hci
        have hst := HST.out
        have T3 := fun x y z => three_set w _ w.heap.size _ _ _ _ x y z Z0.out (Nat.le_refl _) ZB.out
        have HT3 := Lib.hid T3
        clear T3
        go_wp2_with fail
        refine (hkd _).mono ?_
        rintro e w1 ⟨rfl, rfl⟩
        by_cases hk0 : kk = 0
        · subst hk0
          rw [if_pos rfl] at HQ
          go_wp2_with fail

          obtain ⟨y0, yb⟩ := HT3.out (.int .i64 0) (.int .i64 0) (.int .i64 0)
          refine bodyPost_ret (v := .agg #[.int .i64 0, .int .i64 0, .int .i64 0]) (results_cell_row rfl _ _ w.heap.size 36 _ (0, 0) _ rfl y0 Tryd.underlying36 rfl (by rw [size_tk]; rfl)) rfl (post_is HQ ?_)
          exact ⟨rfl, yb⟩
        · have hk1 : ((kk : Int) == 0) = false := by simp; omega
          rw [if_neg hk0] at HQ
          clear hk0
          go_wp2_with fail
          obtain ⟨y0, yb⟩ := HT3.out (.int .i64 (kk : Int)) (.int .i64 (p : Int)) (.int .i64 (i : Int))
          refine bodyPost_ret (v := .agg #[.int .i64 (kk : Int), .int .i64 (p : Int), .int .i64 (i : Int)]) (results_cell_row rfl _ _ w.heap.size 36 _ (0, 0) _ rfl y0 Tryd.underlying36 rfl (by rw [size_tk]; rfl)) rfl (post_is HQ ?_)
          exact ⟨rfl, yb⟩
    · have hie : i = M := by rw [HK.out, run_whole ltB b i (by rw [HL.out]; exact hltn)]; rfl
      subst hie
      have bl : decide (i < n) = false := by simp; omega
      clear hltn
      have hst := HST.out
      have T3 := fun x y z => three_set w _ w.heap.size _ _ _ _ x y z Z0.out (Nat.le_refl _) ZB.out
      have HT3 := Lib.hid T3
      clear T3
      go_wp2_with fail
      refine (hkd _).mono ?_
      rintro e w1 ⟨rfl, rfl⟩
      by_cases hk0 : kk = 0
      · subst hk0
        rw [if_pos rfl] at HQ
        go_wp2_with fail

        obtain ⟨y0, yb⟩ := HT3.out (.int .i64 0) (.int .i64 0) (.int .i64 0)
        refine bodyPost_ret (v := .agg #[.int .i64 0, .int .i64 0, .int .i64 0]) (results_cell_row rfl _ _ w.heap.size 36 _ (0, 0) _ rfl y0 Tryd.underlying36 rfl (by rw [size_tk]; rfl)) rfl (post_is HQ ?_)
        exact ⟨rfl, yb⟩
      · have hk1 : ((kk : Int) == 0) = false := by simp; omega
        rw [if_neg hk0] at HQ
        clear hk0
        go_wp2_with fail
        obtain ⟨y0, yb⟩ := HT3.out (.int .i64 (kk : Int)) (.int .i64 (p : Int)) (.int .i64 (i : Int))
        refine bodyPost_ret (v := .agg #[.int .i64 (kk : Int), .int .i64 (p : Int), .int .i64 (i : Int)]) (results_cell_row rfl _ _ w.heap.size 36 _ (0, 0) _ rfl y0 Tryd.underlying36 rfl (by rw [size_tk]; rfl)) rfl (post_is HQ ?_)
        exact ⟨rfl, yb⟩



end Go.Proofs.YtlepaciglkodbaaDoor
