/- The document's digits, times and above. No condition but that the numbers' digits can be read. -/
import Derived.Test.YthpcmceomamadaaShaCg
import Derived.Test.YthpcmceomamadaaShaDg
import Derived.Laws.BitsLemmas
set_option linter.unusedVariables false
set_option linter.unusedSimpArgs false
namespace Go.Proofs.Ythpcmceomamadaa
open Go.RowKit

/-- A number's cell. -/
def nv (n : Nat) : Value := .int .i64 (n : Int)
/-- n numbers can be read in block g. -/
def RdN (w : World) (g n : Nat) (f : Nat → Nat) : Prop := g < w.heap.size ∧ ∀ j, j < n → w.cell? ⟨g, j, none⟩ = some (.int .i64 ((f j : Nat) : Int))
theorem RdN.below {w w' : World} {g n : Nat} {f : Nat → Nat} (h : RdN w g n f) (hb : Below w.heap.size w w') : RdN w' g n f :=
  ⟨Nat.lt_of_lt_of_le h.1 hb.size, fun j hj => (hb.cell (p := ⟨g, j, none⟩) h.1).trans (h.2 j hj)⟩

def rowN (n : Nat) (f : Nat → Nat) : Array Value := (((List.range n).map f).map nv).toArray
theorem rowN_size (n : Nat) (f : Nat → Nat) : (rowN n f).size = n := by simp [rowN]
theorem rowN_get (n : Nat) (f : Nat → Nat) (j : Nat) (hj : j < n) : (rowN n f)[j]? = some (nv (f j)) := by simp [rowN, hj]
theorem rowN_ext (n : Nat) (f : Nat → Nat) (a : Array Value) (hs : a.size = n) (h : ∀ j, j < n → a[j]? = some (nv (f j))) : a = rowN n f := by
  apply Array.ext_getElem?
  intro j
  by_cases hj : j < n
  · rw [h j hj, rowN_get _ _ _ hj]
  · rw [Array.getElem?_eq_none (by omega), Array.getElem?_eq_none (by rw [rowN_size]; omega)]
theorem rowN_set (n : Nat) (f : Nat → Nat) (i : Nat) (x : Nat) : (rowN n f).setIfInBounds i (nv x) = rowN n (upd f i x) := by
  refine rowN_ext n _ _ (by simp [rowN_size]) fun j hj => ?_
  unfold upd
  by_cases e : i = j
  · subst e
    rw [Array.getElem?_setIfInBounds_self_of_lt (by rw [rowN_size]; exact hj), if_pos rfl]
  · rw [Array.getElem?_setIfInBounds_ne e, rowN_get _ _ _ hj, if_neg (fun h => e h.symm)]

/-- A block that holds n numbers. -/
def Hn (w : World) (g n : Nat) (f : Nat → Nat) : Prop := w.heap[g]? = some (.cells (rowN n f) 3 (0, 0))
theorem Hn.cell {w : World} {g n : Nat} {f : Nat → Nat} (h : Hn w g n f) {j : Nat} (hj : j < n) : w.cell? ⟨g, j, none⟩ = some (.int .i64 ((f j : Nat) : Int)) := by
  rw [cell_of_row w g j _ _ _ h, rowN_get _ _ _ hj]
  rfl
theorem Hn.free {w : World} {g n : Nat} {f : Nat → Nat} (h : Hn w g n f) (j : Nat) : w.frozen? ⟨g, j, none⟩ = false := frozen_of_row w g j _ _ h
theorem Hn.drewN {w : World} {g n : Nat} {f : Nat → Nat} (h : Hn w g n f) (k : Nat) : Hn (w.drewN k) g n f := h
theorem Hn.lt {w : World} {g n : Nat} {f : Nat → Nat} (h : Hn w g n f) : g < w.heap.size := (Array.getElem?_eq_some_iff.1 h).1
theorem Hn.set {w : World} {g n : Nat} {f : Nat → Nat} (h : Hn w g n f) (i x : Nat) : Hn (w.setCell ⟨g, i, none⟩ (.int .i64 (x : Int))) g n (upd f i x) := by
  unfold Hn
  rw [← rowN_set]
  exact heap_setCell_same w g i _ _ _ h
theorem Hn.rd {w : World} {g n : Nat} {f : Nat → Nat} (h : Hn w g n f) : RdN w g n f := ⟨h.lt, fun _ hj => h.cell hj⟩

theorem info_int : (Try.prog.info? 3).map (fun i => (i.zero, i.size, i.bytes)) = some (some (.int .i64 0), 1, 8) := by kernel_rfl
/-- 'make([]int, n)'. -/
theorem make_ints (n : Nat) (z : Int) (hz : (n : Int) = z) (hn : n ≤ 1000000) (W : World) :
    (Instr.makeSlice 42 (.int .i64 z) (.int .i64 z)).run Try.prog W = .ok (.slice (some ⟨W.heap.size, 0, none⟩) n n) (W.alloc (.cells (rowN n (fun _ => 0)) 3)) := by
  subst hz
  obtain ⟨i, hi, hz, hs, hb⟩ := info_parts info_int
  rw [run_make (P := Try.prog) W 42 3 i (.int .i64 0) Try.underlying42 hi hz .i64 .i64 n n (by omega) (Int.le_refl _) (by rw [hb]; omega) (by omega), hs]
  have e : (Value.int .i64 0).cells = #[Value.int .i64 0] := rfl
  have e2 : madeCells #[Value.int .i64 0] n = rowN n (fun _ => 0) := by
    refine rowN_ext _ _ _ (by unfold madeCells; simp) fun j hj => ?_
    unfold madeCells
    simp [hj, Nat.mod_one, nv]
  rw [e, Int.toNat_natCast, Nat.mul_one, e2]

theorem and16 (s : Nat) : bits .and .i64 (s : Int) 65535 = ((s % 65536 : Nat) : Int) := by
  have h : (BitVec.ofInt 64 65535).toNat = 2 ^ 16 - 1 := by decide
  have key : (BitVec.ofInt 64 (s : Int) &&& BitVec.ofInt 64 65535).toNat = ((s : Int) % ((2 ^ 64 : Nat) : Int)).toNat % 2 ^ 16 := by
    rw [BitVec.toNat_and, BitVec.toNat_ofInt, h, Nat.and_two_pow_sub_one_eq_mod]
  show IntKind.i64.wrap ((BitVec.ofInt 64 (s : Int) &&& BitVec.ofInt 64 65535).toNat : Nat) = _
  rw [key, IntKind.wrap_i64]
  omega
theorem and32n (s : Nat) : bits .and .i64 (s : Int) 4294967295 = ((s % 4294967296 : Nat) : Int) := by
  have h : (BitVec.ofInt 64 4294967295).toNat = 2 ^ 32 - 1 := by decide
  have key : (BitVec.ofInt 64 (s : Int) &&& BitVec.ofInt 64 4294967295).toNat = ((s : Int) % ((2 ^ 64 : Nat) : Int)).toNat % 2 ^ 32 := by
    rw [BitVec.toNat_and, BitVec.toNat_ofInt, h, Nat.and_two_pow_sub_one_eq_mod]
  show IntKind.i64.wrap ((BitVec.ofInt 64 (s : Int) &&& BitVec.ofInt 64 4294967295).toNat : Nat) = _
  rw [key, IntKind.wrap_i64]
  omega

/-- N digits that make V. -/
def GotN (w : World) (N V : Nat) (e : Ending) (w' : World) : Prop := ∃ g c f, e = .returned (.slice (some ⟨g, 0, none⟩) N c) ∧ N ≤ c ∧ RdN w' g N f ∧ Digs f N ∧ val f N = V ∧ Below w.heap.size w w'

set_option maxHeartbeats 1000000 in
set_option maxRecDepth 20000 in
theorem digits_any (y : Nat) (hy : y < 281474976710656) (w : World) : Calls Try.prog 28 #[.int .i64 (y : Int)] w (GotN w 3 y) := by
  obtain ⟨d0, h0⟩ : ∃ d, dig3 y 0 = d := ⟨_, rfl⟩
  obtain ⟨d1, h1⟩ : ∃ d, dig3 y 1 = d := ⟨_, rfl⟩
  obtain ⟨d2, h2⟩ : ∃ d, dig3 y 2 = d := ⟨_, rfl⟩
  obtain ⟨q1, hq1⟩ : ∃ d, y / 65536 = d := ⟨_, rfl⟩
  have a0 : bits .and .i64 (y : Int) 65535 = (d0 : Int) := by rw [and16, ← h0]; unfold dig3; simp
  have a1 : bits .and .i64 (q1 : Int) 65535 = (d1 : Int) := by rw [and16, ← h1, ← hq1]; unfold dig3; simp
  have e1 : (y : Int) / 65536 = (q1 : Int) := by omega
  have e2 : (y : Int) / 4294967296 = (d2 : Int) := by unfold dig3 at h2; omega
  have H0 := Lib.hid h0
  have H1 := Lib.hid h1
  have H2 := Lib.hid h2
  clear h0 h1 h2 hq1
  go_enter Try.func28, Try.ntmps28
  go_wp2
  go_ret
  refine ⟨w.heap.size, 3, dig3 y, rfl, by omega, ⟨by simp, fun j hj => ?_⟩, dig3_digs y 3, dig3_val hy, bl_alloc (Below.refl _ _) _⟩
  match j, hj with
  | 0, _ => rw [H0.out, cell_of_row _ _ _ _ _ _ (heap_alloc_new w _)]; rfl
  | 1, _ => rw [H1.out, cell_of_row _ _ _ _ _ _ (heap_alloc_new w _)]; rfl
  | 2, _ => rw [H2.out, cell_of_row _ _ _ _ _ _ (heap_alloc_new w _)]; rfl

end Go.Proofs.Ythpcmceomamadaa
