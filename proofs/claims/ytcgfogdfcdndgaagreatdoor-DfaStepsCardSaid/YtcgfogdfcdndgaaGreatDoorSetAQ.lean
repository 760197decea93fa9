/- Sets of bytes over the translated program: Union, Both, Not, Less, Has (the program's and the document's), with, Len, Least. No condition, but that Least wants math/bits' table as it was laid. -/
import Derived.Test.YtcgfogdfcdndgaaGreatDoorBytesQ
import Derived.Test.YtcgfogdfcdndgaaGreatDoorSetMQ
import Derived.LoopTactic
import Derived.Deep.QuietTactic
import Derived.Deep.RegionLawGrows
import Derived.RegionTactic
import Derived.BigQuiet
import Derived.Outline
import Derived.Lib.Hide
import Derived.WalkSpells
import Derived.Deep.WholeRow
import Derived.Laws.Tables
import Derived.Laws.Rows
import Derived.Laws.Bits64b
import Derived.Lib.TrailingZeros
set_option linter.unusedVariables false
set_option linter.unusedSimpArgs false
namespace Go.Proofs.YtcgfogdfcdndgaaGreatDoor
open Go.RowKit

theorem ofInt64 (x : BitVec 64) : BitVec.ofInt 64 (x.toNat : Int) = x := by
  rw [BitVec.ofInt_natCast]; simp
theorem xor64 (x y : BitVec 64) : bits .xor .u64 (x.toNat : Int) (y.toNat : Int) = ((x ^^^ y).toNat : Int) := by
  show IntKind.u64.wrap ((BitVec.ofInt 64 (x.toNat : Int) ^^^ BitVec.ofInt 64 (y.toNat : Int)).toNat : Int) = _
  rw [ofInt64, ofInt64, IntKind.wrap_u64]
  have := (x ^^^ y).isLt
  omega
theorem and64 (x y : BitVec 64) : bits .and .u64 (x.toNat : Int) (y.toNat : Int) = ((x &&& y).toNat : Int) := by
  show IntKind.u64.wrap ((BitVec.ofInt 64 (x.toNat : Int) &&& BitVec.ofInt 64 (y.toNat : Int)).toNat : Int) = _
  rw [ofInt64, ofInt64, IntKind.wrap_u64]
  have := (x &&& y).isLt
  omega
theorem or64 (x y : BitVec 64) : bits .or .u64 (x.toNat : Int) (y.toNat : Int) = ((x ||| y).toNat : Int) := by
  show IntKind.u64.wrap ((BitVec.ofInt 64 (x.toNat : Int) ||| BitVec.ofInt 64 (y.toNat : Int)).toNat : Int) = _
  rw [ofInt64, ofInt64, IntKind.wrap_u64]
  have := (x ||| y).isLt
  omega
theorem not64 (x : BitVec 64) : bits .xor .u64 IntKind.u64.max (x.toNat : Int) = ((~~~ x).toNat : Int) := by
  have e : IntKind.u64.max = ((BitVec.allOnes 64).toNat : Int) := by decide
  rw [e, xor64, BitVec.allOnes_xor]
theorem half64 (x : BitVec 64) (n : Nat) : ((x >>> n).toNat : Int) = (x.toNat : Int) / 2 ^ n := by
  rw [BitVec.toNat_ushiftRight, Nat.shiftRight_eq_div_pow]; simp
theorem twice64 (x : BitVec 64) (n : Nat) : ((x <<< n).toNat : Int) = (x.toNat : Int) * 2 ^ n % 18446744073709551616 := by
  rw [BitVec.toNat_shiftLeft, Nat.shiftLeft_eq]; simp

/-- A word's cell; four of them. -/
def dv (x : BitVec 64) : Value := .int .u64 (x.toNat : Int)
def row4 (f : Nat → BitVec 64) : Array Value := (((List.range 4).map f).map dv).toArray
theorem row4_size (f : Nat → BitVec 64) : (row4 f).size = 4 := by simp [row4]
theorem row4_get (f : Nat → BitVec 64) (j : Nat) (hj : j < 4) : (row4 f)[j]? = some (dv (f j)) := by simp [row4, hj]
theorem row4_congr {f g : Nat → BitVec 64} (h : Eq4 f g) : row4 f = row4 g := by
  unfold row4
  rw [List.map_congr_left (f := f) (g := g) (fun j hj => h j (List.mem_range.1 hj))]
theorem row4_set (f : Nat → BitVec 64) (i : Nat) (x : BitVec 64) : (row4 f).setIfInBounds i (dv x) = row4 (fun j => if j = i then x else f j) := by
  apply Array.ext_getElem?
  intro j
  by_cases hj : j < 4
  · by_cases e : i = j
    · subst e
      rw [Array.getElem?_setIfInBounds_self_of_lt (by rw [row4_size]; exact hj), row4_get _ _ hj, if_pos rfl]
    · rw [Array.getElem?_setIfInBounds_ne e, row4_get _ _ hj, row4_get _ _ hj, if_neg (fun h => e h.symm)]
  · rw [Array.getElem?_eq_none (by simp [row4_size]; omega), Array.getElem?_eq_none (by rw [row4_size]; omega)]
theorem row4_one (f : Nat → BitVec 64) : (row4 f).all (·.oneCell') = true := by
  unfold row4
  simp only [List.all_toArray, List.all_map, List.all_eq_true]
  intro x _
  rfl
def tab4 : Array Value := Array.replicate 4 (.int .u64 0)
theorem tab4_row : tab4 = row4 nilW := by kernel_rfl
theorem zero4 (w : World) : (zeroValue 51).run Tryz.prog w = .ok (.agg tab4) w := by kernel_rfl
theorem size4 : (Tryz.prog.info? 51).map (·.size) = some 4 := by kernel_rfl

/-- A block that holds a set. -/
def H4 (w : World) (g : Nat) (f : Nat → BitVec 64) : Prop := w.heap[g]? = some (.cells (row4 f) 51 (0, 0))
theorem H4.cell {w : World} {g : Nat} {f : Nat → BitVec 64} (h : H4 w g f) {j : Nat} (hj : j < 4) : w.cell? ⟨g, j, none⟩ = some (.int .u64 ((f j).toNat : Int)) := by
  rw [cell_of_row w g j _ _ _ h, row4_get _ _ hj]
  rfl
theorem H4.free {w : World} {g : Nat} {f : Nat → BitVec 64} (h : H4 w g f) (j : Nat) : w.frozen? ⟨g, j, none⟩ = false := frozen_of_row w g j _ _ h
theorem H4.drew {w : World} {g : Nat} {f : Nat → BitVec 64} (h : H4 w g f) : H4 w.drew g f := h
theorem H4.lt {w : World} {g : Nat} {f : Nat → BitVec 64} (h : H4 w g f) : g < w.heap.size := (Array.getElem?_eq_some_iff.1 h).1
theorem H4.below {w w' : World} {g : Nat} {f : Nat → BitVec 64} (h : H4 w g f) (hb : Below w.heap.size w w') : H4 w' g f := (hb.block g h.lt).trans h
theorem H4.alloc {w : World} {g : Nat} {f : Nat → BitVec 64} (h : H4 w g f) (o : Obj) : H4 (w.alloc o) g f := (Below.heap_alloc w o g h.lt).trans h
theorem H4.other {w : World} {g : Nat} {f : Nat → BitVec 64} (h : H4 w g f) {p : Addr} (hp : g ≠ p.block) (v : Value) : H4 (w.setCell p v) g f := (Below.heap_setCell _ _ _ _ hp).trans h
theorem H4.row {w : World} {g k : Nat} {f : Nat → BitVec 64} (h : H4 w g f) (hp : g ≠ k) (cs : Array Value) : H4 (w.setRow k cs) g f := (setRow_other _ _ _ _ hp).trans h
theorem H4.congr {w : World} {g : Nat} {f f' : Nat → BitVec 64} (h : H4 w g f) (e : Eq4 f f') : H4 w g f' := by
  unfold H4 at h ⊢
  rw [← row4_congr e]
  exact h
theorem H4.set {w : World} {g : Nat} {f f' : Nat → BitVec 64} (h : H4 w g f) (i : Nat) (x : BitVec 64) (hf : ∀ j, j < 4 → f' j = if j = i then x else f j) : H4 (w.setCell ⟨g, i, none⟩ (.int .u64 (x.toNat : Int))) g f' := by
  have e : row4 f' = (row4 f).setIfInBounds i (dv x) := by rw [row4_set]; exact row4_congr hf
  unfold H4
  rw [e]
  exact heap_setCell_same w g i _ _ _ h
theorem H4.new (w : World) (f : Nat → BitVec 64) : H4 (w.alloc (.cells (row4 f) 51)) w.heap.size f := heap_alloc_new w _
theorem H4.new1 (w : World) (o : Obj) (f : Nat → BitVec 64) : H4 ((w.alloc o).alloc (.cells (row4 f) 51)) (w.heap.size + 1) f := by
  have h := H4.new (w.alloc o) f
  rw [World.size_alloc] at h
  exact h
theorem H4.new2 (w : World) (o o2 : Obj) (f : Nat → BitVec 64) : H4 (((w.alloc o).alloc o2).alloc (.cells (row4 f) 51)) (w.heap.size + 1 + 1) f := by
  have h := H4.new1 (w.alloc o) o2 f
  rw [World.size_alloc] at h
  exact h
theorem H4.laid {w : World} {g : Nat} {f f' : Nat → BitVec 64} (h : H4 w g f) : H4 (w.setRow g (row4 f')) g f' := setRow_heap _ _ _ _ _ _ h

theorem bl_setRow {w a : World} (h : Below w.heap.size w a) {g : Nat} (hg : w.heap.size ≤ g) (cs : Array Value) : Below w.heap.size w (a.setRow g cs) :=
  bl_grown h (row := some g) ⟨rfl, rfl, rfl, by simp, fun k hk hne => setRow_other _ _ _ _ (fun e => hne (by rw [e]))⟩ (fun k e => by cases e; exact hg)

def Got4 (w : World) (f : Nat → BitVec 64) (e : Ending) (w' : World) : Prop := e = .returned (.agg (row4 f)) ∧ Below w.heap.size w w'
/-- The first k words of one, the others of another one. -/
def upto4 (f g : Nat → BitVec 64) (k : Nat) : Nat → BitVec 64 := fun j => if j < k then f j else g j
theorem upto4_zero (f g : Nat → BitVec 64) : Eq4 g (upto4 f g 0) := fun j _ => by simp [upto4]
theorem upto4_four (f g : Nat → BitVec 64) : Eq4 (upto4 f g 4) f := fun j hj => by simp [upto4, hj]
theorem upto4_step (f g : Nat → BitVec 64) (k j : Nat) : upto4 f g (k + 1) j = if j = k then f k else upto4 f g k j := by
  unfold upto4
  by_cases h : j = k
  · subst h; simp
  · rw [if_neg h]
    by_cases h2 : j < k
    · rw [if_pos h2, if_pos (by omega)]
    · rw [if_neg h2, if_neg (by omega)]
theorem upto4_at (f g : Nat → BitVec 64) (k : Nat) : upto4 f g k k = g k := by simp [upto4]

set_option maxHeartbeats 2000000 in
set_option maxRecDepth 20000 in
theorem union_any (f g : Nat → BitVec 64) (w : World) :
    Calls Tryz.prog 156 #[.agg (row4 f), .agg (row4 g)] w (Got4 w (orW f g)) := by
  have hz := zero4
  rw [tab4_row] at hz
  go_enter Tryz.func156, Tryz.ntmps156
  go_wp2
  have hA := ((H4.new w f).alloc (.cells (row4 g) 51)).alloc (.cells (row4 nilW) 51)
  have hB := (H4.new1 w (.cells (row4 f) 51) g).alloc (.cells (row4 nilW) 51)
  have hC := H4.new2 w (.cells (row4 f) 51) (.cells (row4 g) 51) nilW
  have hL : Below w.heap.size w (((w.alloc (.cells (row4 f) 51)).alloc (.cells (row4 g) 51)).alloc (.cells (row4 nilW) 51)) := bl_alloc (bl_alloc (bl_alloc (Below.refl _ _) _) _) _
  have HA := Lib.hid (hA.congr (upto4_zero (orW f g) f))
  have HB := Lib.hid hB
  have HC := Lib.hid hC
  have HL := Lib.hid hL
  clear hA hB hC hL hz
  go_loopw [6] (fun i wr => ∃ k : Nat, k ≤ 4 ∧ i = .int .i64 k ∧ H4 wr w.heap.size (upto4 (orW f g) f k) ∧ H4 wr (w.heap.size + 1) g ∧ H4 wr (w.heap.size + 1 + 1) nilW ∧ Below w.heap.size w wr) (fun i _ => 4 - (intOf i).toNat)
  case atStart => exact ⟨0, by omega, rfl, HA.out, HB.out, HC.out, HL.out⟩
  case round =>
    clear HA HB HC HL
    obtain ⟨k, hk, rfl, h1, h2, h3, hB⟩ := hrel
    by_cases hlt : k < 4
    · have hc1 := h1.cell hlt
      rw [upto4_at] at hc1
      have hc2 := h2.cell hlt
      have hf1 := h1.free k
      have H1 := Lib.hid h1
      have H2 := Lib.hid h2
      have H3 := Lib.hid h3
      have HB := Lib.hid hB
      clear h1 h2 h3 hB
      go_wp2
      go_region
      go_wp2
      rw [or64]
      exact ⟨⟨k + 1, by omega, by go_num, H1.out.set k _ (fun j _ => upto4_step (orW f g) f k j), H2.out.other (by dsimp only; omega) _, H3.out.other (by dsimp only; omega) _, bl_drewN (HB.out.setCell (p := ⟨w.heap.size, k, none⟩) (by simp) _) 1⟩, by simp [intOf]; omega⟩
    · obtain rfl : k = 4 := by omega
      have H1 := Lib.hid (h1.congr (upto4_four _ _))
      have H3 := Lib.hid h3
      have HB := Lib.hid hB
      clear h1 h2 h3 hB
      go_wp2_with (first
        | (refine wpList_load_row rfl 51 _ rfl w.heap.size rfl 51 _ (0, 0) _ H1.out Tryz.underlying51 rfl (by rw [size4, row4_size]) ?_)
        | (refine wpList_store_row rfl 51 _ _ rfl (w.heap.size + 1 + 1) _ rfl rfl 51 _ H3.out (by rw [size4, row4_size]) (by rw [row4_size, row4_size]) (row4_one _) ?_))
      refine bodyPost_ret (v := .agg (row4 (orW f g))) (results_cell_row rfl _ _ (w.heap.size + 1 + 1) 51 _ (0, 0) _ rfl (setRow_heap _ _ _ _ _ _ H3.out) Tryz.underlying51 rfl (by rw [size4, row4_size])) rfl ⟨rfl, ?_⟩
      exact bl_setRow HB.out (by omega) _

set_option maxHeartbeats 2000000 in
set_option maxRecDepth 20000 in
theorem both_any (f g : Nat → BitVec 64) (w : World) :
    Calls Tryz.prog 81 #[.agg (row4 f), .agg (row4 g)] w (Got4 w (andW f g)) := by
  have hz := zero4
  rw [tab4_row] at hz
  go_enter Tryz.func81, Tryz.ntmps81
  go_wp2
  have hA := ((H4.new w f).alloc (.cells (row4 g) 51)).alloc (.cells (row4 nilW) 51)
  have hB := (H4.new1 w (.cells (row4 f) 51) g).alloc (.cells (row4 nilW) 51)
  have hC := H4.new2 w (.cells (row4 f) 51) (.cells (row4 g) 51) nilW
  have hL : Below w.heap.size w (((w.alloc (.cells (row4 f) 51)).alloc (.cells (row4 g) 51)).alloc (.cells (row4 nilW) 51)) := bl_alloc (bl_alloc (bl_alloc (Below.refl _ _) _) _) _
  have HA := Lib.hid (hA.congr (upto4_zero (andW f g) f))
  have HB := Lib.hid hB
  have HC := Lib.hid hC
  have HL := Lib.hid hL
  clear hA hB hC hL hz
  go_loopw [6] (fun i wr => ∃ k : Nat, k ≤ 4 ∧ i = .int .i64 k ∧ H4 wr w.heap.size (upto4 (andW f g) f k) ∧ H4 wr (w.heap.size + 1) g ∧ H4 wr (w.heap.size + 1 + 1) nilW ∧ Below w.heap.size w wr) (fun i _ => 4 - (intOf i).toNat)
  case atStart => exact ⟨0, by omega, rfl, HA.out, HB.out, HC.out, HL.out⟩
  case round =>
    clear HA HB HC HL
    obtain ⟨k, hk, rfl, h1, h2, h3, hB⟩ := hrel
    by_cases hlt : k < 4
    · have hc1 := h1.cell hlt
      rw [upto4_at] at hc1
      have hc2 := h2.cell hlt
      have hf1 := h1.free k
      have H1 := Lib.hid h1
      have H2 := Lib.hid h2
      have H3 := Lib.hid h3
      have HB := Lib.hid hB
      clear h1 h2 h3 hB
      go_wp2
      go_region
      go_wp2
      rw [and64]
      exact ⟨⟨k + 1, by omega, by go_num, H1.out.set k _ (fun j _ => upto4_step (andW f g) f k j), H2.out.other (by dsimp only; omega) _, H3.out.other (by dsimp only; omega) _, bl_drewN (HB.out.setCell (p := ⟨w.heap.size, k, none⟩) (by simp) _) 1⟩, by simp [intOf]; omega⟩
    · obtain rfl : k = 4 := by omega
      have H1 := Lib.hid (h1.congr (upto4_four _ _))
      have H3 := Lib.hid h3
      have HB := Lib.hid hB
      clear h1 h2 h3 hB
      go_wp2_with (first
        | (refine wpList_load_row rfl 51 _ rfl w.heap.size rfl 51 _ (0, 0) _ H1.out Tryz.underlying51 rfl (by rw [size4, row4_size]) ?_)
        | (refine wpList_store_row rfl 51 _ _ rfl (w.heap.size + 1 + 1) _ rfl rfl 51 _ H3.out (by rw [size4, row4_size]) (by rw [row4_size, row4_size]) (row4_one _) ?_))
      refine bodyPost_ret (v := .agg (row4 (andW f g))) (results_cell_row rfl _ _ (w.heap.size + 1 + 1) 51 _ (0, 0) _ rfl (setRow_heap _ _ _ _ _ _ H3.out) Tryz.underlying51 rfl (by rw [size4, row4_size])) rfl ⟨rfl, ?_⟩
      exact bl_setRow HB.out (by omega) _

set_option maxHeartbeats 2000000 in
set_option maxRecDepth 20000 in
theorem not_any (f : Nat → BitVec 64) (w : World) :
    Calls Tryz.prog 102 #[.agg (row4 f)] w (Got4 w (notW f)) := by
  have hz := zero4
  rw [tab4_row] at hz
  go_enter Tryz.func102, Tryz.ntmps102
  go_wp2
  have hA := (H4.new w f).alloc (.cells (row4 nilW) 51)
  have hC := H4.new1 w (.cells (row4 f) 51) nilW
  have hL : Below w.heap.size w ((w.alloc (.cells (row4 f) 51)).alloc (.cells (row4 nilW) 51)) := bl_alloc (bl_alloc (Below.refl _ _) _) _
  have HA := Lib.hid (hA.congr (upto4_zero (notW f) f))
  have HC := Lib.hid hC
  have HL := Lib.hid hL
  clear hA hC hL hz
  go_loopw [4] (fun i wr => ∃ k : Nat, k ≤ 4 ∧ i = .int .i64 k ∧ H4 wr w.heap.size (upto4 (notW f) f k) ∧ H4 wr (w.heap.size + 1) nilW ∧ Below w.heap.size w wr) (fun i _ => 4 - (intOf i).toNat)
  case atStart => exact ⟨0, by omega, rfl, HA.out, HC.out, HL.out⟩
  case round =>
    clear HA HC HL
    obtain ⟨k, hk, rfl, h1, h3, hB⟩ := hrel
    by_cases hlt : k < 4
    · have hc1 := h1.cell hlt
      rw [upto4_at] at hc1
      have hf1 := h1.free k
      have H1 := Lib.hid h1
      have H3 := Lib.hid h3
      have HB := Lib.hid hB
      clear h1 h3 hB
      go_wp2
      rw [show (if IntKind.u64.signed = true then (-1 : Int) else IntKind.u64.max) = IntKind.u64.max from rfl, not64]
      exact ⟨⟨k + 1, by omega, by go_num, H1.out.set k _ (fun j _ => upto4_step (notW f) f k j), H3.out.other (by dsimp only; omega) _, HB.out.setCell (p := ⟨w.heap.size, k, none⟩) (by simp) _⟩, by simp [intOf]; omega⟩
    · obtain rfl : k = 4 := by omega
      have H1 := Lib.hid (h1.congr (upto4_four _ _))
      have H3 := Lib.hid h3
      have HB := Lib.hid hB
      clear h1 h3 hB
      go_wp2_with (first
        | (refine wpList_load_row rfl 51 _ rfl w.heap.size rfl 51 _ (0, 0) _ H1.out Tryz.underlying51 rfl (by rw [size4, row4_size]) ?_)
        | (refine wpList_store_row rfl 51 _ _ rfl (w.heap.size + 1) _ rfl rfl 51 _ H3.out (by rw [size4, row4_size]) (by rw [row4_size, row4_size]) (row4_one _) ?_))
      refine bodyPost_ret (v := .agg (row4 (notW f))) (results_cell_row rfl _ _ (w.heap.size + 1) 51 _ (0, 0) _ rfl (setRow_heap _ _ _ _ _ _ H3.out) Tryz.underlying51 rfl (by rw [size4, row4_size])) rfl ⟨rfl, ?_⟩
      exact bl_setRow HB.out (by omega) _

/-- A truth, and nothing that was there has turned. -/
def GotB (w : World) (b : Bool) (e : Ending) (w' : World) : Prop := e = .returned (.bool b) ∧ Below w.heap.size w w'

theorem bit_of (x : BitVec 64) (k : Nat) : (bits .and .u64 ((x.toNat : Int) / 2 ^ k) 1 == (1 : Int)) = x.getLsbD k := by
  have e1 : (1 : Int) = ((1#64).toNat : Int) := rfl
  rw [← half64]
  conv => lhs; lhs; rw [e1]
  rw [and64]
  have e2 : ((x >>> k &&& 1#64).toNat : Int) = if x.getLsbD k then 1 else 0 := by
    rw [BitVec.toNat_and, show (1#64).toNat = 1 from rfl, Nat.and_one_is_mod, BitVec.toNat_ushiftRight, Nat.shiftRight_eq_div_pow]
    have h2 : x.getLsbD k = decide (x.toNat / 2 ^ k % 2 = 1) := by
      rw [BitVec.getLsbD, Nat.testBit_eq_decide_div_mod_eq]
    rw [h2]
    by_cases h3 : x.toNat / 2 ^ k % 2 = 1
    · simp [h3]
    · have h4 : x.toNat / 2 ^ k % 2 = 0 := by omega
      simp [h4]
  rw [e2]
  cases x.getLsbD k <;> rfl

set_option maxHeartbeats 2000000 in
set_option maxRecDepth 20000 in
theorem has_any (f : Nat → BitVec 64) (c : Nat) (hc : c < 256) (w : World) :
    Calls Tryz.prog 59 #[.agg (row4 f), .int .u8 (c : Int)] w (GotB w (has f c)) := by
  go_enter Tryz.func59, Tryz.ntmps59
  obtain ⟨q, hq⟩ : ∃ q, c / 64 = q := ⟨_, rfl⟩
  obtain ⟨r, hr⟩ : ∃ r, c % 64 = r := ⟨_, rfl⟩
  have hq4 : q < 4 := by omega
  have hr4 : r < 64 := by omega
  have eq1 : (c : Int) / 64 = (q : Int) := by omega
  have er1 : (c : Int) % 64 = (r : Int) := by omega
  have hb := bit_of (f q) r
  have hh : has f c = (f q).getLsbD r := by unfold has; rw [hq, hr]
  have hA := (H4.new w f)
  have hc1 := hA.cell hq4
  have HB := Lib.hid hb
  have HH := Lib.hid hh
  clear hA hb hh hq hr
  go_wp2
  go_ret
  rw [HB.out, HH.out]
  exact ⟨rfl, bl_alloc (Below.refl _ _) _⟩

/-- A bit that is put into a word. -/
theorem bit_at (k : Nat) : IntKind.u64.wrap ((2 : Int) ^ k) = ((1#64 <<< k).toNat : Int) := by
  rw [IntKind.wrap_u64, twice64]
  simp
theorem put_at (f : Nat → BitVec 64) (c q r : Nat) (hq : c / 64 = q) (hr : c % 64 = r) (j : Nat) : putW f c j = if j = q then f q ||| 1#64 <<< r else f j := by
  unfold putW
  rw [hq, hr]
  by_cases h : j = q
  · subst h; simp
  · simp [h]

end Go.Proofs.YtcgfogdfcdndgaaGreatDoor

/- How many bytes a set has, and its least one, over the translated program. Least wants math/bits' table as it was laid. -/
set_option linter.unusedVariables false
set_option linter.unusedSimpArgs false
namespace Go.Proofs.YtcgfogdfcdndgaaGreatDoor
open Go.RowKit

/-- math/bits' table, as its initialiser lays it. -/
def Tab (w : World) : Prop := ∀ j, j < 64 → w.cell? ⟨0, j, none⟩ = some (.int .u8 ((Lib.deBruijn64tab.getD j 0 : Nat) : Int))
theorem Tab.below {w w' : World} (h : Tab w) (hb : Below w.heap.size w w') : Tab w' := fun j hj =>
  (hb.cell (p := ⟨0, j, none⟩) (World.block_lt_of_cell? w _ (h j hj))).trans (h j hj)

/-- The lowest bit of a word. -/
def low (x : BitVec 64) : Nat := Lib.ctz 64 x.toNat
theorem low_spec (x : BitVec 64) (hx : x ≠ 0) : low x < 64 ∧ x.getLsbD (low x) = true ∧ ∀ i, i < low x → x.getLsbD i = false := by
  have h0 : x.toNat ≠ 0 := fun h => hx (by apply BitVec.eq_of_toNat_eq; simpa using h)
  have hlt : x.toNat < 2 ^ 64 := x.isLt
  obtain ⟨m, hm, hk⟩ := Lib.ctzFrom_spec 64 x.toNat (by omega) hlt
  have e : low x = Lib.ctzFrom 64 x.toNat := by simp [low, Lib.ctz, h0]
  rw [e]
  refine ⟨hk, ?_, fun i hi => ?_⟩
  · rw [BitVec.getLsbD, hm, Nat.mul_comm, Nat.testBit_mul_two_pow]
    have e2 : Lib.ctzFrom 64 (x.toNat) = Lib.ctzFrom 64 ((2 * m + 1) * 2 ^ Lib.ctzFrom 64 x.toNat) := by
      conv => lhs; rw [hm, Nat.mul_comm]
    rw [← e2]
    simp
  · rw [BitVec.getLsbD, hm, Nat.mul_comm, Nat.testBit_mul_two_pow]
    have e2 : Lib.ctzFrom 64 (x.toNat) = Lib.ctzFrom 64 ((2 * m + 1) * 2 ^ Lib.ctzFrom 64 x.toNat) := by
      conv => lhs; rw [hm, Nat.mul_comm]
    have : ¬ Lib.ctzFrom 64 x.toNat ≤ i := by omega
    simp [this]

theorem low_key (x a : Nat) (hx : x < 18446744073709551616) (hx0 : x ≠ 0) (hlow : x &&& (18446744073709551616 - x) = a) :
    IntKind.u64.wrap (bits BinOp.and IntKind.u64 (x : Int) (IntKind.u64.wrap (-(x : Int))) * 285870213051353865) / 288230376151711744 = ((a * 285870213051353865 % 18446744073709551616 / 288230376151711744 : Nat) : Int) := by
  have e1 : IntKind.u64.wrap (-(x : Int)) = ((18446744073709551616 - x : Nat) : Int) := by rw [IntKind.wrap_u64]; omega
  rw [e1, bits_and_u64_nat x _ hx (by omega), hlow, IntKind.wrap_u64]
  omega

set_option maxHeartbeats 1000000 in
theorem tz_core (x k idx : Nat) (w : World) (hx0 : ((x : Int) == 0) = false)
    (key : IntKind.u64.wrap (bits BinOp.and IntKind.u64 (x : Int) (IntKind.u64.wrap (-(x : Int))) * 285870213051353865) / 288230376151711744 = (idx : Int))
    (hi : idx < 64) (hk : k < 64) (hcell : w.cell? ⟨0, idx, none⟩ = some (.int .u8 (k : Int))) :
    Calls Tryz.prog 106 #[.int .u64 (x : Int)] w fun e w' => e = .returned (.int .i64 (k : Int)) ∧ w' = w := by
  go_enter Tryz.func106, Tryz.ntmps106
  go_wp2_with (simp only [key])
  go_ret
  exact ⟨rfl, rfl⟩
theorem tz_any (x : BitVec 64) (hx : x ≠ 0) (w : World) (hT : Tab w) :
    Calls Tryz.prog 106 #[.int .u64 (x.toNat : Int)] w fun e w' => e = .returned (.int .i64 (low x : Int)) ∧ w' = w := by
  have h0 : x.toNat ≠ 0 := fun h => hx (by apply BitVec.eq_of_toNat_eq; simpa using h)
  obtain ⟨hlow, hk⟩ := Lib.lowest_bit 64 x.toNat h0 x.isLt
  obtain ⟨hi, htab⟩ := Lib.deBruijn64_at _ hk
  have hcell := hT _ hi
  rw [htab] at hcell
  exact tz_core x.toNat (low x) _ w (by simp; omega) (low_key x.toNat _ x.isLt h0 hlow) hi hk hcell

theorem all_range_eq64 : ∀ (xs ys : List (BitVec 64)), xs.length = ys.length → ((List.range xs.length).all fun i => xs.getD i 0 == ys.getD i 0) = (xs == ys)
  | [], [], _ => rfl
  | x :: xs, y :: ys, h => by
    have ih := all_range_eq64 xs ys (by simpa using h)
    rw [List.length_cons, List.range_succ_eq_map, List.all_cons, List.all_map]
    simp only [List.getD_cons_zero, Function.comp_def, List.getD_cons_succ, ih]
    simp [List.cons_beq_cons]
  | [], _ :: _, h => by simp at h
  | _ :: _, [], h => by simp at h
set_option maxRecDepth 20000 in
theorem equal_words (xs ys : List (BitVec 64)) (hx : xs.length = 4) (hy : ys.length = 4) (w : World) : (Op.equalIn 10000 51 (.agg (xs.map dv).toArray) (.agg (ys.map dv).toArray)).run Tryz.prog w = .ok (xs == ys) w := by
  have ht := Tryz.underlying51
  have he := Tryz.underlying49
  have hsz : ∀ w, (sizeOf 49).run Tryz.prog w = .ok 1 w := fun w => by kernel_rfl
  rw [← all_range_eq64 xs ys (hx.trans hy.symm), hx, List.range_eq_range', Op.equalIn]
  simp only [Sem.run_bind, run_underlying ht, Result.andThen_ok, hsz, Std.Legacy.Range.forIn_eq_forIn_range', Std.Legacy.Range.size, Nat.sub_zero, Nat.add_sub_cancel, Nat.div_one]
  have hl : ∀ i ∈ List.range' 0 4 1, i < 4 := fun i hi => by simpa using (List.mem_range'_1.1 hi).2
  generalize List.range' 0 4 1 = l at hl ⊢
  induction l with
  | nil => simp
  | cons i l ih =>
    have hi : i < 4 := hl i (by simp)
    have px : (part 49 (xs.map dv).toArray (i * 1)).run Tryz.prog w = .ok (dv (xs.getD i 0)) w := by
      simp [part, isAgg, run_underlying he, List.getD, List.getElem?_eq_getElem (show i < xs.length by omega)]
    have py : (part 49 (ys.map dv).toArray (i * 1)).run Tryz.prog w = .ok (dv (ys.getD i 0)) w := by
      simp [part, isAgg, run_underlying he, List.getD, List.getElem?_eq_getElem (show i < ys.length by omega)]
    have pe : (Op.equalIn 9999 49 (dv (xs.getD i 0)) (dv (ys.getD i 0))).run Tryz.prog w = .ok (xs.getD i 0 == ys.getD i 0) w := by
      rw [dv, dv, run_equalIn_int w 9998 49 .u64 .u64 _ _ he]
      congr 1
      rw [Bool.eq_iff_iff]
      simp [← BitVec.toNat_inj]
      omega
    simp only [List.forIn_cons, Sem.run_bind, px, py, pe, Result.andThen_ok, List.all_cons]
    cases hb : (xs.getD i 0 == ys.getD i 0)
    · simp
    · simp only [Bool.not_true, Bool.false_eq_true, if_false, Sem.run_pure, Result.andThen_ok, Bool.true_and]
      exact ih fun j hj => hl j (by simp [hj])
/-- Two sets, compared. -/
theorem same_sets {f g : Nat → BitVec 64} (h : Eq4 f g) (W : World) : (Op.equalIn 10000 51 (.agg (row4 f)) (.agg (row4 g))).run Tryz.prog W = .ok true W := by
  rw [row4_congr h]
  unfold row4
  rw [equal_words _ _ (by simp) (by simp)]
  simp
theorem other_sets {f g : Nat → BitVec 64} (h : ¬ Eq4 f g) (W : World) : (Op.equalIn 10000 51 (.agg (row4 f)) (.agg (row4 g))).run Tryz.prog W = .ok false W := by
  unfold row4
  rw [equal_words _ _ (by simp) (by simp)]
  congr 1
  apply beq_eq_false_iff_ne.2
  intro e
  apply h
  intro j hj
  have := congrArg (·[j]?) e
  simpa [hj] using this

end Go.Proofs.YtcgfogdfcdndgaaGreatDoor

/- The least byte of a set, over the translated program. Least wants math/bits' table as it was laid. -/
set_option linter.unusedVariables false
set_option linter.unusedSimpArgs false
namespace Go.Proofs.YtcgfogdfcdndgaaGreatDoor
open Go.RowKit

/-- What Least answers of bytes that rise. -/
def leastV : List Nat → Value
  | [] => .tuple #[.int .u8 0, .bool false]
  | c :: _ => .tuple #[.int .u8 (c : Int), .bool true]
def GotL (w : World) (l : List Nat) (e : Ending) (w' : World) : Prop := e = .returned (leastV l) ∧ Below w.heap.size w w'

theorem word_zero {f : Nat → BitVec 64} {k : Nat} (h : f k = 0) : (((f k).toNat : Int) == 0) = true := by
  rw [h]
  rfl
theorem word_some {f : Nat → BitVec 64} {k : Nat} (h : f k ≠ 0) : (((f k).toNat : Int) == 0) = false := by
  apply beq_eq_false_iff_ne.2
  intro e
  apply h
  apply BitVec.eq_of_toNat_eq
  simpa using e

set_option maxHeartbeats 2000000 in
set_option maxRecDepth 20000 in
theorem least_none (f : Nat → BitVec 64) (he : elems f = []) (w : World) :
    Calls Tryz.prog 87 #[.agg (row4 f)] w (GotL w []) := by
  have hz := zero4
  rw [tab4_row] at hz
  have hs := same_sets ((elems_nil_iff f).1 he)
  have hA := Lib.hid (H4.new w f)
  clear he
  go_enter Tryz.func87, Tryz.ntmps87
  go_wp2_with (refine wpList_load_row rfl 51 _ rfl w.heap.size rfl 51 _ (0, 0) _ hA.out Tryz.underlying51 rfl (by rw [size4, row4_size]) ?_)
  exact bodyPost_ret (v := .tuple #[.int .u8 0, .bool false]) (by simp [results, Tryz.results87, go_sem]) rfl ⟨rfl, bl_alloc (Below.refl _ _) _⟩

set_option maxHeartbeats 2000000 in
set_option maxRecDepth 20000 in
theorem least_some (f : Nat → BitVec 64) (he : elems f ≠ []) (w : World) (hT : Tab w) :
    Calls Tryz.prog 87 #[.agg (row4 f)] w (GotL w (elems f)) := by
  have hz := zero4
  rw [tab4_row] at hz
  have hne : ¬ Eq4 f nilW := fun h => he ((elems_nil_iff f).2 h)
  have hs := other_sets hne
  have hA := Lib.hid (H4.new w f)
  have HN := Lib.hid hne
  have HT := Lib.hid hT
  clear he hne hT
  go_enter Tryz.func87, Tryz.ntmps87
  go_wp2_with (refine wpList_load_row rfl 51 _ rfl w.heap.size rfl 51 _ (0, 0) _ hA.out Tryz.underlying51 rfl (by rw [size4, row4_size]) ?_)
  have hB0 := Lib.hid (bl_alloc (Below.refl w.heap.size w) (.cells (row4 f) 51))
  clear hz hs
  go_loopw [4] (fun i wr => ∃ k : Nat, k < 4 ∧ i = .int .i64 k ∧ Hid (∀ j, j < k → f j = 0) ∧ H4 wr w.heap.size f ∧ Below w.heap.size w wr) (fun i _ => 4 - (intOf i).toNat)
  case atStart => exact ⟨0, by omega, rfl, Lib.hid (fun j hj => absurd hj (by omega)), hA.out, hB0.out⟩
  case round =>
    clear hA hB0
    obtain ⟨k, hk, rfl, HZ, h1, hB⟩ := hrel
    have hc1 := h1.cell hk
    by_cases hq : f k = 0
    · have hx := word_zero hq
      have hk3 : k < 3 := by
        rcases Nat.lt_or_ge k 3 with h | h
        · exact h
        · exfalso
          apply HN.out
          intro j hj
          by_cases e : j = k
          · rw [e, hq]; rfl
          · exact HZ.out j (by omega)
      have HZ2 := Lib.hid (show ∀ j, j < k + 1 → f j = 0 from fun j hj => by
        by_cases e : j = k
        · rw [e, hq]
        · exact HZ.out j (by omega))
      have H1 := Lib.hid h1
      have HB := Lib.hid hB
      clear hq HZ h1 hB
      go_wp2
      exact ⟨⟨k + 1, by omega, by go_num, HZ2, H1.out, HB.out⟩, by simp [intOf]; omega⟩
    · have hx := word_some hq
      obtain ⟨l1, l2, l3⟩ := low_spec (f k) hq
      obtain ⟨l, hl, _⟩ := elems_least f k (low (f k)) hk l1 HZ.out l3 l2
      have HL := Lib.hid hl
      have HQ := Lib.hid hq
      have HB := Lib.hid hB
      have hc1' := hc1
      clear hl hq hB l2 l3 h1 HZ
      go_wp2_with fail
      refine (tz_any (f k) HQ.out _ (HT.out.below HB.out)).mono ?_
      rintro e w' ⟨rfl, rfl⟩
      obtain ⟨z, hz⟩ : ∃ z, low (f k) = z := ⟨_, rfl⟩
      rw [hz] at HL l1 ⊢
      clear hz
      go_wp2
      have e4 : (k : Int) * 64 + (z : Int) = ((64 * k + z : Nat) : Int) := by omega
      rw [e4]
      exact bodyPost_ret (v := .tuple #[.int .u8 ((64 * k + z : Nat) : Int), .bool true]) (by simp [results, Tryz.results87, go_sem]) rfl ⟨by rw [HL.out]; rfl, HB.out⟩
theorem least_any (f : Nat → BitVec 64) (w : World) (hT : Tab w) :
    Calls Tryz.prog 87 #[.agg (row4 f)] w (GotL w (elems f)) := by
  by_cases h : elems f = []
  · rw [h]
    exact least_none f h w
  · exact least_some f h w hT

end Go.Proofs.YtcgfogdfcdndgaaGreatDoor
