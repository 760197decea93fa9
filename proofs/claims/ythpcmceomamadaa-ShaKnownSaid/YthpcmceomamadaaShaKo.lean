/- For the walk of ShaKnown: arrays and lists of known numbers. No condition. -/
import Derived.Test.YthpcmceomamadaaShaKn
import Derived.Test.YthpcmceomamadaaShaBk
set_option linter.unusedVariables false
set_option linter.unusedSimpArgs false
namespace Go.Proofs.Ythpcmceomamadaa
open Go.RowKit

/-- n numbers, below 0 too, can be read in block g. -/
def RdZ (w : World) (g n : Nat) (f : Nat → Int) : Prop := g < w.heap.size ∧ ∀ j, j < n → w.cell? ⟨g, j, none⟩ = some (.int .i64 (f j))
theorem RdZ.below {w w' : World} {g n : Nat} {f : Nat → Int} (h : RdZ w g n f) (hb : Below w.heap.size w w') : RdZ w' g n f :=
  ⟨Nat.lt_of_lt_of_le h.1 hb.size, fun j hj => (hb.cell (p := ⟨g, j, none⟩) h.1).trans (h.2 j hj)⟩
def powZ (j : Nat) : Int := [-1, 0, 1, 2, 3, 4].getD j 0
def numZ (j : Nat) : Int := [-1, 0, 1, 2, 3, 311, 999, 1000, 1001, 9223372036854775807, -9223372036854775808].getD j 0
theorem powZ_in : ∀ j, j < 6 → -9223372036854775808 ≤ powZ j ∧ powZ j ≤ 9223372036854775807 := by decide +kernel
theorem numZ_in : ∀ j, j < 11 → -9223372036854775808 ≤ numZ j ∧ numZ j ≤ 9223372036854775807 := by decide +kernel
theorem powZ_lit (w : World) : RdZ (w.alloc (.cells #[.int .i64 (-1), .int .i64 0, .int .i64 1, .int .i64 2, .int .i64 3, .int .i64 4] 3)) w.heap.size 6 powZ :=
  ⟨by simp, fun j hj => by
    rw [cell_of_row _ _ j _ _ _ (heap_alloc_new w _)]
    match j, hj with
    | 0, _ => rfl
    | 1, _ => rfl
    | 2, _ => rfl
    | 3, _ => rfl
    | 4, _ => rfl
    | 5, _ => rfl⟩
theorem numZ_lit (w : World) : RdZ (w.alloc (.cells #[.int .i64 (-1), .int .i64 0, .int .i64 1, .int .i64 2, .int .i64 3, .int .i64 311, .int .i64 999, .int .i64 1000, .int .i64 1001, .int .i64 9223372036854775807, .int .i64 (-9223372036854775808)] 3)) w.heap.size 11 numZ :=
  ⟨by simp, fun j hj => by
    rw [cell_of_row _ _ j _ _ _ (heap_alloc_new w _)]
    match j, hj with
    | 0, _ => rfl
    | 1, _ => rfl
    | 2, _ => rfl
    | 3, _ => rfl
    | 4, _ => rfl
    | 5, _ => rfl
    | 6, _ => rfl
    | 7, _ => rfl
    | 8, _ => rfl
    | 9, _ => rfl
    | 10, _ => rfl⟩

/-- n words (strings) can be read in block g, none of them long. -/
def RdT (w : World) (g n : Nat) : Prop := g < w.heap.size ∧ ∀ j, j < n → ∃ l : List UInt8, l.length ≤ 100 ∧ w.cell? ⟨g, j, none⟩ = some (.string ⟨l.toArray⟩)
theorem RdT.below {w w' : World} {g n : Nat} (h : RdT w g n) (hb : Below w.heap.size w w') : RdT w' g n :=
  ⟨Nat.lt_of_lt_of_le h.1 hb.size, fun j hj => by
    obtain ⟨l, h1, h2⟩ := h.2 j hj
    exact ⟨l, h1, (hb.cell (p := ⟨g, j, none⟩) h.1).trans h2⟩⟩

/-- Digests that are laid down in part. -/
def digA (b : UInt8) (j : Nat) : UInt8 := if j = 0 then b else if j = 1 then 255 else if j = 2 then 16 else 0
def digB (b : UInt8) (j : Nat) : UInt8 := if j = 31 then b else 0
theorem builtA (b : UInt8) : Try.prog.built 37 [(0, .int .u8 (b.toNat : Int)), (1, .int .u8 255), (2, .int .u8 16)] = some (rowB 32 (digA b)) := by
  kernel_rfl
theorem builtB (b : UInt8) : Try.prog.built 37 [(31, .int .u8 (b.toNat : Int))] = some (rowB 32 (digB b)) := by
  kernel_rfl
theorem built0 : Try.prog.built 31 [] = some (rowF 8 (S8.of fun _ => 0).get) := by
  kernel_rfl
theorem built1 : Try.prog.built 31 [(0, .int .u32 4294967295)] = some (rowF 8 (S8.of fun j => if j = 0 then 4294967295 else 0).get) := by
  kernel_rfl

theorem texts_lit (w : World) (l0 l1 l2 l3 l4 l5 l6 l7 l8 : List UInt8) (h0 : l0.length ≤ 99) (h1 : l1.length ≤ 99) (h2 : l2.length ≤ 99) (h3 : l3.length ≤ 99) (h4 : l4.length ≤ 99) (h5 : l5.length ≤ 99) (h6 : l6.length ≤ 99) (h7 : l7.length ≤ 99) (h8 : l8.length ≤ 99) : RdT (w.alloc (.cells #[.string ⟨#[]⟩, .string ⟨l0.toArray⟩, .string ⟨l1.toArray⟩, .string ⟨l2.toArray⟩, .string ⟨l3.toArray⟩, .string ⟨l4.toArray⟩, .string ⟨l5.toArray⟩, .string ⟨l6.toArray⟩, .string ⟨l7.toArray⟩, .string (⟨l8.toArray⟩ ++ ⟨#[32]⟩)] 9)) w.heap.size 10 :=
  ⟨by simp, fun j hj => by
    rw [cell_of_row _ _ j _ _ _ (heap_alloc_new w _)]
    match j, hj with
    | 0, _ => exact ⟨[], by simp, rfl⟩
    | 1, _ => exact ⟨l0, by omega, rfl⟩
    | 2, _ => exact ⟨l1, by omega, rfl⟩
    | 3, _ => exact ⟨l2, by omega, rfl⟩
    | 4, _ => exact ⟨l3, by omega, rfl⟩
    | 5, _ => exact ⟨l4, by omega, rfl⟩
    | 6, _ => exact ⟨l5, by omega, rfl⟩
    | 7, _ => exact ⟨l6, by omega, rfl⟩
    | 8, _ => exact ⟨l7, by omega, rfl⟩
    | 9, _ => exact ⟨l8 ++ [32], by simp; omega, by show some (Value.string (⟨l8.toArray⟩ ++ ⟨[32].toArray⟩)) = _; rw [ByteArray.mk_append_mk]⟩⟩

theorem wpList_buildG {P : Program} {ops : Array Oper} {rest : List Oper} {o : Oper} {a : Act} {w : World} {Q : Exit → Act → World → Prop} (hgd : Region.wanted o (yielded ops a.tmps) = true) (t : TypeId) (parts : Array (Nat × Operand)) (ho : o.op = .build t parts)
    (d : Option Tmp) (hd : o.dst = d) (cells : Array Value) (hf : P.built t (parts.map fun (i, x) => (i, a.eval x)).toList = some cells)
    (h : wpList P ops Q rest (a.put d (.agg cells)) w) : wpList P ops Q (o :: rest) a w := by
  subst hd
  refine wpList_step fun K hK => ?_
  rw [if_pos hgd]
  refine wp_build t parts ho (by rw [hf]; rfl) ?_
  rw [hf]
  exact hK _ _ h

end Go.Proofs.Ythpcmceomamadaa
