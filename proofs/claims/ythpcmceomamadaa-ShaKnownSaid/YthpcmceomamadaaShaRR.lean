/- For the document's rounds (the walk itself is begun in wip/begun/rounds.txt). No condition. -/
import Derived.Test.YthpcmceomamadaaShaCf
set_option linter.unusedVariables false
set_option linter.unusedSimpArgs false
namespace Go.Proofs.Ythpcmceomamadaa
open Go.RowKit

/-- n words can be read in block g. -/
def RdW (w : World) (g n : Nat) (f : Nat → BitVec 32) : Prop := g < w.heap.size ∧ ∀ j, j < n → w.cell? ⟨g, j, none⟩ = some (.int .u32 ((f j).toNat : Int))
theorem RdW.below {w w' : World} {g n : Nat} {f : Nat → BitVec 32} (h : RdW w g n f) (hb : Below w.heap.size w w') : RdW w' g n f :=
  ⟨Nat.lt_of_lt_of_le h.1 hb.size, fun j hj => (hb.cell (p := ⟨g, j, none⟩) h.1).trans (h.2 j hj)⟩

/-- The first i rounds, by any words. -/
def goF (k w : Nat → BitVec 32) (s : S8) : Nat → S8
  | 0 => s
  | i + 1 => stepE (k i) (w i) (goF k w s i)
theorem goF_go (b : List UInt8) (s : S8) : ∀ i, goF kW (schW b) s i = goE b s i
  | 0 => rfl
  | i + 1 => by rw [goF, goE, goF_go b s i]

theorem one_of2 (h e x k w : BitVec 32) : (((h.toNat : Int) + (e.toNat : Int) + (x.toNat : Int) + (k.toNat : Int)) % 4294967296 + (w.toNat : Int)) % 4294967296 = ((h + e + x + k + w).toNat : Int) := by
  rw [BitVec.toNat_add, BitVec.toNat_add, BitVec.toNat_add, BitVec.toNat_add]
  omega
theorem tOne_is (k w : BitVec 32) (s : S8) : s.h + sb1 s.e + ch3 s.e s.f s.g + k + w = tOne k w s := rfl

theorem refTurn_z (x : BitVec 32) (z : Int) (w : World) (h1 : 1 ≤ z) (h2 : z ≤ 31) :
    Calls Try.prog 57 #[.int .u32 (x.toNat : Int), .int .i64 z] w (Quiet32 w (rr x z.toNat)) := by
  obtain ⟨n, rfl⟩ : ∃ n : Nat, z = (n : Int) := ⟨z.toNat, by omega⟩
  exact refTurn_any x n w (by omega) (by omega)

end Go.Proofs.Ythpcmceomamadaa
