/- Words of 32 bits over the translated program: sums, exclusive or, and, not, shifts; turned (the program's and the document's). No condition but that a turn is by 1 to 31. -/
import Derived.Test.YthpcmceomamadaaBytes
import Derived.Test.YthpcmceomamadaaShaN
import Derived.LoopTactic
import Derived.Deep.QuietTactic
import Derived.BigQuiet
import Derived.Outline
import Derived.Lib.Hide
import Derived.WalkSpells
set_option linter.unusedVariables false
namespace Go.Proofs.Ythpcmceomamadaa
open Go.RowKit

theorem ofInt32 (x : BitVec 32) : BitVec.ofInt 32 (x.toNat : Int) = x := by
  rw [BitVec.ofInt_natCast]; simp
theorem xor32 (x y : BitVec 32) : bits .xor .u32 (x.toNat : Int) (y.toNat : Int) = ((x ^^^ y).toNat : Int) := by
  show IntKind.u32.wrap ((BitVec.ofInt 32 (x.toNat : Int) ^^^ BitVec.ofInt 32 (y.toNat : Int)).toNat : Int) = _
  rw [ofInt32, ofInt32, IntWalk.u32_in]
  have := (x ^^^ y).isLt
  omega
theorem and32 (x y : BitVec 32) : bits .and .u32 (x.toNat : Int) (y.toNat : Int) = ((x &&& y).toNat : Int) := by
  show IntKind.u32.wrap ((BitVec.ofInt 32 (x.toNat : Int) &&& BitVec.ofInt 32 (y.toNat : Int)).toNat : Int) = _
  rw [ofInt32, ofInt32, IntWalk.u32_in]
  have := (x &&& y).isLt
  omega
theorem or32 (x y : BitVec 32) : bits .or .u32 (x.toNat : Int) (y.toNat : Int) = ((x ||| y).toNat : Int) := by
  show IntKind.u32.wrap ((BitVec.ofInt 32 (x.toNat : Int) ||| BitVec.ofInt 32 (y.toNat : Int)).toNat : Int) = _
  rw [ofInt32, ofInt32, IntWalk.u32_in]
  have := (x ||| y).isLt
  omega
theorem not32 (x : BitVec 32) : bits .xor .u32 IntKind.u32.max (x.toNat : Int) = ((~~~ x).toNat : Int) := by
  have e : IntKind.u32.max = ((BitVec.allOnes 32).toNat : Int) := by decide
  rw [e, xor32, BitVec.allOnes_xor]
theorem half32 (x : BitVec 32) (n : Nat) : ((x >>> n).toNat : Int) = (x.toNat : Int) / 2 ^ n := by
  rw [BitVec.toNat_ushiftRight, Nat.shiftRight_eq_div_pow]; simp
theorem twice32 (x : BitVec 32) (n : Nat) : ((x <<< n).toNat : Int) = (x.toNat : Int) * 2 ^ n % 4294967296 := by
  rw [BitVec.toNat_shiftLeft, Nat.shiftLeft_eq]; simp
theorem add32 (x y : BitVec 32) : ((x + y).toNat : Int) = ((x.toNat : Int) + (y.toNat : Int)) % 4294967296 := by
  rw [BitVec.toNat_add]; simp


/-- A number of 32 bits, and a world that has not turned. -/
def Same32 (w : World) (x : BitVec 32) (e : Ending) (w' : World) : Prop := e = .returned (.int .u32 (x.toNat : Int)) ∧ w = w'

theorem turn_by : ∀ n : Nat, n < 32 → 1 ≤ n → bits .and .u64 (IntKind.u64.wrap (-(n : Int))) 31 = 32 - (n : Int) := by decide +kernel

set_option maxHeartbeats 400000 in
set_option maxRecDepth 20000 in
theorem rot_any (x : BitVec 32) (n : Nat) (w : World) (h1 : 1 ≤ n) (h2 : n ≤ 31) :
    Calls Try.prog 67 #[.int .u32 (x.toNat : Int), .int .i64 (-(n : Int))] w (Same32 w (rr x n)) := by
  have hs := turn_by n (by omega) h1
  have hz : 0 ≤ (32 : Int) - n := by omega
  have hz2 : (32 : Int) - n ≤ 32 := by omega
  have hw : (32 : Int) - (32 - (n : Int)) = n := by omega
  go_enter Try.func67, Try.ntmps67
  go_wp2_with fail
  go_ret
  refine ⟨?_, rfl⟩
  show Ending.returned (Value.int IntKind.u32 (bits BinOp.or IntKind.u32 ((x.toNat : Int) * 2 ^ (32 - n) % 4294967296) ((x.toNat : Int) / 2 ^ n))) = _
  rw [← twice32, ← half32, or32, BitVec.or_comm]
  rfl

/-- A number of 32 bits, and a world that has drawn. -/
def Quiet32 (w : World) (x : BitVec 32) (e : Ending) (w' : World) : Prop := e = .returned (.int .u32 (x.toNat : Int)) ∧ ∃ n, w' = w.drewN n

set_option maxHeartbeats 400000 in
set_option maxRecDepth 20000 in
theorem turned_any (x : BitVec 32) (n : Nat) (w : World) (h1 : 1 ≤ n) (h2 : n ≤ 31) :
    Calls Try.prog 56 #[.int .u32 (x.toNat : Int), .int .i64 (n : Int)] w (Same32 w (rr x n)) := by
  go_enter Try.func56, Try.ntmps56
  go_wp2_with fail
  refine (rot_any x n _ h1 h2).mono ?_
  rintro e w1 ⟨rfl, rfl⟩
  go_wp2
  go_ret
  exact ⟨rfl, rfl⟩

theorem turned_z (x : BitVec 32) (z : Int) (w : World) (h1 : 1 ≤ z) (h2 : z ≤ 31) :
    Calls Try.prog 56 #[.int .u32 (x.toNat : Int), .int .i64 z] w (Quiet32 w (rr x z.toNat)) := by
  obtain ⟨n, rfl⟩ : ∃ n : Nat, z = (n : Int) := ⟨z.toNat, by omega⟩
  exact (turned_any x n w (by omega) (by omega)).mono fun _ _ ⟨he, h⟩ => ⟨he, 0, h.symm⟩
theorem turned_s (x : BitVec 32) (z : Int) (w : World) (h1 : 1 ≤ z) (h2 : z ≤ 31) :
    Calls Try.prog 56 #[.int .u32 (x.toNat : Int), .int .i64 z] w (Same32 w (rr x z.toNat)) := by
  obtain ⟨n, rfl⟩ : ∃ n : Nat, z = (n : Int) := ⟨z.toNat, by omega⟩
  exact turned_any x n w (by omega) (by omega)

set_option maxHeartbeats 400000 in
set_option maxRecDepth 20000 in
theorem refTurn_any (x : BitVec 32) (n : Nat) (w : World) (h1 : 1 ≤ n) (h2 : n ≤ 31) :
    Calls Try.prog 57 #[.int .u32 (x.toNat : Int), .int .i64 (n : Int)] w (Quiet32 w (rr x n)) := by
  have hw := IntWalk.i64_in (32 - (n : Int)) (by omega)
  have hz : 0 ≤ (32 : Int) - n := by omega
  have hz2 : (32 : Int) - n ≤ 32 := by omega
  go_enter Try.func57, Try.ntmps57
  go_wp2
  go_quiet (fail)
  go_wp2
  go_ret
  refine ⟨?_, _, rfl⟩
  show Ending.returned (Value.int IntKind.u32 (bits BinOp.or IntKind.u32 ((x.toNat : Int) / 2 ^ n) ((x.toNat : Int) * 2 ^ (32 - n) % 4294967296))) = _
  rw [← twice32, ← half32, or32]
  rfl

end Go.Proofs.Ythpcmceomamadaa
