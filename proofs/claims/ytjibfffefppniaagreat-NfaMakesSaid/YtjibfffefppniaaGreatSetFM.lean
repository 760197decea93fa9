/- Less over the translated program, and what its walk and the laws' walks want of regions that draw their order. No condition. -/
import Derived.Deep.CutRange
import Derived.Deep.RegionHeld3
import Derived.Test.YtjibfffefppniaaGreatSetDM
set_option linter.unusedVariables false
set_option linter.unusedSimpArgs false
namespace Go.Proofs.YtjibfffefppniaaGreat
open Go.RowKit

/-- A set out of a block of its own, whichever operation comes up first. -/
theorem yields_set {ops : Array Oper} {S : World → Prop} {op : Oper} {a : Act} (hw : Region.wanted op (yielded ops a.tmps) = true) (x : Operand) (ho : op.op = .load 37 x)
    (g : Nat) (hx : a.eval x = .pointer (some ⟨g, 0, none⟩)) (f : Nat → BitVec 64) (hS : ∀ w, S w → H4 w g f) : YieldsIf Tryz.prog ops S op (.agg (row4 f)) a :=
  .inl ⟨hw, fun w hw' => by
    unfold execOp
    simp only [ho, hx, Instr.loadAt, Instr.sureAddr, Sem.run_bind, Sem.run_pure, Result.andThen_ok, run_loadVar_row w g 37 37 _ _ _ (hS w hw') Tryz.underlying37 rfl (by rw [size4, row4_size])]⟩

end Go.Proofs.YtjibfffefppniaaGreat
