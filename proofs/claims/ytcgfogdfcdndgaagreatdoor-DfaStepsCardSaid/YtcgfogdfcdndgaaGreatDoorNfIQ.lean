/- A net with its edges by states, made. -/
import Derived.Test.YtcgfogdfcdndgaaGreatDoorNfHQ
import Derived.Deep.DeepCutAuto
set_option linter.unusedVariables false
set_option linter.unusedSimpArgs false
namespace Go.Proofs.YtcgfogdfcdndgaaGreatDoor
open Go.RowKit
attribute [local go_sem] Oper.semAt_some

theorem agg_net (w : World) : (isAgg 25).run Tryz.prog w = .ok true w := by kernel_rfl
theorem sz_net (w : World) : (sizeOf 25).run Tryz.prog w = .ok 3 w := by kernel_rfl
theorem agg_edge (w : World) : (isAgg 53).run Tryz.prog w = .ok true w := by kernel_rfl
theorem sz_edge (w : World) : (sizeOf 53).run Tryz.prog w = .ok 7 w := by kernel_rfl
theorem wp_load_part {o : Oper} {a : Act} {w : World} {K : Act → World → Prop} {Q : Exit → Act → World → Prop} (ty : TypeId) (k : Nat) (x : Operand) (ho : o.op = .load ty x) (ad : Addr) (hx : a.eval x = .pointer (some ad)) (vs : List Value)
    (hagg : (isAgg ty).run Tryz.prog w = .ok true w) (hsz : (sizeOf ty).run Tryz.prog w = .ok k w) (hk : vs.length = k) (hc : ∀ j u, vs[j]? = some u → w.cell? (ad.add j) = some u)
    (h : K (a.put o.dst (.agg vs.toArray)) w) : o.wp Tryz.prog a w K Q := by
  unfold Oper.wp execOp
  simp only [ho, hx, Instr.loadAt, Instr.sureAddr, Sem.run_bind, Sem.run_pure, Result.andThen_ok, run_load_part ty k w ad vs hagg hsz hk hc]
  exact h
theorem wpList_load_part {ops : Array Oper} {rest : List Oper} {o : Oper} {a : Act} {w : World} {Q : Exit → Act → World → Prop} (ty : TypeId) (k : Nat) (x : Operand) (hgd : o.guard = none) (ho : o.op = .load ty x) (ad : Addr) (hx : a.eval x = .pointer (some ad)) (vs : List Value)
    (hagg : (isAgg ty).run Tryz.prog w = .ok true w) (hsz : (sizeOf ty).run Tryz.prog w = .ok k w) (hk : vs.length = k) (hc : ∀ j u, vs[j]? = some u → w.cell? (ad.add j) = some u)
    (h : wpList Tryz.prog ops Q rest (a.put o.dst (.agg vs.toArray)) w) : wpList Tryz.prog ops Q (o :: rest) a w :=
  wpList_plain hgd fun _ hK => wp_load_part ty k x ho ad hx vs hagg hsz hk hc (hK _ _ h)
section
variable {W wr wr' : World} {g1 g2 gs gb gp S : Nat} {Ae Ax : Option Addr} {ne ce nx cx : Nat} {fb fp fb' fp' : Nat → Nat}
end
end Go.Proofs.YtcgfogdfcdndgaaGreatDoor
