/- A walk over a net: the edges of a state that are asked for. -/
import Derived.Test.YtcgfogdfcdndgaaGreatDoorNfAQ
import Derived.Deep.RegionHeld3
set_option linter.unusedVariables false
set_option linter.unusedSimpArgs false
namespace Go.Proofs.YtcgfogdfcdndgaaGreatDoor
open Go.RowKit

theorem addr_mk (g o j : Nat) : (⟨g, o, none⟩ : Addr).add j = ⟨g, o + j, none⟩ := by unfold Addr.add; split <;> simp_all
theorem run_load_part (ty : TypeId) (k : Nat) (w : World) (ad : Addr) (vs : List Value) (hagg : (isAgg ty).run Tryz.prog w = .ok true w) (hsz : (sizeOf ty).run Tryz.prog w = .ok k w) (hk : vs.length = k) (h : ∀ j u, vs[j]? = some u → w.cell? (ad.add j) = some u) : (loadVar ty ad).run Tryz.prog w = .ok (.agg vs.toArray) w := by
  have hl := run_loadCells_list (P := Tryz.prog) w ad vs h
  rw [hk] at hl
  simp [loadVar, Sem.run_bind, hagg, hsz, hl]
/-- A structure out of a block's midst, whichever operation comes up first. -/
theorem yields_part {ops : Array Oper} {S : World → Prop} {op : Oper} {a : Act} (ty : TypeId) (k : Nat) (hw : Region.wanted op (yielded ops a.tmps) = true) (x : Operand) (ho : op.op = .load ty x)
    (ad : Addr) (hx : a.eval x = .pointer (some ad)) (vs : List Value) (hagg : ∀ w, (isAgg ty).run Tryz.prog w = .ok true w) (hsz : ∀ w, (sizeOf ty).run Tryz.prog w = .ok k w) (hk : vs.length = k) (hS : ∀ w, S w → ∀ j u, vs[j]? = some u → w.cell? (ad.add j) = some u) : YieldsIf Tryz.prog ops S op (.agg vs.toArray) a :=
  .inl ⟨hw, fun w hw' => by
    unfold execOp
    simp only [ho, hx, Instr.loadAt, Instr.sureAddr, Sem.run_bind, Sem.run_pure, Result.andThen_ok, run_load_part ty k w ad vs (hagg w) (hsz w) hk (hS w hw')]⟩
theorem agg_st (w : World) : (isAgg 51).run Tryz.prog w = .ok true w := by kernel_rfl
theorem sz_st (w : World) : (sizeOf 51).run Tryz.prog w = .ok 4 w := by kernel_rfl

end Go.Proofs.YtcgfogdfcdndgaaGreatDoor

/- A walk over a net: those that edges of a state lead to. -/
set_option linter.unusedVariables false
set_option linter.unusedSimpArgs false
namespace Go.Proofs.YtcgfogdfcdndgaaGreatDoor
open Go.RowKit

section
variable {W0 W W' : World} {n1 g gm gb gp S : Nat} {Ae : Option Addr} {ne ce : Nat} {E : List Ed} {Xv : Value} {fb fp : Nat → Nat} {rd : Nat} {f : Nat → Nat} {l : List Nat} {v : Value}
theorem OwnI.below {base : Nat} (h : OwnI W base v l) (hb : Below W.heap.size W W') : OwnI W' base v l := World.ownsRow.kept h (grown_of_below hb none) (by cases v.ownBlock <;> simp)
end

end Go.Proofs.YtcgfogdfcdndgaaGreatDoor

/- A walk over a net: what is reached for nothing, and what is behind a byte. -/
set_option linter.unusedVariables false
set_option linter.unusedSimpArgs false
namespace Go.Proofs.YtcgfogdfcdndgaaGreatDoor
open Go.RowKit

end Go.Proofs.YtcgfogdfcdndgaaGreatDoor
