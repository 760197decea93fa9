/- Arguments of type uint32 and []int, opened. -/
import Derived.Test.YtdgaipdpebinbaaRow
set_option linter.unusedVariables false
namespace Go.Proofs.Ytdgaipdpebinbaa
open Go.ChangeShapes Go.WideShapes Go.ChangeAt Go.RowKit

set_option maxRecDepth 20000 in
/-- An argument of type uint32, opened. -/
theorem open_u32 {H : Type} {enc : TypeId × Value → H} {W : World} {base : Nat} {v : Value} {d : DataW H} {p : List MemPlace} (hv : Value.okWide Try.prog W .any base 43 v)
    (h0 : DataW.Trod enc Try.prog W 0 (fun _ => true) true 43 v d p) : ∃ x : BitVec 32, v = .int .u32 (x.toNat : Int) := by
  obtain ⟨n, rfl, rfl, rfl, hw⟩ := open_int Try.underlying43 hv h0
  have h : 0 ≤ n ∧ n ≤ 4294967295 := by simpa [Lit.wf, IntKind.min, IntKind.max, IntKind.signed, IntKind.bits] using hw
  refine ⟨BitVec.ofNat 32 n.toNat, ?_⟩
  rw [BitVec.toNat_ofNat, Nat.mod_eq_of_lt (by omega), Int.toNat_of_nonneg h.1]

end Go.Proofs.Ytdgaipdpebinbaa
