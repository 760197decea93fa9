/- 'make([]byte, n)': a row of noughts. -/
import Derived.Test.YtobfmlgoelmcpaaCrcC
set_option linter.unusedVariables false
namespace Go.Proofs.Ytobfmlgoelmcpaa
open Go.RowKit

/-- A row of noughts. -/
def nulls (n : Nat) : Array Value := ((List.replicate n (0 : UInt8)).map bv).toArray
theorem nulls_made (n : Nat) : madeCells #[Value.int .u8 0] n = nulls n := by
  unfold madeCells nulls
  apply Array.ext
  · simp
  · intro i h1 h2
    simp [Nat.mod_one, bv]
/-- 'make([]byte, n)'. -/
theorem make_bytes (n : Nat) (z : Int) (hz : (n : Int) = z) (hn : n ≤ 100000) (W : World) :
    (Instr.makeSlice 23 (.int .i64 z) (.int .i64 z)).run Try.prog W = .ok (.slice (some ⟨W.heap.size, 0, none⟩) n n) (W.alloc (.cells (nulls n) 5)) := by
  subst hz
  obtain ⟨i, hi, hz, hs, hb⟩ := info_parts info_u8
  rw [run_make (P := Try.prog) W 23 5 i (.int .u8 0) Try.underlying23 hi hz .i64 .i64 n n (by omega) (Int.le_refl _) (by rw [hb]; omega) (by omega), hs]
  have e : (Value.int .u8 0).cells = #[Value.int .u8 0] := rfl
  rw [e, Int.toNat_natCast, Nat.mul_one, nulls_made]
theorem rd_nulls (W : World) (n : Nat) : Rd (W.alloc (.cells (nulls n) 5)) (some ⟨W.heap.size, 0, none⟩) (List.replicate n 0) := Rd.litF W _ (0, 0)

end Go.Proofs.Ytobfmlgoelmcpaa
