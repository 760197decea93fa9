/- string(b) of bytes. -/
import Derived.Test.YtncpkblgiepdpaaGreatBytes
import Derived.Lib.Hide
import Derived.LoopTactic
import Derived.WalkSpells
import Derived.Lib.SlBytesConst
set_option linter.unusedVariables false
namespace Go.Proofs.YtncpkblgiepdpaaGreat
open Go.RowKit

/-- 'string(b)'. -/
theorem string_of (w : World) (A : Option Addr) (n c : Nat) (l : List UInt8) (hl : l.length = n) (hr : Rd w A l) : (convert 22 9 (.slice A n c)).run Tryz.prog w = .ok (.string ⟨l.toArray⟩) w := by
  subst hl
  rcases A with _ | ad
  · have h0 : l = [] := by
      rcases l with _ | ⟨x, r⟩
      · rfl
      · obtain ⟨ad, h, _⟩ := hr (by simp)
        cases h
    subst h0
    exact run_convert_bytes_nil w _ _ Tryz.underlying22 Tryz.underlying5 0 c _ Tryz.underlying9
  · rw [run_convert_bytes_string w _ _ _ _ _ c Tryz.underlying22 Tryz.underlying5 Tryz.underlying9]
    have hcells : ∀ j u, (l.map bv)[j]? = some u → w.cell? (ad.add j) = some u := by
      intro j u hu
      rw [List.getElem?_map] at hu
      obtain ⟨x, hx, rfl⟩ := Option.map_eq_some_iff.1 hu
      obtain ⟨hj, rfl⟩ := List.getElem?_eq_some_iff.1 hx
      obtain ⟨ad', e, hc⟩ := hr (by omega)
      cases e
      exact hc j hj
    have e : l.map bv = (l.map fun b => (b.toNat : Int)).map (Value.int .u8) := by rw [List.map_map]; rfl
    have hload := run_loadCells_list (P := Tryz.prog) w ad (l.map bv) hcells
    rw [List.length_map, e] at hload
    rw [run_bytesToString w ad l.length c (l.map fun b => (b.toNat : Int)) hload, foldl_push_bytes]
    simp [ByteArray.empty, ByteArray.emptyWithCapacity, Function.comp_def]
    rfl

end Go.Proofs.YtncpkblgiepdpaaGreat
