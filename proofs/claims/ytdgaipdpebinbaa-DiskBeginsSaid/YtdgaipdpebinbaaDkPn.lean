/- A law that stores in its own memory beside a disk; names of one letter. No condition but what each statement names. -/
import Derived.Test.YtdgaipdpebinbaaDkPa
import Derived.Test.YtdgaipdpebinbaaDkPm
import Derived.Test.YtdgaipdpebinbaaDkLw
set_option linter.unusedVariables false
set_option linter.unusedSimpArgs false
namespace Go.Proofs.Ytdgaipdpebinbaa
open Go.RowKit Go.Maps Go.Shelf Go.Sort Go.ChangeShapes Go.WideShapes Go.ChangeAt

theorem upd_up {α : Type} : @upd α = @upE α := rfl
theorem name_nat (n : Nat) : ((nameE n).toNat : Int) = 97 + (n % 3 : Nat) := by
  unfold nameE
  rw [UInt8.toNat_ofNat']
  omega
theorem name_nm (n : Nat) : [nameE n] = nm (n % 3) := rfl

theorem byte_at (x : UInt8) (g : Nat) (hx : (x.toNat : Int) = 97 + g) (hg : g < 3) (h : 0 < (⟨#[x]⟩ : ByteArray).size) : wrap64 (wrap64 (((⟨#[x]⟩ : ByteArray)[0]'h).toNat : Int) - 97) = (g : Int) := by
  show wrap64 (wrap64 (x.toNat : Int) - 97) = _
  rw [w64 (x.toNat : Int) (by omega) (by omega), w64 ((x.toNat : Int) - 97) (by omega) (by omega)]
  omega
theorem name_of (W : World) (x : Int) (u : UInt8) (hx : x = (u.toNat : Int)) : (convert 30 9 (.slice (some ⟨W.heap.size, 0, none⟩) 1 1)).run Try.prog (W.alloc (.cells #[.int .u8 x] 5)) = .ok (.string ⟨#[u]⟩) (W.alloc (.cells #[.int .u8 x] 5)) :=
  string_of _ _ 1 1 [u] rfl (by
    intro _
    refine ⟨_, rfl, fun j hj => ?_⟩
    have hj0 : j = 0 := by simp at hj; omega
    subst hj0
    rw [hx]
    simp [Addr.add, bv])
end Go.Proofs.Ytdgaipdpebinbaa
