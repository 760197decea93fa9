/- For ShaChain: blocks in two turns, a slice cut in two. No condition. -/
import Derived.Test.YthpcmceomamadaaShaCf
import Derived.Test.YthpcmceomamadaaShaPd
set_option linter.unusedVariables false
set_option linter.unusedSimpArgs false
namespace Go.Proofs.Ythpcmceomamadaa
open Go.RowKit

theorem blockAt_drop (l : List UInt8) (k m : Nat) : blockAt (l.drop (64 * k)) m = blockAt l (k + m) := by
  unfold blockAt
  rw [List.drop_drop]
  congr 2
  omega
theorem blockAt_take (l : List UInt8) (K j : Nat) (h : j < K) : blockAt (l.take (64 * K)) j = blockAt l j := by
  unfold blockAt
  rw [List.drop_take, List.take_take]
  congr 1
  omega
/-- The rest of the blocks, from what the first k have made. -/
theorem fold_split (h : S8) (l : List UInt8) (k : Nat) : ∀ m, foldE (foldE h l k) (l.drop (64 * k)) m = foldE h l (k + m)
  | 0 => rfl
  | m + 1 => by
    show blockE (foldE (foldE h l k) (l.drop (64 * k)) m) (blockAt (l.drop (64 * k)) m) = blockE (foldE h l (k + m)) (blockAt l (k + m))
    rw [fold_split h l k m, blockAt_drop]
theorem fold_take (h : S8) (l : List UInt8) (K : Nat) : ∀ k, k ≤ K → foldE h (l.take (64 * K)) k = foldE h l k
  | 0, _ => rfl
  | k + 1, hk => by
    show blockE (foldE h (l.take (64 * K)) k) (blockAt (l.take (64 * K)) k) = blockE (foldE h l k) (blockAt l k)
    rw [fold_take h l K k (by omega), blockAt_take l K k (by omega)]

/-- Both turns make what all the blocks make. -/
theorem fold_both (l : List UInt8) (k m : Nat) (hk : k ≤ m) (hm : padN l.length = 64 * m) : foldE (foldE beginE ((padE l).take (64 * k)) k) ((padE l).drop (64 * k)) (m - k) = stateE l := by
  rw [fold_take _ _ _ _ (Nat.le_refl _), fold_split]
  unfold stateE
  rw [hm]
  congr 1
  omega

/-- 'b[:k]'. -/
theorem cut_head (ad : Addr) (n c k : Nat) (hk : k ≤ n) (hnc : n ≤ c) (W : World) :
    (Instr.slice 28 (.slice (some ad) n c) none (some (.int .i64 (k : Int))) none).run Try.prog W = .ok (.slice (some ad) k c) W := by
  obtain ⟨i, hi, _, hs1, _⟩ := info_parts info_u8
  have he : Try.prog.elem 28 = 5 := by kernel_rfl
  have h1 : k ≤ c := by omega
  have hb : (Instr.sliceBounds true n c none (some (.int .i64 (k : Int))) none).run Try.prog W = .ok (0, k, c) W := by
    simp [Instr.sliceBounds, go_sem, h1]
  rw [run_slice_any W 28 (some ad) n c (by rw [he]; exact Try.underlying28), hb]
  simp [sizeOf, typeInfo, he, hi, hs1, sliced, Result.andThen]
  intro _
  unfold Addr.add
  split <;> simp_all

theorem begin_row : rowF 8 hW = rowF 8 beginE.get := by
  unfold beginE
  generalize hW = f
  exact rowF_congr 8 fun j hj => (S8.of_get f j hj).symm
/-- Begin, said of eight words. -/
theorem begin_s (w : World) : Calls Try.prog 15 #[] w fun e w' => e = .returned (.agg (rowF 8 beginE.get)) ∧ Below w.heap.size w w' := by
  rw [← begin_row]
  exact begin_f w

end Go.Proofs.Ythpcmceomamadaa
