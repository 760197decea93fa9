/- Words of one byte, many times, and their bytes. No condition. -/
import Derived.Test.YthpcmceomamadaaShaV
import Derived.Test.YthpcmceomamadaaShelf
import Derived.Laws.IdiomStrings
set_option linter.unusedVariables false
set_option linter.unusedSimpArgs false
namespace Go.Proofs.Ythpcmceomamadaa
open Go.RowKit

/-- A byte, n times. -/
def rep (b : UInt8) (n : Nat) : List UInt8 := List.replicate n b
theorem rep_len (b : UInt8) (n : Nat) : (rep b n).length = n := by simp [rep]
theorem repeatL_one (b : UInt8) : ∀ n, Lib.repeatL [b] n = rep b n
  | 0 => rfl
  | n + 1 => by rw [Lib.repeatL, repeatL_one b n]; rfl
theorem rep_any (b : UInt8) (n : Nat) (z : Int) (hz : (n : Int) = z) (hn : n ≤ 1000) (w : World) : Calls Try.prog 22 #[.string ⟨#[b]⟩, .int .i64 z] w (GotS w (rep b n)) := by
  subst hz
  rcases n with _ | _ | n
  · refine (Try.strings_Repeat_zero ⟨#[b]⟩ w).mono ?_
    rintro e w' ⟨rfl, rfl⟩
    exact ⟨rfl, Below.refl _ _⟩
  · refine (Try.strings_Repeat_one ⟨#[b]⟩ w).mono ?_
    rintro e w' ⟨rfl, rfl⟩
    exact ⟨rfl, Below.refl _ _⟩
  · refine (Try.strings_Repeat_main ⟨#[b]⟩ (n + 1 + 1) w (by omega) (by omega) (by show 1 * _ ≤ _; omega) (by show 0 < 1; omega)).mono ?_
    rintro e w' ⟨rfl, hb⟩
    refine ⟨?_, hb⟩
    have h := repeatL_one b (n + 1 + 1)
    show Ending.returned (.string ⟨(Lib.repeatL [b] (n + 1 + 1)).toArray⟩) = _
    rw [h]

/-- Bytes out of a word: where they lie. -/
theorem rd_row_of (w : World) (l : List UInt8) (cap : Nat) (fr : Nat × Nat) (hc : l.length ≤ cap) : Rd (w.drew.alloc (.cells (bytesRow ⟨l.toArray⟩ cap) 5 fr)) (some ⟨w.heap.size, 0, none⟩) l := fun h0 => by
  refine ⟨_, rfl, fun j hj => ?_⟩
  rw [add_zero_at]
  show (w.drew.alloc (.cells (bytesRow ⟨l.toArray⟩ cap) 5 fr)).cell? ⟨w.drew.heap.size, j, none⟩ = _
  rw [cell_of_row _ _ j _ 5 fr (heap_alloc_new w.drew _)]
  unfold bytesRow
  rw [Array.getElem?_append_left (by simp; omega)]
  simp [hj, bv]
/-- '[]byte(s)'. -/
theorem bytes_of (w : World) (l : List UInt8) (hl : l.length ≤ maxLen) : ∃ cap w', l.length ≤ cap ∧ cap ≤ 9223372036854775807 ∧ Below w.heap.size w w' ∧ Rd w' (some ⟨w.heap.size, 0, none⟩) l ∧
    (convert 9 28 (.string ⟨l.toArray⟩)).run Try.prog w = .ok (.slice (some ⟨w.heap.size, 0, none⟩) l.length cap) w' := by
  have h := run_bytes_of_string (P := Try.prog) w 9 28 5 ⟨l.toArray⟩ Try.underlying9 Try.underlying28 Try.underlying5
  have hs : (⟨l.toArray⟩ : ByteArray).size = l.length := by show l.toArray.size = _; simp
  rw [hs] at h
  have g1 := grownCap_ge w l.length 0 5
  have g2 := grownCap_le_maxLen w l.length 0 5 hl
  refine ⟨_, _, g1, by simpa only [maxLen] using g2, bl_alloc (Below.drew (Below.refl _ _)) _, rd_row_of w l _ _ g1, h⟩

end Go.Proofs.Ythpcmceomamadaa
