/- The writer of patterns: stretchEnd, stretches. -/
import Derived.Test.YteedmkokbapkgaaDoorRgWr
set_option linter.unusedVariables false
set_option linter.unusedSimpArgs false
namespace Go.Proofs.YteedmkokbapkgaaDoor
open Go.RowKit

/-- How far a set goes on behind a byte. -/
def upE (s : S4) : Nat → Nat → Nat
  | 0, u => u
  | k + 1, u => if u < 255 ∧ hasS s (u + 1) = true then upE s k (u + 1) else u
theorem upE_le (s : S4) : ∀ k u, u ≤ upE s k u
  | 0, u => Nat.le_refl _
  | k + 1, u => by
    rw [upE]
    split
    · exact Nat.le_trans (Nat.le_succ _) (upE_le s k (u + 1))
    · exact Nat.le_refl _
theorem upE_lt (s : S4) : ∀ k u, u < 256 → upE s k u < 256
  | 0, u, h => h
  | k + 1, u, h => by
    rw [upE]
    split
    · rename_i h2
      exact upE_lt s k (u + 1) (by omega)
    · exact h
def endE (s : S4) (x : Nat) : Nat := if upE s 255 x - x < 2 then x else upE s 255 x
theorem endE_le (s : S4) (x : Nat) : x ≤ endE s x := by
  unfold endE
  split
  · exact Nat.le_refl _
  · exact upE_le s _ x
theorem endE_lt (s : S4) (x : Nat) (h : x < 256) : endE s x < 256 := by
  unfold endE
  split
  · exact h
  · exact upE_lt s _ x h
def GotU (w : World) (k : Nat) (e : Ending) (w' : World) : Prop := e = .returned (.int .u8 (k : Int)) ∧ Below w.heap.size w w'

theorem set_cells {w : World} {b : Nat} {s : S4} (h : HS w b s) : w.cell? ⟨b, 0, none⟩ = some (dv (s.f 0)) ∧ w.cell? ⟨b, 1, none⟩ = some (dv (s.f 1)) ∧ w.cell? ⟨b, 2, none⟩ = some (dv (s.f 2)) ∧ w.cell? ⟨b, 3, none⟩ = some (dv (s.f 3)) := by
  have h' : w.heap[b]? = some (.cells (row4 s.f) 57 (0, 0)) := h
  refine ⟨?_, ?_, ?_, ?_⟩ <;> (rw [cell_of_row w b _ _ _ _ h']; rfl)

set_option maxRecDepth 20000 in
set_option maxHeartbeats 1000000 in
theorem end_any (s : S4) (x : Nat) (hx : x < 256) (w : World) : Calls Tryd.prog 94 #[encS s, .int .u8 (x : Int)] w (GotU w (endE s x)) := by
  generalize hQ : GotU w (endE s x) = Q
  have HQ := Lib.hid hQ
  clear hQ
  have HB := Lib.hid (bl_alloc (Below.refl w.heap.size w) (.cells (row4 s.f) 57))
  have HS0 : Hid (HS (w.alloc (.cells (row4 s.f) 57)) w.heap.size s) := Lib.hid (heap_alloc_new w _)
  show Calls Tryd.prog 94 #[.agg (row4 s.f), .int .u8 (x : Int)] w Q
  go_enter Tryd.func94, Tryd.ntmps94
  go_wp2_with fail
  go_loopw [5] (fun v wr => ∃ (u k : Nat), x ≤ u ∧ u < 256 ∧ k + u ≥ 255 ∧ v = .int .u8 (u : Int) ∧ Hid (upE s 255 x = upE s k u) ∧ HS wr w.heap.size s ∧ Below w.heap.size w wr) (fun v _ => 256 - (intOf v).toNat)
  case atStart => exact ⟨x, 255, Nat.le_refl _, hx, by omega, rfl, rfl, HS0.out, HB.out⟩
  case round =>
    clear HS0 HB
    obtain ⟨u, k, hxt, ht, hk, rfl, HU, hs, hb⟩ := hrel
    have HS1 := Lib.hid hs
    have HB1 := Lib.hid hb
    clear hs hb
    have hsub : IntKind.u8.wrap ((u : Int) - (x : Int)) = ((u - x : Nat) : Int) := by rw [IntKind.wrap_u8]; omega
    by_cases h255 : u < 255
    · have d1 : decide ((u : Int) < 255) = true := by simp; omega
      have hw : IntKind.u8.wrap ((u : Int) + 1) = ((u + 1 : Nat) : Int) := by rw [IntKind.wrap_u8]; omega
      obtain ⟨k, rfl⟩ : ∃ j, k = j + 1 := ⟨k - 1, by omega⟩
      obtain ⟨p0, p1, p2, p3⟩ := set_cells HS1.out
      go_wp2_with fail
      refine (has_any s.f (u + 1) (by omega) _).mono ?_
      rintro e w2 ⟨rfl, hb2⟩
      have HS2 := Lib.hid (HS1.out.below hb2)
      have HB2 := Lib.hid (bl_trans HB1.out hb2)
      clear hb2
      cases hh : has s.f (u + 1) with
      | true =>
        have HH : Hid (hasS s (u + 1) = true) := Lib.hid hh
        clear hh
        go_wp2_with fail
        refine ⟨⟨u + 1, k, by omega, by omega, by omega, by go_num, ?_, HS2.out, HB2.out⟩, by simp [intOf]; omega⟩
        unfold Hid
        rw [HU.out, upE, if_pos ⟨h255, HH.out⟩]
      | false =>
        have HH : Hid (hasS s (u + 1) = false) := Lib.hid hh
        clear hh
        have hu : upE s 255 x = u := by rw [HU.out, upE, if_neg (by rw [HH.out]; simp)]
        have HU2 := Lib.hid hu
        clear hu
        by_cases h2 : u - x < 2
        · have d2 : decide (((u - x : Nat) : Int) < 2) = true := by simp; omega
          go_wp2_with fail
          refine post_is HQ ⟨?_, HB2.out⟩
          rw [endE, HU2.out, if_pos h2]
          rfl
        · have d2 : decide (((u - x : Nat) : Int) < 2) = false := by simp; omega
          go_wp2_with fail
          refine post_is HQ ⟨?_, HB2.out⟩
          rw [endE, HU2.out, if_neg h2]
          rfl
    · have d1 : decide ((u : Int) < 255) = false := by simp; omega
      have hu : upE s 255 x = u := by
        rw [HU.out]
        cases k with
        | zero => rfl
        | succ k => rw [upE, if_neg (by omega)]
      have HU2 := Lib.hid hu
      clear hu
      by_cases h2 : u - x < 2
      · have d2 : decide (((u - x : Nat) : Int) < 2) = true := by simp; omega
        go_wp2_with fail
        refine post_is HQ ⟨?_, HB1.out⟩
        rw [endE, HU2.out, if_pos h2]
        rfl
      · have d2 : decide (((u - x : Nat) : Int) < 2) = false := by simp; omega
        go_wp2_with fail
        refine post_is HQ ⟨?_, HB1.out⟩
        rw [endE, HU2.out, if_neg h2]
        rfl

end Go.Proofs.YteedmkokbapkgaaDoor
