/- A disk, seen from a law's beginning. No condition but what each statement names. -/
import Derived.Test.YtncpkblgiepdpaaGreatDkU
import Derived.Test.YtncpkblgiepdpaaGreatDkV
set_option linter.unusedVariables false
set_option linter.unusedSimpArgs false
namespace Go.Proofs.YtncpkblgiepdpaaGreat
open Go.RowKit Go.Maps Go.Shelf Go.Sort

theorem add_at (g n : Nat) : (⟨g, 0, none⟩ : Addr).add n = ⟨g, n, none⟩ := by
  unfold Addr.add
  split
  · rename_i e; rw [e]
  · simp
theorem add_field (ad : Addr) (n q : Nat) (hq : 0 < q) : (⟨(ad.add n).block, (ad.add n).off + q, none⟩ : Addr) = ad.add (n + q) := by
  unfold Addr.add
  by_cases hn : n = 0
  · subst hn
    have : ¬ 0 + q = 0 := by omega
    simp [this]
    omega
  · have : ¬ n + q = 0 := by omega
    simp [hn, this]
    omega
/-- A disk that lies behind a place, on. -/
structure Lies (w w' : World) (own : Nat → Option Role) (d : Nat) (s : DS) : Prop where
  disk : DiskIn w' own d s
  far : ∀ b, own b ≠ none → w.heap.size ≤ b
  below : Below w.heap.size w w'
theorem Lies.next {w w1 w2 : World} {own own2 : Nat → Option Role} {d : Nat} {s s2 : DS} (h : Lies w w1 own d s) (hD : DiskIn w2 own2 d s2) (hK : Kept w1 w2 own own2) : Lies w w2 own2 d s2 :=
  ⟨hD, fun b hb => by
    rcases hK.more b hb with h1 | h1
    · exact h.far b h1
    · exact Nat.le_trans h.below.size h1, h.below.trans (hK.below h.below.size h.far)⟩
theorem Lies.free {w w1 : World} {own : Nat → Option Role} {d : Nat} {s : DS} (h : Lies w w1 own d s) {b : Nat} (hb : b < w.heap.size) : own b = none := by
  cases e : own b with
  | none => rfl
  | some r => have := h.far b (by rw [e]; simp); omega
theorem Lies.on {w w1 w2 : World} {own : Nat → Option Role} {d : Nat} {s : DS} (h : Lies w w1 own d s) (hb : Below w1.heap.size w1 w2) : Lies w w2 own d s := by
  obtain ⟨bn, bk, loc, hA⟩ := h.disk
  exact ⟨⟨bn, bk, loc, hA.below hb⟩, h.far, bl_trans h.below hb⟩
theorem rd_free {w w1 : World} {own : Nat → Option Role} {d : Nat} {s : DS} (h : Lies w w1 own d s) {A : Option Addr} {l : BS} (hr : Rd w A l) : 0 < l.length → ∀ p, A = some p → own p.block = none := fun h0 p hp => by
  obtain ⟨ad, e, hc⟩ := hr h0
  rw [hp] at e
  cases e
  have := cell_lt (hc 0 h0)
  rw [add_block] at this
  exact h.free this
theorem rdI_free {w w1 : World} {own : Nat → Option Role} {d : Nat} {s : DS} (h : Lies w w1 own d s) {A : Option Addr} {l : List Int} (hr : RdI w A l) : 0 < l.length → ∀ p, A = some p → own p.block = none := fun h0 p hp => by
  obtain ⟨ad, e, hc⟩ := hr h0
  rw [hp] at e
  cases e
  have := cell_lt (hc 0 h0)
  rw [add_block] at this
  exact h.free this

/-- A call's answer: memory that was there stays. -/
def GotYes (w : World) (b : Bool) (e : Ending) (w' : World) : Prop := e = .returned (.bool b) ∧ Below w.heap.size w w'
end Go.Proofs.YtncpkblgiepdpaaGreat
