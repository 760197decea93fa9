/- Append, Sync, Len and Kept of a journal: contracts over the translated program. No condition but that the journal and its disk lie in memory as said, and what each statement names. -/
import Derived.Test.YtdgaipdpebinbaaJoO
set_option linter.unusedVariables false
set_option linter.unusedSimpArgs false
namespace Go.Proofs.Ytdgaipdpebinbaa
open Go.RowKit Go.Maps Go.Shelf Go.Sort

/-- The disk's blocks, and the journal's. -/
def jo (own : Nat → Option Role) (J : Nat) : Nat → Option Role := setR own J .disk
theorem jo_none {own : Nat → Option Role} {J b : Nat} (h : jo own J b = none) : own b = none ∧ b ≠ J := by
  unfold jo at h
  by_cases e : b = J
  · subst e; rw [setR_same] at h; cases h
  · rw [setR_other _ _ e] at h; exact ⟨h, e⟩
theorem jo_some {own : Nat → Option Role} {J b : Nat} (h : jo own J b ≠ none) : own b ≠ none ∨ b = J := by
  unfold jo at h
  by_cases e : b = J
  · exact .inr e
  · rw [setR_other _ _ e] at h; exact .inl h
theorem jo_at (own : Nat → Option Role) (J : Nat) : jo own J J ≠ none := by unfold jo; rw [setR_same]; simp
theorem jo_of {own : Nat → Option Role} {J b : Nat} (h : own b = none) (hb : b ≠ J) : jo own J b = none := by unfold jo; rw [setR_other _ _ hb]; exact h
theorem Kept.jo {w w' : World} {own own' : Nat → Option Role} (h : Kept w w' own own') (J : Nat) : Kept w w' (jo own J) (jo own' J) :=
  ⟨h.os, h.tape, h.output, h.size, fun b hb hn => h.block b hb (jo_none hn).1, fun b hb => by
    rcases jo_some hb with h1 | h1
    · rcases h.more b h1 with h2 | h2
      · left
        by_cases e : b = J
        · subst e; exact jo_at _ _
        · unfold Go.Proofs.Ytdgaipdpebinbaa.jo; rw [setR_other _ _ e]; exact h2
      · exact .inr h2
    · subst h1; exact .inl (jo_at _ _)⟩
section
variable {w : World} {own : Nat → Option Role} {d J cnt kp : Nat} {s : DS} {k m r : Nat}
theorem jnone_any {br : Bool} (hJ : JIn w own J d cnt kp br) : Calls Try.prog 70 #[.pointer (some ⟨J, 0, none⟩)] w (GotV w (.bool false)) := by
  have c0 := hJ.1.cell 0 _ rfl
  go_enter Try.func70, Try.ntmps70
  go_wp2_with fail
  go_ret
  exact ⟨rfl, rfl⟩
theorem jrefusal_any (hJ : JIn w own J d cnt kp false) : Calls Try.prog 49 #[.pointer (some ⟨J, 0, none⟩)] w (GotV w (.int .i64 0)) := by
  have c3 := hJ.1.cell 3 _ rfl
  have hq := jnone_any hJ
  go_enter Try.func49, Try.ntmps49
  go_wp2_with ((with_reducible refine hq.mono ?_); rintro e w ⟨rfl, rfl⟩)
  go_ret
  exact ⟨rfl, rfl⟩
theorem len_any (hJ : JIn w own J d cnt kp false) : Calls Try.prog 71 #[.pointer (some ⟨J, 0, none⟩)] w (GotV w (.int .i64 (cnt : Int))) := by
  have c1 := hJ.1.cell 1 _ rfl
  have hq := jrefusal_any hJ
  go_enter Try.func71, Try.ntmps71
  go_wp2_with ((with_reducible refine hq.mono ?_); rintro e w ⟨rfl, rfl⟩)
  go_ret
  exact ⟨rfl, rfl⟩
theorem kept_any (hJ : JIn w own J d cnt kp false) : Calls Try.prog 72 #[.pointer (some ⟨J, 0, none⟩)] w (GotV w (.int .i64 (kp : Int))) := by
  have c1 := hJ.1.cell 2 _ rfl
  have hq := jrefusal_any hJ
  go_enter Try.func72, Try.ntmps72
  go_wp2_with ((with_reducible refine hq.mono ?_); rintro e w ⟨rfl, rfl⟩)
  go_ret
  exact ⟨rfl, rfl⟩

/-- A call of a disk's method, by a work: the variables that it shares lie as they did. -/
def VarAt (w : World) (own : Nat → Option Role) (p : Nat) (v : Value) (T : TypeId) : Prop := Blk w p [v] T ∧ own p = none
theorem VarAt.kept {w w' : World} {own own' : Nat → Option Role} {p : Nat} {v : Value} {T : TypeId} (h : VarAt w own p v T) (hK : Kept w w' own own') : VarAt w' own' p v T := ⟨h.1.same (hK.block p h.1.lt h.2), free_kept hK h.1.lt h.2⟩
set_option maxHeartbeats 1000000 in
theorem append1_any {p q : Nat} {br : Bool} (hp : VarAt w own p (.pointer (some ⟨J, 0, none⟩)) 45) (hJ : JIn w own J d cnt kp br) {A : Option Addr} {n c : Nat} {b : BS} (hq : VarAt w own q (.slice A n c) 30) (hl : b.length = n) (hr : Rd w A b) (hO : 0 < b.length → ∀ p, A = some p → own p.block = none) (hn : n ≤ 1000000)
    (hD : DiskIn w own d s) (hR : Run s k m r) (hk : k ≤ 1000) (hm : m ≤ 1000000) (hr16 : r ≤ 16777216) :
    Calls Try.prog 51 #[.pointer (some ⟨p, 0, none⟩), .pointer (some ⟨q, 0, none⟩)] w (GotA w own d (.int .i64 ((dE s ⟨0, jn, [], b⟩).2 : Nat)) (dE s ⟨0, jn, [], b⟩).1) := by
  have c0 := hp.1.cell 0 _ rfl
  have c1 := hJ.1.cell 0 _ rfl
  have c2 := hq.1.cell 0 _ rfl
  have hd : Below w.heap.size w w.drew := Below.drew (Below.refl _ _)
  have happ : Calls Try.prog 27 #[.pointer (some ⟨d, 0, none⟩), .string ⟨#[106, 111, 117, 114, 110, 97, 108]⟩, .slice A n c] w.drew (GotA w.drew own d (.int .i64 ((dE s ⟨0, jn, [], b⟩).2 : Nat)) (dE s ⟨0, jn, [], b⟩).1) := by
    obtain ⟨bn, bk, loc, hA⟩ := hD
    exact append_any (hA.below hd) (good_of hR.inv (hR.bnd.mono hk hm)) hR.live ⟨#[106, 111, 117, 114, 110, 97, 108]⟩ rfl A n c b hl (hr.below hd) hO (by omega) (by rw [hR.room]; exact hr16)
  clear hl hr hO
  go_enter Try.func51, Try.ntmps51
  go_wp2_with fail
  go_region_law (go_simp; go_at_call 27; refine happ.mono ?_; rintro e w1 ⟨rfl, own1, hD1, hK1⟩)
  all_goals
    go_wp2_with fail
    go_ret
    exact ⟨rfl, own1, hD1, (Kept.of_below hd own).trans hK1⟩
set_option maxHeartbeats 1000000 in
theorem sync1_any {p : Nat} {br : Bool} (hp : VarAt w own p (.pointer (some ⟨J, 0, none⟩)) 45) (hJ : JIn w own J d cnt kp br)
    (hD : DiskIn w own d s) (hR : Run s k m r) (hk : k ≤ 1000) (hm : m ≤ 1000000) :
    Calls Try.prog 52 #[.pointer (some ⟨p, 0, none⟩)] w (GotA w own d (.int .i64 ((dE s ⟨1, jn, [], []⟩).2 : Nat)) (dE s ⟨1, jn, [], []⟩).1) := by
  have c0 := hp.1.cell 0 _ rfl
  have c1 := hJ.1.cell 0 _ rfl
  have hq : Calls Try.prog 28 #[.pointer (some ⟨d, 0, none⟩), .string ⟨#[106, 111, 117, 114, 110, 97, 108]⟩] w (GotA w own d (.int .i64 ((dE s ⟨1, jn, [], []⟩).2 : Nat)) (dE s ⟨1, jn, [], []⟩).1) := by
    obtain ⟨bn, bk, loc, hA⟩ := hD
    exact sync_any hA (good_of hR.inv (hR.bnd.mono hk hm)) hR.live ⟨#[106, 111, 117, 114, 110, 97, 108]⟩ (by unfold maxLen; decide)
  go_enter Try.func52, Try.ntmps52
  go_wp2_with fail
  refine hq.mono ?_
  rintro e w1 ⟨rfl, own1, hD1, hK1⟩
  go_wp2_with fail
  go_ret
  exact ⟨rfl, own1, hD1, hK1⟩
end
end Go.Proofs.Ytdgaipdpebinbaa
