/- A plain disk whose file is cut; what a journal does with a plain disk. No program here, and no condition. -/
import Derived.Test.YtncpkblgiepdpaaGreatDkV
import Derived.Test.YtncpkblgiepdpaaGreatJoT
set_option linter.unusedVariables false
set_option linter.unusedSimpArgs false
namespace Go.Proofs.YtncpkblgiepdpaaGreat

theorem cut_is {s : DS} {i : Nat} {f : Fil} (hf : s.files[i]? = some f) (k : Nat) : cutE s i k = { s with files := s.files.set i ⟨f.data.take k, min f.mark k, f.named⟩, used := s.used - (f.data.length - k) } := by simp only [cutE, hf]
theorem used_ge {s : DS} (h : DInv s) {i : Nat} (hi : 0 < cntE i s.now) {f : Fil} (hf : s.files[i]? = some f) : f.data.length ≤ s.used ∧ 0 < f.named := by
  have hn : f.named = cntE i s.now + cntE i s.kept := h.nmd.1 i f hf
  have hu := useE_ge hf
  rw [← h.nmd.2] at hu
  have h0 : 0 < f.named := by omega
  simp only [Fil.weight, h0, if_true] at hu
  exact ⟨hu, h0⟩
theorem inv_cut {s : DS} (h : DInv s) {i : Nat} (hi : 0 < cntE i s.now) (k : Nat) : DInv (cutE s i k) := by
  cases hf : s.files[i]? with
  | none => simp only [cutE, hf]; exact h
  | some f =>
    rw [cut_is hf]
    have hu := used_ge h hi hf
    have hm := h.mrk i f hf
    refine inv_set h hf (f.data.take k) (min f.mark k) (s.used - (f.data.length - k)) (by simp; omega) ?_
    simp only [Fil.weight, hu.2, if_true, List.length_take]
    omega
theorem cut_bnd {s : DS} {a m : Nat} (h : Bnd s a m) (i k : Nat) : Bnd (cutE s i k) a m := by
  cases hf : s.files[i]? with
  | none => simp only [cutE, hf]; exact h
  | some f =>
    rw [cut_is hf]
    refine ⟨by simpa using h.files, h.works, h.now, h.kept, ?_⟩
    have := sum_set (g := ⟨f.data.take k, min f.mark k, f.named⟩) hf
    have h2 := h.data
    simp only [List.length_take] at this
    show ((s.files.set i ⟨f.data.take k, min f.mark k, f.named⟩).map fun f => f.data.length).sum ≤ m
    have h3 : min k f.data.length ≤ f.data.length := Nat.min_le_right _ _
    omega
theorem run_cut {s : DS} {a m r : Nat} (h : Run s a m r) {i : Nat} (hi : 0 < cntE i s.now) (k : Nat) : Run (cutE s i k) a m r := by
  refine ⟨inv_cut h.inv hi k, cut_bnd h.bnd i k, ?_, ?_, ?_⟩
  · have e : (cutE s i k).works = s.works := by unfold cutE; split <;> rfl
    intro x hx
    rw [e] at hx
    exact h.short x hx
  · have e : (cutE s i k).dead = s.dead := by unfold cutE; split <;> rfl
    rw [e]; exact h.live
  · have e : (cutE s i k).room = s.room := by unfold cutE; split <;> rfl
    rw [e]; exact h.room
theorem cnt_get {m : Nm} (h : Srt m) {n : BS} {i : Nat} (hg : getE m n = some i) : 0 < cntE i m := by
  have hm := (getE_some h).1 hg
  unfold cntE
  exact List.countP_pos_iff.2 ⟨_, hm, by simp⟩
theorem cut_now (s : DS) (i k : Nat) : (cutE s i k).now = s.now := by unfold cutE; split <;> rfl
theorem rd_cut {s : DS} (h : DInv s) {a : BS} {i : Nat} (hg : getE s.now a = some i) {b : BS} (hb : rdE s a = some b) (k : Nat) : rdE (cutE s i k) a = some (b.take k) := by
  have hl := h.now.get hg
  have hf : s.files[i]? = some s.files[i] := List.getElem?_eq_getElem hl
  unfold rdE at hb ⊢
  rw [cut_now, hg]
  rw [hg] at hb
  rw [cut_is hf]
  simp only [Option.bind_some, hf, Option.map_some, Option.some.injEq] at hb
  simp [hl, hb]

/-- The journal's names. -/
def jn : BS := [106, 111, 117, 114, 110, 97, 108]
def jx : BS := [106, 111, 117, 114, 110, 97, 108, 46, 110, 101, 119]
/-- What Open does to a disk ahead of its last two syncs, the records, and the error. -/
def clrE (s : DS) : DS := (dE s ⟨3, jx, [], []⟩).1
def fndE (s : DS) : DS × List BS × Nat :=
  match rdE s jn with
  | none => ((dE s ⟨0, jn, [], []⟩).1, [], (dE s ⟨0, jn, [], []⟩).2)
  | some b =>
    if (recsE b).2.2 ≠ 0 then (s, [], (recsE b).2.2)
    else if (recsE b).2.1 = b.length then (s, (recsE b).1, 0)
    else (match getE s.now jn with
      | none => (s, [], 0)
      | some i => (cutE s i (recsE b).2.1, (recsE b).1, 0))
def opnE (s : DS) : DS × List BS × Nat :=
  if (fndE (clrE s)).2.2 = 0 then ((dE (dE (fndE (clrE s)).1 ⟨1, jn, [], []⟩).1 ⟨4, [], [], []⟩).1, (fndE (clrE s)).2.1, 0) else ((fndE (clrE s)).1, [], (fndE (clrE s)).2.2)
theorem jn_len : jn.length = 7 := rfl
theorem jx_len : jx.length = 11 := rfl
theorem run_clr {s : DS} {k m r : Nat} (h : Run s k m r) : Run (clrE s) (k + 1) m r := run_d h (x := ⟨3, jx, [], []⟩) ⟨by show 11 ≤ 40; omega, by show 0 ≤ 40; omega⟩
theorem recs_end (f : Nat) : ∀ (b : BS) (n : Nat), (recsF f b n).2.1 ≤ b.length := by
  induction f with
  | zero => intro b n; exact Nat.zero_le _
  | succ f ih =>
    intro b n
    unfold recsF
    split
    · rename_i h0
      split
      · have hz := taken_zero (b := b) (n := n) (r := (takenE b n).1) (by rw [← h0])
        have := ih (b.drop ((takenE b n).1.length + 20)) (n + 1)
        simp only [List.length_drop] at this
        simp only
        omega
      · exact Nat.zero_le _
    · split <;> exact Nat.zero_le _
theorem recsE_end (b : BS) : (recsE b).2.1 ≤ b.length := recs_end _ _ _
theorem recsE_err (b : BS) : (recsE b).2.2 = 0 ∨ (recsE b).2.2 = 70 := by
  have key : ∀ (f : Nat) (b : BS) (n : Nat), (recsF f b n).2.2 = 0 ∨ (recsF f b n).2.2 = 70 := by
    intro f
    induction f with
    | zero => intro b n; exact .inl rfl
    | succ f ih =>
      intro b n
      unfold recsF
      split
      · split
        · exact .inl rfl
        · rename_i h
          rcases ih (b.drop ((takenE b n).1.length + 20)) (n + 1) with h1 | h1
          · exact absurd h1 h
          · exact .inr h1
      · rename_i h0
        split
        · exact .inl rfl
        · rename_i h3
          rcases taken_err b n with h | h | h
          · exact absurd h h0
          · rw [h] at h3; exact absurd rfl h3
          · rw [h]; exact .inr rfl
  exact key _ _ _
theorem run_fnd {s : DS} {k m r : Nat} (h : Run s k m r) : Run (fndE s).1 (k + 1) m r := by
  have h1 := h.mono (k' := k + 1) (m' := m) (by omega) (Nat.le_refl _)
  unfold fndE
  split
  · exact run_d h (x := ⟨0, jn, [], []⟩) ⟨by show 7 ≤ 40; omega, by show 0 ≤ 40; omega⟩
  · split
    · exact h1
    · split
      · exact h1
      · split
        · exact h1
        · rename_i i hg
          exact run_cut h1 (cnt_get h.inv.now.1 hg) _
theorem run_opn {s : DS} {k m r : Nat} (h : Run s k m r) : Run (opnE s).1 (k + 4) m r := by
  have h1 := run_fnd (run_clr h)
  unfold opnE
  split
  · exact run_d (run_d h1 (x := ⟨1, jn, [], []⟩) ⟨by show 7 ≤ 40; omega, by show 0 ≤ 40; omega⟩) (x := ⟨4, [], [], []⟩) ⟨by show 0 ≤ 40; omega, by show 0 ≤ 40; omega⟩
  · exact h1.mono (by omega) (Nat.le_refl _)
end Go.Proofs.YtncpkblgiepdpaaGreat
