/- What a journal's file reads as, behind the journal's works; bits that are turned in it. No program here, and no condition. -/
import Derived.Test.YtdgaipdpebinbaaGreatJoS
import Derived.Test.YtdgaipdpebinbaaGreatJoV
set_option linter.unusedVariables false
set_option linter.unusedSimpArgs false
namespace Go.Proofs.YtdgaipdpebinbaaGreat

theorem used_most {s : DS} {k m r : Nat} (h : Run s k m r) : s.used ≤ m := by
  have h1 := h.inv.nmd.2
  have h2 : ∀ fs : List Fil, useE fs ≤ (fs.map fun f => f.data.length).sum := by
    intro fs
    unfold useE
    induction fs with
    | nil => simp
    | cons f r ih =>
      simp only [List.map_cons, List.sum_cons]
      have : f.weight ≤ f.data.length := by unfold Fil.weight; split <;> omega
      omega
  have := h2 s.files
  have := h.bnd.data
  omega
theorem app_rd {s : DS} {k m r : Nat} (hR : Run s k m r) {l : List BS} (b : BS) (h : rdE s jn = some (catR 1 l)) (hroom : m + b.length + 20 ≤ r) :
    (dE s ⟨0, jn, [], recE (l.length + 1) b⟩).2 = 0 ∧ rdE (dE s ⟨0, jn, [], recE (l.length + 1) b⟩).1 jn = some (catR 1 (l ++ [b])) := by
  have h1 := used_most hR
  have h2 : s.used + (recE (l.length + 1) b).length ≤ s.room := by rw [rec_len, hR.room]; omega
  have e : dE s ⟨0, jn, [], recE (l.length + 1) b⟩ = (appE s jn (recE (l.length + 1) b), 0) := by simp only [dE, h2, if_true]
  rw [e]
  refine ⟨rfl, ?_⟩
  show rdE (appE s jn (recE (l.length + 1) b)) jn = _
  rw [rd_app hR.inv jn _ (by simp [jn]) jn (by simp [jn]), if_pos rfl, h, catR_snoc, Nat.add_comm 1]
  rfl
theorem now_of_rd {s : DS} {a b : BS} (h : rdE s a = some b) : ∃ i f, getE s.now a = some i ∧ s.files[i]? = some f ∧ f.data = b := by
  unfold rdE at h
  cases hg : getE s.now a with
  | none => rw [hg] at h; cases h
  | some i =>
    rw [hg] at h
    cases hf : s.files[i]? with
    | none => simp [hf] at h
    | some f => simp [hf] at h; exact ⟨i, f, rfl, hf, h⟩
theorem sync_rd {s : DS} {b : BS} (h : rdE s jn = some b) : (dE s ⟨1, jn, [], []⟩).2 = 0 ∧ rdE (dE s ⟨1, jn, [], []⟩).1 jn = some b := by
  obtain ⟨i, f, hg, _, _⟩ := now_of_rd h
  have e : dE s ⟨1, jn, [], []⟩ = (syncE s i, 0) := by simp only [dE, hg]
  rw [e]
  exact ⟨rfl, by rw [rd_sync]; exact h⟩
theorem clr_rd {s : DS} (hI : DInv s) : rdE (clrE s) jn = rdE s jn := by
  unfold clrE
  simp only [dE]
  split
  · rfl
  · show rdE (changeE s ⟨jx, [], none⟩) jn = _
    rw [rd_remove hI, if_neg (by decide)]
/-- Open of a journal whose records are whole. -/
theorem opn_rd {s : DS} (hI : DInv s) {b : BS} {l : List BS} (h : rdE s jn = some b) (he : recsE b = (l, b.length, 0)) : (opnE s).2 = (l, 0) ∧ rdE (opnE s).1 jn = some b := by
  have h1 : rdE (clrE s) jn = some b := by rw [clr_rd hI]; exact h
  have hf : fndE (clrE s) = (clrE s, l, 0) := by
    unfold fndE
    rw [h1]
    simp [he]
  unfold opnE
  rw [hf]
  simp only [if_true]
  refine ⟨trivial, ?_⟩
  have h2 := (sync_rd h1).2
  show rdE (keepE _ _) jn = _
  rw [rd_keep]
  exact h2
/-- Open of a journal that is wrong. -/
theorem opn_wrong {s : DS} (hI : DInv s) {b : BS} (h : rdE s jn = some b) (he : recsE b = ([], 0, 70)) : (opnE s).2 = ([], 70) := by
  have h1 : rdE (clrE s) jn = some b := by rw [clr_rd hI]; exact h
  have hf : fndE (clrE s) = (clrE s, [], 70) := by
    unfold fndE
    rw [h1]
    simp [he]
  unfold opnE
  rw [hf]
  simp

/-! ### a bit of a file is turned -/
def turnE (s : DS) (i q : Nat) : DS :=
  match s.files[i]? with
  | none => s
  | some f => { s with files := s.files.set i ⟨flip f.data q, f.mark, f.named⟩ }
theorem turn_is {s : DS} {i : Nat} {f : Fil} (hf : s.files[i]? = some f) (q : Nat) : turnE s i q = { s with files := s.files.set i ⟨flip f.data q, f.mark, f.named⟩ } := by simp only [turnE, hf]
theorem run_turn {s : DS} {k m r : Nat} (h : Run s k m r) (i q : Nat) : Run (turnE s i q) k m r := by
  cases hf : s.files[i]? with
  | none => simp only [turnE, hf]; exact h
  | some f =>
    rw [turn_is hf]
    have hm := h.inv.mrk i f hf
    refine ⟨inv_set h.inv hf (flip f.data q) f.mark s.used (by rw [flip_len]; exact hm) (by simp only [Fil.weight, flip_len]), ⟨by simpa using h.bnd.files, h.bnd.works, h.bnd.now, h.bnd.kept, ?_⟩, h.short, h.live, h.room⟩
    have := sum_set (g := ⟨flip f.data q, f.mark, f.named⟩) hf
    have h2 := h.bnd.data
    simp only [flip_len] at this
    show ((s.files.set i ⟨flip f.data q, f.mark, f.named⟩).map fun f => f.data.length).sum ≤ m
    omega
theorem rd_turn {s : DS} {a b : BS} {i : Nat} (hg : getE s.now a = some i) (h : rdE s a = some b) (q : Nat) : rdE (turnE s i q) a = some (flip b q) := by
  obtain ⟨j, f, hg2, hf, hd⟩ := now_of_rd h
  rw [hg] at hg2
  cases hg2
  have e := turn_is hf q
  have hl := (List.getElem?_eq_some_iff.1 hf).1
  unfold rdE
  rw [e]
  show (getE s.now a).bind _ = _
  rw [hg]
  simp [hl, hd]
theorem ch_new : (opnE (newE 1048576)).2 = ([], 0) ∧ rdE (opnE (newE 1048576)).1 jn = some [] := by decide +kernel
end Go.Proofs.YtdgaipdpebinbaaGreat
