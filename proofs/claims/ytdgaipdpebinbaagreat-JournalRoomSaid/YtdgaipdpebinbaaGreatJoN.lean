/- What a checkpoint does to a plain disk; what there is room for. No program here, and no condition. -/
import Derived.Test.YtdgaipdpebinbaaGreatJoY
set_option linter.unusedVariables false
set_option linter.unusedSimpArgs false
namespace Go.Proofs.YtdgaipdpebinbaaGreat

theorem app_or {s : DS} (hI : DInv s) {l : List BS} (b : BS) (h : rdE s jn = some (catR 1 l)) :
    (s.used + (b.length + 20) ≤ s.room → (dE s ⟨0, jn, [], recE (l.length + 1) b⟩).2 = 0 ∧ rdE (dE s ⟨0, jn, [], recE (l.length + 1) b⟩).1 jn = some (catR 1 (l ++ [b])) ∧ (dE s ⟨0, jn, [], recE (l.length + 1) b⟩).1.used = s.used + (b.length + 20) ∧ rdE (dE s ⟨0, jn, [], recE (l.length + 1) b⟩).1 jx = rdE s jx) ∧
    (¬ s.used + (b.length + 20) ≤ s.room → dE s ⟨0, jn, [], recE (l.length + 1) b⟩ = (s, 52)) := by
  have hl : (recE (l.length + 1) b).length = b.length + 20 := rec_len _ _
  refine ⟨fun h2 => ?_, fun h2 => ?_⟩
  · have e : dE s ⟨0, jn, [], recE (l.length + 1) b⟩ = (appE s jn (recE (l.length + 1) b), 0) := by simp only [dE, hl, h2, if_true]
    rw [e]
    obtain ⟨i, f, hg, hf, hfd⟩ := now_of_rd h
    refine ⟨rfl, ?_, ?_, ?_⟩
    · show rdE (appE s jn (recE (l.length + 1) b)) jn = _
      rw [rd_app hI jn _ (by simp [jn]) jn (by simp [jn]), if_pos rfl, h, catR_snoc, Nat.add_comm 1]
      rfl
    · show (appE s jn (recE (l.length + 1) b)).used = _
      unfold appE
      rw [hg]
      simp only [addE, hf, hl]
    · show rdE (appE s jn (recE (l.length + 1) b)) jx = _
      rw [rd_app hI jn _ (by simp [jn]) jx (by simp [jx]), if_neg (by decide)]
  · simp only [dE, hl, h2, if_false]
theorem sync_jx {s : DS} : rdE (dE s ⟨1, jn, [], []⟩).1 jx = rdE s jx := by
  simp only [dE]
  split
  · rfl
  · exact rd_sync _ _ _
theorem clr_jx {s : DS} (hI : DInv s) : rdE (clrE s) jx = none := by
  unfold clrE
  simp only [dE]
  cases hg : getE s.now jx with
  | none => simp only; unfold rdE; rw [hg]; rfl
  | some i =>
    show rdE (changeE s ⟨jx, [], none⟩) jx = _
    rw [rd_remove hI, if_pos rfl]
theorem opn_jx {s : DS} (hI : DInv s) {b : BS} {l : List BS} (h : rdE s jn = some b) (he : recsE b = (l, b.length, 0)) : rdE (opnE s).1 jx = none := by
  have h1 : rdE (clrE s) jn = some b := by rw [clr_rd hI]; exact h
  have hf : fndE (clrE s) = (clrE s, l, 0) := by
    unfold fndE
    rw [h1]
    simp [he]
  unfold opnE
  rw [hf]
  simp only [if_true]
  show rdE (keepE _ _) jx = _
  rw [rd_keep]
  exact sync_jx.trans (clr_jx hI)
theorem new_all : ∀ r, r < 301 → (opnE (newE r)).2 = ([], 0) ∧ rdE (opnE (newE r)).1 jn = some [] ∧ rdE (opnE (newE r)).1 jx = none ∧ (opnE (newE r)).1.used = 0 := by decide +kernel
theorem new_jx : rdE (opnE (newE 1048576)).1 jx = none := by decide +kernel

/-- The four works of a checkpoint. -/
def ck1 (s : DS) (b : BS) : DS := (dE s ⟨0, jx, [], b⟩).1
def ck2 (s : DS) (b : BS) : DS := (dE (ck1 s b) ⟨1, jx, [], []⟩).1
def ck3 (s : DS) (b : BS) : DS := (dE (ck2 s b) ⟨2, jx, jn, []⟩).1
def ck4 (s : DS) (b : BS) : DS := (dE (ck3 s b) ⟨4, [], [], []⟩).1
theorem ck_full {s : DS} {b : BS} (h : ¬ s.used + b.length ≤ s.room) : dE s ⟨0, jx, [], b⟩ = (s, 52) := by simp only [dE, h, if_false]
theorem ck_all {s : DS} {k m r : Nat} (hR : Run s k m r) (hx : rdE s jx = none) {b : BS} (h : s.used + b.length ≤ s.room) :
    (dE s ⟨0, jx, [], b⟩).2 = 0 ∧ (dE (ck1 s b) ⟨1, jx, [], []⟩).2 = 0 ∧ (dE (ck2 s b) ⟨2, jx, jn, []⟩).2 = 0 ∧
    Run (ck1 s b) (k + 1) (m + b.length) r ∧ Run (ck2 s b) (k + 2) (m + b.length) r ∧ Run (ck3 s b) (k + 3) (m + b.length) r ∧ Run (ck4 s b) (k + 4) (m + b.length) r ∧
    rdE (ck4 s b) jn = some b ∧ rdE (ck4 s b) jx = none := by
  have e : dE s ⟨0, jx, [], b⟩ = (appE s jx b, 0) := by simp only [dE, h, if_true]
  have r1 : Run (ck1 s b) (k + 1) (m + b.length) r := run_d hR (x := ⟨0, jx, [], b⟩) ⟨by show 11 ≤ 40; omega, by show 0 ≤ 40; omega⟩
  have r2 : Run (ck2 s b) (k + 2) (m + b.length) r := run_d r1 (x := ⟨1, jx, [], []⟩) ⟨by show 11 ≤ 40; omega, by show 0 ≤ 40; omega⟩
  have r3 : Run (ck3 s b) (k + 3) (m + b.length) r := run_d r2 (x := ⟨2, jx, jn, []⟩) ⟨by show 11 ≤ 40; omega, by show 7 ≤ 40; omega⟩
  have r4 : Run (ck4 s b) (k + 4) (m + b.length) r := run_d r3 (x := ⟨4, [], [], []⟩) ⟨by show 0 ≤ 40; omega, by show 0 ≤ 40; omega⟩
  have d1 : rdE (ck1 s b) jx = some b := by
    unfold ck1
    rw [e]
    show rdE (appE s jx b) jx = _
    rw [rd_app hR.inv jx _ (by simp [jx]) jx (by simp [jx]), if_pos rfl, hx]
    rfl
  obtain ⟨i1, f1, g1, _, _⟩ := now_of_rd d1
  have e2 : dE (ck1 s b) ⟨1, jx, [], []⟩ = (syncE (ck1 s b) i1, 0) := by simp only [dE, g1]
  have d2 : rdE (ck2 s b) jx = some b := by
    unfold ck2
    rw [e2]
    show rdE (syncE _ _) jx = _
    rw [rd_sync]; exact d1
  obtain ⟨i2, f2, g2, _, _⟩ := now_of_rd d2
  have e3 : dE (ck2 s b) ⟨2, jx, jn, []⟩ = (changeE (ck2 s b) ⟨jx, jn, some i2⟩, 0) := by
    have hne : jx ≠ jn := by decide
    simp only [dE, g2, if_neg hne]
  have hne : jx ≠ jn := by decide
  have d3 : rdE (ck3 s b) jn = some b := by
    unfold ck3
    rw [e3]
    show rdE (changeE _ _) jn = _
    rw [rd_rename r2.inv g2 hne, if_pos rfl]; exact d2
  have x3 : rdE (ck3 s b) jx = none := by
    unfold ck3
    rw [e3]
    show rdE (changeE _ _) jx = _
    rw [rd_rename r2.inv g2 hne, if_neg hne, if_pos rfl]
  refine ⟨by rw [e], by rw [e2], by rw [e3], r1, r2, r3, r4, ?_, ?_⟩
  · show rdE (keepE _ _) jn = _
    rw [rd_keep]; exact d3
  · show rdE (keepE _ _) jx = _
    rw [rd_keep]; exact x3
/-- What is written of records, till there is no room. -/
theorem cut_room {l : List BS} {k R : Nat} (hk : k ≤ l.length) (h : k = l.length ∨ R < (catR 1 (l.take k)).length) :
    ((catR 1 l).length ≤ R → catR 1 (l.take k) = catR 1 l) ∧ (R < (catR 1 l).length → R < (catR 1 (l.take k)).length) := by
  have hm := end_mono (l := l) hk (Nat.le_refl _)
  rw [end_all] at hm
  rcases h with rfl | h
  · rw [List.take_length]
    exact ⟨fun _ => rfl, fun h => h⟩
  · refine ⟨fun h2 => ?_, fun _ => h⟩
    unfold endE at hm
    omega
end Go.Proofs.YtdgaipdpebinbaaGreat
