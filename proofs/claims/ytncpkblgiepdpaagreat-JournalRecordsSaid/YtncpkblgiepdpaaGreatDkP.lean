/- Deeds of a plain disk, one behind the other: what stays true of it, and what its files read as. No program here, and no condition. -/
import Derived.Test.YtncpkblgiepdpaaGreatDkI
set_option linter.unusedVariables false
namespace Go.Proofs.YtncpkblgiepdpaaGreat

structure Dd where
  kind : Nat
  name : BS
  to : BS
  b : BS

/-- A deed, and what it answers. -/
def dE (s : DS) (x : Dd) : DS × Nat :=
  match x.kind with
  | 0 => if s.used + x.b.length ≤ s.room then (appE s x.name x.b, 0) else (s, 52)
  | 1 => match getE s.now x.name with
    | none => (s, 50)
    | some i => (syncE s i, 0)
  | 2 => match getE s.now x.name with
    | none => (s, 50)
    | some i => if x.name = x.to then (s, 0) else (changeE s ⟨x.name, x.to, some i⟩, 0)
  | 3 => match getE s.now x.name with
    | none => (s, 50)
    | some _ => (changeE s ⟨x.name, [], none⟩, 0)
  | _ => (keepE s s.works.length, 0)

theorem inv_d {s : DS} (h : DInv s) (x : Dd) : DInv (dE s x).1 := by
  unfold dE
  split
  · split
    · exact inv_app h _ _
    · exact h
  · split
    · exact h
    · exact inv_sync h _
  · split
    · exact h
    · rename_i i hi
      split
      · exact h
      · exact inv_rename h hi _
  · split
    · exact h
    · exact inv_remove h _
  · exact inv_keep h

/-- How much there is, at most. -/
structure Bnd (s : DS) (k m : Nat) : Prop where
  files : s.files.length ≤ k
  works : s.works.length ≤ k
  now : s.now.length ≤ k
  kept : s.kept.length ≤ k
  data : (s.files.map fun f => f.data.length).sum ≤ m

theorem sum_dm {fs gs : List Fil} (h : dmE fs = dmE gs) : (fs.map fun f => f.data.length).sum = (gs.map fun f => f.data.length).sum := by
  have h1 : (fs.map fun f => f.data.length) = (dmE fs).map fun p => p.1.length := by simp [dmE]
  have h2 : (gs.map fun f => f.data.length) = (dmE gs).map fun p => p.1.length := by simp [dmE]
  rw [h1, h2, h]
theorem sum_set {fs : List Fil} {i : Nat} {f g : Fil} (h : fs[i]? = some f) : ((fs.set i g).map fun f => f.data.length).sum + f.data.length = (fs.map fun f => f.data.length).sum + g.data.length := by
  induction fs generalizing i with
  | nil => simp at h
  | cons x r ih =>
    cases i with
    | zero =>
      simp at h
      subst h
      simp
      omega
    | succ i =>
      simp at h
      have := ih h
      simp at this ⊢
      omega
theorem delE_len (m : Nm) (t : BS) : (delE m t).length ≤ m.length := List.length_filter_le _ _
theorem insE_len (x : BS × Nat) (m : Nm) : (insE x m).length = m.length + 1 := (insE_perm x m).length_eq
theorem putE_len (m : Nm) (t : BS) (i : Nat) : (putE m t i).length ≤ m.length + 1 := by
  unfold putE
  rw [insE_len]
  have := delE_len m t
  omega
theorem stepN_len (m : Nm) (w : Wk) : (stepN m w).length ≤ m.length + 1 := by
  unfold stepN
  split
  · have := delE_len m w.gone; omega
  · have := delE_len m w.gone
    have := putE_len (delE m w.gone) w.given (by assumption)
    omega
theorem change_files (s : DS) (w : Wk) : dmE (changeE s w).files = dmE s.files := doT_dm _ _ _ _
theorem change_now (s : DS) (w : Wk) : (changeE s w).now = stepN s.now w := doT_nm _ _ _ _
theorem change_len (s : DS) (w : Wk) : (changeE s w).files.length = s.files.length := dm_len (change_files s w)
theorem bnd_change {s : DS} {k m : Nat} (h : Bnd s k m) (w : Wk) : Bnd (changeE s w) (k + 1) m := by
  refine ⟨?_, ?_, ?_, ?_, ?_⟩
  · rw [change_len]; have := h.files; omega
  · show (s.works ++ [w]).length ≤ _
    have := h.works; simp; omega
  · rw [change_now]; have := stepN_len s.now w; have := h.now; omega
  · show s.kept.length ≤ _; have := h.kept; omega
  · rw [sum_dm (change_files s w)]; exact h.data
theorem Bnd.mono {s : DS} {k m k' m' : Nat} (h : Bnd s k m) (hk : k ≤ k') (hm : m ≤ m') : Bnd s k' m' :=
  ⟨Nat.le_trans h.files hk, Nat.le_trans h.works hk, Nat.le_trans h.now hk, Nat.le_trans h.kept hk, Nat.le_trans h.data hm⟩
theorem bnd_add {s : DS} {k m : Nat} (h : Bnd s k m) (i : Nat) (b : BS) : Bnd (addE s i b) k (m + b.length) := by
  unfold addE
  split
  · exact h.mono (Nat.le_refl _) (by omega)
  · rename_i f hf
    refine ⟨by simpa using h.files, h.works, h.now, h.kept, ?_⟩
    have := sum_set (g := ⟨f.data ++ b, f.mark, f.named⟩) hf
    have := h.data
    simp only [List.length_append] at *
    omega
theorem bnd_born {s : DS} {k m : Nat} (h : Bnd s k m) (name : BS) : Bnd (bornE s name) (k + 1) m := by
  have h1 : Bnd { s with files := s.files ++ [(⟨[], 0, 0⟩ : Fil)] } (k + 1) m := ⟨by have := h.files; simp; omega, by have := h.works; show s.works.length ≤ _; omega, by have := h.now; show s.now.length ≤ _; omega, by have := h.kept; show s.kept.length ≤ _; omega, by simpa using h.data⟩
  have h2 : Bnd (bornE s name) (k + 1 + 1) m := bnd_change h1 _
  refine ⟨?_, ?_, ?_, ?_, h2.data⟩
  · show (changeE _ _).files.length ≤ _
    rw [change_len]
    have := h.files
    simp
    omega
  · show (s.works ++ _).length ≤ _
    have := h.works
    simp
    omega
  · show (changeE _ _).now.length ≤ _
    rw [change_now]
    show (stepN s.now ⟨[], name, some s.files.length⟩).length ≤ _
    have := stepN_len s.now ⟨[], name, some s.files.length⟩
    have := h.now
    omega
  · exact h1.kept
theorem bnd_d {s : DS} {k m : Nat} (hi : DInv s) (h : Bnd s k m) (x : Dd) : Bnd (dE s x).1 (k + 1) (m + x.b.length) := by
  have hm := h.mono (k' := k + 1) (m' := m + x.b.length) (by omega) (by omega)
  unfold dE
  split
  · split
    · show Bnd (appE s x.name x.b) _ _
      unfold appE
      split
      · exact (bnd_add h _ _).mono (by omega) (Nat.le_refl _)
      · exact bnd_add (bnd_born h _) _ _
    · exact hm
  · split
    · exact hm
    · rename_i i _
      show Bnd (syncE s i) _ _
      unfold syncE
      split
      · exact hm
      · rename_i f hf
        refine ⟨by simpa using hm.files, hm.works, hm.now, hm.kept, ?_⟩
        have := sum_set (g := ⟨f.data, f.data.length, f.named⟩) hf
        have := hm.data
        simp only [] at *
        omega
  · split
    · exact hm
    · split
      · exact hm
      · exact (bnd_change h _).mono (Nat.le_refl _) (by omega)
  · split
    · exact hm
    · exact (bnd_change h _).mono (Nat.le_refl _) (by omega)
  · refine ⟨?_, ?_, ?_, ?_, ?_⟩
    · show (keepE s s.works.length).files.length ≤ _
      rw [keep_len]; exact hm.files
    · simp [keepE]
    · exact hm.now
    · show (keepE s s.works.length).kept.length ≤ _
      rw [keep_kept]
      unfold playK
      rw [List.take_length, hi.rep]
      exact hm.now
    · show ((keepE s s.works.length).files.map _).sum ≤ _
      rw [sum_dm (keep_dm s _)]; exact hm.data

/-- What a name reads as. -/
def rdE (s : DS) (n : BS) : Option BS := (getE s.now n).bind fun i => (s.files[i]?).map (·.data)

theorem at_dm {fs gs : List Fil} (h : dmE fs = dmE gs) (i : Nat) : (fs[i]?).map (·.data) = (gs[i]?).map (·.data) := by
  have h1 : (dmE fs)[i]? = (dmE gs)[i]? := by rw [h]
  simp only [dmE, List.getElem?_map] at h1
  cases e1 : fs[i]? <;> cases e2 : gs[i]? <;> simp [e1, e2] at h1 ⊢
  exact h1.1
theorem rd_keep (s : DS) (k : Nat) (n : BS) : rdE (keepE s k) n = rdE s n := by
  unfold rdE
  show (getE s.now n).bind _ = _
  congr 1
  funext i
  exact at_dm (keep_dm s k) i
theorem rd_sync (s : DS) (i : Nat) (n : BS) : rdE (syncE s i) n = rdE s n := by
  unfold syncE
  split
  · rfl
  · rename_i f hf
    unfold rdE
    show (getE s.now n).bind _ = _
    congr 1
    funext j
    show ((s.files.set i _)[j]?).map _ = _
    rw [List.getElem?_set]
    by_cases e : i = j
    · subst e
      obtain ⟨hl, rfl⟩ := List.getElem?_eq_some_iff.1 hf
      simp [hl]
    · simp [e]
theorem rd_none {s : DS} (h : DInv s) {n : BS} : rdE s n = none ↔ getE s.now n = none := by
  unfold rdE
  cases hg : getE s.now n with
  | none => simp
  | some i =>
    have := h.now.get hg
    simp [List.getElem?_eq_getElem this]
theorem rd_change (s : DS) (w : Wk) (n : BS) : rdE (changeE s w) n = (getE (stepN s.now w) n).bind fun i => (s.files[i]?).map (·.data) := by
  unfold rdE
  rw [change_now]
  congr 1
  funext i
  exact at_dm (change_files s w) i
/-- Two names are of two files. -/
theorem two {s : DS} (h : DInv s) {a b : BS} {i j : Nat} (ha : getE s.now a = some i) (hb : getE s.now b = some j) (hne : a ≠ b) : i ≠ j := by
  intro e
  subst e
  have h1 := h.injN i
  have h2 := cnt_del h.now.1 a i
  rw [if_pos ha] at h2
  have h3 := cnt_pos (srt_del h.now.1 a) (s := b) (i := i) (by rw [getE_del_other h.now.1 (fun e => hne e.symm)]; exact hb)
  omega
theorem rd_add {s : DS} (h : DInv s) {a : BS} {i : Nat} (ha : getE s.now a = some i) (b : BS) (n : BS) : rdE (addE s i b) n = if n = a then (rdE s a).map (· ++ b) else rdE s n := by
  have hl := h.now.get ha
  have hf : s.files[i]? = some s.files[i] := List.getElem?_eq_getElem hl
  have e : addE s i b = { s with files := s.files.set i ⟨s.files[i].data ++ b, s.files[i].mark, s.files[i].named⟩, used := s.used + b.length } := by simp only [addE, hf]
  rw [e]
  unfold rdE
  simp only
  by_cases hn : n = a
  · rw [if_pos hn, hn, ha]
    simp [hl]
  · rw [if_neg hn]
    cases hg : getE s.now n with
    | none => rfl
    | some j =>
      have hne := two h ha hg (fun e => hn e.symm)
      simp only [Option.bind_some]
      rw [List.getElem?_set_ne hne]
theorem rd_born {s : DS} (h : DInv s) {a : BS} (ha : getE s.now a = none) (ha0 : a ≠ []) (n : BS) (hn0 : n ≠ []) : rdE (bornE s a) n = if n = a then some [] else rdE s n := by
  unfold bornE
  rw [rd_change]
  show (getE (putE (delE s.now []) a s.files.length) n).bind _ = _
  by_cases hn : n = a
  · rw [if_pos hn, hn, getE_put_same (srt_del h.now.1 _)]
    simp
  · rw [if_neg hn, getE_put_other (srt_del h.now.1 _) hn, getE_del_other h.now.1 hn0]
    unfold rdE
    cases hg : getE s.now n with
    | none => rfl
    | some j =>
      have := h.now.get hg
      simp only [Option.bind_some]
      rw [List.getElem?_append_left this]
theorem rd_app {s : DS} (h : DInv s) (a b : BS) (ha0 : a ≠ []) (n : BS) (hn0 : n ≠ []) : rdE (appE s a b) n = if n = a then some (((rdE s a).getD []) ++ b) else rdE s n := by
  unfold appE
  cases hg : getE s.now a with
  | some i =>
    simp only
    rw [rd_add h hg]
    by_cases hn : n = a
    · rw [if_pos hn, if_pos hn]
      have : rdE s a ≠ none := fun e => by rw [(rd_none h).1 e] at hg; cases hg
      cases e : rdE s a with
      | none => exact absurd e this
      | some x => rfl
    · rw [if_neg hn, if_neg hn]
  | none =>
    simp only
    have hb := inv_born h a
    have hgb : getE (bornE s a).now a = some s.files.length := by
      rw [born_now]; exact getE_put_same (srt_del h.now.1 _)
    rw [rd_add hb hgb]
    by_cases hn : n = a
    · rw [if_pos hn, if_pos hn, rd_born h hg ha0 a ha0, if_pos rfl, (rd_none h).2 hg]
      rfl
    · rw [if_neg hn, if_neg hn, rd_born h hg ha0 n hn0, if_neg hn]
theorem rd_remove {s : DS} (h : DInv s) (a n : BS) : rdE (changeE s ⟨a, [], none⟩) n = if n = a then none else rdE s n := by
  rw [rd_change]
  show (getE (delE s.now a) n).bind _ = _
  by_cases hn : n = a
  · rw [if_pos hn, hn, getE_del_same]; rfl
  · rw [if_neg hn, getE_del_other h.now.1 hn]; rfl
theorem rd_rename {s : DS} (h : DInv s) {a b : BS} {i : Nat} (ha : getE s.now a = some i) (hab : a ≠ b) (n : BS) : rdE (changeE s ⟨a, b, some i⟩) n = if n = b then rdE s a else if n = a then none else rdE s n := by
  rw [rd_change]
  show (getE (putE (delE s.now a) b i) n).bind _ = _
  by_cases hn : n = b
  · rw [if_pos hn, hn, getE_put_same (srt_del h.now.1 _)]
    unfold rdE
    rw [ha]
  · rw [if_neg hn, getE_put_other (srt_del h.now.1 _) hn]
    by_cases hn2 : n = a
    · rw [if_pos hn2, hn2, getE_del_same]; rfl
    · rw [if_neg hn2, getE_del_other h.now.1 hn2]; rfl

end Go.Proofs.YtncpkblgiepdpaaGreat
