/- What stays true of the plain disk, call by call. No program here, and no condition. -/
import Derived.Test.YtncpkblgiepdpaaGreatDkS
set_option linter.unusedVariables false
namespace Go.Proofs.YtncpkblgiepdpaaGreat

theorem playT_nm (t : List Fil × Nat × Nm) : ∀ ws : List Wk, (playT t ws).2.2 = ws.foldl stepN t.2.2 := by
  intro ws
  induction ws generalizing t with
  | nil => rfl
  | cons w r ih =>
    show (playT (doT t.1 t.2.1 t.2.2 w) r).2.2 = _
    rw [ih, doT_nm]
    rfl
theorem playT_dm (t : List Fil × Nat × Nm) : ∀ ws : List Wk, dmE (playT t ws).1 = dmE t.1 := by
  intro ws
  induction ws generalizing t with
  | nil => rfl
  | cons w r ih =>
    show dmE (playT (doT t.1 t.2.1 t.2.2 w) r).1 = _
    rw [ih, doT_dm]
theorem playT_snoc (t : List Fil × Nat × Nm) (ws : List Wk) (w : Wk) : playT t (ws ++ [w]) = doT (playT t ws).1 (playT t ws).2.1 (playT t ws).2.2 w := by
  unfold playT
  rw [List.foldl_append]
  rfl
theorem okM_play {n : Nat} {m : Nm} (h : OkM n m) : ∀ ws : List Wk, (∀ w ∈ ws, ∀ i, w.file = some i → i < n) → OkM n (ws.foldl stepN m)
  | [], _ => h
  | w :: r, hw => okM_play (h.step w (hw w (by simp))) r fun x hx => hw x (by simp [hx])
theorem playT_nmd {o : Nm} : ∀ (ws : List Wk) (t : List Fil × Nat × Nm), Nmd t.1 t.2.1 (fun i => cntE i t.2.2 + cntE i o) → OkM t.1.length t.2.2 → (∀ w ∈ ws, ∀ i, w.file = some i → i < t.1.length) →
    Nmd (playT t ws).1 (playT t ws).2.1 (fun i => cntE i (playT t ws).2.2 + cntE i o)
  | [], _, h, _, _ => h
  | w :: r, t, h, hm, hw => by
    have h1 := doT_nmd h hm w (hw w (by simp))
    have hl : (doT t.1 t.2.1 t.2.2 w).1.length = t.1.length := dm_len (doT_dm _ _ _ _)
    refine playT_nmd r (doT t.1 t.2.1 t.2.2 w) (by rw [doT_nm]; exact h1) (by rw [doT_nm, hl]; exact hm.step w (hw w (by simp))) (fun x hx => by rw [hl]; exact hw x (by simp [hx]))

structure DInv (s : DS) : Prop where
  now : OkM s.files.length s.now
  kept : OkM s.files.length s.kept
  nmd : Nmd s.files s.used fun i => cntE i s.now + cntE i s.kept
  mrk : ∀ (i : Nat) (f : Fil), s.files[i]? = some f → f.mark ≤ f.data.length
  wk : ∀ w ∈ s.works, ∀ i, w.file = some i → i < s.files.length
  rep : s.works.foldl stepN s.kept = s.now
  inj : ∀ k i, cntE i ((s.works.take k).foldl stepN s.kept) ≤ 1

theorem DInv.injN {s : DS} (h : DInv s) (i : Nat) : cntE i s.now ≤ 1 := by
  have := h.inj s.works.length i
  rwa [List.take_length, h.rep] at this
theorem DInv.injK {s : DS} (h : DInv s) (i : Nat) : cntE i s.kept ≤ 1 := h.inj 0 i

def newE (room : Nat) : DS := ⟨false, room, 0, [], [], [], []⟩
theorem inv_new (room : Nat) : DInv (newE room) where
  now := ⟨List.Pairwise.nil, by simp [newE]⟩
  kept := ⟨List.Pairwise.nil, by simp [newE]⟩
  nmd := ⟨by simp [newE], rfl⟩
  mrk := by simp [newE]
  wk := by simp [newE]
  rep := rfl
  inj := by simp [newE, cntE]

/-- A file's bytes and mark are others, its names are as they were. -/
theorem nmd_set {fs : List Fil} {u : Nat} {c : Nat → Nat} (h : Nmd fs u c) {i : Nat} {f : Fil} (hf : fs[i]? = some f) (d : BS) (m : Nat) (u' : Nat) (hu : u' + f.weight = u + (⟨d, m, f.named⟩ : Fil).weight) :
    Nmd (fs.set i ⟨d, m, f.named⟩) u' c := by
  refine ⟨fun j g hj => ?_, ?_⟩
  · rw [List.getElem?_set] at hj
    by_cases e : i = j
    · subst e
      have hl : i < fs.length := (List.getElem?_eq_some_iff.1 hf).1
      simp [hl] at hj
      subst hj
      exact h.1 i f hf
    · simp [e] at hj
      exact h.1 j g hj
  · have := useE_set (g := ⟨d, m, f.named⟩) hf
    have := h.2
    omega

theorem inv_set {s : DS} (h : DInv s) {i : Nat} {f : Fil} (hf : s.files[i]? = some f) (d : BS) (m : Nat) (u' : Nat) (hm : m ≤ d.length) (hu : u' + f.weight = s.used + (⟨d, m, f.named⟩ : Fil).weight) :
    DInv { s with files := s.files.set i ⟨d, m, f.named⟩, used := u' } where
  now := by simpa using h.now
  kept := by simpa using h.kept
  nmd := nmd_set h.nmd hf d m u' hu
  mrk := fun j g hj => by
    rw [List.getElem?_set] at hj
    by_cases e : i = j
    · subst e
      have hl : i < s.files.length := (List.getElem?_eq_some_iff.1 hf).1
      simp [hl] at hj
      subst hj
      exact hm
    · simp [e] at hj
      exact h.mrk j g hj
  wk := by simpa using h.wk
  rep := h.rep
  inj := h.inj

theorem inv_sync {s : DS} (h : DInv s) (i : Nat) : DInv (syncE s i) := by
  unfold syncE
  cases hf : s.files[i]? with
  | none => exact h
  | some f => exact inv_set h hf f.data f.data.length s.used (Nat.le_refl _) (by simp [Fil.weight])
/-- Bytes behind a file that has a name. -/
theorem inv_add {s : DS} (h : DInv s) {i : Nat} (hi : 0 < cntE i s.now) (b : BS) : DInv (addE s i b) := by
  unfold addE
  cases hf : s.files[i]? with
  | none => exact h
  | some f =>
    have hn : f.named = cntE i s.now + cntE i s.kept := h.nmd.1 i f hf
    have hm := h.mrk i f hf
    refine inv_set h hf (f.data ++ b) f.mark (s.used + b.length) (by simp; omega) ?_
    have : 0 < f.named := by omega
    simp [Fil.weight, this]
    omega

theorem inv_change {s : DS} (h : DInv s) (w : Wk) (hw : ∀ i, w.file = some i → i < s.files.length ∧ cntE i (delE s.now w.gone) = 0) : DInv (changeE s w) := by
  have hl : (doT s.files s.used s.now w).1.length = s.files.length := dm_len (doT_dm _ _ _ _)
  have hn := doT_nmd h.nmd h.now w (fun i hi => (hw i hi).1)
  refine ⟨?_, ?_, ?_, ?_, ?_, ?_, ?_⟩
  · show OkM (doT s.files s.used s.now w).1.length (doT s.files s.used s.now w).2.2
    rw [hl, doT_nm]
    exact h.now.step w fun i hi => (hw i hi).1
  · show OkM (doT s.files s.used s.now w).1.length s.kept
    rw [hl]; exact h.kept
  · show Nmd (doT s.files s.used s.now w).1 (doT s.files s.used s.now w).2.1 fun i => cntE i (doT s.files s.used s.now w).2.2 + cntE i s.kept
    rw [doT_nm]; exact hn
  · intro i f hf
    obtain ⟨g, hg, e1, e2⟩ := dm_at (doT_dm s.files s.used s.now w) hf
    have := h.mrk i g hg
    rw [← e1, ← e2]; exact this
  · intro x hx i hi
    show i < (doT s.files s.used s.now w).1.length
    rw [hl]
    rcases List.mem_append.1 hx with hx | hx
    · exact h.wk x hx i hi
    · rw [List.mem_singleton.1 hx] at hi
      exact (hw i hi).1
  · show (s.works ++ [w]).foldl stepN s.kept = (doT s.files s.used s.now w).2.2
    rw [List.foldl_append, h.rep, doT_nm]
    rfl
  · intro k i
    show cntE i (((s.works ++ [w]).take k).foldl stepN s.kept) ≤ 1
    by_cases hk : k ≤ s.works.length
    · rw [List.take_append_of_le_length hk]
      exact h.inj k i
    · rw [List.take_of_length_le (by simp; omega), List.foldl_append, h.rep]
      show cntE i (stepN s.now w) ≤ 1
      have h1 := h.injN i
      have h2 := cnt_del h.now.1 w.gone i
      unfold stepN
      cases hf : w.file with
      | none => simp only; omega
      | some j =>
        simp only
        have h3 := cnt_put (m := delE s.now w.gone) w.given j i
        have h4 := cnt_del (srt_del h.now.1 w.gone) w.given i
        by_cases e : j = i
        · subst e
          have := (hw j hf).2
          rw [if_pos rfl] at h3
          omega
        · rw [if_neg e] at h3
          omega

theorem inv_more {s : DS} (h : DInv s) : DInv { s with files := s.files ++ [⟨[], 0, 0⟩] } where
  now := h.now.mono (by simp)
  kept := h.kept.mono (by simp)
  nmd := by
    refine ⟨fun i f hf => ?_, ?_⟩
    · show f.named = cntE i s.now + cntE i s.kept
      by_cases hi : i < s.files.length
      · rw [List.getElem?_append_left hi] at hf
        exact h.nmd.1 i f hf
      · have z : ∀ m : Nm, OkM s.files.length m → cntE i m = 0 := fun m hm => by
          unfold cntE
          rw [List.countP_eq_zero]
          intro p hp
          have := hm.2 p hp
          simp
          omega
        rw [z _ h.now, z _ h.kept]
        rw [List.getElem?_append_right (by omega)] at hf
        have : i - s.files.length = 0 := by
          rcases Nat.eq_zero_or_pos (i - s.files.length) with e | e
          · exact e
          · simp [Nat.ne_of_gt e] at hf
        rw [this] at hf
        simp at hf
        subst hf
        rfl
    · show s.used = useE (s.files ++ [⟨[], 0, 0⟩])
      rw [h.nmd.2]
      simp [useE, Fil.weight]
  mrk := fun i f hf => by
    rcases List.mem_append.1 (List.mem_of_getElem? hf) with hm | hm
    · obtain ⟨j, hj⟩ := List.getElem?_of_mem hm
      exact h.mrk j f hj
    · rw [List.mem_singleton.1 hm]; simp
  wk := fun w hw i hi => by
    have := h.wk w hw i hi
    simp
    omega
  rep := h.rep
  inj := h.inj
theorem cnt_far {n : Nat} {m : Nm} (h : OkM n m) : cntE n m = 0 := by
  unfold cntE
  rw [List.countP_eq_zero]
  intro p hp
  have := h.2 p hp
  simp
  omega
theorem inv_born {s : DS} (h : DInv s) (name : BS) : DInv (bornE s name) :=
  inv_change (inv_more h) _ fun i hi => by
    simp only [Option.some.injEq] at hi
    subst hi
    exact ⟨by simp, cnt_far (h.now.del _)⟩
theorem born_now (s : DS) (name : BS) : (bornE s name).now = putE (delE s.now []) name s.files.length := by
  show (doT _ _ _ _).2.2 = _
  rw [doT_nm]
  rfl
theorem inv_app {s : DS} (h : DInv s) (name b : BS) : DInv (appE s name b) := by
  unfold appE
  cases hg : getE s.now name with
  | some i => exact inv_add h (cnt_pos h.now.1 hg) b
  | none =>
    refine inv_add (inv_born h name) ?_ b
    have hb := inv_born h name
    refine cnt_pos hb.now.1 (s := name) ?_
    rw [born_now]
    exact getE_put_same (srt_del h.now.1 [])
theorem inv_rename {s : DS} (h : DInv s) {a : BS} {i : Nat} (hg : getE s.now a = some i) (b : BS) : DInv (changeE s ⟨a, b, some i⟩) :=
  inv_change h _ fun j hj => by
    simp only [Option.some.injEq] at hj
    subst hj
    refine ⟨h.now.get hg, ?_⟩
    have h1 := h.injN i
    have h2 := cnt_del h.now.1 a i
    rw [if_pos hg] at h2
    show cntE i (delE s.now a) = 0
    omega
theorem inv_remove {s : DS} (h : DInv s) (a : BS) : DInv (changeE s ⟨a, [], none⟩) := inv_change h _ fun j hj => by cases hj

/-- The first k works, done to the kept names. -/
def playK (s : DS) (k : Nat) : Nm := (s.works.take k).foldl stepN s.kept
theorem keep_kept (s : DS) (k : Nat) : (keepE s k).kept = playK s k := playT_nm _ _
theorem keep_dm (s : DS) (k : Nat) : dmE (keepE s k).files = dmE s.files := playT_dm _ _
theorem keep_len (s : DS) (k : Nat) : (keepE s k).files.length = s.files.length := dm_len (keep_dm s k)
theorem okM_playK {s : DS} (h : DInv s) (k : Nat) : OkM s.files.length (playK s k) := okM_play h.kept _ fun w hw => h.wk w (List.mem_of_mem_take hw)
theorem keep_nmd {s : DS} (h : DInv s) (k : Nat) : Nmd (keepE s k).files (keepE s k).used fun i => cntE i (playK s k) + cntE i s.now := by
  have := playT_nmd (o := s.now) (s.works.take k) (s.files, s.used, s.kept) (nmd_congr h.nmd fun i => Nat.add_comm _ _) h.kept (fun w hw => h.wk w (List.mem_of_mem_take hw))
  rw [playT_nm] at this
  exact this
theorem inv_keep {s : DS} (h : DInv s) : DInv (keepE s s.works.length) := by
  have e : (keepE s s.works.length).kept = s.now := by
    rw [keep_kept]
    unfold playK
    rw [List.take_length, h.rep]
  have hn := keep_nmd h s.works.length
  have e2 : playK s s.works.length = s.now := by unfold playK; rw [List.take_length, h.rep]
  rw [e2] at hn
  refine ⟨?_, ?_, ?_, ?_, fun w hw => by simp [keepE] at hw, ?_, ?_⟩
  · rw [keep_len]; exact h.now
  · rw [keep_len, e]; exact h.now
  · rw [e]; exact hn
  · intro i f hf
    obtain ⟨g, hg, e1, e2⟩ := dm_at (keep_dm s _) hf
    have := h.mrk i g hg
    rw [← e1, ← e2]; exact this
  · exact e
  · intro k i
    show cntE i ((([] : List Wk).take k).foldl stepN (keepE s s.works.length).kept) ≤ 1
    rw [List.take_nil, e]
    exact h.injN i

end Go.Proofs.YtncpkblgiepdpaaGreat
