/- A plain disk when the power goes: what is kept of it. No program here, and no condition. -/
import Derived.Test.YtncpkblgiepdpaaGreatDkP
set_option linter.unusedVariables false
namespace Go.Proofs.YtncpkblgiepdpaaGreat

theorem cuts_len (keep : List Int) : ∀ (ids : List Nat) (fs : List Fil) (u k : Nat), (cutsE keep fs u k ids).1.length = fs.length
  | [], _, _, _ => rfl
  | i :: r, fs, u, k => by
    unfold cutsE
    split
    · exact cuts_len keep r _ _ _
    · rw [cuts_len keep r]; simp
theorem cuts_out (keep : List Int) {i : Nat} : ∀ (ids : List Nat) (fs : List Fil) (u k : Nat), i ∉ ids → (cutsE keep fs u k ids).1[i]? = fs[i]?
  | [], _, _, _, _ => rfl
  | j :: r, fs, u, k, h => by
    have h1 : j ≠ i := fun e => h (by simp [e])
    have h2 : i ∉ r := fun e => h (by simp [e])
    unfold cutsE
    split
    · exact cuts_out keep r _ _ _ h2
    · rw [cuts_out keep r _ _ _ h2, List.getElem?_set_ne h1]
theorem cuts_in (keep : List Int) {i : Nat} {f : Fil} : ∀ (ids : List Nat) (fs : List Fil) (u k : Nat), ids.Nodup → i ∈ ids → fs[i]? = some f → ∃ k', (cutsE keep fs u k ids).1[i]? = some (f.cut keep k')
  | [], _, _, _, _, h, _ => by simp at h
  | j :: r, fs, u, k, hn, h, hf => by
    obtain ⟨h1, h2⟩ := List.nodup_cons.1 hn
    by_cases e : j = i
    · subst e
      unfold cutsE
      rw [hf]
      simp only
      refine ⟨k, ?_⟩
      rw [cuts_out keep r _ _ _ h1]
      have hl := (List.getElem?_eq_some_iff.1 hf).1
      simp [hl]
    · have hr : i ∈ r := by
        rcases List.mem_cons.1 h with e2 | e2
        · exact absurd e2.symm e
        · exact e2
      unfold cutsE
      split
      · exact cuts_in keep r _ _ _ h2 hr hf
      · exact cuts_in keep r _ _ _ h2 hr (by rw [List.getElem?_set_ne e]; exact hf)
theorem ids_nodup (n : Nat) (m : Nm) : (idsE n m).Nodup := List.nodup_range.filter _
theorem mem_ids {n : Nat} {m : Nm} {i : Nat} : i ∈ idsE n m ↔ i < n ∧ ∃ p ∈ m, p.2 = i := by
  unfold idsE
  simp [List.mem_filter]
theorem blank_at (ids : List Nat) (fs : List Fil) {i : Nat} (h : i ∈ ids) : (blankE ids fs)[i]? = fs[i]? := by
  unfold blankE
  rw [List.getElem?_mapIdx]
  cases fs[i]? <;> simp [h]
theorem cut_le {f : Fil} (keep : List Int) (k : Nat) (h : f.mark ≤ f.data.length) : f.mark + brE keep (1 + k) (f.data.length - f.mark) ≤ f.data.length := by
  have := brE_le keep (1 + k) (f.data.length - f.mark)
  omega

/-- How many works on names are kept. -/
def manyE (s : DS) (keep : List Int) : Nat := brE keep 0 s.works.length
theorem fall_now (s : DS) (keep : List Int) : (fallE s keep).now = playK s (manyE s keep) := keep_kept s _
theorem fall_kept (s : DS) (keep : List Int) : (fallE s keep).kept = playK s (manyE s keep) := keep_kept s _
/-- A file that is there behind a fall. -/
theorem fall_file {s : DS} (h : DInv s) (keep : List Int) {n : BS} {i : Nat} (hg : getE (fallE s keep).now n = some i) :
    ∃ f k, s.files[i]? = some f ∧ (fallE s keep).files[i]? = some (f.cut keep k) := by
  rw [fall_now] at hg
  have hok := okM_playK h (manyE s keep)
  have hl := hok.get hg
  have hf : s.files[i]? = some s.files[i] := List.getElem?_eq_getElem hl
  obtain ⟨g, hg1, e1, e2⟩ := dm_at (keep_dm s (manyE s keep)).symm hf
  have hin : i ∈ idsE (keepE s (manyE s keep)).files.length (keepE s (manyE s keep)).kept := by
    rw [mem_ids, keep_len, keep_kept]
    exact ⟨hl, _, (getE_some hok.1).1 hg, rfl⟩
  obtain ⟨k, hk⟩ := cuts_in keep _ (keepE s (manyE s keep)).files 0 0 (ids_nodup _ _) hin hg1
  refine ⟨_, k, hf, ?_⟩
  show (blankE (idsE (keepE s (manyE s keep)).files.length (keepE s (manyE s keep)).kept) (cutsE keep (keepE s (manyE s keep)).files 0 0 (idsE (keepE s (manyE s keep)).files.length (keepE s (manyE s keep)).kept)).1)[i]? = _
  rw [blank_at _ _ hin, hk]
  unfold Fil.cut
  rw [e1, e2]
def bootE (s : DS) : DS := { s with dead := false }
theorem rd_fall {s : DS} (h : DInv s) (keep : List Int) {n : BS} {i : Nat} (hg : getE (fallE s keep).now n = some i) :
    ∃ f k, s.files[i]? = some f ∧ rdE (fallE s keep) n = some (f.data.take (f.mark + brE keep (1 + k) (f.data.length - f.mark))) := by
  obtain ⟨f, k, h1, h2⟩ := fall_file h keep hg
  refine ⟨f, k, h1, ?_⟩
  unfold rdE
  rw [hg]
  simp only [Option.bind_some, h2]
  rfl

/-! ### what was synced stays -/
structure Held (s : DS) (a : BS) (was : BS) (i : Nat) : Prop where
  inv : DInv s
  now : getE s.now a = some i
  kept : getE s.kept a = some i
  file : ∃ n, s.files[i]? = some ⟨was, was.length, n⟩
  wk : ∀ w ∈ s.works, w.gone ≠ a ∧ w.given ≠ a
theorem held_dm {s t : DS} {i : Nat} {was : BS} (h : dmE t.files = dmE s.files) (hf : ∃ n, s.files[i]? = some ⟨was, was.length, n⟩) : ∃ n, t.files[i]? = some ⟨was, was.length, n⟩ := by
  obtain ⟨n, hn⟩ := hf
  obtain ⟨g, hg, e1, e2⟩ := dm_at h.symm hn
  refine ⟨g.named, ?_⟩
  rw [hg]
  cases g
  simp only at e1 e2
  rw [e1, e2]
theorem getE_step_other {m : Nm} (h : Srt m) (w : Wk) {a : BS} (h1 : w.gone ≠ a) (h2 : w.given ≠ a) : getE (stepN m w) a = getE m a := by
  unfold stepN
  split
  · exact getE_del_other h (fun e => h1 e.symm)
  · rw [getE_put_other (srt_del h _) (fun e => h2 e.symm), getE_del_other h (fun e => h1 e.symm)]
theorem srt_step {m : Nm} (h : Srt m) (w : Wk) : Srt (stepN m w) := by
  unfold stepN
  split
  · exact srt_del h _
  · exact srt_put (srt_del h _) _ _
theorem getE_play_other {a : BS} : ∀ (ws : List Wk) {m : Nm}, Srt m → (∀ w ∈ ws, w.gone ≠ a ∧ w.given ≠ a) → getE (ws.foldl stepN m) a = getE m a
  | [], _, _, _ => rfl
  | w :: r, m, h, hw => by
    show getE (r.foldl stepN (stepN m w)) a = _
    rw [getE_play_other r (srt_step h w) (fun x hx => hw x (by simp [hx])), getE_step_other h w (hw w (by simp)).1 (hw w (by simp)).2]
theorem held_change {s : DS} {a was : BS} {i : Nat} (h : Held s a was i) (w : Wk) (hi : DInv (changeE s w)) (h1 : w.gone ≠ a) (h2 : w.given ≠ a) : Held (changeE s w) a was i := by
  refine ⟨hi, ?_, h.kept, held_dm (change_files s w) h.file, fun x hx => ?_⟩
  · rw [change_now, getE_step_other h.inv.now.1 w h1 h2]; exact h.now
  · rcases List.mem_append.1 hx with hx | hx
    · exact h.wk x hx
    · rw [List.mem_singleton.1 hx]; exact ⟨h1, h2⟩
theorem held_add {s : DS} {a was b : BS} {i j : Nat} (h : Held s a was i) (hi : DInv (addE s j b)) (hj : j ≠ i) : Held (addE s j b) a was i := by
  revert hi
  unfold addE
  split
  · exact fun _ => h
  · intro hi
    refine ⟨hi, h.now, h.kept, ?_, h.wk⟩
    obtain ⟨n, hn⟩ := h.file
    refine ⟨n, ?_⟩
    show (s.files.set j _)[i]? = _
    rw [List.getElem?_set_ne hj]; exact hn
theorem held_d {s : DS} {a was : BS} {i : Nat} (h : Held s a was i) (ha0 : a ≠ []) (x : Dd) (h1 : x.name ≠ a) (h2 : x.to ≠ a) : Held (dE s x).1 a was i := by
  have hd := inv_d h.inv x
  revert hd
  unfold dE
  split
  · split
    · intro hd
      revert hd
      show DInv (appE s x.name x.b) → Held (appE s x.name x.b) a was i
      unfold appE
      split
      · rename_i j hj
        intro hd
        exact held_add h hd (fun e => by subst e; exact two h.inv hj h.now h1 rfl)
      · intro hd
        have hb := inv_born h.inv x.name
        have hm : Held { s with files := s.files ++ [(⟨[], 0, 0⟩ : Fil)] } a was i := by
          refine ⟨inv_more h.inv, h.now, h.kept, ?_, h.wk⟩
          obtain ⟨n, hn⟩ := h.file
          exact ⟨n, by show (s.files ++ _)[i]? = _; rw [List.getElem?_append_left (h.inv.now.get h.now)]; exact hn⟩
        refine held_add (held_change hm ⟨[], x.name, some s.files.length⟩ hb (fun e => ha0 e.symm) h1) hd (fun e => ?_)
        have := h.inv.now.get h.now
        omega
    · exact fun _ => h
  · split
    · exact fun _ => h
    · rename_i j hj
      intro hd
      revert hd
      show DInv (syncE s j) → Held (syncE s j) a was i
      unfold syncE
      split
      · exact fun _ => h
      · intro hd
        refine ⟨hd, h.now, h.kept, ?_, h.wk⟩
        obtain ⟨n, hn⟩ := h.file
        refine ⟨n, ?_⟩
        show (s.files.set j _)[i]? = _
        rw [List.getElem?_set_ne (fun e => by subst e; exact two h.inv hj h.now h1 rfl)]; exact hn
  · split
    · exact fun _ => h
    · split
      · exact fun _ => h
      · exact fun hd => held_change h _ hd h1 h2
  · split
    · exact fun _ => h
    · exact fun hd => held_change h _ hd h1 (fun e => ha0 e.symm)
  · intro hd
    refine ⟨hd, h.now, ?_, held_dm (keep_dm s _) h.file, by simp [keepE]⟩
    show getE (keepE s s.works.length).kept a = _
    rw [keep_kept]
    unfold playK
    rw [List.take_length, h.inv.rep]
    exact h.now
/-- Behind a fall it is as it was. -/
theorem held_fall {s : DS} {a was : BS} {i : Nat} (h : Held s a was i) (keep : List Int) : rdE (fallE s keep) a = some was := by
  have hg : getE (fallE s keep).now a = some i := by
    rw [fall_now]
    unfold playK
    rw [getE_play_other _ h.inv.kept.1 (fun w hw => h.wk w (List.mem_of_mem_take hw))]
    exact h.kept
  obtain ⟨f, k, h1, h2⟩ := rd_fall h.inv keep hg
  obtain ⟨n, hn⟩ := h.file
  rw [hn] at h1
  cases h1
  rw [h2]
  have : brE keep (1 + k) ((⟨was, was.length, n⟩ : Fil).data.length - was.length) = 0 := by
    have := brE_le keep (1 + k) ((⟨was, was.length, n⟩ : Fil).data.length - was.length)
    simp at this ⊢
    exact this
  simp only [this, Nat.add_zero, List.take_length]
/-- A file is synced, then names are. -/
theorem held_begin {s : DS} (h : DInv s) {a : BS} {i : Nat} {was : BS} (hg : getE s.now a = some i) (hw : rdE s a = some was) : Held (keepE (syncE s i) (syncE s i).works.length) a was i := by
  have hl := h.now.get hg
  have hf : s.files[i]? = some s.files[i] := List.getElem?_eq_getElem hl
  have hd : s.files[i].data = was := by
    unfold rdE at hw
    rw [hg] at hw
    simpa [hf] using hw
  have e : syncE s i = { s with files := s.files.set i ⟨was, was.length, s.files[i].named⟩ } := by
    unfold syncE
    rw [hf]
    simp only [hd]
  have hi := inv_sync h i
  have hn : (syncE s i).now = s.now := by rw [e]
  refine ⟨inv_keep hi, ?_, ?_, held_dm (keep_dm _ _) ?_, by simp [keepE]⟩
  · show getE (syncE s i).now a = _
    rw [hn]; exact hg
  · rw [keep_kept]
    unfold playK
    rw [List.take_length, hi.rep, hn]
    exact hg
  · rw [e]
    exact ⟨s.files[i].named, by simp [hl]⟩

/-! ### behind another fall it is as it was -/
theorem cut_same {f : Fil} {keep : List Int} {k : Nat} (h : f.mark = f.data.length) : (f.cut keep k).data = f.data := by
  have : brE keep (1 + k) (f.data.length - f.mark) = 0 := by
    have := brE_le keep (1 + k) (f.data.length - f.mark)
    omega
  unfold Fil.cut
  simp only [this, Nat.add_zero]
  rw [h, List.take_length]

/-- What a second fall finds: no works, files that are synced. -/
structure Calm (s : DS) : Prop where
  ok : OkM s.files.length s.now
  same : s.kept = s.now
  works : s.works = []
  mrk : ∀ p ∈ s.now, ∃ f, s.files[p.2]? = some f ∧ f.mark = f.data.length
theorem calm_fall {s : DS} (h : DInv s) (keep : List Int) : Calm (fallE s keep) := by
  have hl : (fallE s keep).files.length = s.files.length := by
    show (blankE _ (cutsE _ _ _ _ _).1).length = _
    unfold blankE
    rw [List.length_mapIdx, cuts_len]
    exact keep_len s _
  refine ⟨by rw [hl, fall_now]; exact okM_playK h _, rfl, rfl, fun p hp => ?_⟩
  have hok : OkM s.files.length (fallE s keep).now := by rw [fall_now]; exact okM_playK h _
  obtain ⟨f, k, h1, h2⟩ := fall_file h keep ((getE_some hok.1 (s := p.1) (i := p.2)).2 hp)
  refine ⟨_, h2, ?_⟩
  have := cut_le keep k (h.mrk _ _ h1)
  simp only [Fil.cut, List.length_take]
  omega
theorem calm_boot {s : DS} (h : Calm s) : Calm (bootE s) := ⟨h.ok, h.same, h.works, h.mrk⟩
theorem calm_now {s : DS} (h : Calm s) (keep : List Int) : (fallE s keep).now = s.now := by
  rw [fall_now]
  unfold playK
  rw [h.works, List.take_nil]
  exact h.same
theorem calm_rd {s : DS} (h : Calm s) (keep : List Int) (n : BS) : rdE (fallE s keep) n = rdE s n := by
  unfold rdE
  rw [calm_now h]
  cases hg : getE s.now n with
  | none => rfl
  | some i =>
    have hm := (getE_some h.ok.1).1 hg
    obtain ⟨f, hf, hk⟩ := h.mrk _ hm
    have hk0 : keepE s (brE keep 0 s.works.length) = { s with works := [] } := by
      unfold keepE
      rw [h.works, List.take_nil]
      rfl
    have hin : i ∈ idsE s.files.length s.kept := by
      rw [mem_ids, h.same]
      exact ⟨h.ok.2 _ hm, _, hm, rfl⟩
    obtain ⟨k, hc⟩ := cuts_in keep _ s.files 0 0 (ids_nodup _ _) hin hf
    have : (fallE s keep).files[i]? = some (f.cut keep k) := by
      unfold fallE
      simp only
      rw [hk0]
      simp only
      rw [blank_at _ _ hin, hc]
    simp only [Option.bind_some, this, hf, Option.map_some, cut_same hk]

/-! ### a beginning of what a file had -/
/-- Each file's bytes were read at some time. -/
def Had (s : DS) (had : List BS) : Prop := ∀ (i : Nat) (f : Fil), s.files[i]? = some f → f.data ∈ had
theorem had_dm {s t : DS} {had : List BS} (h : dmE t.files = dmE s.files) (hh : Had s had) : Had t had := fun i f hf => by
  obtain ⟨g, hg, e1, _⟩ := dm_at h hf
  rw [← e1]; exact hh i g hg
theorem Had.more {s : DS} {had had' : List BS} (h : Had s had) (hs : ∀ x ∈ had, x ∈ had') : Had s had' := fun i f hf => hs _ (h i f hf)
theorem had_d {s : DS} {had : List BS} (hi : DInv s) (h : Had s had) (x : Dd) (had' : List BS) (hs : ∀ y ∈ had, y ∈ had') (hr : ∀ y, rdE (dE s x).1 x.name = some y → y ∈ had') : Had (dE s x).1 had' := by
  revert hr
  unfold dE
  split
  · split
    · show (∀ y, rdE (appE s x.name x.b) x.name = some y → y ∈ had') → Had (appE s x.name x.b) had'
      intro hr
      have key : ∀ (t : DS) (j : Nat), DInv t → getE t.now x.name = some j → (∀ (i : Nat) (f : Fil), i ≠ j → t.files[i]? = some f → f.data ∈ had) → (∀ y, rdE (addE t j x.b) x.name = some y → y ∈ had') → Had (addE t j x.b) had' := by
        intro t j ht hg ho hr i f hf
        have hl := ht.now.get hg
        have hfj : t.files[j]? = some t.files[j] := List.getElem?_eq_getElem hl
        have e : addE t j x.b = { t with files := t.files.set j ⟨t.files[j].data ++ x.b, t.files[j].mark, t.files[j].named⟩, used := t.used + x.b.length } := by simp only [addE, hfj]
        by_cases eij : i = j
        · subst eij
          refine hr _ ?_
          unfold rdE
          have : (addE t i x.b).now = t.now := by rw [e]
          rw [this, hg, Option.bind_some, hf]
          rfl
        · rw [e] at hf
          have hf2 : (t.files.set j ⟨t.files[j].data ++ x.b, t.files[j].mark, t.files[j].named⟩)[i]? = some f := hf
          rw [List.getElem?_set_ne (fun e => eij e.symm)] at hf2
          exact hs _ (ho i f eij hf2)
      revert hr
      unfold appE
      split
      · rename_i j hj
        exact key s j hi hj fun i f _ hf => h i f hf
      · refine key _ _ (inv_born hi x.name) ?_ fun i f hne hf => ?_
        · rw [born_now]; exact getE_put_same (srt_del hi.now.1 _)
        · obtain ⟨g, hg, e1, _⟩ := dm_at (change_files { s with files := s.files ++ [(⟨[], 0, 0⟩ : Fil)] } ⟨[], x.name, some s.files.length⟩) hf
          rw [← e1]
          have hlt : i < s.files.length := by
            have := (List.getElem?_eq_some_iff.1 hg).1
            simp at this
            omega
          have hg2 : (s.files ++ [(⟨[], 0, 0⟩ : Fil)])[i]? = some g := hg
          rw [List.getElem?_append_left hlt] at hg2
          exact h i g hg2
    · exact fun _ => h.more hs
  · split
    · exact fun _ => h.more hs
    · intro _
      show Had (syncE s _) had'
      unfold syncE
      split
      · exact h.more hs
      · rename_i f hf
        intro i g hg
        have hg2 : (s.files.set _ ⟨f.data, f.data.length, f.named⟩)[i]? = some g := hg
        rw [List.getElem?_set] at hg2
        split at hg2
        · split at hg2
          · simp at hg2
            subst hg2
            exact hs _ (h _ f hf)
          · cases hg2
        · exact hs _ (h i g hg2)
  · split
    · exact fun _ => h.more hs
    · split
      · exact fun _ => h.more hs
      · exact fun _ => (had_dm (change_files s _) h).more hs
  · split
    · exact fun _ => h.more hs
    · exact fun _ => (had_dm (change_files s _) h).more hs
  · exact fun _ => (had_dm (keep_dm s _) h).more hs
theorem had_fall {s : DS} {had : List BS} (hi : DInv s) (h : Had s had) (keep : List Int) {n : BS} {i : Nat} (hg : getE (fallE s keep).now n = some i) :
    ∃ b, rdE (fallE s keep) n = some b ∧ ∃ y ∈ had, b.length ≤ y.length ∧ b = y.take b.length := by
  obtain ⟨f, k, h1, h2⟩ := rd_fall hi keep hg
  refine ⟨_, h2, f.data, h i f h1, by simp; omega, ?_⟩
  have := cut_le keep k (hi.mrk _ _ h1)
  rw [List.length_take, Nat.min_eq_left this]

end Go.Proofs.YtncpkblgiepdpaaGreat
