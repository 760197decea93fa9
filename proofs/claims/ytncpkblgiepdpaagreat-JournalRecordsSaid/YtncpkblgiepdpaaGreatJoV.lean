/- What stays true of a plain disk behind a fall. No program here, and no condition. -/
import Derived.Test.YtncpkblgiepdpaaGreatDkV
set_option linter.unusedVariables false
set_option linter.unusedSimpArgs false
namespace Go.Proofs.YtncpkblgiepdpaaGreat

theorem blank_set {S : List Nat} {i : Nat} (fs : List Fil) (c : Fil) (hi : i ∉ S) : blankE (S ++ [i]) (fs.set i c) = (blankE S fs).set i c := by
  refine List.ext_getElem? fun j => ?_
  unfold blankE
  simp only [List.getElem?_mapIdx, List.getElem?_set, List.length_mapIdx]
  by_cases e : i = j
  · subst e
    by_cases hl : i < fs.length
    · simp [hl]
    · simp [hl]
  · simp only [e, if_false]
    have : (j ∈ S ++ [i]) ↔ j ∈ S := by
      simp only [List.mem_append, List.mem_singleton]
      exact ⟨fun h => h.elim id (fun h => absurd h.symm e), .inl⟩
    simp only [this]
theorem blank_none (fs : List Fil) : useE (blankE [] fs) = 0 := by
  have key : ∀ fs : List Fil, (∀ f ∈ fs, f.weight = 0) → useE fs = 0 := by
    intro fs
    induction fs with
    | nil => intro _; rfl
    | cons f r ih =>
      intro h
      unfold useE at ih ⊢
      simp only [List.map_cons, List.sum_cons]
      rw [h f (by simp), ih fun g hg => h g (by simp [hg])]
  refine key _ fun f hf => ?_
  obtain ⟨i, hi, rfl⟩ := List.mem_iff_getElem.1 hf
  unfold blankE
  simp [Fil.weight]
theorem cuts_use (keep : List Int) : ∀ (ids : List Nat) (S : List Nat) (fs : List Fil) (u k : Nat), ids.Nodup → (∀ i ∈ ids, i ∉ S) → (∀ i ∈ ids, i < fs.length) → (∀ i f, fs[i]? = some f → i ∈ ids → f.mark ≤ f.data.length) →
    useE (blankE (S ++ ids) (cutsE keep fs u k ids).1) + u = useE (blankE S fs) + (cutsE keep fs u k ids).2
  | [], S, fs, u, k, _, _, _, _ => by simp [cutsE]
  | i :: r, S, fs, u, k, hn, hS, hl, hm => by
    obtain ⟨h1, h2⟩ := List.nodup_cons.1 hn
    have hil := hl i (by simp)
    have hf : fs[i]? = some fs[i] := List.getElem?_eq_getElem hil
    have hmi := hm i _ hf (by simp)
    have hiS := hS i (by simp)
    unfold cutsE
    simp only [hf]
    have ih := cuts_use keep r (S ++ [i]) (fs.set i (fs[i].cut keep k)) (u + (fs[i].cut keep k).mark) (k + 1) h2 (fun j hj => by
      simp only [List.mem_append, List.mem_singleton]
      rintro (h | h)
      · exact hS j (by simp [hj]) h
      · subst h; exact h1 hj) (fun j hj => by rw [List.length_set]; exact hl j (by simp [hj])) (fun j f hjf hj => by
      rw [List.getElem?_set_ne (fun e => by subst e; exact h1 hj)] at hjf
      exact hm j f hjf (by simp [hj]))
    rw [blank_set _ _ hiS] at ih
    have hb : (blankE S fs)[i]? = some ⟨[], 0, 0⟩ := by
      unfold blankE
      rw [List.getElem?_mapIdx, hf]
      simp [hiS]
    have hu := useE_set (g := fs[i].cut keep k) hb
    have hw : (fs[i].cut keep k).weight = (fs[i].cut keep k).mark := by
      have := cut_le keep k hmi
      unfold Fil.cut Fil.weight
      simp only [List.length_take]
      rw [if_pos (by omega)]
      omega
    rw [hw] at hu
    have h0 : (⟨[], 0, 0⟩ : Fil).weight = 0 := by simp [Fil.weight]
    rw [h0] at hu
    have e : S ++ i :: r = S ++ [i] ++ r := by simp
    rw [e]
    omega
theorem cnt_mem {i : Nat} {m : Nm} : 0 < cntE i m ↔ ∃ p ∈ m, p.2 = i := by
  unfold cntE
  rw [List.countP_pos_iff]
  simp
theorem inv_fall {s : DS} (h : DInv s) (keep : List Int) : DInv (fallE s keep) := by
  have hM := okM_playK h (manyE s keep)
  have hl := fall_len s keep
  have hn := fall_now s keep
  have hk := fall_kept s keep
  have hinj : ∀ i, cntE i (playK s (manyE s keep)) ≤ 1 := fun i => h.inj (manyE s keep) i
  have hlen := keep_len s (manyE s keep)
  have hkk := keep_kept s (manyE s keep)
  have hnd := ids_nodup (keepE s (manyE s keep)).files.length (keepE s (manyE s keep)).kept
  have hfl : (fallE s keep).files = blankE (idsE (keepE s (manyE s keep)).files.length (keepE s (manyE s keep)).kept) (cutsE keep (keepE s (manyE s keep)).files 0 0 (idsE (keepE s (manyE s keep)).files.length (keepE s (manyE s keep)).kept)).1 := rfl
  have hus : (fallE s keep).used = (cutsE keep (keepE s (manyE s keep)).files 0 0 (idsE (keepE s (manyE s keep)).files.length (keepE s (manyE s keep)).kept)).2 := rfl
  have hmk : ∀ (i : Nat) (f : Fil), (keepE s (manyE s keep)).files[i]? = some f → f.mark ≤ f.data.length := fun i f hf => by
    obtain ⟨g, hg, e1, e2⟩ := dm_at (keep_dm s (manyE s keep)) hf
    rw [← e1, ← e2]
    exact h.mrk i g hg
  have hmem : ∀ i, i ∈ idsE (keepE s (manyE s keep)).files.length (keepE s (manyE s keep)).kept ↔ i < s.files.length ∧ 0 < cntE i (playK s (manyE s keep)) := fun i => by
    rw [mem_ids, hlen, hkk, cnt_mem]
  have hat : ∀ (i : Nat) (f : Fil), (fallE s keep).files[i]? = some f → (i ∈ idsE (keepE s (manyE s keep)).files.length (keepE s (manyE s keep)).kept ∧ ∃ g k, (keepE s (manyE s keep)).files[i]? = some g ∧ f = g.cut keep k) ∨ (i ∉ idsE (keepE s (manyE s keep)).files.length (keepE s (manyE s keep)).kept ∧ f = ⟨[], 0, 0⟩) := fun i f hf => by
    rw [hfl] at hf
    have hil : i < s.files.length := by
      have := (List.getElem?_eq_some_iff.1 hf).1
      unfold blankE at this
      rw [List.length_mapIdx, cuts_len, hlen] at this
      exact this
    by_cases hi : i ∈ idsE (keepE s (manyE s keep)).files.length (keepE s (manyE s keep)).kept
    · rw [blank_at _ _ hi] at hf
      have hg : (keepE s (manyE s keep)).files[i]? = some (keepE s (manyE s keep)).files[i] := List.getElem?_eq_getElem (by rw [hlen]; exact hil)
      obtain ⟨k, hc⟩ := cuts_in keep _ _ 0 0 hnd hi hg
      rw [hc] at hf
      exact .inl ⟨hi, _, k, hg, by cases hf; rfl⟩
    · refine .inr ⟨hi, ?_⟩
      unfold blankE at hf
      rw [List.getElem?_mapIdx] at hf
      cases e : (cutsE keep (keepE s (manyE s keep)).files 0 0 (idsE (keepE s (manyE s keep)).files.length (keepE s (manyE s keep)).kept)).1[i]? with
      | none => rw [e] at hf; cases hf
      | some g =>
        rw [e] at hf
        simp only [Option.map_some, hi, if_false, Option.some.injEq] at hf
        exact hf.symm
  refine ⟨by rw [hl, hn]; exact hM, by rw [hl, hk]; exact hM, ⟨fun i f hf => ?_, ?_⟩, fun i f hf => ?_, fun w hw => (by cases hw), by rw [hn]; exact hk, fun k i => ?_⟩
  · rw [hn, hk]
    rcases hat i f hf with ⟨hi, g, k, hg, rfl⟩ | ⟨hi, rfl⟩
    · have h1 := ((hmem i).1 hi).2
      have h2 := hinj i
      show 2 = cntE i (playK s (manyE s keep)) + cntE i (playK s (manyE s keep))
      omega
    · have hil : i < s.files.length := by
        have := (List.getElem?_eq_some_iff.1 hf).1
        rw [hl] at this
        exact this
      have h1 : ¬ 0 < cntE i (playK s (manyE s keep)) := fun h9 => hi ((hmem i).2 ⟨hil, h9⟩)
      show 0 = cntE i (playK s (manyE s keep)) + cntE i (playK s (manyE s keep))
      omega
  · rw [hfl, hus]
    have := cuts_use keep _ [] (keepE s (manyE s keep)).files 0 0 hnd (fun i _ => by simp) (fun i hi => by rw [hlen]; exact ((hmem i).1 hi).1) (fun i f hf _ => hmk i f hf)
    rw [blank_none] at this
    simp only [List.nil_append] at this
    omega
  · rcases hat i f hf with ⟨hi, g, k, hg, rfl⟩ | ⟨hi, rfl⟩
    · have := cut_le keep k (hmk i g hg)
      unfold Fil.cut
      simp only [List.length_take]
      omega
    · exact Nat.le_refl _
  · have hw : (fallE s keep).works = [] := rfl
    rw [hw, List.take_nil, hk]
    exact hinj i
theorem inv_boot {s : DS} (h : DInv s) : DInv (bootE s) := ⟨h.now, h.kept, h.nmd, h.mrk, h.wk, h.rep, h.inj⟩
theorem kept_len (s : DS) (k : Nat) : (playK s k).length ≤ s.kept.length + k := by
  have key : ∀ (ws : List Wk) (m : Nm), (ws.foldl stepN m).length ≤ m.length + ws.length := by
    intro ws
    induction ws with
    | nil => intro m; simp
    | cons x r ih =>
      intro m
      have h1 := ih (stepN m x)
      have h2 : (stepN m x).length ≤ m.length + 1 := by
        unfold stepN
        have hd : (delE m x.gone).length ≤ m.length := by unfold delE; exact List.length_filter_le _ _
        split
        · omega
        · have : ∀ (i : Nat) (m : Nm), (putE m x.given i).length ≤ m.length + 1 := by
            intro i m
            have h3 : (putE m x.given i).length = (delE m x.given).length + 1 := by
              unfold putE
              have : ∀ (y : BS × Nat) (m : Nm), (insE y m).length = m.length + 1 := by
                intro y m
                induction m with
                | nil => rfl
                | cons z t ih2 =>
                  unfold insE
                  split
                  · rfl
                  · simp [ih2]
              exact this _ _
            have h4 : (delE m x.given).length ≤ m.length := by unfold delE; exact List.length_filter_le _ _
            omega
          have := this ‹Nat› (delE m x.gone)
          omega
      simp only [List.foldl_cons, List.length_cons]
      omega
  have h1 := key (s.works.take k) s.kept
  have h2 : (s.works.take k).length ≤ k := by rw [List.length_take]; exact Nat.min_le_left _ _
  unfold playK
  omega
theorem run_fall {s : DS} {k m r : Nat} (h : Run s k m r) (keep : List Int) : Run (bootE (fallE s keep)) (2 * k) m r := by
  refine ⟨inv_boot (inv_fall h.inv keep), ⟨?_, ?_, ?_, ?_, ?_⟩, fun x hx => (by cases hx), rfl, h.room⟩
  · show (fallE s keep).files.length ≤ _
    rw [fall_len]; have := h.bnd.files; omega
  · exact Nat.zero_le _
  · show (fallE s keep).now.length ≤ _
    rw [fall_now]
    have h1 := kept_len s (manyE s keep)
    have h2 : manyE s keep ≤ s.works.length := brE_le _ _ _
    have := h.bnd.kept
    have := h.bnd.works
    omega
  · show (fallE s keep).kept.length ≤ _
    rw [fall_kept]
    have h1 := kept_len s (manyE s keep)
    have h2 : manyE s keep ≤ s.works.length := brE_le _ _ _
    have := h.bnd.kept
    have := h.bnd.works
    omega
  · have := fall_sum s keep
    have := h.bnd.data
    show ((fallE s keep).files.map fun f => f.data.length).sum ≤ m
    omega
end Go.Proofs.YtncpkblgiepdpaaGreat
