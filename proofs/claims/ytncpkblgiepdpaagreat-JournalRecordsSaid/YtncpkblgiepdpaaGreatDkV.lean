/- Deeds of a plain disk, one behind the other: what stays true. No program here, and no condition. -/
import Derived.Test.YtncpkblgiepdpaaGreatDkQ
set_option linter.unusedVariables false
namespace Go.Proofs.YtncpkblgiepdpaaGreat

/-- Works' names are short. -/
def ShortE (s : DS) : Prop := ∀ x ∈ s.works, x.gone.length ≤ 40 ∧ x.given.length ≤ 40
structure Run (s : DS) (k m r : Nat) : Prop where
  inv : DInv s
  bnd : Bnd s k m
  short : ShortE s
  live : s.dead = false
  room : s.room = r
def dsE (s : DS) (l : List Dd) : DS := l.foldl (fun s x => (dE s x).1) s
def Dd.small (x : Dd) : Prop := x.name.length ≤ 40 ∧ x.to.length ≤ 40

theorem short_change {s : DS} (h : ShortE s) {w : Wk} (h1 : w.gone.length ≤ 40) (h2 : w.given.length ≤ 40) : ShortE (changeE s w) := fun x hx => by
  rcases List.mem_append.1 hx with hx | hx
  · exact h x hx
  · rw [List.mem_singleton.1 hx]; exact ⟨h1, h2⟩
theorem add_same (s : DS) (i : Nat) (b : BS) : (addE s i b).works = s.works ∧ (addE s i b).dead = s.dead ∧ (addE s i b).room = s.room := by
  unfold addE
  split <;> exact ⟨rfl, rfl, rfl⟩
theorem sync_same (s : DS) (i : Nat) : (syncE s i).works = s.works ∧ (syncE s i).dead = s.dead ∧ (syncE s i).room = s.room := by
  unfold syncE
  split <;> exact ⟨rfl, rfl, rfl⟩
theorem short_d {s : DS} (h : ShortE s) {x : Dd} (hx : x.small) : ShortE (dE s x).1 := by
  unfold dE
  split
  · split
    · show ShortE (appE s x.name x.b)
      unfold appE
      split
      · intro y hy
        rw [(add_same _ _ _).1] at hy
        exact h y hy
      · intro y hy
        rw [(add_same _ _ _).1] at hy
        exact short_change (s := { s with files := s.files ++ [(⟨[], 0, 0⟩ : Fil)] }) h (w := ⟨[], x.name, some s.files.length⟩) (by simp) hx.1 y hy
    · exact h
  · split
    · exact h
    · intro y hy
      have hy2 : y ∈ (syncE s _).works := hy
      rw [(sync_same _ _).1] at hy2
      exact h y hy2
  · split
    · exact h
    · split
      · exact h
      · exact short_change h hx.1 hx.2
  · split
    · exact h
    · exact short_change h hx.1 (by simp)
  · intro y hy
    simp [keepE] at hy
theorem same_d (s : DS) (x : Dd) : (dE s x).1.dead = s.dead ∧ (dE s x).1.room = s.room := by
  unfold dE
  split
  · split
    · show (appE s x.name x.b).dead = _ ∧ (appE s x.name x.b).room = _
      unfold appE
      split
      · exact (add_same _ _ _).2
      · exact (add_same _ _ _).2
    · exact ⟨rfl, rfl⟩
  · split
    · exact ⟨rfl, rfl⟩
    · exact (sync_same _ _).2
  · split
    · exact ⟨rfl, rfl⟩
    · split <;> exact ⟨rfl, rfl⟩
  · split <;> exact ⟨rfl, rfl⟩
  · exact ⟨rfl, rfl⟩
theorem run_new (r : Nat) : Run (newE r) 0 0 r :=
  ⟨inv_new r, ⟨Nat.le_refl _, Nat.le_refl _, Nat.le_refl _, Nat.le_refl _, by simp [newE]⟩, fun x hx => by simp [newE] at hx, rfl, rfl⟩
theorem run_d {s : DS} {k m r : Nat} (h : Run s k m r) {x : Dd} (hx : x.small) : Run (dE s x).1 (k + 1) (m + x.b.length) r :=
  ⟨inv_d h.inv x, bnd_d h.inv h.bnd x, short_d h.short hx, (same_d s x).1.trans h.live, (same_d s x).2.trans h.room⟩
theorem Run.mono {s : DS} {k m k' m' r : Nat} (h : Run s k m r) (hk : k ≤ k') (hm : m ≤ m') : Run s k' m' r := ⟨h.inv, h.bnd.mono hk hm, h.short, h.live, h.room⟩
theorem dsE_snoc (s : DS) (l : List Dd) (x : Dd) : dsE s (l ++ [x]) = (dE (dsE s l) x).1 := by
  unfold dsE
  rw [List.foldl_append]
  rfl
/-- Deeds of few bytes each. -/
theorem run_ds {s : DS} {k m r : Nat} (h : Run s k m r) (b : Nat) : ∀ (l : List Dd), (∀ x ∈ l, x.small ∧ x.b.length ≤ b) → Run (dsE s l) (k + l.length) (m + l.length * b) r := by
  intro l
  induction l generalizing s k m with
  | nil => intro _; simpa [dsE] using h
  | cons x t ih =>
    intro hl
    have h1 := run_d h (hl x (by simp)).1
    have h2 := ih (h1.mono (Nat.le_refl _) (m' := m + b) (by have := (hl x (by simp)).2; omega)) (fun y hy => hl y (by simp [hy]))
    show Run (dsE (dE s x).1 t) _ _ _
    refine h2.mono (by simp only [List.length_cons]; omega) ?_
    simp only [List.length_cons, Nat.add_mul]
    omega
theorem take_snoc {l : List Dd} {j : Nat} (hj : j < l.length) (s : DS) : dsE s (l.take (j + 1)) = (dE (dsE s (l.take j)) l[j]).1 := by
  rw [List.take_succ_eq_append_getElem hj, dsE_snoc]

/-! ### behind a fall -/
theorem fall_len (s : DS) (keep : List Int) : (fallE s keep).files.length = s.files.length := by
  show (blankE _ (cutsE _ _ _ _ _).1).length = _
  unfold blankE
  rw [List.length_mapIdx, cuts_len]
  exact keep_len s _
theorem cuts_sum (keep : List Int) : ∀ (ids : List Nat) (fs : List Fil) (u k : Nat), ((cutsE keep fs u k ids).1.map fun f => f.data.length).sum ≤ (fs.map fun f => f.data.length).sum
  | [], fs, _, _ => Nat.le_refl _
  | i :: r, fs, u, k => by
    unfold cutsE
    split
    · exact cuts_sum keep r _ _ _
    · rename_i f hf
      refine Nat.le_trans (cuts_sum keep r _ _ _) ?_
      have h1 := sum_set (g := f.cut keep k) hf
      have h2 : (f.cut keep k).data.length ≤ f.data.length := by simp only [Fil.cut, List.length_take]; omega
      omega
theorem blank_sum (ids : List Nat) (fs : List Fil) : ((blankE ids fs).map fun f => f.data.length).sum ≤ (fs.map fun f => f.data.length).sum := by
  unfold blankE
  have key : ∀ (fs : List Fil) (q : Nat → Bool), ((fs.mapIdx fun i f => if q i = true then f else ⟨[], 0, 0⟩).map fun f => f.data.length).sum ≤ (fs.map fun f => f.data.length).sum := by
    intro fs
    induction fs with
    | nil => intro q; simp
    | cons x r ih =>
      intro q
      have := ih (fun i => q (i + 1))
      simp only [List.mapIdx_cons, List.map_cons, List.sum_cons]
      have h2 : (if q 0 = true then x else (⟨[], 0, 0⟩ : Fil)).data.length ≤ x.data.length := by split <;> simp
      omega
  have := key fs (fun i => decide (i ∈ ids))
  simpa using this
theorem fall_sum (s : DS) (keep : List Int) : ((fallE s keep).files.map fun f => f.data.length).sum ≤ (s.files.map fun f => f.data.length).sum := by
  refine Nat.le_trans (blank_sum _ _) (Nat.le_trans (cuts_sum keep _ _ _ _) ?_)
  rw [sum_dm (keep_dm s _)]
  exact Nat.le_refl _
end Go.Proofs.YtncpkblgiepdpaaGreat
