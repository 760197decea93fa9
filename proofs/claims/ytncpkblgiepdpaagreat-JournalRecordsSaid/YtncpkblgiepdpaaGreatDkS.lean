/- The plain disk, on: its calls as functions, and what stays true of it. No program here, and no condition. -/
import Derived.Test.YtncpkblgiepdpaaGreatDkM
set_option linter.unusedVariables false
namespace Go.Proofs.YtncpkblgiepdpaaGreat

structure Fil where
  data : BS
  mark : Nat
  named : Nat
structure Wk where
  gone : BS
  given : BS
  file : Option Nat
structure DS where
  dead : Bool
  room : Nat
  used : Nat
  files : List Fil
  now : Nm
  kept : Nm
  works : List Wk

def Fil.weight (f : Fil) : Nat := if 0 < f.named then f.data.length else 0
def useE (fs : List Fil) : Nat := (fs.map Fil.weight).sum

/-- A name less of a file, a name more. -/
def relE (fs : List Fil) (u : Nat) (o : Option Nat) : List Fil × Nat :=
  match o with
  | none => (fs, u)
  | some i => match fs[i]? with
    | none => (fs, u)
    | some f => (fs.set i ⟨f.data, f.mark, f.named - 1⟩, if f.named = 1 then u - f.data.length else u)
def holE (fs : List Fil) (u : Nat) (i : Nat) : List Fil × Nat :=
  match fs[i]? with
  | none => (fs, u)
  | some f => (fs.set i ⟨f.data, f.mark, f.named + 1⟩, if f.named = 0 then u + f.data.length else u)

def stepN (m : Nm) (w : Wk) : Nm :=
  match w.file with
  | none => delE m w.gone
  | some i => putE (delE m w.gone) w.given i

/-- A work on names. -/
def doT (fs : List Fil) (u : Nat) (m : Nm) (w : Wk) : List Fil × Nat × Nm :=
  let a := relE fs u (getE m w.gone)
  let m1 := delE m w.gone
  match w.file with
  | none => (a.1, a.2, m1)
  | some i =>
    let b := relE a.1 a.2 (getE m1 w.given)
    let c := holE b.1 b.2 i
    (c.1, c.2, putE m1 w.given i)

def changeE (s : DS) (w : Wk) : DS :=
  let t := doT s.files s.used s.now w
  { s with files := t.1, used := t.2.1, now := t.2.2, works := s.works ++ [w] }
def bornE (s : DS) (name : BS) : DS := changeE { s with files := s.files ++ [⟨[], 0, 0⟩] } ⟨[], name, some s.files.length⟩
def addE (s : DS) (i : Nat) (b : BS) : DS :=
  match s.files[i]? with
  | none => s
  | some f => { s with files := s.files.set i ⟨f.data ++ b, f.mark, f.named⟩, used := s.used + b.length }
def appE (s : DS) (name : BS) (b : BS) : DS :=
  match getE s.now name with
  | some i => addE s i b
  | none => addE (bornE s name) s.files.length b
def syncE (s : DS) (i : Nat) : DS :=
  match s.files[i]? with
  | none => s
  | some f => { s with files := s.files.set i ⟨f.data, f.data.length, f.named⟩ }
def cutE (s : DS) (i : Nat) (n : Nat) : DS :=
  match s.files[i]? with
  | none => s
  | some f => { s with files := s.files.set i ⟨f.data.take n, min f.mark n, f.named⟩, used := s.used - (f.data.length - n) }
/-- The first k works that are remembered, done to the kept names. -/
def playT (t : List Fil × Nat × Nm) (ws : List Wk) : List Fil × Nat × Nm := ws.foldl (fun t w => doT t.1 t.2.1 t.2.2 w) t
def keepE (s : DS) (k : Nat) : DS :=
  let t := playT (s.files, s.used, s.kept) (s.works.take k)
  { s with files := t.1, used := t.2.1, kept := t.2.2, works := [] }

/-- A number to keep by. -/
def brE (keep : List Int) (place most : Nat) : Nat :=
  if place < keep.length then (keep.getD place 0 % ((most + 1 : Nat) : Int)).toNat else 0
theorem brE_le (keep : List Int) (place most : Nat) : brE keep place most ≤ most := by
  unfold brE
  split
  · have h1 := Int.emod_nonneg (keep.getD place 0) (b := ((most + 1 : Nat) : Int)) (by omega)
    have h2 := Int.emod_lt_of_pos (keep.getD place 0) (b := ((most + 1 : Nat) : Int)) (by omega)
    omega
  · omega

/-- What is left of a file. -/
def Fil.cut (f : Fil) (keep : List Int) (k : Nat) : Fil := ⟨f.data.take (f.mark + brE keep (1 + k) (f.data.length - f.mark)), f.mark + brE keep (1 + k) (f.data.length - f.mark), 2⟩
/-- The files whose numbers are told, cut: the k-th one by the number behind. -/
def cutsE (keep : List Int) : List Fil → Nat → Nat → List Nat → List Fil × Nat
  | fs, u, _, [] => (fs, u)
  | fs, u, k, i :: r => match fs[i]? with
    | none => cutsE keep fs u (k + 1) r
    | some f => cutsE keep (fs.set i (f.cut keep k)) (u + (f.cut keep k).mark) (k + 1) r
/-- The numbers of the files that have names, as they were born. -/
def idsE (n : Nat) (m : Nm) : List Nat := (List.range n).filter fun i => m.any fun p => p.2 == i
/-- Files that have no name are gone. -/
def blankE (ids : List Nat) (fs : List Fil) : List Fil := fs.mapIdx fun i f => if i ∈ ids then f else ⟨[], 0, 0⟩
def fallE (s : DS) (keep : List Int) : DS :=
  let a := keepE s (brE keep 0 s.works.length)
  let ids := idsE a.files.length a.kept
  let c := cutsE keep a.files 0 0 ids
  { dead := true, room := s.room, used := c.2, files := blankE ids c.1, now := a.kept, kept := a.kept, works := [] }
/-- Which files can still be come to. -/
def Ref (s : DS) (i : Nat) : Prop := (∃ p ∈ s.now, p.2 = i) ∨ (∃ p ∈ s.kept, p.2 = i) ∨ ∃ w ∈ s.works, w.file = some i

/-! ### what stays true -/
theorem useE_set {fs : List Fil} {i : Nat} {f g : Fil} (h : fs[i]? = some f) : useE (fs.set i g) + f.weight = useE fs + g.weight := by
  induction fs generalizing i with
  | nil => simp at h
  | cons x r ih =>
    cases i with
    | zero =>
      simp at h
      subst h
      simp [useE]
      omega
    | succ i =>
      simp at h
      have := ih h
      simp [useE] at this ⊢
      omega
theorem useE_ge {fs : List Fil} {i : Nat} {f : Fil} (h : fs[i]? = some f) : f.weight ≤ useE fs := by
  have := useE_set (g := ⟨[], 0, 0⟩) h
  simp [Fil.weight] at this ⊢
  omega

/-- How many names each file has is told right, and how much room is used. -/
def Nmd (fs : List Fil) (u : Nat) (c : Nat → Nat) : Prop := (∀ i f, fs[i]? = some f → f.named = c i) ∧ u = useE fs

/-- Bytes and marks, without how many names there are. -/
def dmE (fs : List Fil) : List (BS × Nat) := fs.map fun f => (f.data, f.mark)
theorem dmE_set {fs : List Fil} {i : Nat} {f : Fil} (h : fs[i]? = some f) (n : Nat) : dmE (fs.set i ⟨f.data, f.mark, n⟩) = dmE fs := by
  unfold dmE
  rw [List.map_set]
  apply List.ext_getElem?
  intro j
  rw [List.getElem?_set]
  by_cases e : i = j
  · subst e
    obtain ⟨hl, rfl⟩ := List.getElem?_eq_some_iff.1 h
    simp [hl]
  · simp [e]
theorem relE_dm (fs : List Fil) (u : Nat) (o : Option Nat) : dmE (relE fs u o).1 = dmE fs := by
  unfold relE
  split
  · rfl
  · split
    · rfl
    · rename_i f h
      exact dmE_set h _
theorem holE_dm (fs : List Fil) (u : Nat) (i : Nat) : dmE (holE fs u i).1 = dmE fs := by
  unfold holE
  split
  · rfl
  · rename_i f h
    exact dmE_set h _
theorem doT_dm (fs : List Fil) (u : Nat) (m : Nm) (w : Wk) : dmE (doT fs u m w).1 = dmE fs := by
  unfold doT
  split
  · exact relE_dm _ _ _
  · simp only [holE_dm, relE_dm]
theorem dm_len {fs gs : List Fil} (h : dmE fs = dmE gs) : fs.length = gs.length := by
  have := congrArg List.length h
  simpa [dmE] using this
theorem dm_at {fs gs : List Fil} (h : dmE fs = dmE gs) {i : Nat} {f : Fil} (hf : fs[i]? = some f) : ∃ g, gs[i]? = some g ∧ g.data = f.data ∧ g.mark = f.mark := by
  have h1 : (dmE fs)[i]? = (dmE gs)[i]? := by rw [h]
  simp only [dmE, List.getElem?_map, hf, Option.map_some] at h1
  obtain ⟨g, hg, e⟩ := Option.map_eq_some_iff.1 h1.symm
  simp only [Prod.mk.injEq] at e
  exact ⟨g, hg, e.1, e.2⟩

theorem relE_nmd {fs : List Fil} {u : Nat} {c : Nat → Nat} (h : Nmd fs u c) (o : Option Nat) (ho : ∀ i, o = some i → i < fs.length ∧ 0 < c i) :
    Nmd (relE fs u o).1 (relE fs u o).2 (fun j => c j - if o = some j then 1 else 0) := by
  cases o with
  | none => simpa [relE] using h
  | some i =>
    obtain ⟨hl, hc⟩ := ho i rfl
    have hf : fs[i]? = some fs[i] := List.getElem?_eq_getElem hl
    have hn := h.1 i _ hf
    have e : relE fs u (some i) = (fs.set i ⟨fs[i].data, fs[i].mark, fs[i].named - 1⟩, if fs[i].named = 1 then u - fs[i].data.length else u) := by simp only [relE, hf]
    rw [e]
    refine ⟨fun j f hj => ?_, ?_⟩
    · rw [List.getElem?_set] at hj
      by_cases eij : i = j
      · subst eij
        simp [hl] at hj
        subst hj
        simp [hn]
      · simp [eij] at hj ⊢
        exact h.1 j f hj
    · have hs := useE_set (g := ⟨fs[i].data, fs[i].mark, fs[i].named - 1⟩) hf
      have hge := useE_ge hf
      have hu := h.2
      simp only [Fil.weight] at hs hge
      have h1 : 0 < fs[i].named := by omega
      rw [if_pos h1] at hs hge
      by_cases e1 : fs[i].named = 1
      · simp [e1] at hs ⊢
        omega
      · rw [if_pos (by omega)] at hs
        simp only [e1, if_false]
        omega
theorem holE_nmd {fs : List Fil} {u : Nat} {c : Nat → Nat} (h : Nmd fs u c) (i : Nat) (hl : i < fs.length) :
    Nmd (holE fs u i).1 (holE fs u i).2 (fun j => c j + if i = j then 1 else 0) := by
  have hf : fs[i]? = some fs[i] := List.getElem?_eq_getElem hl
  have hn := h.1 i _ hf
  have e : holE fs u i = (fs.set i ⟨fs[i].data, fs[i].mark, fs[i].named + 1⟩, if fs[i].named = 0 then u + fs[i].data.length else u) := by simp only [holE, hf]
  rw [e]
  refine ⟨fun j f hj => ?_, ?_⟩
  · rw [List.getElem?_set] at hj
    by_cases eij : i = j
    · subst eij
      simp [hl] at hj
      subst hj
      simp [hn]
    · simp [eij] at hj ⊢
      exact h.1 j f hj
  · have hs := useE_set (g := ⟨fs[i].data, fs[i].mark, fs[i].named + 1⟩) hf
    have hu := h.2
    simp only [Fil.weight] at hs
    rw [if_pos (show 0 < fs[i].named + 1 by omega)] at hs
    by_cases e1 : fs[i].named = 0
    · rw [if_neg (by omega)] at hs
      rw [if_pos e1]
      dsimp only
      omega
    · rw [if_pos (by omega)] at hs
      rw [if_neg e1]
      dsimp only
      omega

/-- Names that may be: in order, each of a file that there is. -/
def OkM (n : Nat) (m : Nm) : Prop := Srt m ∧ ∀ p ∈ m, p.2 < n
theorem OkM.get {n : Nat} {m : Nm} (h : OkM n m) {s : BS} {i : Nat} (hg : getE m s = some i) : i < n := h.2 _ ((getE_some h.1).1 hg)
theorem OkM.del {n : Nat} {m : Nm} (h : OkM n m) (s : BS) : OkM n (delE m s) := ⟨srt_del h.1 s, fun p hp => h.2 p (mem_del.1 hp).1⟩
theorem OkM.put {n : Nat} {m : Nm} (h : OkM n m) (s : BS) {i : Nat} (hi : i < n) : OkM n (putE m s i) := ⟨srt_put h.1 s i, fun p hp => by
  rcases mem_put.1 hp with rfl | ⟨hp, _⟩
  · exact hi
  · exact h.2 p hp⟩
theorem OkM.mono {n n' : Nat} {m : Nm} (h : OkM n m) (hn : n ≤ n') : OkM n' m := ⟨h.1, fun p hp => Nat.lt_of_lt_of_le (h.2 p hp) hn⟩
theorem OkM.step {n : Nat} {m : Nm} (h : OkM n m) (w : Wk) (hw : ∀ i, w.file = some i → i < n) : OkM n (stepN m w) := by
  unfold stepN
  split
  · exact h.del _
  · rename_i i hi
    exact (h.del _).put _ (hw i hi)

theorem doT_nm (fs : List Fil) (u : Nat) (m : Nm) (w : Wk) : (doT fs u m w).2.2 = stepN m w := by
  unfold doT stepN
  split <;> rfl

theorem nmd_congr {fs : List Fil} {u : Nat} {c c' : Nat → Nat} (h : Nmd fs u c) (e : ∀ i, c i = c' i) : Nmd fs u c' := ⟨fun i f hf => (h.1 i f hf).trans (e i), h.2⟩

theorem doT_nmd {fs : List Fil} {u : Nat} {m o : Nm} (h : Nmd fs u fun i => cntE i m + cntE i o) (hm : OkM fs.length m) (w : Wk) (hw : ∀ i, w.file = some i → i < fs.length) :
    Nmd (doT fs u m w).1 (doT fs u m w).2.1 fun i => cntE i (stepN m w) + cntE i o := by
  have h1 := relE_nmd h (getE m w.gone) (fun i hi => ⟨hm.get hi, by have := cnt_pos hm.1 hi; omega⟩)
  have h2 : Nmd (relE fs u (getE m w.gone)).1 (relE fs u (getE m w.gone)).2 fun i => cntE i (delE m w.gone) + cntE i o := nmd_congr h1 fun i => by
    have := cnt_del hm.1 w.gone i
    omega
  have hl1 : (relE fs u (getE m w.gone)).1.length = fs.length := dm_len (relE_dm _ _ _)
  unfold doT stepN
  cases hf : w.file with
  | none => exact h2
  | some i =>
    have hm1 := hm.del w.gone
    have h3 := relE_nmd h2 (getE (delE m w.gone) w.given) (fun j hj => ⟨by rw [hl1]; exact hm1.get hj, by have := cnt_pos hm1.1 hj; omega⟩)
    have h4 := holE_nmd h3 i (by rw [dm_len (relE_dm _ _ _), hl1]; exact hw i hf)
    refine nmd_congr h4 fun j => ?_
    have e1 := cnt_put (m := delE m w.gone) w.given i j
    have e2 := cnt_del hm1.1 w.given j
    show cntE j (delE m w.gone) + cntE j o - _ + _ = cntE j (putE (delE m w.gone) w.given i) + cntE j o
    omega

end Go.Proofs.YtncpkblgiepdpaaGreat
