/- Three plain files beside a plain disk: what a deed makes of both. No program here, and no condition. -/
import Derived.Test.YtdgaipdpebinbaaDkV
set_option linter.unusedVariables false
set_option linter.unusedSimpArgs false
namespace Go.Proofs.Ytdgaipdpebinbaa

def nm (k : Nat) : BS := [UInt8.ofNat (97 + k)]
theorem nm_inj {j k : Nat} (hj : j < 3) (hk : k < 3) (h : nm j = nm k) : j = k := by
  simp only [nm, List.cons.injEq, and_true] at h
  have := congrArg UInt8.toNat h
  simp only [UInt8.toNat_ofNat'] at this
  omega
theorem nm_ne (k : Nat) : nm k ≠ [] := by simp [nm]
def upE {α : Type} (f : Nat → α) (a : Nat) (x : α) : Nat → α := fun k => if k = a then x else f k
/-- The plain files are what the disk reads as. -/
def Rel (s : DS) (fs : Nat → BS) (is : Nat → Bool) : Prop := ∀ k, k < 3 → rdE s (nm k) = (if is k = true then some (fs k) else none) ∧ (is k = false → fs k = [])
theorem rel_new (r : Nat) : Rel (newE r) (fun _ => []) (fun _ => false) := fun k hk => ⟨rfl, fun _ => rfl⟩
theorem rel_none {s : DS} (hI : DInv s) {fs : Nat → BS} {is : Nat → Bool} (h : Rel s fs is) {a : Nat} (ha : a < 3) (hi : is a = false) : getE s.now (nm a) = none := by
  have := (h a ha).1
  rw [hi] at this
  exact (rd_none hI).1 (by simpa using this)
theorem rel_some {s : DS} (hI : DInv s) {fs : Nat → BS} {is : Nat → Bool} (h : Rel s fs is) {a : Nat} (ha : a < 3) (hi : is a = true) : ∃ i, getE s.now (nm a) = some i := by
  cases e : getE s.now (nm a) with
  | some i => exact ⟨i, rfl⟩
  | none =>
    have := (h a ha).1
    rw [hi, (rd_none hI).2 e] at this
    simp at this
theorem rel_0 {s : DS} {k m r : Nat} (hR : Run s k m r) {fs : Nat → BS} {is : Nat → Bool} (h : Rel s fs is) {a : Nat} (ha : a < 3) (tt l : BS) (hl : m + l.length ≤ r) (hu : s.used ≤ m) :
    (dE s ⟨0, nm a, tt, l⟩).2 = 0 ∧ Rel (dE s ⟨0, nm a, tt, l⟩).1 (upE fs a (fs a ++ l)) (upE is a true) := by
  have h2 : s.used + l.length ≤ s.room := by rw [hR.room]; omega
  have e : dE s ⟨0, nm a, tt, l⟩ = (appE s (nm a) l, 0) := by simp only [dE, h2, if_true]
  rw [e]
  refine ⟨rfl, fun k hk => ?_⟩
  have hr := rd_app hR.inv (nm a) l (nm_ne a) (nm k) (nm_ne k)
  show rdE (appE s (nm a) l) (nm k) = _ ∧ _
  rw [hr]
  by_cases e : k = a
  · subst e
    rw [if_pos rfl]
    have h3 := h k hk
    unfold upE
    simp only [if_true]
    refine ⟨?_, fun h => by cases h⟩
    rw [h3.1]
    cases hi : is k with
    | true => simp
    | false => simp [h3.2 hi]
  · rw [if_neg (fun e2 => e (nm_inj hk ha e2))]
    unfold upE
    simp only [e, if_false]
    exact h k hk
theorem rel_1 {s : DS} (hI : DInv s) {fs : Nat → BS} {is : Nat → Bool} (h : Rel s fs is) {a : Nat} (ha : a < 3) (tt l : BS) :
    (dE s ⟨1, nm a, tt, l⟩).2 = (if is a = true then 0 else 50) ∧ Rel (dE s ⟨1, nm a, tt, l⟩).1 fs is := by
  cases hi : is a with
  | false =>
    have e : dE s ⟨1, nm a, tt, l⟩ = (s, 50) := by simp only [dE, rel_none hI h ha hi]
    rw [e]
    exact ⟨by simp, h⟩
  | true =>
    obtain ⟨i, hg⟩ := rel_some hI h ha hi
    have e : dE s ⟨1, nm a, tt, l⟩ = (syncE s i, 0) := by simp only [dE, hg]
    rw [e]
    exact ⟨by simp, fun k hk => by show rdE (syncE s i) _ = _ ∧ _; rw [rd_sync]; exact h k hk⟩
theorem rel_2 {s : DS} (hI : DInv s) {fs : Nat → BS} {is : Nat → Bool} (h : Rel s fs is) {a b : Nat} (ha : a < 3) (hb : b < 3) (l : BS) :
    (dE s ⟨2, nm a, nm b, l⟩).2 = (if is a = true then 0 else 50) ∧ (is a = true → a ≠ b → Rel (dE s ⟨2, nm a, nm b, l⟩).1 (upE (upE fs b (fs a)) a []) (upE (upE is b true) a false)) ∧ ((is a = false ∨ a = b) → Rel (dE s ⟨2, nm a, nm b, l⟩).1 fs is) := by
  cases hi : is a with
  | false =>
    have e : dE s ⟨2, nm a, nm b, l⟩ = (s, 50) := by simp only [dE, rel_none hI h ha hi]
    rw [e]
    exact ⟨by simp, fun h => (by cases h), fun _ => h⟩
  | true =>
    obtain ⟨i, hg⟩ := rel_some hI h ha hi
    by_cases hab : a = b
    · subst hab
      have e : dE s ⟨2, nm a, nm a, l⟩ = (s, 0) := by simp only [dE, hg, if_true]
      rw [e]
      exact ⟨by simp, fun _ h => absurd rfl h, fun _ => h⟩
    · have hne : nm a ≠ nm b := fun e => hab (nm_inj ha hb e)
      have e : dE s ⟨2, nm a, nm b, l⟩ = (changeE s ⟨nm a, nm b, some i⟩, 0) := by simp only [dE, hg, if_neg hne]
      rw [e]
      refine ⟨by simp, fun _ _ k hk => ?_, fun h => ?_⟩
      · show rdE (changeE s ⟨nm a, nm b, some i⟩) (nm k) = _ ∧ _
        rw [rd_rename hI hg hne]
        by_cases e1 : k = a
        · subst e1
          rw [if_neg hne, if_pos rfl]
          unfold upE
          simp
        · by_cases e2 : k = b
          · subst e2
            rw [if_pos rfl, (h a ha).1, hi]
            unfold upE
            simp [e1]
          · rw [if_neg (fun e => e2 (nm_inj hk hb e)), if_neg (fun e => e1 (nm_inj hk ha e))]
            unfold upE
            simp only [e1, e2, if_false]
            exact h k hk
      · rcases h with h | h
        · cases h
        · exact absurd h hab
theorem rel_3 {s : DS} (hI : DInv s) {fs : Nat → BS} {is : Nat → Bool} (h : Rel s fs is) {a : Nat} (ha : a < 3) (tt l : BS) :
    (dE s ⟨3, nm a, tt, l⟩).2 = (if is a = true then 0 else 50) ∧ Rel (dE s ⟨3, nm a, tt, l⟩).1 (upE fs a []) (upE is a false) := by
  cases hi : is a with
  | false =>
    have e : dE s ⟨3, nm a, tt, l⟩ = (s, 50) := by simp only [dE, rel_none hI h ha hi]
    rw [e]
    refine ⟨by simp, fun k hk => ?_⟩
    by_cases e1 : k = a
    · subst e1
      have := (h k hk).1
      rw [hi] at this
      unfold upE
      simpa using this
    · unfold upE
      simp only [e1, if_false]
      exact h k hk
  | true =>
    obtain ⟨i, hg⟩ := rel_some hI h ha hi
    have e : dE s ⟨3, nm a, tt, l⟩ = (changeE s ⟨nm a, [], none⟩, 0) := by simp only [dE, hg]
    rw [e]
    refine ⟨by simp, fun k hk => ?_⟩
    show rdE (changeE s ⟨nm a, [], none⟩) (nm k) = _ ∧ _
    rw [rd_remove hI]
    by_cases e1 : k = a
    · subst e1
      rw [if_pos rfl]
      unfold upE
      simp
    · rw [if_neg (fun e => e1 (nm_inj hk ha e))]
      unfold upE
      simp only [e1, if_false]
      exact h k hk
theorem rel_4 {s : DS} {fs : Nat → BS} {is : Nat → Bool} (h : Rel s fs is) (n tt l : BS) : (dE s ⟨4, n, tt, l⟩).2 = 0 ∧ Rel (dE s ⟨4, n, tt, l⟩).1 fs is :=
  ⟨rfl, fun k hk => by show rdE (keepE s _) _ = _ ∧ _; rw [rd_keep]; exact h k hk⟩
end Go.Proofs.Ytdgaipdpebinbaa
