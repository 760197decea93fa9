/- A disk as a plain machine: files in order of birth, names now, names that are kept, works on names; its calls as functions. No program here, and no condition. -/
import Derived.Test.YtncpkblgiepdpaaGreatRows
import Derived.WideShapes
import Derived.ChangeMaps
import Derived.Maps.Views
set_option linter.unusedVariables false
namespace Go.Proofs.YtncpkblgiepdpaaGreat
open Go.WideShapes Go.ChangeMaps

abbrev BS := List UInt8
/-- Names, each with the number of its file. -/
abbrev Nm := List (BS × Nat)

def insE (x : BS × Nat) : Nm → Nm
  | [] => [x]
  | y :: r => if bytesBefore x.1 y.1 then x :: y :: r else y :: insE x r
def delE (m : Nm) (s : BS) : Nm := m.filter fun p => !(p.1 == s)
def putE (m : Nm) (s : BS) (i : Nat) : Nm := insE (s, i) (delE m s)
def getE (m : Nm) (s : BS) : Option Nat := (m.find? fun p => p.1 == s).map (·.2)
def cntE (i : Nat) (m : Nm) : Nat := m.countP fun p => p.2 == i
def Srt (m : Nm) : Prop := m.Pairwise fun p q => bytesBefore p.1 q.1 = true

theorem bb_irrefl (a : BS) : bytesBefore a a = false := before_irrefl (.string a)
theorem bb_trans {a b c : BS} (h1 : bytesBefore a b = true) (h2 : bytesBefore b c = true) : bytesBefore a c = true := before_trans (a := .string a) (b := .string b) (c := .string c) h1 h2
theorem bb_total {a b : BS} (h : a ≠ b) : bytesBefore a b = true ∨ bytesBefore b a = true := before_total (a := .string a) (b := .string b) ⟨_, rfl⟩ ⟨_, rfl⟩ (fun e => h (by cases e; rfl))
theorem bb_ne {a b : BS} (h : bytesBefore a b = true) : a ≠ b := fun e => by rw [e, bb_irrefl] at h; cases h

theorem insE_perm (x : BS × Nat) : ∀ m : Nm, (insE x m).Perm (x :: m)
  | [] => List.Perm.refl _
  | y :: r => by
    unfold insE
    split
    · exact List.Perm.refl _
    · exact ((insE_perm x r).cons y).trans (List.Perm.swap x y r)

theorem srt_del {m : Nm} (h : Srt m) (s : BS) : Srt (delE m s) := h.filter _
theorem srt_ins {x : BS × Nat} : ∀ {m : Nm}, Srt m → (∀ p ∈ m, p.1 ≠ x.1) → Srt (insE x m)
  | [], _, _ => by simp [insE, Srt]
  | y :: r, h, hn => by
    obtain ⟨h1, h2⟩ := List.pairwise_cons.1 h
    unfold insE
    split
    · rename_i hb
      refine List.pairwise_cons.2 ⟨fun q hq => ?_, h⟩
      rcases List.mem_cons.1 hq with rfl | hq
      · exact hb
      · exact bb_trans hb (h1 q hq)
    · rename_i hb
      have hyx : bytesBefore y.1 x.1 = true := by
        rcases bb_total (hn y (by simp)) with h' | h'
        · exact h'
        · exact absurd h' hb
      refine List.pairwise_cons.2 ⟨fun q hq => ?_, srt_ins h2 fun p hp => hn p (by simp [hp])⟩
      rcases List.mem_cons.1 ((insE_perm x r).mem_iff.1 hq) with rfl | hq
      · exact hyx
      · exact h1 q hq
theorem del_ne {m : Nm} {s : BS} : ∀ p ∈ delE m s, p.1 ≠ s := fun p hp => by
  have := (List.mem_filter.1 hp).2
  simpa using this
theorem srt_put {m : Nm} (h : Srt m) (s : BS) (i : Nat) : Srt (putE m s i) := srt_ins (srt_del h s) fun p hp => del_ne p hp

theorem mem_put {m : Nm} {s : BS} {i : Nat} {p : BS × Nat} : p ∈ putE m s i ↔ p = (s, i) ∨ (p ∈ m ∧ p.1 ≠ s) := by
  unfold putE
  rw [(insE_perm _ _).mem_iff, List.mem_cons]
  unfold delE
  rw [List.mem_filter]
  simp
theorem mem_del {m : Nm} {s : BS} {p : BS × Nat} : p ∈ delE m s ↔ p ∈ m ∧ p.1 ≠ s := by
  unfold delE
  rw [List.mem_filter]
  simp

/-- Of one name there is one file. -/
theorem srt_one {m : Nm} (h : Srt m) {p q : BS × Nat} (hp : p ∈ m) (hq : q ∈ m) (e : p.1 = q.1) : p = q := by
  induction m with
  | nil => simp at hp
  | cons y r ih =>
    obtain ⟨h1, h2⟩ := List.pairwise_cons.1 h
    rcases List.mem_cons.1 hp with rfl | hp
    · rcases List.mem_cons.1 hq with rfl | hq
      · rfl
      · exact absurd e (bb_ne (h1 q hq))
    · rcases List.mem_cons.1 hq with e2 | hq
      · rw [e2] at e; exact absurd e.symm (bb_ne (h1 p hp))
      · exact ih h2 hp hq

theorem getE_some {m : Nm} (h : Srt m) {s : BS} {i : Nat} : getE m s = some i ↔ (s, i) ∈ m := by
  unfold getE
  constructor
  · intro e
    obtain ⟨p, hp, rfl⟩ := Option.map_eq_some_iff.1 e
    have h1 := List.mem_of_find?_eq_some hp
    have h2 := List.find?_some hp
    have h3 : p.1 = s := by simpa using h2
    rw [← h3]; exact h1
  · intro hm
    cases hf : m.find? fun p => p.1 == s with
    | none =>
      have := List.find?_eq_none.1 hf _ hm
      simp at this
    | some p =>
      have h1 := List.mem_of_find?_eq_some hf
      have h2 := List.find?_some hf
      have h3 : p.1 = s := by simpa using h2
      have := srt_one h h1 hm h3
      rw [this]; rfl
theorem getE_none {m : Nm} {s : BS} : getE m s = none ↔ ∀ p ∈ m, p.1 ≠ s := by
  unfold getE
  rw [Option.map_eq_none_iff, List.find?_eq_none]
  simp

theorem del_none {m : Nm} {s : BS} (h : getE m s = none) : delE m s = m := by
  unfold delE
  refine List.filter_eq_self.2 fun p hp => ?_
  have := getE_none.1 h p hp
  simpa using this

theorem getE_del_same {m : Nm} {s : BS} : getE (delE m s) s = none := getE_none.2 fun p hp => del_ne p hp
theorem opt_eq {α : Type} {a b : Option α} (h : ∀ x, a = some x ↔ b = some x) : a = b := by
  cases a with
  | none => cases b with
    | none => rfl
    | some y => exact ((h y).2 rfl)
  | some x => exact ((h x).1 rfl).symm
theorem getE_del_other {m : Nm} (h : Srt m) {s t : BS} (hne : t ≠ s) : getE (delE m s) t = getE m t := by
  refine opt_eq fun i => ?_
  rw [getE_some (srt_del h s), getE_some h, mem_del]
  exact ⟨fun x => x.1, fun x => ⟨x, hne⟩⟩
theorem getE_put_same {m : Nm} (h : Srt m) {s : BS} {i : Nat} : getE (putE m s i) s = some i := by
  rw [getE_some (srt_put h s i), mem_put]; exact .inl rfl
theorem getE_put_other {m : Nm} (h : Srt m) {s t : BS} {i : Nat} (hne : t ≠ s) : getE (putE m s i) t = getE m t := by
  refine opt_eq fun j => ?_
  rw [getE_some (srt_put h s i), getE_some h, mem_put]
  constructor
  · rintro (e | ⟨x, _⟩)
    · cases e; exact absurd rfl hne
    · exact x
  · exact fun x => .inr ⟨x, hne⟩

/-! ### how many names a file has -/
theorem cnt_ins (x : BS × Nat) (i : Nat) (m : Nm) : cntE i (insE x m) = cntE i m + if x.2 = i then 1 else 0 := by
  unfold cntE
  rw [(insE_perm x m).countP_eq, List.countP_cons]
  simp
theorem cnt_del {m : Nm} (h : Srt m) (s : BS) (i : Nat) : cntE i m = cntE i (delE m s) + if getE m s = some i then 1 else 0 := by
  induction m with
  | nil => simp [cntE, delE, getE]
  | cons y r ih =>
    obtain ⟨h1, h2⟩ := List.pairwise_cons.1 h
    by_cases e : y.1 = s
    · have hr : getE r s = none := getE_none.2 fun p hp e' => bb_ne (h1 p hp) (e.trans e'.symm)
      have hd : delE (y :: r) s = r := by
        have := del_none hr
        unfold delE at this ⊢
        simp [e, this]
      have hg : getE (y :: r) s = some y.2 := by simp [getE, e]
      rw [hd, hg]
      unfold cntE
      rw [List.countP_cons]
      by_cases e2 : y.2 = i <;> simp [e2]
    · have hd : delE (y :: r) s = y :: delE r s := by simp [delE, e]
      have hg : getE (y :: r) s = getE r s := by simp [getE, e]
      rw [hd, hg]
      have := ih h2
      unfold cntE at this ⊢
      rw [List.countP_cons, List.countP_cons, this]
      omega
theorem cnt_pos {m : Nm} (h : Srt m) {s : BS} {i : Nat} (hg : getE m s = some i) : 0 < cntE i m := by
  have := cnt_del h s i
  rw [if_pos hg] at this
  omega
theorem cnt_put {m : Nm} (s : BS) (i j : Nat) : cntE j (putE m s i) = cntE j (delE m s) + if i = j then 1 else 0 := cnt_ins _ _ _

/-! ### the datum of names -/
/-- Names as the maps' kit reads them; a file's place is told by 'loc'. -/
def DM (loc : Nat → Nat) (m : Nm) : DataW Unit := .map (m.map fun p => (.string p.1, .lit (.int .i64 (loc p.2))))

theorem DM_ins (loc : Nat → Nat) (s : BS) (i : Nat) : ∀ m : Nm,
    DataW.insert ((.string s, .lit (.int .i64 (loc i))) : Lit × DataW Unit) (m.map fun p => ((.string p.1, .lit (.int .i64 (loc p.2))) : Lit × DataW Unit)) = (insE (s, i) m).map fun p => (.string p.1, .lit (.int .i64 (loc p.2)))
  | [] => rfl
  | y :: r => by
    have ih := DM_ins loc s i r
    by_cases h : bytesBefore s y.1 = true
    · simp [DataW.insert, insE, Lit.before, h]
    · simp [DataW.insert, insE, Lit.before, h, ih]
theorem DM_fil (loc : Nat → Nat) (s : BS) (m : Nm) :
    (m.map fun p => ((.string p.1, .lit (.int .i64 (loc p.2))) : Lit × DataW Unit)).filter (fun p => !p.1.sameKey (.string s)) = (delE m s).map fun p => (.string p.1, .lit (.int .i64 (loc p.2))) := by
  rw [List.filter_map]
  rfl
theorem DM_put (loc : Nat → Nat) (m : Nm) (s : BS) (i : Nat) : (DM loc m).put (.string s) (.lit (.int .i64 (loc i))) = DM loc (putE m s i) := by
  unfold DM DataW.put putE
  simp only [DM_fil, DM_ins]
theorem DM_del (loc : Nat → Nat) (m : Nm) (s : BS) : (DM loc m).del (.string s) = DM loc (delE m s) := by
  unfold DM DataW.del
  simp only [DM_fil]
theorem DM_at (loc : Nat → Nat) (m : Nm) (s : BS) : (DM loc m).atKey (.string s) .nil = match getE m s with | some i => .lit (.int .i64 (loc i)) | none => .nil := by
  unfold DM DataW.atKey getE
  simp only [List.find?_map]
  have : (List.find? ((fun p : Lit × DataW Unit => p.1.sameKey (.string s)) ∘ fun p : BS × Nat => (.string p.1, .lit (.int .i64 (loc p.2)))) m) = m.find? fun p => p.1 == s := rfl
  rw [this]
  cases m.find? fun p => p.1 == s <;> rfl

end Go.Proofs.YtncpkblgiepdpaaGreat
