/- What the program's disk does when a file is born, and when the works on names are done to the kept ones: contracts over the translated program. No condition but that the disk lies in memory as said, and what each statement names. -/
import Derived.Test.YtncpkblgiepdpaaGreatDkE
set_option linter.unusedVariables false
namespace Go.Proofs.YtncpkblgiepdpaaGreat
open Go.RowKit Go.Maps

/-- How much there is in all. -/
def bulk (s : DS) : Nat := s.files.length + s.works.length + s.now.length + s.kept.length + (s.files.map fun f => f.data.length).sum
/-- A disk as calls leave it, not too large. -/
structure Good (s : DS) : Prop where
  inv : DInv s
  few : bulk s ≤ 549755813888

theorem DM_congr {loc loc' : Nat → Nat} {m : Nm} (h : ∀ p ∈ m, loc' p.2 = loc p.2) : DM loc' m = DM loc m := by
  unfold DM
  congr 1
  exact List.map_congr_left fun p hp => by rw [h p hp]
theorem wks_congr {loc loc' : Nat → Nat} {l : List Wk} (h : ∀ x ∈ l, ∀ i, x.file = some i → loc' i = loc i) : wksCells loc' l = wksCells loc l := by
  unfold wksCells
  congr 1
  refine List.map_congr_left fun x hx => ?_
  unfold wkCells
  cases e : x.file with
  | none => rfl
  | some i => simp [h x hx i e]

section
variable {w : World} {own : Nat → Option Role} {d bn bk : Nat} {loc : Nat → Nat} {s : DS} {L : Nat → Prop}

/-- A new file's block, and its number. -/
theorem At.more (h : At w own d bn bk loc s L) (hI : DInv s) {w' : World} (hg : w.grownBy w' (some d)) (N : Nat) (hN : w.heap.size ≤ N) (hN' : N < w'.heap.size)
    (hF : Blk w' N [.int .i64 (s.files.length : Int), .int .i64 0, .int .i64 0, .slice none 0 0] 135)
    (hD : ∀ vw, Blk w d (diskCells s bn bk vw) 79 → Blk w' d (diskCells { s with files := s.files ++ [⟨[], 0, 0⟩] } bn bk vw) 79) :
    At w' (setR own N (.file s.files.length)) d bn bk (fun i => if i = s.files.length then N else loc i) { s with files := s.files ++ [⟨[], 0, 0⟩] } (fun i => L i ∨ i = s.files.length) := by
  obtain ⟨vw, b1, b2, b3⟩ := h.blk
  have hn : own N = none := by
    cases e : own N with
    | none => rfl
    | some r => have := h.lt _ r e; omega
  have hm := setR_more (own := own) (g := N) (r := .file s.files.length) (.inl hn)
  have no : ∀ b r, own b = some r → r ≠ .disk → some b ≠ some d := fun b r e n e' => by cases e'; rw [h.rd] at e; cases e; exact n rfl
  have hlt : ∀ i, i < s.files.length → (if i = s.files.length then N else loc i) = loc i := fun i hi => if_neg (by omega)
  refine ⟨hm _ _ h.rd, hm _ _ h.rn, hm _ _ h.rk, fun b r e => ?_, ⟨vw, hD vw b1, ?_, fun b e => hm _ _ (b3 b e)⟩, ?_, ?_, ?_⟩
  · rcases setR_some e with e2 | e2
    · rw [e2]; exact hN'
    · exact Nat.lt_of_lt_of_le (h.lt _ _ e2) hg.size
  · show w'.ownsRow 0 _ 3 vw s.works.length (wksCells _ s.works)
    rw [wks_congr (loc := loc) fun x hx i e => hlt i (hI.wk x hx i e)]
    exact World.ownsRow.kept b2 hg (by
      cases e : vw.ownBlock with
      | none => exact .inl rfl
      | some c => exact .inr (no _ _ (b3 c e) (by simp)))
  · show w'.ownsMap _ _ _ _ _ (DM _ s.now)
    rw [DM_congr (loc := loc) fun p hp => hlt _ (hI.now.2 p hp)]
    exact mapAt_grown h.nowM hg (no _ _ h.rn (by simp))
  · show w'.ownsMap _ _ _ _ _ (DM _ s.kept)
    rw [DM_congr (loc := loc) fun p hp => hlt _ (hI.kept.2 p hp)]
    exact mapAt_grown h.keptM hg (no _ _ h.rk (by simp))
  · intro i f hf hL
    by_cases e : i = s.files.length
    · subst e
      rw [List.getElem?_append_right (by omega)] at hf
      simp at hf
      subst hf
      rw [if_pos rfl]
      exact ⟨setR_same _ _ _, .slice none 0 0, hF, Own.nil _ _, fun c ec => by simp [Value.ownBlock] at ec⟩
    · have hi : i < s.files.length := by
        have := (List.getElem?_eq_some_iff.1 hf).1
        simp at this
        omega
      rw [List.getElem?_append_left hi] at hf
      rw [if_neg e]
      have hL' : L i := by
        rcases hL with hL | hL
        · exact hL
        · exact absurd hL e
      obtain ⟨h1, u, h2, h3, h4⟩ := fileAt_grown (h.file i f hf hL') hg fun c ec => by cases ec; rw [h.rd]; simp
      exact ⟨hm _ _ h1, u, h2, h3, fun c ec => hm _ _ (h4 c ec)⟩

/-- What a call of a disk leaves: the answer, the disk, and what is not the disk's. -/
def GotD (w : World) (own : Nat → Option Role) (d bn bk : Nat) (v : Value) (s' : DS) (L' : Nat → Prop) (e : Ending) (w' : World) : Prop :=
  e = .returned v ∧ ∃ own' loc', At w' own' d bn bk loc' s' L' ∧ Kept w w' own own'

theorem fit_of_good (h : Good s) : Fit s.files := by have := h.few; unfold bulk at this; unfold Fit; omega

theorem born_any (h : At w own d bn bk loc s L) (hg : Good s) (hL : ∀ p ∈ s.now, L p.2) (t : ByteArray) (ht : t.size ≤ 281474976710656) :
    Calls Tryz.prog 93 #[.pointer (some ⟨d, 0, none⟩), .string t] w (fun e w' => ∃ own' loc', e = .returned (pv (some (loc' s.files.length))) ∧
      At w' own' d bn bk loc' (bornE s t.data.toList) (fun i => L i ∨ i = s.files.length) ∧ Kept w w' own own') := by
  have c3 := h.cellD 3 _ fun _ => rfl
  have z3 := h.freeD 3
  have hfew := hg.few
  have hdl : d < w.heap.size := h.lt _ _ h.rd
  have hb : (s.files.length : Int) ≤ 549755813888 := by unfold bulk at hfew; omega
  have hne : d ≠ w.heap.size := by omega
  have hne' : w.heap.size ≠ d := by omega
  have HF := Lib.hid hfew
  clear hfew
  go_enter Tryz.func93, Tryz.ntmps93
  go_wp2_with fail
  have hbk : bulk s ≤ 549755813888 := HF.out
  have hbk2 := hbk
  unfold bulk at hbk2
  obtain ⟨loc', hloc, hA⟩ : ∃ loc', loc' s.files.length = w.heap.size ∧ At ((w.setCell ⟨d, 3, none⟩ (.int .i64 ((s.files.length : Int) + 1))).alloc (.cells #[.int .i64 (s.files.length : Int), .int .i64 0, .int .i64 0, .slice none 0 0] 135))
      (setR own w.heap.size (.file s.files.length)) d bn bk loc' { s with files := s.files ++ [⟨[], 0, 0⟩] } (fun i => L i ∨ i = s.files.length) := by
    refine ⟨_, ?_, h.more hg.inv (grown_trans (grown_set w ⟨d, 3, none⟩ _) (World.grownBy_alloc _ _ _)) w.heap.size (Nat.le_refl _) (by simp [World.setCell]) ?_ fun vw b1 => ?_⟩
    · simp
    · have h2 := heap_alloc_new (w.setCell ⟨d, 3, none⟩ (.int .i64 ((s.files.length : Int) + 1))) (.cells #[.int .i64 (s.files.length : Int), .int .i64 0, .int .i64 0, .slice none 0 0] 135)
      have h3 : (w.setCell ⟨d, 3, none⟩ (.int .i64 ((s.files.length : Int) + 1))).heap.size = w.heap.size := by simp [World.setCell]
      rw [h3] at h2
      exact h2
    · have b2 := (b1.set 3 (.int .i64 ((s.files.length : Int) + 1))).same (w' := (w.setCell ⟨d, 3, none⟩ (.int .i64 ((s.files.length : Int) + 1))).alloc (.cells #[.int .i64 (s.files.length : Int), .int .i64 0, .int .i64 0, .slice none 0 0] 135)) (Below.heap_alloc _ _ _ (by simpa [World.setCell] using hdl))
      have e : (diskCells s bn bk vw).set 3 (.int .i64 ((s.files.length : Int) + 1)) = diskCells { s with files := s.files ++ [⟨[], 0, 0⟩] } bn bk vw := by
        simp [diskCells]
      rw [e] at b2
      exact b2
  have k0 : Kept w ((w.setCell ⟨d, 3, none⟩ (.int .i64 ((s.files.length : Int) + 1))).alloc (.cells #[.int .i64 (s.files.length : Int), .int .i64 0, .int .i64 0, .slice none 0 0] 135)) own (setR own w.heap.size (.file s.files.length)) := by
    refine ⟨rfl, rfl, rfl, by simp [World.setCell], fun b hb hn => ?_, fun b hb => ?_⟩
    · exact (Below.heap_alloc _ _ _ (by simpa [World.setCell] using hb)).trans (Below.heap_setCell _ _ _ _ (fun e => by simp at e; rw [e, h.rd] at hn; cases hn))
    · by_cases e : b = w.heap.size
      · exact .inr (by omega)
      · rw [setR_other _ _ e] at hb; exact .inl hb
  have hI2 := inv_more hg.inv
  have hx : DoOk (s.files ++ [(⟨[], 0, 0⟩ : Fil)]) s.used s.now s.kept (fun i => L i ∨ i = s.files.length) ⟨[], t.data.toList, some s.files.length⟩ := by
    refine ⟨hI2.nmd, hI2.now, ?_, by omega, fun p hp => .inl (hL p hp), fun i hi => ?_⟩
    · have := fit_of_good hg
      unfold Fit at this ⊢
      simpa using this
    · simp only [Option.some.injEq] at hi
      subst hi
      exact ⟨by simp, .inr rfl⟩
  have hc := change_any hA ⟨#[]⟩ t (some s.files.length) (by show 0 ≤ _; omega) ht hx (by show s.works.length ≤ _; omega)
  rw [show pv (Option.map loc' (some s.files.length)) = .pointer (some ⟨w.heap.size, 0, none⟩) from by simp [pv, hloc]] at hc
  refine hc.mono ?_
  rintro e w2 ⟨rfl, own2, hA2, hK2⟩
  go_wp2
  go_ret
  refine ⟨own2, loc', by simp [pv, hloc], hA2, k0.trans hK2⟩
end
end Go.Proofs.YtncpkblgiepdpaaGreat
