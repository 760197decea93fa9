/- 'has' of the laws: a contract over the translated program. No condition but that the disk lies in memory as said, and what each statement names. -/
import Derived.Test.YtdgaipdpebinbaaDkW
set_option linter.unusedVariables false
set_option linter.unusedSimpArgs false
namespace Go.Proofs.Ytdgaipdpebinbaa
open Go.RowKit Go.Maps Go.Shelf Go.Sort

section
variable {w : World} {own : Nat → Option Role} {d bn bk : Nat} {loc : Nat → Nat} {s : DS} {L : Nat → Prop}
def hasE (s : DS) (name want : BS) : Bool := (s.now.map (·.1) == [name]) && ((rdE s name).getD [] == want)
set_option maxRecDepth 20000 in
theorem has_any (hA : At w own d bn bk loc s (Ref s)) (hI : OkM s.files.length s.now) (hF : Fit s.files) (hd : s.dead = false) (hfew : s.now.length ≤ 1000000000) (t u : ByteArray) (ht : t.size ≤ maxLen) :
    Calls Try.prog 41 #[.pointer (some ⟨d, 0, none⟩), .string t, .string u] w (GotYes w (hasE s t.data.toList u.data.toList)) := by
  have hrd := read_any hA hI hF hd t ht
  have hnm : ∀ w', Below w.heap.size w w' → Calls Try.prog 12 #[.pointer (some ⟨d, 0, none⟩)] w' (GotNames w' (s.now.map (·.1))) := fun w' hb => names_any (hA.below hb) hI hd hfew
  by_cases h1 : s.now.length = 1
  · obtain ⟨p, hp⟩ : ∃ p, s.now = [p] := by
      rcases hs : s.now with _ | ⟨p, _ | ⟨q, r⟩⟩
      · rw [hs] at h1; simp at h1
      · exact ⟨p, rfl⟩
      · rw [hs] at h1; simp at h1
    have hms : s.now.map (·.1) = [p.1] := by rw [hp]; rfl
    rw [hms] at hnm
    by_cases h2 : p.1 = t.data.toList
    · have hg : getE s.now t.data.toList = some p.2 := by rw [getE_some hI.1, hp, ← h2]; simp
      have hfl := hI.get hg
      have hrde : rdE s t.data.toList = some s.files[p.2].data := by
        unfold rdE
        rw [hg]
        simp [List.getElem?_eq_getElem hfl]
      have hhas : hasE s t.data.toList u.data.toList = (s.files[p.2].data == u.data.toList) := by
        unfold hasE
        rw [hms, hrde, h2]
        simp
      rw [hhas]
      rw [hrde] at hrd
      generalize s.files[p.2].data = b at hrd ⊢
      have ht2 : (p.1 == t.toList) = true := by rw [ByteArray.toList_eq]; simp [h2]
      clear hA hhas hrde hg hms hp hd h2 h1
      go_enter Try.func41, Try.ntmps41
      go_wp2_with fail
      refine hrd.mono ?_
      rintro e w1 ⟨v, rfl, ho1, hb1⟩
      obtain ⟨A1, n1, c1, rfl, hl1, _, _, hr1⟩ := ho1.form
      go_wp2_with fail
      refine (hnm w1 hb1).mono ?_
      rintro e w2 ⟨g, cap, rfl, hrow, hb2⟩
      have hcell := World.ownsRow.cells hrow (g := g) rfl 0 (encStr p.1) rfl
      rw [add_at] at hcell
      simp only [encStr] at hcell
      have hcv := string_of w2 A1 n1 c1 b hl1.out (hr1.below hb2)
      have hB := bl_trans hb1 hb2
      clear hrow ho1
      go_wp2_with fail
      go_ret
      refine ⟨?_, hB⟩
      rw [← ByteArray.toList_eq]
      rfl
    · have hhas : hasE s t.data.toList u.data.toList = false := by
        unfold hasE
        rw [hms]
        simp [h2]
      rw [hhas]
      have ht2 : (p.1 == t.toList) = false := by rw [ByteArray.toList_eq]; simpa using h2
      clear hA hhas hms hp hd h2 h1
      generalize rdE s t.data.toList = ob at hrd
      unfold GotRead at hrd
      generalize (if ob.isSome = true then (0 : Int) else 50) = z at hrd
      go_enter Try.func41, Try.ntmps41
      go_wp2_with fail
      refine hrd.mono ?_
      rintro e w1 ⟨v, rfl, ho1, hb1⟩
      obtain ⟨A1, n1, c1, rfl, hl1, _, _, hr1⟩ := ho1.form
      go_wp2_with fail
      refine (hnm w1 hb1).mono ?_
      rintro e w2 ⟨g, cap, rfl, hrow, hb2⟩
      have hcell := World.ownsRow.cells hrow (g := g) rfl 0 (encStr p.1) rfl
      rw [add_at] at hcell
      simp only [encStr] at hcell
      have hB := bl_trans hb1 hb2
      clear hrow ho1
      go_wp2_with fail
      go_ret
      exact ⟨rfl, hB⟩
  · have hhas : hasE s t.data.toList u.data.toList = false := by
      unfold hasE
      have : ¬ s.now.map (·.1) = [t.data.toList] := fun e => h1 (by have := congrArg List.length e; simpa using this)
      simp [this]
    rw [hhas]
    obtain ⟨ns, hns⟩ : ∃ ns, ns = s.now.map (·.1) := ⟨_, rfl⟩
    have hnl : ns.length ≠ 1 := by rw [hns]; simpa using h1
    rw [← hns] at hnm
    obtain ⟨q, hq⟩ : ∃ q, q = ns.length := ⟨_, rfl⟩
    have ht2 : ((q : Int) == 1) = false := by rw [hq]; simp; omega
    have HQ := Lib.hid hq
    clear hA hhas hns hd h1 hnl hq
    generalize rdE s t.data.toList = ob at hrd
    unfold GotRead at hrd
    generalize (if ob.isSome = true then (0 : Int) else 50) = z at hrd
    go_enter Try.func41, Try.ntmps41
    go_wp2_with fail
    refine hrd.mono ?_
    rintro e w1 ⟨v, rfl, ho1, hb1⟩
    obtain ⟨A1, n1, c1, rfl, hl1, _, _, hr1⟩ := ho1.form
    go_wp2_with fail
    refine (hnm w1 hb1).mono ?_
    rintro e w2 ⟨g, cap, rfl, hrow, hb2⟩
    have hB := bl_trans hb1 hb2
    rw [← HQ.out]
    clear hrow ho1
    go_wp2_with fail
    go_ret
    exact ⟨rfl, hB⟩
end
end Go.Proofs.Ytdgaipdpebinbaa
