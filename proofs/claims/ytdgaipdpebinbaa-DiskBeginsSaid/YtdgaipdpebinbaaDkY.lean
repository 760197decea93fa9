/- 'awake' of the laws: what stands in memory, and what the plain machine answers to the chapter's examples. No condition but what each statement names. -/
import Derived.Test.YtdgaipdpebinbaaDkX
import Derived.Test.YtdgaipdpebinbaaDkYr
set_option linter.unusedVariables false
set_option linter.unusedSimpArgs false
namespace Go.Proofs.Ytdgaipdpebinbaa
open Go.RowKit Go.Maps Go.Shelf Go.Sort

def dA : Dd := ⟨0, [97], [], [120, 121]⟩
def dSy : Dd := ⟨1, [97], [], []⟩
def dNm : Dd := ⟨4, [], [], []⟩
def dZ : Dd := ⟨0, [97], [], [122]⟩
def dB : Dd := ⟨0, [98], [], [49]⟩
def dBs : Dd := ⟨1, [98], [], []⟩
def dTo : Dd := ⟨2, [98], [97], []⟩
theorem ex1 : (fellE [] [dA, dSy]).now = [] := by kernel_rfl
theorem ex2 : hasE (fellE [] [dA, dNm]) [97] [] = true := by kernel_rfl
theorem ex3 : hasE (fellE [] [dA, dSy, dNm, dZ]) [97] [120, 121] = true := by kernel_rfl
theorem ex4 : hasE (fellE [] [dA, dSy, dNm, dZ, dB, dBs, dTo]) [97] [120, 121] = true := by kernel_rfl
theorem ex5 : hasE (fellE [2] [dA, dSy, dNm, dZ, dB, dBs, dTo]) [97] [49] = true := by kernel_rfl

theorem rdy_fell (keep : List Int) (l : List Dd) (hl : l.length ≤ 100) (h : ∀ x ∈ l, x.small ∧ x.b.length ≤ 100) : Rdy (fellE keep l) := by
  have h1 := run_ds (run_new 100) 100 l h
  exact rdy_fall h1 (by omega) (by omega) keep

def mdA (b : Nat) : MD := ⟨0, 0, 0, ⟨#[97]⟩, ⟨#[]⟩, some ⟨b, 0, none⟩, 2, 2, none, 0, 0, [120, 121]⟩
def mdSy : MD := ⟨1, 0, 0, ⟨#[97]⟩, ⟨#[]⟩, none, 0, 0, none, 0, 0, []⟩
def mdNm : MD := ⟨4, 0, 0, ⟨#[]⟩, ⟨#[]⟩, none, 0, 0, none, 0, 0, []⟩
def mdZ (b : Nat) : MD := ⟨0, 0, 0, ⟨#[97]⟩, ⟨#[]⟩, some ⟨b, 0, none⟩, 1, 1, none, 0, 0, [122]⟩
def mdB (b : Nat) : MD := ⟨0, 0, 0, ⟨#[98]⟩, ⟨#[]⟩, some ⟨b, 0, none⟩, 1, 1, none, 0, 0, [49]⟩
def mdBs : MD := ⟨1, 0, 0, ⟨#[98]⟩, ⟨#[]⟩, none, 0, 0, none, 0, 0, []⟩
def mdTo : MD := ⟨2, 0, 0, ⟨#[98]⟩, ⟨#[97]⟩, none, 0, 0, none, 0, 0, []⟩
theorem may_all (b c e : Nat) : ∀ x ∈ [mdA b, mdSy, mdNm, mdZ c, mdB e, mdBs, mdTo], x.May := by
  intro x hx
  simp only [List.mem_cons, List.not_mem_nil, or_false] at hx
  rcases hx with rfl | rfl | rfl | rfl | rfl | rfl | rfl
  all_goals refine ⟨?_, ?_, ?_, ?_, ?_, ?_⟩ <;> first | decide | (simp only [mdA, mdZ, mdB]; decide)
/-- Where the examples' deeds lie. -/
structure Aw (w W : World) (H : Nat) : Prop where
  b1 : Blk W (H + 1) (mdA H).cells 32
  b2 : Blk W (H + 1 + 1) mdSy.cells 32
  b3 : Blk W (H + 1 + 1 + 1) mdNm.cells 32
  b6 : Blk W (H + 1 + 1 + 1 + 1 + 1 + 1) (mdZ (H + 1 + 1 + 1 + 1)).cells 32
  b7 : Blk W (H + 1 + 1 + 1 + 1 + 1 + 1 + 1) (mdB (H + 1 + 1 + 1 + 1 + 1)).cells 32
  b8 : Blk W (H + 1 + 1 + 1 + 1 + 1 + 1 + 1 + 1) mdBs.cells 32
  b9 : Blk W (H + 1 + 1 + 1 + 1 + 1 + 1 + 1 + 1 + 1) mdTo.cells 32
  oA : (mdA H).Ok W
  oZ : (mdZ (H + 1 + 1 + 1 + 1)).Ok W
  oB : (mdB (H + 1 + 1 + 1 + 1 + 1)).Ok W
  bl : Below w.heap.size w W
def awL (H : Nat) : List Obj := [.cells #[.int .u8 120, .int .u8 121] 5 (2, 3), .cells (mdA H).cells.toArray 32, .cells mdSy.cells.toArray 32, .cells mdNm.cells.toArray 32,
  .cells #[.int .u8 122] 5 (1, 2), .cells #[.int .u8 49] 5 (1, 2), .cells (mdZ (H + 1 + 1 + 1 + 1)).cells.toArray 32, .cells (mdB (H + 1 + 1 + 1 + 1 + 1)).cells.toArray 32,
  .cells mdBs.cells.toArray 32, .cells mdTo.cells.toArray 32]
theorem aw_of (w : World) : Aw w ((awL w.heap.size).foldl World.alloc w) w.heap.size := by
  have h := fun i hi => alls_at w (awL w.heap.size) i hi
  refine ⟨h 1 (by simp [awL]), h 2 (by simp [awL]), h 3 (by simp [awL]), h 6 (by simp [awL]), h 7 (by simp [awL]), h 8 (by simp [awL]), h 9 (by simp [awL]), ?_, ?_, ?_, alls_below _ _⟩
  · refine ⟨?_, ?_, ?_, ?_, ?_, ?_, rfl, rd_block (h 0 (by simp [awL]))⟩ <;> (simp only [mdA, maxLen]; decide)
  · refine ⟨?_, ?_, ?_, ?_, ?_, ?_, rfl, rd_block (h 4 (by simp [awL]))⟩ <;> (simp only [mdZ, maxLen]; decide)
  · refine ⟨?_, ?_, ?_, ?_, ?_, ?_, rfl, rd_block (h 5 (by simp [awL]))⟩ <;> (simp only [mdB, maxLen]; decide)
theorem ok_none {W : World} {x : MD} (hx : x = mdSy ∨ x = mdNm ∨ x = mdBs ∨ x = mdTo) : x.Ok W := by
  rcases hx with rfl | rfl | rfl | rfl
  all_goals refine ⟨?_, ?_, ?_, ?_, ?_, ?_, rfl, Rd.nil _ _⟩ <;> (simp only [mdSy, mdNm, mdBs, mdTo, maxLen]; decide)
def awM (H : Nat) : List MD := [mdA H, mdSy, mdNm, mdZ (H + 1 + 1 + 1 + 1), mdB (H + 1 + 1 + 1 + 1 + 1), mdBs, mdTo]
theorem aw_all {w W X : World} {H : Nat} (h : Aw w W H) (hB : Below W.heap.size W X) : ∀ x ∈ awM H, x.May ∧ x.Ok X ∧ x.m ≤ 100 := by
  intro x hx
  refine ⟨may_all H (H + 1 + 1 + 1 + 1) (H + 1 + 1 + 1 + 1 + 1) x hx, ?_, ?_⟩
  · simp only [awM, List.mem_cons, List.not_mem_nil, or_false] at hx
    rcases hx with rfl | rfl | rfl | rfl | rfl | rfl | rfl
    · exact h.oA.below hB
    · exact ok_none (.inl rfl)
    · exact ok_none (.inr (.inl rfl))
    · exact h.oZ.below hB
    · exact h.oB.below hB
    · exact ok_none (.inr (.inr (.inl rfl)))
    · exact ok_none (.inr (.inr (.inr rfl)))
  · simp only [awM, List.mem_cons, List.not_mem_nil, or_false] at hx
    rcases hx with rfl | rfl | rfl | rfl | rfl | rfl | rfl
    all_goals simp only [mdA, mdSy, mdNm, mdZ, mdB, mdBs, mdTo]; decide
/-- 'fell' of the examples. -/
theorem aw_fell {w W X : World} {H : Nat} (h : Aw w W H) (hB : Below W.heap.size W X) (Ak : Option Addr) (mk ck : Nat) (keep : List Int) (hkl : keep.length = mk) (hkr : RdI X Ak keep) (h64 : In64 keep) (D : List MD) (n : Nat) (hn : D.length = n) (hn2 : n ≤ 7) (hD : ∀ x ∈ D, x ∈ awM H) (L : List Dd) (hL : D.map MD.dd = L) (g : Nat) (hg : g = X.heap.size) (Y : World) (hY : Y = X.alloc (.cells ((D.map MD.cells).flatten).toArray 32)) :
    Calls Try.prog 40 #[.slice Ak mk ck, .slice (some ⟨g, 0, none⟩) n n] Y (GotNew X (fellE keep L)) := by
  subst hY
  subst hg
  subst hL
  have hb : Below X.heap.size X (X.alloc (.cells ((D.map MD.cells).flatten).toArray 32)) := (Below.refl _ X).alloc (Nat.le_refl _) _
  refine (fell_any _ Ak mk ck keep _ n n D hkl (hkr.below hb) h64 hn (RdD.new X D _) (by omega) (Nat.le_refl _) (by unfold maxLen; omega) (fun x hx => aw_all h (bl_trans hB hb) x (hD x hx))).mono ?_
  rintro e w' ⟨own, d, he, hd, hf, hbl⟩
  exact ⟨own, d, he, hd, fun b hb2 => Nat.le_trans hb.size (hf b hb2), bl_trans hb hbl⟩
/-- 'has' of what 'fell' made. -/
theorem fell_has {w1 : World} {own : Nat → Option Role} {d : Nat} {s : DS} (hR : Rdy s) (hD : DiskIn w1 own d s) (t u : ByteArray) (ht : t.size ≤ maxLen) (tl ul : BS) (htl : t.data.toList = tl) (hul : u.data.toList = ul) (hh : hasE s tl ul = true) :
    Calls Try.prog 41 #[.pointer (some ⟨d, 0, none⟩), .string t, .string u] w1 (GotYes w1 true) := by
  subst htl
  subst hul
  obtain ⟨bn, bk, loc, hA⟩ := hD
  have := has_any hA hR.ok hR.fit hR.live hR.few t u ht
  rw [hh] at this
  exact this
theorem fell_names {w1 : World} {own : Nat → Option Role} {d : Nat} {s : DS} (hR : Rdy s) (hD : DiskIn w1 own d s) :
    Calls Try.prog 12 #[.pointer (some ⟨d, 0, none⟩)] w1 (GotNames w1 (s.now.map (·.1))) := by
  obtain ⟨bn, bk, loc, hA⟩ := hD
  exact names_any hA hR.ok hR.live hR.few
end Go.Proofs.Ytdgaipdpebinbaa
