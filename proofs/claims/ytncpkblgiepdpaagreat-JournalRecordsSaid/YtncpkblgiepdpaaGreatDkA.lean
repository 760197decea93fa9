/- The plain disk in memory: which blocks are a disk's, what they hold; what a call of a disk may turn. No condition but those that each statement names. -/
import Derived.Test.YtncpkblgiepdpaaGreatBytes
import Derived.Test.YtncpkblgiepdpaaGreatDkI
import Derived.Maps.RangeWalk
import Derived.Maps.OwnOps
import Derived.OneCell
import Derived.Lib.Hide
namespace Go.Proofs.YtncpkblgiepdpaaGreat
open Go.RowKit Go.Maps

/-- What a block is for. -/
inductive Role where
  | disk | now | kept | works
  | file (i : Nat)
  | data (i : Nat)

/-- A pointer to a block's head, or none. -/
def pv (o : Option Nat) : Value := .pointer (o.map fun b => ⟨b, 0, none⟩)
/-- What such a pointer reads as. -/
def RP : Value → Option (DataW Unit × List MemPlace)
  | .pointer none => some (.nil, [])
  | .pointer (some ⟨b, 0, none⟩) => some (.lit (.int .i64 (b : Int)), [])
  | _ => none
theorem RP_pv (b : Nat) : RP (pv (some b)) = some (.lit (.int .i64 (b : Int)), []) := rfl
theorem RP_some {v : Value} {b : Nat} {ps : List MemPlace} (h : RP v = some (.lit (.int .i64 (b : Int)), ps)) : v = pv (some b) := by
  unfold RP at h
  split at h
  · simp at h
  · simp at h
    obtain ⟨h, _⟩ := h
    have h2 := Int.ofNat.inj h
    rw [h2]
    rfl
  · cases h
theorem RP_none {v : Value} {ps : List MemPlace} (h : RP v = some (.nil, ps)) : v = .pointer none := by
  unfold RP at h
  split at h
  · rfl
  · simp at h
  · cases h

def sv (l : BS) : Value := .string ⟨l.toArray⟩
theorem sv_of (s : ByteArray) : sv s.data.toList = .string s := rfl

theorem keyedS : Keyed Tryz.prog 9 := string_keyed Tryz.underlying9

theorem exact_size {w : World} {b n : Nat} {D : DataW Unit} (h : w.ownsMap Tryz.prog 9 RP b n D) : w.ownsMap Tryz.prog 9 RP b (Maps.size D) D := by
  obtain ⟨es, clock, hb, F, hs, rfl⟩ := h
  refine ⟨es, clock, hb, F, ?_, rfl⟩
  simp [Maps.size, length_sorted]
theorem size_DM (loc : Nat → Nat) (m : Nm) : Maps.size (DM loc m) = m.length := by simp [DM, Maps.size]

/-- A block is a map that reads as names. -/
def MapAt (w : World) (b : Nat) (loc : Nat → Nat) (m : Nm) : Prop := w.ownsMap Tryz.prog 9 RP b m.length (DM loc m)
theorem mapAt_of {w : World} {b n : Nat} {loc : Nat → Nat} {m : Nm} (h : w.ownsMap Tryz.prog 9 RP b n (DM loc m)) : MapAt w b loc m := by
  have := exact_size h
  rw [size_DM] at this
  exact this

/-- A block of cells, none of them frozen. -/
def Blk (w : World) (b : Nat) (vs : List Value) (t : TypeId) : Prop := w.heap[b]? = some (.cells vs.toArray t (0, 0))
theorem Blk.lt {w : World} {b : Nat} {vs : List Value} {t : TypeId} (h : Blk w b vs t) : b < w.heap.size := lt_of_block h
theorem Blk.cell {w : World} {b : Nat} {vs : List Value} {t : TypeId} (h : Blk w b vs t) (k : Nat) (v : Value) (hk : vs[k]? = some v) : w.cell? ⟨b, k, none⟩ = some v := by
  unfold Blk at h
  simp [World.cell?, h, hk]
theorem Blk.free {w : World} {b : Nat} {vs : List Value} {t : TypeId} (h : Blk w b vs t) (k : Nat) : w.frozen? ⟨b, k, none⟩ = false := by
  unfold Blk at h
  simp [World.frozen?, h]
theorem Blk.set {w : World} {b : Nat} {vs : List Value} {t : TypeId} (h : Blk w b vs t) (k : Nat) (v : Value) : Blk (w.setCell ⟨b, k, none⟩ v) b (vs.set k v) t := by
  have hlt := h.lt
  unfold Blk at h ⊢
  have h' : w.heap[b] = .cells vs.toArray t (0, 0) := by simpa [Array.getElem?_eq_getElem hlt] using h
  show (w.heap.modify b _)[b]? = _
  rw [Array.getElem?_eq_getElem (by simpa using hlt), Array.getElem_modify_self, h']
  simp
theorem Blk.same {w w' : World} {b : Nat} {vs : List Value} {t : TypeId} (h : Blk w b vs t) (hb : w'.heap[b]? = w.heap[b]?) : Blk w' b vs t := hb.trans h

/-- The cells of a work on names. -/
def wkCells (loc : Nat → Nat) (x : Wk) : List Value := [sv x.gone, sv x.given, pv (x.file.map loc)]
def wksCells (loc : Nat → Nat) (l : List Wk) : List Value := (l.map (wkCells loc)).flatten
theorem wksCells_len (loc : Nat → Nat) (l : List Wk) : (wksCells loc l).length = l.length * 3 := by
  unfold wksCells
  induction l with
  | nil => rfl
  | cons x r ih => simp [wkCells] at ih ⊢; omega

/-- A file in memory. -/
def FileAt (w : World) (own : Nat → Option Role) (b i : Nat) (f : Fil) : Prop :=
  own b = some (.file i) ∧ ∃ v, Blk w b [.int .i64 (i : Int), .int .i64 (f.mark : Int), .int .i64 (f.named : Int), v] 135 ∧ Own w 0 v f.data ∧ ∀ c, v.ownBlock = some c → own c = some (.data i)

def diskCells (s : DS) (bn bk : Nat) (vw : Value) : List Value :=
  [.bool s.dead, .int .i64 (s.room : Int), .int .i64 (s.used : Int), .int .i64 (s.files.length : Int), .map (some bn), .map (some bk), vw, .pointer none]

/-- A disk in memory that does not fail; of the files those that L names. -/
structure At (w : World) (own : Nat → Option Role) (d bn bk : Nat) (loc : Nat → Nat) (s : DS) (L : Nat → Prop) : Prop where
  rd : own d = some .disk
  rn : own bn = some .now
  rk : own bk = some .kept
  lt : ∀ b r, own b = some r → b < w.heap.size
  blk : ∃ vw, Blk w d (diskCells s bn bk vw) 79 ∧ w.ownsRow 0 158 3 vw s.works.length (wksCells loc s.works) ∧ ∀ b, vw.ownBlock = some b → own b = some .works
  nowM : MapAt w bn loc s.now
  keptM : MapAt w bk loc s.kept
  file : ∀ i f, s.files[i]? = some f → L i → FileAt w own (loc i) i f

/-- What a call of a disk leaves alone: all that was there and is not the disk's. -/
structure Kept (w w' : World) (own own' : Nat → Option Role) : Prop where
  os : w'.os = w.os
  tape : w'.tape = w.tape
  output : w'.output = w.output
  size : w.heap.size ≤ w'.heap.size
  block : ∀ b, b < w.heap.size → own b = none → w'.heap[b]? = w.heap[b]?
  more : ∀ b, own' b ≠ none → own b ≠ none ∨ w.heap.size ≤ b

theorem Kept.refl (w : World) (own : Nat → Option Role) : Kept w w own own := ⟨rfl, rfl, rfl, Nat.le_refl _, fun _ _ _ => rfl, fun _ h => .inl h⟩
theorem Kept.trans {a b c : World} {o1 o2 o3 : Nat → Option Role} (h : Kept a b o1 o2) (k : Kept b c o2 o3) : Kept a c o1 o3 where
  os := k.os.trans h.os
  tape := k.tape.trans h.tape
  output := k.output.trans h.output
  size := Nat.le_trans h.size k.size
  block := fun i hi hn => by
    have h2 : o2 i = none := by
      cases e : o2 i with
      | none => rfl
      | some r => rcases h.more i (by rw [e]; simp) with h' | h'
                  · exact absurd hn h'
                  · omega
    exact (k.block i (Nat.lt_of_lt_of_le hi h.size) h2).trans (h.block i hi hn)
  more := fun b hb => by
    rcases k.more b hb with h' | h'
    · exact h.more b h'
    · exact .inr (Nat.le_trans h.size h')
theorem Kept.below {w w' : World} {own own' : Nat → Option Role} (h : Kept w w' own own') {B : Nat} (hB : B ≤ w.heap.size) (ho : ∀ b, own b ≠ none → B ≤ b) : Below B w w' :=
  ⟨h.os, h.tape, h.output, h.size, fun k hk => h.block k (by omega) (by
    cases e : own k with
    | none => rfl
    | some r => have := ho k (by rw [e]; simp); omega)⟩
theorem Kept.of_below {w w' : World} (h : Below w.heap.size w w') (own : Nat → Option Role) : Kept w w' own own :=
  ⟨h.os, h.tape, h.output, h.size, fun b hb _ => h.block b hb, fun _ h => .inl h⟩
theorem Kept.of_grown {w w' : World} {b : Nat} (h : w.grownBy w' (some b)) {own : Nat → Option Role} (hb : own b ≠ none) : Kept w w' own own :=
  ⟨h.os, h.tape, h.output, h.size, fun k hk hn => h.block k hk (fun e => by cases e; exact hb hn), fun _ h => .inl h⟩
theorem Kept.drew {a w : World} {o o' : Nat → Option Role} (h : Kept a w o o') : Kept a w.drew o o' := ⟨h.os, h.tape, h.output, h.size, h.block, h.more⟩
theorem Kept.set {a w : World} {o o' : Nat → Option Role} (h : Kept a w o o') {p : Addr} (hp : o' p.block ≠ none) (u : Value) : Kept a (w.setCell p u) o o' := by
  refine h.trans (o2 := o') ⟨rfl, rfl, rfl, by simp [World.setCell], fun b _ hn => Below.heap_setCell _ _ _ _ (fun e => hp (by rw [← e]; exact hn)), fun _ h => .inl h⟩

/-- One block of another is turned: what does not lie there stays. -/
theorem mapAt_grown {w w' : World} {b : Nat} {loc : Nat → Nat} {m : Nm} {row : Option Nat} (h : MapAt w b loc m) (hg : w.grownBy w' row) (hne : some b ≠ row) : MapAt w' b loc m := h.kept hg hne
theorem fileAt_grown {w w' : World} {own : Nat → Option Role} {b i : Nat} {f : Fil} {row : Option Nat} (h : FileAt w own b i f) (hg : w.grownBy w' row) (hne : ∀ c, row = some c → own c ≠ some (.file i) ∧ own c ≠ some (.data i)) : FileAt w' own b i f := by
  obtain ⟨h1, v, h2, h3, h4⟩ := h
  refine ⟨h1, v, h2.same (hg.block b h2.lt fun e => ?_), h3.kept hg ?_, h4⟩
  · exact (hne b e.symm).1 h1
  · cases hv : v.ownBlock with
    | none => exact .inl rfl
    | some c => exact .inr fun e => (hne c e.symm).2 (h4 c hv)

section
variable {w w' : World} {own : Nat → Option Role} {d bn bk : Nat} {loc : Nat → Nat} {s : DS} {L : Nat → Prop}

/-- A step that turns one block that is not the disk's, or none. -/
theorem At.grown (h : At w own d bn bk loc s L) {row : Option Nat} (hg : w.grownBy w' row) (hne : ∀ c, row = some c → own c = none) : At w' own d bn bk loc s L := by
  obtain ⟨vw, b1, b2, b3⟩ := h.blk
  have no : ∀ b r, own b = some r → some b ≠ row := fun b r e e' => by rw [hne b e'.symm] at e; cases e
  exact ⟨h.rd, h.rn, h.rk, fun b r e => Nat.lt_of_lt_of_le (h.lt b r e) hg.size,
    ⟨vw, b1.same (hg.block d b1.lt (no _ _ h.rd)), World.ownsRow.kept b2 hg (by
      cases hv : vw.ownBlock with
      | none => exact .inl rfl
      | some c => exact .inr (no _ _ (b3 c hv))), b3⟩,
    mapAt_grown h.nowM hg (no _ _ h.rn), mapAt_grown h.keptM hg (no _ _ h.rk),
    fun i f hf hL => fileAt_grown (h.file i f hf hL) hg fun c e => by rw [hne c e]; simp⟩
theorem At.below (h : At w own d bn bk loc s L) (hb : Below w.heap.size w w') : At w' own d bn bk loc s L := h.grown (grown_of_below hb none) (by simp)
theorem At.drew (h : At w own d bn bk loc s L) : At w.drew own d bn bk loc s L := h.below ((Below.refl _ _).drew)
theorem At.alloc (h : At w own d bn bk loc s L) (o : Obj) : At (w.alloc o) own d bn bk loc s L := h.below ((Below.refl _ _).alloc (Nat.le_refl _) o)
theorem At.less (h : At w own d bn bk loc s L) {L' : Nat → Prop} (hl : ∀ i, L' i → L i) : At w own d bn bk loc s L' := { h with file := fun i f hf hL => h.file i f hf (hl i hL) }

theorem grown_set (w : World) (p : Addr) (u : Value) : w.grownBy (w.setCell p u) (some p.block) :=
  ⟨rfl, rfl, rfl, by simp [World.setCell], fun k _ hk => Below.heap_setCell _ _ _ _ (fun e => hk (by rw [e]))⟩

/-- A cell of the disk's own block is another one. -/
theorem At.setDisk (h : At w own d bn bk loc s L) (k : Nat) (u : Value) (s' : DS) (hs : ∀ vw, (diskCells s bn bk vw).set k u = diskCells s' bn bk vw) (h1 : s'.files = s.files) (h2 : s'.now = s.now) (h3 : s'.kept = s.kept) (h4 : s'.works = s.works) :
    At (w.setCell ⟨d, k, none⟩ u) own d bn bk loc s' L := by
  obtain ⟨vw, b1, b2, b3⟩ := h.blk
  have hg := grown_set w ⟨d, k, none⟩ u
  refine ⟨h.rd, h.rn, h.rk, fun b r e => Nat.lt_of_lt_of_le (h.lt b r e) hg.size, ⟨vw, ?_, ?_, b3⟩, ?_, ?_, ?_⟩
  · rw [← hs vw]; exact b1.set k u
  · rw [h4]
    exact World.ownsRow.kept b2 hg (by
      cases hv : vw.ownBlock with
      | none => exact .inl rfl
      | some c => exact .inr fun e => by cases e; have := b3 d hv; rw [h.rd] at this; cases this)
  · rw [h2]; exact mapAt_grown h.nowM hg fun e => by cases e; have := h.rn; rw [h.rd] at this; cases this
  · rw [h3]; exact mapAt_grown h.keptM hg fun e => by cases e; have := h.rk; rw [h.rd] at this; cases this
  · intro i f hf hL
    rw [h1] at hf
    refine fileAt_grown (h.file i f hf hL) hg fun c e => ?_
    cases e
    rw [h.rd]
    simp

/-- A file's own block or its bytes are others: the file is another one. -/
theorem At.setFile (h : At w own d bn bk loc s L) (i : Nat) (f' : Fil) (hl : i < s.files.length) {row : Nat} (hg : w.grownBy w' (some row)) (hr : own row = some (.file i) ∨ own row = some (.data i)) (hf : FileAt w' own (loc i) i f') :
    At w' own d bn bk loc { s with files := s.files.set i f' } L := by
  obtain ⟨vw, b1, b2, b3⟩ := h.blk
  have no : ∀ b r, own b = some r → r ≠ .file i → r ≠ .data i → some b ≠ some row := fun b r e n1 n2 e' => by
    cases e'
    rcases hr with hr | hr <;> (rw [hr] at e; cases e)
    · exact n1 rfl
    · exact n2 rfl
  refine ⟨h.rd, h.rn, h.rk, fun b r e => Nat.lt_of_lt_of_le (h.lt b r e) hg.size, ⟨vw, ?_, ?_, b3⟩, ?_, ?_, ?_⟩
  · have e : diskCells { s with files := s.files.set i f' } bn bk vw = diskCells s bn bk vw := by simp [diskCells]
    rw [e]
    exact b1.same (hg.block d b1.lt (no _ _ h.rd (by simp) (by simp)))
  · exact World.ownsRow.kept b2 hg (by
      cases hv : vw.ownBlock with
      | none => exact .inl rfl
      | some c => exact .inr (no _ _ (b3 c hv) (by simp) (by simp)))
  · exact mapAt_grown h.nowM hg (no _ _ h.rn (by simp) (by simp))
  · exact mapAt_grown h.keptM hg (no _ _ h.rk (by simp) (by simp))
  · intro j g hj hLj
    simp only [List.getElem?_set] at hj
    by_cases e : i = j
    · subst e
      simp [hl] at hj
      subst hj
      exact hf
    · simp [e] at hj
      refine fileAt_grown (h.file j g hj hLj) hg fun c ec => ?_
      cases ec
      rcases hr with hr | hr <;> rw [hr] <;> simp [e]
end

end Go.Proofs.YtncpkblgiepdpaaGreat
