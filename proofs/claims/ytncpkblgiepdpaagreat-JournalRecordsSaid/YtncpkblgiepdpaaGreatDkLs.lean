/- Calls of a disk, seen from a law's beginning. Contracts over the translated program. No condition but what each statement names. -/
import Derived.Test.YtncpkblgiepdpaaGreatDkYr
import Derived.Test.YtncpkblgiepdpaaGreatRow
set_option linter.unusedVariables false
set_option linter.unusedSimpArgs false
namespace Go.Proofs.YtncpkblgiepdpaaGreat
open Go.RowKit Go.Maps Go.Shelf Go.Sort Go.ChangeShapes Go.WideShapes Go.ChangeAt

theorem used_le {s : DS} {k m r : Nat} (h : Run s k m r) : s.used ≤ m := by
  have := h.inv.nmd.2
  have := useE_le s.files
  have := h.bnd.data
  omega
theorem app_ok {s : DS} {k m r : Nat} (h : Run s k m r) (name tt b : BS) (hb : m + b.length ≤ r) : dE s ⟨0, name, tt, b⟩ = (appE s name b, 0) := by
  have := used_le h
  have h2 : s.used + b.length ≤ s.room := by rw [h.room]; omega
  simp only [dE, h2, if_true]
/-- What a call of a disk leaves, seen from a place ahead. -/
theorem lies_got {w wr w2 : World} {own : Nat → Option Role} {d : Nat} {s s2 : DS} {v : Value} {e : Ending} (hL : Lies w wr own d s) (h : GotA wr own d v s2 e w2) : e = .returned v ∧ ∃ own2, Lies w w2 own2 d s2 ∧ Kept wr w2 own own2 := by
  obtain ⟨he, own2, hD, hK⟩ := h
  exact ⟨he, own2, hL.next hD hK, hK⟩
theorem lies_append {w wr X : World} {own : Nat → Option Role} {d : Nat} {s : DS} (hL : Lies w wr own d s) {k m r : Nat} (hR : Run s k m r) (hk : k ≤ 1000) (hm : m ≤ 1000000) (hr : r ≤ 16777216) (t : ByteArray) (ht : isN t = true) (l : BS) (q c : Nat) (hl : l.length = q) (hq : q ≤ 1000) {T : TypeId} {fr : Nat × Nat} (g : Nat) (hg : g = wr.heap.size)
    (tl : BS) (htl : t.data.toList = tl) (z : Int) (hz : (((dE s ⟨0, tl, [], l⟩).2 : Nat) : Int) = z)
    (hX : X = wr.alloc (.cells (l.map bv).toArray T fr)) : Calls Tryz.prog 40 #[.pointer (some ⟨d, 0, none⟩), .string t, .slice (some ⟨g, 0, none⟩) q c] X (fun e w' => e = .returned (.int .i64 z) ∧ ∃ own2, Lies w w' own2 d (dE s ⟨0, tl, [], l⟩).1) := by
  subst htl
  subst hz
  subst hX
  subst hg
  have hb : Below wr.heap.size wr (wr.alloc (.cells (l.map bv).toArray T fr)) := (Below.refl _ wr).alloc (Nat.le_refl _) _
  have hL2 := hL.on hb
  obtain ⟨bn, bk, loc, hA⟩ := hL.disk
  have hno : own wr.heap.size = none := by
    cases e : own wr.heap.size with
    | none => rfl
    | some r => have := hA.lt _ r e; omega
  refine (append_any (hA.below hb) (good_of hR.inv (hR.bnd.mono hk hm)) hR.live t ht _ q c l hl (rd_block (heap_alloc_new wr _)) (fun _ p hp => by cases hp; exact hno) (by omega) (by rw [hR.room]; exact hr)).mono ?_
  intro e w' h
  obtain ⟨h1, own2, h2, _⟩ := lies_got hL2 h
  exact ⟨h1, own2, h2⟩
theorem lies_sync {w wr : World} {own : Nat → Option Role} {d : Nat} {s : DS} (hL : Lies w wr own d s) {k m r : Nat} (hR : Run s k m r) (hk : k ≤ 1000) (hm : m ≤ 1000000) (t : ByteArray) (ht : t.size ≤ maxLen) (tl : BS) (htl : t.data.toList = tl) (z : Int) (hz : (((dE s ⟨1, tl, [], []⟩).2 : Nat) : Int) = z) :
    Calls Tryz.prog 65 #[.pointer (some ⟨d, 0, none⟩), .string t] wr (fun e w' => e = .returned (.int .i64 z) ∧ ∃ own2, Lies w w' own2 d (dE s ⟨1, tl, [], []⟩).1 ∧ Kept wr w' own own2) := by
  subst htl
  subst hz
  obtain ⟨bn, bk, loc, hA⟩ := hL.disk
  exact (sync_any hA (good_of hR.inv (hR.bnd.mono hk hm)) hR.live t ht).mono fun e w' h => lies_got hL h
theorem lies_names {w wr : World} {own : Nat → Option Role} {d : Nat} {s : DS} (hL : Lies w wr own d s) {k m r : Nat} (hR : Run s k m r) (hk : k ≤ 1000) (hm : m ≤ 1000000) :
    Calls Tryz.prog 66 #[.pointer (some ⟨d, 0, none⟩)] wr (fun e w' => e = .returned (.int .i64 0) ∧ ∃ own2, Lies w w' own2 d (dE s ⟨4, [], [], []⟩).1 ∧ Kept wr w' own own2) := by
  obtain ⟨bn, bk, loc, hA⟩ := hL.disk
  exact (keepNames_in hA (good_of hR.inv (hR.bnd.mono hk hm)) hR.short hR.live).mono fun e w' h => lies_got hL h
theorem lies_crash {w wr : World} {own : Nat → Option Role} {d : Nat} {s : DS} (hL : Lies w wr own d s) (hd : s.dead = false) (A : Option Addr) (m c : Nat) (keep : List Int) (hl : keep.length = m) (hr : RdI w A keep) (h64 : In64 keep) (hf : FallOk s keep) :
    Calls Tryz.prog 21 #[.pointer (some ⟨d, 0, none⟩), .slice A m c] wr (fun e w' => e = .returned (.tuple #[]) ∧ ∃ own2, Lies w w' own2 d (fallE s keep) ∧ Kept wr w' own own2) := by
  obtain ⟨bn, bk, loc, hA⟩ := hL.disk
  exact (crash_any hA hd A m c keep hl (hr.below hL.below) h64 (rdI_free hL hr) hf).mono fun e w' h => lies_got hL h
theorem lies_boot {w wr : World} {own : Nat → Option Role} {d : Nat} {s : DS} (hL : Lies w wr own d s) :
    Calls Tryz.prog 25 #[.pointer (some ⟨d, 0, none⟩)] wr (fun e w' => e = .returned (.tuple #[]) ∧ ∃ own2, Lies w w' own2 d (bootE s) ∧ Kept wr w' own own2) := by
  obtain ⟨bn, bk, loc, hA⟩ := hL.disk
  refine (boot_any hA).mono ?_
  rintro e w' ⟨he, hA2, hK⟩
  exact ⟨he, own, hL.next (s2 := bootE s) ⟨bn, bk, loc, hA2⟩ hK, hK⟩
theorem lies_read {w wr : World} {own : Nat → Option Role} {d : Nat} {s : DS} (hL : Lies w wr own d s) (hI : OkM s.files.length s.now) (hF : Fit s.files) (hd : s.dead = false) (t : ByteArray) (ht : t.size ≤ maxLen) (o : Option BS) (ho : rdE s t.data.toList = o) :
    Calls Tryz.prog 54 #[.pointer (some ⟨d, 0, none⟩), .string t] wr (GotRead wr o) := by
  subst ho
  obtain ⟨bn, bk, loc, hA⟩ := hL.disk
  exact read_any hA hI hF hd t ht

theorem Lies.grown {w wr w2 : World} {own : Nat → Option Role} {d : Nat} {s : DS} (h : Lies w wr own d s) {o : Option Nat} (hg : wr.grownBy w2 o) (hb : ∀ b, o = some b → own b = none ∧ w.heap.size ≤ b) : Lies w w2 own d s := by
  obtain ⟨bn, bk, loc, hA⟩ := h.disk
  exact ⟨⟨bn, bk, loc, hA.grown hg fun c e => (hb c e).1⟩, h.far, bl_grown h.below hg fun k e => (hb k e).2⟩
theorem Lies.setOwn {w wr : World} {own : Nat → Option Role} {d : Nat} {s : DS} (h : Lies w wr own d s) {b : Nat} (hb : own b = none) (hw : w.heap.size ≤ b) (k : Nat) (v : Value) : Lies w (wr.setCell ⟨b, k, none⟩ v) own d s :=
  h.grown (grown_set wr ⟨b, k, none⟩ v) fun c e => by cases e; exact ⟨hb, hw⟩
theorem w64 (z : Int) (h1 : -9223372036854775808 ≤ z) (h2 : z ≤ 9223372036854775807) : wrap64 z = z := by
  have e : IntKind.i64.wrap z = wrap64 z := by rw [IntKind.wrap_i64]; unfold wrap64; rfl
  rw [← e]
  exact wrap_in z h1 h2
end Go.Proofs.YtncpkblgiepdpaaGreat
