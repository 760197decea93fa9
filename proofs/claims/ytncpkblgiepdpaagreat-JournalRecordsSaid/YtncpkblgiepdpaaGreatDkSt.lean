/- Helpers of DiskStays: SameNames; rows of bytes. Contracts over the translated program. No condition but what each statement names. -/
import Derived.Test.YtncpkblgiepdpaaGreatDkLs
set_option linter.unusedVariables false
set_option linter.unusedSimpArgs false
namespace Go.Proofs.YtncpkblgiepdpaaGreat
open Go.RowKit Go.Maps Go.Shelf Go.Sort Go.ChangeShapes Go.WideShapes Go.ChangeAt

/-- A slice that reads as names. -/
def RdN (w : World) (A : Option Addr) (l : List BS) : Prop :=
  0 < l.length → ∃ ad, A = some ad ∧ ∀ j (h : j < l.length), w.cell? (ad.add j) = some (.string ⟨(l[j]).toArray⟩)
theorem RdN.below {w w' : World} {A : Option Addr} {l : List BS} (h : RdN w A l) (hb : Below w.heap.size w w') : RdN w' A l := fun hl => by
  obtain ⟨ad, e, hc⟩ := h hl
  exact ⟨ad, e, fun j hj => (hb.cell (World.block_lt_of_cell? w _ (hc j hj))).trans (hc j hj)⟩
theorem RdN.cell {w : World} {A : Option Addr} {l : List BS} (h : RdN w A l) {k : Nat} (hk : k < l.length) : ∃ ad, A = some ad ∧ w.cell? (ad.add k) = some (.string ⟨(l[k]).toArray⟩) := by
  obtain ⟨ad, e, hc⟩ := h (by omega)
  exact ⟨ad, e, hc k hk⟩
theorem RdN.of_row {w : World} {base g cap : Nat} {l : List BS} (h : w.ownsRow base 9 1 (.slice (some ⟨g, 0, none⟩) l.length cap) l.length (l.map encStr)) : RdN w (some ⟨g, 0, none⟩) l := fun hl => by
  refine ⟨_, rfl, fun j hj => ?_⟩
  exact World.ownsRow.cells h (g := g) rfl j _ (by simp [hj, encStr])
theorem RdN.kept {w w' : World} {own own' : Nat → Option Role} {A : Option Addr} {l : List BS} (h : RdN w A l) (hK : Kept w w' own own') (hA : ∀ p, A = some p → own p.block = none) : RdN w' A l := fun hl => by
  obtain ⟨ad, rfl, hc⟩ := h hl
  refine ⟨ad, rfl, fun j hj => ?_⟩
  have h1 := hc j hj
  have hb : (ad.add j).block = ad.block := add_block _ _
  have hlt : (ad.add j).block < w.heap.size := cell_lt h1
  have h2 := hK.block (ad.add j).block hlt (by rw [hb]; exact hA ad rfl)
  rw [← h1]
  unfold World.cell?
  rw [h2]

theorem same_any (A A' : Option Addr) (n c c' : Nat) (l : List BS) (w : World) (hl : l.length = n) (hr : RdN w A l) (hr' : RdN w A' l) (hn : n ≤ maxLen) :
    Calls Tryz.prog 52 #[.slice A n c, .slice A' n c'] w (GotYes w true) := by
  unfold maxLen at hn
  have HL := Lib.hid hl
  clear hl
  go_enter Tryz.func52, Tryz.ntmps52
  go_wp2_with fail
  go_loopw [5] (fun i wr => ∃ k : Nat, k ≤ n ∧ i = .int .i64 (k : Int) ∧ Below w.heap.size w wr) (fun i _ => n - (intOf i).toNat)
  case atStart => exact ⟨0, Nat.zero_le _, rfl, Below.refl _ _⟩
  case round =>
    obtain ⟨k, hk, rfl, hbl⟩ := hrel
    by_cases hlt : k < n
    · have h1 : k < l.length := by have := HL.out; omega
      obtain ⟨ad, rfl, hc⟩ := (hr.below hbl).cell h1
      obtain ⟨ad', rfl, hc'⟩ := (hr'.below hbl).cell h1
      clear hr hr'
      go_wp2
      go_quiet (fail)
      go_wp2
      exact ⟨⟨k + 1, by omega, by go_num, bl_drewN hbl _⟩, by simp [intOf]; omega⟩
    · go_wp2
      go_ret
      exact ⟨rfl, hbl⟩

/-- Names that a disk has are no longer than a string may be. -/
theorem keys_len {w : World} {b : Nat} {loc : Nat → Nat} {m : Nm} (h : MapAt w b loc m) : ∀ p ∈ m, p.1.length ≤ maxLen := by
  obtain ⟨es, he, hk⟩ := World.ownsMap.keysOf h
  intro p hp
  unfold DM at he
  cases he
  obtain ⟨v, hv⟩ := hk (.string p.1, .lit (.int .i64 (loc p.2))) (List.mem_map.2 ⟨p, hp, rfl⟩)
  obtain ⟨x, _, e, hx⟩ := Maps.keyOf_str Tryz.underlying9 hv
  simp only [Lit.string.injEq] at e
  rw [e]
  exact hx
theorem free_kept {w w' : World} {own own' : Nat → Option Role} (hK : Kept w w' own own') {b : Nat} (hb : b < w.heap.size) (h : own b = none) : own' b = none := by
  cases e : own' b with
  | none => rfl
  | some r =>
    rcases hK.more b (by rw [e]; simp) with h1 | h1
    · exact absurd h h1
    · omega
theorem cell_kept {w w' : World} {own own' : Nat → Option Role} (hK : Kept w w' own own') {p : Addr} {v : Value} (h : w.cell? p = some v) (hf : own p.block = none) : w'.cell? p = some v := by
  have h2 := hK.block p.block (cell_lt h) hf
  rw [← h]
  unfold World.cell?
  rw [h2]
/-- Names that are not the disk's. -/
def RdNo (w : World) (own : Nat → Option Role) (A : Option Addr) (l : List BS) : Prop := RdN w A l ∧ (0 < l.length → ∀ p, A = some p → own p.block = none)
theorem RdNo.kept {w w' : World} {own own' : Nat → Option Role} {A : Option Addr} {l : List BS} (h : RdNo w own A l) (hK : Kept w w' own own') : RdNo w' own' A l := by
  refine ⟨fun h0 => h.1.kept hK (h.2 h0) h0, fun h0 p hp => ?_⟩
  obtain ⟨ad, e, hc⟩ := h.1 h0
  rw [hp] at e
  cases e
  have hlt := cell_lt (hc 0 h0)
  rw [add_block] at hlt
  exact free_kept hK hlt (h.2 h0 p hp)
/-- Bytes that are not the disk's. -/
def RdO (w : World) (own : Nat → Option Role) (A : Option Addr) (l : BS) : Prop := Rd w A l ∧ (0 < l.length → ∀ p, A = some p → own p.block = none)
theorem RdO.kept {w w' : World} {own own' : Nat → Option Role} {A : Option Addr} {l : BS} (h : RdO w own A l) (hK : Kept w w' own own') : RdO w' own' A l := by
  refine ⟨fun h0 => rd_kept h.1 hK (h.2 h0) h0, fun h0 p hp => ?_⟩
  obtain ⟨ad, e, hc⟩ := h.1 h0
  rw [hp] at e
  cases e
  have hlt := cell_lt (hc 0 h0)
  rw [add_block] at hlt
  exact free_kept hK hlt (h.2 h0 p hp)
/-- A value that is a slice of such bytes. -/
def IsB (w : World) (own : Nat → Option Role) (v : Value) (l : BS) : Prop := ∃ A c, v = .slice A l.length c ∧ l.length ≤ c ∧ c ≤ maxLen ∧ RdO w own A l ∧ (0 < l.length → ∀ p, A = some p → ∃ cs fr, w.heap[p.block]? = some (.cells cs 5 fr))
theorem IsB.kept {w w' : World} {own own' : Nat → Option Role} {v : Value} {l : BS} (h : IsB w own v l) (hK : Kept w w' own own') : IsB w' own' v l := by
  obtain ⟨A, c, h1, h2, h3, h4, h5⟩ := h
  refine ⟨A, c, h1, h2, h3, h4.kept hK, fun h0 p hp => ?_⟩
  obtain ⟨cs, fr, hb⟩ := h5 h0 p hp
  exact ⟨cs, fr, (hK.block p.block (lt_of_block hb) (h4.2 h0 p hp)).trans hb⟩
/-- A row of slices is another one: the bytes are as they were. -/
theorem isB_grown {w w' : World} {own : Nat → Option Role} {v : Value} {l : BS} (h : IsB w own v l) {row : Option Nat} (hg : w.grownBy w' row) (hr : ∀ g, row = some g → ∃ cs fr, w.heap[g]? = some (.cells cs 22 fr)) : IsB w' own v l := by
  obtain ⟨A, c, h1, h2, h3, h4, h5⟩ := h
  have key : 0 < l.length → ∀ p, A = some p → w'.heap[p.block]? = w.heap[p.block]? := fun h0 p hp => by
    obtain ⟨cs, fr, hb⟩ := h5 h0 p hp
    refine hg.block _ (lt_of_block hb) (fun e => ?_)
    obtain ⟨cs', fr', hb'⟩ := hr _ e.symm
    rw [hb] at hb'
    cases hb'
  refine ⟨A, c, h1, h2, h3, ⟨fun h0 => ?_, h4.2⟩, fun h0 p hp => ?_⟩
  · obtain ⟨ad, e, hc⟩ := h4.1 h0
    refine ⟨ad, e, fun q hq => ?_⟩
    have hk := key h0 ad e
    rw [← hc q hq]
    unfold World.cell?
    rw [add_block, hk]
  · obtain ⟨cs, fr, hb⟩ := h5 h0 p hp
    exact ⟨cs, fr, (key h0 p hp).trans hb⟩
/-- A row of such slices. -/
def RdB (w : World) (own : Nat → Option Role) (A : Option Addr) (n : Nat) (ls : Nat → BS) : Prop :=
  0 < n → ∃ ad, A = some ad ∧ own ad.block = none ∧ ∀ j, j < n → ∃ v, w.cell? (ad.add j) = some v ∧ IsB w own v (ls j)
theorem RdB.kept {w w' : World} {own own' : Nat → Option Role} {A : Option Addr} {n : Nat} {ls : Nat → BS} (h : RdB w own A n ls) (hK : Kept w w' own own') : RdB w' own' A n ls := fun h0 => by
  obtain ⟨ad, e, hf, hc⟩ := h h0
  have hlt : ad.block < w.heap.size := by
    obtain ⟨v, hv, _⟩ := hc 0 h0
    have := cell_lt hv
    rw [add_block] at this
    exact this
  refine ⟨ad, e, free_kept hK hlt hf, fun j hj => ?_⟩
  obtain ⟨v, hv, hb⟩ := hc j hj
  exact ⟨v, cell_kept hK hv (by rw [add_block]; exact hf), hb.kept hK⟩
theorem own_new {w : World} {own : Nat → Option Role} {d : Nat} {s : DS} (h : DiskIn w own d s) {b : Nat} (hb : w.heap.size ≤ b) : own b = none := by
  obtain ⟨bn, bk, loc, hA⟩ := h
  cases e : own b with
  | none => rfl
  | some r => have := hA.lt _ r e; omega
/-- Bytes that a call made anew are not the disk's. -/
theorem isB_own {w w' : World} {own : Nat → Option Role} {d : Nat} {s : DS} (h : DiskIn w own d s) {v : Value} {l : BS} (ho : Own w' w.heap.size v l) : IsB w' own v l := by
  obtain ⟨A, c, rfl, h1, h2, h3⟩ := ho.shape
  refine ⟨A, c, rfl, h1, h2, ⟨h3, fun h0 p hp => ?_⟩, fun h0 p hp => ?_⟩
  · rcases ho.2 with ⟨e2, hn⟩ | ⟨g, cap, cur, e2, hbase, _⟩
    · omega
    · cases e2
      cases hp
      exact own_new h hbase
  · rcases ho.2 with ⟨e2, hn⟩ | ⟨g, cap, cur, e2, hbase, hg, _⟩
    · omega
    · cases e2
      cases hp
      exact ⟨_, _, hg⟩
theorem row_kind {w : World} {base n : Nat} {v : Value} {vals : List Value} (h : w.ownsRow base 22 1 v n vals) : ∀ g, v.ownBlock = some g → ∃ cs fr, w.heap[g]? = some (.cells cs 22 fr) := fun g hg => by
  rcases h.2 with ⟨e2, hn⟩ | ⟨g', cap, cur, e2, hbase, hg', _⟩
  · rw [e2] at hg
    simp [Value.ownBlock] at hg
  · rw [e2] at hg
    simp [Value.ownBlock] at hg
    subst hg
    exact ⟨_, _, hg'⟩
theorem info_bs : (Tryz.prog.info? 22).map (fun i => (i.zero, i.size, i.bytes)) = some (some (.slice none 0 0), 1, 24) := by kernel_rfl
theorem rdB_of {w w4 : World} {own : Nat → Option Role} {d : Nat} {s : DS} (h : DiskIn w4 own d s) {v : Value} {n : Nat} {vals : List Value} {ls : Nat → BS} (ho : w.ownsRow w4.heap.size 22 1 v n vals) (hv : ∀ j, j < n → ∃ u, vals[j]? = some u ∧ IsB w own u (ls j)) :
    ∃ A c, v = .slice A n c ∧ n ≤ c ∧ c ≤ maxLen ∧ RdB w own A n ls := by
  rcases ho.2 with ⟨rfl, hn⟩ | ⟨g, cap, cur, rfl, hbase, hg, hnc, hcm, _⟩
  · subst hn
    exact ⟨none, 0, rfl, by omega, by unfold maxLen; omega, fun h0 => by omega⟩
  · refine ⟨some ⟨g, 0, none⟩, cap, rfl, hnc, hcm, fun h0 => ⟨_, rfl, own_new h hbase, fun j hj => ?_⟩⟩
    obtain ⟨u, hu, hb⟩ := hv j hj
    exact ⟨u, World.ownsRow.cells ho (g := g) rfl j u hu, hb⟩
theorem isB_quiet {w w' : World} {own : Nat → Option Role} {v : Value} {l : BS} (h : IsB w own v l) (hb : Below w.heap.size w w') : IsB w' own v l := h.kept (Kept.of_below hb own)
theorem lies_names3 {w wr : World} {own : Nat → Option Role} {d : Nat} {s : DS} (hL : Lies w wr own d s) {n : Nat} (hI : OkM n s.now) (hd : s.dead = false) (hf : s.now.length ≤ 1000000000) (ns : List BS) (hns : s.now.map (·.1) = ns) :
    Calls Tryz.prog 53 #[.pointer (some ⟨d, 0, none⟩)] wr (GotNames wr ns) := by
  subst hns
  obtain ⟨bn, bk, loc, hA⟩ := hL.disk
  exact names_any hA hI hd hf
theorem lies_gone {w wr : World} {own : Nat → Option Role} {d : Nat} {s : DS} (hL : Lies w wr own d s) (hd : s.dead = true) :
    Calls Tryz.prog 53 #[.pointer (some ⟨d, 0, none⟩)] wr (GotV wr (.slice none 0 0)) ∧ Calls Tryz.prog 106 #[.pointer (some ⟨d, 0, none⟩)] wr (GotV wr (.int .i64 0)) := by
  obtain ⟨bn, bk, loc, hA⟩ := hL.disk
  exact ⟨names_dead hA hd, left_dead hA hd⟩
theorem lies_dead {w wr : World} {own : Nat → Option Role} {d : Nat} {s : DS} (hL : Lies w wr own d s) (b : Bool) (hb : s.dead = b) :
    Calls Tryz.prog 24 #[.pointer (some ⟨d, 0, none⟩)] wr (GotV wr (.bool b)) := by
  subst hb
  obtain ⟨bn, bk, loc, hA⟩ := hL.disk
  exact dead_any hA
/-- What a name of a disk reads as. -/
theorem lies_keys {w wr : World} {own : Nat → Option Role} {d : Nat} {s : DS} (hL : Lies w wr own d s) : ∀ p ∈ s.now, p.1.length ≤ maxLen := by
  obtain ⟨bn, bk, loc, hA⟩ := hL.disk
  exact keys_len hA.nowM
theorem rd_now {s : DS} (hI : OkM s.files.length s.now) {p : BS × Nat} (hp : p ∈ s.now) : ∃ b, rdE s p.1 = some b := by
  have hg : getE s.now p.1 = some p.2 := (getE_some hI.1).2 hp
  have hl := hI.get hg
  exact ⟨s.files[p.2].data, by unfold rdE; rw [hg]; simp [List.getElem?_eq_getElem hl]⟩
end Go.Proofs.YtncpkblgiepdpaaGreat
