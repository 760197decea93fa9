/- A disk's Cut; what Open of a journal does to a disk, step by step: contracts over the translated program. No condition but that the disk lies in memory as said, and what each statement names. -/
import Derived.Test.YtncpkblgiepdpaaGreatDkSt
import Derived.Test.YtncpkblgiepdpaaGreatJoS
import Derived.Test.YtncpkblgiepdpaaGreatJoG
import Derived.BigRegion
set_option linter.unusedVariables false
set_option linter.unusedSimpArgs false
namespace Go.Proofs.YtncpkblgiepdpaaGreat
open Go.RowKit Go.Maps Go.Shelf Go.Sort

section
variable {w : World} {own : Nat → Option Role} {d bn bk : Nat} {loc : Nat → Nat} {s : DS} {L : Nat → Prop}

theorem min_two (a b : Nat) : ∀ (ts : Array TypeId) (t : TypeId) (W : World), (Builtin.min_ ts t #[.int .i64 (a : Int), .int .i64 (b : Int)]).run Tryz.prog W = .ok (.int .i64 ((min a b : Nat) : Int)) W := fun ts t W => by
  obtain ⟨j, h1, h2, h3, h4⟩ := min_lit a b (b : Int) rfl
  rw [← show j = min a b from h1]
  exact h4 ts t W
/-- A file's data are cut, then its mark. -/
theorem At.setCut2 (h : At w own d bn bk loc s L) {i : Nat} {f : Fil} (hf : s.files[i]? = some f) (hL : L i) {A : Option Addr} {n c k q : Nat}
    (g1 : Blk w (loc i) [.int .i64 (i : Int), .int .i64 (f.mark : Int), .int .i64 (f.named : Int), .slice A n c] 135) (g2 : Own w 0 (.slice A n c) f.data) (g3 : ∀ b, (Value.slice A n c).ownBlock = some b → own b = some (.data i)) (o1 : own (loc i) = some (.file i)) (hk : k ≤ f.data.length) :
    At ((w.setCell ⟨loc i, 3, none⟩ (.slice A k c)).setCell ⟨loc i, 1, none⟩ (.int .i64 (q : Int))) own d bn bk loc { s with files := s.files.set i ⟨f.data.take k, q, f.named⟩ } L := by
  have hg1 := grown_set w ⟨loc i, 3, none⟩ (.slice A k c)
  have hg2 := grown_set (w.setCell ⟨loc i, 3, none⟩ (.slice A k c)) ⟨loc i, 1, none⟩ (.int .i64 (q : Int))
  have hg := grown_trans hg1 hg2
  have hne : ∀ b, (Value.slice A k c).ownBlock = some b → own b = some (.data i) := fun b hb => by
    refine g3 b ?_
    cases A with
    | none => exact hb
    | some a => exact hb
  refine h.setFile i ⟨f.data.take k, q, f.named⟩ (List.getElem?_eq_some_iff.1 hf).1 hg (.inl o1) ⟨o1, .slice A k c, (g1.set 3 _).set 1 _, Own.kept (g2.take hk) hg ?_, hne⟩
  by_cases e : (Value.slice A k c).ownBlock = some (loc i)
  · have := hne _ e
    rw [o1] at this
    cases this
  · exact .inr e

set_option maxHeartbeats 4000000 in
set_option maxRecDepth 40000 in
theorem cut_any (hA : At w own d bn bk loc s (Ref s)) (hg : Good s) (hd : s.dead = false) (t : ByteArray) (ht : t.size ≤ maxLen) (k i : Nat) (f : Fil) (hn : getE s.now t.data.toList = some i) (hf : s.files[i]? = some f) (hk : k ≤ f.data.length) :
    Calls Tryz.prog 116 #[.pointer (some ⟨d, 0, none⟩), .string t, .int .i64 (k : Int)] w (GotA w own d (.int .i64 0) (cutE s i k)) := by
  have hq := find_any hA hd t ht
  rw [hn] at hq
  simp only [Option.map_some] at hq
  have hL : Ref s i := ref_get hg.inv.now.1 hn
  obtain ⟨o1, v, g1, g2, g3⟩ := hA.file i _ hf hL
  obtain ⟨hu, hnm⟩ := used_ge hg.inv (cnt_get hg.inv.now.1 hn) hf
  have hfl := good_len hg hf
  have hmk := hg.inv.mrk i f hf
  have hus : s.used ≤ 549755813888 := by
    have := hg.inv.nmd.2
    have := useE_le s.files
    have := hg.few
    unfold bulk at this
    omega
  obtain ⟨A, n, c, rfl, hnl, hnc, hcm, hr⟩ := g2.form
  have hbg := begun_any hA
  have hne : d ≠ loc i := fun e => by rw [← e, hA.rd] at o1; cases o1
  have hne' : loc i ≠ d := fun e => hne e.symm
  have c2 := hA.cellD 2 _ fun _ => rfl
  have z2 := hA.freeD 2
  have f3 := g1.cell 3 _ rfl
  have hA1 := hA.setUsed (s.used - (f.data.length - k))
  have g1' : Blk (w.setCell ⟨d, 2, none⟩ (.int .i64 ((s.used - (f.data.length - k) : Nat) : Int))) (loc i) [.int .i64 (i : Int), .int .i64 (f.mark : Int), .int .i64 (f.named : Int), .slice A n c] 135 := g1.same (Below.heap_setCell _ _ _ _ (fun e => hne' (by simpa using e)))
  have g2' : Own (w.setCell ⟨d, 2, none⟩ (.int .i64 ((s.used - (f.data.length - k) : Nat) : Int))) 0 (.slice A n c) f.data := g2.kept (grown_set _ _ _) (by
    cases hv : (Value.slice A n c).ownBlock with
    | none => exact .inl rfl
    | some b => exact .inr fun e => by cases e; have := g3 _ hv; rw [hA.rd] at this; cases this)
  have hkn : k ≤ n := by have := hnl.out; omega
  have eu : (s.used : Int) - ((n : Int) - (k : Int)) = ((s.used - (f.data.length - k) : Nat) : Int) := by have := hnl.out; omega
  have hn5 : n ≤ 549755813888 := by have := hnl.out; omega
  have hcut := fun W => cut_to A n c k hkn hnc (k : Int) rfl W
  have hmin := min_two f.mark k
  have EU := Lib.hid eu
  have HA1 := Lib.hid hA1
  have G1 := Lib.hid g1'
  have G2 := Lib.hid g2'
  have d0 : decide ((k : Int) < 0) = false := by simp
  have d1 : decide ((n : Int) < (k : Int)) = false := by simp; omega
  clear eu g1' g2' hA1 g2 hmk hfl hu hnm
  go_enter Tryz.func116, Tryz.ntmps116
  go_wp2_with (first | (go_at_call 98; (with_reducible refine hq.mono ?_); rintro e w ⟨rfl, rfl⟩; simp only [pv]) | (go_at_call 92; (with_reducible refine hbg.mono ?_); rintro e w ⟨rfl, rfl⟩))
  go_region
  rw [EU.out]
  obtain ⟨W1, hW1⟩ : ∃ W1, W1 = (w.setCell ⟨d, 2, none⟩ (.int .i64 ((s.used - (f.data.length - k) : Nat) : Int))).drew := ⟨_, rfl⟩
  have B1 : Blk W1 (loc i) [.int .i64 (i : Int), .int .i64 (f.mark : Int), .int .i64 (f.named : Int), .slice A n c] 135 := by rw [hW1]; exact G1.out
  have B2 : Own W1 0 (.slice A n c) f.data := by rw [hW1]; exact G2.out
  have B3 : At W1 own d bn bk loc { s with used := s.used - (f.data.length - k) } (Ref s) := by rw [hW1]; exact HA1.out.drew
  have K1 : Kept w W1 own own := by rw [hW1]; exact ((Kept.refl _ _).set (by rw [hA.rd]; simp) _).drew
  rw [← hW1]
  clear hW1 hA c2 z2 HA1 G1 G2 EU
  have f1 := B1.cell 1 _ rfl
  have f3 := B1.cell 3 _ rfl
  have y1 := B1.free 1
  have y3 := B1.free 3
  have A2 := Lib.hid (B3.setCut2 hf hL B1 B2 g3 o1 hk (q := min f.mark k))
  have HB1 := Lib.hid B1
  clear B2 B3 B1 hr
  go_wp2_with fail
  go_region
  go_wp2_with fail
  go_ret
  refine ⟨rfl, own, ⟨bn, bk, loc, ?_⟩, ((K1.set (by show own (loc i) ≠ none; rw [o1]; simp) _).set (by show own (loc i) ≠ none; rw [o1]; simp) _).drew⟩
  rw [cut_is hf]
  refine At.less A2.out.drew fun j hj => ?_
  exact hj
end

/-- A row of bytes that is not the disk's. -/
def Rows2 (w : World) (own : Nat → Option Role) (v : Value) (l : List BS) : Prop := ∃ A c, v = .slice A l.length c ∧ l.length ≤ c ∧ c ≤ maxLen ∧ RdB w own A l.length (fun q => l.getD q []) ∧ (0 < l.length → ∀ p, A = some p → ∃ cs fr, w.heap[p.block]? = some (.cells cs 22 fr))
theorem Rows2.kept {w w' : World} {own own' : Nat → Option Role} {v : Value} {l : List BS} (h : Rows2 w own v l) (hK : Kept w w' own own') : Rows2 w' own' v l := by
  obtain ⟨A, c, h1, h2, h3, h4, h5⟩ := h
  refine ⟨A, c, h1, h2, h3, h4.kept hK, fun h0 p hp => ?_⟩
  obtain ⟨cs, fr, hb⟩ := h5 h0 p hp
  obtain ⟨ad, e, hf, _⟩ := h4 h0
  rw [hp] at e
  cases e
  exact ⟨cs, fr, (hK.block p.block (lt_of_block hb) hf).trans hb⟩
theorem Rows2.nil (w : World) (own : Nat → Option Role) : Rows2 w own (.slice none 0 0) [] := ⟨none, 0, rfl, Nat.le_refl _, Nat.zero_le _, fun h => by simp at h, fun h => by simp at h⟩
theorem rows_of {w w' : World} {own : Nat → Option Role} {d : Nat} {s : DS} (h : DiskIn w own d s) {v : Value} {l : List BS} {vals : List Value} (ho : w'.ownsRow w.heap.size 22 1 v l.length vals) (hv : ∀ q (h : q < l.length), ∃ u, vals[q]? = some u ∧ Own w' w.heap.size u l[q]) : Rows2 w' own v l := by
  have hb : ∀ j, j < l.length → ∃ u, vals[j]? = some u ∧ IsB w' own u (l.getD j []) := fun j hj => by
    obtain ⟨u, hu, hou⟩ := hv j hj
    have e : l.getD j [] = l[j] := by simp [List.getD, hj]
    exact ⟨u, hu, by rw [e]; exact isB_own h hou⟩
  obtain ⟨A, c, h1, h2, h3, h4⟩ := rdB_of h ho hb
  refine ⟨A, c, h1, h2, h3, h4, fun h0 p hp => ?_⟩
  subst h1
  exact rowKind ho p.block (by rw [hp]; rfl)
/-- A variable of another type is stored to. -/
theorem rows_set {w : World} {own : Nat → Option Role} {v : Value} {l : List BS} (h : Rows2 w own v l) {q : Nat} (hq : ∃ cs fr, w.heap[q]? = some (.cells cs 27 fr)) (u : Value) : Rows2 (w.setCell ⟨q, 0, none⟩ u) own v l := by
  obtain ⟨A, c, h1, h2, h3, h4, h5⟩ := h
  have hg := grown_set w ⟨q, 0, none⟩ u
  have key : ∀ b : Nat, (∃ cs fr, w.heap[b]? = some (.cells cs 22 fr)) ∨ (∃ cs fr, w.heap[b]? = some (.cells cs 5 fr)) → (w.setCell ⟨q, 0, none⟩ u).heap[b]? = w.heap[b]? := fun b hb => by
    obtain ⟨cs, fr, e⟩ := hq
    rcases hb with ⟨cs', fr', e'⟩ | ⟨cs', fr', e'⟩
    · refine hg.block b (lt_of_block e') (fun e2 => ?_)
      simp only [Option.some.injEq] at e2
      subst e2
      rw [e] at e'
      cases e'
    · refine hg.block b (lt_of_block e') (fun e2 => ?_)
      simp only [Option.some.injEq] at e2
      subst e2
      rw [e] at e'
      cases e'
  refine ⟨A, c, h1, h2, h3, fun h0 => ?_, fun h0 p hp => ?_⟩
  · obtain ⟨ad, e, hf, hc⟩ := h4 h0
    refine ⟨ad, e, hf, fun j hj => ?_⟩
    obtain ⟨x, hx, A1, c1, e1, g2, g3, g4, g5⟩ := hc j hj
    refine ⟨x, ?_, A1, c1, e1, g2, g3, ⟨fun hb => ?_, g4.2⟩, fun hb p hp => ?_⟩
    · have hb := key ad.block (.inl (h5 h0 ad e))
      rw [← hx]
      unfold World.cell?
      rw [add_block, hb]
    · obtain ⟨ad1, ea, hca⟩ := g4.1 hb
      have hb2 := key ad1.block (.inr (g5 hb ad1 ea))
      refine ⟨ad1, ea, fun y hy => ?_⟩
      rw [← hca y hy]
      unfold World.cell?
      rw [add_block, hb2]
    · obtain ⟨cs, fr, e2⟩ := g5 hb p hp
      exact ⟨cs, fr, (key p.block (.inr ⟨cs, fr, e2⟩)).trans e2⟩
  · obtain ⟨cs, fr, e2⟩ := h5 h0 p hp
    exact ⟨cs, fr, (key p.block (.inl ⟨cs, fr, e2⟩)).trans e2⟩
/-- What a call of a disk leaves, its answer told of. -/
structure GotS (w : World) (own : Nat → Option Role) (d : Nat) (s' : DS) (P : World → (Nat → Option Role) → Value → Prop) (e : Ending) (w' : World) : Prop where
  val : ∃ v own', e = .returned v ∧ DiskIn w' own' d s' ∧ Kept w w' own own' ∧ P w' own' v

section
variable {w : World} {own : Nat → Option Role} {d : Nat} {s : DS} {k m r : Nat}
theorem clr_err (s : DS) : (dE s ⟨3, jx, [], []⟩).2 = 0 ∨ ((dE s ⟨3, jx, [], []⟩).2 = 50 ∧ clrE s = s) := by
  unfold clrE
  simp only [dE]
  split
  · exact .inr ⟨rfl, rfl⟩
  · exact .inl rfl
theorem cleared_any (hD : DiskIn w own d s) (hR : Run s k m r) (hk : k ≤ 1000) (hm : m ≤ 1000000) :
    Calls Tryz.prog 61 #[.pointer (some ⟨d, 0, none⟩)] w (GotA w own d (.int .i64 0) (clrE s)) := by
  obtain ⟨bn, bk, loc, hA⟩ := hD
  have hq := remove_any hA (good_of hR.inv (hR.bnd.mono hk hm)) hR.live ⟨#[106, 111, 117, 114, 110, 97, 108, 46, 110, 101, 119]⟩ (by show 11 ≤ _; omega)
  have hq2 : Calls Tryz.prog 115 #[.pointer (some ⟨d, 0, none⟩), .string ⟨#[106, 111, 117, 114, 110, 97, 108, 46, 110, 101, 119]⟩] w (GotA w own d (.int .i64 ((dE s ⟨3, jx, [], []⟩).2 : Nat)) (clrE s)) := hq
  clear hq
  rcases clr_err s with h0 | ⟨h0, h1⟩
  · rw [h0] at hq2
    go_enter Tryz.func61, Tryz.ntmps61
    go_wp2_with fail
    refine hq2.mono ?_
    rintro e w1 ⟨rfl, own1, hD1, hK1⟩
    go_wp2_with fail
    go_ret
    exact ⟨rfl, own1, hD1, hK1⟩
  · rw [h0] at hq2
    go_enter Tryz.func61, Tryz.ntmps61
    go_wp2_with fail
    refine hq2.mono ?_
    rintro e w1 ⟨rfl, own1, hD1, hK1⟩
    go_wp2_with fail
    go_ret
    exact ⟨rfl, own1, hD1, hK1⟩
end
end Go.Proofs.YtncpkblgiepdpaaGreat
