/- What the program's disk does when the power goes: contracts over the translated program. No condition but that the disk lies in memory as said, and what each statement names. -/
import Derived.Test.YtncpkblgiepdpaaGreatDkN
set_option linter.unusedVariables false
namespace Go.Proofs.YtncpkblgiepdpaaGreat
open Go.RowKit Go.Maps Go.Shelf Go.Sort

theorem cuts_snoc (keep : List Int) (i : Nat) : ∀ (l : List Nat) (fs : List Fil) (u k : Nat), cutsE keep fs u k (l ++ [i]) =
    match (cutsE keep fs u k l).1[i]? with
    | none => cutsE keep fs u k l
    | some f => ((cutsE keep fs u k l).1.set i (f.cut keep (k + l.length)), (cutsE keep fs u k l).2 + (f.cut keep (k + l.length)).mark)
  | [], fs, u, k => by
    simp only [List.nil_append, cutsE, List.length_nil, Nat.add_zero]
    cases fs[i]? <;> rfl
  | j :: r, fs, u, k => by
    simp only [List.cons_append, cutsE]
    split
    · rw [cuts_snoc keep i r]
      simp only [List.length_cons, show k + 1 + r.length = k + (r.length + 1) from by omega]
    · rw [cuts_snoc keep i r]
      simp only [List.length_cons, show k + 1 + r.length = k + (r.length + 1) from by omega]
/-- The first j files, cut. -/
theorem cuts_take {keep : List Int} {fs : List Fil} {ids : List Nat} (hn : ids.Nodup) {j : Nat} (hj : j < ids.length) {f : Fil} (hf : fs[ids[j]]? = some f) :
    (cutsE keep fs 0 0 (ids.take j)).1[ids[j]]? = some f ∧ cutsE keep fs 0 0 (ids.take (j + 1)) = ((cutsE keep fs 0 0 (ids.take j)).1.set ids[j] (f.cut keep j), (cutsE keep fs 0 0 (ids.take j)).2 + (f.cut keep j).mark) := by
  have h1 : ids[j] ∉ ids.take j := by
    intro hm
    obtain ⟨q, hq, e⟩ := List.getElem_of_mem hm
    have hq2 : q < j := by simp at hq; omega
    rw [List.getElem_take] at e
    exact (List.pairwise_iff_getElem.1 hn) q j (by omega) hj hq2 e
  have h2 : (cutsE keep fs 0 0 (ids.take j)).1[ids[j]]? = some f := by rw [cuts_out keep _ _ _ _ h1]; exact hf
  refine ⟨h2, ?_⟩
  have hl : (ids.take j).length = j := by simp; omega
  rw [List.take_succ_eq_append_getElem hj, cuts_snoc, h2]
  simp only [hl, Nat.zero_add]
theorem cut_mark_le {f : Fil} (keep : List Int) (k : Nat) (h : f.mark ≤ f.data.length) : (f.cut keep k).mark ≤ f.data.length := cut_le keep k h

theorem Own.take {w : World} {base : Nat} {A : Option Addr} {n c k : Nat} {l : BS} (h : Own w base (.slice A n c) l) (hk : k ≤ l.length) : Own w base (.slice A k c) (l.take k) := by
  have hl : (l.take k).length = k := by simp; omega
  rcases h.2 with ⟨e, hn⟩ | ⟨g, cap, cur, e, hb, hg, hnc, hcm, hcs, ht⟩
  · cases e
    have hk0 : k = 0 := by omega
    subst hk0
    exact Own.nil _ _
  · simp only [Value.slice.injEq] at e
    obtain ⟨rfl, rfl, rfl⟩ := e
    refine ⟨by simp, .inr ⟨g, c, cur, by rw [hl], hb, hg, by rw [hl]; omega, hcm, hcs, ?_⟩⟩
    have h2 := congrArg (List.take k) ht
    rw [List.take_take] at h2
    rw [hl, Nat.mul_one, List.map_take, ← h2]
    congr 1
    omega

section
variable {w : World} {own : Nat → Option Role} {d bn bk : Nat} {loc : Nat → Nat} {s : DS} {L : Nat → Prop}

theorem At.setCut (h : At w own d bn bk loc s L) {i : Nat} {f : Fil} (hf : s.files[i]? = some f) (hL : L i) {A : Option Addr} {n c k : Nat}
    (g1 : Blk w (loc i) [.int .i64 (i : Int), .int .i64 (f.mark : Int), .int .i64 (f.named : Int), .slice A n c] 135) (g2 : Own w 0 (.slice A n c) f.data) (g3 : ∀ b, (Value.slice A n c).ownBlock = some b → own b = some (.data i)) (o1 : own (loc i) = some (.file i)) (hk : k ≤ f.data.length) :
    At (((w.setCell ⟨loc i, 3, none⟩ (.slice A k c)).setCell ⟨loc i, 1, none⟩ (.int .i64 (k : Int))).setCell ⟨loc i, 2, none⟩ (.int .i64 2)) own d bn bk loc { s with files := s.files.set i ⟨f.data.take k, k, 2⟩ } L := by
  have hg1 := grown_set w ⟨loc i, 3, none⟩ (.slice A k c)
  have hg2 := grown_set (w.setCell ⟨loc i, 3, none⟩ (.slice A k c)) ⟨loc i, 1, none⟩ (.int .i64 (k : Int))
  have hg3 := grown_set ((w.setCell ⟨loc i, 3, none⟩ (.slice A k c)).setCell ⟨loc i, 1, none⟩ (.int .i64 (k : Int))) ⟨loc i, 2, none⟩ (.int .i64 2)
  have hg := grown_trans (grown_trans hg1 hg2) hg3
  have hne : ∀ b, (Value.slice A k c).ownBlock = some b → own b = some (.data i) := fun b hb => by
    refine g3 b ?_
    cases A with
    | none => exact hb
    | some a => exact hb
  refine h.setFile i ⟨f.data.take k, k, 2⟩ (List.getElem?_eq_some_iff.1 hf).1 hg (.inl o1) ⟨o1, .slice A k c, ((g1.set 3 _).set 1 _).set 2 _, Own.kept (g2.take hk) hg ?_, hne⟩
  by_cases e : (Value.slice A k c).ownBlock = some (loc i)
  · have := hne _ e
    rw [o1] at this
    cases this
  · exact .inr e

/-- The power went: names now are a copy of the kept ones, nothing else is left. -/
theorem At.fell (h : At w own d bn bk loc s L) {w5 w9 : World} (hb : Below w.heap.size w w5) (hlt : w.heap.size < w5.heap.size) (hm : MapAt w5 w.heap.size loc s.kept) (hk : MapAt w5 bk loc s.kept)
    (hg : w5.grownBy w9 (some d)) {T : DS} {L' : Nat → Prop} (hB : Blk w9 d (diskCells T w.heap.size bk (.slice none 0 0)) 79) (h1 : T.now = s.kept) (h2 : T.kept = s.kept) (h3 : T.works = [])
    (hf : ∀ (i : Nat) (f : Fil), T.files[i]? = some f → L' i → s.files[i]? = some f ∧ L i) :
    At w9 (setR own w.heap.size .now) d w.heap.size bk loc T L' := by
  have hn : own w.heap.size = none := by
    cases e : own w.heap.size with
    | none => rfl
    | some r => have := h.lt _ r e; omega
  have hm' := setR_more (own := own) (g := w.heap.size) (r := .now) (.inl hn)
  have hdl := h.lt _ _ h.rd
  refine ⟨hm' _ _ h.rd, setR_same _ _ _, hm' _ _ h.rk, fun b r e => ?_, ⟨.slice none 0 0, hB, by rw [h3]; exact World.ownsRow_nil _ _ _ _, by simp [Value.ownBlock]⟩, ?_, ?_, fun i f hfi hL => ?_⟩
  · rcases setR_some e with e2 | e2
    · rw [e2]; exact Nat.lt_of_lt_of_le hlt hg.size
    · exact Nat.lt_of_lt_of_le (h.lt b r e2) (Nat.le_trans (Nat.le_of_lt hlt) hg.size)
  · rw [h1]; exact mapAt_grown hm hg (fun e => by cases e; omega)
  · rw [h2]; exact mapAt_grown hk hg (fun e => by cases e; have := h.rk; rw [h.rd] at this; cases this)
  · obtain ⟨e1, e2⟩ := hf i f hfi hL
    obtain ⟨o1, v, g1, g2, g3⟩ := fileAt_grown (fileAt_grown (h.file i f e1 e2) (grown_of_below hb none) (by simp)) hg (fun c e => by cases e; rw [h.rd]; simp)
    exact ⟨hm' _ _ o1, v, g1, g2, fun c e => hm' _ _ (g3 c e)⟩

/-- A disk that the power may leave. -/
structure FallOk (s : DS) (keep : List Int) : Prop where
  few : s.works.length ≤ 1000000
  does : ∀ k (hk : k < s.works.length), DoOk (midE s k).files (midE s k).used (midE s k).kept s.now (Ref s) s.works[k]
  short : Short s
  ok : OkM s.files.length (playK s (manyE s keep))
  inj : ∀ i, cntE i (playK s (manyE s keep)) ≤ 1
  len : (playK s (manyE s keep)).length ≤ 1000000
  mrk : ∀ p ∈ playK s (manyE s keep), ∀ f, s.files[p.2]? = some f → f.mark ≤ f.data.length
  fit : Fit s.files
  ref : ∀ p ∈ playK s (manyE s keep), Ref s p.2
  births : s.files.length ≤ 1099511627776
  room : s.room ≤ 16777216

theorem fall_eq (s : DS) (keep : List Int) {kn : Nat} {S1 : DS} {ids : List Nat} (hkn : manyE s keep = kn) (hS1 : S1 = keepE s kn) (hids : idsE S1.files.length S1.kept = ids) :
    fallE s keep = { dead := true, room := s.room, used := (cutsE keep S1.files 0 0 ids).2, files := blankE ids (cutsE keep S1.files 0 0 ids).1, now := S1.kept, kept := S1.kept, works := [] } := by
  subst hids
  subst hS1
  subst hkn
  unfold fallE manyE
  rfl
theorem fall_end {w2 wr w5 w9 : World} {own1 : Nat → Option Role} {keep : List Int} {kn : Nat} {S1 : DS} {ids : List Nat} (hkn : manyE s keep = kn) (hS1 : S1 = keepE s kn) (hids : idsE S1.files.length S1.kept = ids)
    (hK2 : Kept w w2 own own1) (hKj : Kept w2 wr own1 own1) (hAj : At wr own1 d bn bk loc { S1 with files := (cutsE keep S1.files 0 0 ids).1 } (Ref s)) (hb : Below wr.drew.heap.size wr.drew w5)
    (hm : MapAt w5 wr.heap.size loc S1.kept) (hk : MapAt w5 bk loc S1.kept) (hg : w5.grownBy w9 (some d)) (hF : FallOk s keep)
    (hB : Blk w9 d [.bool true, .int .i64 (S1.room : Int), .int .i64 (((cutsE keep S1.files 0 0 ids).2 : Nat) : Int), .int .i64 (((cutsE keep S1.files 0 0 ids).1.length : Nat) : Int), .map (some wr.heap.size), .map (some bk), .slice none 0 0, .pointer none] 79) :
    ∃ own' bn', At w9 own' d bn' bk loc (fallE s keep) (Ref (fallE s keep)) ∧ Kept w w9 own own' := by
  have hb5 : Below wr.heap.size wr w5 := ⟨hb.os, hb.tape, hb.output, hb.size, hb.block⟩
  have hroom : S1.room = s.room := by rw [hS1]; rfl
  have hblen : (blankE ids (cutsE keep S1.files 0 0 ids).1).length = (cutsE keep S1.files 0 0 ids).1.length := by unfold blankE; simp
  rw [fall_eq s keep hkn hS1 hids]
  have hkept : S1.kept = playK s kn := by rw [hS1]; exact keep_kept s kn
  refine ⟨setR own1 wr.heap.size .now, wr.heap.size, hAj.fell (w5 := w5) hb5 hm.lt hm hk hg ?_ rfl rfl rfl (fun i f hfi hRi => ?_), ?_⟩
  · rw [hroom] at hB
    rw [← hblen] at hB
    exact hB
  · have hp : ∃ p ∈ S1.kept, p.2 = i := by
      rcases hRi with h1 | h1 | ⟨x, hx, _⟩
      · exact h1
      · exact h1
      · simp at hx
    obtain ⟨p, hp, rfl⟩ := hp
    have hp2 : p ∈ playK s (manyE s keep) := by rw [hkn, ← hkept]; exact hp
    have hin : p.2 ∈ ids := by
      rw [← hids, mem_ids]
      refine ⟨?_, p, hp, rfl⟩
      rw [hS1, keep_len]
      exact hF.ok.2 p hp2
    simp only [blank_at _ _ hin] at hfi
    exact ⟨hfi, hF.ref p hp2⟩
  · have k5 : Kept wr w5 own1 own1 := Kept.of_below hb5 own1
    have k9 : Kept w5 w9 own1 own1 := Kept.of_grown hg (by rw [hAj.rd]; simp)
    have kk := ((hK2.trans hKj).trans k5).trans k9
    refine ⟨kk.os, kk.tape, kk.output, kk.size, kk.block, fun b hb => ?_⟩
    by_cases e : b = wr.heap.size
    · exact .inr (by rw [e]; exact Nat.le_trans hK2.size hKj.size)
    · rw [setR_other _ _ e] at hb
      exact kk.more b hb

end
end Go.Proofs.YtncpkblgiepdpaaGreat
