/- What the program's disk does when a work is done to names: contracts over the translated program. No condition but that the disk lies in memory as said, and what each statement names. -/
import Derived.Test.YtncpkblgiepdpaaGreatDkC
set_option linter.unusedVariables false
namespace Go.Proofs.YtncpkblgiepdpaaGreat
open Go.RowKit Go.Maps

structure DoOk (fs : List Fil) (u : Nat) (m o : Nm) (L : Nat → Prop) (x : Wk) : Prop where
  nmd : Nmd fs u fun i => cntE i m + cntE i o
  ok : OkM fs.length m
  fit : Fit fs
  few : m.length + o.length ≤ 1099511627776
  live : ∀ p ∈ m, L p.2
  file : ∀ i, x.file = some i → i < fs.length ∧ L i
section
variable {fs : List Fil} {u : Nat} {m o : Nm} {L : Nat → Prop} {x : Wk}
theorem cnt_le (i : Nat) (m : Nm) : cntE i m ≤ m.length := List.countP_le_length
theorem del_le (m : Nm) (t : BS) : (delE m t).length ≤ m.length := List.length_filter_le _ _
theorem DoOk.may (h : DoOk fs u m o L x) : May fs u L (getE m x.gone) :=
  may_of h.nmd h.fit (fun i => by have := cnt_le i m; have := cnt_le i o; have := h.few; omega) fun i hi => ⟨h.live _ ((getE_some h.ok.1).1 hi), h.ok.get hi, by have := cnt_pos h.ok.1 hi; omega⟩
theorem DoOk.nmd2 (h : DoOk fs u m o L x) : Nmd (relE fs u (getE m x.gone)).1 (relE fs u (getE m x.gone)).2 fun i => cntE i (delE m x.gone) + cntE i o :=
  nmd_congr (relE_nmd h.nmd (getE m x.gone) (fun i hi => ⟨h.ok.get hi, by have := cnt_pos h.ok.1 hi; omega⟩)) fun i => by
    have := cnt_del h.ok.1 x.gone i
    omega
theorem DoOk.len2 (h : DoOk fs u m o L x) : (relE fs u (getE m x.gone)).1.length = fs.length := dm_len (relE_dm _ _ _)
theorem DoOk.may2 (h : DoOk fs u m o L x) : May (relE fs u (getE m x.gone)).1 (relE fs u (getE m x.gone)).2 L (getE (delE m x.gone) x.given) :=
  may_of h.nmd2 (fit_of_dm (relE_dm _ _ _).symm h.fit) (fun i => by have := cnt_le i (delE m x.gone); have := del_le m x.gone; have := cnt_le i o; have := h.few; omega) fun i hi =>
    ⟨h.live _ (mem_del.1 ((getE_some (srt_del h.ok.1 _)).1 hi)).1, by rw [h.len2]; exact (h.ok.del _).get hi, by have := cnt_pos (srt_del h.ok.1 x.gone) hi; omega⟩
theorem DoOk.small3 (h : DoOk fs u m o L x) {i : Nat} (hi : i < fs.length) :
    ∃ f, (relE (relE fs u (getE m x.gone)).1 (relE fs u (getE m x.gone)).2 (getE (delE m x.gone) x.given)).1[i]? = some f ∧ Small (relE (relE fs u (getE m x.gone)).1 (relE fs u (getE m x.gone)).2 (getE (delE m x.gone) x.given)).2 f := by
  have hl : (relE (relE fs u (getE m x.gone)).1 (relE fs u (getE m x.gone)).2 (getE (delE m x.gone) x.given)).1.length = fs.length := (dm_len (relE_dm _ _ _)).trans h.len2
  have hf := List.getElem?_eq_getElem (l := (relE (relE fs u (getE m x.gone)).1 (relE fs u (getE m x.gone)).2 (getE (delE m x.gone) x.given)).1) (i := i) (by omega)
  refine ⟨_, hf, small_of (relE_nmd h.nmd2 (getE (delE m x.gone) x.given) (fun j hj => ⟨by rw [h.len2]; exact (h.ok.del _).get hj, by have := cnt_pos (srt_del h.ok.1 x.gone) hj; omega⟩)) (fit_of_dm ((relE_dm _ _ _).trans (relE_dm _ _ _)).symm h.fit) (fun i => ?_) hf⟩
  have := cnt_le i (delE m x.gone); have := del_le m x.gone; have := cnt_le i o; have := h.few
  omega
theorem DoOk.room (h : DoOk fs u m o L x) : m.length < maxLen := by have := h.few; unfold maxLen; omega
end

section
variable {w : World} {own : Nat → Option Role} {d bn bk : Nat} {loc : Nat → Nat} {s : DS} {L : Nat → Prop}

def doNowE (s : DS) (x : Wk) : DS := { s with files := (doT s.files s.used s.now x).1, used := (doT s.files s.used s.now x).2.1, now := (doT s.files s.used s.now x).2.2 }
theorem doNow_none (h : At w own d bn bk loc s L) (G V : ByteArray) (hG : G.size ≤ maxLen) (hV : V.size ≤ maxLen) (ho : May s.files s.used L (getE s.now G.data.toList)) :
    Calls Tryz.prog 134 #[.pointer (some ⟨d, 0, none⟩), .agg #[.string G, .string V, .pointer none], .map (some bn)] w (GotDisk w own d bn bk loc L (doNowE s ⟨G.data.toList, V.data.toList, none⟩)) := by
  have hlt : own w.heap.size = none := by
    cases e : own w.heap.size with
    | none => rfl
    | some r => have := h.lt _ r e; omega
  have hA0 := h.alloc (.cells #[.string G, .string V, .pointer none] 158)
  have B0 : Blk (w.alloc (.cells #[.string G, .string V, .pointer none] 158)) w.heap.size [.string G, .string V, .pointer none] 158 := heap_alloc_new w _
  have k0 : Kept w (w.alloc (.cells #[.string G, .string V, .pointer none] 158)) own own := Kept.of_below ((Below.refl _ _).alloc (Nat.le_refl _) _) own
  have q0 := B0.cell 0 _ rfl
  have hm := hA0.nowM
  go_enter Tryz.func134, Tryz.ntmps134
  go_wp2_with (at_lookup; refine wpList_lookup_ptr _ rfl _ _ rfl bn loc s.now rfl hm G rfl hG ?_)
  refine (release_opt hA0 _ ho).mono ?_
  rintro e w1 ⟨rfl, hA1, hK1⟩
  have B1 := B0.same (hK1.block _ B0.lt hlt)
  have p0 := B1.cell 0 _ rfl
  have p2 := B1.cell 2 _ rfl
  have hm1 := hA1.nowM
  clear q0
  go_wp2_with (at_delete; refine wpList_delete_names _ rfl _ _ rfl bn loc s.now rfl hm1 G rfl hG ?_; intro w2 hm2 hg2; have p2 := (B1.same (hg2.block _ B1.lt (fun e => by cases e; rw [h.rn] at hlt; cases hlt))).cell 2 _ rfl)
  go_end0
  exact ⟨rfl, hA1.setNow hg2 hm2, (k0.trans hK1).trans (Kept.of_grown hg2 (by rw [h.rn]; simp))⟩
theorem doNow_some (h : At w own d bn bk loc s L) (G V : ByteArray) (i : Nat) (hG : G.size ≤ maxLen) (hV : V.size ≤ maxLen) (ho : May s.files s.used L (getE s.now G.data.toList))
    (ho2 : May (relE s.files s.used (getE s.now G.data.toList)).1 (relE s.files s.used (getE s.now G.data.toList)).2 L (getE (delE s.now G.data.toList) V.data.toList))
    (hL : L i) (hf : ∃ f, (relE (relE s.files s.used (getE s.now G.data.toList)).1 (relE s.files s.used (getE s.now G.data.toList)).2 (getE (delE s.now G.data.toList) V.data.toList)).1[i]? = some f ∧ Small (relE (relE s.files s.used (getE s.now G.data.toList)).1 (relE s.files s.used (getE s.now G.data.toList)).2 (getE (delE s.now G.data.toList) V.data.toList)).2 f)
    (hn : s.now.length < maxLen) :
    Calls Tryz.prog 134 #[.pointer (some ⟨d, 0, none⟩), .agg #[.string G, .string V, .pointer (some ⟨loc i, 0, none⟩)], .map (some bn)] w (GotDisk w own d bn bk loc L (doNowE s ⟨G.data.toList, V.data.toList, some i⟩)) := by
  obtain ⟨f, hf, hb⟩ := hf
  have hlt : own w.heap.size = none := by
    cases e : own w.heap.size with
    | none => rfl
    | some r => have := h.lt _ r e; omega
  have hno : some w.heap.size ≠ some bn := fun e => by cases e; rw [h.rn] at hlt; cases hlt
  have hA0 := h.alloc (.cells #[.string G, .string V, .pointer (some ⟨loc i, 0, none⟩)] 158)
  have B0 : Blk (w.alloc (.cells #[.string G, .string V, .pointer (some ⟨loc i, 0, none⟩)] 158)) w.heap.size [.string G, .string V, .pointer (some ⟨loc i, 0, none⟩)] 158 := heap_alloc_new w _
  have k0 : Kept w (w.alloc (.cells #[.string G, .string V, .pointer (some ⟨loc i, 0, none⟩)] 158)) own own := Kept.of_below ((Below.refl _ _).alloc (Nat.le_refl _) _) own
  have q0 := B0.cell 0 _ rfl
  have hm := hA0.nowM
  go_enter Tryz.func134, Tryz.ntmps134
  go_wp2_with (at_lookup; refine wpList_lookup_ptr _ rfl _ _ rfl bn loc s.now rfl hm G rfl hG ?_)
  refine (release_opt hA0 _ ho).mono ?_
  rintro e w1 ⟨rfl, hA1, hK1⟩
  have B1 := B0.same (hK1.block _ B0.lt hlt)
  have p0 := B1.cell 0 _ rfl
  have hm1 := hA1.nowM
  clear q0
  go_wp2_with (first | (at_delete; refine wpList_delete_names _ rfl _ _ rfl bn loc s.now rfl hm1 G rfl hG ?_; intro w2 hm2 hg2; have hA2 := hA1.setNow hg2 hm2; have B2 := B1.same (hg2.block _ B1.lt hno); have p1 := B2.cell 1 _ rfl; have p2 := B2.cell 2 _ rfl; clear hm1 p0) | (at_lookup; refine wpList_lookup_ptr _ rfl _ _ rfl bn loc (delE s.now G.data.toList) rfl hm2 V rfl hV ?_))
  refine (release_opt hA2 _ ho2).mono ?_
  rintro e w3 ⟨rfl, hA3, hK3⟩
  have B3 := B2.same (hK3.block _ B2.lt hlt)
  clear p1 p2
  have p2 := B3.cell 2 _ rfl
  go_wp2_with fail
  refine (hold_any hA3 hf hL hb).mono ?_
  rintro e w4 ⟨rfl, hA4, hK4⟩
  have B4 := B3.same (hK4.block _ B3.lt hlt)
  clear p2
  have p1 := B4.cell 1 _ rfl
  have p2 := B4.cell 2 _ rfl
  have hm4 := hA4.nowM
  have hn4 : (delE s.now G.data.toList).length < maxLen := Nat.lt_of_le_of_lt (List.length_filter_le _ _) hn
  go_wp2_with (at_mapUpdate; refine wpList_update_names _ rfl _ _ _ rfl bn loc (delE s.now G.data.toList) rfl hm4 hn4 V rfl hV i rfl ?_; intro w5 hm5 hg5)
  go_end0
  exact ⟨rfl, hA4.setNow hg5 hm5, ((((k0.trans hK1).trans (Kept.of_grown hg2 (by rw [h.rn]; simp))).trans hK3).trans hK4).trans (Kept.of_grown hg5 (by rw [h.rn]; simp))⟩

theorem doNow_any (h : At w own d bn bk loc s L) (G V : ByteArray) (o : Option Nat) (hG : G.size ≤ maxLen) (hV : V.size ≤ maxLen) (hx : DoOk s.files s.used s.now s.kept L ⟨G.data.toList, V.data.toList, o⟩) :
    Calls Tryz.prog 134 #[.pointer (some ⟨d, 0, none⟩), .agg #[.string G, .string V, pv (o.map loc)], .map (some bn)] w (GotDisk w own d bn bk loc L (doNowE s ⟨G.data.toList, V.data.toList, o⟩)) := by
  cases o with
  | none => exact doNow_none h G V hG hV hx.may
  | some i =>
    exact doNow_some h G V i hG hV hx.may hx.may2 (hx.file i rfl).2 (hx.small3 (hx.file i rfl).1) hx.room

def doKeptE (s : DS) (x : Wk) : DS := { s with files := (doT s.files s.used s.kept x).1, used := (doT s.files s.used s.kept x).2.1, kept := (doT s.files s.used s.kept x).2.2 }
theorem doKept_none (h : At w own d bn bk loc s L) (G V : ByteArray) (hG : G.size ≤ maxLen) (hV : V.size ≤ maxLen) (ho : May s.files s.used L (getE s.kept G.data.toList)) :
    Calls Tryz.prog 134 #[.pointer (some ⟨d, 0, none⟩), .agg #[.string G, .string V, .pointer none], .map (some bk)] w (GotDisk w own d bn bk loc L (doKeptE s ⟨G.data.toList, V.data.toList, none⟩)) := by
  have hlt : own w.heap.size = none := by
    cases e : own w.heap.size with
    | none => rfl
    | some r => have := h.lt _ r e; omega
  have hA0 := h.alloc (.cells #[.string G, .string V, .pointer none] 158)
  have B0 : Blk (w.alloc (.cells #[.string G, .string V, .pointer none] 158)) w.heap.size [.string G, .string V, .pointer none] 158 := heap_alloc_new w _
  have k0 : Kept w (w.alloc (.cells #[.string G, .string V, .pointer none] 158)) own own := Kept.of_below ((Below.refl _ _).alloc (Nat.le_refl _) _) own
  have q0 := B0.cell 0 _ rfl
  have hm := hA0.keptM
  go_enter Tryz.func134, Tryz.ntmps134
  go_wp2_with (at_lookup; refine wpList_lookup_ptr _ rfl _ _ rfl bk loc s.kept rfl hm G rfl hG ?_)
  refine (release_opt hA0 _ ho).mono ?_
  rintro e w1 ⟨rfl, hA1, hK1⟩
  have B1 := B0.same (hK1.block _ B0.lt hlt)
  have p0 := B1.cell 0 _ rfl
  have p2 := B1.cell 2 _ rfl
  have hm1 := hA1.keptM
  clear q0
  go_wp2_with (at_delete; refine wpList_delete_names _ rfl _ _ rfl bk loc s.kept rfl hm1 G rfl hG ?_; intro w2 hm2 hg2; have p2 := (B1.same (hg2.block _ B1.lt (fun e => by cases e; rw [h.rk] at hlt; cases hlt))).cell 2 _ rfl)
  go_end0
  exact ⟨rfl, hA1.setKept hg2 hm2, (k0.trans hK1).trans (Kept.of_grown hg2 (by rw [h.rk]; simp))⟩
theorem doKept_some (h : At w own d bn bk loc s L) (G V : ByteArray) (i : Nat) (hG : G.size ≤ maxLen) (hV : V.size ≤ maxLen) (ho : May s.files s.used L (getE s.kept G.data.toList))
    (ho2 : May (relE s.files s.used (getE s.kept G.data.toList)).1 (relE s.files s.used (getE s.kept G.data.toList)).2 L (getE (delE s.kept G.data.toList) V.data.toList))
    (hL : L i) (hf : ∃ f, (relE (relE s.files s.used (getE s.kept G.data.toList)).1 (relE s.files s.used (getE s.kept G.data.toList)).2 (getE (delE s.kept G.data.toList) V.data.toList)).1[i]? = some f ∧ Small (relE (relE s.files s.used (getE s.kept G.data.toList)).1 (relE s.files s.used (getE s.kept G.data.toList)).2 (getE (delE s.kept G.data.toList) V.data.toList)).2 f)
    (hn : s.kept.length < maxLen) :
    Calls Tryz.prog 134 #[.pointer (some ⟨d, 0, none⟩), .agg #[.string G, .string V, .pointer (some ⟨loc i, 0, none⟩)], .map (some bk)] w (GotDisk w own d bn bk loc L (doKeptE s ⟨G.data.toList, V.data.toList, some i⟩)) := by
  obtain ⟨f, hf, hb⟩ := hf
  have hlt : own w.heap.size = none := by
    cases e : own w.heap.size with
    | none => rfl
    | some r => have := h.lt _ r e; omega
  have hno : some w.heap.size ≠ some bk := fun e => by cases e; rw [h.rk] at hlt; cases hlt
  have hA0 := h.alloc (.cells #[.string G, .string V, .pointer (some ⟨loc i, 0, none⟩)] 158)
  have B0 : Blk (w.alloc (.cells #[.string G, .string V, .pointer (some ⟨loc i, 0, none⟩)] 158)) w.heap.size [.string G, .string V, .pointer (some ⟨loc i, 0, none⟩)] 158 := heap_alloc_new w _
  have k0 : Kept w (w.alloc (.cells #[.string G, .string V, .pointer (some ⟨loc i, 0, none⟩)] 158)) own own := Kept.of_below ((Below.refl _ _).alloc (Nat.le_refl _) _) own
  have q0 := B0.cell 0 _ rfl
  have hm := hA0.keptM
  go_enter Tryz.func134, Tryz.ntmps134
  go_wp2_with (at_lookup; refine wpList_lookup_ptr _ rfl _ _ rfl bk loc s.kept rfl hm G rfl hG ?_)
  refine (release_opt hA0 _ ho).mono ?_
  rintro e w1 ⟨rfl, hA1, hK1⟩
  have B1 := B0.same (hK1.block _ B0.lt hlt)
  have p0 := B1.cell 0 _ rfl
  have hm1 := hA1.keptM
  clear q0
  go_wp2_with (first | (at_delete; refine wpList_delete_names _ rfl _ _ rfl bk loc s.kept rfl hm1 G rfl hG ?_; intro w2 hm2 hg2; have hA2 := hA1.setKept hg2 hm2; have B2 := B1.same (hg2.block _ B1.lt hno); have p1 := B2.cell 1 _ rfl; have p2 := B2.cell 2 _ rfl; clear hm1 p0) | (at_lookup; refine wpList_lookup_ptr _ rfl _ _ rfl bk loc (delE s.kept G.data.toList) rfl hm2 V rfl hV ?_))
  refine (release_opt hA2 _ ho2).mono ?_
  rintro e w3 ⟨rfl, hA3, hK3⟩
  have B3 := B2.same (hK3.block _ B2.lt hlt)
  clear p1 p2
  have p2 := B3.cell 2 _ rfl
  go_wp2_with fail
  refine (hold_any hA3 hf hL hb).mono ?_
  rintro e w4 ⟨rfl, hA4, hK4⟩
  have B4 := B3.same (hK4.block _ B3.lt hlt)
  clear p2
  have p1 := B4.cell 1 _ rfl
  have p2 := B4.cell 2 _ rfl
  have hm4 := hA4.keptM
  have hn4 : (delE s.kept G.data.toList).length < maxLen := Nat.lt_of_le_of_lt (List.length_filter_le _ _) hn
  go_wp2_with (at_mapUpdate; refine wpList_update_names _ rfl _ _ _ rfl bk loc (delE s.kept G.data.toList) rfl hm4 hn4 V rfl hV i rfl ?_; intro w5 hm5 hg5)
  go_end0
  exact ⟨rfl, hA4.setKept hg5 hm5, ((((k0.trans hK1).trans (Kept.of_grown hg2 (by rw [h.rk]; simp))).trans hK3).trans hK4).trans (Kept.of_grown hg5 (by rw [h.rk]; simp))⟩

theorem doKept_any (h : At w own d bn bk loc s L) (G V : ByteArray) (o : Option Nat) (hG : G.size ≤ maxLen) (hV : V.size ≤ maxLen) (hx : DoOk s.files s.used s.kept s.now L ⟨G.data.toList, V.data.toList, o⟩) :
    Calls Tryz.prog 134 #[.pointer (some ⟨d, 0, none⟩), .agg #[.string G, .string V, pv (o.map loc)], .map (some bk)] w (GotDisk w own d bn bk loc L (doKeptE s ⟨G.data.toList, V.data.toList, o⟩)) := by
  cases o with
  | none => exact doKept_none h G V hG hV hx.may
  | some i =>
    exact doKept_some h G V i hG hV hx.may hx.may2 (hx.file i rfl).2 (hx.small3 (hx.file i rfl).1) hx.room
end
end Go.Proofs.YtncpkblgiepdpaaGreat
