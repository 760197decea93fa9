/- What the program's disk answers to Append, Sync, Rename and Remove: contracts over the translated program. No condition but that the disk lies in memory as said, and what each statement names. -/
import Derived.Test.YtncpkblgiepdpaaGreatDkF
import Derived.Test.YtncpkblgiepdpaaGreatDkQ
set_option linter.unusedVariables false
namespace Go.Proofs.YtncpkblgiepdpaaGreat
open Go.RowKit Go.Maps

/-- A disk in memory. -/
def DiskIn (w : World) (own : Nat → Option Role) (d : Nat) (s : DS) : Prop := ∃ bn bk loc, At w own d bn bk loc s (Ref s)
/-- What a call of a disk leaves: the answer, the disk, and what is not the disk's. -/
def GotA (w : World) (own : Nat → Option Role) (d : Nat) (v : Value) (s' : DS) (e : Ending) (w' : World) : Prop :=
  e = .returned v ∧ ∃ own', DiskIn w' own' d s' ∧ Kept w w' own own'

theorem ref_now {s : DS} {p : BS × Nat} (h : p ∈ s.now) : Ref s p.2 := .inl ⟨p, h, rfl⟩
theorem ref_get {s : DS} (h : Srt s.now) {n : BS} {i : Nat} (hg : getE s.now n = some i) : Ref s i := ref_now ((getE_some h).1 hg)
theorem step_mem {m : Nm} {x : Wk} {p : BS × Nat} (h : p ∈ stepN m x) : p ∈ m ∨ x.file = some p.2 := by
  unfold stepN at h
  split at h
  · exact .inl (mem_del.1 h).1
  · rename_i i hi
    rcases mem_put.1 h with rfl | ⟨h, _⟩
    · exact .inr hi
    · exact .inl (mem_del.1 h).1
theorem play_mem : ∀ (ws : List Wk) {m : Nm} {p : BS × Nat}, p ∈ ws.foldl stepN m → p ∈ m ∨ ∃ x ∈ ws, x.file = some p.2
  | [], _, _, h => .inl h
  | x :: r, m, p, h => by
    rcases play_mem r h with h1 | ⟨y, hy, e⟩
    · rcases step_mem h1 with h2 | h2
      · exact .inl h2
      · exact .inr ⟨x, by simp, h2⟩
    · exact .inr ⟨y, by simp [hy], e⟩
theorem ref_change {s : DS} {x : Wk} {i : Nat} (h : Ref (changeE s x) i) : Ref s i ∨ x.file = some i := by
  rcases h with ⟨p, hp, rfl⟩ | ⟨p, hp, rfl⟩ | ⟨y, hy, e⟩
  · rw [change_now] at hp
    rcases step_mem hp with h1 | h1
    · exact .inl (ref_now h1)
    · exact .inr h1
  · exact .inl (.inr (.inl ⟨p, hp, rfl⟩))
  · rcases List.mem_append.1 hy with hy | hy
    · exact .inl (.inr (.inr ⟨y, hy, e⟩))
    · rw [List.mem_singleton.1 hy] at e; exact .inr e
theorem ref_born {s : DS} {n : BS} {i : Nat} (h : Ref (bornE s n) i) : Ref s i ∨ i = s.files.length := by
  rcases ref_change h with h1 | h1
  · exact .inl h1
  · exact .inr (by simpa using h1.symm)
theorem ref_keep {s : DS} {k i : Nat} (h : Ref (keepE s k) i) : Ref s i := by
  rcases h with ⟨p, hp, rfl⟩ | ⟨p, hp, rfl⟩ | ⟨y, hy, e⟩
  · exact ref_now hp
  · rw [keep_kept] at hp
    rcases play_mem _ hp with h1 | ⟨y, hy, e⟩
    · exact .inr (.inl ⟨p, h1, rfl⟩)
    · exact .inr (.inr ⟨y, List.mem_of_mem_take hy, e⟩)
  · simp [keepE] at hy

theorem cell_lt {w : World} {p : Addr} {v : Value} (h : w.cell? p = some v) : p.block < w.heap.size := by
  unfold World.cell? at h
  cases e : w.heap[p.block]? with
  | none => simp [e] at h
  | some o => exact (Array.getElem?_eq_some_iff.1 e).1
theorem rd_kept {w w' : World} {own own' : Nat → Option Role} {A : Option Addr} {l : BS} (h : Rd w A l) (hK : Kept w w' own own') (hA : ∀ p, A = some p → own p.block = none) : Rd w' A l := fun hl => by
  obtain ⟨ad, rfl, hc⟩ := h hl
  refine ⟨ad, rfl, fun j hj => ?_⟩
  have h1 := hc j hj
  have hb : (ad.add j).block = ad.block := add_block _ _
  have hlt : (ad.add j).block < w.heap.size := cell_lt h1
  have h2 := hK.block (ad.add j).block hlt (by rw [hb]; exact hA ad rfl)
  rw [← h1]
  unfold World.cell?
  rw [h2]

section
variable {w : World} {own : Nat → Option Role} {d bn bk : Nat} {loc : Nat → Nat} {s : DS} {L : Nat → Prop}

theorem At.setMark (h : At w own d bn bk loc s L) {i : Nat} {f : Fil} (hf : s.files[i]? = some f) (hL : L i) (k : Nat) :
    At (w.setCell ⟨loc i, 1, none⟩ (.int .i64 (k : Int))) own d bn bk loc { s with files := s.files.set i ⟨f.data, k, f.named⟩ } L := by
  obtain ⟨o1, v, g1, g2, g3⟩ := h.file i f hf hL
  refine h.setFile i ⟨f.data, k, f.named⟩ (List.getElem?_eq_some_iff.1 hf).1 (grown_set _ _ _) (.inl o1) ⟨o1, v, g1.set 1 _, g2.kept (grown_set _ _ _) ?_, g3⟩
  cases hv : v.ownBlock with
  | none => exact .inl rfl
  | some c => exact .inr fun e => by cases e; have := g3 _ hv; rw [o1] at this; cases this

theorem sync_any (hA : At w own d bn bk loc s (Ref s)) (hg : Good s) (hd : s.dead = false) (t : ByteArray) (ht : t.size ≤ maxLen) :
    Calls Tryz.prog 65 #[.pointer (some ⟨d, 0, none⟩), .string t] w (GotA w own d (.int .i64 ((dE s ⟨1, t.data.toList, [], []⟩).2 : Nat)) (dE s ⟨1, t.data.toList, [], []⟩).1) := by
  have hq := workOn_any hA hd t ht
  clear hd
  cases hn : getE s.now t.data.toList with
  | none =>
    rw [hn] at hq
    have e1 : dE s ⟨1, t.data.toList, [], []⟩ = (s, 50) := by simp only [dE, hn]
    rw [e1]
    go_enter Tryz.func65, Tryz.ntmps65
    go_wp2_with ((with_reducible refine hq.mono ?_); rintro e w' ⟨rfl, rfl⟩; simp only [Option.map_none, pv])
    go_ret
    exact ⟨rfl, own, ⟨bn, bk, loc, hA⟩, Kept.refl _ _⟩
  | some i =>
    rw [hn] at hq
    have hl := hg.inv.now.get hn
    have hf : s.files[i]? = some s.files[i] := List.getElem?_eq_getElem hl
    have hL : Ref s i := ref_get hg.inv.now.1 hn
    have e1 : dE s ⟨1, t.data.toList, [], []⟩ = ({ s with files := s.files.set i ⟨s.files[i].data, s.files[i].data.length, s.files[i].named⟩ }, 0) := by simp only [dE, hn, syncE, hf]
    rw [e1]
    obtain ⟨o1, v, g1, g2, g3⟩ := hA.file i _ hf hL
    obtain ⟨A, n, c, rfl, hnl, hnc, hcm, hr⟩ := g2.form
    have f1 := g1.cell 1 _ rfl
    have f3 := g1.cell 3 _ rfl
    have y1 := g1.free 1
    go_enter Tryz.func65, Tryz.ntmps65
    go_wp2_with ((with_reducible refine hq.mono ?_); rintro e w' ⟨rfl, rfl⟩; simp only [Option.map_some, pv])
    go_ret
    refine ⟨rfl, own, ⟨bn, bk, loc, ?_⟩, (Kept.refl _ _).set (by rw [o1]; simp) _⟩
    have := hA.setMark hf hL (s.files[i].data.length)
    rw [hnl.out] at this ⊢
    exact this

theorem fit_good (hg : Good s) : Fit s.files := fit_of_good hg
theorem good_len (hg : Good s) {i : Nat} {f : Fil} (hf : s.files[i]? = some f) : f.data.length ≤ 549755813888 := by
  have := data_le hf
  have := hg.few
  unfold bulk at this
  omega
/-- A work on names, of a disk that is well. -/
theorem doOk (hg : Good s) (x : Wk) (hx : ∀ i, x.file = some i → Ref s i ∧ i < s.files.length) : DoOk s.files s.used s.now s.kept (Ref s) x :=
  ⟨hg.inv.nmd, hg.inv.now, fit_of_good hg, by have := hg.few; unfold bulk at this; omega, fun p hp => ref_now hp, fun i hi => ⟨(hx i hi).2, (hx i hi).1⟩⟩
theorem few_works (hg : Good s) : s.works.length ≤ 1099511627776 := by have := hg.few; unfold bulk at this; omega

theorem remove_any (hA : At w own d bn bk loc s (Ref s)) (hg : Good s) (hd : s.dead = false) (t : ByteArray) (ht : t.size ≤ 281474976710656) :
    Calls Tryz.prog 115 #[.pointer (some ⟨d, 0, none⟩), .string t] w (GotA w own d (.int .i64 ((dE s ⟨3, t.data.toList, [], []⟩).2 : Nat)) (dE s ⟨3, t.data.toList, [], []⟩).1) := by
  have hq := workOn_any hA hd t (by unfold maxLen; omega)
  clear hd
  cases hn : getE s.now t.data.toList with
  | none =>
    rw [hn] at hq
    have e1 : dE s ⟨3, t.data.toList, [], []⟩ = (s, 50) := by simp only [dE, hn]
    rw [e1]
    go_enter Tryz.func115, Tryz.ntmps115
    go_wp2_with ((with_reducible refine hq.mono ?_); rintro e w' ⟨rfl, rfl⟩; simp only [Option.map_none, pv])
    go_ret
    exact ⟨rfl, own, ⟨bn, bk, loc, hA⟩, Kept.refl _ _⟩
  | some i =>
    rw [hn] at hq
    have e1 : dE s ⟨3, t.data.toList, [], []⟩ = (changeE s ⟨t.data.toList, [], none⟩, 0) := by simp only [dE, hn]
    rw [e1]
    have hc := change_any hA t ⟨#[]⟩ none ht (by show 0 ≤ _; omega) (doOk hg _ (fun j hj => by cases hj)) (few_works hg)
    simp only [Option.map_none, pv] at hc
    go_enter Tryz.func115, Tryz.ntmps115
    go_wp2_with ((with_reducible refine hq.mono ?_); rintro e w' ⟨rfl, rfl⟩; simp only [Option.map_some, pv])
    refine hc.mono ?_
    rintro e w2 ⟨rfl, own2, hA2, hK2⟩
    go_wp2
    go_ret
    exact ⟨rfl, own2, ⟨bn, bk, loc, hA2.less fun j hj => by
      rcases ref_change hj with h1 | h1
      · exact h1
      · cases h1⟩, hK2⟩

theorem rename_any (hA : At w own d bn bk loc s (Ref s)) (hg : Good s) (hd : s.dead = false) (t u : ByteArray) (ht : t.size ≤ 281474976710656) (hu : isN u = true) :
    Calls Tryz.prog 110 #[.pointer (some ⟨d, 0, none⟩), .string t, .string u] w (GotA w own d (.int .i64 ((dE s ⟨2, t.data.toList, u.data.toList, []⟩).2 : Nat)) (dE s ⟨2, t.data.toList, u.data.toList, []⟩).1) := by
  have hu2 : u.size ≤ 281474976710656 := by
    unfold isN at hu
    simp at hu
    omega
  have hq := find_any hA hd t (by unfold maxLen; omega)
  have hin := isName_any u w (by unfold maxLen; omega)
  rw [hu] at hin
  have hbg := begun_any hA
  clear hd hu
  cases hn : getE s.now t.data.toList with
  | none =>
    rw [hn] at hq
    have e1 : dE s ⟨2, t.data.toList, u.data.toList, []⟩ = (s, 50) := by simp only [dE, hn]
    rw [e1]
    go_enter Tryz.func110, Tryz.ntmps110
    go_wp2_with (first | (go_at_call 98; (with_reducible refine hq.mono ?_); rintro e w' ⟨rfl, rfl⟩; simp only [Option.map_none, pv]) | fail)
    go_ret
    exact ⟨rfl, own, ⟨bn, bk, loc, hA⟩, Kept.refl _ _⟩
  | some i =>
    rw [hn] at hq
    by_cases he : t = u
    · subst he
      have e1 : dE s ⟨2, t.data.toList, t.data.toList, []⟩ = (s, 0) := by simp only [dE, hn, if_true]
      rw [e1]
      go_enter Tryz.func110, Tryz.ntmps110
      go_wp2_with (first | (go_at_call 98; (with_reducible refine hq.mono ?_); rintro e w' ⟨rfl, rfl⟩; simp only [Option.map_some, pv]) | (go_at_call 91; (with_reducible refine hin.mono ?_); rintro e w' ⟨rfl, rfl⟩) | (go_at_call 92; (with_reducible refine hbg.mono ?_); rintro e w' ⟨rfl, rfl⟩))
      go_ret
      exact ⟨rfl, own, ⟨bn, bk, loc, hA⟩, Kept.refl _ _⟩
    · have hne : t.data.toList ≠ u.data.toList := fun e => he (ByteArray.ext (Array.toList_inj.1 e))
      have htu : (!t.toList == u.toList) = true := by rw [ByteArray.toList_eq, ByteArray.toList_eq]; simpa using hne
      have e1 : dE s ⟨2, t.data.toList, u.data.toList, []⟩ = (changeE s ⟨t.data.toList, u.data.toList, some i⟩, 0) := by simp only [dE, hn, if_neg hne]
      rw [e1]
      have hc := change_any hA t u (some i) ht hu2 (doOk hg _ (fun j hj => by cases hj; exact ⟨ref_get hg.inv.now.1 hn, hg.inv.now.get hn⟩)) (few_works hg)
      simp only [Option.map_some, pv] at hc
      go_enter Tryz.func110, Tryz.ntmps110
      go_wp2_with (first | (go_at_call 98; (with_reducible refine hq.mono ?_); rintro e w' ⟨rfl, rfl⟩; simp only [Option.map_some, pv]) | (go_at_call 91; (with_reducible refine hin.mono ?_); rintro e w' ⟨rfl, rfl⟩) | (go_at_call 92; (with_reducible refine hbg.mono ?_); rintro e w' ⟨rfl, rfl⟩))
      refine hc.mono ?_
      rintro e w2 ⟨rfl, own2, hA2, hK2⟩
      go_wp2
      go_ret
      exact ⟨rfl, own2, ⟨bn, bk, loc, hA2.less fun j hj => by
        rcases ref_change hj with h1 | h1
        · exact h1
        · cases h1; exact ref_get hg.inv.now.1 hn⟩, hK2⟩
end
end Go.Proofs.YtncpkblgiepdpaaGreat
