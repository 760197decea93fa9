/- What the program's disk does when the works on names are done to the kept ones: contracts over the translated program. No condition but that the disk lies in memory as said, and what each statement names. -/
import Derived.Test.YtncpkblgiepdpaaGreatDkH
set_option linter.unusedVariables false
namespace Go.Proofs.YtncpkblgiepdpaaGreat
open Go.RowKit Go.Maps

/-- Works' names are short. -/
def Short (s : DS) : Prop := ∀ x ∈ s.works, x.gone.length ≤ 40 ∧ x.given.length ≤ 40

/-- Of the works' blocks the disk's own one alone. -/
def oneW (own : Nat → Option Role) (o : Option Nat) : Nat → Option Role := fun b => match own b with
  | some .works => if o = some b then some .works else none
  | r => r
theorem oneW_sub {own : Nat → Option Role} {o : Option Nat} {b : Nat} {r : Role} (h : oneW own o b = some r) : own b = some r := by
  unfold oneW at h
  split at h
  · rename_i e
    split at h
    · rw [e]; exact h
    · cases h
  · exact h
theorem oneW_up {own : Nat → Option Role} {o : Option Nat} {b : Nat} {r : Role} (h : own b = some r) (hr : r ≠ .works ∨ o = some b) : oneW own o b = some r := by
  unfold oneW
  rw [h]
  cases r <;> simp at hr ⊢
  exact hr
theorem oneW_works {own : Nat → Option Role} {o : Option Nat} {b : Nat} (h : oneW own o b = some .works) : o = some b := by
  unfold oneW at h
  split at h
  · split at h
    · assumption
    · cases h
  · rename_i h1 h2
    exact absurd h h2
theorem Kept.wider {w w' : World} {own : Nat → Option Role} {o : Option Nat} (h : Kept w w' (oneW own o) (oneW own o)) : Kept w w' own (oneW own o) :=
  ⟨h.os, h.tape, h.output, h.size, fun b hb hn => h.block b hb (by
    cases e : oneW own o b with
    | none => rfl
    | some r => rw [oneW_sub e] at hn; cases hn), fun b hb => by
    rcases h.more b hb with h1 | h1
    · cases e : oneW own o b with
      | none => exact absurd e h1
      | some r => exact .inl (by rw [oneW_sub e]; simp)
    · exact .inr h1⟩

section
variable {w : World} {own : Nat → Option Role} {d bn bk : Nat} {loc : Nat → Nat} {s : DS} {L : Nat → Prop}

/-- The state when k works are done. -/
def midE (s : DS) (k : Nat) : DS :=
  { s with files := (playT (s.files, s.used, s.kept) (s.works.take k)).1, used := (playT (s.files, s.used, s.kept) (s.works.take k)).2.1, kept := (playT (s.files, s.used, s.kept) (s.works.take k)).2.2 }
theorem mid_zero (s : DS) : midE s 0 = s := by cases s; rfl
theorem mid_next (s : DS) {k : Nat} (hk : k < s.works.length) : midE s (k + 1) = doKeptE (midE s k) s.works[k] := by
  have e : s.works.take (k + 1) = s.works.take k ++ [s.works[k]] := by rw [List.take_succ_eq_append_getElem hk]
  unfold midE doKeptE
  rw [e, playT_snoc]
theorem mid_keep (s : DS) (k : Nat) : keepE s k = { midE s k with works := [] } := rfl
theorem mid_doOk (hg : Good s) {k : Nat} (hk : k < s.works.length) : DoOk (midE s k).files (midE s k).used (midE s k).kept s.now (Ref s) s.works[k] := by
  have hl : (midE s k).files.length = s.files.length := keep_len s k
  have hm : s.works[k] ∈ s.works := List.getElem_mem hk
  have hkl : ∀ j, (playK s j).length ≤ s.kept.length + j := by
    intro j
    have key : ∀ (ws : List Wk) (m : Nm), (ws.foldl stepN m).length ≤ m.length + ws.length := by
      intro ws
      induction ws with
      | nil => intro m; simp
      | cons x r ih =>
        intro m
        have h1 := ih (stepN m x)
        have h2 := stepN_len m x
        simp only [List.foldl_cons, List.length_cons]
        omega
    have := key (s.works.take j) s.kept
    have h2 : (s.works.take j).length ≤ j := by simp; omega
    unfold playK
    omega
  refine ⟨?_, ?_, ?_, ?_, fun p hp => ?_, fun i hi => ?_⟩
  · have := keep_nmd hg.inv k
    rw [show (midE s k).kept = playK s k from keep_kept s k]
    exact this
  · rw [hl, show (midE s k).kept = playK s k from keep_kept s k]
    exact okM_playK hg.inv k
  · exact fit_of_dm (keep_dm s k).symm (fit_of_good hg)
  · rw [show (midE s k).kept = playK s k from keep_kept s k]
    have := hkl k
    have := hg.few
    unfold bulk at this
    omega
  · rw [show (midE s k).kept = playK s k from keep_kept s k] at hp
    rcases play_mem _ hp with h1 | ⟨y, hy, e⟩
    · exact .inr (.inl ⟨p, h1, rfl⟩)
    · exact .inr (.inr ⟨y, List.mem_of_mem_take hy, e⟩)
  · rw [hl]
    exact ⟨hg.inv.wk _ hm _ hi, .inr (.inr ⟨_, hm, hi⟩)⟩

/-- The cells of the works that are remembered. -/
theorem At.workCells (h : At w own d bn bk loc s L) {g : Nat} (hu : ∀ b, own b = some .works → b = g) (k : Nat) (hk : k < s.works.length) :
    w.cell? ⟨g, k * 3, none⟩ = some (sv s.works[k].gone) ∧ w.cell? ⟨g, k * 3 + 1, none⟩ = some (sv s.works[k].given) ∧ w.cell? ⟨g, k * 3 + 2, none⟩ = some (pv (s.works[k].file.map loc)) := by
  obtain ⟨vw, b1, b2, b3⟩ := h.blk
  have hb : vw.ownBlock = some g := by
    rcases b2.2 with ⟨rfl, hn⟩ | ⟨g', cap, cur, rfl, _⟩
    · omega
    · have := b3 g' rfl
      rw [hu g' this]
      rfl
  have hc := World.ownsRow.cells b2 hb
  have key : ∀ (l : List Wk) (k : Nat) (hk : k < l.length), (wksCells loc l)[k * 3]? = some (sv l[k].gone) ∧ (wksCells loc l)[k * 3 + 1]? = some (sv l[k].given) ∧ (wksCells loc l)[k * 3 + 2]? = some (pv (l[k].file.map loc)) := by
    intro l
    induction l with
    | nil => intro k hk; simp at hk
    | cons x r ih =>
      intro k hk
      have e : wksCells loc (x :: r) = wkCells loc x ++ wksCells loc r := by simp [wksCells]
      cases k with
      | zero => simp [e, wkCells]
      | succ k =>
        have := ih k (by simpa using hk)
        have l3 : (wkCells loc x).length = 3 := rfl
        rw [e]
        refine ⟨?_, ?_, ?_⟩
        · rw [List.getElem?_append_right (by omega), l3, show (k + 1) * 3 - 3 = k * 3 from by omega]; exact this.1
        · rw [List.getElem?_append_right (by omega), l3, show (k + 1) * 3 + 1 - 3 = k * 3 + 1 from by omega]; exact this.2.1
        · rw [List.getElem?_append_right (by omega), l3, show (k + 1) * 3 + 2 - 3 = k * 3 + 2 from by omega]; exact this.2.2
  obtain ⟨h1, h2, h3⟩ := key s.works k hk
  have a : ∀ j, (⟨g, 0, none⟩ : Addr).add j = ⟨g, j, none⟩ := fun j => by
    unfold Addr.add
    split
    · rename_i e; rw [e]
    · simp
  have e1 := hc _ _ h1
  have e2 := hc _ _ h2
  have e3 := hc _ _ h3
  rw [a] at e1 e2 e3
  exact ⟨e1, e2, e3⟩

set_option maxRecDepth 20000 in
theorem keepNames_gen (hA : At w own d bn bk loc s (Ref s)) (hfew : s.works.length ≤ 1099511627776) (hS : Short s) (n : Nat) (hn : n ≤ s.works.length) (hdoA : ∀ k (hk : k < s.works.length), DoOk (midE s k).files (midE s k).used (midE s k).kept s.now (Ref s) s.works[k]) :
    Calls Tryz.prog 118 #[.pointer (some ⟨d, 0, none⟩), .int .i64 (n : Int)] w (fun e w' => e = .returned (.tuple #[]) ∧ ∃ own', At w' own' d bn bk loc (keepE s n) (Ref s) ∧ Kept w w' own own') := by
  obtain ⟨vw, b1, b2, b3⟩ := hA.blk
  have hA1 : At w (oneW own vw.ownBlock) d bn bk loc s (Ref s) := by
    refine ⟨oneW_up hA.rd (.inl (by simp)), oneW_up hA.rn (.inl (by simp)), oneW_up hA.rk (.inl (by simp)), fun b r e => hA.lt b r (oneW_sub e), ⟨vw, b1, b2, fun b e => oneW_up (b3 b e) (.inr e)⟩, hA.nowM, hA.keptM, fun i f hf hL => ?_⟩
    obtain ⟨o1, v, g1, g2, g3⟩ := hA.file i f hf hL
    exact ⟨oneW_up o1 (.inl (by simp)), v, g1, g2, fun c e => oneW_up (g3 c e) (.inl (by simp))⟩
  have c6 := b1.cell 6 vw rfl
  obtain ⟨V, hV, hcase⟩ : ∃ V, V = vw ∧ ((vw = .slice none 0 0 ∧ s.works.length = 0) ∨ ∃ g cap, vw = .slice (some ⟨g, 0, none⟩) s.works.length cap ∧ s.works.length ≤ cap ∧ cap ≤ maxLen) := by
    refine ⟨_, rfl, ?_⟩
    rcases b2.2 with ⟨h1, h2⟩ | ⟨g, cap, cur, h1, _, _, h4, h5, _⟩
    · exact .inl ⟨h1, h2⟩
    · exact .inr ⟨g, cap, h1, h4, h5⟩
  clear hV V
  rcases hcase with ⟨rfl, h0⟩ | ⟨g, cap, rfl, hc1, hc2⟩
  · have hn0 : n = 0 := by omega
    subst hn0
    have z6 := hA.freeD 6
    have e1 : keepE s 0 = { s with works := [] } := rfl
    have hw0 : s.works = [] := List.length_eq_zero_iff.1 h0
    have e2 : keepE s 0 = s := by rw [e1]; cases s; simp at hw0; simp [hw0]
    rw [e2]
    clear h0
    go_enter Tryz.func118, Tryz.ntmps118
    go_wp2
    go_loopw [13] (fun i wr => i = .int .i64 0 ∧ wr = w) (fun _ _ => 0)
    case atStart => exact ⟨rfl, rfl⟩
    case round =>
      obtain ⟨rfl, rfl⟩ := hrel
      go_wp2
      go_end0
      refine ⟨rfl, own, ?_, (Kept.refl _ _).set (by rw [hA.rd]; simp) _⟩
      have h1 := hA.setWorks (l := []) (own' := own) (v := .slice none 0 0) (row := none) ⟨rfl, rfl, rfl, Nat.le_refl _, fun _ _ _ => rfl⟩ (by simp) (fun _ _ e => e) hA.lt (World.ownsRow_nil _ _ _ _) (by simp [Value.ownBlock]) (by simp [Value.ownBlock])
      exact (e1 ▸ e2) ▸ h1
  · have hu : ∀ b, oneW own (some g) b = some .works → b = g := fun b e => by have := oneW_works e; simpa using this.symm
    go_enter Tryz.func118, Tryz.ntmps118
    go_wp2
    go_loopw [13] (fun i wr => ∃ k : Nat, k ≤ n ∧ i = .int .i64 (k : Int) ∧ At wr (oneW own (some g)) d bn bk loc (midE s k) (Ref s) ∧ Kept w wr (oneW own (some g)) (oneW own (some g))) (fun i _ => n - (intOf i).toNat)
    case atStart => exact ⟨0, Nat.zero_le _, rfl, by rw [mid_zero]; exact hA1, Kept.refl _ _⟩
    case round =>
      obtain ⟨k, hk, rfl, hAk, hKk⟩ := hrel
      by_cases hlt : k < n
      · have hk' : k < (midE s k).works.length := Nat.lt_of_lt_of_le hlt hn
        have hk2 : k < s.works.length := Nat.lt_of_lt_of_le hlt hn
        obtain ⟨q0, q1, q2⟩ := hAk.workCells hu k hk'
        obtain ⟨G, hG⟩ : ∃ G : ByteArray, G = ⟨s.works[k].gone.toArray⟩ := ⟨_, rfl⟩
        obtain ⟨V, hV⟩ : ∃ V : ByteArray, V = ⟨s.works[k].given.toArray⟩ := ⟨_, rfl⟩
        obtain ⟨po, hpo⟩ : ∃ po : Option Addr, pv (s.works[k].file.map loc) = .pointer po := ⟨_, rfl⟩
        replace q0 : wr.cell? ⟨g, k * 3, none⟩ = some (.string G) := by rw [hG]; exact q0
        replace q1 : wr.cell? ⟨g, k * 3 + 1, none⟩ = some (.string V) := by rw [hV]; exact q1
        replace q2 : wr.cell? ⟨g, k * 3 + 2, none⟩ = some (.pointer po) := by rw [← hpo]; exact q2
        have HG := Lib.hid hG
        have HV := Lib.hid hV
        have HP := Lib.hid hpo
        clear hG hV hpo
        have hxe : (⟨G.data.toList, V.data.toList, s.works[k].file⟩ : Wk) = s.works[k] := by rw [HG.out, HV.out]
        obtain ⟨s1, s2⟩ := hS _ (List.getElem_mem hk2)
        have hG2 : G.size ≤ maxLen := by rw [HG.out]; show s.works[k].gone.length ≤ _; unfold maxLen; omega
        have hV2 : V.size ≤ maxLen := by rw [HV.out]; show s.works[k].given.length ≤ _; unfold maxLen; omega
        have hdo := hdoA k hk2
        rw [← hxe] at hdo
        obtain ⟨W, hW, A0, B0, K0⟩ : ∃ W, W = wr.alloc (.cells #[.string G, .string V, .pointer po] 158) ∧ At W.drew (oneW own (some g)) d bn bk loc (midE s k) (Ref s) ∧ Blk W.drew wr.heap.size [.string G, .string V, .pointer po] 158 ∧ Kept wr W.drew (oneW own (some g)) (oneW own (some g)) :=
          ⟨_, rfl, (hAk.alloc _).drew, heap_alloc_new wr _, (Kept.of_below ((Below.refl _ _).alloc (Nat.le_refl _) _) _).drew⟩
        have hc := doKept_any A0 G V s.works[k].file hG2 hV2 hdo
        rw [HP.out] at hc
        have hen : doKeptE (midE s k) ⟨G.data.toList, V.data.toList, s.works[k].file⟩ = midE s (k + 1) := by rw [hxe]; exact (mid_next s hk2).symm
        rw [hen] at hc
        clear hdo hen hxe
        go_wp2
        rw [← hW]
        clear hW q0 q1 q2
        have q0 : W.cell? ⟨wr.heap.size, 0, none⟩ = some (.string G) := B0.cell 0 _ rfl
        have q1 : W.cell? ⟨wr.heap.size, 1, none⟩ = some (.string V) := B0.cell 1 _ rfl
        have q2 : W.cell? ⟨wr.heap.size, 2, none⟩ = some (.pointer po) := B0.cell 2 _ rfl
        have c5 : W.cell? ⟨d, 5, none⟩ = some (.map (some bk)) := A0.cellD 5 _ fun _ => rfl
        go_still_tail 6, (by kernel_rfl)
        go_wp2_with fail
        refine hc.mono ?_
        rintro e w2 ⟨rfl, A3, K3⟩
        clear q0 q1 q2 c5
        go_wp2
        refine ⟨⟨k + 1, by omega, by go_num, A3, (hKk.trans K0).trans K3⟩, by simp [intOf]; omega⟩
      · obtain ⟨vw', b1', _, _⟩ := hAk.blk
        have c6' := b1'.cell 6 vw' rfl
        have z6' := b1'.free 6
        go_wp2
        go_end0
        have hkn : k = n := by omega
        subst hkn
        refine ⟨rfl, oneW own (some g), ?_, (hKk.set (by rw [hAk.rd]; simp) _).wider⟩
        exact hAk.setWorks (l := []) (v := .slice none 0 0) (row := none) ⟨rfl, rfl, rfl, Nat.le_refl _, fun _ _ _ => rfl⟩ (by simp) (fun _ _ e => e) hAk.lt (World.ownsRow_nil _ _ _ _) (by simp [Value.ownBlock]) (by simp [Value.ownBlock])

theorem keepNames_any (hA : At w own d bn bk loc s (Ref s)) (hg : Good s) (hS : Short s) (n : Nat) (hn : n ≤ s.works.length) :
    Calls Tryz.prog 118 #[.pointer (some ⟨d, 0, none⟩), .int .i64 (n : Int)] w (fun e w' => e = .returned (.tuple #[]) ∧ ∃ own', At w' own' d bn bk loc (keepE s n) (Ref s) ∧ Kept w w' own own') :=
  keepNames_gen hA (few_works hg) hS n hn fun _ hk => mid_doOk hg hk

theorem keepNames_in (hA : At w own d bn bk loc s (Ref s)) (hg : Good s) (hS : Short s) (hd : s.dead = false) :
    Calls Tryz.prog 66 #[.pointer (some ⟨d, 0, none⟩)] w (GotA w own d (.int .i64 ((dE s ⟨4, [], [], []⟩).2 : Nat)) (dE s ⟨4, [], [], []⟩).1) := by
  have hq := refusal_any hA hd
  have hbg := begun_any hA
  have hk := keepNames_any hA hg hS s.works.length (Nat.le_refl _)
  have e1 : dE s ⟨4, [], [], []⟩ = (keepE s s.works.length, 0) := rfl
  rw [e1]
  clear hd
  obtain ⟨vw, b1, b2, b3⟩ := hA.blk
  have c6 := b1.cell 6 vw rfl
  obtain ⟨A, m, c, rfl, hml⟩ : ∃ A m c, vw = .slice A m c ∧ m = s.works.length := by
    rcases b2.2 with ⟨h1, h2⟩ | ⟨g, cap, cur, h1, _⟩
    · exact ⟨_, _, _, h1, by omega⟩
    · exact ⟨_, _, _, h1, rfl⟩
  rw [← hml] at hk ⊢
  clear hml b2 b3
  go_enter Tryz.func66, Tryz.ntmps66
  go_wp2_with (first | (go_at_call 67; (with_reducible refine hq.mono ?_); rintro e w' ⟨rfl, rfl⟩) | (go_at_call 92; (with_reducible refine hbg.mono ?_); rintro e w' ⟨rfl, rfl⟩) | fail)
  refine hk.mono ?_
  rintro e w2 ⟨rfl, own2, hA2, hK2⟩
  go_wp2
  go_ret
  exact ⟨rfl, own2, ⟨bn, bk, loc, hA2.less fun j hj => ref_keep hj⟩, hK2⟩
end
end Go.Proofs.YtncpkblgiepdpaaGreat
