/- What the program's disk does when a file has a name more, or a name less, and when a work is done to names: contracts over the translated program. No condition but that the disk lies in memory as said, and what each statement names. -/
import Derived.Test.YtncpkblgiepdpaaGreatDkB
import Derived.IntWalk
import Derived.Maps.OwnSet
set_option linter.unusedVariables false
namespace Go.Proofs.YtncpkblgiepdpaaGreat
open Go.RowKit Go.Maps

theorem wrap_in (z : Int) (h1 : -9223372036854775808 ≤ z) (h2 : z ≤ 9223372036854775807) : IntKind.i64.wrap z = z := IntWalk.i64_in _ (by omega)

section
variable {w : World} {own : Nat → Option Role} {d bn bk : Nat} {loc : Nat → Nat} {s : DS} {L : Nat → Prop}

/-- What is asked of a file's numbers, so that none grows too large. -/
structure Small (u : Nat) (f : Fil) : Prop where
  used : u ≤ 1099511627776
  named : f.named ≤ 1099511627776
  data : f.data.length ≤ 1099511627776

def GotDisk (w : World) (own : Nat → Option Role) (d bn bk : Nat) (loc : Nat → Nat) (L : Nat → Prop) (s' : DS) (e : Ending) (w' : World) : Prop :=
  e = .returned (.tuple #[]) ∧ At w' own d bn bk loc s' L ∧ Kept w w' own own

theorem At.setUsed (h : At w own d bn bk loc s L) (u : Nat) : At (w.setCell ⟨d, 2, none⟩ (.int .i64 (u : Int))) own d bn bk loc { s with used := u } L :=
  h.setDisk 2 _ _ (fun vw => rfl) rfl rfl rfl rfl
theorem At.setNamed (h : At w own d bn bk loc s L) {i : Nat} {f : Fil} (hf : s.files[i]? = some f) (hL : L i) (k : Nat) :
    At (w.setCell ⟨loc i, 2, none⟩ (.int .i64 (k : Int))) own d bn bk loc { s with files := s.files.set i ⟨f.data, f.mark, k⟩ } L := by
  obtain ⟨o1, v, g1, g2, g3⟩ := h.file i f hf hL
  refine h.setFile i ⟨f.data, f.mark, k⟩ (List.getElem?_eq_some_iff.1 hf).1 (grown_set _ _ _) (.inl o1) ⟨o1, v, g1.set 2 _, g2.kept (grown_set _ _ _) ?_, g3⟩
  cases hv : v.ownBlock with
  | none => exact .inl rfl
  | some c => exact .inr fun e => by cases e; have := g3 _ hv; rw [o1] at this; cases this

theorem holE_eq {fs : List Fil} {u i : Nat} {f : Fil} (hf : fs[i]? = some f) : holE fs u i = (fs.set i ⟨f.data, f.mark, f.named + 1⟩, if f.named = 0 then u + f.data.length else u) := by simp only [holE, hf]
theorem relE_eq {fs : List Fil} {u i : Nat} {f : Fil} (hf : fs[i]? = some f) : relE fs u (some i) = (fs.set i ⟨f.data, f.mark, f.named - 1⟩, if f.named = 1 then u - f.data.length else u) := by simp only [relE, hf]

theorem hold_any (h : At w own d bn bk loc s L) {i : Nat} {f : Fil} (hf : s.files[i]? = some f) (hL : L i) (hb : Small s.used f) :
    Calls Tryz.prog 154 #[.pointer (some ⟨d, 0, none⟩), pv (some (loc i))] w (GotDisk w own d bn bk loc L { s with files := (holE s.files s.used i).1, used := (holE s.files s.used i).2 }) := by
  have c2 := h.cellD 2 _ fun _ => rfl
  have z2 := h.freeD 2
  obtain ⟨o1, v, g1, g2, g3⟩ := h.file i f hf hL
  obtain ⟨A, n, c, rfl, hn, hnc, hcm, hr⟩ := g2.form
  have f2 := g1.cell 2 _ rfl
  have f3 := g1.cell 3 _ rfl
  have y2 := g1.free 2
  obtain ⟨b1, b2, b3⟩ := hb
  have hn' : n ≤ 1099511627776 := by have := hn.out; omega
  have hne : d ≠ loc i := fun e => by have := h.rd; rw [e, o1] at this; cases this
  have hne' : loc i ≠ d := fun e => hne e.symm
  have b2' : (f.named : Int) ≤ 1099511627776 := by omega
  by_cases h0 : f.named = 0
  · have t0 : ((f.named : Int) == 0) = true := by simp [h0]
    have H0 := Lib.hid h0
    clear h0
    have w1 : IntKind.i64.wrap ((s.used : Int) + (n : Int)) = (s.used : Int) + (n : Int) := wrap_in _ (by omega) (by omega)
    unfold pv
    go_enter Tryz.func154, Tryz.ntmps154
    go_wp2
    go_region
    all_goals
      go_wp2
      go_end0
      have hu : ((s.used : Int) + (n : Int)) = ((s.used + f.data.length : Nat) : Int) := by have := hn.out; omega
      have h1 := H0.out
      rw [holE_eq hf, if_pos h1]
      have hk : ((f.named : Int) + 1) = ((f.named + 1 : Nat) : Int) := by omega
      rw [hu, hk]
      exact ⟨rfl, ((h.setUsed (s.used + f.data.length)).setNamed hf hL (f.named + 1)).drew, (((Kept.refl _ _).set (by rw [h.rd]; simp) _).set (by rw [o1]; simp) _).drew⟩
  · have t0 : ((f.named : Int) == 0) = false := by simp [h0]
    have H0 := Lib.hid h0
    clear h0
    unfold pv
    go_enter Tryz.func154, Tryz.ntmps154
    go_wp2
    go_end0
    have h1 := H0.out
    rw [holE_eq hf, if_neg h1]
    have hk : ((f.named : Int) + 1) = ((f.named + 1 : Nat) : Int) := by omega
    rw [hk]
    exact ⟨rfl, h.setNamed hf hL _, (Kept.refl _ _).set (by rw [o1]; simp) _⟩

theorem release_none (h : At w own d bn bk loc s L) : Calls Tryz.prog 153 #[.pointer (some ⟨d, 0, none⟩), .pointer none] w (GotV w (.tuple #[])) := by
  go_enter Tryz.func153, Tryz.ntmps153
  go_wp2
  go_end0
  exact ⟨rfl, rfl⟩
theorem release_any (h : At w own d bn bk loc s L) {i : Nat} {f : Fil} (hf : s.files[i]? = some f) (hL : L i) (hb : Small s.used f) (h1 : 1 ≤ f.named) (hu : f.named = 1 → f.data.length ≤ s.used) :
    Calls Tryz.prog 153 #[.pointer (some ⟨d, 0, none⟩), .pointer (some ⟨loc i, 0, none⟩)] w (GotDisk w own d bn bk loc L { s with files := (relE s.files s.used (some i)).1, used := (relE s.files s.used (some i)).2 }) := by
  have c2 := h.cellD 2 _ fun _ => rfl
  have z2 := h.freeD 2
  obtain ⟨o1, v, g1, g2, g3⟩ := h.file i f hf hL
  obtain ⟨A, n, c, rfl, hn, hnc, hcm, hr⟩ := g2.form
  have f2 := g1.cell 2 _ rfl
  have f3 := g1.cell 3 _ rfl
  have y2 := g1.free 2
  obtain ⟨b1, b2, b3⟩ := hb
  have hn' : n ≤ 1099511627776 := by have := hn.out; omega
  have hne : d ≠ loc i := fun e => by have := h.rd; rw [e, o1] at this; cases this
  have hne' : loc i ≠ d := fun e => hne e.symm
  have b2' : (f.named : Int) ≤ 1099511627776 := by omega
  have b1' : (1 : Int) ≤ (f.named : Int) := by omega
  have hk : ((f.named : Int) - 1) = ((f.named - 1 : Nat) : Int) := by omega
  by_cases h0 : f.named = 1
  · have t0 : ((f.named : Int) - 1 == 0) = true := by simp [h0]
    have H0 := Lib.hid h0
    have HU := Lib.hid (hu h0)
    have HK := Lib.hid hk
    clear h0 hu hk
    have w1 : IntKind.i64.wrap ((s.used : Int) - (n : Int)) = (s.used : Int) - (n : Int) := wrap_in _ (by omega) (by omega)
    go_enter Tryz.func153, Tryz.ntmps153
    go_wp2
    go_region
    all_goals
      go_wp2
      go_end0
      have hu : ((s.used : Int) - (n : Int)) = ((s.used - f.data.length : Nat) : Int) := by have := hn.out; have := HU.out; omega
      have h1 := H0.out
      rw [relE_eq hf, if_pos h1]
      rw [hu, HK.out]
      exact ⟨rfl, ((h.setNamed hf hL (f.named - 1)).setUsed (s.used - f.data.length)).drew, (((Kept.refl _ _).set (by rw [o1]; simp) _).set (by rw [h.rd]; simp) _).drew⟩
  · have t0 : ((f.named : Int) - 1 == 0) = false := by simp; omega
    have H0 := Lib.hid h0
    have HK := Lib.hid hk
    clear h0 hk hu
    go_enter Tryz.func153, Tryz.ntmps153
    go_wp2
    go_end0
    have h1 := H0.out
    rw [relE_eq hf, if_neg h1]
    rw [HK.out]
    exact ⟨rfl, h.setNamed hf hL _, (Kept.refl _ _).set (by rw [o1]; simp) _⟩

/-- What is asked of a file that is to have a name less. -/
def May (fs : List Fil) (u : Nat) (L : Nat → Prop) (o : Option Nat) : Prop := ∀ i, o = some i → L i ∧ ∃ f, fs[i]? = some f ∧ Small u f ∧ 1 ≤ f.named ∧ (f.named = 1 → f.data.length ≤ u)
theorem release_opt (h : At w own d bn bk loc s L) (o : Option Nat) (ho : May s.files s.used L o) :
    Calls Tryz.prog 153 #[.pointer (some ⟨d, 0, none⟩), pv (o.map loc)] w (GotDisk w own d bn bk loc L { s with files := (relE s.files s.used o).1, used := (relE s.files s.used o).2 }) := by
  cases o with
  | none =>
    refine (release_none h).mono ?_
    rintro e w' ⟨rfl, rfl⟩
    exact ⟨rfl, h, Kept.refl _ _⟩
  | some i =>
    obtain ⟨hL, f, hf, hb, h1, hu⟩ := ho i rfl
    exact release_any h hf hL hb h1 hu

theorem turned_grown {w w' : World} {b : Nat} (h : w.mapTurned w' b) : w.grownBy w' (some b) := by
  obtain ⟨es, clock, es', clock', hb, rfl⟩ := h
  exact ⟨rfl, rfl, rfl, by simp [ChangeMaps.setBlock], fun k _ hk => ChangeMaps.heap_setBlock_other hb _ (fun e => hk (by rw [e]))⟩

theorem wpList_delete_names {ops : Array Oper} {rest : List Oper} {o : Oper} {a : Act} {Q : Exit → Act → World → Prop} (w : World) (hg : o.guard = none) (m x : Operand)
    (hop : o.op = Op.call { callee := Callee.builtin Builtin.delete, args := #[m, x], argTypes := #[75, 9] })
    (b : Nat) (loc : Nat → Nat) (M : Nm) (hm : a.eval m = .map (some b)) (hown : MapAt w b loc M) (t : ByteArray) (hx : a.eval x = .string t) (hs : t.size ≤ maxLen)
    (hK : ∀ w', MapAt w' b loc (delE M t.data.toList) → w.grownBy w' (some b) → wpList Tryz.prog ops Q rest (a.put o.dst (.tuple #[])) w') : wpList Tryz.prog ops Q (o :: rest) a w := by
  refine wpList_delete_own w hg m x _ _ hop 132 keyedS Tryz.underlying75 RP b _ _ hm hown (.string t) (.string t.data.toList) hx (WideMaps.keyOf_string_mk Tryz.underlying9 hs) fun w' h1 h2 => ?_
  rw [DM_del] at h1
  exact hK w' (mapAt_of h1) (turned_grown h2)
theorem wpList_update_names {ops : Array Oper} {rest : List Oper} {o : Oper} {a : Act} {Q : Exit → Act → World → Prop} (w : World) (hg : o.guard = none) (m x v : Operand)
    (hop : o.op = Op.mapUpdate 75 m x v)
    (b : Nat) (loc : Nat → Nat) (M : Nm) (hm : a.eval m = .map (some b)) (hown : MapAt w b loc M) (hn : M.length < maxLen) (t : ByteArray) (hx : a.eval x = .string t) (hs : t.size ≤ maxLen) (i : Nat) (hv : a.eval v = .pointer (some ⟨loc i, 0, none⟩))
    (hK : ∀ w', MapAt w' b loc (putE M t.data.toList i) → w.grownBy w' (some b) → wpList Tryz.prog ops Q rest (a.put o.dst undef) w') : wpList Tryz.prog ops Q (o :: rest) a w := by
  refine wpList_mapUpdate_own w hg m x v _ hop 9 132 keyedS Tryz.underlying75 RP b _ _ hm hown hn (.string t) (.pointer (some ⟨loc i, 0, none⟩)) (.string t.data.toList) hx hv (WideMaps.keyOf_string_mk Tryz.underlying9 hs) (.lit (.int .i64 (loc i))) [] rfl fun w' h1 h2 => ?_
  rw [DM_put] at h1
  exact hK w' (mapAt_of h1) h2

theorem At.setNow (h : At w own d bn bk loc s L) {w' : World} {M : Nm} (hg : w.grownBy w' (some bn)) (hm : MapAt w' bn loc M) : At w' own d bn bk loc { s with now := M } L := by
  obtain ⟨vw, b1, b2, b3⟩ := h.blk
  have no : ∀ b r, own b = some r → r ≠ .now → some b ≠ some bn := fun b r e n e' => by cases e'; rw [h.rn] at e; cases e; exact n rfl
  refine ⟨h.rd, h.rn, h.rk, fun b r e => Nat.lt_of_lt_of_le (h.lt b r e) hg.size, ⟨vw, b1.same (hg.block d b1.lt (no _ _ h.rd (by simp))), World.ownsRow.kept b2 hg (by
    cases hv : vw.ownBlock with
    | none => exact .inl rfl
    | some c => exact .inr (no _ _ (b3 c hv) (by simp))), b3⟩, hm, mapAt_grown h.keptM hg (no _ _ h.rk (by simp)), fun i f hf hL => fileAt_grown (h.file i f hf hL) hg fun c e => ?_⟩
  cases e
  rw [h.rn]; simp
theorem At.setKept (h : At w own d bn bk loc s L) {w' : World} {M : Nm} (hg : w.grownBy w' (some bk)) (hm : MapAt w' bk loc M) : At w' own d bn bk loc { s with kept := M } L := by
  obtain ⟨vw, b1, b2, b3⟩ := h.blk
  have no : ∀ b r, own b = some r → r ≠ .kept → some b ≠ some bk := fun b r e n e' => by cases e'; rw [h.rk] at e; cases e; exact n rfl
  refine ⟨h.rd, h.rn, h.rk, fun b r e => Nat.lt_of_lt_of_le (h.lt b r e) hg.size, ⟨vw, b1.same (hg.block d b1.lt (no _ _ h.rd (by simp))), World.ownsRow.kept b2 hg (by
    cases hv : vw.ownBlock with
    | none => exact .inl rfl
    | some c => exact .inr (no _ _ (b3 c hv) (by simp))), b3⟩, mapAt_grown h.nowM hg (no _ _ h.rn (by simp)), hm, fun i f hf hL => fileAt_grown (h.file i f hf hL) hg fun c e => ?_⟩
  cases e
  rw [h.rk]; simp

/-- The bytes of all files together are not too many. -/
def Fit (fs : List Fil) : Prop := (fs.map fun f => f.data.length).sum ≤ 1099511627776
theorem fit_of_dm {fs gs : List Fil} (h : dmE fs = dmE gs) (hf : Fit fs) : Fit gs := by
  have : (fs.map fun f => f.data.length) = (gs.map fun f => f.data.length) := by
    have h1 : (fs.map fun f => f.data.length) = (dmE fs).map fun p => p.1.length := by simp [dmE]
    have h2 : (gs.map fun f => f.data.length) = (dmE gs).map fun p => p.1.length := by simp [dmE]
    rw [h1, h2, h]
  unfold Fit at hf ⊢
  rw [← this]; exact hf
theorem useE_le (fs : List Fil) : useE fs ≤ (fs.map fun f => f.data.length).sum := by
  unfold useE
  induction fs with
  | nil => simp
  | cons f r ih =>
    simp only [List.map_cons, List.sum_cons]
    have : f.weight ≤ f.data.length := by unfold Fil.weight; split <;> omega
    omega
theorem data_le {fs : List Fil} {i : Nat} {f : Fil} (h : fs[i]? = some f) : f.data.length ≤ (fs.map fun f => f.data.length).sum := by
  induction fs generalizing i with
  | nil => simp at h
  | cons x r ih =>
    simp only [List.map_cons, List.sum_cons]
    cases i with
    | zero => simp at h; subst h; omega
    | succ i => simp at h; have := ih h; omega
theorem small_of {fs : List Fil} {u : Nat} {c : Nat → Nat} (h : Nmd fs u c) (hF : Fit fs) (hc : ∀ i, c i ≤ 1099511627776) {i : Nat} {f : Fil} (hf : fs[i]? = some f) : Small u f := by
  have h1 := h.1 i f hf
  have h2 := h.2
  have h3 := useE_le fs
  have h4 := data_le hf
  have h5 := hc i
  unfold Fit at hF
  exact ⟨by omega, by omega, by omega⟩
theorem may_of {fs : List Fil} {u : Nat} {c : Nat → Nat} (h : Nmd fs u c) (hF : Fit fs) (hc : ∀ i, c i ≤ 1099511627776) {L : Nat → Prop} {o : Option Nat} (ho : ∀ i, o = some i → L i ∧ i < fs.length ∧ 0 < c i) : May fs u L o := fun i hi => by
  obtain ⟨h1, h2, h3⟩ := ho i hi
  have hf : fs[i]? = some fs[i] := List.getElem?_eq_getElem h2
  have hn := h.1 i _ hf
  refine ⟨h1, _, hf, small_of h hF hc hf, by omega, fun e => ?_⟩
  have := useE_ge hf
  have := h.2
  simp only [Fil.weight] at *
  rw [if_pos (by omega)] at *
  omega
end
end Go.Proofs.YtncpkblgiepdpaaGreat
