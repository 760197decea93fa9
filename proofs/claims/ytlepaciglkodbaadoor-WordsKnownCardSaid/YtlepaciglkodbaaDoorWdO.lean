/- Words of the grammar language: bytes that are cut, word by word, and what stands between and behind. No program in it. -/
import Derived.Test.YtlepaciglkodbaaDoorWdN
set_option linter.unusedVariables false
set_option linter.unusedSimpArgs false
namespace Go.Proofs.YtlepaciglkodbaaDoor

/-- From a place on these bytes are these words, the last one at the end. -/
inductive Cuts : Nat → List UInt8 → List Tk → Prop
  | nil (p : Nat) : Cuts p [] []
  | word {p : Nat} {g u v : List UInt8} {k : Nat} {l : List Tk} (hg : gapST false g = some false) (hu : WordOK u k) (hv : Cuts (p + g.length + u.length) v l) (hn : Sep k v) :
      Cuts p (g ++ (u ++ v)) (⟨k, p + g.length, p + g.length + u.length⟩ :: l)
/-- Behind the last word comes no letter, if it is of letters. -/
def Beh (l : List Tk) (x : List UInt8) : Prop := ∀ t, l.getLast? = some t → Sep t.kind x

theorem NotLt.nil : NotLt [] := fun c t e => by cases e
theorem NotLt.app {v x : List UInt8} (h : NotLt v) (hx : v = [] → NotLt x) : NotLt (v ++ x) := by
  cases v with
  | nil => simpa using hx rfl
  | cons c t => exact fun c' t' e => by injection e with e1 _; exact h c t rfl |> fun h => by rw [← e1]; exact h
theorem NotLt.pre {v x : List UInt8} (h : NotLt (v ++ x)) : NotLt v := by
  cases v with
  | nil => exact NotLt.nil
  | cons c t => exact fun c' t' e => by injection e with e1 _; rw [← e1]; exact h c (t ++ x) rfl

theorem gap_run : ∀ (g y : List UInt8) (p : Nat) (r r' : Bool), gapST r g = some r' → cutS (g ++ y) p 0 r = cutS y (p + g.length) 0 r'
  | [], y, p, r, r', h => by
    obtain rfl := Option.some.inj h
    rfl
  | c :: t, y, p, true, r', h => by
    rw [gapST] at h
    rw [List.cons_append, cutS, gap_run t y _ _ _ h, List.length_cons, Nat.add_assoc, Nat.add_comm 1]
  | c :: t, y, p, false, r', h => by
    rw [gapST] at h
    rw [List.cons_append, cutS]
    split at h
    · rename_i h1
      rw [if_pos h1, gap_run t y _ _ _ h, List.length_cons, Nat.add_assoc, Nat.add_comm 1]
    · rename_i h1
      split at h
      · rename_i h2
        rw [if_neg h1, if_pos h2, gap_run t y _ _ _ h, List.length_cons, Nat.add_assoc, Nat.add_comm 1]
      · cases h
/-- Of bytes, what stands ahead of the first word. -/
theorem gap_take : ∀ (l : List UInt8) (r : Bool), ∃ r', gapST r (l.take (gapN r l)) = some r' ∧ (gapN r l < l.length → r' = false)
  | [], r => ⟨r, by cases r <;> rfl, fun h => by simp at h⟩
  | c :: t, true => by
    obtain ⟨r', h1, h2⟩ := gap_take t (c != 10)
    refine ⟨r', ?_, fun h => h2 (by rw [gapN] at h; simpa using h)⟩
    rw [gapN, List.take_succ_cons, gapST, h1]
  | c :: t, false => by
    by_cases h3 : spB c.toNat = true
    · obtain ⟨r', h1, h2⟩ := gap_take t false
      refine ⟨r', ?_, fun h => h2 (by rw [gapN, if_pos h3] at h; simpa using h)⟩
      rw [gapN, if_pos h3, List.take_succ_cons, gapST, if_pos h3, h1]
    · by_cases h4 : c = 35
      · obtain ⟨r', h1, h2⟩ := gap_take t true
        refine ⟨r', ?_, fun h => h2 (by rw [gapN, if_neg h3, if_pos h4] at h; simpa using h)⟩
        rw [gapN, if_neg h3, if_pos h4, List.take_succ_cons, gapST, if_neg h3, if_pos h4, h1]
      · refine ⟨false, ?_, fun _ => rfl⟩
        rw [gapN, if_neg h3, if_neg h4]
        rfl
theorem gap_first {r : Bool} {g : List UInt8} {r' : Bool} (h : gapST r g = some r') (hr : r = false) : NotLt g := by
  subst hr
  intro c t e
  subst e
  rw [gapST] at h
  have hall : ∀ n : Fin 256, spB n.val = true ∨ n.val = 35 → ltB n.val = false := by decide +kernel
  have hlt : c.toNat < 256 := c.toNat_lt
  split at h
  · rename_i h1
    exact hall ⟨c.toNat, hlt⟩ (Or.inl h1)
  · split at h
    · rename_i h1 h2
      subst h2
      rfl
    · cases h

theorem Sep.nil (k : Nat) : Sep k [] := fun _ => NotLt.nil
theorem Sep.app {k : Nat} {v x : List UInt8} (h : Sep k v) (hx : v = [] → Sep k x) : Sep k (v ++ x) := fun hk => (h hk).app (fun e => hx e hk)
theorem Sep.pre {k : Nat} {v x : List UInt8} (h : Sep k (v ++ x)) : Sep k v := fun hk => (h hk).pre
theorem NotLt.beh {x : List UInt8} (h : NotLt x) (l : List Tk) : Beh l x := fun _ _ _ => h
theorem beh_nil (x : List UInt8) : Beh [] x := fun t e => by cases e
theorem beh_one {k a b : Nat} {x : List UInt8} : Beh [⟨k, a, b⟩] x ↔ Sep k x := ⟨fun h => h _ rfl, fun h t e => by cases Option.some.inj e; exact h⟩
theorem beh_cons {t u : Tk} {l : List Tk} {x : List UInt8} : Beh (t :: u :: l) x ↔ Beh (u :: l) x := by unfold Beh; rw [List.getLast?_cons_cons]
theorem Cuts.empty {p : Nat} {v : List UInt8} (h : Cuts p v []) : v = [] := by cases h; rfl
theorem Cuts.none {p : Nat} {l : List Tk} (h : Cuts p [] l) : l = [] := by
  generalize hv : ([] : List UInt8) = v at h
  cases h with
  | nil => rfl
  | word hg hu hw hn =>
    have := congrArg List.length hv
    have h1 := hu.1
    simp at this
    omega

theorem WordOK.first {u : List UInt8} {k : Nat} (h : WordOK u k) {x : List UInt8} (hx : Sep k x) (p : Nat) : cutS (u ++ x) p 0 false = (cutS x (p + u.length) 0 false).app [⟨k, p, p + u.length⟩] := by
  obtain ⟨h1, h2⟩ := h.2 x hx
  rw [cut_word p h1 h2, List.drop_left]
/-- Whatever stands behind them (no letter), they are cut so. -/
theorem Cuts.run {p : Nat} {v : List UInt8} {l : List Tk} (h : Cuts p v l) : ∀ x, Beh l x → cutS (v ++ x) p 0 false = (cutS x (p + v.length) 0 false).app l := by
  induction h with
  | nil p => intro x _; simp [CutR.app_nil]
  | @word p g u v k l hg hu hv hn ih =>
    intro x hx
    have hvx : Sep k (v ++ x) := hn.app (fun e => by
      subst e
      have := hv.none
      subst this
      exact beh_one.1 hx)
    have hx2 : Beh l x := by
      cases l with
      | nil => exact beh_nil x
      | cons a b => exact beh_cons.1 hx
    rw [List.append_assoc, gap_run g _ p _ _ hg, List.append_assoc, hu.first hvx, ih x hx2, CutR.app_app]
    simp [Nat.add_assoc]

/-- All bytes are words, then what may stand between, and then nothing or something that is no word. -/
theorem cut_form : ∀ (n : Nat) (l : List UInt8) (p : Nat), l.length ≤ n → ∃ v g y toks r', l = v ++ (g ++ y) ∧ Cuts p v toks ∧ Beh toks (g ++ y) ∧ gapST false g = some r' ∧
    ((y = [] ∧ cutS l p 0 false = .ok toks) ∨ (y ≠ [] ∧ r' = false ∧ cutS l p 0 false = .bad (p + v.length + g.length)))
  | n, l, p, h => by
    obtain ⟨r', hg, hr⟩ := gap_take l false
    have hsplit : l = l.take (gapN false l) ++ l.drop (gapN false l) := (List.take_append_drop _ _).symm
    have hle := gap_le l false
    have hst := gap_stop l false
    have hlg : (l.take (gapN false l)).length = gapN false l := by rw [List.length_take]; omega
    by_cases he : gapN false l < l.length
    · obtain rfl := hr he
      cases hf : firstE (l.drop (gapN false l)) with
      | none =>
        refine ⟨[], l.take (gapN false l), l.drop (gapN false l), [], false, hsplit, .nil p, beh_nil _, hg, Or.inr ⟨fun e => ?_, rfl, ?_⟩⟩
        · have := congrArg List.length e; simp at this; omega
        · rw [cut_gap, cut_bad _ hst (by simp; omega) hf, hlg]
          simp
      | some kn =>
        obtain ⟨k, m⟩ := kn
        obtain ⟨hm1, hm2⟩ := first_pos hf
        have hw := first_word hst hf
        have hlu : ((l.drop (gapN false l)).take m).length = m := by rw [List.length_take]; omega
        have hcw := cut_word (p + gapN false l) hst hf
        have hsep := first_next hf
        rw [List.length_drop] at hm2
        cases n with
        | zero => omega
        | succ n =>
        obtain ⟨v, g, y, toks, r', hd, hc, hnl, hgs, hres⟩ := cut_form n ((l.drop (gapN false l)).drop m) (p + gapN false l + m) (by simp only [List.length_drop]; omega)
        rw [hd] at hsep
        have hlen : ((l.drop (gapN false l)).drop m).length = (v ++ (g ++ y)).length := by rw [hd]
        have hl : l = (l.take (gapN false l) ++ ((l.drop (gapN false l)).take m ++ v)) ++ (g ++ y) := by
          rw [List.append_assoc, List.append_assoc, ← hd, List.take_append_drop, List.take_append_drop]
        have hcut := Cuts.word (p := p) hg hw (v := v) (l := toks) (by rw [hlg, hlu]; exact hc) hsep.pre
        rw [hlg, hlu] at hcut
        refine ⟨_, g, y, _, r', hl, hcut, ?_, hgs, ?_⟩
        · cases toks with
          | nil =>
            have := hc.empty
            subst this
            exact beh_one.2 (by simp at hsep; exact hsep)
          | cons a b => exact beh_cons.2 hnl
        · have e0 : cutS l p 0 false = (cutS ((l.drop (gapN false l)).drop m) (p + gapN false l + m) 0 false).app [⟨k, p + gapN false l, p + gapN false l + m⟩] := by rw [cut_gap, hcw]
          rcases hres with ⟨h1, h2⟩ | ⟨h1, h2, h3⟩
          · exact Or.inl ⟨h1, by rw [e0, h2]; rfl⟩
          · refine Or.inr ⟨h1, h2, ?_⟩
            rw [e0, h3]
            simp only [CutR.app, List.length_append, hlg, hlu, CutR.bad.injEq]
            omega
    · have hnil : l.drop (gapN false l) = [] := List.drop_eq_nil_of_le (by omega)
      refine ⟨[], l.take (gapN false l), [], [], r', ?_, .nil p, beh_nil _, hg, Or.inl ⟨rfl, ?_⟩⟩
      · have := hsplit
        rw [hnil] at this
        simpa using this
      · rw [cut_gap, hnil]
        rfl

/-- Amid the words. -/
theorem Cuts.split {p : Nat} {v : List UInt8} {l : List Tk} (h : Cuts p v l) : ∀ (i : Nat) (t : Tk), l[i]? = some t →
    ∃ v1 u v2, v = v1 ++ (u ++ v2) ∧ t.from' = p + v1.length ∧ t.to = p + v1.length + u.length ∧ WordOK u t.kind ∧ Cuts p (v1 ++ u) (l.take (i + 1)) ∧ Cuts t.to v2 (l.drop (i + 1)) ∧ Sep t.kind v2 := by
  induction h with
  | nil p => intro i t e; simp at e
  | @word p g u v k l hg hu hv hn ih =>
    intro i t e
    cases i with
    | zero =>
      obtain rfl := Option.some.inj e
      refine ⟨g, u, v, rfl, rfl, rfl, hu, ?_, hv, hn⟩
      have := Cuts.word (p := p) hg hu (Cuts.nil _) (Sep.nil k)
      simpa using this
    | succ i =>
      obtain ⟨v1, u', v2, e1, e2, e3, e4, e5, e6, e7⟩ := ih i t (by simpa using e)
      refine ⟨g ++ (u ++ v1), u', v2, by rw [e1]; simp, by rw [e2]; simp [Nat.add_assoc], by rw [e3]; simp [Nat.add_assoc], e4, ?_, e6, e7⟩
      have := Cuts.word (p := p) hg hu e5 (by rw [e1, ← List.append_assoc] at hn; exact hn.pre)
      simpa using this
theorem Cuts.ord {p : Nat} {v : List UInt8} {l : List Tk} (h : Cuts p v l) : ∀ t ∈ l, p ≤ t.from' ∧ t.from' < t.to ∧ t.to ≤ p + v.length := by
  induction h with
  | nil p => intro t e; simp at e
  | @word p g u v k l hg hu hv hn ih =>
    intro t e
    have := hu.1
    rcases List.mem_cons.1 e with rfl | e
    · simp; omega
    · have := ih t e
      simp; omega
/-- Of words the kinds do not hang on where they stand. -/
def CutR.kinds : CutR → Option (List Nat)
  | .bad _ => none
  | .ok l => some (l.map (·.kind))
theorem kinds_app {a b : CutR} {l m : List Tk} (h : a.kinds = b.kinds) (hl : l.map (·.kind) = m.map (·.kind)) : (a.app l).kinds = (b.app m).kinds := by
  cases a <;> cases b <;> simp_all [CutR.app, CutR.kinds]
theorem cut_kinds : ∀ (l : List UInt8) (p q n : Nat) (r : Bool), (cutS l p n r).kinds = (cutS l q n r).kinds
  | [], p, q, n, r => by simp [cutS]
  | b :: t, p, q, n + 1, r => by rw [cutS, cutS]; exact cut_kinds t _ _ _ _
  | b :: t, p, q, 0, true => by rw [cutS, cutS]; exact cut_kinds t _ _ _ _
  | b :: t, p, q, 0, false => by
    rw [cutS, cutS]
    split
    · exact cut_kinds t _ _ _ _
    · split
      · exact cut_kinds t _ _ _ _
      · cases firstE (b :: t) with
        | none => rfl
        | some kn => exact kinds_app (cut_kinds t _ _ _ _) rfl

end Go.Proofs.YtlepaciglkodbaaDoor
