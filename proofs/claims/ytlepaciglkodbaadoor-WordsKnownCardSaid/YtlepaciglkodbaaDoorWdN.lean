/- Words of the grammar language: what is cut is cut so alone, and with other things between. No program in it. -/
import Derived.Test.YtlepaciglkodbaaDoorWdM
set_option linter.unusedVariables false
set_option linter.unusedSimpArgs false
namespace Go.Proofs.YtlepaciglkodbaaDoor

/-- No letter comes next. -/
def NotLt (x : List UInt8) : Prop := ∀ c t, x = c :: t → ltB c.toNat = false
/-- May that stand between words, and is a remark under way behind it? -/
def gapST : Bool → List UInt8 → Option Bool
  | r, [] => some r
  | true, c :: t => gapST (c != 10) t
  | false, c :: t => if spB c.toNat = true then gapST false t else if c = 35 then gapST true t else none
/-- Behind letters no letter comes next. -/
def Sep (k : Nat) (x : List UInt8) : Prop := k = 1 ∨ 5 ≤ k → NotLt x
/-- Bytes that are one word, whatever stands behind them (behind letters: but a letter). -/
def WordOK (u : List UInt8) (k : Nat) : Prop := 1 ≤ u.length ∧ ∀ x, Sep k x → Stop (u ++ x) ∧ firstE (u ++ x) = some (k, u.length)

theorem run_app (p : Nat → Bool) : ∀ (t y : List UInt8), (∀ c z, y = c :: z → p c.toNat = false) → runN p (t.take (runN p t) ++ y) = runN p t
  | [], y, h => by
    cases y with
    | nil => rfl
    | cons c z => simp [runN, h c z rfl]
  | b :: t, y, h => by
    by_cases hb : p b.toNat = true
    · rw [runN, if_pos hb, List.take_succ_cons, List.cons_append, runN, if_pos hb, run_app p t y h]
    · rw [runN, if_neg hb, List.take_zero, List.nil_append]
      cases y with
      | nil => rfl
      | cons c z => simp [runN, h c z rfl]
theorem run_next (p : Nat → Bool) : ∀ (t : List UInt8) c z, t.drop (runN p t) = c :: z → p c.toNat = false
  | [], c, z, h => by simp at h
  | b :: t, c, z, h => by
    by_cases hb : p b.toNat = true
    · rw [runN, if_pos hb, List.drop_succ_cons] at h
      exact run_next p t c z h
    · rw [runN, if_neg hb, List.drop_zero] at h
      injection h with h1 _
      subst h1
      simpa using hb
theorem run_all (p : Nat → Bool) : ∀ t : List UInt8, runN p (t.take (runN p t)) = runN p t := fun t => by simpa using run_app p t [] (fun c z h => by cases h)
theorem patN_cons (b : UInt8) (t : List UInt8) : patN (b :: t) = if b = 47 then 0 else if endB b.toNat = true then 0 else if b = 92 then
      match t with
      | [] => 0
      | c :: t' => if endB c.toNat = true then 0 else patN t' + 2
    else patN t + 1 := by
  rw [patN.eq_def]
  rfl
theorem pat_app (x : List UInt8) : ∀ (n : Nat) (t : List UInt8), t.length ≤ n → patN (t.take (patN t) ++ 47 :: x) = patN t
  | 0, t, h => by
    have : t = [] := List.eq_nil_of_length_eq_zero (by omega)
    subst this
    simp [patN, patN_cons]
  | n + 1, [], h => by simp [patN, patN_cons]
  | n + 1, b :: t, h => by
    simp only [List.length_cons] at h
    by_cases h1 : b = 47
    · subst h1; simp [patN, patN_cons]
    · by_cases h2 : endB b.toNat = true
      · simp [patN_cons, h1, h2]
      · by_cases h3 : b = 92
        · subst h3
          cases t with
          | nil => simp [patN, patN_cons]
          | cons c t' =>
            by_cases h4 : endB c.toNat = true
            · simp [patN_cons, h1, h2, h4]
            · have := pat_app x n t' (by simp at h; omega)
              rw [patN_cons, if_neg h1, if_neg h2, if_pos rfl]
              simp only []
              rw [if_neg h4, List.take_succ_cons, List.take_succ_cons, List.cons_append, List.cons_append, patN_cons, if_neg h1, if_neg h2, if_pos rfl]
              simp only []
              rw [if_neg h4, this]
        · have := pat_app x n t (by omega)
          simp [patN_cons, h1, h2, h3, List.take_succ_cons, this]
theorem let_app (l x : List UInt8) (h : NotLt x) : letN (l.take (letN l) ++ x) = letN l ∨ letN l = 0 := by
  cases l with
  | nil => right; rfl
  | cons b t =>
    by_cases hd : dgB b.toNat = true
    · right; rw [letN, if_pos hd]
    · left
      by_cases hb : ltB b.toNat = true
      · have e : letN (b :: t) = runN ltB t + 1 := by rw [letN, if_neg hd, runN, if_pos hb]
        rw [e, List.take_succ_cons, List.cons_append, letN, if_neg hd, runN, if_pos hb, run_app ltB t x h]
      · have e : letN (b :: t) = 0 := by rw [letN, if_neg hd, runN, if_neg hb]
        rw [e, List.take_zero, List.nil_append]
        cases x with
        | nil => rfl
        | cons c z =>
          rw [letN]
          split
          · rfl
          · simp [runN, h c z rfl]
theorem let_next (l : List UInt8) (h : letN l ≠ 0) : NotLt (l.drop (letN l)) := by
  cases l with
  | nil => exact absurd rfl h
  | cons b t =>
    rw [letN] at h ⊢
    split at h
    · omega
    · rename_i hd
      rw [if_neg hd]
      exact fun c z e => run_next ltB _ c z e

theorem stop_cons (b : UInt8) (t t' : List UInt8) (h : Stop (b :: t)) : Stop (b :: t') := by
  unfold Stop at *
  rw [gapN] at *
  split at h
  · omega
  · rename_i h1
    split at h
    · omega
    · rename_i h2
      rw [if_neg h1, if_neg h2]
theorem head_take {t : List UInt8} {n : Nat} {c : UInt8} (h : (t.drop n).head? = some c) : t.take (n + 1) = t.take n ++ [c] := by
  have hn := head_drop h
  rw [List.take_add_one]
  rw [List.head?_drop] at h
  rw [h]
  rfl

theorem kindFrom_ge (s : List UInt8) : ∀ f k, 5 ≤ k → kindFrom s f k = 1 ∨ (k ≤ kindFrom s f k ∧ kindFrom s f k < k + f ∧ s = spellE (kindFrom s f k))
  | 0, k, h => Or.inl rfl
  | f + 1, k, h => by
    rw [kindFrom]
    split
    · rename_i e
      exact Or.inr ⟨Nat.le_refl _, by omega, e⟩
    · rcases kindFrom_ge s f (k + 1) (by omega) with h1 | ⟨h1, h2, h3⟩
      · exact Or.inl h1
      · exact Or.inr ⟨by omega, by omega, h3⟩
theorem kindW_of (s : List UInt8) : kindW s = 1 ∨ (5 ≤ kindW s ∧ kindW s ≤ 13 ∧ s = spellE (kindW s)) := by
  rcases kindFrom_ge s 9 5 (by omega) with h | ⟨h1, h2, h3⟩
  · exact Or.inl h
  · exact Or.inr ⟨h1, by unfold kindW; omega, h3⟩

/-- A word is one, whatever stands behind it. -/
theorem first_word {l : List UInt8} {k n : Nat} (hs : Stop l) (h : firstE l = some (k, n)) : WordOK (l.take n) k := by
  obtain ⟨hp, hn⟩ := first_pos h
  refine ⟨by simp; omega, fun x hx => ?_⟩
  have hlen : (l.take n).length = n := by simp; omega
  rw [hlen]
  cases l with
  | nil => cases h
  | cons b t =>
    obtain ⟨m, rfl⟩ : ∃ m, n = m + 1 := ⟨n - 1, by omega⟩
    refine ⟨by rw [List.take_succ_cons, List.cons_append]; exact stop_cons b t _ hs, ?_⟩
    rw [List.take_succ_cons, List.cons_append]
    rw [firstE] at h
    by_cases h1 : sgB b.toNat = true
    · rw [if_pos h1] at h
      rw [firstE, if_pos h1]
      simpa using h
    · rw [if_neg h1] at h
      by_cases h2 : b = 34
      · rw [if_pos h2] at h
        subst h2
        by_cases h3 : 0 < runN ptB t ∧ runN ptB t ≤ 32 ∧ (t.drop (runN ptB t)).head? = some 34
        · rw [if_pos h3] at h
          obtain ⟨rfl, e⟩ := Prod.mk.inj (Option.some.inj h)
          obtain rfl : m = runN ptB t + 1 := by omega
          have hr := run_app ptB t (34 :: x) (fun c z e => by injection e with e1 _; subst e1; decide)
          have hle := run_le ptB t
          have hd : (t.take (runN ptB t) ++ 34 :: x).drop (runN ptB t) = 34 :: x := by
            rw [List.drop_append_of_le_length (by simp; omega), List.drop_eq_nil_of_le (by simp only [List.length_take]; omega)]
            rfl
          rw [head_take h3.2.2, List.append_assoc, List.singleton_append, firstE, if_neg h1, if_pos rfl, hr, if_pos ⟨h3.1, h3.2.1, by rw [hd]; rfl⟩]
        · rw [if_neg h3] at h; cases h
      · rw [if_neg h2] at h
        by_cases h3 : b = 47
        · rw [if_pos h3] at h
          subst h3
          by_cases h4 : (t.drop (patN t)).head? = some 47
          · rw [if_pos h4] at h
            obtain ⟨rfl, e⟩ := Prod.mk.inj (Option.some.inj h)
            obtain rfl : m = patN t + 1 := by omega
            have hr := pat_app x t.length t (Nat.le_refl _)
            have hle := pat_le t
            have hd : (t.take (patN t) ++ 47 :: x).drop (patN t) = 47 :: x := by
              rw [List.drop_append_of_le_length (by simp; omega), List.drop_eq_nil_of_le (by simp only [List.length_take]; omega)]
              rfl
            rw [head_take h4, List.append_assoc, List.singleton_append, firstE, if_neg h1, if_neg (by decide), if_pos rfl, hr, if_pos (by rw [hd]; rfl)]
          · rw [if_neg h4] at h; cases h
        · rw [if_neg h3] at h
          by_cases h4 : letN (b :: t) = 0 ∨ 24 < letN (b :: t)
          · rw [if_pos h4] at h; cases h
          · rw [if_neg h4] at h
            obtain ⟨e1, e2⟩ := Prod.mk.inj (Option.some.inj h)
            have hk : k = 1 ∨ 5 ≤ k := by
              rcases kindW_of ((b :: t).take (letN (b :: t))) with h5 | ⟨h5, h6, h7⟩
              · left; omega
              · right; omega
            have hl := (let_app (b :: t) x (hx hk)).resolve_right (by omega)
            rw [e2, List.take_succ_cons, List.cons_append] at hl
            rw [firstE, if_neg h1, if_neg h2, if_neg h3, hl, if_neg (by omega), ← e1, e2]
            have : (b :: (t.take m ++ x)).take (m + 1) = (b :: t).take (m + 1) := by
              simp only [List.take_succ_cons]
              simp only [List.length_cons] at hn
              rw [List.take_append_of_le_length (by simp; omega), List.take_take, Nat.min_self]
            rw [this]

/-- What stands behind a word. -/
theorem first_next {l : List UInt8} {k n : Nat} (h : firstE l = some (k, n)) : Sep k (l.drop n) := by
  intro hk
  cases l with
  | nil => cases h
  | cons b t =>
    rw [firstE] at h
    repeat' split at h
    all_goals (first | (cases h; done) | skip)
    all_goals obtain ⟨e1, e2⟩ := Prod.mk.inj (Option.some.inj h)
    · omega
    · omega
    · omega
    · rename_i h4
      rw [← e2]
      exact let_next _ (by omega)
theorem patN_nil : patN [] = 0 := rfl
theorem pat_cut : ∀ (n : Nat) (t : List UInt8), t.length ≤ n → patN (t.take (patN t)) = patN t
  | 0, t, h => by
    have : t = [] := List.eq_nil_of_length_eq_zero (by omega)
    subst this
    simp [patN, patN_cons]
  | n + 1, [], h => by simp [patN, patN_cons]
  | n + 1, b :: t, h => by
    simp only [List.length_cons] at h
    by_cases h1 : b = 47
    · subst h1; simp [patN, patN_cons]
    · by_cases h2 : endB b.toNat = true
      · simp [patN_nil, patN_cons, h1, h2]
      · by_cases h3 : b = 92
        · subst h3
          cases t with
          | nil => simp [patN, patN_cons]
          | cons c t' =>
            by_cases h4 : endB c.toNat = true
            · simp [patN_nil, patN_cons, h1, h2, h4]
            · have := pat_cut n t' (by simp at h; omega)
              rw [patN_cons, if_neg h1, if_neg h2, if_pos rfl]
              simp only []
              rw [if_neg h4, List.take_succ_cons, List.take_succ_cons, patN_cons, if_neg h1, if_neg h2, if_pos rfl]
              simp only []
              rw [if_neg h4, this]
        · have := pat_cut n t (by omega)
          simp [patN_nil, patN_cons, h1, h2, h3, List.take_succ_cons, this]

/-- What a word is, by its kind. -/
theorem first_kind {l : List UInt8} {k n : Nat} (h : firstE l = some (k, n)) :
    (k = 4 ∧ n = 1) ∨ (k = 2 ∧ ∃ v, l.take n = 34 :: (v ++ [34]) ∧ runN ptB v = v.length ∧ 0 < v.length ∧ v.length ≤ 32) ∨ (k = 3 ∧ ∃ v, l.take n = 47 :: (v ++ [47]) ∧ patN v = v.length) ∨
    ((k = 1 ∨ (5 ≤ k ∧ k ≤ 13 ∧ l.take n = spellE k)) ∧ kindE (l.take n) = k) := by
  have hp := first_pos h
  cases l with
  | nil => cases h
  | cons b t =>
    rw [firstE] at h
    repeat' split at h
    all_goals (first | (cases h; done) | skip)
    all_goals obtain ⟨e1, e2⟩ := Prod.mk.inj (Option.some.inj h)
    · exact Or.inl ⟨e1.symm, e2.symm⟩
    · rename_i h1 h2 h3
      subst e1 e2 h2
      refine Or.inr (Or.inl ⟨rfl, t.take (runN ptB t), ?_, ?_, ?_, ?_⟩)
      · rw [List.take_succ_cons, head_take h3.2.2]
      · rw [run_all]; simp [run_le]
      · have := run_le ptB t; simp; omega
      · have := run_le ptB t; simp; omega
    · rename_i h1 h2 h3 h4
      subst e1 e2 h3
      refine Or.inr (Or.inr (Or.inl ⟨rfl, t.take (patN t), ?_, ?_⟩))
      · rw [List.take_succ_cons, head_take h4]
      · have hle := pat_le t
        have := pat_cut t.length t (Nat.le_refl _)
        rw [this]; simp; omega
    · rename_i h1 h2 h3 h4
      have hl := (let_app (b :: t) [] (fun c z e => by cases e)).resolve_right (by omega)
      rw [List.append_nil] at hl
      have hlen : ((b :: t).take n).length = n := by simp only [List.length_take]; omega
      have hk : kindE ((b :: t).take n) = k := by
        rw [← e2] at hlen ⊢
        rw [kindE, hl, hlen, if_neg (by omega), e1]
      refine Or.inr (Or.inr (Or.inr ⟨?_, hk⟩))
      rw [e2] at e1
      rcases kindW_of ((b :: t).take n) with h5 | ⟨h5, h6, h7⟩
      · left; omega
      · right
        rw [e1] at h5 h6 h7
        exact ⟨h5, h6, h7⟩

end Go.Proofs.YtlepaciglkodbaaDoor
