/- Patterns: trees of nodes, the lists that hold them, and when a list holds one. No program in it. -/
import Derived.Test.YteedmkokbapkgaaDoorSetM
set_option linter.unusedVariables false
set_option linter.unusedSimpArgs false
namespace Go.Proofs.YteedmkokbapkgaaDoor

/-- A set of bytes: four words. -/
structure S4 where
  w0 : BitVec 64
  w1 : BitVec 64
  w2 : BitVec 64
  w3 : BitVec 64
  deriving DecidableEq
def S4.f (s : S4) : Nat → BitVec 64 := fun j => if j = 0 then s.w0 else if j = 1 then s.w1 else if j = 2 then s.w2 else s.w3
def s4 (f : Nat → BitVec 64) : S4 := ⟨f 0, f 1, f 2, f 3⟩
theorem s4_f (f : Nat → BitVec 64) : Eq4 (s4 f).f f := fun j hj => by
  match j, hj with
  | 0, _ => rfl
  | 1, _ => rfl
  | 2, _ => rfl
  | 3, _ => rfl
theorem f_s4 (s : S4) : s4 s.f = s := rfl
theorem s4_congr {f g : Nat → BitVec 64} (h : Eq4 f g) : s4 f = s4 g := by
  unfold s4
  rw [h 0 (by omega), h 1 (by omega), h 2 (by omega), h 3 (by omega)]
theorem s4_inj {s t : S4} (h : Eq4 s.f t.f) : s = t := by
  rw [← f_s4 s, ← f_s4 t]
  exact s4_congr h
def hasS (s : S4) (c : Nat) : Bool := has s.f c
theorem hasS_s4 (f : Nat → BitVec 64) (c : Nat) (hc : c < 256) : hasS (s4 f) c = has f c := Eq4.has (s4_f f) c hc
def nilS : S4 := s4 nilW
def orS (s t : S4) : S4 := s4 (orW s.f t.f)
def oneS (c : Nat) : S4 := s4 (putW nilW c)
theorem has_nilS (c : Nat) (hc : c < 256) : hasS nilS c = false := by rw [nilS, hasS_s4 _ _ hc, has_nil]
theorem has_orS (s t : S4) (c : Nat) (hc : c < 256) : hasS (orS s t) c = (hasS s c || hasS t c) := by rw [orS, hasS_s4 _ _ hc, has_or, hasS, hasS]
theorem has_oneS (p c : Nat) (hc : c < 256) : hasS (oneS p) c = decide (c = p) := by rw [oneS, hasS_s4 _ _ hc, has_put, has_nil, Bool.false_or]

/-- A node. -/
structure RN where
  kind : Int
  a : Int
  b : Int
  set : S4
  deriving DecidableEq

/-- A tree. -/
inductive Rx where
  | nil : Rx
  | set (s : S4) : Rx
  | seq (a b : Rx) : Rx
  | alt (a b : Rx) : Rx
  | star (a : Rx) : Rx
  | plus (a : Rx) : Rx
  deriving DecidableEq

def Rx.size : Rx → Nat
  | .nil => 1
  | .set _ => 1
  | .seq a b => a.size + b.size + 1
  | .alt a b => a.size + b.size + 1
  | .star a => a.size + 1
  | .plus a => a.size + 1
theorem Rx.size_pos (t : Rx) : 0 < t.size := by cases t <;> simp [Rx.size]

/-- A tree's nodes, the first at place k. -/
def flat : Nat → Rx → List RN
  | _, .nil => [⟨1, 0, 0, nilS⟩]
  | _, .set s => [⟨2, 0, 0, s⟩]
  | k, .seq a b => flat k a ++ flat (k + a.size) b ++ [⟨3, ((k + a.size - 1 : Nat) : Int), ((k + a.size + b.size - 1 : Nat) : Int), nilS⟩]
  | k, .alt a b => flat k a ++ flat (k + a.size) b ++ [⟨4, ((k + a.size - 1 : Nat) : Int), ((k + a.size + b.size - 1 : Nat) : Int), nilS⟩]
  | k, .star a => flat k a ++ [⟨5, ((k + a.size - 1 : Nat) : Int), 0, nilS⟩]
  | k, .plus a => flat k a ++ [⟨6, ((k + a.size - 1 : Nat) : Int), 0, nilS⟩]
theorem flat_len (t : Rx) : ∀ k, (flat k t).length = t.size := by
  induction t with
  | nil => intro k; rfl
  | set s => intro k; rfl
  | seq a b iha ihb => intro k; simp [flat, Rx.size, iha, ihb, Nat.add_assoc]
  | alt a b iha ihb => intro k; simp [flat, Rx.size, iha, ihb, Nat.add_assoc]
  | star a iha => intro k; simp [flat, Rx.size, iha]
  | plus a iha => intro k; simp [flat, Rx.size, iha]

theorem getD_app (a b : List Nat) (d i : Nat) (h : i < a.length) : (a ++ b).getD i d = a.getD i d := by
  rw [List.getD_eq_getElem?_getD, List.getD_eq_getElem?_getD, List.getElem?_append_left h]

/-- Where the first of all parts of a node stands, behind those whose beginnings are known. -/
def begin1 (bs : List Nat) (n : RN) : Option Nat :=
  if n.kind = 1 ∨ n.kind = 2 then if n.a = 0 ∧ n.b = 0 then some bs.length else none
  else if n.kind = 5 ∨ n.kind = 6 then
    if bs.length = 0 ∨ n.a ≠ (bs.length : Int) - 1 ∨ n.b ≠ 0 then none else some (bs.getD (bs.length - 1) 0)
  else if n.kind = 3 ∨ n.kind = 4 then
    if bs.length = 0 ∨ n.b ≠ (bs.length : Int) - 1 ∨ bs.getD (bs.length - 1) 0 = 0 ∨ n.a ≠ (bs.getD (bs.length - 1) 0 : Int) - 1 then none
    else some (bs.getD (bs.getD (bs.length - 1) 0 - 1) 0)
  else none
def begin2 (bs : List Nat) (n : RN) : Option Nat := if n.kind ≠ 2 ∧ n.set ≠ nilS then none else begin1 bs n
def begins : List Nat → List RN → Option (List Nat)
  | bs, [] => some bs
  | bs, n :: l => match begin2 bs n with
    | some b => begins (bs ++ [b]) l
    | none => none
def oneTree (l : List RN) : Bool := match begins [] l with
  | some bs => bs.getLast? == some 0
  | none => false

/-- Where the parts of a tree's nodes begin. -/
def begsOf : Nat → Rx → List Nat
  | k, .nil => [k]
  | k, .set _ => [k]
  | k, .seq a b => begsOf k a ++ begsOf (k + a.size) b ++ [k]
  | k, .alt a b => begsOf k a ++ begsOf (k + a.size) b ++ [k]
  | k, .star a => begsOf k a ++ [k]
  | k, .plus a => begsOf k a ++ [k]
theorem begsOf_len (t : Rx) : ∀ k, (begsOf k t).length = t.size := by
  induction t with
  | nil => intro k; rfl
  | set s => intro k; rfl
  | seq a b iha ihb => intro k; simp [begsOf, Rx.size, iha, ihb, Nat.add_assoc]
  | alt a b iha ihb => intro k; simp [begsOf, Rx.size, iha, ihb, Nat.add_assoc]
  | star a iha => intro k; simp [begsOf, Rx.size, iha]
  | plus a iha => intro k; simp [begsOf, Rx.size, iha]
theorem begsOf_last (t : Rx) (k : Nat) : (begsOf k t).getLast? = some k := by
  cases t <;> simp [begsOf]
theorem getD_last (bs : List Nat) (xs : List Nat) (k : Nat) (h : xs.getLast? = some k) : (bs ++ xs).getD ((bs ++ xs).length - 1) 0 = k := by
  have e : (bs ++ xs).getLast? = some k := by rw [List.getLast?_append, h]; rfl
  rw [List.getLast?_eq_getElem?] at e
  rw [List.getD_eq_getElem?_getD, e]
  rfl
theorem flat_begins (t : Rx) : ∀ (bs : List Nat) (l : List RN), begins bs (flat bs.length t ++ l) = begins (bs ++ begsOf bs.length t) l := by
  induction t with
  | nil => intro bs l; simp [flat, begins, begin2, begin1, begsOf]
  | set s => intro bs l; simp [flat, begins, begin2, begin1, begsOf]
  | star a iha =>
    intro bs l
    have hs := a.size_pos
    have hL : (bs ++ begsOf bs.length a).length = bs.length + a.size := by simp [begsOf_len]
    have hd := getD_last bs (begsOf bs.length a) bs.length (begsOf_last a _)
    rw [flat, List.append_assoc, iha, List.singleton_append, begins]
    have hb : begin2 (bs ++ begsOf bs.length a) ⟨5, ((bs.length + a.size - 1 : Nat) : Int), 0, nilS⟩ = some bs.length := by
      rw [begin2, if_neg (by simp), begin1, if_neg (by simp), if_pos (by simp), if_neg ?_, hd]
      rw [hL]
      simp only [ne_eq, not_or, Decidable.not_not]
      exact ⟨by omega, by omega, trivial⟩
    rw [hb]
    simp [begsOf]
  | plus a iha =>
    intro bs l
    have hs := a.size_pos
    have hL : (bs ++ begsOf bs.length a).length = bs.length + a.size := by simp [begsOf_len]
    have hd := getD_last bs (begsOf bs.length a) bs.length (begsOf_last a _)
    rw [flat, List.append_assoc, iha, List.singleton_append, begins]
    have hb : begin2 (bs ++ begsOf bs.length a) ⟨6, ((bs.length + a.size - 1 : Nat) : Int), 0, nilS⟩ = some bs.length := by
      rw [begin2, if_neg (by simp), begin1, if_neg (by simp), if_pos (by simp), if_neg ?_, hd]
      rw [hL]
      simp only [ne_eq, not_or, Decidable.not_not]
      exact ⟨by omega, by omega, trivial⟩
    rw [hb]
    simp [begsOf]
  | seq a b iha ihb =>
    intro bs l
    have hs := a.size_pos
    have hs2 := b.size_pos
    have hLa : (bs ++ begsOf bs.length a).length = bs.length + a.size := by simp [begsOf_len]
    have hL : (bs ++ begsOf bs.length a ++ begsOf (bs.length + a.size) b).length = bs.length + a.size + b.size := by simp [begsOf_len]; omega
    have hd := getD_last (bs ++ begsOf bs.length a) (begsOf (bs.length + a.size) b) (bs.length + a.size) (begsOf_last b _)
    have hda : (bs ++ begsOf bs.length a ++ begsOf (bs.length + a.size) b).getD (bs.length + a.size - 1) 0 = bs.length := by
      have h0 := getD_last bs (begsOf bs.length a) bs.length (begsOf_last a _)
      rw [hLa] at h0
      rw [getD_app _ _ _ _ (by omega)]
      exact h0
    rw [flat, List.append_assoc, List.append_assoc, iha]
    have hb2 := ihb (bs ++ begsOf bs.length a) ([⟨3, ((bs.length + a.size - 1 : Nat) : Int), ((bs.length + a.size + b.size - 1 : Nat) : Int), nilS⟩] ++ l)
    rw [hLa] at hb2
    rw [hb2, List.singleton_append, begins]
    have hb : begin2 (bs ++ begsOf bs.length a ++ begsOf (bs.length + a.size) b) ⟨3, ((bs.length + a.size - 1 : Nat) : Int), ((bs.length + a.size + b.size - 1 : Nat) : Int), nilS⟩ = some bs.length := by
      rw [begin2, if_neg (by simp), begin1, if_neg (by simp), if_neg (by simp), if_pos (by simp), if_neg ?_, hd, hda]
      rw [hd, hL]
      simp only [ne_eq, not_or, Decidable.not_not]
      exact ⟨by omega, by omega, by omega, by omega⟩
    rw [hb]
    simp [begsOf]
  | alt a b iha ihb =>
    intro bs l
    have hs := a.size_pos
    have hs2 := b.size_pos
    have hLa : (bs ++ begsOf bs.length a).length = bs.length + a.size := by simp [begsOf_len]
    have hL : (bs ++ begsOf bs.length a ++ begsOf (bs.length + a.size) b).length = bs.length + a.size + b.size := by simp [begsOf_len]; omega
    have hd := getD_last (bs ++ begsOf bs.length a) (begsOf (bs.length + a.size) b) (bs.length + a.size) (begsOf_last b _)
    have hda : (bs ++ begsOf bs.length a ++ begsOf (bs.length + a.size) b).getD (bs.length + a.size - 1) 0 = bs.length := by
      have h0 := getD_last bs (begsOf bs.length a) bs.length (begsOf_last a _)
      rw [hLa] at h0
      rw [getD_app _ _ _ _ (by omega)]
      exact h0
    rw [flat, List.append_assoc, List.append_assoc, iha]
    have hb2 := ihb (bs ++ begsOf bs.length a) ([⟨4, ((bs.length + a.size - 1 : Nat) : Int), ((bs.length + a.size + b.size - 1 : Nat) : Int), nilS⟩] ++ l)
    rw [hLa] at hb2
    rw [hb2, List.singleton_append, begins]
    have hb : begin2 (bs ++ begsOf bs.length a ++ begsOf (bs.length + a.size) b) ⟨4, ((bs.length + a.size - 1 : Nat) : Int), ((bs.length + a.size + b.size - 1 : Nat) : Int), nilS⟩ = some bs.length := by
      rw [begin2, if_neg (by simp), begin1, if_neg (by simp), if_neg (by simp), if_pos (by simp), if_neg ?_, hd, hda]
      rw [hd, hL]
      simp only [ne_eq, not_or, Decidable.not_not]
      exact ⟨by omega, by omega, by omega, by omega⟩
    rw [hb]
    simp [begsOf]
theorem tree_of_flat (t : Rx) : oneTree (flat 0 t) = true := by
  have h := flat_begins t [] []
  simp only [List.length_nil, List.append_nil, List.nil_append] at h
  rw [oneTree, h, begins]
  simp [begsOf_last]

/-- Each place behind which a beginning is told holds a tree. -/
def Trees (bs : List Nat) (l : List RN) : Prop := bs.length = l.length ∧ ∀ i, i < l.length → ∃ t : Rx, bs.getD i 0 + t.size = i + 1 ∧ (l.take (i + 1)).drop (bs.getD i 0) = flat (bs.getD i 0) t
theorem trees_nil : Trees [] [] := ⟨rfl, fun i h => absurd h (by simp)⟩
theorem trees_old {bs : List Nat} {l : List RN} (h : Trees bs l) (b : Nat) (n : RN) (i : Nat) (hi : i < l.length) :
    ∃ t : Rx, (bs ++ [b]).getD i 0 + t.size = i + 1 ∧ ((l ++ [n]).take (i + 1)).drop ((bs ++ [b]).getD i 0) = flat ((bs ++ [b]).getD i 0) t := by
  obtain ⟨hl, h⟩ := h
  obtain ⟨t, h1, h2⟩ := h i hi
  refine ⟨t, ?_, ?_⟩
  · rw [getD_app _ _ _ _ (by omega)]; exact h1
  · rw [getD_app _ _ _ _ (by omega), List.take_append_of_le_length (by omega)]; exact h2
theorem trees_new {bs : List Nat} {l : List RN} (h : Trees bs l) (b : Nat) (n : RN) (t : Rx) (h1 : b + t.size = l.length + 1) (h2 : (l ++ [n]).drop b = flat b t) : Trees (bs ++ [b]) (l ++ [n]) := by
  refine ⟨by simp [h.1], fun i hi => ?_⟩
  by_cases hc : i < l.length
  · exact trees_old h b n i hc
  have hi2 : i = l.length := by simp at hi; omega
  subst hi2
  have e : (bs ++ [b]).getD l.length 0 = b := by rw [← h.1]; simp
  rw [e]
  exact ⟨t, h1, by rw [List.take_of_length_le (by simp)]; exact h2⟩
theorem trees_last {bs : List Nat} {l : List RN} (h : Trees bs l) (hl : 0 < l.length) : ∃ t : Rx, bs.getD (bs.length - 1) 0 + t.size = l.length ∧ l.drop (bs.getD (bs.length - 1) 0) = flat (bs.getD (bs.length - 1) 0) t := by
  obtain ⟨t, h1, h2⟩ := h.2 (l.length - 1) (by omega)
  have e : l.length - 1 + 1 = l.length := by omega
  rw [h.1]
  rw [e] at h1 h2
  rw [List.take_length] at h2
  exact ⟨t, h1, h2⟩
theorem rn_eta (n : RN) : n = ⟨n.kind, n.a, n.b, n.set⟩ := rfl
theorem trees_step {bs : List Nat} {l : List RN} (h : Trees bs l) (n : RN) (b : Nat) (hb : begin2 bs n = some b) : Trees (bs ++ [b]) (l ++ [n]) := by
  rw [begin2] at hb
  by_cases hset : n.kind ≠ 2 ∧ n.set ≠ nilS
  · rw [if_pos hset] at hb; cases hb
  rw [if_neg hset] at hb
  rw [begin1] at hb
  have hl := h.1
  by_cases hk1 : n.kind = 1 ∨ n.kind = 2
  · rw [if_pos hk1] at hb
    by_cases hz : n.a = 0 ∧ n.b = 0
    · rw [if_pos hz] at hb
      obtain rfl := Option.some.inj hb
      rcases hk1 with hk | hk
      · refine trees_new h _ n .nil (by rw [hl]; rfl) ?_
        have hs : n.set = nilS := by
          by_cases hs : n.set = nilS
          · exact hs
          · exact absurd ⟨by omega, hs⟩ hset
        rw [hl, List.drop_left]
        conv => lhs; rw [rn_eta n, hk, hz.1, hz.2, hs]
        rfl
      · refine trees_new h _ n (.set n.set) (by rw [hl]; rfl) ?_
        rw [hl, List.drop_left]
        conv => lhs; rw [rn_eta n, hk, hz.1, hz.2]
        rfl
    · rw [if_neg hz] at hb; cases hb
  rw [if_neg hk1] at hb
  have hs : n.set = nilS := by
    by_cases hs : n.set = nilS
    · exact hs
    · exact absurd ⟨fun e => hk1 (Or.inr e), hs⟩ hset
  by_cases hk5 : n.kind = 5 ∨ n.kind = 6
  · rw [if_pos hk5] at hb
    by_cases hc : bs.length = 0 ∨ n.a ≠ (bs.length : Int) - 1 ∨ n.b ≠ 0
    · rw [if_pos hc] at hb; cases hb
    rw [if_neg hc] at hb
    simp only [ne_eq, not_or, Decidable.not_not] at hc
    obtain ⟨c1, c2, c3⟩ := hc
    obtain rfl := Option.some.inj hb
    obtain ⟨t, h1, h2⟩ := trees_last h (by omega)
    have hb1 : bs.getD (bs.length - 1) 0 ≤ l.length := by omega
    have ea : n.a = ((bs.getD (bs.length - 1) 0 + t.size - 1 : Nat) : Int) := by
      rw [c2]
      have := t.size_pos
      omega
    rcases hk5 with hk | hk
    · refine trees_new h _ n (.star t) (by rw [Rx.size]; omega) ?_
      rw [List.drop_append_of_le_length hb1, h2, flat]
      conv => lhs; rw [rn_eta n, hk, c3, hs, ea]
    · refine trees_new h _ n (.plus t) (by rw [Rx.size]; omega) ?_
      rw [List.drop_append_of_le_length hb1, h2, flat]
      conv => lhs; rw [rn_eta n, hk, c3, hs, ea]
  rw [if_neg hk5] at hb
  by_cases hk3 : n.kind = 3 ∨ n.kind = 4
  · rw [if_pos hk3] at hb
    by_cases hc : bs.length = 0 ∨ n.b ≠ (bs.length : Int) - 1 ∨ bs.getD (bs.length - 1) 0 = 0 ∨ n.a ≠ (bs.getD (bs.length - 1) 0 : Int) - 1
    · rw [if_pos hc] at hb; cases hb
    rw [if_neg hc] at hb
    simp only [ne_eq, not_or, Decidable.not_not] at hc
    obtain ⟨c1, c2, c3, c4⟩ := hc
    obtain ⟨t, h1, h2⟩ := trees_last h (by omega)
    generalize hm : bs.getD (bs.length - 1) 0 = m at *
    have hp := t.size_pos
    obtain ⟨u, g1, g2⟩ := h.2 (m - 1) (by omega)
    have em : m - 1 + 1 = m := by omega
    rw [em] at g1 g2
    have hp2 := u.size_pos
    obtain rfl := Option.some.inj hb
    generalize hk0 : bs.getD (m - 1) 0 = k at *
    have ea : n.a = ((k + u.size - 1 : Nat) : Int) := by rw [c4]; omega
    have eb : n.b = ((k + u.size + t.size - 1 : Nat) : Int) := by rw [c2]; omega
    have ed : l.drop k = flat k u ++ flat (k + u.size) t := by
      rw [← g2, g1, ← h2]
      conv => lhs; rw [← List.take_append_drop m l]
      rw [List.drop_append_of_le_length (by rw [List.length_take]; omega)]
    rcases hk3 with hk | hk
    · refine trees_new h _ n (.seq u t) (by rw [Rx.size]; omega) ?_
      rw [List.drop_append_of_le_length (by omega), ed, flat]
      conv => lhs; rw [rn_eta n, hk, hs, ea, eb]
    · refine trees_new h _ n (.alt u t) (by rw [Rx.size]; omega) ?_
      rw [List.drop_append_of_le_length (by omega), ed, flat]
      conv => lhs; rw [rn_eta n, hk, hs, ea, eb]
  rw [if_neg hk3] at hb
  cases hb
theorem trees_begins : ∀ (l2 : List RN) (bs : List Nat) (l : List RN) (bs' : List Nat), Trees bs l → begins bs l2 = some bs' → Trees bs' (l ++ l2)
  | [], bs, l, bs', h, he => by
    rw [begins] at he
    obtain rfl := Option.some.inj he
    rw [List.append_nil]
    exact h
  | n :: l2, bs, l, bs', h, he => by
    rw [begins] at he
    cases hb : begin2 bs n with
    | none => rw [hb] at he; cases he
    | some b =>
      rw [hb] at he
      have := trees_begins l2 (bs ++ [b]) (l ++ [n]) bs' (trees_step h n b hb) he
      rwa [List.append_assoc, List.singleton_append] at this
theorem flat_of_tree (l : List RN) (h : oneTree l = true) : ∃ t : Rx, l = flat 0 t := by
  rw [oneTree] at h
  cases hb : begins [] l with
  | none => rw [hb] at h; cases h
  | some bs =>
    rw [hb] at h
    have hT := trees_begins l [] [] bs trees_nil hb
    rw [List.nil_append] at hT
    have hg : bs.getLast? = some 0 := by simpa using h
    have hne : 0 < l.length := by
      rw [← hT.1]
      cases bs with
      | nil => cases hg
      | cons x xs => simp
    obtain ⟨t, h1, h2⟩ := trees_last hT hne
    have e0 : bs.getD (bs.length - 1) 0 = 0 := by
      have := getD_last [] bs 0 hg
      simpa using this
    rw [e0, List.drop_zero] at h2
    exact ⟨t, h2⟩

end Go.Proofs.YteedmkokbapkgaaDoor
