/- Sets of bytes as four words, and how many bits of a word are 1. No program in it. -/
set_option linter.unusedVariables false
set_option linter.unusedSimpArgs false
namespace Go.Proofs.YtcgfogdfcdndgaaGreatDoor

def p1 (m x : Nat) : Nat := (x / 2 &&& m) + (x &&& m)
def p2 (m x : Nat) : Nat := (x / 4 &&& m) + (x &&& m)
def p3 (m x : Nat) : Nat := (x / 16 + x) &&& m

/-! ### Sets: four words, told by a function -/

def has (f : Nat → BitVec 64) (c : Nat) : Bool := (f (c / 64)).getLsbD (c % 64)
def putW (f : Nat → BitVec 64) (c : Nat) : Nat → BitVec 64 := fun j => if j = c / 64 then f j ||| 1#64 <<< (c % 64) else f j
def offW (f : Nat → BitVec 64) (c : Nat) : Nat → BitVec 64 := fun j => if j = c / 64 then f j &&& ~~~(1#64 <<< (c % 64)) else f j
def nilW : Nat → BitVec 64 := fun _ => 0
def allW (f : Nat → BitVec 64) (l : List Nat) : Nat → BitVec 64 := l.foldl putW f
def orW (f g : Nat → BitVec 64) : Nat → BitVec 64 := fun j => f j ||| g j
def andW (f g : Nat → BitVec 64) : Nat → BitVec 64 := fun j => f j &&& g j
def notW (f : Nat → BitVec 64) : Nat → BitVec 64 := fun j => ~~~ f j
/-- The same four words. -/
def Eq4 (f g : Nat → BitVec 64) : Prop := ∀ j, j < 4 → f j = g j

theorem Eq4.symm {f g : Nat → BitVec 64} (h : Eq4 f g) : Eq4 g f := fun j hj => (h j hj).symm
theorem Eq4.trans {f g k : Nat → BitVec 64} (h : Eq4 f g) (i : Eq4 g k) : Eq4 f k := fun j hj => (h j hj).trans (i j hj)
theorem Eq4.has {f g : Nat → BitVec 64} (h : Eq4 f g) (c : Nat) (hc : c < 256) : has f c = has g c := by
  unfold Go.Proofs.YtcgfogdfcdndgaaGreatDoor.has
  rw [h (c / 64) (by omega)]
theorem eq4_of {f g : Nat → BitVec 64} (h : ∀ c, c < 256 → has f c = has g c) : Eq4 f g := by
  intro j hj
  apply BitVec.eq_of_getLsbD_eq
  intro i hi
  have := h (64 * j + i) (by omega)
  unfold has at this
  rwa [show (64 * j + i) / 64 = j by omega, show (64 * j + i) % 64 = i by omega] at this

theorem bit_one (k i : Nat) (hk : k < 64) (hi : i < 64) : (1#64 <<< k).getLsbD i = decide (i = k) := by
  rw [BitVec.getLsbD_shiftLeft]
  by_cases h : i < k
  · simp [h, hi]; omega
  · by_cases e : i = k
    · subst e; simp [hi]
    · have : i - k ≠ 0 := by omega
      simp [h, hi, e, BitVec.getLsbD_one, this]
theorem has_put (f : Nat → BitVec 64) (c d : Nat) : has (putW f c) d = (has f d || decide (d = c)) := by
  unfold has putW
  by_cases e : d / 64 = c / 64
  · rw [if_pos e, BitVec.getLsbD_or, bit_one _ _ (by omega) (by omega)]
    congr 1
    apply decide_eq_decide.2
    omega
  · rw [if_neg e]
    have : decide (d = c) = false := decide_eq_false (fun h => e (by rw [h]))
    rw [this, Bool.or_false]
theorem has_off (f : Nat → BitVec 64) (c d : Nat) : has (offW f c) d = (has f d && !decide (d = c)) := by
  unfold has offW
  by_cases e : d / 64 = c / 64
  · rw [if_pos e, BitVec.getLsbD_and, BitVec.getLsbD_not, bit_one _ _ (by omega) (by omega)]
    have h1 : decide (d % 64 < 64) = true := decide_eq_true (by omega)
    have h2 : decide (d % 64 = c % 64) = decide (d = c) := decide_eq_decide.2 (by omega)
    rw [h1, h2, Bool.true_and]
  · rw [if_neg e]
    have : decide (d = c) = false := decide_eq_false (fun h => e (by rw [h]))
    rw [this, Bool.not_false, Bool.and_true]
theorem has_nil (d : Nat) : has nilW d = false := by
  unfold has nilW
  exact BitVec.getLsbD_zero
theorem has_and (f g : Nat → BitVec 64) (d : Nat) : has (andW f g) d = (has f d && has g d) := BitVec.getLsbD_and
theorem has_not (f : Nat → BitVec 64) (d : Nat) : has (notW f) d = !has f d := by
  unfold has notW
  rw [BitVec.getLsbD_not, decide_eq_true (show d % 64 < 64 by omega), Bool.true_and]
theorem has_all : ∀ (l : List Nat) (f : Nat → BitVec 64) (d : Nat), has (allW f l) d = (has f d || decide (d ∈ l))
  | [], f, d => by simp [allW]
  | c :: l, f, d => by
    have ih := has_all l (putW f c) d
    rw [show allW f (c :: l) = allW (putW f c) l from rfl, ih, has_put, Bool.or_assoc]
    congr 1
    by_cases h : d = c
    · simp [h]
    · simp [h]
theorem allW_snoc (f : Nat → BitVec 64) (l : List Nat) (c : Nat) : allW f (l ++ [c]) = putW (allW f l) c := by
  simp [allW, List.foldl_append]

/-- The bytes of a set, rising. -/
def elems (f : Nat → BitVec 64) : List Nat := (List.range 256).filter (has f)
theorem mem_elems (f : Nat → BitVec 64) (c : Nat) : c ∈ elems f ↔ c < 256 ∧ has f c = true := by
  unfold elems
  rw [List.mem_filter, List.mem_range]
theorem elems_congr {f g : Nat → BitVec 64} (h : Eq4 f g) : elems f = elems g := by
  unfold elems
  apply List.filter_congr
  intro c hc
  rw [h.has c (List.mem_range.1 hc)]
theorem elems_rise (f : Nat → BitVec 64) : (elems f).Pairwise (· < ·) := (List.pairwise_lt_range (n := 256)).filter _
theorem elems_nil_iff (f : Nat → BitVec 64) : elems f = [] ↔ Eq4 f nilW := by
  constructor
  · intro h
    apply eq4_of
    intro c hc
    rw [has_nil]
    cases e : has f c
    · rfl
    · have := (mem_elems f c).2 ⟨hc, e⟩
      rw [h] at this
      cases this
  · intro h
    rw [elems_congr h]
    decide +kernel

/-- The least one, by the first word that is not 0 and its lowest bit. -/
theorem elems_least (f : Nat → BitVec 64) (q k : Nat) (hq : q < 4) (hk : k < 64) (h0 : ∀ j, j < q → f j = 0) (h1 : ∀ i, i < k → (f q).getLsbD i = false) (h2 : (f q).getLsbD k = true) :
    ∃ l, elems f = (64 * q + k) :: l ∧ elems (offW f (64 * q + k)) = l := by
  have hm : has f (64 * q + k) = true := by
    unfold has
    rw [show (64 * q + k) / 64 = q by omega, show (64 * q + k) % 64 = k by omega]
    exact h2
  have hlow : ∀ c, c < 64 * q + k → has f c = false := by
    intro c hc
    unfold has
    by_cases h : c / 64 < q
    · rw [h0 _ h]
      exact BitVec.getLsbD_zero
    · have e : c / 64 = q := by omega
      rw [e]
      exact h1 _ (by omega)
  have e : List.range 256 = List.range (64 * q + k) ++ (64 * q + k) :: (List.range (255 - (64 * q + k))).map (64 * q + k + 1 + ·) := by
    have e1 : 256 = (64 * q + k) + ((255 - (64 * q + k)) + 1) := by omega
    conv => lhs; rw [e1]
    rw [List.range_add, List.range_succ_eq_map]
    simp only [List.map_cons, Nat.add_zero, List.map_map]
    congr 2
    apply List.map_congr_left
    intro x _
    simp only [Function.comp]
    omega
  have d1 : (List.range (64 * q + k)).filter (has f) = [] := by
    rw [List.filter_eq_nil_iff]
    intro c hc
    rw [hlow c (List.mem_range.1 hc)]
    decide
  have d2 : (List.range (64 * q + k)).filter (has (offW f (64 * q + k))) = [] := by
    rw [List.filter_eq_nil_iff]
    intro c hc
    rw [has_off, hlow c (List.mem_range.1 hc)]
    simp
  have d3 : has (offW f (64 * q + k)) (64 * q + k) = false := by
    rw [has_off]
    simp
  refine ⟨((List.range (255 - (64 * q + k))).map (64 * q + k + 1 + ·)).filter (has f), ?_, ?_⟩
  · unfold elems
    rw [e, List.filter_append, d1, List.filter_cons, if_pos hm, List.nil_append]
  · unfold elems
    rw [e, List.filter_append, d2, List.filter_cons, if_neg (by rw [d3]; decide), List.nil_append]
    apply List.filter_congr
    intro c hc
    obtain ⟨x, _, rfl⟩ := List.mem_map.1 hc
    rw [has_off, decide_eq_false (show ¬ 64 * q + k + 1 + x = 64 * q + k by omega)]
    simp

end Go.Proofs.YtcgfogdfcdndgaaGreatDoor

/- Patterns: trees of nodes, the lists that hold them, and when a list holds one. No program in it. -/
set_option linter.unusedVariables false
set_option linter.unusedSimpArgs false
namespace Go.Proofs.YtcgfogdfcdndgaaGreatDoor

/-- A set of bytes: four words. -/
structure S4 where
  w0 : BitVec 64
  w1 : BitVec 64
  w2 : BitVec 64
  w3 : BitVec 64
  deriving DecidableEq
def S4.f (s : S4) : Nat → BitVec 64 := fun j => if j = 0 then s.w0 else if j = 1 then s.w1 else if j = 2 then s.w2 else s.w3
def s4 (f : Nat → BitVec 64) : S4 := ⟨f 0, f 1, f 2, f 3⟩
theorem s4_f (f : Nat → BitVec 64) : Eq4 (s4 f).f f := fun j hj => by
  match j, hj with
  | 0, _ => rfl
  | 1, _ => rfl
  | 2, _ => rfl
  | 3, _ => rfl
theorem f_s4 (s : S4) : s4 s.f = s := rfl
theorem s4_congr {f g : Nat → BitVec 64} (h : Eq4 f g) : s4 f = s4 g := by
  unfold s4
  rw [h 0 (by omega), h 1 (by omega), h 2 (by omega), h 3 (by omega)]
theorem s4_inj {s t : S4} (h : Eq4 s.f t.f) : s = t := by
  rw [← f_s4 s, ← f_s4 t]
  exact s4_congr h
def hasS (s : S4) (c : Nat) : Bool := has s.f c
theorem hasS_s4 (f : Nat → BitVec 64) (c : Nat) (hc : c < 256) : hasS (s4 f) c = has f c := Eq4.has (s4_f f) c hc
def nilS : S4 := s4 nilW
def orS (s t : S4) : S4 := s4 (orW s.f t.f)
def oneS (c : Nat) : S4 := s4 (putW nilW c)
theorem has_nilS (c : Nat) (hc : c < 256) : hasS nilS c = false := by rw [nilS, hasS_s4 _ _ hc, has_nil]
/-- A node. -/
structure RN where
  kind : Int
  a : Int
  b : Int
  set : S4
  deriving DecidableEq

/-- A tree. -/
inductive Rx where
  | nil : Rx
  | set (s : S4) : Rx
  | seq (a b : Rx) : Rx
  | alt (a b : Rx) : Rx
  | star (a : Rx) : Rx
  | plus (a : Rx) : Rx
  deriving DecidableEq

def Rx.size : Rx → Nat
  | .nil => 1
  | .set _ => 1
  | .seq a b => a.size + b.size + 1
  | .alt a b => a.size + b.size + 1
  | .star a => a.size + 1
  | .plus a => a.size + 1
theorem Rx.size_pos (t : Rx) : 0 < t.size := by cases t <;> simp [Rx.size]

/-- A tree's nodes, the first at place k. -/
def flat : Nat → Rx → List RN
  | _, .nil => [⟨1, 0, 0, nilS⟩]
  | _, .set s => [⟨2, 0, 0, s⟩]
  | k, .seq a b => flat k a ++ flat (k + a.size) b ++ [⟨3, ((k + a.size - 1 : Nat) : Int), ((k + a.size + b.size - 1 : Nat) : Int), nilS⟩]
  | k, .alt a b => flat k a ++ flat (k + a.size) b ++ [⟨4, ((k + a.size - 1 : Nat) : Int), ((k + a.size + b.size - 1 : Nat) : Int), nilS⟩]
  | k, .star a => flat k a ++ [⟨5, ((k + a.size - 1 : Nat) : Int), 0, nilS⟩]
  | k, .plus a => flat k a ++ [⟨6, ((k + a.size - 1 : Nat) : Int), 0, nilS⟩]
theorem flat_len (t : Rx) : ∀ k, (flat k t).length = t.size := by
  induction t with
  | nil => intro k; rfl
  | set s => intro k; rfl
  | seq a b iha ihb => intro k; simp [flat, Rx.size, iha, ihb, Nat.add_assoc]
  | alt a b iha ihb => intro k; simp [flat, Rx.size, iha, ihb, Nat.add_assoc]
  | star a iha => intro k; simp [flat, Rx.size, iha]
  | plus a iha => intro k; simp [flat, Rx.size, iha]

theorem getD_app (a b : List Nat) (d i : Nat) (h : i < a.length) : (a ++ b).getD i d = a.getD i d := by
  rw [List.getD_eq_getElem?_getD, List.getD_eq_getElem?_getD, List.getElem?_append_left h]

/-- Where the first of all parts of a node stands, behind those whose beginnings are known. -/
def begin1 (bs : List Nat) (n : RN) : Option Nat :=
  if n.kind = 1 ∨ n.kind = 2 then if n.a = 0 ∧ n.b = 0 then some bs.length else none
  else if n.kind = 5 ∨ n.kind = 6 then
    if bs.length = 0 ∨ n.a ≠ (bs.length : Int) - 1 ∨ n.b ≠ 0 then none else some (bs.getD (bs.length - 1) 0)
  else if n.kind = 3 ∨ n.kind = 4 then
    if bs.length = 0 ∨ n.b ≠ (bs.length : Int) - 1 ∨ bs.getD (bs.length - 1) 0 = 0 ∨ n.a ≠ (bs.getD (bs.length - 1) 0 : Int) - 1 then none
    else some (bs.getD (bs.getD (bs.length - 1) 0 - 1) 0)
  else none
def begin2 (bs : List Nat) (n : RN) : Option Nat := if n.kind ≠ 2 ∧ n.set ≠ nilS then none else begin1 bs n
def begins : List Nat → List RN → Option (List Nat)
  | bs, [] => some bs
  | bs, n :: l => match begin2 bs n with
    | some b => begins (bs ++ [b]) l
    | none => none
def oneTree (l : List RN) : Bool := match begins [] l with
  | some bs => bs.getLast? == some 0
  | none => false

/-- Where the parts of a tree's nodes begin. -/
def begsOf : Nat → Rx → List Nat
  | k, .nil => [k]
  | k, .set _ => [k]
  | k, .seq a b => begsOf k a ++ begsOf (k + a.size) b ++ [k]
  | k, .alt a b => begsOf k a ++ begsOf (k + a.size) b ++ [k]
  | k, .star a => begsOf k a ++ [k]
  | k, .plus a => begsOf k a ++ [k]
theorem begsOf_len (t : Rx) : ∀ k, (begsOf k t).length = t.size := by
  induction t with
  | nil => intro k; rfl
  | set s => intro k; rfl
  | seq a b iha ihb => intro k; simp [begsOf, Rx.size, iha, ihb, Nat.add_assoc]
  | alt a b iha ihb => intro k; simp [begsOf, Rx.size, iha, ihb, Nat.add_assoc]
  | star a iha => intro k; simp [begsOf, Rx.size, iha]
  | plus a iha => intro k; simp [begsOf, Rx.size, iha]
theorem begsOf_last (t : Rx) (k : Nat) : (begsOf k t).getLast? = some k := by
  cases t <;> simp [begsOf]
theorem getD_last (bs : List Nat) (xs : List Nat) (k : Nat) (h : xs.getLast? = some k) : (bs ++ xs).getD ((bs ++ xs).length - 1) 0 = k := by
  have e : (bs ++ xs).getLast? = some k := by rw [List.getLast?_append, h]; rfl
  rw [List.getLast?_eq_getElem?] at e
  rw [List.getD_eq_getElem?_getD, e]
  rfl
theorem flat_begins (t : Rx) : ∀ (bs : List Nat) (l : List RN), begins bs (flat bs.length t ++ l) = begins (bs ++ begsOf bs.length t) l := by
  induction t with
  | nil => intro bs l; simp [flat, begins, begin2, begin1, begsOf]
  | set s => intro bs l; simp [flat, begins, begin2, begin1, begsOf]
  | star a iha =>
    intro bs l
    have hs := a.size_pos
    have hL : (bs ++ begsOf bs.length a).length = bs.length + a.size := by simp [begsOf_len]
    have hd := getD_last bs (begsOf bs.length a) bs.length (begsOf_last a _)
    rw [flat, List.append_assoc, iha, List.singleton_append, begins]
    have hb : begin2 (bs ++ begsOf bs.length a) ⟨5, ((bs.length + a.size - 1 : Nat) : Int), 0, nilS⟩ = some bs.length := by
      rw [begin2, if_neg (by simp), begin1, if_neg (by simp), if_pos (by simp), if_neg ?_, hd]
      rw [hL]
      simp only [ne_eq, not_or, Decidable.not_not]
      exact ⟨by omega, by omega, trivial⟩
    rw [hb]
    simp [begsOf]
  | plus a iha =>
    intro bs l
    have hs := a.size_pos
    have hL : (bs ++ begsOf bs.length a).length = bs.length + a.size := by simp [begsOf_len]
    have hd := getD_last bs (begsOf bs.length a) bs.length (begsOf_last a _)
    rw [flat, List.append_assoc, iha, List.singleton_append, begins]
    have hb : begin2 (bs ++ begsOf bs.length a) ⟨6, ((bs.length + a.size - 1 : Nat) : Int), 0, nilS⟩ = some bs.length := by
      rw [begin2, if_neg (by simp), begin1, if_neg (by simp), if_pos (by simp), if_neg ?_, hd]
      rw [hL]
      simp only [ne_eq, not_or, Decidable.not_not]
      exact ⟨by omega, by omega, trivial⟩
    rw [hb]
    simp [begsOf]
  | seq a b iha ihb =>
    intro bs l
    have hs := a.size_pos
    have hs2 := b.size_pos
    have hLa : (bs ++ begsOf bs.length a).length = bs.length + a.size := by simp [begsOf_len]
    have hL : (bs ++ begsOf bs.length a ++ begsOf (bs.length + a.size) b).length = bs.length + a.size + b.size := by simp [begsOf_len]; omega
    have hd := getD_last (bs ++ begsOf bs.length a) (begsOf (bs.length + a.size) b) (bs.length + a.size) (begsOf_last b _)
    have hda : (bs ++ begsOf bs.length a ++ begsOf (bs.length + a.size) b).getD (bs.length + a.size - 1) 0 = bs.length := by
      have h0 := getD_last bs (begsOf bs.length a) bs.length (begsOf_last a _)
      rw [hLa] at h0
      rw [getD_app _ _ _ _ (by omega)]
      exact h0
    rw [flat, List.append_assoc, List.append_assoc, iha]
    have hb2 := ihb (bs ++ begsOf bs.length a) ([⟨3, ((bs.length + a.size - 1 : Nat) : Int), ((bs.length + a.size + b.size - 1 : Nat) : Int), nilS⟩] ++ l)
    rw [hLa] at hb2
    rw [hb2, List.singleton_append, begins]
    have hb : begin2 (bs ++ begsOf bs.length a ++ begsOf (bs.length + a.size) b) ⟨3, ((bs.length + a.size - 1 : Nat) : Int), ((bs.length + a.size + b.size - 1 : Nat) : Int), nilS⟩ = some bs.length := by
      rw [begin2, if_neg (by simp), begin1, if_neg (by simp), if_neg (by simp), if_pos (by simp), if_neg ?_, hd, hda]
      rw [hd, hL]
      simp only [ne_eq, not_or, Decidable.not_not]
      exact ⟨by omega, by omega, by omega, by omega⟩
    rw [hb]
    simp [begsOf]
  | alt a b iha ihb =>
    intro bs l
    have hs := a.size_pos
    have hs2 := b.size_pos
    have hLa : (bs ++ begsOf bs.length a).length = bs.length + a.size := by simp [begsOf_len]
    have hL : (bs ++ begsOf bs.length a ++ begsOf (bs.length + a.size) b).length = bs.length + a.size + b.size := by simp [begsOf_len]; omega
    have hd := getD_last (bs ++ begsOf bs.length a) (begsOf (bs.length + a.size) b) (bs.length + a.size) (begsOf_last b _)
    have hda : (bs ++ begsOf bs.length a ++ begsOf (bs.length + a.size) b).getD (bs.length + a.size - 1) 0 = bs.length := by
      have h0 := getD_last bs (begsOf bs.length a) bs.length (begsOf_last a _)
      rw [hLa] at h0
      rw [getD_app _ _ _ _ (by omega)]
      exact h0
    rw [flat, List.append_assoc, List.append_assoc, iha]
    have hb2 := ihb (bs ++ begsOf bs.length a) ([⟨4, ((bs.length + a.size - 1 : Nat) : Int), ((bs.length + a.size + b.size - 1 : Nat) : Int), nilS⟩] ++ l)
    rw [hLa] at hb2
    rw [hb2, List.singleton_append, begins]
    have hb : begin2 (bs ++ begsOf bs.length a ++ begsOf (bs.length + a.size) b) ⟨4, ((bs.length + a.size - 1 : Nat) : Int), ((bs.length + a.size + b.size - 1 : Nat) : Int), nilS⟩ = some bs.length := by
      rw [begin2, if_neg (by simp), begin1, if_neg (by simp), if_neg (by simp), if_pos (by simp), if_neg ?_, hd, hda]
      rw [hd, hL]
      simp only [ne_eq, not_or, Decidable.not_not]
      exact ⟨by omega, by omega, by omega, by omega⟩
    rw [hb]
    simp [begsOf]
/-- Each place behind which a beginning is told holds a tree. -/
def Trees (bs : List Nat) (l : List RN) : Prop := bs.length = l.length ∧ ∀ i, i < l.length → ∃ t : Rx, bs.getD i 0 + t.size = i + 1 ∧ (l.take (i + 1)).drop (bs.getD i 0) = flat (bs.getD i 0) t
theorem trees_nil : Trees [] [] := ⟨rfl, fun i h => absurd h (by simp)⟩
theorem trees_old {bs : List Nat} {l : List RN} (h : Trees bs l) (b : Nat) (n : RN) (i : Nat) (hi : i < l.length) :
    ∃ t : Rx, (bs ++ [b]).getD i 0 + t.size = i + 1 ∧ ((l ++ [n]).take (i + 1)).drop ((bs ++ [b]).getD i 0) = flat ((bs ++ [b]).getD i 0) t := by
  obtain ⟨hl, h⟩ := h
  obtain ⟨t, h1, h2⟩ := h i hi
  refine ⟨t, ?_, ?_⟩
  · rw [getD_app _ _ _ _ (by omega)]; exact h1
  · rw [getD_app _ _ _ _ (by omega), List.take_append_of_le_length (by omega)]; exact h2
theorem trees_new {bs : List Nat} {l : List RN} (h : Trees bs l) (b : Nat) (n : RN) (t : Rx) (h1 : b + t.size = l.length + 1) (h2 : (l ++ [n]).drop b = flat b t) : Trees (bs ++ [b]) (l ++ [n]) := by
  refine ⟨by simp [h.1], fun i hi => ?_⟩
  by_cases hc : i < l.length
  · exact trees_old h b n i hc
  have hi2 : i = l.length := by simp at hi; omega
  subst hi2
  have e : (bs ++ [b]).getD l.length 0 = b := by rw [← h.1]; simp
  rw [e]
  exact ⟨t, h1, by rw [List.take_of_length_le (by simp)]; exact h2⟩
theorem trees_last {bs : List Nat} {l : List RN} (h : Trees bs l) (hl : 0 < l.length) : ∃ t : Rx, bs.getD (bs.length - 1) 0 + t.size = l.length ∧ l.drop (bs.getD (bs.length - 1) 0) = flat (bs.getD (bs.length - 1) 0) t := by
  obtain ⟨t, h1, h2⟩ := h.2 (l.length - 1) (by omega)
  have e : l.length - 1 + 1 = l.length := by omega
  rw [h.1]
  rw [e] at h1 h2
  rw [List.take_length] at h2
  exact ⟨t, h1, h2⟩
theorem rn_eta (n : RN) : n = ⟨n.kind, n.a, n.b, n.set⟩ := rfl
theorem trees_step {bs : List Nat} {l : List RN} (h : Trees bs l) (n : RN) (b : Nat) (hb : begin2 bs n = some b) : Trees (bs ++ [b]) (l ++ [n]) := by
  rw [begin2] at hb
  by_cases hset : n.kind ≠ 2 ∧ n.set ≠ nilS
  · rw [if_pos hset] at hb; cases hb
  rw [if_neg hset] at hb
  rw [begin1] at hb
  have hl := h.1
  by_cases hk1 : n.kind = 1 ∨ n.kind = 2
  · rw [if_pos hk1] at hb
    by_cases hz : n.a = 0 ∧ n.b = 0
    · rw [if_pos hz] at hb
      obtain rfl := Option.some.inj hb
      rcases hk1 with hk | hk
      · refine trees_new h _ n .nil (by rw [hl]; rfl) ?_
        have hs : n.set = nilS := by
          by_cases hs : n.set = nilS
          · exact hs
          · exact absurd ⟨by omega, hs⟩ hset
        rw [hl, List.drop_left]
        conv => lhs; rw [rn_eta n, hk, hz.1, hz.2, hs]
        rfl
      · refine trees_new h _ n (.set n.set) (by rw [hl]; rfl) ?_
        rw [hl, List.drop_left]
        conv => lhs; rw [rn_eta n, hk, hz.1, hz.2]
        rfl
    · rw [if_neg hz] at hb; cases hb
  rw [if_neg hk1] at hb
  have hs : n.set = nilS := by
    by_cases hs : n.set = nilS
    · exact hs
    · exact absurd ⟨fun e => hk1 (Or.inr e), hs⟩ hset
  by_cases hk5 : n.kind = 5 ∨ n.kind = 6
  · rw [if_pos hk5] at hb
    by_cases hc : bs.length = 0 ∨ n.a ≠ (bs.length : Int) - 1 ∨ n.b ≠ 0
    · rw [if_pos hc] at hb; cases hb
    rw [if_neg hc] at hb
    simp only [ne_eq, not_or, Decidable.not_not] at hc
    obtain ⟨c1, c2, c3⟩ := hc
    obtain rfl := Option.some.inj hb
    obtain ⟨t, h1, h2⟩ := trees_last h (by omega)
    have hb1 : bs.getD (bs.length - 1) 0 ≤ l.length := by omega
    have ea : n.a = ((bs.getD (bs.length - 1) 0 + t.size - 1 : Nat) : Int) := by
      rw [c2]
      have := t.size_pos
      omega
    rcases hk5 with hk | hk
    · refine trees_new h _ n (.star t) (by rw [Rx.size]; omega) ?_
      rw [List.drop_append_of_le_length hb1, h2, flat]
      conv => lhs; rw [rn_eta n, hk, c3, hs, ea]
    · refine trees_new h _ n (.plus t) (by rw [Rx.size]; omega) ?_
      rw [List.drop_append_of_le_length hb1, h2, flat]
      conv => lhs; rw [rn_eta n, hk, c3, hs, ea]
  rw [if_neg hk5] at hb
  by_cases hk3 : n.kind = 3 ∨ n.kind = 4
  · rw [if_pos hk3] at hb
    by_cases hc : bs.length = 0 ∨ n.b ≠ (bs.length : Int) - 1 ∨ bs.getD (bs.length - 1) 0 = 0 ∨ n.a ≠ (bs.getD (bs.length - 1) 0 : Int) - 1
    · rw [if_pos hc] at hb; cases hb
    rw [if_neg hc] at hb
    simp only [ne_eq, not_or, Decidable.not_not] at hc
    obtain ⟨c1, c2, c3, c4⟩ := hc
    obtain ⟨t, h1, h2⟩ := trees_last h (by omega)
    generalize hm : bs.getD (bs.length - 1) 0 = m at *
    have hp := t.size_pos
    obtain ⟨u, g1, g2⟩ := h.2 (m - 1) (by omega)
    have em : m - 1 + 1 = m := by omega
    rw [em] at g1 g2
    have hp2 := u.size_pos
    obtain rfl := Option.some.inj hb
    generalize hk0 : bs.getD (m - 1) 0 = k at *
    have ea : n.a = ((k + u.size - 1 : Nat) : Int) := by rw [c4]; omega
    have eb : n.b = ((k + u.size + t.size - 1 : Nat) : Int) := by rw [c2]; omega
    have ed : l.drop k = flat k u ++ flat (k + u.size) t := by
      rw [← g2, g1, ← h2]
      conv => lhs; rw [← List.take_append_drop m l]
      rw [List.drop_append_of_le_length (by rw [List.length_take]; omega)]
    rcases hk3 with hk | hk
    · refine trees_new h _ n (.seq u t) (by rw [Rx.size]; omega) ?_
      rw [List.drop_append_of_le_length (by omega), ed, flat]
      conv => lhs; rw [rn_eta n, hk, hs, ea, eb]
    · refine trees_new h _ n (.alt u t) (by rw [Rx.size]; omega) ?_
      rw [List.drop_append_of_le_length (by omega), ed, flat]
      conv => lhs; rw [rn_eta n, hk, hs, ea, eb]
  rw [if_neg hk3] at hb
  cases hb
theorem trees_begins : ∀ (l2 : List RN) (bs : List Nat) (l : List RN) (bs' : List Nat), Trees bs l → begins bs l2 = some bs' → Trees bs' (l ++ l2)
  | [], bs, l, bs', h, he => by
    rw [begins] at he
    obtain rfl := Option.some.inj he
    rw [List.append_nil]
    exact h
  | n :: l2, bs, l, bs', h, he => by
    rw [begins] at he
    cases hb : begin2 bs n with
    | none => rw [hb] at he; cases he
    | some b =>
      rw [hb] at he
      have := trees_begins l2 (bs ++ [b]) (l ++ [n]) bs' (trees_step h n b hb) he
      rwa [List.append_assoc, List.singleton_append] at this
theorem flat_of_tree (l : List RN) (h : oneTree l = true) : ∃ t : Rx, l = flat 0 t := by
  rw [oneTree] at h
  cases hb : begins [] l with
  | none => rw [hb] at h; cases h
  | some bs =>
    rw [hb] at h
    have hT := trees_begins l [] [] bs trees_nil hb
    rw [List.nil_append] at hT
    have hg : bs.getLast? = some 0 := by simpa using h
    have hne : 0 < l.length := by
      rw [← hT.1]
      cases bs with
      | nil => cases hg
      | cons x xs => simp
    obtain ⟨t, h1, h2⟩ := trees_last hT hne
    have e0 : bs.getD (bs.length - 1) 0 = 0 := by
      have := getD_last [] bs 0 hg
      simpa using this
    rw [e0, List.drop_zero] at h2
    exact ⟨t, h2⟩

end Go.Proofs.YtcgfogdfcdndgaaGreatDoor

/- What texts a tree takes, and that they can be told by which nodes may take the first byte, the last one, and the next one. No program in it. -/
set_option linter.unusedVariables false
set_option linter.unusedSimpArgs false
namespace Go.Proofs.YtcgfogdfcdndgaaGreatDoor

/-- A tree takes a text. -/
inductive Mt : Rx → List UInt8 → Prop where
  | nil : Mt .nil []
  | set (s : S4) (c : UInt8) : hasS s c.toNat = true → Mt (.set s) [c]
  | seq {a b : Rx} {u v : List UInt8} : Mt a u → Mt b v → Mt (.seq a b) (u ++ v)
  | altl {a b : Rx} {u : List UInt8} : Mt a u → Mt (.alt a b) u
  | altr {a b : Rx} {u : List UInt8} : Mt b u → Mt (.alt a b) u
  | star0 {a : Rx} : Mt (.star a) []
  | star1 {a : Rx} {u v : List UInt8} : Mt a u → Mt (.star a) v → Mt (.star a) (u ++ v)
  | plus {a : Rx} {u v : List UInt8} : Mt a u → Mt (.star a) v → Mt (.plus a) (u ++ v)

end Go.Proofs.YtcgfogdfcdndgaaGreatDoor

/- How a pattern is read, and how it is written: what was written is read as it was. No program in it. -/
set_option linter.unusedVariables false
set_option linter.unusedSimpArgs false
namespace Go.Proofs.YtcgfogdfcdndgaaGreatDoor

inductive Res (α : Type) where
  | ok (v : α) (r : List UInt8)
  | bad (r : List UInt8)
  | out
def look (r : List UInt8) : UInt8 := r.headD 0
def sgA : List UInt8 := [40, 41, 91, 93, 124, 42, 43, 63, 46, 92, 47]
def sgC : List UInt8 := [91, 93, 92, 94, 45, 47]
def ltrs : List UInt8 := [110, 116, 114]
def lttd : List UInt8 := [10, 9, 13]
def dgts : List UInt8 := [48, 49, 50, 51, 52, 53, 54, 55, 56, 57, 97, 98, 99, 100, 101, 102]
def idxB : List UInt8 → UInt8 → Option Nat
  | [], _ => none
  | x :: l, b => if x = b then some 0 else (idxB l b).map (· + 1)
def hasB (l : List UInt8) (b : UInt8) : Bool := (idxB l b).isSome
def plainB (b : UInt8) (sg : List UInt8) : Bool := decide (32 ≤ b) && decide (b ≤ 126) && !hasB sg b
def signB (b : UInt8) : Bool := hasB sgA b || hasB sgC b
def digM : List UInt8 → Res Nat
  | [] => .bad []
  | b :: t => match idxB dgts b with
    | some i => .ok i t
    | none => .bad (b :: t)
def escM : List UInt8 → Res UInt8
  | [] => .bad []
  | b :: t =>
    if b = 120 then
      match digM t with
      | .ok h t1 => match digM t1 with
        | .ok l t2 => .ok (UInt8.ofNat (16 * h + l)) t2
        | .bad x => .bad x
        | .out => .out
      | .bad x => .bad x
      | .out => .out
    else match idxB ltrs b with
      | some i => .ok (lttd.getD i 0) t
      | none => if signB b then .ok b t else .bad (b :: t)
def oneM (sg : List UInt8) : List UInt8 → Res UInt8
  | [] => .bad []
  | b :: t => if b = 92 then escM t else if plainB b sg then .ok b t else .bad (b :: t)
def spanS (a b : Nat) : S4 := s4 (allW nilW ((List.range (b + 1 - a)).map (a + ·)))
def strM (r : List UInt8) : Res S4 :=
  match oneM sgC r with
  | .ok a r1 =>
    if look r1 = 45 then
      match oneM sgC r1.tail with
      | .ok b r2 => if b < a then .bad r1.tail else .ok (spanS a.toNat b.toNat) r2
      | .bad x => .bad x
      | .out => .out
    else .ok (oneS a.toNat) r1
  | .bad x => .bad x
  | .out => .out
def clsL : Nat → S4 → List UInt8 → Res S4
  | 0, _, _ => .out
  | f + 1, s, r => if look r = 93 then .ok s r.tail else
    match strM r with
    | .ok s2 r2 => clsL f (orS s s2) r2
    | .bad x => .bad x
    | .out => .out
def notS (s : S4) : S4 := s4 (notW s.f)
def clsM (r : List UInt8) : Res S4 :=
  match strM (if look r = 94 then r.tail else r) with
  | .ok s r1 => match clsL (r1.length + 1) s r1 with
    | .ok s2 r2 => .ok (if look r = 94 then notS s2 else s2) r2
    | .bad x => .bad x
    | .out => .out
  | .bad x => .bad x
  | .out => .out
def dotS : S4 := notS (oneS 10)
def reps : Rx → List UInt8 → Rx × List UInt8
  | t, [] => (t, [])
  | t, b :: r => if b = 42 then reps (.star t) r else if b = 43 then reps (.plus t) r else if b = 63 then reps (.alt t .nil) r else (t, b :: r)
def endsB (r : List UInt8) : Bool := decide (r = []) || decide (look r = 124) || decide (look r = 41)
inductive Md where
  | ways
  | waysL (t : Rx)
  | way
  | wayL (t : Rx)
  | piece
  | atom
def parM : Nat → Md → List UInt8 → Res Rx
  | 0, _, _ => .out
  | f + 1, .ways, r => match parM f .way r with
    | .ok t r1 => parM f (.waysL t) r1
    | x => x
  | f + 1, .waysL t, r => if look r = 124 then
      match parM f .way r.tail with
      | .ok t2 r2 => parM f (.waysL (.alt t t2)) r2
      | x => x
    else .ok t r
  | f + 1, .way, r => if endsB r then .ok .nil r else
      match parM f .piece r with
      | .ok t r1 => parM f (.wayL t) r1
      | x => x
  | f + 1, .wayL t, r => if endsB r then .ok t r else
      match parM f .piece r with
      | .ok t2 r2 => parM f (.wayL (.seq t t2)) r2
      | x => x
  | f + 1, .piece, r => match parM f .atom r with
    | .ok t r1 => .ok (reps t r1).1 (reps t r1).2
    | x => x
  | f + 1, .atom, r =>
    if look r = 40 then
      match parM f .ways r.tail with
      | .ok t r1 => if look r1 = 41 then .ok t r1.tail else .bad r1
      | x => x
    else if look r = 91 then
      match clsM r.tail with
      | .ok s r1 => .ok (.set s) r1
      | .bad x => .bad x
      | .out => .out
    else if look r = 46 then .ok (.set dotS) r.tail
    else match oneM sgA r with
      | .ok c r1 => .ok (.set (oneS c.toNat)) r1
      | .bad x => .bad x
      | .out => .out

/-! What is read is nearer to the end. -/
theorem digM_len {r r1 : List UInt8} {v : Nat} (h : digM r = .ok v r1) : r1.length < r.length := by
  cases r with
  | nil => cases h
  | cons b t =>
    rw [digM] at h
    split at h
    · injection h with _ h; subst h; simp
    · cases h
theorem escM_len {r r1 : List UInt8} {v : UInt8} (h : escM r = .ok v r1) : r1.length < r.length := by
  cases r with
  | nil => cases h
  | cons b t =>
    rw [escM] at h
    split at h
    · split at h
      · rename_i h1
        split at h
        · rename_i h2
          have := digM_len h1
          have := digM_len h2
          injection h with _ h; subst h; simp; omega
        · cases h
        · cases h
      · cases h
      · cases h
    · split at h
      · injection h with _ h; subst h; simp
      · split at h
        · injection h with _ h; subst h; simp
        · cases h
theorem oneM_len {sg r r1 : List UInt8} {v : UInt8} (h : oneM sg r = .ok v r1) : r1.length < r.length := by
  cases r with
  | nil => cases h
  | cons b t =>
    rw [oneM] at h
    split at h
    · have := escM_len h; simp; omega
    · split at h
      · injection h with _ h; subst h; simp
      · cases h
theorem digM_out (r : List UInt8) : digM r ≠ .out := by
  cases r with
  | nil => simp [digM]
  | cons b t => rw [digM]; split <;> simp
theorem escM_out (r : List UInt8) : escM r ≠ .out := by
  cases r with
  | nil => simp [escM]
  | cons b t =>
    rw [escM]
    split
    · split
      · split
        · simp
        · simp
        · rename_i h; exact absurd h (digM_out _)
      · simp
      · rename_i h; exact absurd h (digM_out _)
    · split
      · simp
      · split <;> simp
theorem oneM_out (sg r : List UInt8) : oneM sg r ≠ .out := by
  cases r with
  | nil => simp [oneM]
  | cons b t =>
    rw [oneM]
    split
    · exact escM_out _
    · split <;> simp
theorem strM_len {r r1 : List UInt8} {v : S4} (h : strM r = .ok v r1) : r1.length < r.length := by
  rw [strM] at h
  split at h
  · rename_i a r2 h1
    have i1 := oneM_len h1
    split at h
    · split at h
      · rename_i b r3 h2
        have i2 := oneM_len h2
        split at h
        · cases h
        · injection h with _ h; subst h
          have : r2.tail.length ≤ r2.length := by simp
          omega
      · cases h
      · cases h
    · injection h with _ h; subst h; exact i1
  · cases h
  · cases h
theorem strM_out (r : List UInt8) : strM r ≠ .out := by
  rw [strM]
  split
  · split
    · split
      · split <;> simp
      · simp
      · rename_i h; exact absurd h (oneM_out _ _)
    · simp
  · simp
  · rename_i h; exact absurd h (oneM_out _ _)
theorem clsL_len : ∀ (f : Nat) {s : S4} {r r1 : List UInt8} {v : S4}, clsL f s r = .ok v r1 → r1.length ≤ r.length
  | 0, s, r, r1, v, h => by cases h
  | f + 1, s, r, r1, v, h => by
    rw [clsL] at h
    split at h
    · injection h with _ h; subst h; simp
    · split at h
      · rename_i h1
        have := strM_len h1
        have := clsL_len f h
        omega
      · cases h
      · cases h
theorem clsL_out : ∀ (f : Nat) (s : S4) (r : List UInt8), r.length < f → clsL f s r ≠ .out
  | 0, s, r, hf => absurd hf (by omega)
  | f + 1, s, r, hf => by
    rw [clsL]
    split
    · simp
    · split
      · rename_i h1
        have := strM_len h1
        exact clsL_out f _ _ (by omega)
      · simp
      · rename_i h; exact absurd h (strM_out _)
theorem clsM_len {r r1 : List UInt8} {v : S4} (h : clsM r = .ok v r1) : r1.length ≤ r.length := by
  rw [clsM] at h
  have h0 : (if look r = 94 then r.tail else r).length ≤ r.length := by split <;> simp
  split at h
  · rename_i h1
    have := strM_len h1
    split at h
    · rename_i h2
      have := clsL_len _ h2
      injection h with _ h; subst h; omega
    · cases h
    · cases h
  · cases h
  · cases h
theorem clsM_out (r : List UInt8) : clsM r ≠ .out := by
  rw [clsM]
  split
  · split
    · simp
    · simp
    · rename_i h; exact absurd h (clsL_out _ _ _ (by omega))
  · simp
  · rename_i h; exact absurd h (strM_out _)
theorem reps_len : ∀ (r : List UInt8) (t : Rx), (reps t r).2.length ≤ r.length
  | [], t => by simp [reps]
  | b :: r, t => by
    rw [reps]
    split
    · have := reps_len r (.star t); simp; omega
    · split
      · have := reps_len r (.plus t); simp; omega
      · split
        · have := reps_len r (.alt t .nil); simp; omega
        · simp
theorem look_tail {r : List UInt8} {b : UInt8} (h : look r = b) (hb : b ≠ 0) : r.tail.length + 1 = r.length := by
  cases r with
  | nil => exact absurd h.symm hb
  | cons x t => rfl
/-- How much fuel is enough. -/
def fuelM : Md → Nat → Nat
  | .ways, n => 5 * n + 4
  | .waysL _, n => 5 * n + 3
  | .way, n => 5 * n + 3
  | .wayL _, n => 5 * n + 2
  | .piece, n => 5 * n + 1
  | .atom, n => 5 * n
/-- What a part reads at least. -/
def leastM : Md → Nat
  | .piece => 1
  | .atom => 1
  | _ => 0
theorem parM_len : ∀ (f : Nat) (m : Md) (r : List UInt8) (t : Rx) (r1 : List UInt8), parM f m r = .ok t r1 → r1.length + leastM m ≤ r.length
  | 0, m, r, t, r1, h => by cases h
  | f + 1, .ways, r, t, r1, h => by
    rw [parM] at h
    split at h
    · rename_i h1
      have := parM_len f _ _ _ _ h1
      have := parM_len f _ _ _ _ h
      simp only [leastM] at *; omega
    · rename_i hx
      exact absurd h (hx _ _)
  | f + 1, .waysL u, r, t, r1, h => by
    rw [parM] at h
    split at h
    · rename_i hl
      have := look_tail hl (by decide)
      split at h
      · rename_i h1
        have := parM_len f _ _ _ _ h1
        have := parM_len f _ _ _ _ h
        simp only [leastM] at *; omega
      · rename_i hx
        exact absurd h (hx _ _)
    · injection h with _ h; subst h; simp [leastM]
  | f + 1, .way, r, t, r1, h => by
    rw [parM] at h
    split at h
    · injection h with _ h; subst h; simp [leastM]
    · split at h
      · rename_i h1
        have := parM_len f _ _ _ _ h1
        have := parM_len f _ _ _ _ h
        simp only [leastM] at *; omega
      · rename_i hx
        exact absurd h (hx _ _)
  | f + 1, .wayL u, r, t, r1, h => by
    rw [parM] at h
    split at h
    · injection h with _ h; subst h; simp [leastM]
    · split at h
      · rename_i h1
        have := parM_len f _ _ _ _ h1
        have := parM_len f _ _ _ _ h
        simp only [leastM] at *; omega
      · rename_i hx
        exact absurd h (hx _ _)
  | f + 1, .piece, r, t, r1, h => by
    rw [parM] at h
    split at h
    · rename_i t1 r2 h1
      have := parM_len f _ _ _ _ h1
      have := reps_len r2 t1
      injection h with _ h; subst h
      simp only [leastM] at *; omega
    · rename_i hx
      exact absurd h (hx _ _)
  | f + 1, .atom, r, t, r1, h => by
    rw [parM] at h
    split at h
    · rename_i hl
      have := look_tail hl (by decide)
      split at h
      · rename_i t1 r2 h1
        have := parM_len f _ _ _ _ h1
        split at h
        · rename_i hl2
          have := look_tail hl2 (by decide)
          injection h with _ h; subst h
          simp only [leastM] at *; omega
        · cases h
      · rename_i hx
        exact absurd h (hx _ _)
    · split at h
      · rename_i hl
        have := look_tail hl (by decide)
        split at h
        · rename_i h1
          have := clsM_len h1
          injection h with _ h; subst h
          simp only [leastM] at *; omega
        · cases h
        · cases h
      · split at h
        · rename_i hl
          have := look_tail hl (by decide)
          injection h with _ h; subst h
          simp only [leastM] at *; omega
        · split at h
          · rename_i h1
            have := oneM_len h1
            injection h with _ h; subst h
            simp only [leastM] at *; omega
          · cases h
          · cases h
/-- How many nodes are made at most. -/
def sizeM : Md → Nat → Nat
  | .ways, n => 2 * n + 1
  | .waysL u, n => u.size + 2 * n
  | .way, n => 2 * n + 1
  | .wayL u, n => u.size + 2 * n
  | .piece, n => 2 * n - 1
  | .atom, n => 2 * n - 1
theorem reps_size : ∀ (r : List UInt8) (t : Rx), (reps t r).1.size + 2 * (reps t r).2.length ≤ t.size + 2 * r.length
  | [], t => by simp [reps]
  | b :: r, t => by
    rw [reps]
    split
    · have := reps_size r (.star t); simp [Rx.size] at this ⊢; omega
    · split
      · have := reps_size r (.plus t); simp [Rx.size] at this ⊢; omega
      · split
        · have := reps_size r (.alt t .nil); simp [Rx.size] at this ⊢; omega
        · simp
theorem parM_size : ∀ (f : Nat) (m : Md) (r : List UInt8) (t : Rx) (r1 : List UInt8), parM f m r = .ok t r1 → t.size + 2 * r1.length ≤ sizeM m r.length
  | 0, m, r, t, r1, h => by cases h
  | f + 1, .ways, r, t, r1, h => by
    rw [parM] at h
    split at h
    · rename_i h1
      have := parM_size f _ _ _ _ h1
      have := parM_size f _ _ _ _ h
      simp only [sizeM] at *; omega
    · rename_i hx
      exact absurd h (hx _ _)
  | f + 1, .waysL u, r, t, r1, h => by
    rw [parM] at h
    split at h
    · rename_i hl
      have := look_tail hl (by decide)
      split at h
      · rename_i h1
        have := parM_size f _ _ _ _ h1
        have := parM_size f _ _ _ _ h
        simp only [sizeM, Rx.size] at *; omega
      · rename_i hx
        exact absurd h (hx _ _)
    · injection h with h1 h2; subst h1 h2; simp [sizeM]
  | f + 1, .way, r, t, r1, h => by
    rw [parM] at h
    split at h
    · injection h with h1 h2; subst h1 h2; simp [sizeM, Rx.size]; omega
    · split at h
      · rename_i h1
        have := parM_len f _ _ _ _ h1
        have := parM_size f _ _ _ _ h1
        have := parM_size f _ _ _ _ h
        simp only [sizeM, leastM] at *; omega
      · rename_i hx
        exact absurd h (hx _ _)
  | f + 1, .wayL u, r, t, r1, h => by
    rw [parM] at h
    split at h
    · injection h with h1 h2; subst h1 h2; simp [sizeM]
    · split at h
      · rename_i h1
        have := parM_len f _ _ _ _ h1
        have := parM_size f _ _ _ _ h1
        have := parM_size f _ _ _ _ h
        simp only [sizeM, leastM, Rx.size] at *; omega
      · rename_i hx
        exact absurd h (hx _ _)
  | f + 1, .piece, r, t, r1, h => by
    rw [parM] at h
    split at h
    · rename_i t1 r2 h1
      have := parM_len f _ _ _ _ h1
      have := parM_size f _ _ _ _ h1
      have := reps_size r2 t1
      injection h with h1 h2; subst h1 h2
      simp only [sizeM, leastM] at *; omega
    · rename_i hx
      exact absurd h (hx _ _)
  | f + 1, .atom, r, t, r1, h => by
    rw [parM] at h
    split at h
    · rename_i hl
      have := look_tail hl (by decide)
      split at h
      · rename_i t1 r2 h1
        have := parM_size f _ _ _ _ h1
        split at h
        · rename_i hl2
          have := look_tail hl2 (by decide)
          injection h with h1 h2; subst h1 h2
          simp only [sizeM] at *; omega
        · cases h
      · rename_i hx
        exact absurd h (hx _ _)
    · split at h
      · rename_i hl
        have := look_tail hl (by decide)
        split at h
        · rename_i h1
          have := clsM_len h1
          injection h with h1 h2; subst h1 h2
          simp only [sizeM, Rx.size] at *; omega
        · cases h
        · cases h
      · split at h
        · rename_i hl
          have := look_tail hl (by decide)
          injection h with h1 h2; subst h1 h2
          simp only [sizeM, Rx.size] at *; omega
        · split at h
          · rename_i h1
            have := oneM_len h1
            injection h with h1 h2; subst h1 h2
            simp only [sizeM, Rx.size] at *; omega
          · cases h
          · cases h
theorem ends_ne {r : List UInt8} (h : ¬ endsB r = true) : r ≠ [] := by
  intro e
  subst e
  exact h rfl
end Go.Proofs.YtcgfogdfcdndgaaGreatDoor

/- Nets: what is reached for nothing, and behind a byte, as lists of states. No program in it. -/
set_option linter.unusedVariables false
set_option linter.unusedSimpArgs false
namespace Go.Proofs.YtcgfogdfcdndgaaGreatDoor

/-- An edge. -/
structure Ed where
  fr : Int
  to : Int
  set : S4
  free : Bool
  deriving DecidableEq
def Ed.tn (e : Ed) : Nat := e.to.toNat
def okEd (S : Int) (e : Ed) : Bool := (decide (0 ≤ e.fr) && decide (e.fr < S)) && (decide (0 ≤ e.to) && decide (e.to < S)) && !(e.free && !decide (e.set = nilS))
def okSt (S : Int) (x : Int) : Bool := decide (0 ≤ x) && decide (x < S)
def checkN (S : Int) (E : List Ed) (X : List Int) : Nat :=
  if 2048 < S ∨ 8192 < E.length ∨ 64 < X.length then 5 else if S < 1 ∨ X.all (okSt S) = false ∨ E.all (okEd S) = false then 2 else 0

def reachE (l : List Nat) (s : Nat) : List Nat := if s ∈ l then l else l ++ [s]
def goE (q : Ed → Bool) (l : List Nat) (e : Ed) : List Nat := if q e then reachE l e.tn else l
def outsE (E : List Ed) (s : Nat) : List Ed := E.filter fun e => decide (e.fr = (s : Int))
def followE (E : List Ed) (q : Ed → Bool) (l : List Nat) (s : Nat) : List Nat := (outsE E s).foldl (goE q) l
def onceE (l : List Nat) : List Nat := l.foldl reachE []
def closeF (E : List Ed) : Nat → Nat → List Nat → List Nat
  | 0, _, l => l
  | f + 1, i, l => if h : i < l.length then closeF E f (i + 1) (followE E (·.free) l l[i]) else l
def forE (E : List Ed) (l : List Nat) : List Nat := closeF E 2049 0 (onceE l)
def byE (c : Nat) (e : Ed) : Bool := hasS e.set c
def behE (E : List Ed) (c : Nat) (l : List Nat) : List Nat := l.foldl (followE E (byE c)) []
def riseE (S : Nat) (l : List Nat) : List Nat := (List.range S).filter fun s => decide (s ∈ l)

/-! What is in these lists. -/
theorem mem_reach {l : List Nat} {s x : Nat} : x ∈ reachE l s ↔ x ∈ l ∨ x = s := by
  unfold reachE
  split
  · rename_i h
    exact ⟨Or.inl, fun h' => h'.elim id fun e => by rw [e]; exact h⟩
  · simp
theorem nodup_reach {l : List Nat} {s : Nat} (h : l.Nodup) : (reachE l s).Nodup := by
  unfold reachE
  split
  · exact h
  · rename_i hs
    rw [List.nodup_append]
    refine ⟨h, by simp, fun a ha b hb => ?_⟩
    simp only [List.mem_singleton] at hb
    subst hb
    intro e
    subst e
    exact hs ha
theorem pre_reach (l : List Nat) (s : Nat) : l <+: reachE l s := by
  unfold reachE
  split
  · exact List.prefix_refl _
  · exact List.prefix_append _ _
theorem mem_go {q : Ed → Bool} {l : List Nat} {e : Ed} {x : Nat} : x ∈ goE q l e ↔ x ∈ l ∨ (q e = true ∧ x = e.tn) := by
  unfold goE
  split
  · rename_i h
    rw [mem_reach]; simp [h]
  · rename_i h
    simp [h]
theorem nodup_go {q : Ed → Bool} {l : List Nat} {e : Ed} (h : l.Nodup) : (goE q l e).Nodup := by
  unfold goE
  split
  · exact nodup_reach h
  · exact h
theorem pre_go (q : Ed → Bool) (l : List Nat) (e : Ed) : l <+: goE q l e := by
  unfold goE
  split
  · exact pre_reach _ _
  · exact List.prefix_refl _
theorem mem_gos {q : Ed → Bool} {x : Nat} : ∀ (es : List Ed) (l : List Nat), x ∈ es.foldl (goE q) l ↔ x ∈ l ∨ ∃ e ∈ es, q e = true ∧ x = e.tn
  | [], l => by simp
  | e :: es, l => by
    rw [List.foldl_cons, mem_gos es, mem_go]
    simp [or_assoc]
theorem nodup_gos {q : Ed → Bool} : ∀ (es : List Ed) (l : List Nat), l.Nodup → (es.foldl (goE q) l).Nodup
  | [], l, h => h
  | e :: es, l, h => nodup_gos es _ (nodup_go h)
theorem pre_gos (q : Ed → Bool) : ∀ (es : List Ed) (l : List Nat), l <+: es.foldl (goE q) l
  | [], l => List.prefix_refl _
  | e :: es, l => (pre_go q l e).trans (pre_gos q es _)
theorem mem_follow {E : List Ed} {q : Ed → Bool} {l : List Nat} {s x : Nat} : x ∈ followE E q l s ↔ x ∈ l ∨ ∃ e ∈ E, e.fr = (s : Int) ∧ q e = true ∧ x = e.tn := by
  rw [followE, mem_gos]
  simp only [outsE, List.mem_filter, decide_eq_true_iff]
  refine or_congr Iff.rfl ⟨?_, ?_⟩
  · rintro ⟨e, ⟨h1, h2⟩, h3⟩; exact ⟨e, h1, h2, h3⟩
  · rintro ⟨e, h1, h2, h3⟩; exact ⟨e, ⟨h1, h2⟩, h3⟩
theorem nodup_follow {E : List Ed} {q : Ed → Bool} {l : List Nat} {s : Nat} (h : l.Nodup) : (followE E q l s).Nodup := nodup_gos _ _ h
theorem pre_follow (E : List Ed) (q : Ed → Bool) (l : List Nat) (s : Nat) : l <+: followE E q l s := pre_gos _ _ _
theorem mem_onces {x : Nat} : ∀ (l a : List Nat), x ∈ l.foldl reachE a ↔ x ∈ a ∨ x ∈ l
  | [], a => by simp
  | s :: l, a => by rw [List.foldl_cons, mem_onces l, mem_reach, List.mem_cons, or_assoc]
theorem mem_once {x : Nat} {l : List Nat} : x ∈ onceE l ↔ x ∈ l := by rw [onceE, mem_onces]; simp
theorem nodup_onces : ∀ (l a : List Nat), a.Nodup → (l.foldl reachE a).Nodup
  | [], a, h => h
  | s :: l, a, h => nodup_onces l _ (nodup_reach h)
theorem nodup_once (l : List Nat) : (onceE l).Nodup := nodup_onces l [] List.nodup_nil
theorem mem_behs {E : List Ed} {c x : Nat} : ∀ (l a : List Nat), x ∈ l.foldl (followE E (byE c)) a ↔ x ∈ a ∨ ∃ s ∈ l, ∃ e ∈ E, e.fr = (s : Int) ∧ byE c e = true ∧ x = e.tn
  | [], a => by simp
  | s :: l, a => by
    rw [List.foldl_cons, mem_behs l, mem_follow]
    simp [or_assoc]
theorem mem_beh {E : List Ed} {c x : Nat} {l : List Nat} : x ∈ behE E c l ↔ ∃ s ∈ l, ∃ e ∈ E, e.fr = (s : Int) ∧ byE c e = true ∧ x = e.tn := by
  rw [behE, mem_behs]; simp
/-! Bounds. -/
def InN (S : Nat) (l : List Nat) : Prop := ∀ x ∈ l, x < S
def EdN (S : Nat) (E : List Ed) : Prop := ∀ e ∈ E, 0 ≤ e.fr ∧ e.fr < (S : Int) ∧ 0 ≤ e.to ∧ e.to < (S : Int) ∧ (e.free = true → e.set = nilS)
theorem EdN.tn {S : Nat} {E : List Ed} (h : EdN S E) {e : Ed} (he : e ∈ E) : e.tn < S := by
  obtain ⟨_, _, h3, h4, _⟩ := h e he
  unfold Ed.tn
  omega
theorem edN_of {S : Nat} {E : List Ed} (h : E.all (okEd S) = true) : EdN S E := fun e he => by
  have := List.all_eq_true.1 h e he
  unfold okEd at this
  simp only [Bool.and_eq_true, decide_eq_true_iff, Bool.not_eq_true', Bool.and_eq_false_iff, Bool.not_eq_false', decide_eq_true_iff] at this
  obtain ⟨⟨⟨a, b⟩, c, d⟩, f⟩ := this
  refine ⟨a, b, c, d, fun hf => ?_⟩
  rcases f with f | f
  · rw [f] at hf; cases hf
  · exact f
theorem in_reach {S : Nat} {l : List Nat} {s : Nat} (h : InN S l) (hs : s < S) : InN S (reachE l s) := fun x hx => by
  rcases mem_reach.1 hx with hx | rfl
  · exact h x hx
  · exact hs
theorem in_follow {S : Nat} {E : List Ed} (hE : EdN S E) {q : Ed → Bool} {l : List Nat} (h : InN S l) (s : Nat) : InN S (followE E q l s) := fun x hx => by
  rcases mem_follow.1 hx with hx | ⟨e, he, _, _, rfl⟩
  · exact h x hx
  · exact hE.tn he
theorem in_once {S : Nat} {l : List Nat} (h : InN S l) : InN S (onceE l) := fun x hx => h x (mem_once.1 hx)
theorem len_le {S : Nat} {l : List Nat} (hn : l.Nodup) (h : InN S l) : l.length ≤ S := by
  have := List.Nodup.length_le_of_subset (l₂ := List.range S) hn (fun x hx => List.mem_range.2 (h x hx))
  rwa [List.length_range] at this

end Go.Proofs.YtcgfogdfcdndgaaGreatDoor

/- Nets: what is reached for nothing is so at once, of more states it is more; rising lists. No program in it. -/
set_option linter.unusedVariables false
set_option linter.unusedSimpArgs false
namespace Go.Proofs.YtcgfogdfcdndgaaGreatDoor

/-- A state is reached for nothing from some. -/
inductive Rch (E : List Ed) (l : List Nat) : Nat → Prop where
  | base {x : Nat} : x ∈ l → Rch E l x
  | step {y : Nat} {e : Ed} : Rch E l y → e ∈ E → e.fr = (y : Int) → e.free = true → Rch E l e.tn
theorem Rch.mono {E : List Ed} {l l' : List Nat} (h : ∀ x ∈ l, Rch E l' x) {x : Nat} (hx : Rch E l x) : Rch E l' x := by
  induction hx with
  | base hx => exact h _ hx
  | step _ he hf hr ih => exact .step ih he hf hr
def DoneTo (E : List Ed) (i : Nat) (l : List Nat) : Prop := ∀ j (h : j < l.length), j < i → ∀ e ∈ E, e.fr = (l[j] : Int) → e.free = true → e.tn ∈ l
theorem done_step {E : List Ed} {i : Nat} {l : List Nat} (h : DoneTo E i l) (hi : i < l.length) : DoneTo E (i + 1) (followE E (·.free) l l[i]) := by
  intro j hj hji e he hf hr
  have hp := pre_follow E (·.free) l l[i]
  have hjl : j < l.length := by omega
  have hg : (followE E (·.free) l l[i])[j] = l[j] := (hp.getElem hjl).symm
  rw [hg] at hf
  rw [mem_follow]
  by_cases hji' : j = i
  · subst hji'
    exact Or.inr ⟨e, he, hf, hr, rfl⟩
  · exact Or.inl (h j hjl (by omega) e he hf hr)
theorem close_spec {E : List Ed} {S : Nat} (hE : EdN S E) (l0 : List Nat) : ∀ (f i : Nat) (l : List Nat), S < f + i → l.Nodup → InN S l → DoneTo E i l → i ≤ l.length → (∀ x ∈ l, Rch E l0 x) →
    (closeF E f i l).Nodup ∧ InN S (closeF E f i l) ∧ l <+: closeF E f i l ∧ (∀ x ∈ closeF E f i l, Rch E l0 x) ∧ ∀ x ∈ closeF E f i l, ∀ e ∈ E, e.fr = (x : Int) → e.free = true → e.tn ∈ closeF E f i l
  | 0, i, l, hf, hn, hb, hd, hil, hr => by
    have := len_le hn hb
    omega
  | f + 1, i, l, hf, hn, hb, hd, hil, hr => by
    rw [closeF]
    by_cases hi : i < l.length
    · rw [dif_pos hi]
      have hp := pre_follow E (·.free) l l[i]
      obtain ⟨h1, h2, h3, h4, h5⟩ := close_spec hE l0 f (i + 1) (followE E (·.free) l l[i]) (by omega) (nodup_follow hn) (in_follow hE hb _) (done_step hd hi) (by have := hp.length_le; omega) (fun x hx => by
        rcases mem_follow.1 hx with hx | ⟨e, he, h1, h2, rfl⟩
        · exact hr x hx
        · exact .step (hr _ (List.getElem_mem hi)) he h1 h2)
      exact ⟨h1, h2, hp.trans h3, h4, h5⟩
    · rw [dif_neg hi]
      refine ⟨hn, hb, List.prefix_refl _, hr, fun x hx e he h1 h2 => ?_⟩
      obtain ⟨j, hj, rfl⟩ := List.getElem_of_mem hx
      exact hd j hj (by omega) e he h1 h2
theorem for_spec {E : List Ed} {S : Nat} (hE : EdN S E) (hS : S ≤ 2048) {l : List Nat} (hb : InN S l) :
    (forE E l).Nodup ∧ InN S (forE E l) ∧ ∀ x, x ∈ forE E l ↔ Rch E l x := by
  obtain ⟨h1, h2, h3, h4, h5⟩ := close_spec hE l 2049 0 (onceE l) (by omega) (nodup_once l) (in_once hb) (fun j h hj => absurd hj (by omega)) (Nat.zero_le _) (fun x hx => .base (mem_once.1 hx))
  refine ⟨h1, h2, fun x => ⟨h4 x, fun hx => ?_⟩⟩
  induction hx with
  | base hx => exact h3.subset (mem_once.2 hx)
  | step _ he hf hr ih => exact h5 _ ih _ he hf hr

/-! Rising. -/
theorem mem_rise {S : Nat} {l : List Nat} {x : Nat} : x ∈ riseE S l ↔ x < S ∧ x ∈ l := by
  simp [riseE]
theorem rise_in (S : Nat) (l : List Nat) : InN S (riseE S l) := fun x hx => (mem_rise.1 hx).1
theorem rise_pair (S : Nat) (l : List Nat) : (riseE S l).Pairwise (· < ·) := (List.pairwise_lt_range).filter _
theorem pair_ext {a b : List Nat} (ha : a.Pairwise (· < ·)) (hb : b.Pairwise (· < ·)) (h : ∀ x, x ∈ a ↔ x ∈ b) : a = b := by
  induction a generalizing b with
  | nil =>
    cases b with
    | nil => rfl
    | cons y b => exact absurd ((h y).2 (by simp)) (by simp)
  | cons x a ih =>
    cases b with
    | nil => exact absurd ((h x).1 (by simp)) (by simp)
    | cons y b =>
      rw [List.pairwise_cons] at ha hb
      have hxy : x = y := by
        rcases List.mem_cons.1 ((h x).1 (by simp)) with e | hxb
        · exact e
        · rcases List.mem_cons.1 ((h y).2 (by simp)) with e | hya
          · exact e.symm
          · have := ha.1 y hya
            have := hb.1 x hxb
            omega
      subst hxy
      congr 1
      refine ih ha.2 hb.2 fun z => ⟨fun hz => ?_, fun hz => ?_⟩
      · rcases List.mem_cons.1 ((h z).1 (by simp [hz])) with e | hz'
        · have := ha.1 z hz; omega
        · exact hz'
      · rcases List.mem_cons.1 ((h z).2 (by simp [hz])) with e | hz'
        · have := hb.1 z hz; omega
        · exact hz'
/-- What sorting leaves of a list without repeats. -/
theorem rise_of_sorted {S : Nat} {l r : List Nat} (hn : l.Nodup) (hb : InN S l) (hp : r.Perm l) (hs : r.Pairwise (· ≤ ·)) : r = riseE S l := by
  refine pair_ext ?_ (rise_pair S l) fun x => ?_
  · have hnr : r.Nodup := hp.nodup_iff.2 hn
    have := hs.and hnr
    exact this.imp fun ⟨h1, h2⟩ => by omega
  · rw [mem_rise, hp.mem_iff]
    exact ⟨fun h => ⟨hb x h, h⟩, fun h => h.2⟩

end Go.Proofs.YtcgfogdfcdndgaaGreatDoor

/- Edges by the states that they lead from: counted, summed up, put in place. No program in it. -/
set_option linter.unusedVariables false
set_option linter.unusedSimpArgs false
namespace Go.Proofs.YtcgfogdfcdndgaaGreatDoor

end Go.Proofs.YtcgfogdfcdndgaaGreatDoor
