/- Sets of bytes as four words, and how many bits of a word are 1. No program in it. -/
set_option linter.unusedVariables false
set_option linter.unusedSimpArgs false
namespace Go.Proofs.YteedmkokbapkgaaDoor

/-- How many of the first n bits of x are 1. -/
def cnt : Nat → Nat → Nat
  | 0, _ => 0
  | n + 1, x => x % 2 + cnt n (x / 2)

theorem cnt_range : ∀ (n x : Nat), ((List.range n).filter fun i => x.testBit i).length = cnt n x
  | 0, x => rfl
  | n + 1, x => by
    have ih := cnt_range n (x / 2)
    rw [List.range_succ_eq_map, List.filter_cons, List.filter_map, cnt]
    have e : ((fun i => x.testBit i) ∘ Nat.succ) = fun i => (x / 2).testBit i := by
      funext i
      simp [Function.comp, Nat.testBit_succ]
    rw [e]
    have h0 : x.testBit 0 = decide (x % 2 = 1) := Nat.testBit_zero x
    rw [h0]
    by_cases h : x % 2 = 1
    · simp [h, ih]
      omega
    · have h2 : x % 2 = 0 := by omega
      simp [h2, ih]

theorem cnt_add : ∀ (m n x : Nat), cnt (m + n) x = cnt m x + cnt n (x / 2 ^ m)
  | 0, n, x => by simp [cnt]
  | m + 1, n, x => by
    have ih := cnt_add m n (x / 2)
    have e : m + 1 + n = (m + n) + 1 := by omega
    have e2 : x / 2 ^ (m + 1) = x / 2 / 2 ^ m := by rw [Nat.div_div_eq_div_mul, Nat.pow_succ, Nat.mul_comm]
    rw [e, cnt, cnt, ih, e2]
    omega
theorem cnt_eight (h l : Nat) : cnt 8 (h * 256 + l) = cnt 8 l := by
  simp only [cnt]
  omega
theorem cnt_le : ∀ (n x : Nat), cnt n x ≤ n
  | 0, x => Nat.le_refl _
  | n + 1, x => by
    have := cnt_le n (x / 2)
    rw [cnt]
    omega

/-- A mask of n bytes. -/
def mask (c : Nat) : Nat → Nat
  | 0 => 0
  | n + 1 => mask c n * 256 + c

theorem and_cat (h l m c : Nat) (hl : l < 256) (hc : c < 256) : (h * 256 + l) &&& (m * 256 + c) = (h &&& m) * 256 + (l &&& c) := by
  have hlc : l &&& c < 256 := Nat.lt_of_le_of_lt Nat.and_le_left hl
  apply Nat.eq_of_testBit_eq
  intro i
  have e1 : h * 256 + l = 2 ^ 8 * h + l := by rw [Nat.mul_comm]
  have e2 : m * 256 + c = 2 ^ 8 * m + c := by rw [Nat.mul_comm]
  have e3 : (h &&& m) * 256 + (l &&& c) = 2 ^ 8 * (h &&& m) + (l &&& c) := by rw [Nat.mul_comm]
  rw [e1, e2, e3, Nat.testBit_and, Nat.testBit_two_pow_mul_add _ (show l < 2 ^ 8 from hl), Nat.testBit_two_pow_mul_add _ (show c < 2 ^ 8 from hc), Nat.testBit_two_pow_mul_add _ (show l &&& c < 2 ^ 8 from hlc)]
  by_cases hi : i < 8
  · simp [hi, Nat.testBit_and]
  · simp [hi, Nat.testBit_and]

def p1 (m x : Nat) : Nat := (x / 2 &&& m) + (x &&& m)
def p2 (m x : Nat) : Nat := (x / 4 &&& m) + (x &&& m)
def p3 (m x : Nat) : Nat := (x / 16 + x) &&& m

set_option maxRecDepth 20000 in
theorem cross1 : ∀ b, b < 2 → ∀ l, l < 256 → (b * 128 + l / 2 &&& 85) = (l / 2 &&& 85) := by decide +kernel
set_option maxRecDepth 20000 in
theorem cross2 : ∀ b, b < 4 → ∀ l, l < 256 → (b * 64 + l / 4 &&& 51) = (l / 4 &&& 51) := by decide +kernel

theorem p1_cat (h l m : Nat) (hl : l < 256) : p1 (m * 256 + 85) (h * 256 + l) = p1 m h * 256 + p1 85 l := by
  have e : (h * 256 + l) / 2 = h / 2 * 256 + (h % 2 * 128 + l / 2) := by omega
  unfold p1
  rw [e, and_cat _ _ _ _ (by omega) (by omega), and_cat _ _ _ _ hl (by omega), cross1 _ (by omega) l hl]
  omega
theorem p2_cat (h l m : Nat) (hl : l < 256) : p2 (m * 256 + 51) (h * 256 + l) = p2 m h * 256 + p2 51 l := by
  have e : (h * 256 + l) / 4 = h / 4 * 256 + (h % 4 * 64 + l / 4) := by omega
  unfold p2
  rw [e, and_cat _ _ _ _ (by omega) (by omega), and_cat _ _ _ _ hl (by omega), cross2 _ (by omega) l hl]
  omega
set_option maxRecDepth 20000 in
theorem p1_lt : ∀ l, l < 256 → p1 85 l < 256 := by decide +kernel
set_option maxRecDepth 20000 in
theorem q_of : ∀ l, l < 256 → p2 51 (p1 85 l) ≤ 68 ∧ p2 51 (p1 85 l) % 16 ≤ 4 ∧ p3 15 (p2 51 (p1 85 l)) = cnt 8 l := by decide +kernel
theorem and15 (x : Nat) : x &&& 15 = x % 16 := Nat.and_two_pow_sub_one_eq_mod x 4
theorem p3_cat (h l m : Nat) (hl : l ≤ 68) (hh : h % 16 ≤ 4) : p3 (m * 256 + 15) (h * 256 + l) = p3 m h * 256 + p3 15 l := by
  have e : (h * 256 + l) / 16 + (h * 256 + l) = (h / 16 + h) * 256 + (h % 16 * 16 + l / 16 + l) := by omega
  unfold p3
  rw [e, and_cat _ _ _ _ (by omega) (by omega), and15, and15]
  have e2 : (h % 16 * 16 + l / 16 + l) % 16 = (l / 16 + l) % 16 := by omega
  rw [e2]

/-- The first three steps, byte by byte. -/
def sumsOf : Nat → Nat → Nat
  | 0, _ => 0
  | n + 1, x => sumsOf n (x / 256) * 256 + cnt 8 (x % 256)

theorem steps_of : ∀ (n x : Nat), x < 256 ^ n → p2 (mask 51 n) (p1 (mask 85 n) x) % 16 ≤ 4 ∧ p3 (mask 15 n) (p2 (mask 51 n) (p1 (mask 85 n) x)) = sumsOf n x
  | 0, x, hx => by
    obtain rfl : x = 0 := by simp at hx; exact hx
    decide
  | n + 1, x, hx => by
    have hq : x / 256 < 256 ^ n := by rw [Nat.pow_succ] at hx; omega
    obtain ⟨i1, i2⟩ := steps_of n (x / 256) hq
    have hl : x % 256 < 256 := by omega
    obtain ⟨a1, a2, a3⟩ := q_of (x % 256) hl
    have e : x = x / 256 * 256 + x % 256 := by omega
    have e1 : p1 (mask 85 (n + 1)) x = p1 (mask 85 n) (x / 256) * 256 + p1 85 (x % 256) := by
      rw [mask]
      conv => lhs; rw [e]
      exact p1_cat _ _ _ hl
    have e2 : p2 (mask 51 (n + 1)) (p1 (mask 85 (n + 1)) x) = p2 (mask 51 n) (p1 (mask 85 n) (x / 256)) * 256 + p2 51 (p1 85 (x % 256)) := by
      rw [e1, mask]
      exact p2_cat _ _ _ (p1_lt _ hl)
    refine ⟨?_, ?_⟩
    · rw [e2]
      omega
    · rw [e2, mask, p3_cat _ _ _ a1 i1, i2, a3, sumsOf]

theorem cnt_sums (x : Nat) : cnt 64 x = cnt 8 (x % 256) + cnt 8 (x / 256 % 256) + cnt 8 (x / 65536 % 256) + cnt 8 (x / 16777216 % 256) + cnt 8 (x / 4294967296 % 256) + cnt 8 (x / 1099511627776 % 256) + cnt 8 (x / 281474976710656 % 256) + cnt 8 (x / 72057594037927936 % 256) := by
  have key : ∀ y, cnt 8 y = cnt 8 (y % 256) := fun y => by
    have e : y = y / 256 * 256 + y % 256 := by omega
    conv => lhs; rw [e]
    exact cnt_eight _ _
  have d : ∀ m y, cnt (8 + m) y = cnt 8 (y % 256) + cnt m (y / 256) := fun m y => by rw [cnt_add, key]
  rw [show 64 = 8 + (8 + (8 + (8 + (8 + (8 + (8 + 8)))))) from rfl, d, d, d, d, d, d, d]
  simp only [Nat.div_div_eq_div_mul, Nat.reduceMul]
  rw [key (x / 72057594037927936)]
  omega

theorem sums_of (x : Nat) : sumsOf 8 x = cnt 8 (x % 256) + 256 * cnt 8 (x / 256 % 256) + 65536 * cnt 8 (x / 65536 % 256) + 16777216 * cnt 8 (x / 16777216 % 256) + 4294967296 * cnt 8 (x / 4294967296 % 256) + 1099511627776 * cnt 8 (x / 1099511627776 % 256) + 281474976710656 * cnt 8 (x / 281474976710656 % 256) + 72057594037927936 * cnt 8 (x / 72057594037927936 % 256) := by
  simp only [sumsOf, Nat.div_div_eq_div_mul, Nat.reduceMul]
  omega

theorem fold_sums (a b c d e f g h y1 y2 : Nat) (ha : a ≤ 8) (hb : b ≤ 8) (hc : c ≤ 8) (hd : d ≤ 8) (he : e ≤ 8) (hf : f ≤ 8) (hg : g ≤ 8) (hh : h ≤ 8) (y : Nat)
    (hy : y = a + 256 * b + 65536 * c + 16777216 * d + 4294967296 * e + 1099511627776 * f + 281474976710656 * g + 72057594037927936 * h)
    (h1 : y1 = y + y / 256) (h2 : y2 = y1 + y1 / 65536) : y < 1000000000000000000 ∧ y1 < 2000000000000000000 ∧ y2 < 3000000000000000000 ∧ (y2 + y2 / 4294967296) % 128 = a + b + c + d + e + f + g + h := by
  have q1 : y / 256 = b + 256 * c + 65536 * d + 16777216 * e + 4294967296 * f + 1099511627776 * g + 281474976710656 * h := by omega
  have z1 : y1 = (a + b) + 256 * (b + c) + 65536 * (c + d) + 16777216 * (d + e) + 4294967296 * (e + f) + 1099511627776 * (f + g) + 281474976710656 * (g + h) + 72057594037927936 * h := by omega
  have q2 : y1 / 65536 = (c + d) + 256 * (d + e) + 65536 * (e + f) + 16777216 * (f + g) + 4294967296 * (g + h) + 1099511627776 * h := by omega
  have z2 : y2 = (a + b + c + d) + 256 * (b + c + d + e) + 65536 * (c + d + e + f) + 16777216 * (d + e + f + g) + 4294967296 * (e + f + g + h) + 1099511627776 * (f + g + h) + 281474976710656 * (g + h) + 72057594037927936 * h := by omega
  have q3 : y2 / 4294967296 = (e + f + g + h) + 256 * (f + g + h) + 65536 * (g + h) + 16777216 * h := by omega
  refine ⟨?_, ?_, ?_, ?_⟩
  · clear q1 z1 q2 z2 q3 h1 h2
    omega
  · clear q1 q2 z2 q3 h1 h2 hy
    omega
  · clear q1 q2 z1 q3 h1 h2 hy
    omega
  · rw [q3, z2]
    clear q1 q2 z1 q3 h1 h2 hy z2
    omega

/-- What math/bits.OnesCount64 reckons. -/
theorem ones_of (x y y1 y2 : Nat) (hx : x < 18446744073709551616)
    (hy : y = p3 1085102592571150095 (p2 3689348814741910323 (p1 6148914691236517205 x))) (h1 : y1 = y + y / 256) (h2 : y2 = y1 + y1 / 65536) :
    y < 1000000000000000000 ∧ y1 < 2000000000000000000 ∧ y2 < 3000000000000000000 ∧ (y2 + y2 / 4294967296) % 128 = cnt 64 x := by
  have e := (steps_of 8 x (by rw [show 256 ^ 8 = 18446744073709551616 from rfl]; exact hx)).2
  rw [show mask 15 8 = 1085102592571150095 from rfl, show mask 51 8 = 3689348814741910323 from rfl, show mask 85 8 = 6148914691236517205 from rfl, ← hy, sums_of] at e
  have := fold_sums _ _ _ _ _ _ _ _ y1 y2 (cnt_le 8 _) (cnt_le 8 _) (cnt_le 8 _) (cnt_le 8 _) (cnt_le 8 _) (cnt_le 8 _) (cnt_le 8 _) (cnt_le 8 _) y e h1 h2
  rw [cnt_sums]
  exact this
theorem p1_le (x : Nat) (hx : x < 18446744073709551616) : p1 6148914691236517205 x < 18446744073709551616 := by
  have h1 : x / 2 &&& 6148914691236517205 ≤ 6148914691236517205 := Nat.and_le_right
  have h2 : x &&& 6148914691236517205 ≤ 6148914691236517205 := Nat.and_le_right
  unfold p1
  omega
theorem p2_le (x : Nat) : p2 3689348814741910323 x < 7378697629483820647 := by
  have h1 : x / 4 &&& 3689348814741910323 ≤ 3689348814741910323 := Nat.and_le_right
  have h2 : x &&& 3689348814741910323 ≤ 3689348814741910323 := Nat.and_le_right
  unfold p2
  omega

/-! ### Sets: four words, told by a function -/

def has (f : Nat → BitVec 64) (c : Nat) : Bool := (f (c / 64)).getLsbD (c % 64)
def putW (f : Nat → BitVec 64) (c : Nat) : Nat → BitVec 64 := fun j => if j = c / 64 then f j ||| 1#64 <<< (c % 64) else f j
def offW (f : Nat → BitVec 64) (c : Nat) : Nat → BitVec 64 := fun j => if j = c / 64 then f j &&& ~~~(1#64 <<< (c % 64)) else f j
def nilW : Nat → BitVec 64 := fun _ => 0
def allW (f : Nat → BitVec 64) (l : List Nat) : Nat → BitVec 64 := l.foldl putW f
def orW (f g : Nat → BitVec 64) : Nat → BitVec 64 := fun j => f j ||| g j
def andW (f g : Nat → BitVec 64) : Nat → BitVec 64 := fun j => f j &&& g j
def notW (f : Nat → BitVec 64) : Nat → BitVec 64 := fun j => ~~~ f j
/-- The same four words. -/
def Eq4 (f g : Nat → BitVec 64) : Prop := ∀ j, j < 4 → f j = g j

theorem Eq4.refl (f : Nat → BitVec 64) : Eq4 f f := fun _ _ => rfl
theorem Eq4.symm {f g : Nat → BitVec 64} (h : Eq4 f g) : Eq4 g f := fun j hj => (h j hj).symm
theorem Eq4.trans {f g k : Nat → BitVec 64} (h : Eq4 f g) (i : Eq4 g k) : Eq4 f k := fun j hj => (h j hj).trans (i j hj)
theorem Eq4.has {f g : Nat → BitVec 64} (h : Eq4 f g) (c : Nat) (hc : c < 256) : has f c = has g c := by
  unfold Go.Proofs.YteedmkokbapkgaaDoor.has
  rw [h (c / 64) (by omega)]
theorem eq4_of {f g : Nat → BitVec 64} (h : ∀ c, c < 256 → has f c = has g c) : Eq4 f g := by
  intro j hj
  apply BitVec.eq_of_getLsbD_eq
  intro i hi
  have := h (64 * j + i) (by omega)
  unfold has at this
  rwa [show (64 * j + i) / 64 = j by omega, show (64 * j + i) % 64 = i by omega] at this

theorem bit_one (k i : Nat) (hk : k < 64) (hi : i < 64) : (1#64 <<< k).getLsbD i = decide (i = k) := by
  rw [BitVec.getLsbD_shiftLeft]
  by_cases h : i < k
  · simp [h, hi]; omega
  · by_cases e : i = k
    · subst e; simp [hi]
    · have : i - k ≠ 0 := by omega
      simp [h, hi, e, BitVec.getLsbD_one, this]
theorem has_put (f : Nat → BitVec 64) (c d : Nat) : has (putW f c) d = (has f d || decide (d = c)) := by
  unfold has putW
  by_cases e : d / 64 = c / 64
  · rw [if_pos e, BitVec.getLsbD_or, bit_one _ _ (by omega) (by omega)]
    congr 1
    apply decide_eq_decide.2
    omega
  · rw [if_neg e]
    have : decide (d = c) = false := decide_eq_false (fun h => e (by rw [h]))
    rw [this, Bool.or_false]
theorem has_off (f : Nat → BitVec 64) (c d : Nat) : has (offW f c) d = (has f d && !decide (d = c)) := by
  unfold has offW
  by_cases e : d / 64 = c / 64
  · rw [if_pos e, BitVec.getLsbD_and, BitVec.getLsbD_not, bit_one _ _ (by omega) (by omega)]
    have h1 : decide (d % 64 < 64) = true := decide_eq_true (by omega)
    have h2 : decide (d % 64 = c % 64) = decide (d = c) := decide_eq_decide.2 (by omega)
    rw [h1, h2, Bool.true_and]
  · rw [if_neg e]
    have : decide (d = c) = false := decide_eq_false (fun h => e (by rw [h]))
    rw [this, Bool.not_false, Bool.and_true]
theorem has_nil (d : Nat) : has nilW d = false := by
  unfold has nilW
  exact BitVec.getLsbD_zero
theorem has_or (f g : Nat → BitVec 64) (d : Nat) : has (orW f g) d = (has f d || has g d) := BitVec.getLsbD_or
theorem has_and (f g : Nat → BitVec 64) (d : Nat) : has (andW f g) d = (has f d && has g d) := BitVec.getLsbD_and
theorem has_not (f : Nat → BitVec 64) (d : Nat) : has (notW f) d = !has f d := by
  unfold has notW
  rw [BitVec.getLsbD_not, decide_eq_true (show d % 64 < 64 by omega), Bool.true_and]
theorem has_all : ∀ (l : List Nat) (f : Nat → BitVec 64) (d : Nat), has (allW f l) d = (has f d || decide (d ∈ l))
  | [], f, d => by simp [allW]
  | c :: l, f, d => by
    have ih := has_all l (putW f c) d
    rw [show allW f (c :: l) = allW (putW f c) l from rfl, ih, has_put, Bool.or_assoc]
    congr 1
    by_cases h : d = c
    · simp [h]
    · simp [h]
theorem allW_snoc (f : Nat → BitVec 64) (l : List Nat) (c : Nat) : allW f (l ++ [c]) = putW (allW f l) c := by
  simp [allW, List.foldl_append]

/-- The bytes of a set, rising. -/
def elems (f : Nat → BitVec 64) : List Nat := (List.range 256).filter (has f)
theorem mem_elems (f : Nat → BitVec 64) (c : Nat) : c ∈ elems f ↔ c < 256 ∧ has f c = true := by
  unfold elems
  rw [List.mem_filter, List.mem_range]
theorem elems_congr {f g : Nat → BitVec 64} (h : Eq4 f g) : elems f = elems g := by
  unfold elems
  apply List.filter_congr
  intro c hc
  rw [h.has c (List.mem_range.1 hc)]
theorem elems_rise (f : Nat → BitVec 64) : (elems f).Pairwise (· < ·) := (List.pairwise_lt_range (n := 256)).filter _
theorem of_elems (f : Nat → BitVec 64) : Eq4 (allW nilW (elems f)) f := by
  apply eq4_of
  intro c hc
  rw [has_all, has_nil, Bool.false_or]
  cases h : has f c
  · exact decide_eq_false (fun hm => by have := ((mem_elems f c).1 hm).2; rw [h] at this; cases this)
  · exact decide_eq_true ((mem_elems f c).2 ⟨hc, h⟩)

/-- How many bits of a word are 1. -/
def pop (x : BitVec 64) : Nat := cnt 64 x.toNat
theorem pop_le (x : BitVec 64) : pop x ≤ 64 := cnt_le 64 _
theorem word_len (f : Nat → BitVec 64) (q : Nat) : ((List.range 64).filter fun i => has f (64 * q + i)).length = pop (f q) := by
  unfold pop
  rw [← cnt_range]
  congr 1
  apply List.filter_congr
  intro i hi
  have h := List.mem_range.1 hi
  unfold has
  rw [show (64 * q + i) / 64 = q by omega, show (64 * q + i) % 64 = i by omega]
  rfl
theorem elems_len (f : Nat → BitVec 64) : (elems f).length = pop (f 0) + pop (f 1) + pop (f 2) + pop (f 3) := by
  have e : List.range 256 = (List.range 64).map (64 * 0 + ·) ++ (List.range 64).map (64 * 1 + ·) ++ (List.range 64).map (64 * 2 + ·) ++ (List.range 64).map (64 * 3 + ·) := by decide +kernel
  unfold elems
  rw [e]
  simp only [List.filter_append, List.filter_map, List.length_append, List.length_map]
  have g : ∀ q, ((List.range 64).filter (has f ∘ (64 * q + ·))).length = pop (f q) := fun q => word_len f q
  rw [g, g, g, g]
theorem len_count (f : Nat → BitVec 64) : (elems f).length = (List.range 256).countP (has f) := by
  unfold elems
  rw [List.countP_eq_length_filter]

theorem elems_nil_iff (f : Nat → BitVec 64) : elems f = [] ↔ Eq4 f nilW := by
  constructor
  · intro h
    apply eq4_of
    intro c hc
    rw [has_nil]
    cases e : has f c
    · rfl
    · have := (mem_elems f c).2 ⟨hc, e⟩
      rw [h] at this
      cases this
  · intro h
    rw [elems_congr h]
    decide +kernel

/-- The least one, by the first word that is not 0 and its lowest bit. -/
theorem elems_least (f : Nat → BitVec 64) (q k : Nat) (hq : q < 4) (hk : k < 64) (h0 : ∀ j, j < q → f j = 0) (h1 : ∀ i, i < k → (f q).getLsbD i = false) (h2 : (f q).getLsbD k = true) :
    ∃ l, elems f = (64 * q + k) :: l ∧ elems (offW f (64 * q + k)) = l := by
  have hm : has f (64 * q + k) = true := by
    unfold has
    rw [show (64 * q + k) / 64 = q by omega, show (64 * q + k) % 64 = k by omega]
    exact h2
  have hlow : ∀ c, c < 64 * q + k → has f c = false := by
    intro c hc
    unfold has
    by_cases h : c / 64 < q
    · rw [h0 _ h]
      exact BitVec.getLsbD_zero
    · have e : c / 64 = q := by omega
      rw [e]
      exact h1 _ (by omega)
  have e : List.range 256 = List.range (64 * q + k) ++ (64 * q + k) :: (List.range (255 - (64 * q + k))).map (64 * q + k + 1 + ·) := by
    have e1 : 256 = (64 * q + k) + ((255 - (64 * q + k)) + 1) := by omega
    conv => lhs; rw [e1]
    rw [List.range_add, List.range_succ_eq_map]
    simp only [List.map_cons, Nat.add_zero, List.map_map]
    congr 2
    apply List.map_congr_left
    intro x _
    simp only [Function.comp]
    omega
  have d1 : (List.range (64 * q + k)).filter (has f) = [] := by
    rw [List.filter_eq_nil_iff]
    intro c hc
    rw [hlow c (List.mem_range.1 hc)]
    decide
  have d2 : (List.range (64 * q + k)).filter (has (offW f (64 * q + k))) = [] := by
    rw [List.filter_eq_nil_iff]
    intro c hc
    rw [has_off, hlow c (List.mem_range.1 hc)]
    simp
  have d3 : has (offW f (64 * q + k)) (64 * q + k) = false := by
    rw [has_off]
    simp
  refine ⟨((List.range (255 - (64 * q + k))).map (64 * q + k + 1 + ·)).filter (has f), ?_, ?_⟩
  · unfold elems
    rw [e, List.filter_append, d1, List.filter_cons, if_pos hm, List.nil_append]
  · unfold elems
    rw [e, List.filter_append, d2, List.filter_cons, if_neg (by rw [d3]; decide), List.nil_append]
    apply List.filter_congr
    intro c hc
    obtain ⟨x, _, rfl⟩ := List.mem_map.1 hc
    rw [has_off, decide_eq_false (show ¬ 64 * q + k + 1 + x = 64 * q + k by omega)]
    simp

end Go.Proofs.YteedmkokbapkgaaDoor
