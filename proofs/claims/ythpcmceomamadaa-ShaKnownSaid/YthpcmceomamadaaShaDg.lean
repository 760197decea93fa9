/- Numbers as digits of 16 bits: the plain mathematics of the document's own roots. No program in it. -/
import Derived.Test.YthpcmceomamadaaShaM
namespace Go.Proofs.Ythpcmceomamadaa

/-- The number that the first n digits make, the lowest one first. -/
def val (f : Nat → Nat) : Nat → Nat
  | 0 => 0
  | n + 1 => val f n + f n * 65536 ^ n
theorem val_congr {f g : Nat → Nat} : ∀ n, (∀ j, j < n → f j = g j) → val f n = val g n
  | 0, _ => rfl
  | n + 1, h => by rw [val, val, val_congr n (fun j hj => h j (by omega)), h n (by omega)]
theorem val_lt {f : Nat → Nat} : ∀ n, (∀ j, j < n → f j < 65536) → val f n < 65536 ^ n
  | 0, _ => by simp [val]
  | n + 1, h => by
    have h1 := val_lt n (fun j hj => h j (by omega))
    have h2 : f n * 65536 ^ n ≤ 65535 * 65536 ^ n := Nat.mul_le_mul_right _ (by have := h n (by omega); omega)
    rw [val, Nat.pow_succ]
    omega
def upd (f : Nat → Nat) (i x : Nat) (j : Nat) : Nat := if j = i then x else f j
theorem val_upd (f : Nat → Nat) (i x : Nat) : ∀ n, i < n → val (upd f i x) n + f i * 65536 ^ i = val f n + x * 65536 ^ i
  | 0, h => by omega
  | n + 1, h => by
    rw [val, val]
    by_cases e : i = n
    · subst e
      have h1 : val (upd f i x) i = val f i := val_congr i (fun j hj => by unfold upd; rw [if_neg (by omega)])
      have h2 : upd f i x i = x := by unfold upd; rw [if_pos rfl]
      rw [h1, h2]
      omega
    · have h1 := val_upd f i x n (by omega)
      have h2 : upd f i x n = f n := by unfold upd; rw [if_neg (fun h => e h.symm)]
      rw [h2]
      omega
theorem val_zeros {f : Nat → Nat} (n : Nat) (h : ∀ j, j < n → f j = 0) : val f n = 0 := by
  induction n with
  | zero => rfl
  | succ n ih => rw [val, ih (fun j hj => h j (by omega)), h n (by omega)]; simp

def Digs (f : Nat → Nat) (n : Nat) : Prop := ∀ j, j < n → f j < 65536

/-- Of a product: the first i digits of the one number are worked off. -/
structure TOut (fa fb : Nat → Nat) (m n i : Nat) (f : Nat → Nat) : Prop where
  digs : Digs f (m + n)
  zero : ∀ j, i + n ≤ j → j < m + n → f j = 0
  sum : val f (m + n) = val fa i * val fb n
/-- And of the next one k steps. -/
structure TIn (fa fb : Nat → Nat) (m n i k : Nat) (f : Nat → Nat) (c : Nat) : Prop where
  digs : Digs f (m + n)
  zero : ∀ j, i + n ≤ j → j < m + n → f j = 0
  carry : c < 65536
  sum : val f (m + n) + c * 65536 ^ (i + k) = val fa i * val fb n + fa i * 65536 ^ i * val fb k
theorem TOut.start (fa fb : Nat → Nat) (m n : Nat) : TOut fa fb m n 0 (fun _ => 0) :=
  ⟨fun _ _ => by omega, fun _ _ _ => rfl, by rw [val_zeros _ (fun _ _ => rfl)]; simp [val]⟩
theorem TOut.go {fa fb : Nat → Nat} {m n i : Nat} {f : Nat → Nat} (h : TOut fa fb m n i f) : TIn fa fb m n i 0 f 0 :=
  ⟨h.digs, h.zero, by omega, by rw [h.sum]; simp [val]⟩
theorem TIn.step {fa fb : Nat → Nat} {m n i k c s : Nat} {f : Nat → Nat} (h : TIn fa fb m n i k f c) (hi : i < m) (hk : k < n) (ha : Digs fa m) (hb : Digs fb n) (hs : f (i + k) + fa i * fb k + c = s) :
    s < 4294967296 ∧ TIn fa fb m n i (k + 1) (upd f (i + k) (s % 65536)) (s / 65536) := by
  have h1 : fa i * fb k ≤ 65535 * 65535 := Nat.mul_le_mul (by have := ha i hi; omega) (by have := hb k hk; omega)
  have h2 := h.digs (i + k) (by omega)
  have h3 := h.carry
  refine ⟨by omega, fun j hj => ?_, fun j h1 h2 => ?_, by omega, ?_⟩
  · unfold upd
    split
    · omega
    · exact h.digs j hj
  · unfold upd
    rw [if_neg (by omega)]
    exact h.zero j h1 h2
  · have e1 := val_upd f (i + k) (s % 65536) (m + n) (by omega)
    have e2 := h.sum
    have e3 : s = s % 65536 + s / 65536 * 65536 := by omega
    have e4 : s / 65536 * 65536 ^ (i + (k + 1)) = s / 65536 * 65536 * 65536 ^ (i + k) := by
      rw [← Nat.add_assoc, Nat.pow_succ, Nat.mul_assoc, Nat.mul_comm 65536]
    have e5 : fa i * 65536 ^ i * val fb (k + 1) = fa i * 65536 ^ i * val fb k + fa i * fb k * 65536 ^ (i + k) := by
      rw [val, Nat.mul_add, Nat.pow_add]
      congr 1
      rw [Nat.mul_assoc, Nat.mul_assoc]
      congr 1
      rw [Nat.mul_left_comm]
    have e6 : s * 65536 ^ (i + k) = s % 65536 * 65536 ^ (i + k) + s / 65536 * 65536 * 65536 ^ (i + k) := by
      rw [← Nat.add_mul, ← e3]
    have e7 : s * 65536 ^ (i + k) = f (i + k) * 65536 ^ (i + k) + fa i * fb k * 65536 ^ (i + k) + c * 65536 ^ (i + k) := by
      rw [← hs, Nat.add_mul, Nat.add_mul]
    rw [e4, e5]
    omega
theorem TIn.done {fa fb : Nat → Nat} {m n i c : Nat} {f : Nat → Nat} (h : TIn fa fb m n i n f c) (hi : i < m) : f (i + n) = 0 ∧ TOut fa fb m n (i + 1) (upd f (i + n) c) := by
  have h0 := h.zero (i + n) (Nat.le_refl _) (by omega)
  refine ⟨h0, fun j hj => ?_, fun j h1 h2 => ?_, ?_⟩
  · unfold upd
    have := h.carry
    split
    · omega
    · exact h.digs j hj
  · unfold upd
    rw [if_neg (by omega)]
    exact h.zero j (by omega) h2
  · have e1 := val_upd f (i + n) c (m + n) (by omega)
    rw [h0] at e1
    have e2 := h.sum
    rw [val, Nat.add_mul]
    omega

/-- Of two numbers, one digit told greater with all above it the same. -/
theorem val_order {f g : Nat → Nat} {i : Nat} : ∀ n, i < n → Digs f n → Digs g n → (∀ j, i < j → j < n → f j = g j) → f i < g i → val f n < val g n
  | 0, h, _, _, _, _ => by omega
  | n + 1, h, hf, hg, he, hl => by
    rw [val, val]
    by_cases e : i = n
    · subst e
      have h1 := val_lt i (fun j hj => hf j (by omega))
      have h2 : (f i + 1) * 65536 ^ i ≤ g i * 65536 ^ i := Nat.mul_le_mul_right _ hl
      rw [Nat.add_mul] at h2
      omega
    · rw [he n (by omega) (by omega)]
      have := val_order n (by omega) (fun j hj => hf j (by omega)) (fun j hj => hg j (by omega)) (fun j h1 h2 => he j h1 (by omega)) hl
      omega
theorem val_more {f : Nat → Nat} (n : Nat) : ∀ d, (∀ j, n ≤ j → f j = 0) → val f (n + d) = val f n
  | 0, _ => rfl
  | d + 1, h => by rw [← Nat.add_assoc, val, val_more n d h, h _ (by omega)]; simp
/-- A list of digits, noughts behind it. -/
def wide (f : Nat → Nat) (n j : Nat) : Nat := if j < n then f j else 0
theorem wide_val (f : Nat → Nat) {n N : Nat} (h : n ≤ N) : val (wide f n) N = val f n := by
  obtain ⟨d, rfl⟩ := Nat.exists_eq_add_of_le h
  rw [val_more n d (fun j hj => by unfold wide; rw [if_neg (by omega)])]
  exact val_congr n (fun j hj => by unfold wide; rw [if_pos hj])
theorem wide_digs {f : Nat → Nat} {n : Nat} (h : Digs f n) (N : Nat) : Digs (wide f n) N := fun j _ => by
  unfold wide
  split
  · exact h j (by assumption)
  · omega

/-- y's three digits. -/
def dig3 (y j : Nat) : Nat := y / 65536 ^ j % 65536
theorem dig3_digs (y : Nat) (n : Nat) : Digs (dig3 y) n := fun j _ => Nat.mod_lt _ (by omega)
theorem dig3_val {y : Nat} (h : y < 281474976710656) : val (dig3 y) 3 = y := by
  simp only [val, dig3]
  omega
theorem most_val (n p : Nat) (f : Nat → Nat) (h0 : ∀ j, j < 2 * p → f j = 0) (h1 : f (2 * p) = n) : val f (2 * p + 1) = n * 2 ^ (32 * p) := by
  rw [val, val_zeros _ h0, h1, Nat.zero_add, Nat.pow_mul, Nat.pow_mul]
theorem above_isW {y p n V M : Nat} (hV : V = y ^ p) (hM : M = n * 2 ^ (32 * p)) : isW y p n = !decide (M < V) := by
  subst hV hM
  unfold isW
  rw [← decide_not, decide_eq_decide]
  omega

end Go.Proofs.Ythpcmceomamadaa
