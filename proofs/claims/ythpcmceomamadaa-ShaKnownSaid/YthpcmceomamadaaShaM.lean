/- Roots and primes: the plain mathematics. No program in it. -/
namespace Go.Proofs.Ythpcmceomamadaa

/-- Is x^p at most n times 2^(32 p)? -/
def isW (x p n : Nat) : Bool := decide (x ^ p ≤ n * 2 ^ (32 * p))
/-- Bit by bit, from the k-th one on, on x. -/
def rootGo (p n : Nat) : Nat → Nat → Nat
  | 0, x => x
  | k + 1, x => if isW (x + 2 ^ k) p n then rootGo p n k (x + 2 ^ k) else rootGo p n k x
def rootN (p n : Nat) : Nat := rootGo p n 37 0
def rootW (p n : Nat) : BitVec 32 := BitVec.ofNat 32 (rootN p n)

theorem rootGo_yes {p n k x : Nat} (h : isW (x + 2 ^ k) p n = true) : rootGo p n (k + 1) x = rootGo p n k (x + 2 ^ k) := by
  rw [rootGo, if_pos h]
theorem rootGo_no {p n k x : Nat} (h : isW (x + 2 ^ k) p n = false) : rootGo p n (k + 1) x = rootGo p n k x := by
  rw [rootGo, if_neg (by simp [h])]
theorem rootGo_lt (p n : Nat) : ∀ k x, rootGo p n k x < x + 2 ^ k
  | 0, x => by simp [rootGo]
  | k + 1, x => by
    have h1 := rootGo_lt p n k (x + 2 ^ k)
    have h2 := rootGo_lt p n k x
    have : 2 ^ (k + 1) = 2 ^ k + 2 ^ k := by rw [Nat.pow_succ]; omega
    have := Nat.two_pow_pos k
    rw [rootGo]
    split <;> omega
theorem rootN_lt (p n : Nat) : rootN p n < 137438953472 := by
  have := rootGo_lt p n 37 0
  unfold rootN
  omega
theorem isW_high {p n x : Nat} (hp : p = 2 ∨ p = 3) (hn : n ≤ 1000) (hx : 137438953472 ≤ x) : isW x p n = false := by
  unfold isW
  simp only [decide_eq_false_iff_not, Nat.not_le]
  have h1 : 137438953472 ^ p ≤ x ^ p := Nat.pow_le_pow_left hx p
  rcases hp with rfl | rfl
  · omega
  · omega
theorem root41 {p n : Nat} (hp : p = 2 ∨ p = 3) (hn : n ≤ 1000) : rootGo p n 41 0 = rootN p n := by
  unfold rootN
  rw [rootGo_no (isW_high hp hn (by omega)), rootGo_no (isW_high hp hn (by omega)), rootGo_no (isW_high hp hn (by omega)), rootGo_no (isW_high hp hn (by omega))]

/-- Of a number in two parts. -/
theorem two_parts {N H L B : Nat} (h : N = H * 18446744073709551616 + L) (hL : L < 18446744073709551616) : N ≤ B * 18446744073709551616 ↔ H < B ∨ (H = B ∧ L = 0) := by
  omega
theorem isW_two {x n H L : Nat} (h1 : x * x / 18446744073709551616 = H) (h2 : x * x % 18446744073709551616 = L) : isW x 2 n = decide (H < n ∨ (H = n ∧ L = 0)) := by
  unfold isW
  rw [decide_eq_decide, Nat.pow_two]
  exact two_parts (by omega) (by omega)
theorem isW_three {x n H L H2 L2 : Nat} (h1 : x * x / 18446744073709551616 = H) (h2 : x * x % 18446744073709551616 = L) (h3 : L * x / 18446744073709551616 = H2) (h4 : L * x % 18446744073709551616 = L2) :
    isW x 3 n = decide (H2 + H * x < n * 4294967296 ∨ (H2 + H * x = n * 4294967296 ∧ L2 = 0)) := by
  unfold isW
  rw [decide_eq_decide]
  have e : x ^ 3 = (H2 + H * x) * 18446744073709551616 + L2 := by
    have a : x * x = H * 18446744073709551616 + L := by omega
    have b : L * x = H2 * 18446744073709551616 + L2 := by omega
    have c : x ^ 3 = x * x * x := by rw [Nat.pow_succ, Nat.pow_two]
    rw [c, a, Nat.add_mul, b, Nat.add_mul, Nat.mul_right_comm]
    omega
  have f : n * 2 ^ (32 * 3) = n * 4294967296 * 18446744073709551616 := by omega
  rw [e, f]
  exact two_parts rfl (by omega)

/-- The first primes. -/
def primes : List Nat := [2, 3, 5, 7, 11, 13, 17, 19, 23, 29, 31, 37, 41, 43, 47, 53, 59, 61, 67, 71, 73, 79, 83, 89, 97, 101, 103, 107, 109, 113, 127, 131,
  137, 139, 149, 151, 157, 163, 167, 173, 179, 181, 191, 193, 197, 199, 211, 223, 227, 229, 233, 239, 241, 251, 257, 263, 269, 271, 277, 281, 283, 293, 307, 311]
def prB (n : Nat) : Bool := decide (n ∈ primes)
/-- How many there are below. -/
def cnt (m : Nat) : Nat := (primes.filter fun q => decide (q < m)).length
def prime (i : Nat) : Nat := primes.getD i 2

theorem cnt_two : cnt 2 = 0 := by decide +kernel
theorem cnt_all : cnt 312 = 64 := by decide +kernel
theorem cnt_no : ∀ m, m < 312 → prB m = false → cnt (m + 1) = cnt m := by decide +kernel
theorem cnt_yes : ∀ m, m < 312 → prB m = true → cnt (m + 1) = cnt m + 1 ∧ prime (cnt m) = m := by decide +kernel
theorem prime_bound : ∀ i, i < 64 → 2 ≤ prime i ∧ prime i ≤ 311 := by decide +kernel
theorem cnt_le : ∀ m, m < 313 → cnt m ≤ 64 := by decide +kernel

def noDiv : Bool := primes.all fun q => (List.range q).all fun d => Nat.blt d 2 || !(Nat.beq (q % d) 0)
theorem noDiv_holds : noDiv = true := by decide +kernel
theorem pr_no {n d : Nat} (h2 : 2 ≤ d) (h3 : d < n) (h4 : n % d = 0) : prB n = false := by
  unfold prB
  simp only [decide_eq_false_iff_not]
  intro hm
  have h := List.all_eq_true.1 noDiv_holds n hm
  have h' := List.all_eq_true.1 h d (by simpa using h3)
  simp [Nat.blt_eq, h4] at h'
  omega
def hasDiv : Bool := (List.range 312).all fun n => Nat.blt n 2 || primes.elem n || (List.range 18).any fun d => Nat.ble 2 d && (Nat.ble (d * d) n && Nat.beq (n % d) 0)
theorem hasDiv_holds : hasDiv = true := by decide +kernel
theorem pr_yes_bd (n : Nat) (h1 : n < 312) (h2 : 2 ≤ n) (h3 : ∀ d, d < 18 → 2 ≤ d → d * d ≤ n → n % d ≠ 0) : prB n = true := by
  have h := List.all_eq_true.1 hasDiv_holds n (by simpa using h1)
  simp only [Bool.or_eq_true, List.any_eq_true, Bool.and_eq_true, List.mem_range, Nat.blt_eq, Nat.ble_eq, List.elem_eq_mem, decide_eq_true_eq] at h
  rcases h with (h | h) | ⟨d, hd, h4, h5, h6⟩
  · omega
  · unfold prB; simpa using h
  · exact absurd (Nat.eq_of_beq_eq_true h6) (h3 d hd h4 h5)
theorem pr_yes {n d : Nat} (h1 : 2 ≤ n) (h2 : n ≤ 311) (hd : n < d * d) (h : ∀ e, 2 ≤ e → e < d → n % e ≠ 0) : prB n = true := by
  refine pr_yes_bd n (by omega) h1 fun e _ he hle => h e he ?_
  rcases Nat.lt_or_ge e d with h | h
  · exact h
  · have := Nat.mul_le_mul h h
    omega

/-- The words of the rounds; those with which a digest begins. -/
def kW (i : Nat) : BitVec 32 := rootW 3 (prime i)
def hW (i : Nat) : BitVec 32 := rootW 2 (prime i)
def kE : List (BitVec 32) := (List.range 64).map kW

theorem finTake (c k : Nat) (h : k < c) : (List.finRange c).take (k + 1) = (List.finRange c).take k ++ [⟨k, h⟩] := by
  rw [List.take_succ_eq_append_getElem (by simpa using h)]
  simp
theorem finAll (c : Nat) : (List.finRange c).take c = List.finRange c := List.take_of_length_le (by simp)

end Go.Proofs.Ythpcmceomamadaa
