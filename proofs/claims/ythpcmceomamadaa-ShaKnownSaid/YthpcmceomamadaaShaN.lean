/- Blocks and digests: the plain mathematics. No program in it. -/
import Derived.Test.YthpcmceomamadaaShaM
namespace Go.Proofs.Ythpcmceomamadaa

/-- Turned: the n lowest bits became the highest ones. -/
def rr (x : BitVec 32) (n : Nat) : BitVec 32 := x >>> n ||| x <<< (32 - n)
def sm0 (x : BitVec 32) : BitVec 32 := rr x 7 ^^^ rr x 18 ^^^ x >>> 3
def sm1 (x : BitVec 32) : BitVec 32 := rr x 17 ^^^ rr x 19 ^^^ x >>> 10
def sb0 (x : BitVec 32) : BitVec 32 := rr x 2 ^^^ rr x 13 ^^^ rr x 22
def sb1 (x : BitVec 32) : BitVec 32 := rr x 6 ^^^ rr x 11 ^^^ rr x 25

/-- n bytes from place m on, the highest first. -/
def acc4 (b : List UInt8) (m : Nat) : Nat → BitVec 32
  | 0 => 0
  | n + 1 => acc4 b m n <<< 8 ||| BitVec.ofNat 32 (b.getD (m + n) 0).toNat
/-- A word, k bytes being told. -/
def cellA (b : List UInt8) (k j : Nat) : BitVec 32 := acc4 b (4 * j) (min 4 (k - 4 * j))
def nextW (b : List UInt8) (l : List (BitVec 32)) (n : Nat) : BitVec 32 :=
  if n < 16 then acc4 b (4 * n) 4 else l.getD (n - 16) 0 + sm0 (l.getD (n - 15) 0) + l.getD (n - 7) 0 + sm1 (l.getD (n - 2) 0)
/-- The first n words of a block. -/
def schL (b : List UInt8) : Nat → List (BitVec 32)
  | 0 => []
  | n + 1 => schL b n ++ [nextW b (schL b n) n]
def schW (b : List UInt8) (i : Nat) : BitVec 32 := (schL b (i + 1)).getD i 0

theorem schL_len (b : List UInt8) : ∀ n, (schL b n).length = n
  | 0 => rfl
  | n + 1 => by simp [schL, schL_len b n]
theorem schL_get (b : List UInt8) (i : Nat) : ∀ n, i < n → (schL b n).getD i 0 = schW b i
  | 0, h => by omega
  | n + 1, h => by
    by_cases e : i = n
    · subst e; rfl
    · have hl : i < (schL b n).length := by rw [schL_len]; omega
      rw [← schL_get b i n (by omega), schL, List.getD_eq_getElem?_getD, List.getD_eq_getElem?_getD, List.getElem?_append_left hl]
theorem schW_eq (b : List UInt8) (n : Nat) : schW b n = nextW b (schL b n) n := by
  unfold schW
  rw [schL, List.getD_eq_getElem?_getD, List.getElem?_append_right (by rw [schL_len]; omega), schL_len]
  simp
theorem schW_low (b : List UInt8) (n : Nat) (h : n < 16) : schW b n = acc4 b (4 * n) 4 := by
  rw [schW_eq, nextW, if_pos h]
theorem schW_high (b : List UInt8) (n : Nat) (h : 16 ≤ n) : schW b n = schW b (n - 16) + sm0 (schW b (n - 15)) + schW b (n - 7) + sm1 (schW b (n - 2)) := by
  rw [schW_eq, nextW, if_neg (by omega), schL_get _ _ _ (by omega), schL_get _ _ _ (by omega), schL_get _ _ _ (by omega), schL_get _ _ _ (by omega)]

theorem schW_at (b : List UInt8) {k p15 p2 p16 p7 : Nat} (h : 16 ≤ k) (h1 : k = p15 + 15) (h2 : k = p2 + 2) (h3 : k = p16 + 16) (h4 : k = p7 + 7) :
    schW b k = schW b p16 + sm0 (schW b p15) + schW b p7 + sm1 (schW b p2) := by
  obtain rfl : p16 = k - 16 := by omega
  obtain rfl : p15 = k - 15 := by omega
  obtain rfl : p7 = k - 7 := by omega
  obtain rfl : p2 = k - 2 := by omega
  exact schW_high b k h

/-- Eight words. -/
structure S8 where
  a : BitVec 32
  b : BitVec 32
  c : BitVec 32
  d : BitVec 32
  e : BitVec 32
  f : BitVec 32
  g : BitVec 32
  h : BitVec 32
def S8.get (s : S8) : Nat → BitVec 32
  | 0 => s.a
  | 1 => s.b
  | 2 => s.c
  | 3 => s.d
  | 4 => s.e
  | 5 => s.f
  | 6 => s.g
  | 7 => s.h
  | _ => 0
def S8.of (f : Nat → BitVec 32) : S8 := ⟨f 0, f 1, f 2, f 3, f 4, f 5, f 6, f 7⟩
theorem S8.ext_get {s t : S8} (h : ∀ j, j < 8 → s.get j = t.get j) : s = t := by
  obtain ⟨a, b, c, d, e, f, g, i⟩ := s
  obtain ⟨a', b', c', d', e', f', g', i'⟩ := t
  have h0 : a = a' := h 0 (by omega)
  have h1 : b = b' := h 1 (by omega)
  have h2 : c = c' := h 2 (by omega)
  have h3 : d = d' := h 3 (by omega)
  have h4 : e = e' := h 4 (by omega)
  have h5 : f = f' := h 5 (by omega)
  have h6 : g = g' := h 6 (by omega)
  have h7 : i = i' := h 7 (by omega)
  subst h0 h1 h2 h3 h4 h5 h6 h7
  rfl
theorem S8.of_get (f : Nat → BitVec 32) (j : Nat) (hj : j < 8) : (S8.of f).get j = f j := by
  match j, hj with
  | 0, _ => rfl
  | 1, _ => rfl
  | 2, _ => rfl
  | 3, _ => rfl
  | 4, _ => rfl
  | 5, _ => rfl
  | 6, _ => rfl
  | 7, _ => rfl

def ch3 (e f g : BitVec 32) : BitVec 32 := e &&& f ^^^ ~~~ e &&& g
def mj3 (a b c : BitVec 32) : BitVec 32 := a &&& b ^^^ a &&& c ^^^ b &&& c
def tOne (k w : BitVec 32) (s : S8) : BitVec 32 := s.h + sb1 s.e + ch3 s.e s.f s.g + k + w
def tTwo (s : S8) : BitVec 32 := sb0 s.a + mj3 s.a s.b s.c
/-- A round. -/
def stepE (k w : BitVec 32) (s : S8) : S8 := ⟨tOne k w s + tTwo s, s.a, s.b, s.c, s.d + tOne k w s, s.e, s.f, s.g⟩
/-- The first i rounds. -/
def goE (b : List UInt8) (s : S8) : Nat → S8
  | 0 => s
  | i + 1 => stepE (kW i) (schW b i) (goE b s i)
/-- What a block makes of eight words. -/
def blockE (h : S8) (b : List UInt8) : S8 := S8.of fun j => h.get j + (goE b h 64).get j
def beginE : S8 := S8.of hW

/-- How long bytes are when they are padded. -/
def padN (n : Nat) : Nat := (n + 72) / 64 * 64
/-- Padded, i bytes of the count being there. -/
def padI (l : List UInt8) (i j : Nat) : UInt8 :=
  if j < l.length then l.getD j 0 else if j = l.length then 128 else if padN l.length - i ≤ j then UInt8.ofNat (8 * l.length / 2 ^ (8 * (padN l.length - 1 - j))) else 0
def padE (l : List UInt8) : List UInt8 := (List.range (padN l.length)).map (padI l 8)
theorem padN_room (n : Nat) : n + 9 ≤ padN n ∧ padN n < n + 73 ∧ padN n % 64 = 0 := by
  unfold padN
  omega
theorem padE_len (l : List UInt8) : (padE l).length = padN l.length := by simp [padE]
theorem padI_step (l : List UInt8) (i j : Nat) (hi : i < 8) (hj : j < padN l.length) : padI l (i + 1) j = if j = padN l.length - 1 - i then UInt8.ofNat (8 * l.length / 2 ^ (8 * i)) else padI l i j := by
  obtain ⟨h1, h2, h3⟩ := padN_room l.length
  unfold padI
  by_cases h : j = padN l.length - 1 - i
  · rw [if_pos h, if_neg (by omega), if_neg (by omega), if_pos (by omega)]
    have e : padN l.length - 1 - j = i := by omega
    rw [e]
  · rw [if_neg h]
    by_cases a : j < l.length
    · rw [if_pos a, if_pos a]
    · rw [if_neg a, if_neg a]
      by_cases b : j = l.length
      · rw [if_pos b, if_pos b]
      · rw [if_neg b, if_neg b]
        by_cases c : padN l.length - i ≤ j
        · rw [if_pos (by omega), if_pos c]
        · rw [if_neg (by omega), if_neg c]
theorem padI_zero (l : List UInt8) (j : Nat) (hj : j < padN l.length) : padI l 0 j = if j = l.length then 128 else if j < l.length then l.getD j 0 else 0 := by
  unfold padI
  by_cases a : j < l.length
  · rw [if_pos a, if_neg (by omega), if_pos a]
  · rw [if_neg a]
    by_cases b : j = l.length
    · rw [if_pos b, if_pos b]
    · rw [if_neg b, if_neg b, if_neg (by omega), if_neg a]

/-- The k-th block. -/
def blockAt (p : List UInt8) (k : Nat) : List UInt8 := (p.drop (64 * k)).take 64
/-- What the first k blocks make of eight words. -/
def foldE (h : S8) (p : List UInt8) : Nat → S8
  | 0 => h
  | k + 1 => blockE (foldE h p k) (blockAt p k)
/-- The bytes of eight words. -/
def byteOf (s : S8) (i : Nat) : UInt8 := UInt8.ofNat ((s.get (i / 4) >>> (24 - 8 * (i % 4))).toNat % 256)
def stateE (l : List UInt8) : S8 := foldE beginE (padE l) (padN l.length / 64)
def digE (l : List UInt8) : List UInt8 := (List.range 32).map (byteOf (stateE l))

end Go.Proofs.Ythpcmceomamadaa
