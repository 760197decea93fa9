/- The sum of bytes as words of 32 bits: one bit's step is linear and can be undone; so a burst of at most 32 bits is told. Plain words, no program. -/
import Derived.Test.YtncpkblgiepdpaaGreatRows
set_option linter.unusedVariables false
namespace Go.Proofs.YtncpkblgiepdpaaGreat

/-- The polynomial. -/
def poly : BitVec 32 := 0xEDB88320#32
/-- A bit falls out. -/
def stp (x : BitVec 32) : BitVec 32 := x >>> 1 ^^^ (if x.getLsbD 0 then poly else 0#32)
/-- The same, undone. -/
def ust (x : BitVec 32) : BitVec 32 := if x.getLsbD 31 then ((x ^^^ poly) <<< 1) ||| 1#32 else x <<< 1

theorem poly_top : poly.getLsbD 31 = true := by decide

theorem stp_bit (x : BitVec 32) (i : Nat) (hi : i < 32) : (stp x).getLsbD i = (x.getLsbD (i + 1) ^^ (x.getLsbD 0 && poly.getLsbD i)) := by
  unfold stp
  by_cases h : x.getLsbD 0 = true
  · rw [if_pos h]
    simp [h, Nat.add_comm]
  · rw [if_neg h]
    simp at h
    simp [h, Nat.add_comm]

theorem stp_xor (x y : BitVec 32) : stp (x ^^^ y) = stp x ^^^ stp y := by
  apply BitVec.eq_of_getLsbD_eq
  intro i hi
  rw [BitVec.getLsbD_xor, stp_bit _ i hi, stp_bit x i hi, stp_bit y i hi]
  simp only [BitVec.getLsbD_xor]
  cases x.getLsbD (i + 1) <;> cases y.getLsbD (i + 1) <;> cases x.getLsbD 0 <;> cases y.getLsbD 0 <;> cases poly.getLsbD i <;> rfl

theorem ust_zero (x : BitVec 32) : (ust x).getLsbD 0 = x.getLsbD 31 := by
  unfold ust
  by_cases h : x.getLsbD 31 = true
  · rw [if_pos h]; simp [h]
  · rw [if_neg h]; simp at h; simp [h]
theorem ust_succ (x : BitVec 32) (i : Nat) (hi : i + 1 < 32) : (ust x).getLsbD (i + 1) = (x.getLsbD i ^^ (x.getLsbD 31 && poly.getLsbD i)) := by
  unfold ust
  have hs : ∀ y : BitVec 32, (y <<< 1).getLsbD (i + 1) = y.getLsbD i := fun y => by
    rw [BitVec.getLsbD_shiftLeft]
    simp [hi]
  by_cases h : x.getLsbD 31 = true
  · have h1 : (1#32).getLsbD (i + 1) = false := by
      rw [BitVec.getLsbD_ofNat, Nat.testBit_succ]
      simp
    rw [if_pos h, BitVec.getLsbD_or, hs, h1, BitVec.getLsbD_xor, h]
    simp
  · rw [if_neg h, hs]
    simp only [Bool.not_eq_true] at h
    rw [h]
    simp

theorem stp_ust (x : BitVec 32) : stp (ust x) = x := by
  apply BitVec.eq_of_getLsbD_eq
  intro i hi
  rw [stp_bit _ i hi, ust_zero]
  by_cases h : i + 1 < 32
  · rw [ust_succ x i h]
    cases x.getLsbD i <;> cases x.getLsbD 31 <;> cases poly.getLsbD i <;> rfl
  · obtain rfl : i = 31 := by omega
    rw [BitVec.getLsbD_of_ge _ _ (by omega), poly_top]
    simp
theorem ust_stp (x : BitVec 32) : ust (stp x) = x := by
  apply BitVec.eq_of_getLsbD_eq
  intro i hi
  have h31 : (stp x).getLsbD 31 = x.getLsbD 0 := by
    rw [stp_bit x 31 (by omega), BitVec.getLsbD_of_ge _ _ (by omega), poly_top]
    simp
  rcases i with _ | i
  · rw [ust_zero, h31]
  · rw [ust_succ _ i hi, stp_bit x i (by omega), h31]
    cases x.getLsbD (i + 1) <;> cases x.getLsbD 0 <;> cases poly.getLsbD i <;> rfl

/-- n bits fall out. -/
def stpN : Nat → BitVec 32 → BitVec 32
  | 0, x => x
  | n + 1, x => stpN n (stp x)
def ustN : Nat → BitVec 32 → BitVec 32
  | 0, x => x
  | n + 1, x => ustN n (ust x)

theorem stpN_xor : ∀ (n : Nat) (x y : BitVec 32), stpN n (x ^^^ y) = stpN n x ^^^ stpN n y
  | 0, _, _ => rfl
  | n + 1, x, y => by simp only [stpN, stp_xor, stpN_xor n]
theorem stpN_add : ∀ (m n : Nat) (x : BitVec 32), stpN (m + n) x = stpN n (stpN m x)
  | 0, n, x => by simp [stpN]
  | m + 1, n, x => by rw [Nat.add_right_comm]; simp only [stpN]; exact stpN_add m n _
theorem ustN_succ : ∀ (n : Nat) (x : BitVec 32), ustN (n + 1) x = ust (ustN n x)
  | 0, _ => rfl
  | n + 1, x => by
    show ustN (n + 1) (ust x) = ust (ustN n (ust x))
    exact ustN_succ n (ust x)
theorem stpN_ustN : ∀ (n : Nat) (x : BitVec 32), stpN n (ustN n x) = x
  | 0, _ => rfl
  | n + 1, x => by rw [ustN_succ]; show stpN n (stp (ust (ustN n x))) = x; rw [stp_ust, stpN_ustN n]
theorem ustN_stpN : ∀ (n : Nat) (x : BitVec 32), ustN n (stpN n x) = x
  | 0, _ => rfl
  | n + 1, x => by rw [ustN_succ]; show ust (ustN n (stpN n (stp x))) = x; rw [ustN_stpN n, ust_stp]
theorem stpN_inj {n : Nat} {x y : BitVec 32} (h : stpN n x = stpN n y) : x = y := by rw [← ustN_stpN n x, h, ustN_stpN]
theorem stp_zero : stp 0#32 = 0#32 := by decide
theorem stpN_zero : ∀ n : Nat, stpN n 0#32 = 0#32
  | 0 => rfl
  | n + 1 => by simp only [stpN, stp_zero, stpN_zero n]
theorem stpN_eq_zero {n : Nat} {x : BitVec 32} (h : stpN n x = 0#32) : x = 0#32 := stpN_inj (by rw [h, stpN_zero])

/-- Where the lowest n bits are 0, they fall out and nothing else. -/
theorem stpN_low : ∀ (n : Nat) (x : BitVec 32), (∀ i, i < n → x.getLsbD i = false) → stpN n x = x >>> n
  | 0, x, _ => by simp [stpN]
  | n + 1, x, h => by
    have h0 : stp x = x >>> 1 := by
      unfold stp
      rw [h 0 (by omega)]
      simp
    rw [stpN, h0, stpN_low n (x >>> 1) (fun i hi => by rw [BitVec.getLsbD_ushiftRight]; exact h _ (by omega)), ← BitVec.shiftRight_add, Nat.add_comm]

/-- A byte is taken in. -/
def takeB (x : BitVec 32) (c : UInt8) : BitVec 32 := stpN 8 (x ^^^ BitVec.ofNat 32 c.toNat)
/-- Bytes are taken in. -/
def takeBs (x : BitVec 32) (l : List UInt8) : BitVec 32 := l.foldl takeB x
/-- What comes of going on from a sum. -/
def onE (sum : BitVec 32) (l : List UInt8) : BitVec 32 := ~~~ (takeBs (~~~ sum) l)
def ofE (l : List UInt8) : BitVec 32 := onE 0#32 l

theorem takeBs_append (x : BitVec 32) (a b : List UInt8) : takeBs x (a ++ b) = takeBs (takeBs x a) b := List.foldl_append ..
theorem onE_append (s : BitVec 32) (a b : List UInt8) : onE s (a ++ b) = onE (onE s a) b := by
  unfold onE
  rw [takeBs_append, BitVec.not_not]
theorem onE_nil (s : BitVec 32) : onE s [] = s := by unfold onE takeBs; simp

theorem takeB_inj {x y : BitVec 32} {c : UInt8} (h : takeB x c = takeB y c) : x = y := by
  have := stpN_inj h
  exact (BitVec.xor_left_inj _).1 this
theorem takeBs_inj : ∀ {l : List UInt8} {x y : BitVec 32}, takeBs x l = takeBs y l → x = y
  | [], _, _, h => h
  | c :: l, x, y, h => takeB_inj (takeBs_inj (l := l) h)

/-- A byte undone. -/
def untakeB (x : BitVec 32) (c : UInt8) : BitVec 32 := ustN 8 x ^^^ BitVec.ofNat 32 c.toNat
def untakeBs (x : BitVec 32) (l : List UInt8) : BitVec 32 := l.foldr (fun c x => untakeB x c) x
theorem untakeB_takeB (x : BitVec 32) (c : UInt8) : untakeB (takeB x c) c = x := by
  unfold untakeB takeB
  rw [ustN_stpN, BitVec.xor_assoc, BitVec.xor_self, BitVec.xor_zero]
theorem takeB_untakeB (x : BitVec 32) (c : UInt8) : takeB (untakeB x c) c = x := by
  unfold untakeB takeB
  rw [BitVec.xor_assoc, BitVec.xor_self, BitVec.xor_zero, stpN_ustN]
theorem untakeBs_takeBs : ∀ (l : List UInt8) (x : BitVec 32), untakeBs (takeBs x l) l = x
  | [], _ => rfl
  | c :: l, x => by
    show untakeB (untakeBs (takeBs (takeB x c) l) l) c = x
    rw [untakeBs_takeBs l, untakeB_takeB]
theorem takeBs_untakeBs : ∀ (l : List UInt8) (x : BitVec 32), takeBs (untakeBs x l) l = x
  | [], _ => rfl
  | c :: l, x => by
    show takeBs (takeB (untakeB (untakeBs x l) c) c) l = x
    rw [takeB_untakeB, takeBs_untakeBs l]
/-- The sum ahead of bytes. -/
def aheadE (sum : BitVec 32) (l : List UInt8) : BitVec 32 := ~~~ (untakeBs (~~~ sum) l)
theorem ahead_on (s : BitVec 32) (l : List UInt8) : aheadE (onE s l) l = s := by unfold aheadE onE; rw [BitVec.not_not, untakeBs_takeBs, BitVec.not_not]
theorem on_ahead (s : BitVec 32) (l : List UInt8) : onE (aheadE s l) l = s := by unfold aheadE onE; rw [BitVec.not_not, takeBs_untakeBs, BitVec.not_not]

/-- Byte by byte, the other way round where they differ. -/
def xors (a b : List UInt8) : List UInt8 := List.zipWith (· ^^^ ·) a b

theorem ofNat_xor (c d : UInt8) : BitVec.ofNat 32 (c ^^^ d).toNat = BitVec.ofNat 32 c.toNat ^^^ BitVec.ofNat 32 d.toNat := by
  rw [UInt8.toNat_xor, BitVec.ofNat_xor]

theorem takeBs_xor : ∀ (a b : List UInt8) (x y : BitVec 32), a.length = b.length → takeBs x a ^^^ takeBs y b = takeBs (x ^^^ y) (xors a b)
  | [], [], _, _, _ => rfl
  | c :: a, d :: b, x, y, h => by
    have h' : a.length = b.length := by simpa using h
    show takeBs (takeB x c) a ^^^ takeBs (takeB y d) b = takeBs (takeB (x ^^^ y) (c ^^^ d)) (xors a b)
    rw [takeBs_xor a b _ _ h']
    congr 1
    unfold takeB
    rw [← stpN_xor, ofNat_xor]
    congr 1
    ac_rfl
  | [], _ :: _, _, _, h => by simp at h
  | _ :: _, [], _, _, h => by simp at h

theorem takeBs_noughts : ∀ (n : Nat) (x : BitVec 32), takeBs x (List.replicate n 0) = stpN (8 * n) x
  | 0, _ => rfl
  | n + 1, x => by
    show takeBs (takeB x 0) (List.replicate n 0) = _
    rw [takeBs_noughts n, Nat.mul_add, Nat.add_comm, stpN_add]
    unfold takeB
    simp

end Go.Proofs.YtncpkblgiepdpaaGreat
