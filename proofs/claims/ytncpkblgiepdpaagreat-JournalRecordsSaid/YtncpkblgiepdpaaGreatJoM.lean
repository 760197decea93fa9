/- A journal's records as bytes: how they are written, and read. No program here, and no condition. -/
import Derived.Test.YtncpkblgiepdpaaGreatCrcMath
import Derived.Test.YtncpkblgiepdpaaGreatCrcMathB
set_option linter.unusedVariables false
set_option linter.unusedSimpArgs false
namespace Go.Proofs.YtncpkblgiepdpaaGreat

/-- A number in so many bytes, the highest first. -/
def beE : Nat → Nat → List UInt8
  | 0, _ => []
  | k + 1, n => UInt8.ofNat (n / 256 ^ k % 256) :: beE k n
/-- What bytes tell, the highest first. -/
def beN (l : List UInt8) : Nat := l.foldl (fun a c => a * 256 + c.toNat) 0
/-- A sum's bytes, the lowest first. -/
def leB (x : BitVec 32) : List UInt8 := [UInt8.ofNat (x.toNat % 256), UInt8.ofNat ((x >>> 8).toNat % 256), UInt8.ofNat ((x >>> 16).toNat % 256), UInt8.ofNat ((x >>> 24).toNat % 256)]
theorem beE_len : ∀ k n, (beE k n).length = k
  | 0, _ => rfl
  | k + 1, n => by simp [beE, beE_len k n]
theorem leB_len (x : BitVec 32) : (leB x).length = 4 := rfl
theorem beN_fold : ∀ (l : List UInt8) (a : Nat), l.foldl (fun a c => a * 256 + c.toNat) a = a * 256 ^ l.length + beN l
  | [], a => by simp [beN]
  | c :: r, a => by
    unfold beN
    simp only [List.foldl_cons, List.length_cons]
    rw [beN_fold r, beN_fold r (0 * 256 + c.toNat), Nat.pow_succ]
    rw [Nat.add_mul, Nat.mul_assoc, Nat.mul_comm 256, Nat.zero_mul, Nat.zero_add, Nat.add_assoc]
theorem beN_cons (c : UInt8) (r : List UInt8) : beN (c :: r) = c.toNat * 256 ^ r.length + beN r := by
  show (r.foldl _ (0 * 256 + c.toNat)) = _
  rw [beN_fold]; simp
theorem beN_snoc (l : List UInt8) (c : UInt8) : beN (l ++ [c]) = beN l * 256 + c.toNat := by unfold beN; rw [List.foldl_append]; rfl
theorem beN_lt : ∀ l : List UInt8, beN l < 256 ^ l.length
  | [] => by simp [beN]
  | c :: r => by
    rw [beN_cons, List.length_cons, Nat.pow_succ]
    have h1 := beN_lt r
    have h2 := c.toNat_lt
    have h3 : c.toNat * 256 ^ r.length ≤ 255 * 256 ^ r.length := Nat.mul_le_mul_right _ (by omega)
    omega
theorem beE_mod : ∀ (k n m : Nat), n % 256 ^ k = m % 256 ^ k → beE k n = beE k m
  | 0, _, _, _ => rfl
  | k + 1, n, m, h => by
    have h1 : n / 256 ^ k % 256 = m / 256 ^ k % 256 := by
      rw [← Nat.mod_mul_right_div_self, ← Nat.mod_mul_right_div_self, ← Nat.pow_succ, h]
    have h2 : n % 256 ^ k = m % 256 ^ k := by
      have e : ∀ x : Nat, x % 256 ^ k = x % 256 ^ (k + 1) % 256 ^ k := fun x => by
        rw [Nat.mod_mod_of_dvd]; exact Nat.pow_dvd_pow _ (by omega)
      rw [e n, e m, h]
    unfold beE
    rw [h1, beE_mod k n m h2]
theorem beN_beE : ∀ (k n : Nat), beN (beE k n) = n % 256 ^ k
  | 0, n => by simp [beE, beN, Nat.mod_one]
  | k + 1, n => by
    unfold beE
    rw [beN_cons, beE_len, beN_beE k n, UInt8.toNat_ofNat', Nat.mod_eq_of_lt (show n / 256 ^ k % 256 < 2 ^ 8 from Nat.mod_lt _ (by omega)), Nat.pow_succ, Nat.mod_mul, Nat.mul_comm, Nat.add_comm]
theorem beE_beN : ∀ (l : List UInt8), beE l.length (beN l) = l
  | [] => rfl
  | c :: r => by
    have h := beN_lt r
    show UInt8.ofNat (beN (c :: r) / 256 ^ r.length % 256) :: beE r.length (beN (c :: r)) = _
    rw [beN_cons, beE_mod r.length (c.toNat * 256 ^ r.length + beN r) (beN r) (by rw [Nat.mul_add_mod_self_right]), beE_beN r, Nat.add_comm, Nat.add_mul_div_right _ _ (Nat.pow_pos (by omega)), Nat.div_eq_of_lt h, Nat.zero_add, Nat.mod_eq_of_lt c.toNat_lt, UInt8.ofNat_toNat]
theorem beE_inj {k n m : Nat} (hn : n < 256 ^ k) (hm : m < 256 ^ k) (h : beE k n = beE k m) : n = m := by
  have := congrArg beN h
  rw [beN_beE, beN_beE, Nat.mod_eq_of_lt hn, Nat.mod_eq_of_lt hm] at this
  exact this
theorem leB_leVal (x : BitVec 32) : leVal (leB x) = x := by
  have key : ∀ y : BitVec 32, BitVec.ofNat 32 (UInt8.ofNat (y.toNat % 256)).toNat ^^^ (y >>> 8) <<< 8 = y := fun y => by
    apply BitVec.eq_of_getLsbD_eq
    intro i hi
    have e : (UInt8.ofNat (y.toNat % 256)).toNat = y.toNat % 256 := by rw [UInt8.toNat_ofNat', Nat.mod_eq_of_lt (show y.toNat % 256 < 2 ^ 8 from Nat.mod_lt _ (by omega))]
    rw [BitVec.getLsbD_xor, shl8_bit, BitVec.getLsbD_ushiftRight, e]
    by_cases h8 : i < 8
    · have h1 : (BitVec.ofNat 32 (y.toNat % 256)).getLsbD i = y.getLsbD i := by
        rw [BitVec.getLsbD_ofNat, show (256 : Nat) = 2 ^ 8 from rfl, Nat.testBit_mod_two_pow]
        simp [hi, h8, BitVec.testBit_toNat]
      simp [h1, h8]
    · have h1 : (BitVec.ofNat 32 (y.toNat % 256)).getLsbD i = false := by
        rw [BitVec.getLsbD_ofNat, show (256 : Nat) = 2 ^ 8 from rfl, Nat.testBit_mod_two_pow]
        simp [h8]
      have h2 : 8 + (i - 8) = i := by omega
      rw [h1, h2]; simp [h8, hi]
  have k1 := key x
  have k2 := key (x >>> 8)
  have k3 := key (x >>> 16)
  have k4 := key (x >>> 24)
  have e2 : x >>> 8 >>> 8 = x >>> 16 := by rw [← BitVec.shiftRight_add]
  have e3 : x >>> 16 >>> 8 = x >>> 24 := by rw [← BitVec.shiftRight_add]
  have e4 : x >>> 24 >>> 8 = 0#32 := by
    apply BitVec.eq_of_getLsbD_eq
    intro i hi
    simp [BitVec.getLsbD_ushiftRight]
  rw [e2] at k2
  rw [e3] at k3
  rw [e4] at k4
  unfold leB
  show BitVec.ofNat 32 _ ^^^ (BitVec.ofNat 32 _ ^^^ (BitVec.ofNat 32 _ ^^^ (BitVec.ofNat 32 _ ^^^ (0#32) <<< 8) <<< 8) <<< 8) <<< 8 = x
  rw [k4, k3, k2, k1]
theorem leB_inj {x y : BitVec 32} (h : leB x = leB y) : x = y := by rw [← leB_leVal x, h, leB_leVal]

/-! ### a record -/
def tldE (n len : Nat) : List UInt8 := beE 4 len ++ beE 8 n
def hdE (n len : Nat) : List UInt8 := tldE n len ++ leB (ofE (tldE n len))
/-- The last sum of a record. -/
def lastE (n : Nat) (b : List UInt8) : BitVec 32 := onE (ofE (tldE n b.length)) b
def recE (n : Nat) (b : List UInt8) : List UInt8 := hdE n b.length ++ (b ++ leB (lastE n b))
theorem tld_len (n k : Nat) : (tldE n k).length = 12 := by simp [tldE, beE_len]
theorem hd_len (n k : Nat) : (hdE n k).length = 16 := by simp [hdE, tld_len, leB_len]
theorem rec_len (n : Nat) (b : List UInt8) : (recE n b).length = b.length + 20 := by simp [recE, hd_len, leB_len]; omega
/-- The record with which bytes begin, as the n-th one; 3 if it is torn, 70 if it is wrong. -/
def takenE (b : List UInt8) (n : Nat) : List UInt8 × Nat :=
  if b.length < 16 then ([], 3) else
  if 262144 < beN (b.take 4) ∨ ¬ hdE n (beN (b.take 4)) <+: b then ([], 70) else
  if (b.drop 16).length < beN (b.take 4) + 4 then ([], 3) else
  if ¬ leB (lastE n ((b.drop 16).take (beN (b.take 4)))) <+: (b.drop 16).drop (beN (b.take 4)) then ([], 70) else
  ((b.drop 16).take (beN (b.take 4)), 0)
theorem hd_take4 {n k : Nat} {r : List UInt8} (hk : k < 4294967296) : beN ((hdE n k ++ r).take 4) = k := by
  have e : (hdE n k ++ r).take 4 = beE 4 k := by
    unfold hdE tldE
    rw [List.append_assoc, List.append_assoc, List.take_append_of_le_length (by rw [beE_len]; omega), List.take_of_length_le (by rw [beE_len]; omega)]
  rw [e, beN_beE]
  exact Nat.mod_eq_of_lt hk
/-- What was written is read. -/
theorem taken_rec {n : Nat} {b : List UInt8} (hb : b.length ≤ 262144) (r : List UInt8) : takenE (recE n b ++ r) n = (b, 0) := by
  have e0 : recE n b ++ r = hdE n b.length ++ (b ++ (leB (lastE n b) ++ r)) := by simp [recE]
  have h4 := hd_take4 (n := n) (k := b.length) (r := b ++ (leB (lastE n b) ++ r)) (by omega)
  have d16 : (hdE n b.length ++ (b ++ (leB (lastE n b) ++ r))).drop 16 = b ++ (leB (lastE n b) ++ r) := by
    rw [List.drop_append_of_le_length (by rw [hd_len]; omega), List.drop_of_length_le (by rw [hd_len]; omega), List.nil_append]
  rw [e0]
  unfold takenE
  rw [h4, d16, if_neg (by simp [hd_len]), if_neg (by
    rintro (h | h)
    · omega
    · exact h (List.prefix_append _ _)), if_neg (by simp [leB_len])]
  have t1 : (b ++ (leB (lastE n b) ++ r)).take b.length = b := by simp
  have t2 : (b ++ (leB (lastE n b) ++ r)).drop b.length = leB (lastE n b) ++ r := by simp
  rw [t1, t2, if_neg (by intro h; exact h (List.prefix_append _ _))]
/-- What is torn is told. -/
theorem taken_cut {n : Nat} {b : List UInt8} (hb : b.length ≤ 262144) {k : Nat} (hk : k < b.length + 20) : takenE ((recE n b).take k) n = ([], 3) := by
  by_cases h16 : k < 16
  · unfold takenE
    rw [if_pos (by simp; omega)]
  · have e0 : (recE n b).take k = hdE n b.length ++ (b ++ leB (lastE n b)).take (k - 16) := by
      unfold recE
      rw [List.take_append, List.take_of_length_le (by rw [hd_len]; omega), hd_len]
    have h4 := hd_take4 (n := n) (k := b.length) (r := (b ++ leB (lastE n b)).take (k - 16)) (by omega)
    have d16 : (hdE n b.length ++ (b ++ leB (lastE n b)).take (k - 16)).drop 16 = (b ++ leB (lastE n b)).take (k - 16) := by
      rw [List.drop_append_of_le_length (by rw [hd_len]; omega), List.drop_of_length_le (by rw [hd_len]; omega), List.nil_append]
    rw [e0]
    unfold takenE
    rw [h4, d16, if_neg (by simp [hd_len]), if_neg (by
      rintro (h | h)
      · omega
      · exact h (List.prefix_append _ _)), if_pos (by simp [leB_len]; omega)]
theorem taken_zero {b r : List UInt8} {n : Nat} (h : takenE b n = (r, 0)) : r.length + 20 ≤ b.length ∧ r.length ≤ 262144 := by
  unfold takenE at h
  split at h
  · cases h
  split at h
  · cases h
  split at h
  · cases h
  split at h
  · cases h
  · rename_i h1 h2 h3 h4
    have e := congrArg Prod.fst h
    simp only at e
    subst e
    simp only [List.length_take, List.length_drop] at *
    omega
theorem taken_err (b : List UInt8) (n : Nat) : (takenE b n).2 = 0 ∨ takenE b n = ([], 3) ∨ takenE b n = ([], 70) := by
  unfold takenE
  split
  · exact .inr (.inl rfl)
  split
  · exact .inr (.inr rfl)
  split
  · exact .inr (.inl rfl)
  split
  · exact .inr (.inr rfl)
  · exact .inl rfl

/-! ### records -/
/-- The records in bytes, numbered from n on: where the last whole one ends, and the error. -/
def recsF : Nat → List UInt8 → Nat → List (List UInt8) × Nat × Nat
  | 0, _, _ => ([], 0, 0)
  | f + 1, b, n =>
    if (takenE b n).2 = 0 then
      (if (recsF f (b.drop ((takenE b n).1.length + 20)) (n + 1)).2.2 = 0 then
        ((takenE b n).1 :: (recsF f (b.drop ((takenE b n).1.length + 20)) (n + 1)).1, (takenE b n).1.length + 20 + (recsF f (b.drop ((takenE b n).1.length + 20)) (n + 1)).2.1, 0)
       else ([], 0, (recsF f (b.drop ((takenE b n).1.length + 20)) (n + 1)).2.2))
    else if (takenE b n).2 = 3 then ([], 0, 0) else ([], 0, (takenE b n).2)
def recsE (b : List UInt8) : List (List UInt8) × Nat × Nat := recsF (b.length + 1) b 1
theorem recsF_more : ∀ (f g : Nat) (b : List UInt8) (n : Nat), b.length < f → b.length < g → recsF f b n = recsF g b n
  | 0, _, _, _, h, _ => by omega
  | _ + 1, 0, _, _, _, h => by omega
  | f + 1, g + 1, b, n, h1, h2 => by
    unfold recsF
    by_cases h : (takenE b n).2 = 0
    · have hz := taken_zero (b := b) (n := n) (r := (takenE b n).1) (by rw [← h])
      rw [recsF_more f g (b.drop ((takenE b n).1.length + 20)) (n + 1) (by simp; omega) (by simp; omega)]
    · simp only [h, if_false]
/-- What is known of all, when some have been read. -/
def restE (b : List UInt8) (l : List (List UInt8)) (at_ : Nat) : List (List UInt8) × Nat × Nat :=
  if (recsF (b.length + 1) (b.drop at_) (l.length + 1)).2.2 = 0 then (l ++ (recsF (b.length + 1) (b.drop at_) (l.length + 1)).1, at_ + (recsF (b.length + 1) (b.drop at_) (l.length + 1)).2.1, 0) else ([], 0, (recsF (b.length + 1) (b.drop at_) (l.length + 1)).2.2)
theorem recsF_err : ∀ (f : Nat) (b : List UInt8) (n : Nat), (recsF f b n).2.2 = 0 ∨ recsF f b n = ([], 0, (recsF f b n).2.2)
  | 0, _, _ => .inl rfl
  | f + 1, b, n => by
    unfold recsF
    split
    · split
      · exact .inl rfl
      · exact .inr rfl
    · split
      · exact .inl rfl
      · exact .inr rfl
theorem rest_start (b : List UInt8) : restE b [] 0 = recsE b := by
  unfold restE recsE
  simp only [List.drop_zero, List.length_nil, Nat.zero_add, List.nil_append]
  rcases recsF_err (b.length + 1) b 1 with h | h
  · rw [if_pos h]
    rw [← h]
  · split
    · rename_i h0
      rw [← h0]
    · exact h.symm
theorem rest_ok {b r : List UInt8} {l : List (List UInt8)} {k : Nat} (hk : k ≤ b.length) (h : takenE (b.drop k) (l.length + 1) = (r, 0)) : restE b l k = restE b (l ++ [r]) (k + 16 + r.length + 4) := by
  have hz := taken_zero h
  have hd : (b.drop k).drop (r.length + 20) = b.drop (k + 16 + r.length + 4) := by rw [List.drop_drop]; congr 1; omega
  have e : recsF (b.length + 1) (b.drop k) (l.length + 1) = if (recsF (b.length + 1) (b.drop (k + 16 + r.length + 4)) (l.length + 1 + 1)).2.2 = 0 then
        (r :: (recsF (b.length + 1) (b.drop (k + 16 + r.length + 4)) (l.length + 1 + 1)).1, r.length + 20 + (recsF (b.length + 1) (b.drop (k + 16 + r.length + 4)) (l.length + 1 + 1)).2.1, 0)
       else ([], 0, (recsF (b.length + 1) (b.drop (k + 16 + r.length + 4)) (l.length + 1 + 1)).2.2) := by
    conv => lhs; unfold recsF
    rw [h]
    simp only [if_true, hd]
    rw [recsF_more b.length (b.length + 1) (b.drop (k + 16 + r.length + 4)) (l.length + 1 + 1) (by simp at hz ⊢; omega) (by simp; omega)]
  unfold restE
  rw [e, List.length_append, List.length_singleton]
  generalize recsF (b.length + 1) (b.drop (k + 16 + r.length + 4)) (l.length + 1 + 1) = x
  by_cases hx : x.2.2 = 0
  · simp only [hx, if_true]
    refine Prod.ext (by simp) (Prod.ext (by simp; omega) rfl)
  · simp only [hx, if_false]
theorem rest_torn {b : List UInt8} {l : List (List UInt8)} {k : Nat} (h : takenE (b.drop k) (l.length + 1) = ([], 3)) : restE b l k = (l, k, 0) := by
  have e : recsF (b.length + 1) (b.drop k) (l.length + 1) = ([], 0, 0) := by
    conv => lhs; unfold recsF
    rw [h]; simp
  unfold restE
  rw [e]; simp
theorem rest_bad {b : List UInt8} {l : List (List UInt8)} {k : Nat} (h : takenE (b.drop k) (l.length + 1) = ([], 70)) : restE b l k = ([], 0, 70) := by
  have e : recsF (b.length + 1) (b.drop k) (l.length + 1) = ([], 0, 70) := by
    conv => lhs; unfold recsF
    rw [h]; simp
  unfold restE
  rw [e]; simp

/-! ### records, one behind the other -/
def catR : Nat → List (List UInt8) → List UInt8
  | _, [] => []
  | n, b :: r => recE n b ++ catR (n + 1) r
theorem catR_append : ∀ (l m : List (List UInt8)) (n : Nat), catR n (l ++ m) = catR n l ++ catR (n + l.length) m
  | [], m, n => rfl
  | b :: r, m, n => by
    show recE n b ++ catR (n + 1) (r ++ m) = recE n b ++ catR (n + 1) r ++ _
    rw [catR_append r m (n + 1), List.append_assoc, List.length_cons]
    congr 3
    omega
theorem catR_snoc (l : List (List UInt8)) (b : List UInt8) (n : Nat) : catR n (l ++ [b]) = catR n l ++ recE (n + l.length) b := by
  rw [catR_append]; simp [catR]
theorem catR_nil {n : Nat} : catR n [] = [] := rfl
def short (l : List (List UInt8)) : Prop := ∀ b ∈ l, b.length ≤ 262144
theorem rest_cat : ∀ (m : List (List UInt8)), short m → ∀ (B : List UInt8) (l : List (List UInt8)) (k : Nat) (t : List UInt8), k ≤ B.length → B.drop k = catR (l.length + 1) m ++ t →
    restE B l k = restE B (l ++ m) (k + (catR (l.length + 1) m).length)
  | [], _, B, l, k, t, _, _ => by simp [catR]
  | b :: r, hs, B, l, k, t, hk, h => by
    have h1 : takenE (B.drop k) (l.length + 1) = (b, 0) := by
      rw [h]
      show takenE (recE (l.length + 1) b ++ catR (l.length + 1 + 1) r ++ t) _ = _
      rw [List.append_assoc]
      exact taken_rec (hs b (by simp)) _
    have hlen : (recE (l.length + 1) b).length = b.length + 20 := rec_len _ _
    have hz := taken_zero h1
    have e1 : B.drop (k + 16 + b.length + 4) = catR ((l ++ [b]).length + 1) r ++ t := by
      have : B.drop (k + 16 + b.length + 4) = (B.drop k).drop (b.length + 20) := by rw [List.drop_drop]; congr 1; omega
      rw [this, h]
      show (recE (l.length + 1) b ++ catR (l.length + 1 + 1) r ++ t).drop _ = _
      rw [List.append_assoc, List.drop_append_of_le_length (by omega), List.drop_of_length_le (by omega), List.nil_append, List.length_append, List.length_singleton]
    rw [rest_ok hk h1, rest_cat r (fun x hx => hs x (by simp [hx])) B (l ++ [b]) _ t (by simp at hz; omega) e1]
    have e2 : (catR (l.length + 1) (b :: r)).length = b.length + 20 + (catR (l.length + 1 + 1) r).length := by
      show (recE (l.length + 1) b ++ catR (l.length + 1 + 1) r).length = _
      rw [List.length_append, hlen]
    rw [e2, List.append_assoc, List.length_append, List.length_singleton]
    congr 1
    omega
theorem recs_cat {l : List (List UInt8)} (hs : short l) : recsE (catR 1 l) = (l, (catR 1 l).length, 0) := by
  rw [← rest_start, rest_cat l hs (catR 1 l) [] 0 [] (by omega) (by simp)]
  simp only [List.nil_append, Nat.zero_add, List.length_nil]
  refine rest_torn ?_
  unfold takenE
  rw [if_pos (by simp)]
/-- What ends with a torn record. -/
theorem recs_torn {l : List (List UInt8)} (hs : short l) {b : List UInt8} (hb : b.length ≤ 262144) {k : Nat} (hk : k < b.length + 20) : recsE (catR 1 l ++ (recE (l.length + 1) b).take k) = (l, (catR 1 l).length, 0) := by
  rw [← rest_start, rest_cat l hs _ [] 0 ((recE (l.length + 1) b).take k) (by omega) (by simp)]
  simp only [List.nil_append, Nat.zero_add, List.length_nil]
  refine rest_torn ?_
  have e : (catR 1 l ++ (recE (l.length + 1) b).take k).drop (catR 1 l).length = (recE (l.length + 1) b).take k := by simp
  rw [e]
  exact taken_cut hb hk
end Go.Proofs.YtncpkblgiepdpaaGreat
