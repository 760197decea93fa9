/- A beginning of records' bytes; bits that are turned one by one. No program here, and no condition. -/
import Derived.Test.YtdgaipdpebinbaaJoT
set_option linter.unusedVariables false
set_option linter.unusedSimpArgs false
namespace Go.Proofs.Ytdgaipdpebinbaa

/-- Where the first i records end. -/
def endE (l : List (List UInt8)) (i : Nat) : Nat := (catR 1 (l.take i)).length
theorem end_more {l : List (List UInt8)} {i : Nat} (h : i < l.length) : endE l (i + 1) = endE l i + (l[i].length + 20) := by
  unfold endE
  rw [List.take_succ_eq_append_getElem h, catR_snoc, List.length_append, rec_len]
theorem end_zero (l : List (List UInt8)) : endE l 0 = 0 := rfl
theorem end_all (l : List (List UInt8)) : endE l l.length = (catR 1 l).length := by unfold endE; rw [List.take_length]
theorem end_mono {l : List (List UInt8)} : ∀ {i j : Nat}, i ≤ j → j ≤ l.length → endE l i ≤ endE l j := by
  intro i j h hj
  induction j with
  | zero => have : i = 0 := by omega
            subst this; exact Nat.le_refl _
  | succ j ih =>
    by_cases e : i = j + 1
    · subst e; exact Nat.le_refl _
    · have := ih (by omega) (by omega)
      rw [end_more (by omega)]
      omega
theorem ends_at (l : List (List UInt8)) {k : Nat} (h : k ≤ endE l l.length) : ∃ M, M ≤ l.length ∧ endE l M ≤ k ∧ (M = l.length ∧ k = endE l M ∨ M < l.length ∧ k < endE l (M + 1)) ∧ ∀ i, i < l.length → (endE l (i + 1) ≤ k ↔ i < M) := by
  have key : ∀ n, n ≤ l.length → ∃ M, M ≤ n ∧ endE l M ≤ k ∧ ∀ j, j ≤ n → endE l j ≤ k → j ≤ M := by
    intro n
    induction n with
    | zero => intro _; exact ⟨0, Nat.le_refl _, Nat.zero_le _, fun j h _ => h⟩
    | succ n ih =>
      intro hn
      obtain ⟨M, h1, h2, h3⟩ := ih (by omega)
      by_cases hc : endE l (n + 1) ≤ k
      · exact ⟨n + 1, Nat.le_refl _, hc, fun j h _ => h⟩
      · refine ⟨M, by omega, h2, fun j hj hjk => ?_⟩
        by_cases e : j = n + 1
        · subst e; exact absurd hjk hc
        · exact h3 j (by omega) hjk
  obtain ⟨M, h1, h2, h3⟩ := key l.length (Nat.le_refl _)
  refine ⟨M, h1, h2, ?_, fun i hi => ⟨fun hk => h3 (i + 1) (by omega) hk, fun hM => Nat.le_trans (end_mono (by omega) h1) h2⟩⟩
  by_cases e : M = l.length
  · left
    exact ⟨e, by rw [e] at h2 ⊢; omega⟩
  · refine .inr ⟨by omega, ?_⟩
    by_cases hc : endE l (M + 1) ≤ k
    · have := h3 (M + 1) (by omega) hc; omega
    · omega
theorem recs_begin {l : List (List UInt8)} (hs : short l) {k M : Nat} (h1 : endE l M ≤ k) (h2 : M = l.length ∧ k = endE l M ∨ M < l.length ∧ k < endE l (M + 1)) : recsE ((catR 1 l).take k) = (l.take M, endE l M, 0) := by
  rcases h2 with ⟨rfl, rfl⟩ | ⟨hM, hk⟩
  · rw [end_all, List.take_length, List.take_of_length_le (Nat.le_refl _)]
    exact recs_cat hs
  · have hs' : short (l.take M) := fun b hb => hs b (List.mem_of_mem_take hb)
    have e : catR 1 l = catR 1 (l.take M) ++ (recE (M + 1) l[M] ++ catR (M + 2) (l.drop (M + 1))) := by
      have h3 : l = l.take M ++ (l[M] :: l.drop (M + 1)) := by rw [← List.drop_eq_getElem_cons hM, List.take_append_drop]
      conv => lhs; rw [h3]
      rw [catR_append, List.length_take, Nat.min_eq_left (by omega), Nat.add_comm 1 M]
      rfl
    have e2 := end_more hM
    have hkk : k - endE l M < l[M].length + 20 := by omega
    have e3 : (catR 1 l).take k = catR 1 (l.take M) ++ (recE ((l.take M).length + 1) l[M]).take (k - endE l M) := by
      rw [e, List.take_append, List.take_of_length_le (show (catR 1 (l.take M)).length ≤ k from h1)]
      show _ ++ (recE (M + 1) l[M] ++ _).take (k - endE l M) = _
      rw [List.take_append_of_le_length (by rw [rec_len]; omega), List.length_take, Nat.min_eq_left (by omega)]
    rw [e3]
    exact recs_torn hs' (hs _ (List.getElem_mem hM)) hkk

/-! ### bits turned one by one -/
def flip (b : List UInt8) (q : Nat) : List UInt8 := b.set (q / 8) (b.getD (q / 8) 0 ^^^ UInt8.ofNat (2 ^ (q % 8)))
theorem flip_len (b : List UInt8) (q : Nat) : (flip b q).length = b.length := by simp [flip]
theorem flip_xors {b z : List UInt8} (h : b.length = z.length) {q : Nat} (hq : q < 8 * z.length) : flip (xors b z) q = xors b (flip z q) := by
  have hl := xors_len2 h
  have h1 : q / 8 < z.length := by omega
  refine List.ext_getElem (by rw [flip_len, hl, xors_len2 (by rw [flip_len]; exact h)]) fun i h2 h3 => ?_
  have hi : i < b.length := by rw [flip_len, hl] at h2; exact h2
  unfold flip xors
  simp only [List.getElem_set, List.getElem_zipWith, List.getD, List.getElem?_zipWith]
  by_cases e : q / 8 = i
  · subst e
    have hb : b[q / 8]? = some b[q / 8] := List.getElem?_eq_getElem hi
    have hz : z[q / 8]? = some z[q / 8] := List.getElem?_eq_getElem h1
    simp only [if_true, hb, hz, Option.getD_some]
    rw [UInt8.xor_assoc]
  · simp only [e, if_false]
theorem pow_bit {k t : Nat} (hk : k < 8) : (UInt8.ofNat (2 ^ k)).toNat.testBit t = decide (k = t) := by
  have h1 : (2 : Nat) ^ k < 2 ^ 8 := Nat.pow_lt_pow_right (by omega) hk
  rw [UInt8.toNat_ofNat', Nat.mod_eq_of_lt h1, Nat.testBit_two_pow]
theorem bit_flip {z : List UInt8} {q : Nat} (hq : q < 8 * z.length) (p : Nat) : bitAt (flip z q) p = if p = q then !bitAt z q else bitAt z p := by
  have h1 : q / 8 < z.length := by omega
  unfold bitAt flip
  by_cases e : p / 8 = q / 8
  · have e1 : (z.set (q / 8) (z.getD (q / 8) 0 ^^^ UInt8.ofNat (2 ^ (q % 8)))).getD (p / 8) 0 = z.getD (q / 8) 0 ^^^ UInt8.ofNat (2 ^ (q % 8)) := by
      rw [e]
      simp [List.getD, h1]
    rw [e1, UInt8.toNat_xor, Nat.testBit_xor, pow_bit (Nat.mod_lt _ (by omega))]
    by_cases e2 : p = q
    · subst e2
      simp
    · have : ¬ q % 8 = p % 8 := by omega
      simp [this, e2, e]
  · have e1 : (z.set (q / 8) (z.getD (q / 8) 0 ^^^ UInt8.ofNat (2 ^ (q % 8)))).getD (p / 8) 0 = z.getD (p / 8) 0 := by
      simp only [List.getD]
      rw [List.getElem?_set_ne (fun h => e h.symm)]
    have e2 : ¬ p = q := fun h => e (by rw [h])
    rw [e1, if_neg e2]
/-- Of a burst the first i bits have been turned. -/
structure Trn (n a i bits : Nat) (z : List UInt8) : Prop where
  len : z.length = n
  bit : ∀ p, bitAt z p = (decide (a ≤ p) && decide (p < a + i) && decide (p < 8 * n) && bits.testBit (p - a))
theorem trn_start (n a bits : Nat) : Trn n a 0 bits (List.replicate n 0) := ⟨by simp, fun p => by
  have : bitAt (List.replicate n 0) p = false := by
    unfold bitAt
    have e : (List.replicate n (0 : UInt8)).getD (p / 8) 0 = 0 := by
      simp only [List.getD, List.getElem?_replicate]
      split <;> rfl
    rw [e]; simp
  rw [this]
  by_cases h : a ≤ p
  · have : ¬ p < a + 0 := by omega
    simp only [this, decide_false, Bool.and_false, Bool.false_and]
  · simp only [h, decide_false, Bool.false_and]⟩
theorem trn_one {n a i bits : Nat} {z : List UInt8} (h : Trn n a i bits z) (hi : a + i < 8 * n) (hb : bits.testBit i = true) : Trn n a (i + 1) bits (flip z (a + i)) := by
  refine ⟨by rw [flip_len]; exact h.len, fun p => ?_⟩
  rw [bit_flip (by rw [h.len]; exact hi), h.bit, h.bit]
  by_cases e : p = a + i
  · subst e
    have e1 : a + i - a = i := by omega
    have e2 : a + i < a + (i + 1) := by omega
    simp [e1, e2, hi, hb]
  · rw [if_neg e]
    have : (p < a + (i + 1)) ↔ (p < a + i) := by omega
    simp only [this]
theorem trn_none {n a i bits : Nat} {z : List UInt8} (h : Trn n a i bits z) (hb : bits.testBit i = false) : Trn n a (i + 1) bits z := by
  refine ⟨h.len, fun p => ?_⟩
  rw [h.bit]
  by_cases e : p = a + i
  · subst e
    have e1 : a + i - a = i := by omega
    simp [e1, hb]
  · have : (p < a + (i + 1)) ↔ (p < a + i) := by omega
    simp only [this]
theorem trn_burst {n a i bits : Nat} {z : List UInt8} (h : Trn n a i bits z) (hi : i ≤ 32) : Burst z a := fun p hp => by
  rw [h.bit] at hp
  simp only [Bool.and_eq_true, decide_eq_true_eq] at hp
  omega
theorem bits_zero {z : List UInt8} (h : ∀ c ∈ z, c = 0) (p : Nat) : bitAt z p = false := by
  unfold bitAt
  have e : z.getD (p / 8) 0 = 0 := by
    simp only [List.getD]
    cases e : z[p / 8]? with
    | none => rfl
    | some c => obtain ⟨h1, rfl⟩ := List.getElem?_eq_some_iff.1 e
                exact h _ (List.getElem_mem h1)
  rw [e]; simp
end Go.Proofs.Ytdgaipdpebinbaa
