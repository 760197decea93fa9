/- Bits that are turned in records, all within 32: what they make of a sum, of a record, of records. No program here, and no condition. -/
import Derived.Test.YtncpkblgiepdpaaGreatJoM
set_option linter.unusedVariables false
set_option linter.unusedSimpArgs false
namespace Go.Proofs.YtncpkblgiepdpaaGreat

/-- Is the q-th bit of bytes 1, each byte's lowest one first? -/
def bitAt (z : List UInt8) (q : Nat) : Bool := (z.getD (q / 8) 0).toNat.testBit (q % 8)
def Burst (z : List UInt8) (o : Int) : Prop := ∀ q : Nat, bitAt z q = true → o ≤ q ∧ (q : Int) < o + 32
theorem byte_high (c : UInt8) {t : Nat} (h : 8 ≤ t) : c.toNat.testBit t = false := by
  have h1 := c.toNat_lt
  have := Nat.pow_le_pow_right (n := 2) (by omega) h
  exact Nat.testBit_lt_two_pow (by omega)
theorem byte_none {c : UInt8} (h : ∀ t, t < 8 → c.toNat.testBit t = false) : c = 0 := by
  have : c.toNat = 0 := by
    apply Nat.eq_of_testBit_eq
    intro t
    rw [Nat.zero_testBit]
    by_cases ht : t < 8
    · exact h t ht
    · exact byte_high c (by omega)
  exact UInt8.toNat_inj.1 (by simpa using this)
theorem bits_none {z : List UInt8} (h : ∀ q, bitAt z q = false) : ∀ c ∈ z, c = 0 := by
  intro c hc
  obtain ⟨i, hi, rfl⟩ := List.mem_iff_getElem.1 hc
  refine byte_none fun t ht => ?_
  have := h (8 * i + t)
  unfold bitAt at this
  have e1 : (8 * i + t) / 8 = i := by omega
  have e2 : (8 * i + t) % 8 = t := by omega
  rw [e1, e2] at this
  simpa [List.getD, hi] using this
theorem bit_cons (c : UInt8) (r : List UInt8) (q : Nat) : bitAt (c :: r) (q + 8) = bitAt r q := by
  unfold bitAt
  have e1 : (q + 8) / 8 = q / 8 + 1 := by omega
  have e2 : (q + 8) % 8 = q % 8 := by omega
  rw [e1, e2]
  simp [List.getD]
theorem bit_head (c : UInt8) (r : List UInt8) {q : Nat} (h : q < 8) : bitAt (c :: r) q = c.toNat.testBit q := by
  unfold bitAt
  have e1 : q / 8 = 0 := by omega
  have e2 : q % 8 = q := by omega
  rw [e1, e2]
  simp [List.getD]
theorem bit_left {a : List UInt8} (b : List UInt8) {q : Nat} (h : q < 8 * a.length) : bitAt (a ++ b) q = bitAt a q := by
  unfold bitAt
  have : q / 8 < a.length := by omega
  have e : (a ++ b).getD (q / 8) 0 = a.getD (q / 8) 0 := by simp only [List.getD, List.getElem?_append_left this]
  rw [e]
theorem bit_right (a b : List UInt8) (q : Nat) : bitAt (a ++ b) (q + 8 * a.length) = bitAt b q := by
  unfold bitAt
  have e1 : (q + 8 * a.length) / 8 = q / 8 + a.length := by omega
  have e2 : (q + 8 * a.length) % 8 = q % 8 := by omega
  have e : (a ++ b).getD (q / 8 + a.length) 0 = b.getD (q / 8) 0 := by simp only [List.getD, List.getElem?_append_right (show a.length ≤ q / 8 + a.length by omega), Nat.add_sub_cancel]
  rw [e1, e2, e]
theorem bit_out {z : List UInt8} {q : Nat} (h : 8 * z.length ≤ q) : bitAt z q = false := by
  unfold bitAt
  have : z.length ≤ q / 8 := by omega
  have e : z.getD (q / 8) 0 = 0 := by simp only [List.getD, List.getElem?_eq_none this]; rfl
  rw [e]
  simp
theorem Burst.left {a b : List UInt8} {o : Int} (h : Burst (a ++ b) o) : Burst a o := fun q hq => by
  by_cases hl : q < 8 * a.length
  · exact h q (by rw [bit_left b hl]; exact hq)
  · rw [bit_out (by omega)] at hq; cases hq
theorem Burst.right {a b : List UInt8} {o : Int} (h : Burst (a ++ b) o) : Burst b (o - 8 * a.length) := fun q hq => by
  have := h (q + 8 * a.length) (by rw [bit_right]; exact hq)
  omega
theorem takeB_none : takeB 0#32 0 = 0#32 := by decide
theorem low_find (c : UInt8) (hc : c ≠ 0) : ∃ s, s < 8 ∧ c.toNat.testBit s = true ∧ ∀ t, t < s → c.toNat.testBit t = false := by
  have key : ∀ n, n ≤ 8 → (∀ t, t < n → c.toNat.testBit t = false) ∨ ∃ s, s < n ∧ c.toNat.testBit s = true ∧ ∀ t, t < s → c.toNat.testBit t = false := by
    intro n
    induction n with
    | zero => intro _; exact .inl fun t h => by omega
    | succ n ih =>
      intro hn
      rcases ih (by omega) with h | ⟨s, h1, h2, h3⟩
      · cases hb : c.toNat.testBit n with
        | true => exact .inr ⟨n, by omega, hb, h⟩
        | false =>
          refine .inl fun t ht => ?_
          by_cases e : t = n
          · subst e; exact hb
          · exact h t (by omega)
      · exact .inr ⟨s, by omega, h2, h3⟩
  rcases key 8 (Nat.le_refl _) with h | ⟨s, h1, h2, h3⟩
  · exact absurd (byte_none h) hc
  · exact ⟨s, h1, h2, h3⟩
theorem nat_small {n s : Nat} (h : ∀ t, s ≤ t → n.testBit t = false) : n < 2 ^ s := by
  by_cases hn : n < 2 ^ s
  · exact hn
  · obtain ⟨i, hi, hb⟩ := Nat.exists_ge_and_testBit_of_ge_two_pow (Nat.le_of_not_lt hn)
    rw [h i hi] at hb
    cases hb
/-- A burst is told by a sum. -/
theorem burst_zero : ∀ (z : List UInt8) (o : Int), Burst z o → takeBs 0#32 z = 0#32 → ∀ c ∈ z, c = 0
  | [], _, _, _ => by simp
  | c :: r, o, hB, h => by
    by_cases hc : c = 0
    · subst hc
      have h1 : takeBs 0#32 r = 0#32 := by
        have : takeBs 0#32 ((0 : UInt8) :: r) = takeBs (takeB 0#32 0) r := rfl
        rw [takeB_none] at this
        rw [← this]; exact h
      have hB2 : Burst r (o - 8) := fun q hq => by
        have := hB (q + 8) (by rw [bit_cons]; exact hq)
        omega
      intro x hx
      rcases List.mem_cons.1 hx with rfl | hx
      · rfl
      · exact burst_zero r (o - 8) hB2 h1 x hx
    · obtain ⟨s, hs, hbs, hlow⟩ := low_find c hc
      have ho := hB s (by rw [bit_head _ _ hs]; exact hbs)
      by_cases h4 : (c :: r).length ≤ 4
      · exact burst4 h4 h
      · exfalso
        obtain ⟨l, d, t, hl, e⟩ : ∃ (l : List UInt8) (d : UInt8) (t : List UInt8), l.length = 4 ∧ c :: r = l ++ d :: t := by
          match c, r, h4 with
          | c0, c1 :: c2 :: c3 :: c4 :: r, _ => exact ⟨[c0, c1, c2, c3], c4, r, rfl, rfl⟩
          | _, [], h => simp at h
          | _, [_], h => simp at h
          | _, [_, _], h => simp at h
          | _, [_, _, _], h => simp at h
        obtain ⟨l', hl'⟩ : ∃ l', l = c :: l' := by
          cases l with
          | nil => simp at hl
          | cons x l' => simp only [List.cons_append, List.cons.injEq] at e; exact ⟨l', by rw [e.1]⟩
        rw [e] at hB h
        have ht : ∀ x ∈ t, x = 0 := bits_none fun q => by
          cases hb : bitAt t q with
          | false => rfl
          | true =>
            have := hB (q + 8 + 8 * l.length) (by rw [bit_right, bit_cons]; exact hb)
            omega
        have hd : d.toNat < 2 ^ s := nat_small fun k hk => by
          by_cases hk8 : k < 8
          · cases hb : d.toNat.testBit k with
            | false => rfl
            | true =>
              have := hB (k + 8 * l.length) (by rw [bit_right, bit_head _ _ hk8]; exact hb)
              omega
          · exact byte_high d (by omega)
        have hte : t = List.replicate t.length 0 := List.eq_replicate_of_mem ht
        have h2 : takeBs 0#32 (l ++ [d]) = 0#32 := by
          have e2 : l ++ d :: t = (l ++ [d]) ++ List.replicate t.length 0 := by rw [← hte]; simp
          rw [e2, takeBs_append, takeBs_noughts] at h
          exact stpN_eq_zero h
        have hlv : ∀ i, i < s → (leVal l).getLsbD i = false := fun i hi => by
          rw [hl']
          show (BitVec.ofNat 32 c.toNat ^^^ (leVal l' <<< 8)).getLsbD i = false
          rw [BitVec.getLsbD_xor, shl8_bit, BitVec.getLsbD_ofNat, hlow i hi]
          have : i < 8 := by omega
          simp [this]
        have := (burst5 hl hs hlv hd h2).1 c (by rw [hl']; simp)
        exact hc this

theorem xors_len2 {a z : List UInt8} (h : a.length = z.length) : (xors a z).length = a.length := by unfold xors; rw [List.length_zipWith]; omega
theorem xors_app {a b c d : List UInt8} (h : a.length = b.length) : xors (a ++ c) (b ++ d) = xors a b ++ xors c d := by unfold xors; exact List.zipWith_append h
theorem xors_zero : ∀ {l z : List UInt8}, l.length = z.length → (∀ c ∈ z, c = 0) → xors l z = l
  | [], _, _, _ => rfl
  | a :: r, [], h, _ => by simp at h
  | a :: r, c :: z, h, hz => by
    have h1 : c = 0 := hz c (by simp)
    have h2 := xors_zero (l := r) (z := z) (by simpa using h) (fun x hx => hz x (by simp [hx]))
    show (a ^^^ c) :: xors r z = _
    rw [h1, h2]; simp
theorem xors_twice : ∀ {l z : List UInt8}, l.length = z.length → xors l (xors l z) = z
  | [], [], _ => rfl
  | [], _ :: _, h => by simp at h
  | a :: r, [], h => by simp at h
  | a :: r, c :: z, h => by
    show (a ^^^ (a ^^^ c)) :: xors r (xors r z) = _
    rw [xors_twice (by simpa using h), ← UInt8.xor_assoc, UInt8.xor_self, UInt8.zero_xor]
/-- What ends with its own sum has always the same remainder. -/
theorem remains (y : BitVec 32) (x : List UInt8) : takeBs y (x ++ leB (~~~ (takeBs y x))) = stpN 32 (BitVec.allOnes 32) := by
  rw [takeBs_append, takeBs_small _ _ (by rw [leB_len]; omega), leB_leVal, leB_len]
  congr 1
  apply BitVec.eq_of_getLsbD_eq
  intro i hi
  rw [BitVec.getLsbD_xor, BitVec.getLsbD_not, BitVec.getLsbD_allOnes]
  cases (takeBs y x).getLsbD i <;> simp [hi]
/-- Two that end with their own sums differ by no burst. -/
theorem remains_same {y : BitVec 32} {x x' z : List UInt8} {o : Int} (hz : (x ++ leB (~~~ (takeBs y x))).length = z.length) (hx : xors (x ++ leB (~~~ (takeBs y x))) z = x' ++ leB (~~~ (takeBs y x'))) (hB : Burst z o) : ∀ c ∈ z, c = 0 := by
  refine burst_zero z o hB ?_
  have h1 := takeBs_xor (x ++ leB (~~~ (takeBs y x))) (x' ++ leB (~~~ (takeBs y x'))) y y (by rw [← hx, xors_len2 hz])
  rw [remains, remains, BitVec.xor_self, BitVec.xor_self, ← hx, xors_twice hz] at h1
  exact h1.symm
theorem hd_eq (n k : Nat) : hdE n k = tldE n k ++ leB (~~~ (takeBs (~~~ 0#32) (tldE n k))) := rfl
theorem last_eq (n : Nat) (b : List UInt8) : leB (lastE n b) = leB (~~~ (takeBs (~~~ (ofE (tldE n b.length))) b)) := rfl

theorem split_at {z : List UInt8} {k : Nat} (h : k ≤ z.length) : ∃ a b, z = a ++ b ∧ a.length = k := ⟨z.take k, z.drop k, (List.take_append_drop k z).symm, by simp; omega⟩
theorem prefix_eq {a b c : List UInt8} (h : a <+: b ++ c) (hl : a.length = b.length) : a = b := by
  obtain ⟨t, ht⟩ := h
  exact (List.append_inj ht hl).1
/-- A record in which bits were turned is wrong. -/
theorem taken_turned {n : Nat} {b z t : List UInt8} {o : Int} (hb : b.length ≤ 262144) (hz : z.length = b.length + 20) (hB : Burst z o) (hne : ¬ ∀ c ∈ z, c = 0) : takenE (xors (recE n b) z ++ t) n = ([], 70) := by
  obtain ⟨z1, z2, rfl, hz1⟩ := split_at (z := z) (k := 16) (by omega)
  have hz2 : z2.length = b.length + 4 := by simp at hz; omega
  have hhl := hd_len n b.length
  have e0 : xors (recE n b) (z1 ++ z2) = xors (hdE n b.length) z1 ++ xors (b ++ leB (lastE n b)) z2 := xors_app (by rw [hhl, hz1])
  have l1 : (xors (hdE n b.length) z1).length = 16 := by rw [xors_len2 (by rw [hhl, hz1]), hhl]
  rw [e0, List.append_assoc]
  generalize hR : xors (b ++ leB (lastE n b)) z2 ++ t = R
  have hbl : (b ++ leB (lastE n b)).length = z2.length := by rw [hz2]; simp [leB_len]
  have hRl : b.length + 4 ≤ R.length := by rw [← hR, List.length_append, xors_len2 hbl, hbl, hz2]; omega
  by_cases h0 : ∀ c ∈ z1, c = 0
  · have e1 : xors (hdE n b.length) z1 = hdE n b.length := xors_zero (by rw [hhl, hz1]) h0
    have hn2 : ¬ ∀ c ∈ z2, c = 0 := fun h => hne fun c hc => by
      rcases List.mem_append.1 hc with h1 | h1
      · exact h0 c h1
      · exact h c h1
    have h4 := hd_take4 (n := n) (k := b.length) (r := R) (by omega)
    have d16 : (hdE n b.length ++ R).drop 16 = R := by
      rw [List.drop_append_of_le_length (by rw [hd_len]; omega), List.drop_of_length_le (by rw [hd_len]; omega), List.nil_append]
    rw [e1]
    unfold takenE
    rw [h4, d16, if_neg (by simp [hd_len]), if_neg (by
      rintro (h | h)
      · omega
      · exact h (List.prefix_append _ _)), if_neg (by omega), if_pos]
    intro hp
    obtain ⟨za, zs, rfl, hza⟩ := split_at (z := z2) (k := b.length) (by omega)
    have hzs : zs.length = 4 := by simp at hz2; omega
    have e2 : xors (b ++ leB (lastE n b)) (za ++ zs) = xors b za ++ xors (leB (lastE n b)) zs := xors_app hza.symm
    have lb : (xors b za).length = b.length := xors_len2 hza.symm
    have t1 : R.take b.length = xors b za := by rw [← hR, e2, List.append_assoc, List.take_append_of_le_length (by omega), List.take_of_length_le (by omega)]
    have t2 : R.drop b.length = xors (leB (lastE n b)) zs ++ t := by rw [← hR, e2, List.append_assoc, List.drop_append_of_le_length (by omega), List.drop_of_length_le (by omega), List.nil_append]
    rw [t1, t2] at hp
    have hs := prefix_eq hp (by rw [xors_len2 (by rw [leB_len, hzs])]; rfl)
    have hB2 := hB.right
    refine hn2 (remains_same (y := ~~~ (ofE (tldE n b.length))) (x := b) (x' := xors b za) (by rw [← last_eq]; exact hbl) ?_ hB2)
    rw [← last_eq, e2, ← hs, last_eq, lb]
  · have hB1 := hB.left
    unfold takenE
    rw [if_neg (by simp [l1]), if_pos]
    by_cases hlen : 262144 < beN ((xors (hdE n b.length) z1 ++ R).take 4)
    · exact .inl hlen
    · refine .inr fun hp => h0 ?_
      have hs := prefix_eq hp (by rw [hd_len, l1])
      exact remains_same (y := ~~~ 0#32) (x := tldE n b.length) (x' := tldE n (beN ((xors (hdE n b.length) z1 ++ R).take 4))) (by rw [← hd_eq, hhl, hz1]) (by rw [← hd_eq, ← hd_eq]; exact hs.symm) hB1
/-- Records in which bits were turned are told. -/
theorem recs_turned : ∀ (l : List (List UInt8)), short l → ∀ (n : Nat) (z : List UInt8) (o : Int) (f : Nat), z.length = (catR n l).length → Burst z o → (¬ ∀ c ∈ z, c = 0) → (catR n l).length < f → recsF f (xors (catR n l) z) n = ([], 0, 70)
  | [], _, n, z, o, f, hz, _, hne, _ => by
    have : z = [] := List.eq_nil_of_length_eq_zero (by simpa [catR] using hz)
    subst this
    exact absurd (by simp) hne
  | b :: r, hs, n, z, o, f, hz, hB, hne, hf => by
    have hrl := rec_len n b
    have hcl : (catR n (b :: r)).length = b.length + 20 + (catR (n + 1) r).length := by
      show (recE n b ++ catR (n + 1) r).length = _
      rw [List.length_append, hrl]
    obtain ⟨z1, z2, rfl, hz1⟩ := split_at (z := z) (k := b.length + 20) (by omega)
    have hz2 : z2.length = (catR (n + 1) r).length := by simp at hz; omega
    have e0 : xors (catR n (b :: r)) (z1 ++ z2) = xors (recE n b) z1 ++ xors (catR (n + 1) r) z2 := xors_app (by omega)
    rw [e0]
    cases f with
    | zero => omega
    | succ f =>
      unfold recsF
      by_cases h0 : ∀ c ∈ z1, c = 0
      · have e1 : xors (recE n b) z1 = recE n b := xors_zero (by omega) h0
        rw [e1, taken_rec (hs b (by simp))]
        have hd : (recE n b ++ xors (catR (n + 1) r) z2).drop (b.length + 20) = xors (catR (n + 1) r) z2 := by
          rw [List.drop_append_of_le_length (by omega), List.drop_of_length_le (by omega), List.nil_append]
        have ih := recs_turned r (fun x hx => hs x (by simp [hx])) (n + 1) z2 (o - 8 * z1.length) f hz2 hB.right (fun h => hne fun c hc => by
          rcases List.mem_append.1 hc with h1 | h1
          · exact h0 c h1
          · exact h c h1) (by omega)
        simp only [hd, ih]
        simp
      · rw [taken_turned (hs b (by simp)) hz1 hB.left h0]
        simp

/-- Where the first i records end. -/
def endE (l : List (List UInt8)) (i : Nat) : Nat := (catR 1 (l.take i)).length
theorem end_more {l : List (List UInt8)} {i : Nat} (h : i < l.length) : endE l (i + 1) = endE l i + (l[i].length + 20) := by
  unfold endE
  rw [List.take_succ_eq_append_getElem h, catR_snoc, List.length_append, rec_len]
theorem end_zero (l : List (List UInt8)) : endE l 0 = 0 := rfl
theorem end_all (l : List (List UInt8)) : endE l l.length = (catR 1 l).length := by unfold endE; rw [List.take_length]
theorem end_mono {l : List (List UInt8)} : ∀ {i j : Nat}, i ≤ j → j ≤ l.length → endE l i ≤ endE l j := by
  intro i j h hj
  induction j with
  | zero => have : i = 0 := by omega
            subst this; exact Nat.le_refl _
  | succ j ih =>
    by_cases e : i = j + 1
    · subst e; exact Nat.le_refl _
    · have := ih (by omega) (by omega)
      rw [end_more (by omega)]
      omega
theorem ends_at (l : List (List UInt8)) {k : Nat} (h : k ≤ endE l l.length) : ∃ M, M ≤ l.length ∧ endE l M ≤ k ∧ (M = l.length ∧ k = endE l M ∨ M < l.length ∧ k < endE l (M + 1)) ∧ ∀ i, i < l.length → (endE l (i + 1) ≤ k ↔ i < M) := by
  have key : ∀ n, n ≤ l.length → ∃ M, M ≤ n ∧ endE l M ≤ k ∧ ∀ j, j ≤ n → endE l j ≤ k → j ≤ M := by
    intro n
    induction n with
    | zero => intro _; exact ⟨0, Nat.le_refl _, Nat.zero_le _, fun j h _ => h⟩
    | succ n ih =>
      intro hn
      obtain ⟨M, h1, h2, h3⟩ := ih (by omega)
      by_cases hc : endE l (n + 1) ≤ k
      · exact ⟨n + 1, Nat.le_refl _, hc, fun j h _ => h⟩
      · refine ⟨M, by omega, h2, fun j hj hjk => ?_⟩
        by_cases e : j = n + 1
        · subst e; exact absurd hjk hc
        · exact h3 j (by omega) hjk
  obtain ⟨M, h1, h2, h3⟩ := key l.length (Nat.le_refl _)
  refine ⟨M, h1, h2, ?_, fun i hi => ⟨fun hk => h3 (i + 1) (by omega) hk, fun hM => Nat.le_trans (end_mono (by omega) h1) h2⟩⟩
  by_cases e : M = l.length
  · left
    exact ⟨e, by rw [e] at h2 ⊢; omega⟩
  · refine .inr ⟨by omega, ?_⟩
    by_cases hc : endE l (M + 1) ≤ k
    · have := h3 (M + 1) (by omega) hc; omega
    · omega
theorem recs_begin {l : List (List UInt8)} (hs : short l) {k M : Nat} (h1 : endE l M ≤ k) (h2 : M = l.length ∧ k = endE l M ∨ M < l.length ∧ k < endE l (M + 1)) : recsE ((catR 1 l).take k) = (l.take M, endE l M, 0) := by
  rcases h2 with ⟨rfl, rfl⟩ | ⟨hM, hk⟩
  · rw [end_all, List.take_length, List.take_of_length_le (Nat.le_refl _)]
    exact recs_cat hs
  · have hs' : short (l.take M) := fun b hb => hs b (List.mem_of_mem_take hb)
    have e : catR 1 l = catR 1 (l.take M) ++ (recE (M + 1) l[M] ++ catR (M + 2) (l.drop (M + 1))) := by
      have h3 : l = l.take M ++ (l[M] :: l.drop (M + 1)) := by rw [← List.drop_eq_getElem_cons hM, List.take_append_drop]
      conv => lhs; rw [h3]
      rw [catR_append, List.length_take, Nat.min_eq_left (by omega), Nat.add_comm 1 M]
      rfl
    have e2 := end_more hM
    have hkk : k - endE l M < l[M].length + 20 := by omega
    have e3 : (catR 1 l).take k = catR 1 (l.take M) ++ (recE ((l.take M).length + 1) l[M]).take (k - endE l M) := by
      rw [e, List.take_append, List.take_of_length_le (show (catR 1 (l.take M)).length ≤ k from h1)]
      show _ ++ (recE (M + 1) l[M] ++ _).take (k - endE l M) = _
      rw [List.take_append_of_le_length (by rw [rec_len]; omega), List.length_take, Nat.min_eq_left (by omega)]
    rw [e3]
    exact recs_torn hs' (hs _ (List.getElem_mem hM)) hkk

/-! ### bits turned one by one -/
def flip (b : List UInt8) (q : Nat) : List UInt8 := b.set (q / 8) (b.getD (q / 8) 0 ^^^ UInt8.ofNat (2 ^ (q % 8)))
theorem flip_len (b : List UInt8) (q : Nat) : (flip b q).length = b.length := by simp [flip]
theorem flip_xors {b z : List UInt8} (h : b.length = z.length) {q : Nat} (hq : q < 8 * z.length) : flip (xors b z) q = xors b (flip z q) := by
  have hl := xors_len2 h
  have h1 : q / 8 < z.length := by omega
  refine List.ext_getElem (by rw [flip_len, hl, xors_len2 (by rw [flip_len]; exact h)]) fun i h2 h3 => ?_
  have hi : i < b.length := by rw [flip_len, hl] at h2; exact h2
  unfold flip xors
  simp only [List.getElem_set, List.getElem_zipWith, List.getD, List.getElem?_zipWith]
  by_cases e : q / 8 = i
  · subst e
    have hb : b[q / 8]? = some b[q / 8] := List.getElem?_eq_getElem hi
    have hz : z[q / 8]? = some z[q / 8] := List.getElem?_eq_getElem h1
    simp only [if_true, hb, hz, Option.getD_some]
    rw [UInt8.xor_assoc]
  · simp only [e, if_false]
theorem pow_bit {k t : Nat} (hk : k < 8) : (UInt8.ofNat (2 ^ k)).toNat.testBit t = decide (k = t) := by
  have h1 : (2 : Nat) ^ k < 2 ^ 8 := Nat.pow_lt_pow_right (by omega) hk
  rw [UInt8.toNat_ofNat', Nat.mod_eq_of_lt h1, Nat.testBit_two_pow]
theorem bit_flip {z : List UInt8} {q : Nat} (hq : q < 8 * z.length) (p : Nat) : bitAt (flip z q) p = if p = q then !bitAt z q else bitAt z p := by
  have h1 : q / 8 < z.length := by omega
  unfold bitAt flip
  by_cases e : p / 8 = q / 8
  · have e1 : (z.set (q / 8) (z.getD (q / 8) 0 ^^^ UInt8.ofNat (2 ^ (q % 8)))).getD (p / 8) 0 = z.getD (q / 8) 0 ^^^ UInt8.ofNat (2 ^ (q % 8)) := by
      rw [e]
      simp [List.getD, h1]
    rw [e1, UInt8.toNat_xor, Nat.testBit_xor, pow_bit (Nat.mod_lt _ (by omega))]
    by_cases e2 : p = q
    · subst e2
      simp
    · have : ¬ q % 8 = p % 8 := by omega
      simp [this, e2, e]
  · have e1 : (z.set (q / 8) (z.getD (q / 8) 0 ^^^ UInt8.ofNat (2 ^ (q % 8)))).getD (p / 8) 0 = z.getD (p / 8) 0 := by
      simp only [List.getD]
      rw [List.getElem?_set_ne (fun h => e h.symm)]
    have e2 : ¬ p = q := fun h => e (by rw [h])
    rw [e1, if_neg e2]
/-- Of a burst the first i bits have been turned. -/
structure Trn (n a i bits : Nat) (z : List UInt8) : Prop where
  len : z.length = n
  bit : ∀ p, bitAt z p = (decide (a ≤ p) && decide (p < a + i) && decide (p < 8 * n) && bits.testBit (p - a))
theorem trn_start (n a bits : Nat) : Trn n a 0 bits (List.replicate n 0) := ⟨by simp, fun p => by
  have : bitAt (List.replicate n 0) p = false := by
    unfold bitAt
    have e : (List.replicate n (0 : UInt8)).getD (p / 8) 0 = 0 := by
      simp only [List.getD, List.getElem?_replicate]
      split <;> rfl
    rw [e]; simp
  rw [this]
  by_cases h : a ≤ p
  · have : ¬ p < a + 0 := by omega
    simp only [this, decide_false, Bool.and_false, Bool.false_and]
  · simp only [h, decide_false, Bool.false_and]⟩
theorem trn_one {n a i bits : Nat} {z : List UInt8} (h : Trn n a i bits z) (hi : a + i < 8 * n) (hb : bits.testBit i = true) : Trn n a (i + 1) bits (flip z (a + i)) := by
  refine ⟨by rw [flip_len]; exact h.len, fun p => ?_⟩
  rw [bit_flip (by rw [h.len]; exact hi), h.bit, h.bit]
  by_cases e : p = a + i
  · subst e
    have e1 : a + i - a = i := by omega
    have e2 : a + i < a + (i + 1) := by omega
    simp [e1, e2, hi, hb]
  · rw [if_neg e]
    have : (p < a + (i + 1)) ↔ (p < a + i) := by omega
    simp only [this]
theorem trn_none {n a i bits : Nat} {z : List UInt8} (h : Trn n a i bits z) (hb : bits.testBit i = false) : Trn n a (i + 1) bits z := by
  refine ⟨h.len, fun p => ?_⟩
  rw [h.bit]
  by_cases e : p = a + i
  · subst e
    have e1 : a + i - a = i := by omega
    simp [e1, hb]
  · have : (p < a + (i + 1)) ↔ (p < a + i) := by omega
    simp only [this]
theorem trn_burst {n a i bits : Nat} {z : List UInt8} (h : Trn n a i bits z) (hi : i ≤ 32) : Burst z a := fun p hp => by
  rw [h.bit] at hp
  simp only [Bool.and_eq_true, decide_eq_true_eq] at hp
  omega
theorem bits_zero {z : List UInt8} (h : ∀ c ∈ z, c = 0) (p : Nat) : bitAt z p = false := by
  unfold bitAt
  have e : z.getD (p / 8) 0 = 0 := by
    simp only [List.getD]
    cases e : z[p / 8]? with
    | none => rfl
    | some c => obtain ⟨h1, rfl⟩ := List.getElem?_eq_some_iff.1 e
                exact h _ (List.getElem_mem h1)
  rw [e]; simp
end Go.Proofs.YtncpkblgiepdpaaGreat
