/- Numbers and texts as lists of bytes: what was written is read as it was; what can be read is written so; what is cut. Plain lists, no program. -/
import Derived.Test.YtlblcligjelbgaaMath
namespace Go.Proofs.Ytlblcligjelbgaa

theorem digs_len8 {n : Nat} (h : n ≤ 9007199254740991) : (digs n).length ≤ 8 := by
  rcases digs_len_le 8 n (by omega) with h | h
  · exact h
  · omega

theorem ext_digs (n : Nat) : ∀ (k : Nat) (r : List UInt8), k + (digs n).length ≤ 8 → extE k (digs n ++ r) = (k + (digs n).length, 0) := by
  induction n using digs.induct with
  | case1 n h =>
    intro k r hk
    rw [digs_small h]
    simp only [List.cons_append, List.nil_append, extE, dig0_nat h, if_pos h, List.length_singleton]
  | case2 n h ih =>
    intro k r hk
    rw [digs_big (by omega), List.length_cons] at hk
    rw [digs_big (by omega)]
    have hp := digs_len_pos (n / 128)
    simp only [List.cons_append, extE, dig1_nat, List.length_cons]
    rw [if_neg (by omega), if_neg (by omega), ih _ _ (by omega)]
    simp only [Prod.mk.injEq, and_true]
    omega

theorem ext_cut (n : Nat) : ∀ (k i : Nat), k + (digs n).length ≤ 8 → i < (digs n).length → extE k ((digs n).take i) = (0, 3) := by
  induction n using digs.induct with
  | case1 n h =>
    intro k i hk hi
    rw [digs_small h] at hi ⊢
    obtain rfl : i = 0 := by simp at hi; omega
    rfl
  | case2 n h ih =>
    intro k i hk hi
    rw [digs_big (by omega), List.length_cons] at hk hi
    rw [digs_big (by omega)]
    have hp := digs_len_pos (n / 128)
    rcases i with _ | i
    · rfl
    · simp only [List.take_succ_cons, extE, dig1_nat]
      rw [if_neg (by omega), if_neg (by omega), ih _ _ (by omega) (by omega)]

theorem val_digs (n : Nat) : val (digs n) = n := by
  induction n using digs.induct with
  | case1 n h => rw [digs_small h]; simp only [val, dig0_nat h]; omega
  | case2 n h ih => rw [digs_big (by omega)]; simp only [val, dig1_nat, ih]; omega

theorem last_digs (n : Nat) : 128 ≤ n → (digs n).getD ((digs n).length - 1) 0 ≠ 0 := by
  induction n using digs.induct with
  | case1 n h => intro h'; omega
  | case2 n h ih =>
    intro _
    rw [digs_big (by omega)]
    have hp := digs_len_pos (n / 128)
    rw [List.length_cons, Nat.add_sub_cancel]
    obtain ⟨q, hq⟩ : ∃ q, (digs (n / 128)).length = q + 1 := ⟨_, (Nat.sub_add_cancel hp).symm⟩
    rw [hq, List.getD_cons_succ]
    by_cases hs : n / 128 < 128
    · rw [digs_small hs] at hq ⊢
      obtain rfl : q = 0 := by simpa using hq.symm
      simp only [List.getD_cons_zero]
      intro h0
      have := congrArg UInt8.toNat h0
      rw [dig0_nat hs] at this
      simp at this
      omega
    · have := ih (by omega)
      rwa [hq, Nat.add_sub_cancel] at this

theorem len_one {n : Nat} (h : (digs n).length ≤ 1) : n < 128 := by
  by_cases hs : n < 128
  · exact hs
  · rw [digs_big (by omega), List.length_cons] at h
    have := digs_len_pos (n / 128)
    omega

theorem head_digs {n : Nat} (r : List UInt8) (h : n ≤ 9007199254740991) : headE (digs n ++ r) = (n, (digs n).length, 0) := by
  have h8 := digs_len8 h
  have hp := digs_len_pos n
  have he := ext_digs n 0 r (by omega)
  rw [Nat.zero_add] at he
  unfold headE
  rw [he]
  dsimp only
  rw [if_neg (by simp), if_neg, List.take_left' rfl, val_digs, if_neg (by omega)]
  rintro ⟨h1, h2⟩
  have hn : 128 ≤ n := by
    by_cases hs : n < 128
    · rw [digs_small hs] at h1; simp at h1
    · omega
  refine last_digs n hn ?_
  simp only [List.getD_eq_getElem?_getD] at h2 ⊢
  rw [List.getElem?_append_left (by omega)] at h2
  exact h2

theorem takeN_digs {n : Nat} (r : List UInt8) (h : n ≤ 9007199254740991) : takeN (digs n ++ r) = (n, r, 0) := by
  unfold takeN
  rw [head_digs r h]
  simp

theorem takeN_cut {n i : Nat} (h : n ≤ 9007199254740991) (hi : i < (digs n).length) : takeN ((digs n).take i) = (0, [], 3) := by
  have h8 := digs_len8 h
  unfold takeN headE
  rw [ext_cut n 0 i (by omega) hi]
  simp

theorem takeT_text {t r : List UInt8} {most : Int} (h : t.length ≤ 9007199254740991) (hm : (t.length : Int) ≤ most) : takeT (digs t.length ++ t ++ r) most = (t, r, 0) := by
  unfold takeT
  rw [List.append_assoc, head_digs _ h]
  dsimp only
  rw [if_neg (by omega), if_neg (by simp), if_neg (by omega), List.drop_left' rfl, if_neg (by simp)]
  simp

theorem takeT_cut {t : List UInt8} {i : Nat} {most : Int} (h : t.length ≤ 9007199254740991) (hm : (t.length : Int) ≤ most) (hi : i < (digs t.length ++ t).length) : takeT ((digs t.length ++ t).take i) most = ([], [], 3) := by
  have h8 := digs_len8 h
  by_cases hd : i < (digs t.length).length
  · rw [List.take_append_of_le_length (by omega)]
    unfold takeT headE
    rw [ext_cut _ 0 i (by omega) hd]
    simp only [ne_eq, Nat.succ_ne_zero, not_false_eq_true, if_true]
    rw [if_neg (by omega)]
  · rw [List.take_append, List.take_of_length_le (by omega)]
    unfold takeT
    rw [head_digs _ h]
    dsimp only
    rw [if_neg (by omega), if_neg (by simp), if_neg (by omega), List.drop_left' rfl, if_pos (by simp at hi ⊢; omega)]

/-- What extE tells, told of the bytes. -/
theorem digs_of_ext : ∀ (l : List UInt8) (k s : Nat), k < 8 → extE k l = (s, 0) → k < s → s - k ≤ l.length →
    ((1 < s - k ∨ 0 < k) → l.getD (s - k - 1) 0 ≠ 0) → digs (val (l.take (s - k))) = l.take (s - k)
  | [], k, s, _, h, _, _, _ => by simp [extE] at h
  | c :: r, k, s, hk, h, h1, h2, h3 => by
    unfold extE at h
    by_cases hc : c.toNat < 128
    · rw [if_pos hc] at h
      obtain rfl : k + 1 = s := by simpa using h
      have e1 : k + 1 - k = 1 := by omega
      rw [e1]
      simp only [List.take_succ_cons, List.take_zero, val]
      rw [digs_small (by omega)]
      unfold dig0
      simp only [Nat.mul_zero, Nat.add_zero, List.cons.injEq, and_true]
      rw [Nat.mod_eq_of_lt hc]
      simp
    · rw [if_neg hc] at h
      by_cases h8 : k + 1 = 8
      · rw [if_pos h8] at h; simp at h
      · rw [if_neg h8] at h
        have hb : k + 1 < s := by
          rcases ext_facts r (k + 1) (by omega) with hf | hf
          · rw [h] at hf; exact hf.2.1
          · rw [h] at hf; simp at hf
        obtain ⟨q, hq⟩ : ∃ q, s - k = q + 2 := ⟨s - k - 2, by omega⟩
        have hl : s - (k + 1) = q + 1 := by omega
        have h3' := h3 (.inl (by omega))
        rw [hq, show q + 2 - 1 = q + 1 from rfl, List.getD_cons_succ] at h3'
        rw [hq, List.length_cons] at h2
        have ih := digs_of_ext r (k + 1) s (by omega) h hb (by omega) (fun _ => by rw [hl, Nat.add_sub_cancel]; exact h3')
        rw [hl] at ih
        rw [hq, List.take_succ_cons]
        have hpos : 0 < val (r.take (q + 1)) := by
          rcases Nat.eq_zero_or_pos (val (r.take (q + 1))) with h0 | h0
          · exfalso
            rw [h0, digs_small (by omega)] at ih
            have hlen : q = 0 := by
              have := congrArg List.length ih
              rw [List.length_take] at this
              simp at this
              omega
            subst hlen
            rcases r with _ | ⟨x, r⟩
            · simp at h2
            · simp at ih
              simp [← ih, dig0] at h3'
          · exact h0
        simp only [val]
        have hcb : c.toNat < 256 := c.toNat_lt
        rw [digs_big (by omega)]
        have hd : (c.toNat % 128 + 128 * val (r.take (q + 1))) / 128 = val (r.take (q + 1)) := by omega
        rw [hd, ih]
        congr 1
        apply UInt8.toNat_inj.1
        rw [dig1_nat]
        omega

/-- What can be read is written so. -/
theorem digs_of_head {l : List UInt8} (h : (headE l).2.2 = 0) : digs (headE l).1 = l.take (headE l).2.1 := by
  unfold headE at h ⊢
  rcases ext_facts l 0 (by omega) with ⟨h1, h2, h3, h4⟩ | ⟨h1, h2⟩
  · rw [if_neg (by omega)] at h ⊢
    by_cases ha : 1 < (extE 0 l).1 ∧ l.getD ((extE 0 l).1 - 1) 0 = 0
    · rw [if_pos ha] at h; simp at h
    · rw [if_neg ha] at h ⊢
      by_cases hb : 9007199254740991 < val (l.take (extE 0 l).1)
      · rw [if_pos hb] at h; simp at h
      · rw [if_neg hb]
        generalize hp : extE 0 l = p at *
        obtain ⟨s, e⟩ := p
        dsimp only at h1 h2 h4 ha ⊢
        subst h1
        have := digs_of_ext l 0 s (by omega) hp h2 (by omega) (fun hh h0 => ha ⟨by omega, h0⟩)
        simpa using this
  · rw [if_pos (by omega)] at h
    exact absurd h (by dsimp only; omega)

theorem digs_mono : ∀ (n m : Nat), m ≤ n → (digs m).length ≤ (digs n).length := by
  intro n
  induction n using digs.induct with
  | case1 n h => intro m hm; rw [digs_small h, digs_small (by omega)]; simp
  | case2 n h ih =>
    intro m hm
    by_cases hs : m < 128
    · rw [digs_small hs]; have := digs_len_pos n; simp; omega
    · rw [digs_big (n := m) (by omega), digs_big (n := n) (by omega)]
      have := ih (m / 128) (by omega)
      simp only [List.length_cons]
      omega

theorem digs_inj_pre {n m : Nat} (hn : n ≤ 9007199254740991) (hm : m ≤ 9007199254740991) (h : digs m <+: digs n) : m = n := by
  obtain ⟨r, hr⟩ := h
  have h1 := head_digs [] hn
  have h2 := head_digs r hm
  rw [List.append_nil, ← hr, h2] at h1
  simp at h1
  exact h1.1

theorem text_inj_pre {s t : List UInt8} (hs : s.length ≤ 9007199254740991) (ht : t.length ≤ 9007199254740991) (h : digs t.length ++ t <+: digs s.length ++ s) : t = s := by
  obtain ⟨r, hr⟩ := h
  have h1 := head_digs s hs
  rw [← hr, List.append_assoc, head_digs (t ++ r) ht] at h1
  have hl : t.length = s.length := by simp at h1; exact h1.1
  rw [hl, List.append_assoc] at hr
  have h2 := List.append_cancel_left hr
  have h3 := congrArg List.length h2
  rw [List.length_append] at h3
  have h4 : r = [] := List.eq_nil_of_length_eq_zero (by omega)
  rw [h4, List.append_nil] at h2
  exact h2

end Go.Proofs.Ytlblcligjelbgaa
