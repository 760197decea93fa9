/- A record's head told from its pieces: no program here, and no condition. -/
import Derived.Test.YtncpkblgiepdpaaGreatJoM
set_option linter.unusedVariables false
set_option linter.unusedSimpArgs false
namespace Go.Proofs.YtncpkblgiepdpaaGreat

theorem take12_split (b : List UInt8) : b.take 12 = b.take 4 ++ (b.take 12).drop 4 := by
  have := (List.take_append_drop 4 (b.take 12)).symm
  rw [List.take_take] at this
  exact this
theorem take16_split (b : List UInt8) : b.take 16 = b.take 12 ++ (b.take 16).drop 12 := by
  have h := (List.take_append_drop 12 (b.take 16)).symm
  have e : (b.take 16).take 12 = b.take 12 := by rw [List.take_take]; rfl
  rw [e] at h
  exact h
theorem beN_256 (l : List UInt8) (a : Nat) (h : a = l.length) : beE a (beN l) = l := by subst h; exact beE_beN l
/-- The head, by its pieces. -/
theorem head_pieces {b : List UInt8} {n : Nat} (hb : 16 ≤ b.length) (hn : n < 256 ^ 8) :
    (hdE n (beN (b.take 4)) <+: b) ↔ ((b.take 16).drop 12 = leB (ofE (b.take 12)) ∧ beN ((b.take 12).drop 4) = n) := by
  have l4 : (b.take 4).length = 4 := by rw [List.length_take]; omega
  have l8 : ((b.take 12).drop 4).length = 8 := by rw [List.length_drop, List.length_take]; omega
  have l1 : ((b.take 16).drop 12).length = 4 := by rw [List.length_drop, List.length_take]; omega
  have e4 : beE 4 (beN (b.take 4)) = b.take 4 := beN_256 _ 4 l4.symm
  have hp : (hdE n (beN (b.take 4)) <+: b) ↔ hdE n (beN (b.take 4)) = b.take 16 := by
    rw [List.prefix_iff_eq_take, hd_len]
  rw [hp]
  have s16 := take16_split b
  have s12 := take12_split b
  generalize (b.take 16).drop 12 = X at *
  generalize (b.take 12).drop 4 = Y at *
  rw [s16]
  unfold hdE tldE
  rw [e4]
  rw [s12]
  generalize b.take 4 = Z at *
  constructor
  · intro h
    obtain ⟨h1, h3⟩ := List.append_inj h (by rw [List.length_append, List.length_append, beE_len, l8])
    have h2 := List.append_cancel_left h1
    exact ⟨by rw [← h3, h2], by rw [← h2, beN_beE, Nat.mod_eq_of_lt hn]⟩
  · rintro ⟨h1, h2⟩
    have h3 : beE 8 n = Y := by rw [← h2]; exact beN_256 _ 8 l8.symm
    rw [h3, h1]
theorem high_zero {l : List UInt8} (hl : l.length = 8) (h : l[0]'(by omega) = 0) : beN l < 256 ^ 7 := by
  match l, hl with
  | a :: r, hl =>
    simp at h
    subst h
    rw [beN_cons]
    have := beN_lt r
    have hr : r.length = 7 := by simpa using hl
    rw [hr] at this
    simpa using this
theorem high_pos {l : List UInt8} (hl : l.length = 8) (h : l[0]'(by omega) ≠ 0) : 256 ^ 7 ≤ beN l := by
  match l, hl with
  | a :: r, hl =>
    simp at h
    rw [beN_cons]
    have hr : r.length = 7 := by simpa using hl
    rw [hr]
    clear hl
    have h1 : 1 ≤ a.toNat := by
      rcases Nat.eq_zero_or_pos a.toNat with e | e
      · exact absurd (UInt8.toNat_inj.1 (by rw [e]; rfl)) h
      · exact e
    exact Nat.le_trans (by rw [Nat.one_mul]; exact Nat.le_refl _) (Nat.le_trans (Nat.mul_le_mul_right (256 ^ 7) h1) (Nat.le_add_right _ _))
theorem tld_of_head {b : List UInt8} {n k : Nat} (h : hdE n k <+: b) : tldE n k = b.take 12 := by
  obtain ⟨r, hr⟩ := h
  rw [← hr]
  unfold hdE
  rw [List.append_assoc, List.take_append_of_le_length (by rw [tld_len]; omega), List.take_of_length_le (by rw [tld_len]; omega)]
/-- The sum at a record's end, by its pieces. -/
theorem tail_pieces {b : List UInt8} {n k : Nat} (h : hdE n k <+: b) (hb : 20 + k ≤ b.length) :
    (leB (lastE n ((b.drop 16).take k)) <+: (b.drop 16).drop k) ↔ ((b.take (16 + k + 4)).drop (16 + k) = leB (ofE (b.take 12 ++ (b.take (16 + k)).drop 16))) := by
  have e1 : (b.take (16 + k)).drop 16 = (b.drop 16).take k := by rw [List.drop_take]; congr 1; omega
  have e2 : (b.take (16 + k + 4)).drop (16 + k) = (b.drop (16 + k)).take 4 := by rw [List.drop_take]; congr 1; omega
  have e3 : (b.drop 16).drop k = b.drop (16 + k) := List.drop_drop
  have e4 : ((b.drop 16).take k).length = k := by rw [List.length_take, List.length_drop]; omega
  have e5 : lastE n ((b.drop 16).take k) = ofE (b.take 12 ++ (b.drop 16).take k) := by
    unfold lastE
    rw [e4, tld_of_head h]
    exact (onE_append 0#32 _ _).symm
  rw [e1, e2, e3, e5, List.prefix_iff_eq_take, leB_len]
  exact eq_comm
end Go.Proofs.YtncpkblgiepdpaaGreat
