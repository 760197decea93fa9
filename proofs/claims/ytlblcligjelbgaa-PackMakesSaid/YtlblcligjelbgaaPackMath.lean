/- Packs, on lists of bytes: what is packed, what is read, one way and back. No program in it. -/
import Derived.Test.YtlblcligjelbgaaMathB
import Derived.Test.YtlblcligjelbgaaCrcZ
set_option linter.unusedVariables false
namespace Go.Proofs.Ytlblcligjelbgaa
open Go.RowKit

/-- A section: its tag, its data. -/
abbrev Sec := Int × List UInt8
def tagB (t : Int) : UInt8 := UInt8.ofNat t.toNat
theorem tagB_nat {t : Int} (h0 : 0 ≤ t) (h1 : t ≤ 255) : ((tagB t).toNat : Int) = t := by
  unfold tagB
  rw [UInt8.toNat_ofNat']
  omega
/-- A section's bytes; those of all. -/
def secB (s : Sec) : List UInt8 := tagB s.1 :: (digs s.2.length ++ s.2)
def bodyOf (ss : List Sec) : List UInt8 := (ss.map secB).flatten
/-- Do tags rise? -/
def riseFrom : Int → List Sec → Bool
  | _, [] => true
  | last, s :: r => (decide (last < s.1) && decide (s.1 ≤ 255)) && riseFrom s.1 r

theorem rise_drop {ss : List Sec} {k : Nat} (h : k < ss.length) (last : Int) : riseFrom last (ss.drop k) = ((decide (last < ss[k].1) && decide (ss[k].1 ≤ 255)) && riseFrom ss[k].1 (ss.drop (k + 1))) := by
  rw [List.drop_eq_getElem_cons h, riseFrom]
theorem rise_mem : ∀ {ss : List Sec} {last : Int}, 0 ≤ last → riseFrom last ss = true → ∀ s ∈ ss, 0 < s.1 ∧ s.1 ≤ 255
  | [], _, _, _, s, hs => by cases hs
  | t :: r, last, h0, h, s, hs => by
    simp only [riseFrom, Bool.and_eq_true, decide_eq_true_eq] at h
    rcases List.mem_cons.1 hs with rfl | hs
    · omega
    · exact rise_mem (by omega) h.2 s hs
theorem rise_len : ∀ {ss : List Sec} {last : Int}, 0 ≤ last → last ≤ 255 → riseFrom last ss = true → (ss.length : Int) + last ≤ 255
  | [], _, _, h1, _ => by simpa using h1
  | t :: r, last, h0, _, h => by
    simp only [riseFrom, Bool.and_eq_true, decide_eq_true_eq] at h
    have := rise_len (by omega) (by omega) h.2
    simp only [List.length_cons]
    omega

def bodyTo (ss : List Sec) (k : Nat) : List UInt8 := bodyOf (ss.take k)
theorem body_more {ss : List Sec} {k : Nat} (h : k < ss.length) : bodyTo ss (k + 1) = bodyTo ss k ++ secB ss[k] := by
  unfold bodyTo bodyOf
  rw [List.take_succ_eq_append_getElem h, List.map_append, List.flatten_append]
  simp only [List.map_cons, List.map_nil, List.flatten_cons, List.flatten_nil, List.append_nil]
theorem body_all {ss : List Sec} {k : Nat} (h : ss.length ≤ k) : bodyTo ss k = bodyOf ss := by unfold bodyTo; rw [List.take_of_length_le h]
theorem body_le (ss : List Sec) (k : Nat) : (bodyTo ss k).length ≤ (bodyOf ss).length := by
  have h : bodyOf ss = bodyTo ss k ++ bodyOf (ss.drop k) := by
    unfold bodyTo bodyOf
    rw [← List.flatten_append, ← List.map_append, List.take_append_drop]
  rw [h, List.length_append]; omega
theorem secB_len (s : Sec) : s.2.length < (secB s).length := by unfold secB; simp; omega

/-- Bytes as a number, the lowest first. -/
def leN : List UInt8 → Nat
  | [] => 0
  | c :: l => c.toNat + 256 * leN l
theorem leN_append (l r : List UInt8) : leN (l ++ r) = leN l + 256 ^ l.length * leN r := by
  induction l with
  | nil => simp [leN]
  | cons c l ih => simp only [List.cons_append, leN, ih, List.length_cons, Nat.pow_succ]; rw [Nat.mul_add, ← Nat.mul_assoc, Nat.mul_comm 256 (256 ^ _), Nat.add_assoc]
theorem leN_lt (l : List UInt8) : leN l < 256 ^ l.length := by
  induction l with
  | nil => simp [leN]
  | cons c l ih =>
    have := c.toNat_lt
    simp only [leN, List.length_cons, Nat.pow_succ]; omega
theorem leN_more {l : List UInt8} {k : Nat} (h : k < l.length) : leN (l.take (k + 1)) = leN (l.take k) + 256 ^ k * l[k].toNat := by
  rw [List.take_succ_eq_append_getElem h, leN_append, List.length_take, Nat.min_eq_left (by omega)]
  simp [leN]
theorem leN_four (x : BitVec 32) : leN (fourE x) = x.toNat := by
  have := x.isLt
  simp only [fourE, leN, lowB_nat, BitVec.toNat_ushiftRight, Nat.shiftRight_eq_div_pow]
  omega
theorem four_leN {l : List UInt8} (h : l.length = 4) : fourE (BitVec.ofNat 32 (leN l)) = l := by
  match l, h with
  | [a, b, c, d], _ =>
    have ha := a.toNat_lt
    have hb := b.toNat_lt
    have hc := c.toNat_lt
    have hd := d.toNat_lt
    simp only [fourE, leN, List.cons.injEq, and_true]
    refine ⟨?_, ?_, ?_, ?_⟩ <;> (apply UInt8.toNat_inj.1; rw [lowB_nat]; simp only [BitVec.toNat_ushiftRight, BitVec.toNat_ofNat, Nat.shiftRight_eq_div_pow]; omega)

def fourN (n : Nat) : List UInt8 := fourE (BitVec.ofNat 32 n)
theorem fourN_len (n : Nat) : (fourN n).length = 4 := rfl
theorem fourE_len (x : BitVec 32) : (fourE x).length = 4 := rfl
theorem leN_fourN {n : Nat} (h : n < 4294967296) : leN (fourN n) = n := by
  unfold fourN
  rw [leN_four, BitVec.toNat_ofNat]
  omega

def innerE (kind : Nat) (body : List UInt8) : List UInt8 := [73, 80] ++ (fourN (11 + body.length) ++ ([UInt8.ofNat kind] ++ body))
def sealE (l : List UInt8) : List UInt8 := l ++ fourE (ofE l)
theorem seal_len (l : List UInt8) : (sealE l).length = l.length + 4 := by unfold sealE; rw [List.length_append, fourE_len]
theorem inner_len (kind : Nat) (body : List UInt8) : (innerE kind body).length = 7 + body.length := by unfold innerE; simp [fourN_len]; omega
/-- Pack. -/
def packE (kind : Int) (ss : List Sec) : List UInt8 × Nat :=
  if kind < 0 ∨ 255 < kind ∨ riseFrom 0 ss = false then ([], 2) else if 262144 < 11 + (bodyOf ss).length then ([], 5) else (sealE (innerE kind.toNat (bodyOf ss)), 0)

/-- Size. -/
def sizeE (b : List UInt8) : Nat × Nat :=
  if b.take 2 ≠ ([73, 80] : List UInt8).take b.length then (0, 4) else if b.length < 6 then (0, 3) else if 262144 < leN ((b.drop 2).take 4) then (0, 5) else if leN ((b.drop 2).take 4) < 11 then (0, 4) else (leN ((b.drop 2).take 4), 0)

theorem takeT_len (l : List UInt8) (most : Int) : (takeT l most).2.1.length ≤ l.length := by
  unfold takeT
  repeat' split
  all_goals simp
  all_goals omega

/-- Sections, taken off till nothing is left. -/
def secsN : Nat → Int → List UInt8 → Option (List Sec)
  | _, _, [] => some []
  | 0, _, _ :: _ => none
  | n + 1, last, t :: r => if (takeT r 262144).2.2 ≠ 0 ∨ ¬ last < (t.toNat : Int) then none else (secsN n t.toNat (takeT r 262144).2.1).map (((t.toNat : Int), (takeT r 262144).1) :: ·)
theorem secsN_more : ∀ (n m : Nat) (last : Int) (l : List UInt8), l.length ≤ n → l.length ≤ m → secsN n last l = secsN m last l
  | n, m, last, [], _, _ => by cases n <;> cases m <;> rfl
  | 0, _, _, _ :: _, h, _ => by simp at h
  | _, 0, _, _ :: _, _, h => by simp at h
  | n + 1, m + 1, last, t :: r, h, h' => by
    have := takeT_len r 262144
    simp only [List.length_cons] at h h'
    simp only [secsN]
    rw [secsN_more n m _ _ (by omega) (by omega)]
def secsE (last : Int) (l : List UInt8) : Option (List Sec) := secsN l.length last l
theorem secsE_nil (last : Int) : secsE last [] = some [] := rfl
theorem secsE_cons (last : Int) (t : UInt8) (r : List UInt8) : secsE last (t :: r) = if (takeT r 262144).2.2 ≠ 0 ∨ ¬ last < (t.toNat : Int) then none else (secsE t.toNat (takeT r 262144).2.1).map (((t.toNat : Int), (takeT r 262144).1) :: ·) := by
  have := takeT_len r 262144
  unfold secsE
  simp only [List.length_cons, secsN]
  rw [secsN_more r.length (takeT r 262144).2.1.length _ _ (by omega) (by omega)]

/-- Unpack. -/
def unpackE (b : List UInt8) : Nat × List Sec × Nat :=
  if (sizeE b).2 ≠ 0 then (0, [], (sizeE b).2) else if b.length < (sizeE b).1 then (0, [], 3) else if (sizeE b).1 < b.length then (0, [], 4)
  else if sealE (b.take (b.length - 4)) ≠ b then (0, [], 30)
  else match secsE 0 ((b.take (b.length - 4)).drop 7) with
    | none => (0, [], 4)
    | some ss => ((b.getD 6 0).toNat, ss, 0)

theorem unpack_err (b : List UInt8) : (unpackE b).2.2 = 0 ∨ unpackE b = (0, [], (unpackE b).2.2) := by
  unfold unpackE
  repeat' split
  all_goals simp

/-- Of bytes that a text was taken from: that text, and what is left. -/
theorem takeT_back {l : List UInt8} {most : Int} (h : (takeT l most).2.2 = 0) : l = digs (takeT l most).1.length ++ (takeT l most).1 ++ (takeT l most).2.1 ∧ ((takeT l most).1.length : Int) ≤ most ∧ (takeT l most).1.length ≤ 9007199254740991 := by
  unfold takeT at h ⊢
  have hf := head_facts l
  by_cases h1 : most < 0
  · rw [if_pos h1] at h; simp at h
  rw [if_neg h1] at h ⊢
  by_cases h2 : (headE l).2.2 ≠ 0
  · rw [if_pos h2] at h; exact absurd h h2
  rw [if_neg h2] at h ⊢
  by_cases h3 : most < (headE l).1
  · rw [if_pos h3] at h; simp at h
  rw [if_neg h3] at h ⊢
  by_cases h4 : (l.drop (headE l).2.1).length < (headE l).1
  · rw [if_pos h4] at h; simp at h
  rw [if_neg h4]
  have hd := digs_of_head (l := l) (by omega)
  dsimp only
  have hl : ((l.drop (headE l).2.1).take (headE l).1).length = (headE l).1 := by rw [List.length_take]; omega
  rw [hl, hd, List.append_assoc, List.take_append_drop, List.take_append_drop]
  exact ⟨rfl, by omega, by omega⟩

theorem secs_body : ∀ (ss : List Sec) (last : Int), 0 ≤ last → riseFrom last ss = true → (∀ s ∈ ss, s.2.length ≤ 262144) → secsE last (bodyOf ss) = some ss
  | [], _, _, _, _ => rfl
  | s :: r, last, h0, h, hs => by
    have hm := rise_mem h0 h s (List.mem_cons_self ..)
    have hs1 := hs s (List.mem_cons_self ..)
    simp only [riseFrom, Bool.and_eq_true, decide_eq_true_eq] at h
    have e : bodyOf (s :: r) = tagB s.1 :: (digs s.2.length ++ s.2 ++ bodyOf r) := by unfold bodyOf secB; simp
    rw [e, secsE_cons, takeT_text (by omega) (by omega), tagB_nat (by omega) (by omega), if_neg (by simp; omega)]
    dsimp only
    rw [secs_body r s.1 (by omega) h.2 (fun t ht => hs t (List.mem_cons_of_mem _ ht))]
    rfl

theorem secs_back : ∀ (n : Nat) (l : List UInt8) (last : Int) (ss : List Sec), l.length ≤ n → secsE last l = some ss → bodyOf ss = l ∧ riseFrom last ss = true
  | _, [], last, ss, _, h => by
    rw [secsE_nil] at h
    cases h
    exact ⟨rfl, rfl⟩
  | 0, _ :: _, _, _, hn, _ => by simp at hn
  | n + 1, t :: r, last, ss, hn, h => by
    rw [secsE_cons] at h
    by_cases hc : (takeT r 262144).2.2 ≠ 0 ∨ ¬ last < (t.toNat : Int)
    · rw [if_pos hc] at h; cases h
    rw [if_neg hc] at h
    have hc1 : (takeT r 262144).2.2 = 0 := by omega
    have hc2 : last < (t.toNat : Int) := by omega
    rw [Option.map_eq_some_iff] at h
    obtain ⟨ss', h', rfl⟩ := h
    have hl := takeT_len r 262144
    simp only [List.length_cons] at hn
    obtain ⟨g1, g2⟩ := secs_back n _ _ ss' (by omega) h'
    obtain ⟨k1, k2, k3⟩ := takeT_back hc1
    have ht := t.toNat_lt
    constructor
    · have e : bodyOf (((t.toNat : Int), (takeT r 262144).1) :: ss') = tagB t.toNat :: (digs (takeT r 262144).1.length ++ (takeT r 262144).1 ++ bodyOf ss') := by unfold bodyOf secB; simp
      rw [e, g1, ← k1]
      congr 1
      apply UInt8.toNat_inj.1
      unfold tagB
      rw [UInt8.toNat_ofNat']
      omega
    · simp only [riseFrom, Bool.and_eq_true, decide_eq_true_eq]
      exact ⟨⟨hc2, by omega⟩, g2⟩

theorem pack_ok {kind : Int} {ss : List Sec} {b : List UInt8} (h : packE kind ss = (b, 0)) : 0 ≤ kind ∧ kind ≤ 255 ∧ riseFrom 0 ss = true ∧ 11 + (bodyOf ss).length ≤ 262144 ∧ b = sealE (innerE kind.toNat (bodyOf ss)) ∧ b.length = 11 + (bodyOf ss).length := by
  unfold packE at h
  by_cases h1 : kind < 0 ∨ 255 < kind ∨ riseFrom 0 ss = false
  · rw [if_pos h1] at h; simp at h
  rw [if_neg h1] at h
  by_cases h2 : 262144 < 11 + (bodyOf ss).length
  · rw [if_pos h2] at h; simp at h
  rw [if_neg h2] at h
  simp only [Prod.mk.injEq, and_true] at h
  have h3 : riseFrom 0 ss = true := by
    cases hr : riseFrom 0 ss
    · exact absurd (.inr (.inr hr)) h1
    · rfl
  refine ⟨by omega, by omega, h3, by omega, h.symm, ?_⟩
  rw [← h, seal_len, inner_len]
  omega
theorem body_data {ss : List Sec} {s : Sec} (h : s ∈ ss) : s.2.length < (bodyOf ss).length := by
  induction ss with
  | nil => cases h
  | cons t r ih =>
    have e : bodyOf (t :: r) = secB t ++ bodyOf r := by unfold bodyOf; simp
    rw [e, List.length_append]
    rcases List.mem_cons.1 h with rfl | h
    · have := secB_len s; omega
    · have := ih h; omega

theorem size_of {kind : Nat} {body r : List UInt8} (h : 11 + body.length ≤ 262144) (t : List UInt8) (ht : t = innerE kind body ++ r) : sizeE t = (11 + body.length, 0) := by
  subst ht
  have e2 : (innerE kind body ++ r).take 2 = [73, 80] := by unfold innerE; simp
  have e4 : ((innerE kind body ++ r).drop 2).take 4 = fourN (11 + body.length) := by
    unfold innerE
    simp only [List.append_assoc, List.cons_append, List.nil_append, List.drop_succ_cons, List.drop_zero]
    rw [List.take_append_of_le_length (by rw [fourN_len]; omega), List.take_of_length_le (by rw [fourN_len]; omega)]
  have el : (innerE kind body ++ r).length = 7 + body.length + r.length := by rw [List.length_append, inner_len]
  have e3 : ([73, 80] : List UInt8).take (innerE kind body ++ r).length = [73, 80] := List.take_of_length_le (by rw [el]; simp; omega)
  unfold sizeE
  rw [e2, e3, e4, leN_fourN (by omega), el, if_neg (by simp), if_neg (by omega), if_neg (by omega), if_neg (by omega)]

/-- What was packed is unpacked as it was. -/
theorem unpack_pack {kind : Int} {ss : List Sec} {b : List UInt8} (h : packE kind ss = (b, 0)) : unpackE b = (kind.toNat, ss, 0) := by
  obtain ⟨h1, h2, h3, h4, h5, h6⟩ := pack_ok h
  have hz := size_of (r := fourE (ofE (innerE kind.toNat (bodyOf ss)))) h4 b h5
  have e : b.take (b.length - 4) = innerE kind.toNat (bodyOf ss) := by
    rw [h6, h5]
    unfold sealE
    rw [List.take_append_of_le_length (by rw [inner_len]; omega), List.take_of_length_le (by rw [inner_len]; omega)]
  have e7 : (innerE kind.toNat (bodyOf ss)).drop 7 = bodyOf ss := by
    unfold innerE
    have : ([73, 80] ++ (fourN (11 + (bodyOf ss).length) ++ ([UInt8.ofNat kind.toNat] ++ bodyOf ss))) = (([73, 80] ++ (fourN (11 + (bodyOf ss).length) ++ [UInt8.ofNat kind.toNat])) ++ bodyOf ss) := by simp
    rw [this]
    exact List.drop_left' (by simp [fourN_len])
  have e6 : b.getD 6 0 = UInt8.ofNat kind.toNat := by
    rw [h5]
    unfold sealE innerE fourN fourE
    simp
  unfold unpackE
  rw [hz, e, e7, secs_body ss 0 (by omega) h3 (fun s hs => by have := body_data hs; omega), e6, ← h5, h6]
  simp
  omega

/-- What can be unpacked is packed so. -/
theorem pack_unpack {b : List UInt8} (h : (unpackE b).2.2 = 0) : packE (unpackE b).1 (unpackE b).2.1 = (b, 0) := by
  unfold unpackE at h ⊢
  by_cases h1 : (sizeE b).2 ≠ 0
  · rw [if_pos h1] at h; exact absurd h h1
  rw [if_neg h1] at h ⊢
  by_cases h2 : b.length < (sizeE b).1
  · rw [if_pos h2] at h; simp at h
  rw [if_neg h2] at h ⊢
  by_cases h3 : (sizeE b).1 < b.length
  · rw [if_pos h3] at h; simp at h
  rw [if_neg h3] at h ⊢
  by_cases h4 : sealE (b.take (b.length - 4)) ≠ b
  · rw [if_pos h4] at h; simp at h
  rw [if_neg h4] at h ⊢
  have hn : b.length = (sizeE b).1 := by omega
  rcases hs : secsE 0 ((b.take (b.length - 4)).drop 7) with _ | ss
  · rw [hs] at h; simp at h
  rw [hs] at h
  dsimp only at h ⊢
  obtain ⟨g1, g2⟩ := secs_back _ _ _ _ (Nat.le_refl _) hs
  -- the first bytes
  have hsz : b.take 2 = [73, 80] ∧ 11 ≤ b.length ∧ b.length ≤ 262144 ∧ leN ((b.drop 2).take 4) = b.length := by
    have h1' : (sizeE b).2 = 0 := by omega
    unfold sizeE at h1' hn
    by_cases k1 : b.take 2 ≠ ([73, 80] : List UInt8).take b.length
    · rw [if_pos k1] at h1'; simp at h1'
    rw [if_neg k1] at h1' hn
    by_cases k2 : b.length < 6
    · rw [if_pos k2] at h1'; simp at h1'
    rw [if_neg k2] at h1' hn
    by_cases k3 : 262144 < leN ((b.drop 2).take 4)
    · rw [if_pos k3] at h1'; simp at h1'
    rw [if_neg k3] at h1' hn
    by_cases k4 : leN ((b.drop 2).take 4) < 11
    · rw [if_pos k4] at h1'; simp at h1'
    rw [if_neg k4] at hn
    dsimp only at hn
    refine ⟨?_, by omega, by omega, by omega⟩
    have := Classical.not_not.1 k1
    rw [this]
    exact List.take_of_length_le (by simp; omega)
  obtain ⟨hm, hlo, hhi, hle⟩ := hsz
  have hbl : (bodyOf ss).length = b.length - 11 := by rw [g1, List.length_drop, List.length_take]; omega
  have h6 : 6 < b.length := by omega
  have hk : b.getD 6 0 = b[6] := by simp [List.getD, h6]
  have ht6 := b[6].toNat_lt
  have ein : innerE (b.getD 6 0).toNat (bodyOf ss) = b.take (b.length - 4) := by
    unfold innerE fourN
    have e4 : fourE (BitVec.ofNat 32 (11 + (bodyOf ss).length)) = (b.drop 2).take 4 := by
      rw [hbl, show 11 + (b.length - 11) = leN ((b.drop 2).take 4) by omega]
      exact four_leN (by rw [List.length_take, List.length_drop]; omega)
    have e1 : [UInt8.ofNat (b.getD 6 0).toNat] = (b.drop 6).take 1 := by
      rw [hk, UInt8.ofNat_toNat, List.drop_eq_getElem_cons h6]
      rfl
    rw [e4, e1, g1, ← hm]
    have s1 : b.take (b.length - 4) = (b.take (b.length - 4)).take 2 ++ ((b.take (b.length - 4)).drop 2) := (List.take_append_drop 2 _).symm
    have s2 : (b.take (b.length - 4)).drop 2 = ((b.take (b.length - 4)).drop 2).take 4 ++ ((b.take (b.length - 4)).drop 6) := by
      have := (List.take_append_drop 4 ((b.take (b.length - 4)).drop 2)).symm
      rw [List.drop_drop] at this
      exact this
    have s3 : (b.take (b.length - 4)).drop 6 = ((b.take (b.length - 4)).drop 6).take 1 ++ ((b.take (b.length - 4)).drop 7) := by
      have := (List.take_append_drop 1 ((b.take (b.length - 4)).drop 6)).symm
      rw [List.drop_drop] at this
      exact this
    have t1 : (b.take (b.length - 4)).take 2 = b.take 2 := by rw [List.take_take, Nat.min_eq_left (by omega)]
    have t2 : ((b.take (b.length - 4)).drop 2).take 4 = (b.drop 2).take 4 := by
      rw [List.drop_take, List.take_take, Nat.min_eq_left (by omega)]
    have t3 : ((b.take (b.length - 4)).drop 6).take 1 = (b.drop 6).take 1 := by
      rw [List.drop_take, List.take_take, Nat.min_eq_left (by omega)]
    rw [t1] at s1
    rw [t2] at s2
    rw [t3] at s3
    rw [← s3, ← s2, ← s1]
  unfold packE
  rw [hk] at ein ⊢
  rw [if_neg (by rw [g2]; simp; omega), if_neg (by omega), Int.toNat_natCast, ein, Classical.not_not.1 h4]

theorem unpack_sealed {b : List UInt8} (h : (unpackE b).2.2 = 0) : sealE (b.take (b.length - 4)) = b := by
  obtain ⟨_, _, _, _, h5, h6⟩ := pack_ok (pack_unpack h)
  generalize (unpackE b).1 = k at *
  generalize bodyOf (unpackE b).2.1 = bo at *
  have e : b.take (b.length - 4) = innerE (Int.toNat k) bo := by
    rw [h6, h5]
    unfold sealE
    rw [List.take_append_of_le_length (by rw [inner_len]; omega), List.take_of_length_le (by rw [inner_len]; omega)]
  rw [e, ← h5]
/-- The sum of what is sealed is always the same. -/
theorem sum_sealed (l l' : List UInt8) : ofE (sealE l) = ofE (sealE l') := by
  unfold sealE
  rw [reach (fourE_len _) l rfl, reach (fourE_len _) l' rfl, leVal_four, leVal_four]
  have (x : BitVec 32) : ~~~ x ^^^ x = BitVec.allOnes 32 := by
    apply BitVec.eq_of_getLsbD_eq
    intro i hi
    rw [BitVec.getLsbD_xor, BitVec.getLsbD_not, BitVec.getLsbD_allOnes]
    cases x.getLsbD i <;> simp [hi]
  rw [this, this]
theorem sums_of_packs {b b' : List UInt8} (h : (unpackE b).2.2 = 0) (h' : (unpackE b').2.2 = 0) : ofE b = ofE b' := by
  rw [← unpack_sealed h, ← unpack_sealed h']
  exact sum_sealed _ _

/-- Each beginning of a pack that is not all of it. -/
theorem size_cut {kind : Int} {ss : List Sec} {b : List UInt8} (h : packE kind ss = (b, 0)) (r : List UInt8) : sizeE (b ++ r) = (b.length, 0) := by
  obtain ⟨h1, h2, h3, h4, h5, h6⟩ := pack_ok h
  rw [h6]
  refine size_of (kind := kind.toNat) (r := fourE (ofE (innerE kind.toNat (bodyOf ss))) ++ r) h4 _ ?_
  rw [h5]
  unfold sealE
  simp
theorem unpack_more {kind : Int} {ss : List Sec} {b r : List UInt8} (h : packE kind ss = (b, 0)) (hr : r ≠ []) : unpackE (b ++ r) = (0, [], 4) := by
  unfold unpackE
  have : 0 < r.length := List.length_pos_iff.2 hr
  rw [size_cut h r, if_neg (by simp), if_neg (by simp), if_pos (by simp; omega)]
theorem unpack_cut {kind : Int} {ss : List Sec} {b : List UInt8} {k : Nat} (h : packE kind ss = (b, 0)) (hk : k < b.length) : unpackE (b.take k) = (0, [], 3) := by
  obtain ⟨h1, h2, h3, h4, h5, h6⟩ := pack_ok h
  have hl : (b.take k).length = k := by rw [List.length_take]; omega
  have hm : b.take 2 = [73, 80] := by rw [h5]; unfold sealE innerE; simp
  have hm2 : (b.take k).take 2 = ([73, 80] : List UInt8).take k := by rw [← hm, List.take_take, List.take_take, Nat.min_comm]
  have hz := size_cut h []
  rw [List.append_nil] at hz
  unfold sizeE at hz
  have k1 : ¬ b.take 2 ≠ ([73, 80] : List UInt8).take b.length := by
    rw [hm, List.take_of_length_le (by simp; omega)]
    simp
  rw [if_neg k1, if_neg (by omega)] at hz
  unfold unpackE
  by_cases k6 : k < 6
  · have hs : sizeE (b.take k) = (0, 3) := by
      unfold sizeE
      rw [hl, if_neg (by rw [hm2]; simp), if_pos k6]
    rw [hs]
    rfl
  · have e4 : ((b.take k).drop 2).take 4 = (b.drop 2).take 4 := by rw [List.drop_take, List.take_take, Nat.min_eq_left (by omega)]
    have hs : sizeE (b.take k) = (b.length, 0) := by
      unfold sizeE
      rw [hl, if_neg (by rw [hm2]; simp), if_neg k6, e4]
      exact hz
    rw [hs, hl, if_neg (by simp), if_pos hk]

end Go.Proofs.Ytlblcligjelbgaa
