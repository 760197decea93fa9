/- Digests and their digits: the plain mathematics. No program in it. -/
import Derived.Test.YthpcmceomamadaaShaN
namespace Go.Proofs.Ythpcmceomamadaa

/-- The digit of a number below 16. -/
def dg (n : Nat) : UInt8 := if n < 10 then UInt8.ofNat (48 + n) else UInt8.ofNat (87 + n)
/-- What a digit is worth; none: it is no digit. -/
def worthE (c : UInt8) : Option Nat := if 48 ≤ c.toNat ∧ c.toNat ≤ 57 then some (c.toNat - 48) else if 97 ≤ c.toNat ∧ c.toNat ≤ 102 then some (c.toNat - 87) else none
/-- The digits of the first k bytes. -/
def hexL (f : Nat → UInt8) : Nat → List UInt8
  | 0 => []
  | k + 1 => hexL f k ++ [dg ((f k).toNat / 16), dg ((f k).toNat % 16)]
def hexE (f : Nat → UInt8) : List UInt8 := hexL f 32
theorem hexL_len (f : Nat → UInt8) : ∀ k, (hexL f k).length = 2 * k
  | 0 => rfl
  | k + 1 => by simp [hexL, hexL_len f k]; omega
theorem hexL_congr {f g : Nat → UInt8} : ∀ k, (∀ j, j < k → f j = g j) → hexL f k = hexL g k
  | 0, _ => rfl
  | k + 1, h => by rw [hexL, hexL, hexL_congr k (fun j hj => h j (by omega)), h k (by omega)]
theorem hexL_get (f : Nat → UInt8) : ∀ k j, j < k → (hexL f k).getD (2 * j) 0 = dg ((f j).toNat / 16) ∧ (hexL f k).getD (2 * j + 1) 0 = dg ((f j).toNat % 16)
  | 0, j, h => by omega
  | k + 1, j, h => by
    have hl := hexL_len f k
    by_cases e : j = k
    · subst e
      rw [hexL]
      constructor
      · rw [List.getD_eq_getElem?_getD, List.getElem?_append_right (by omega), hl]; simp
      · rw [List.getD_eq_getElem?_getD, List.getElem?_append_right (by omega), hl]; simp
    · have h1 := hexL_get f k j (by omega)
      rw [hexL, List.getD_eq_getElem?_getD, List.getD_eq_getElem?_getD, List.getElem?_append_left (by omega), List.getElem?_append_left (by omega), ← List.getD_eq_getElem?_getD, ← List.getD_eq_getElem?_getD]
      exact h1
theorem worth_dg : ∀ n, n < 16 → worthE (dg n) = some n := by decide +kernel
theorem dg_worth : ∀ c : Nat, c < 256 → ∀ n, n < 16 → worthE (UInt8.ofNat c) = some n → dg n = UInt8.ofNat c := by decide +kernel
theorem worth_lt {c : UInt8} {n : Nat} (h : worthE c = some n) : n < 16 := by
  unfold worthE at h
  split at h
  · cases h; omega
  · split at h
    · cases h; omega
    · cases h
theorem dg_of {c : UInt8} {n : Nat} (h : worthE c = some n) : dg n = c := by
  have hc : UInt8.ofNat c.toNat = c := by simp
  have := dg_worth c.toNat c.toNat_lt n (worth_lt h) (by rw [hc]; exact h)
  rw [hc] at this
  exact this

/-- A byte of two digits. -/
def pairE (l : List UInt8) (j : Nat) : Option UInt8 :=
  match worthE (l.getD (2 * j) 0), worthE (l.getD (2 * j + 1) 0) with
  | some a, some b => some (UInt8.ofNat (16 * a + b))
  | _, _ => none
/-- Are the first k pairs digits? -/
def goodK (l : List UInt8) (k : Nat) : Prop := ∀ j, j < k → (pairE l j).isSome = true
def byteP (l : List UInt8) (j : Nat) : UInt8 := (pairE l j).getD 0
/-- Is it a digest's digits? -/
def goodB (l : List UInt8) : Bool := decide (l.length = 64) && (List.range 32).all fun j => (pairE l j).isSome
theorem goodB_iff (l : List UInt8) : goodB l = true ↔ l.length = 64 ∧ goodK l 32 := by
  unfold goodB goodK
  simp only [Bool.and_eq_true, decide_eq_true_eq, List.all_eq_true, List.mem_range]
theorem pair_hex (f : Nat → UInt8) (j : Nat) (hj : j < 32) : pairE (hexE f) j = some (f j) := by
  obtain ⟨h1, h2⟩ := hexL_get f 32 j hj
  have hb := (f j).toNat_lt
  unfold pairE hexE
  rw [h1, h2, worth_dg _ (by omega), worth_dg _ (by omega)]
  show some (UInt8.ofNat (16 * ((f j).toNat / 16) + (f j).toNat % 16)) = _
  rw [Nat.div_add_mod]
  simp
theorem good_hex (f : Nat → UInt8) : goodB (hexE f) = true := by
  rw [goodB_iff]
  refine ⟨hexL_len f 32, fun j hj => ?_⟩
  rw [pair_hex f j hj]
  rfl
theorem getD_some {l : List UInt8} {i : Nat} (h : i < l.length) : l[i]? = some (l.getD i 0) := by
  rw [List.getD_eq_getElem?_getD, List.getElem?_eq_getElem h]
  rfl
/-- What digits tell is written so. -/
theorem hex_back {l : List UInt8} (h : goodB l = true) : hexE (byteP l) = l := by
  rw [goodB_iff] at h
  obtain ⟨hl, hg⟩ := h
  have key : ∀ j, j < 32 → dg ((byteP l j).toNat / 16) = l.getD (2 * j) 0 ∧ dg ((byteP l j).toNat % 16) = l.getD (2 * j + 1) 0 := by
    intro j hj
    have hs := hg j hj
    unfold byteP
    unfold pairE at hs ⊢
    cases ha : worthE (l.getD (2 * j) 0) with
    | none => rw [ha] at hs; cases hs
    | some a =>
      cases hb : worthE (l.getD (2 * j + 1) 0) with
      | none => rw [ha, hb] at hs; cases hs
      | some b =>
        have h1 := worth_lt ha
        have h2 := worth_lt hb
        show dg ((UInt8.ofNat (16 * a + b)).toNat / 16) = _ ∧ dg ((UInt8.ofNat (16 * a + b)).toNat % 16) = _
        rw [UInt8.toNat_ofNat', Nat.mod_eq_of_lt (by omega)]
        have e1 : (16 * a + b) / 16 = a := by omega
        have e2 : (16 * a + b) % 16 = b := by omega
        rw [e1, e2]
        exact ⟨dg_of ha, dg_of hb⟩
  have hlen : (hexE (byteP l)).length = 64 := hexL_len _ 32
  have key2 : ∀ i, i < 64 → (hexE (byteP l)).getD i 0 = l.getD i 0 := by
    intro i hi
    obtain ⟨m, hm⟩ : ∃ m, i = 2 * m ∨ i = 2 * m + 1 := ⟨i / 2, by omega⟩
    have hm32 : m < 32 := by omega
    obtain ⟨g1, g2⟩ := hexL_get (byteP l) 32 m hm32
    obtain ⟨k1, k2⟩ := key m hm32
    rcases hm with rfl | rfl
    · exact g1.trans k1
    · exact g2.trans k2
  generalize hexE (byteP l) = x at *
  apply List.ext_getElem?
  intro i
  by_cases hi : i < 64
  · rw [getD_some (by omega), getD_some (by omega), key2 i hi]
  · rw [List.getElem?_eq_none (by omega), List.getElem?_eq_none (by omega)]

end Go.Proofs.Ythpcmceomamadaa
