/- What the program's package varnum does, the rest: contracts over the translated program. -/
import Derived.Test.YtlblcligjelbgaaWalkA
set_option linter.unusedVariables false
namespace Go.Proofs.Ytlblcligjelbgaa
open Go.RowKit

theorem ofInt_nat64 (a : Nat) (ha : a < 9223372036854775808) : (BitVec.ofInt 64 (a : Int)).toNat = a := by
  rw [BitVec.ofInt_natCast, BitVec.toNat_ofNat]; exact Nat.mod_eq_of_lt (by omega)
theorem or_nat64 (a b : Nat) (ha : a < 9223372036854775808) (hb : b < 9223372036854775808) : bits .or .i64 (a : Int) (b : Int) = ((a ||| b : Nat) : Int) := by
  have hx : a ||| b < 2 ^ 63 := Nat.or_lt_two_pow (by omega) (by omega)
  show IntKind.i64.wrap ((BitVec.ofInt 64 (a : Int) ||| BitVec.ofInt 64 (b : Int)).toNat : Int) = _
  rw [BitVec.toNat_or, ofInt_nat64 a ha, ofInt_nat64 b hb, IntKind.wrap_i64]
  omega
theorem or_digit (a d k : Nat) (ha : a < 128 ^ k) (hd : d < 128) (hk : k ≤ 7) :
    bits .or .i64 (a : Int) (wrap64 ((d : Int) * 2 ^ (7 * k))) = ((a + 128 ^ k * d : Nat) : Int) := by
  have hp : (128 : Nat) ^ k = 2 ^ (7 * k) := by rw [Nat.pow_mul]
  have hle : 2 ^ (7 * k) ≤ 562949953421312 := by
    have := Nat.pow_le_pow_right (n := 2) (by omega) (show 7 * k ≤ 49 by omega)
    omega
  rw [hp] at ha ⊢
  have hm : d * 2 ^ (7 * k) ≤ 127 * 562949953421312 := Nat.mul_le_mul (by omega) hle
  have hc : ((d : Int) * 2 ^ (7 * k)) = ((d * 2 ^ (7 * k) : Nat) : Int) := by simp
  rw [hc, IntWalk.wrap64_in _ ⟨by omega, by omega⟩, or_nat64 _ _ (by omega) (by omega), Nat.mul_comm d, Nat.or_comm, ← Nat.two_pow_add_eq_or_of_lt ha, Nat.add_comm]

set_option maxHeartbeats 400000 in
theorem value_any (A : Option Addr) (n c : Nat) (l : List UInt8) (w : World) (hl : l.length = n) (hr : Rd w A l) (hn : n ≤ 8) :
    Calls Try.prog 58 #[.slice A n c] w fun e w' => e = .returned (.int .i64 (val l : Int)) ∧ w = w' := by
  go_enter Try.func58, Try.ntmps58
  go_wp2
  go_loop [3, 8] (fun t i => ∃ k : Nat, k ≤ n ∧ i = .int .i64 k ∧ t = .int .i64 (val (l.take k) : Int)) (fun _ i => n - (intOf i).toNat)
  case atStart => exact ⟨0, Nat.zero_le _, rfl, rfl⟩
  case round =>
    obtain ⟨k, hk, rfl, rfl⟩ := hrel
    have HL := Lib.hid hl
    clear hl
    by_cases hlt : k < n
    · obtain ⟨ad, rfl, hc⟩ := hr.cell (k := k) (by have := HL.out; omega)
      clear hr
      go_wp2
      have hk' : k < l.length := by have := HL.out; omega
      have hv := val_lt (l.take k)
      rw [List.length_take, Nat.min_eq_left (by omega)] at hv
      refine ⟨⟨k + 1, by omega, by go_num, ?_⟩, by simp [intOf]; omega⟩
      have := or_digit (val (l.take k)) (l[k].toNat % 128) k hv (Nat.mod_lt _ (by omega)) (by omega)
      rw [val_more hk']
      simpa using this
    · go_wp2
      go_ret
      obtain rfl : k = n := by omega
      exact ⟨by rw [List.take_of_length_le (by have := HL.out; omega)]; rfl, rfl⟩


/-- Two numbers, and a world that has not turned. -/
def Got2 (w : World) (a b : Nat) (e : Ending) (w' : World) : Prop := e = .returned (.tuple #[.int .i64 (a : Int), .int .i64 (b : Int)]) ∧ w = w'
def Got3 (w : World) (a b c : Nat) (e : Ending) (w' : World) : Prop := e = .returned (.tuple #[.int .i64 (a : Int), .int .i64 (b : Int), .int .i64 (c : Int)]) ∧ w = w'

set_option maxHeartbeats 400000 in
theorem extent_any (A : Option Addr) (n c : Nat) (l : List UInt8) (w : World) (hl : l.length = n) (hr : Rd w A l) (hn : n ≤ maxLen) :
    Calls Try.prog 57 #[.slice A n c] w (Got2 w (extE 0 l).1 (extE 0 l).2) := by
  unfold maxLen at hn
  go_enter Try.func57, Try.ntmps57
  go_wp2
  go_step3
  go_wp2
  go_step3
  go_wp2
  go_loop [2, 3, 8] (fun s e i => ∃ k : Nat, k ≤ n ∧ k < 8 ∧ i = .int .i64 k ∧ s = .int .i64 0 ∧ e = .int .i64 3 ∧ extE 0 l = extE k (l.drop k)) (fun _ _ i => n - (intOf i).toNat)
  case atStart => exact ⟨0, Nat.zero_le _, by omega, rfl, rfl, rfl, rfl⟩
  case round =>
    obtain ⟨k, hk, hk8, rfl, rfl, rfl, he⟩ := hrel
    have HL := Lib.hid hl
    have HE := Lib.hid he
    clear hl he
    by_cases hlt : k < n
    · have hk' : k < l.length := by have := HL.out; omega
      obtain ⟨ad, rfl, hc⟩ := hr.cell hk'
      clear hr
      by_cases h1 : l[k].toNat < 128
      · have hb : decide ((l[k].toNat : Int) < 128) = true := by simp; omega
        go_wp2
        try rw [Exit.noGoto_ret]
        go_ret2
        refine ⟨?_, rfl⟩
        rw [HE.out, ext_cons hk', extE, if_pos h1]
        rfl
      · have hb : decide ((l[k].toNat : Int) < 128) = false := by simp; omega
        by_cases h2 : k + 1 = 8
        · have hb2 : ((k : Int) + 1 == 8) = true := by simp; omega
          go_wp2
          try rw [Exit.noGoto_ret]
          go_ret2
          refine ⟨?_, rfl⟩
          rw [HE.out, ext_cons hk', extE, if_neg h1, if_pos h2]
          rfl
        · have hb2 : ((k : Int) + 1 == 8) = false := by simp; omega
          go_wp2
          refine ⟨⟨k + 1, by omega, by omega, by go_num, rfl, rfl, ?_⟩, by simp [intOf]; omega⟩
          rw [HE.out, ext_cons hk', extE, if_neg h1, if_neg h2]
    · go_wp2
      try rw [Exit.noGoto_ret]
      go_ret2
      refine ⟨?_, rfl⟩
      rw [HE.out, List.drop_of_length_le (by have := HL.out; omega), extE]
      rfl

theorem getD_of {l : List UInt8} {k : Nat} (h : k < l.length) : l.getD k 0 = l[k] := by simp [List.getD, h]

set_option maxHeartbeats 400000 in
set_option maxRecDepth 20000 in
theorem head_any (A : Option Addr) (n c : Nat) (l : List UInt8) (w : World) (hl : l.length = n) (hr : Rd w A l) (hnc : n ≤ c) (hc : c ≤ maxLen) :
    Calls Try.prog 54 #[.slice A n c] w (Got3 w (headE l).1 (headE l).2.1 (headE l).2.2) := by
  have hx := extent_any A n c l w hl hr (by omega)
  have HX := Lib.hid hx
  have hf := ext_facts l 0 (by omega)
  have HH : Hid (headE l = _) := Lib.hid (headE.eq_1 l)
  unfold maxLen at hc
  generalize hs : extE 0 l = p at *
  obtain ⟨s, er⟩ := p
  clear hx hs
  dsimp only at hf HX HH
  rcases hf with ⟨rfl, h1, h2, h3⟩ | ⟨rfl, h4⟩
  · have HL := Lib.hid hl
    clear hl
    have hsn : s ≤ n := by have := HL.out; omega
    have hlen : (l.take s).length = s := by have := HL.out; simp; omega
    have hv := value_any A s c (l.take s) w hlen (hr.take s) h2
    have HV := Lib.hid hv
    clear hv hlen
    by_cases hs1 : 1 < s
    · have hk : s - 1 < l.length := by have := HL.out; omega
      obtain ⟨ad, rfl, hcell⟩ := hr.cell hk
      clear hr
      by_cases h0 : l[s - 1] = 0
      · have hb : ((l[s - 1].toNat : Int) == 0) = true := by rw [h0]; rfl
        have H0 := Lib.hid h0
        clear h0
        go_enter Try.func54, Try.ntmps54
        go_wp2_with (go_at_call 57; refine (HX.out).mono ?_; rintro e w' ⟨rfl, rfl⟩)
        go_ret3
        refine ⟨?_, rfl⟩
        rw [HH.out, if_neg (by simp), if_pos ⟨hs1, by rw [getD_of hk]; exact H0.out⟩]
        rfl
      · have hb : ((l[s - 1].toNat : Int) == 0) = false := by
          simp only [beq_eq_false_iff_ne, ne_eq]
          intro h
          exact h0 (UInt8.toNat_inj.1 (by simp; omega))
        have H0 := Lib.hid h0
        clear h0
        by_cases hm : 9007199254740991 < val (l.take s)
        all_goals
          go_enter Try.func54, Try.ntmps54
          go_wp2_with (first | (go_at_call 57; refine (HX.out).mono ?_; rintro e w' ⟨rfl, rfl⟩) | (go_at_call 58; refine (HV.out).mono ?_; rintro e w' ⟨rfl, rfl⟩))
          go_ret3
          refine ⟨?_, rfl⟩
          rw [HH.out, if_neg (by simp), if_neg (by rw [getD_of hk]; exact fun h => H0.out h.2)]
          simp [hm]
    · clear hr
      have hs' : s ≤ 1 := by omega
      have hb : decide ((1 : Int) < (s : Int)) = false := by simp; omega
      by_cases hm : 9007199254740991 < val (l.take s)
      all_goals
        go_enter Try.func54, Try.ntmps54
        go_wp2_with (first | (go_at_call 57; refine (HX.out).mono ?_; rintro e w' ⟨rfl, rfl⟩) | (go_at_call 58; refine (HV.out).mono ?_; rintro e w' ⟨rfl, rfl⟩))
        go_ret3
        refine ⟨?_, rfl⟩
        rw [HH.out, if_neg (by simp), if_neg (by omega)]
        simp [hm]
  · clear hr
    rcases h4 with rfl | rfl
    all_goals
      go_enter Try.func54, Try.ntmps54
      go_wp2_with (go_at_call 57; refine (HX.out).mono ?_; rintro e w' ⟨rfl, rfl⟩)
      go_ret3
      refine ⟨?_, rfl⟩
      rw [HH.out]
      simp

/-- Bytes and an error's number. -/
def GotBytesE (w : World) (l : List UInt8) (er : Nat) (e : Ending) (w' : World) : Prop := ∃ v, e = .returned (.tuple #[v, .int .i64 (er : Int)]) ∧ Own w' w.heap.size v l ∧ Below w.heap.size w w'
/-- A number, bytes and an error's number. -/
def GotNumE (w : World) (n : Nat) (l : List UInt8) (er : Nat) (e : Ending) (w' : World) : Prop := ∃ v, e = .returned (.tuple #[.int .i64 (n : Int), v, .int .i64 (er : Int)]) ∧ Own w' w.heap.size v l ∧ Below w.heap.size w w'


theorem own_nil_of {w : World} {base : Nat} : Own w base (.slice none 0 0) [] := Own.nil _ _


end Go.Proofs.Ytlblcligjelbgaa
