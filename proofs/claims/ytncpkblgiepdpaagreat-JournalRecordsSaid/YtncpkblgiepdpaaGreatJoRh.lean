/- The document's own record of layer 6, whole: contracts over the translated program. No condition but what each statement names. -/
import Derived.Test.YtncpkblgiepdpaaGreatJoRg
set_option linter.unusedVariables false
set_option linter.unusedSimpArgs false
namespace Go.Proofs.YtncpkblgiepdpaaGreat
open Go.RowKit

set_option maxHeartbeats 2000000 in
set_option maxRecDepth 20000 in
theorem refRecord_any (n : Nat) (A : Option Addr) (m c : Nat) (b : List UInt8) (w : World) (h1 : 1 ≤ n) (hn : n ≤ 9007199254740991) (hl : b.length = m) (hr : Rd w A b) (hm : m ≤ 262144) :
    Calls Tryz.prog 8 #[.int .i64 (n : Int), .slice A m c] w (GotBytesE w (recE n b) 0) := by
  have d1 : decide ((n : Int) < 1) = false := by simp; omega
  have d2 : decide (9007199254740991 < (n : Int)) = false := by simp; omega
  have d3 : decide (262144 < (m : Int)) = false := by simp; omega
  have HL := Lib.hid hl
  have HR := Lib.hid hr
  clear hl hr
  go_enter Tryz.func8, Tryz.ntmps8
  go_wp2_with fail
  refine (refNum4_any m _ (by omega)).mono ?_
  rintro e w1 ⟨v1, rfl, ho1, hb1⟩
  have HO1 := Lib.hid ho1
  clear ho1
  go_wp2_with fail
  refine (refNum8_any n _ (by omega)).mono ?_
  rintro e w2 ⟨v2, rfl, ho2, hb2⟩
  obtain ⟨A2, n2, c2, rfl, HL2, _, _, hr2⟩ := ho2.form
  have hB2 := bl_trans hb1 hb2
  have hs2 := hB2.size
  have HO1' := Lib.hid (HO1.out.below hb2)
  clear ho2 HO1
  go_wp2_with (at_builtin; refine wpList_append_bytes _ rfl _ _ rfl w.heap.size _ (beE 4 m) rfl HO1'.out A2 n2 c2 (beE 8 n) rfl HL2.out hr2 (by rw [beE_len, beE_len]; omega) (by omega) ?_)
  intro v3 w3 ho3 hg3 _
  have hB3 := bl_grown hB2 hg3 (fun q hq => (HO1'.out.lt q hq).1)
  obtain ⟨A3, n3, c3, rfl, HL3, _, _, hr3⟩ := ho3.form
  have HR3 : Hid (Rd w3 A3 (tldE n m)) := Lib.hid hr3
  have HN3 : Hid ((tldE n m).length = n3) := Lib.hid HL3.out
  clear ho3 hr3 HL3 hr2 HL2 HO1' hg3
  have hs3 := hB3.size
  go_wp2_with (at_builtin; refine wpList_append_bytes _ rfl _ _ rfl w3.heap.size _ [] rfl (Own.nil _ _) A3 n3 c3 (tldE n m) rfl HN3.out HR3.out (by rw [tld_len]; simp) (Nat.le_refl _) ?_)
  intro v4 w4 ho4 hg4 _
  have HG4 : Hid (Below w3.heap.size w3 w4) := Lib.hid (bl_grown (Below.refl _ _) hg4 (by simp [Value.ownBlock]))
  have HO4 := Lib.hid ho4
  have HB3 := Lib.hid hB3
  have hs34 := HG4.out.size
  have HRb4 := Lib.hid (HR.out.below (bl_trans hB3 HG4.out))
  clear ho4 hg4 hB3 hB2 hb1 hb2
  go_wp2_with (at_builtin; refine wpList_append_bytes _ rfl _ _ rfl w3.heap.size _ (tldE n m) rfl HO4.out A m c b rfl HL.out HRb4.out (by rw [tld_len, HL.out]; omega) (by omega) ?_)
  intro v5 w5 ho5 hg5 _
  have HG5 : Hid (Below w3.heap.size w3 w5) := Lib.hid (bl_grown HG4.out hg5 (fun q hq => (HO4.out.lt q hq).1))
  have HB5 := Lib.hid (bl_trans HB3.out HG5.out)
  obtain ⟨A5, n5, c5, rfl, HL5, hn5, hc5, hr5⟩ := ho5.form
  have HR5 := Lib.hid hr5
  have HR35 := Lib.hid (HR3.out.below HG5.out)
  have hs5 := HB5.out.size
  clear ho5 hg5 HO4 HG4 hr5 HRb4
  go_wp2_with (at_builtin; refine wpList_append_bytes _ rfl _ _ rfl w5.heap.size _ [] rfl (Own.nil _ _) A3 n3 c3 (tldE n m) rfl HN3.out HR35.out (by rw [tld_len]; simp) (Nat.le_refl _) ?_)
  intro v6 w6 ho6 hg6 _
  have HG6 : Hid (Below w5.heap.size w5 w6) := Lib.hid (bl_grown (Below.refl _ _) hg6 (by simp [Value.ownBlock]))
  have HO6 := Lib.hid ho6
  have HR36 := Lib.hid (HR35.out.below HG6.out)
  clear ho6 hg6 HR35
  go_wp2_with fail
  refine (refOf_any A3 n3 c3 (tldE n m) _ HN3.out HR36.out (by omega)).mono ?_
  rintro e w6 ⟨rfl, rfl⟩
  go_wp2_with fail
  refine (refSum_any _ _).mono ?_
  rintro e w7 ⟨v7, rfl, ho7, hb7⟩
  obtain ⟨A7, n7, c7, rfl, HL7, _, _, hr7⟩ := ho7.form
  have HG7 := Lib.hid (bl_trans HG6.out hb7)
  have HO7 := Lib.hid (HO6.out.below hb7)
  have hs7 := HG7.out.size
  clear ho7 hb7 HO6 HG6 HR36
  go_wp2_with (at_builtin; refine wpList_append_bytes _ rfl _ _ rfl w5.heap.size _ (tldE n m) rfl HO7.out A7 n7 c7 (leB (ofE (tldE n m))) rfl HL7.out hr7 (by rw [tld_len, leB_len]; omega) (by omega) ?_)
  intro v8 w8 ho8 hg8 _
  have HG8 := Lib.hid (bl_grown HG7.out hg8 (fun q hq => (HO7.out.lt q hq).1))
  have HO8 : Hid (Own w8 w5.heap.size v8 (hdE n m)) := Lib.hid ho8
  have HRb8 := Lib.hid (HR.out.below (bl_trans HB5.out HG8.out))
  have hs8 := HG8.out.size
  clear ho8 hg8 HO7 HG7 hr7 HL7
  go_wp2_with (at_builtin; refine wpList_append_bytes _ rfl _ _ rfl w5.heap.size _ (hdE n m) rfl HO8.out A m c b rfl HL.out HRb8.out (by rw [hd_len, HL.out]; omega) (by omega) ?_)
  intro v9 w9 ho9 hg9 _
  have HG9 := Lib.hid (bl_grown HG8.out hg9 (fun q hq => (HO8.out.lt q hq).1))
  have HO9 := Lib.hid ho9
  have HR59 := Lib.hid (HR5.out.below HG9.out)
  clear ho9 hg9 HO8 HG8 HRb8
  go_wp2_with fail
  refine (refOf_any A5 n5 c5 (tldE n m ++ b) _ HL5.out HR59.out (by omega)).mono ?_
  rintro e w9 ⟨rfl, rfl⟩
  go_wp2_with fail
  refine (refSum_any _ _).mono ?_
  rintro e w10 ⟨v10, rfl, ho10, hb10⟩
  obtain ⟨A10, n10, c10, rfl, HL10, _, _, hr10⟩ := ho10.form
  have HG10 := Lib.hid (bl_trans HG9.out hb10)
  have HO10 := Lib.hid (HO9.out.below hb10)
  have hs10 := HG10.out.size
  clear ho10 hb10 HO9 HG9
  go_wp2_with (at_builtin; refine wpList_append_bytes _ rfl _ _ rfl w5.heap.size _ (hdE n m ++ b) rfl HO10.out A10 n10 c10 (leB (ofE (tldE n m ++ b))) rfl HL10.out hr10 (by rw [List.length_append, hd_len, leB_len, HL.out]; omega) (by omega) ?_)
  intro v11 w11 ho11 hg11 _
  have HG11 := Lib.hid (bl_grown HG10.out hg11 (fun q hq => (HO10.out.lt q hq).1))
  have e11 : hdE n m ++ b ++ leB (ofE (tldE n m ++ b)) = recE n b := by
    have : ofE (tldE n m ++ b) = onE (ofE (tldE n m)) b := onE_append 0#32 _ _
    rw [this]
    simp [recE, lastE, HL.out]
  have HO11 : Hid (Own w11 w5.heap.size v11 (recE n b)) := Lib.hid (by rw [← e11]; first | exact ho11 | (simp only [List.append_assoc] at ho11 ⊢; exact ho11))
  clear ho11 hg11 hr10 HL10 HO10
  go_wp2_with fail
  go_ret2
  exact ⟨_, rfl, HO11.out.more hs5, bl_trans HB5.out HG11.out⟩
set_option maxHeartbeats 1000000 in
/-- A number that is none, and bytes that are too many. -/
theorem refRecord_none (n : Int) (A : Option Addr) (m c : Nat) (w : World) (h1 : -9223372036854775808 ≤ n) (h2 : n ≤ 9223372036854775807) (hn : n < 1 ∨ 9007199254740991 < n) :
    Calls Tryz.prog 8 #[.int .i64 n, .slice A m c] w fun e w' => e = .returned (.tuple #[.slice none 0 0, .int .i64 2]) ∧ w = w' := by
  go_enter Tryz.func8, Tryz.ntmps8
  rcases hn with h | h
  · have d1 : decide (n < 1) = true := by simp; omega
    go_wp2_with fail
    go_ret2
    exact ⟨rfl, rfl⟩
  · have d1 : decide (n < 1) = false := by simp; omega
    have d2 : decide (9007199254740991 < n) = true := by simp; omega
    go_wp2_with fail
    go_ret2
    exact ⟨rfl, rfl⟩
set_option maxHeartbeats 1000000 in
theorem refRecord_long (n : Nat) (A : Option Addr) (m c : Nat) (w : World) (h1 : 1 ≤ n) (hn : n ≤ 9007199254740991) (hm : 262144 < m) :
    Calls Tryz.prog 8 #[.int .i64 (n : Int), .slice A m c] w fun e w' => e = .returned (.tuple #[.slice none 0 0, .int .i64 5]) ∧ w = w' := by
  have d1 : decide ((n : Int) < 1) = false := by simp; omega
  have d2 : decide (9007199254740991 < (n : Int)) = false := by simp; omega
  have d3 : decide (262144 < (m : Int)) = true := by simp; omega
  go_enter Tryz.func8, Tryz.ntmps8
  go_wp2_with fail
  go_ret2
  exact ⟨rfl, rfl⟩
set_option maxHeartbeats 1000000 in
theorem record_none (n : Int) (A : Option Addr) (m c : Nat) (w : World) (h1 : -9223372036854775808 ≤ n) (h2 : n ≤ 9223372036854775807) (hn : n < 1 ∨ 9007199254740991 < n) :
    Calls Tryz.prog 7 #[.int .i64 n, .slice A m c] w fun e w' => e = .returned (.tuple #[.slice none 0 0, .int .i64 2]) ∧ w = w' := by
  go_enter Tryz.func7, Tryz.ntmps7
  rcases hn with h | h
  · have d1 : decide (n < 1) = true := by simp; omega
    go_wp2_with fail
    go_ret2
    exact ⟨rfl, rfl⟩
  · have d1 : decide (n < 1) = false := by simp; omega
    have d2 : decide (9007199254740991 < n) = true := by simp; omega
    go_wp2_with fail
    go_ret2
    exact ⟨rfl, rfl⟩
set_option maxHeartbeats 1000000 in
theorem record_long (n : Nat) (A : Option Addr) (m c : Nat) (w : World) (h1 : 1 ≤ n) (hn : n ≤ 9007199254740991) (hm : 262144 < m) :
    Calls Tryz.prog 7 #[.int .i64 (n : Int), .slice A m c] w fun e w' => e = .returned (.tuple #[.slice none 0 0, .int .i64 5]) ∧ w = w' := by
  have d1 : decide ((n : Int) < 1) = false := by simp; omega
  have d2 : decide (9007199254740991 < (n : Int)) = false := by simp; omega
  have d3 : decide (262144 < (m : Int)) = true := by simp; omega
  go_enter Tryz.func7, Tryz.ntmps7
  go_wp2_with (go_at_call 27; refine (tooLong_any _ _ _ _).mono ?_; rintro e w1 ⟨rfl, rfl⟩)
  go_ret2
  exact ⟨rfl, rfl⟩
end Go.Proofs.YtncpkblgiepdpaaGreat
