/- Numbers as bytes, the highest first, and back; a sum's bytes; a record's head, and a record: contracts over the translated program. No condition but what each statement names. -/
import Derived.Test.YtncpkblgiepdpaaGreatJoE
import Derived.Test.YtncpkblgiepdpaaGreatJoM
set_option linter.unusedVariables false
set_option linter.unusedSimpArgs false
namespace Go.Proofs.YtncpkblgiepdpaaGreat
open Go.RowKit

theorem tooLong_any (A : Option Addr) (n c : Nat) (w : World) : Calls Tryz.prog 27 #[.slice A n c] w fun e w' => e = .returned (.bool (decide (262144 < (n : Int)))) ∧ w' = w := by
  go_enter Tryz.func27, Tryz.ntmps27
  go_wp2
  go_ret
  exact ⟨rfl, rfl⟩

set_option maxHeartbeats 400000 in
set_option maxRecDepth 20000 in
theorem low_any (x : BitVec 32) (w : World) : Calls Tryz.prog 75 #[.int .u32 (x.toNat : Int)] w (GotBytes w (leB x)) := by
  go_enter Tryz.func75, Tryz.ntmps75
  go_wp2
  go_ret
  refine ⟨_, rfl, ?_, bl_alloc (Below.refl _ _) _⟩
  have h := Own.lit (w := w) w.heap.size (fourE x) (Nat.le_refl _) (by simp [fourE, maxLen])
  have e : ((fourE x).map bv).toArray = #[Value.int .u8 ((x.toNat : Int) % 256), Value.int .u8 ((x.toNat : Int) / 256 % 256), Value.int .u8 ((x.toNat : Int) / 65536 % 256), Value.int .u8 ((x.toNat : Int) / 16777216)] := by
    have e1 := bv_mid x 8 256 rfl
    have e2 := bv_mid x 16 65536 rfl
    have e3 := bv_top x
    unfold fourE
    simp only [List.map, ← e3, ← bv_low x]
    rw [← e1, ← e2]
    rfl
  rw [e] at h
  exact h

theorem or_be (a d : Nat) (ha : a < 16777216) (hd : d < 256) : bits .or .i64 (wrap64 ((a : Int) * 256)) (d : Int) = ((a * 256 + d : Nat) : Int) := by
  have hc : ((a : Int) * 256) = ((a * 256 : Nat) : Int) := by simp
  rw [hc, IntWalk.wrap64_in _ ⟨by omega, by omega⟩, or_nat64 _ _ (by omega) (by omega)]
  have := Nat.two_pow_add_eq_or_of_lt (i := 8) (b := d) (by omega) a
  rw [Nat.mul_comm] at this
  rw [← this]
theorem beN_more {l : List UInt8} {k : Nat} (h : k < l.length) : beN (l.take (k + 1)) = beN (l.take k) * 256 + l[k].toNat := by
  rw [List.take_succ_eq_append_getElem h, beN_snoc]
set_option maxHeartbeats 400000 in
theorem number_any (A : Option Addr) (n c : Nat) (l : List UInt8) (w : World) (hl : l.length = n) (hr : Rd w A l) (hn : n ≤ 4) :
    Calls Tryz.prog 78 #[.slice A n c] w fun e w' => e = .returned (.int .i64 (beN l : Int)) ∧ w = w' := by
  go_enter Tryz.func78, Tryz.ntmps78
  go_wp2
  go_loop [3, 8] (fun t i => ∃ k : Nat, k ≤ n ∧ i = .int .i64 k ∧ t = .int .i64 (beN (l.take k) : Int)) (fun _ i => n - (intOf i).toNat)
  case atStart => exact ⟨0, Nat.zero_le _, rfl, rfl⟩
  case round =>
    obtain ⟨k, hk, rfl, rfl⟩ := hrel
    have HL := Lib.hid hl
    clear hl
    by_cases hlt : k < n
    · obtain ⟨ad, rfl, hc⟩ := hr.cell (k := k) (by have := HL.out; omega)
      clear hr
      go_wp2
      have hk' : k < l.length := by have := HL.out; omega
      have hv := beN_lt (l.take k)
      rw [List.length_take, Nat.min_eq_left (by omega)] at hv
      have hv2 : beN (l.take k) < 16777216 := Nat.lt_of_lt_of_le hv (by
        have := Nat.pow_le_pow_right (n := 256) (by omega) (show k ≤ 3 by omega)
        omega)
      refine ⟨⟨k + 1, by omega, by go_num, ?_⟩, by simp [intOf]; omega⟩
      have := or_be (beN (l.take k)) l[k].toNat hv2 l[k].toNat_lt
      have h8 := l[k].toNat_lt
      have hwr : wrap64 (l[k].toNat : Int) = (l[k].toNat : Int) := IntWalk.wrap64_in _ ⟨by omega, by omega⟩
      rw [beN_more hk']
      simpa [hwr] using this
    · go_wp2
      go_ret
      obtain rfl : k = n := by omega
      exact ⟨by rw [List.take_of_length_le (by have := HL.out; omega)]; rfl, rfl⟩

/-- A number's j-th byte, from the lowest one on. -/
def bE (n j : Nat) : UInt8 := UInt8.ofNat (n / 256 ^ j % 256)
theorem bE_cell (n j : Nat) (z : Int) (hz : ((256 ^ j : Nat) : Int) = z) : Value.int .u8 ((n : Int) / z % 256) = bv (bE n j) := by
  subst hz
  unfold bv bE
  rw [UInt8.toNat_ofNat', Nat.mod_eq_of_lt (show n / 256 ^ j % 256 < 2 ^ 8 from Nat.mod_lt _ (by omega))]
  simp
theorem bE_cell0 (n : Nat) : Value.int .u8 ((n : Int) % 256) = bv (bE n 0) := by
  have := bE_cell n 0 1 rfl
  rwa [Int.ediv_one] at this
theorem bE_cell7 (n : Nat) (hn : n ≤ 9223372036854775807) : Value.int .u8 ((n : Int) / 72057594037927936) = bv (bE n 7) := by
  have := bE_cell n 7 72057594037927936 rfl
  rw [← this, Int.emod_eq_of_lt (by omega) (by omega)]
theorem be4 (n : Nat) : beE 4 n = [bE n 3, bE n 2, bE n 1, bE n 0] := rfl
theorem be8 (n : Nat) : beE 8 n = [bE n 7, bE n 6, bE n 5, bE n 4, bE n 3, bE n 2, bE n 1, bE n 0] := rfl
def four4 (n k : Nat) : List UInt8 := (beE 4 n).take k ++ List.replicate (4 - k) 0
def eight8 (n k : Nat) : List UInt8 := (beE 8 n).take k ++ List.replicate (8 - k) 0

set_option maxHeartbeats 1000000 in
set_option maxRecDepth 20000 in
theorem high4_any (n : Nat) (w : World) (hn : n ≤ 9223372036854775807) : Calls Tryz.prog 122 #[.int .i64 (n : Int), .int .i64 4] w (GotBytes w (beE 4 n)) := by
  have hmk := make_bytes 4 4 rfl (by omega)
  have h0 : Own (w.alloc (.cells (nulls 4) 5)) w.heap.size (.slice (some ⟨w.heap.size, 0, none⟩) 4 4) (four4 n 0) := by
    have h := Own.lit (w := w) w.heap.size (List.replicate 4 (0 : UInt8)) (Nat.le_refl _) (by simp [maxLen])
    exact h
  have H0 := Lib.hid h0
  clear h0
  go_enter Tryz.func122, Tryz.ntmps122
  go_wp2_with fail
  go_loopw [11] (fun i wr => ∃ k : Nat, k ≤ 4 ∧ i = .int .i64 k ∧ Hid (Own wr w.heap.size (.slice (some ⟨w.heap.size, 0, none⟩) 4 4) (four4 n k)) ∧ Hid (Below w.heap.size w wr)) (fun i _ => 4 - (intOf i).toNat)
  case atStart => exact ⟨0, by omega, rfl, H0.out, bl_alloc (Below.refl _ _) _⟩
  case round =>
    clear H0 hmk
    obtain ⟨k, hk, rfl, HO, HB⟩ := hrel
    have hkk : k = 0 ∨ k = 1 ∨ k = 2 ∨ k = 3 ∨ k = 4 := by omega
    rcases hkk with rfl | rfl | rfl | rfl | rfl
    · have hc := HO.out.cellAt (k := 0) (by simp [four4, eight8, beE_len])
      have hf := HO.out.frozenAt 0
      go_wp2
      have hst := HO.out.stored 0 (bE n 3) _ (bE_cell n 3 16777216 rfl)
      exact ⟨⟨1, by omega, by go_num, hst.1, Lib.hid (bl_grown HB.out hst.2 (fun q hq => by cases hq; exact Nat.le_refl _))⟩, by simp [intOf]⟩
    · have hc := HO.out.cellAt (k := 1) (by simp [four4, eight8, beE_len])
      have hf := HO.out.frozenAt 1
      go_wp2
      have hst := HO.out.stored 1 (bE n 2) _ (bE_cell n 2 65536 rfl)
      exact ⟨⟨2, by omega, by go_num, hst.1, Lib.hid (bl_grown HB.out hst.2 (fun q hq => by cases hq; exact Nat.le_refl _))⟩, by simp [intOf]⟩
    · have hc := HO.out.cellAt (k := 2) (by simp [four4, eight8, beE_len])
      have hf := HO.out.frozenAt 2
      go_wp2
      have hst := HO.out.stored 2 (bE n 1) _ (bE_cell n 1 256 rfl)
      exact ⟨⟨3, by omega, by go_num, hst.1, Lib.hid (bl_grown HB.out hst.2 (fun q hq => by cases hq; exact Nat.le_refl _))⟩, by simp [intOf]⟩
    · have hc := HO.out.cellAt (k := 3) (by simp [four4, eight8, beE_len])
      have hf := HO.out.frozenAt 3
      go_wp2
      have hst := HO.out.stored 3 (bE n 0) _ (bE_cell0 n)
      exact ⟨⟨4, by omega, by go_num, hst.1, Lib.hid (bl_grown HB.out hst.2 (fun q hq => by cases hq; exact Nat.le_refl _))⟩, by simp [intOf]⟩
    · go_wp2
      go_ret
      exact ⟨_, rfl, HO.out, HB.out⟩

set_option maxHeartbeats 1000000 in
set_option maxRecDepth 20000 in
theorem high8_any (n : Nat) (w : World) (hn : n ≤ 9223372036854775807) : Calls Tryz.prog 122 #[.int .i64 (n : Int), .int .i64 8] w (GotBytes w (beE 8 n)) := by
  have hmk := make_bytes 8 8 rfl (by omega)
  have h0 : Own (w.alloc (.cells (nulls 8) 5)) w.heap.size (.slice (some ⟨w.heap.size, 0, none⟩) 8 8) (eight8 n 0) := by
    have h := Own.lit (w := w) w.heap.size (List.replicate 8 (0 : UInt8)) (Nat.le_refl _) (by simp [maxLen])
    exact h
  have H0 := Lib.hid h0
  clear h0
  go_enter Tryz.func122, Tryz.ntmps122
  go_wp2_with fail
  go_loopw [11] (fun i wr => ∃ k : Nat, k ≤ 8 ∧ i = .int .i64 k ∧ Hid (Own wr w.heap.size (.slice (some ⟨w.heap.size, 0, none⟩) 8 8) (eight8 n k)) ∧ Hid (Below w.heap.size w wr)) (fun i _ => 8 - (intOf i).toNat)
  case atStart => exact ⟨0, by omega, rfl, H0.out, bl_alloc (Below.refl _ _) _⟩
  case round =>
    clear H0 hmk
    obtain ⟨k, hk, rfl, HO, HB⟩ := hrel
    have hkk : k = 0 ∨ k = 1 ∨ k = 2 ∨ k = 3 ∨ k = 4 ∨ k = 5 ∨ k = 6 ∨ k = 7 ∨ k = 8 := by omega
    rcases hkk with rfl | rfl | rfl | rfl | rfl | rfl | rfl | rfl | rfl
    · have hc := HO.out.cellAt (k := 0) (by simp [four4, eight8, beE_len])
      have hf := HO.out.frozenAt 0
      go_wp2
      have hst := HO.out.stored 0 (bE n 7) _ (bE_cell7 n hn)
      exact ⟨⟨1, by omega, by go_num, hst.1, Lib.hid (bl_grown HB.out hst.2 (fun q hq => by cases hq; exact Nat.le_refl _))⟩, by simp [intOf]⟩
    · have hc := HO.out.cellAt (k := 1) (by simp [four4, eight8, beE_len])
      have hf := HO.out.frozenAt 1
      go_wp2
      have hst := HO.out.stored 1 (bE n 6) _ (bE_cell n 6 281474976710656 rfl)
      exact ⟨⟨2, by omega, by go_num, hst.1, Lib.hid (bl_grown HB.out hst.2 (fun q hq => by cases hq; exact Nat.le_refl _))⟩, by simp [intOf]⟩
    · have hc := HO.out.cellAt (k := 2) (by simp [four4, eight8, beE_len])
      have hf := HO.out.frozenAt 2
      go_wp2
      have hst := HO.out.stored 2 (bE n 5) _ (bE_cell n 5 1099511627776 rfl)
      exact ⟨⟨3, by omega, by go_num, hst.1, Lib.hid (bl_grown HB.out hst.2 (fun q hq => by cases hq; exact Nat.le_refl _))⟩, by simp [intOf]⟩
    · have hc := HO.out.cellAt (k := 3) (by simp [four4, eight8, beE_len])
      have hf := HO.out.frozenAt 3
      go_wp2
      have hst := HO.out.stored 3 (bE n 4) _ (bE_cell n 4 4294967296 rfl)
      exact ⟨⟨4, by omega, by go_num, hst.1, Lib.hid (bl_grown HB.out hst.2 (fun q hq => by cases hq; exact Nat.le_refl _))⟩, by simp [intOf]⟩
    · have hc := HO.out.cellAt (k := 4) (by simp [four4, eight8, beE_len])
      have hf := HO.out.frozenAt 4
      go_wp2
      have hst := HO.out.stored 4 (bE n 3) _ (bE_cell n 3 16777216 rfl)
      exact ⟨⟨5, by omega, by go_num, hst.1, Lib.hid (bl_grown HB.out hst.2 (fun q hq => by cases hq; exact Nat.le_refl _))⟩, by simp [intOf]⟩
    · have hc := HO.out.cellAt (k := 5) (by simp [four4, eight8, beE_len])
      have hf := HO.out.frozenAt 5
      go_wp2
      have hst := HO.out.stored 5 (bE n 2) _ (bE_cell n 2 65536 rfl)
      exact ⟨⟨6, by omega, by go_num, hst.1, Lib.hid (bl_grown HB.out hst.2 (fun q hq => by cases hq; exact Nat.le_refl _))⟩, by simp [intOf]⟩
    · have hc := HO.out.cellAt (k := 6) (by simp [four4, eight8, beE_len])
      have hf := HO.out.frozenAt 6
      go_wp2
      have hst := HO.out.stored 6 (bE n 1) _ (bE_cell n 1 256 rfl)
      exact ⟨⟨7, by omega, by go_num, hst.1, Lib.hid (bl_grown HB.out hst.2 (fun q hq => by cases hq; exact Nat.le_refl _))⟩, by simp [intOf]⟩
    · have hc := HO.out.cellAt (k := 7) (by simp [four4, eight8, beE_len])
      have hf := HO.out.frozenAt 7
      go_wp2
      have hst := HO.out.stored 7 (bE n 0) _ (bE_cell0 n)
      exact ⟨⟨8, by omega, by go_num, hst.1, Lib.hid (bl_grown HB.out hst.2 (fun q hq => by cases hq; exact Nat.le_refl _))⟩, by simp [intOf]⟩
    · go_wp2
      go_ret
      exact ⟨_, rfl, HO.out, HB.out⟩

/-- A slice of three slices. -/
theorem RdL.three {w : World} {A B C : Option Addr} {a b c d e f : Nat} {x y z : List UInt8} (hx : x.length = a) (hy : y.length = b) (hz : z.length = e) (h1 : Rd w A x) (h2 : Rd w B y) (h3 : Rd w C z) (t : TypeId) :
    RdL (w.alloc (.cells #[.slice A a c, .slice B b d, .slice C e f] t)) (some ⟨w.heap.size, 0, none⟩) [x, y, z] := fun _ => by
  subst hx hy hz
  refine ⟨_, rfl, fun j hj => ?_⟩
  have hj2 : j = 0 ∨ j = 1 ∨ j = 2 := by simp at hj; omega
  rcases hj2 with rfl | rfl | rfl
  · exact ⟨A, c, by simp [Addr.add], h1.alloc _⟩
  · exact ⟨B, d, by simp [Addr.add], h2.alloc _⟩
  · exact ⟨C, f, by simp [Addr.add], h3.alloc _⟩
/-- Bytes, and a number of 32 bits. -/
def GotHead (w : World) (l : List UInt8) (x : BitVec 32) (e : Ending) (w' : World) : Prop := ∃ v, e = .returned (.tuple #[v, .int .u32 (x.toNat : Int)]) ∧ Own w' w.heap.size v l ∧ Below w.heap.size w w'
set_option maxHeartbeats 1000000 in
set_option maxRecDepth 20000 in
theorem head_any (n k : Nat) (w : World) (hn : n ≤ 9223372036854775807) (hk : k ≤ 9223372036854775807) :
    Calls Tryz.prog 73 #[.int .i64 (n : Int), .int .i64 (k : Int)] w (GotHead w (hdE n k) (ofE (tldE n k))) := by
  go_enter Tryz.func73, Tryz.ntmps73
  go_wp2_with fail
  refine (high4_any k _ hk).mono ?_
  rintro e w1 ⟨v1, rfl, ho1, hb1⟩
  obtain ⟨A1, c1, rfl, _, _, hr1⟩ := ho1.shape
  rw [beE_len]
  go_wp2_with fail
  refine (high8_any n _ hn).mono ?_
  rintro e w2 ⟨v2, rfl, ho2, hb2⟩
  obtain ⟨A2, c2, rfl, _, _, hr2⟩ := ho2.shape
  rw [beE_len]
  have hr12 := hr1.below hb2
  have hB2 := bl_trans hb1 hb2
  have hl2 := RdL.two (a := 4) (b := 8) (c := c1) (d := c2) (beE_len 4 k) (beE_len 8 n) hr12 hr2 22
  clear ho1 ho2
  go_wp2_with fail
  refine (join_any _ 2 2 [beE 4 k, beE 8 n] _ rfl hl2 (by simp [maxLen]) (by simp [beE_len])).mono ?_
  rintro e w3 ⟨v3, rfl, ho3, hb3⟩
  have hB3 := bl_trans (bl_alloc hB2 (.cells #[.slice A1 4 c1, .slice A2 8 c2] 22)) hb3
  have e3 : [beE 4 k, beE 8 n].flatten = tldE n k := by simp [tldE]
  rw [e3] at ho3
  obtain ⟨A3, c3, rfl, _, _, hr3⟩ := ho3.shape
  rw [tld_len]
  go_wp2_with fail
  refine (of_any A3 12 c3 _ _ (tld_len n k) hr3 (by simp only [maxLen]; omega)).mono ?_
  rintro e w4 ⟨rfl, hb4⟩
  go_wp2_with fail
  refine (low_any _ _).mono ?_
  rintro e w5 ⟨v5, rfl, ho5, hb5⟩
  obtain ⟨A5, c5, rfl, _, _, hr5⟩ := ho5.shape
  rw [leB_len]
  have hr35 := hr3.below (bl_trans hb4 hb5)
  have hl5 := RdL.two (a := 12) (b := 4) (c := c3) (d := c5) (tld_len n k) (leB_len _) hr35 hr5 22
  clear ho3 ho5
  go_wp2_with fail
  refine (join_any _ 2 2 [tldE n k, leB (ofE (tldE n k))] _ rfl hl5 (by simp [maxLen]) (by simp [tld_len, leB_len])).mono ?_
  rintro e w6 ⟨v6, rfl, ho6, hb6⟩
  have hB6 := bl_trans (bl_alloc (bl_trans (bl_trans hB3 hb4) hb5) (.cells #[.slice A3 12 c3, .slice A5 4 c5] 22)) hb6
  have e6 : [tldE n k, leB (ofE (tldE n k))].flatten = hdE n k := by simp [hdE]
  rw [e6] at ho6
  go_wp2_with fail
  go_ret2
  exact ⟨_, rfl, ho6.more (bl_alloc (bl_trans (bl_trans hB3 hb4) hb5) (.cells #[.slice A3 12 c3, .slice A5 4 c5] 22)).size, hB6⟩
set_option maxHeartbeats 1000000 in
set_option maxRecDepth 20000 in
theorem written_any (n : Nat) (A : Option Addr) (m c : Nat) (b : List UInt8) (w : World) (hn : n ≤ 9223372036854775807) (hl : b.length = m) (hr : Rd w A b) (hm : m ≤ 1000000) :
    Calls Tryz.prog 28 #[.int .i64 (n : Int), .slice A m c] w (GotBytes w (recE n b)) := by
  have HL := Lib.hid hl
  clear hl
  go_enter Tryz.func28, Tryz.ntmps28
  go_wp2_with fail
  refine (head_any n m _ hn (by omega)).mono ?_
  rintro e w1 ⟨v1, rfl, ho1, hb1⟩
  obtain ⟨A1, c1, rfl, _, _, hr1⟩ := ho1.shape
  rw [hd_len]
  go_wp2_with fail
  refine (on_any _ A m c b _ HL.out (hr.below hb1) (by simp only [maxLen]; omega)).mono ?_
  rintro e w2 ⟨rfl, hb2⟩
  go_wp2_with fail
  refine (low_any _ _).mono ?_
  rintro e w3 ⟨v3, rfl, ho3, hb3⟩
  obtain ⟨A3, c3, rfl, _, _, hr3⟩ := ho3.shape
  rw [leB_len]
  have hB3 := bl_trans (bl_trans hb1 hb2) hb3
  have hl3 := RdL.three (a := 16) (b := m) (e := 4) (c := c1) (d := c) (f := c3) (hd_len n m) HL.out (leB_len _) (hr1.below (bl_trans hb2 hb3)) (hr.below hB3) hr3 22
  clear ho1 ho3
  go_wp2_with fail
  refine (join_any _ 3 3 [hdE n m, b, leB (onE (ofE (tldE n m)) b)] _ rfl hl3 (by simp [maxLen]) (by simp [hd_len, leB_len, HL.out]; omega)).mono ?_
  rintro e w4 ⟨v4, rfl, ho4, hb4⟩
  have e4 : [hdE n m, b, leB (onE (ofE (tldE n m)) b)].flatten = recE n b := by simp [recE, lastE, HL.out]
  rw [e4] at ho4
  go_wp2_with fail
  go_ret
  exact ⟨_, rfl, ho4.more (bl_alloc hB3 (.cells #[.slice A1 16 c1, .slice A m c, .slice A3 4 c3] 22)).size, bl_trans (bl_alloc hB3 _) hb4⟩
/-- What Record answers. -/
def recA (n : Int) (b : List UInt8) : List UInt8 × Nat := if n < 1 ∨ 9007199254740991 < n then ([], 2) else if 262144 < b.length then ([], 5) else (recE n.toNat b, 0)
def GotBytesE (w : World) (l : List UInt8) (er : Nat) (e : Ending) (w' : World) : Prop := ∃ v, e = .returned (.tuple #[v, .int .i64 (er : Int)]) ∧ Own w' w.heap.size v l ∧ Below w.heap.size w w'
set_option maxHeartbeats 1000000 in
set_option maxRecDepth 20000 in
theorem record_any (n : Nat) (A : Option Addr) (m c : Nat) (b : List UInt8) (w : World) (h1 : 1 ≤ n) (hn : n ≤ 9007199254740991) (hl : b.length = m) (hr : Rd w A b) (hm : m ≤ 262144) :
    Calls Tryz.prog 7 #[.int .i64 (n : Int), .slice A m c] w (GotBytesE w (recE n b) 0) := by
  have hw := written_any n A m c b w (by omega) hl hr (by omega)
  have d1 : decide ((n : Int) < 1) = false := by simp; omega
  have d2 : decide (9007199254740991 < (n : Int)) = false := by simp; omega
  have d3 : decide (262144 < (m : Int)) = false := by simp; omega
  clear hl hr
  go_enter Tryz.func7, Tryz.ntmps7
  go_wp2_with (go_at_call 27; refine (tooLong_any _ _ _ _).mono ?_; rintro e w1 ⟨rfl, rfl⟩)
  refine hw.mono ?_
  rintro e w1 ⟨v, rfl, ho, hb⟩
  go_wp2_with fail
  go_ret2
  exact ⟨_, rfl, ho, hb⟩
end Go.Proofs.YtncpkblgiepdpaaGreat
