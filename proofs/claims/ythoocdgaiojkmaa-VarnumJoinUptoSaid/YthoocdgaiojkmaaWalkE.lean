/- What the statements' own helper 'works' does: the chapter's examples come out as it says; and 'number'. -/
import Derived.Test.YthoocdgaiojkmaaWalkD
import Derived.Lib.SlBytesConst
set_option linter.unusedVariables false
namespace Go.Proofs.Ythoocdgaiojkmaa
open Go.RowKit

/-- 'string(b)'. -/
theorem string_of (w : World) (A : Option Addr) (n c : Nat) (l : List UInt8) (hl : l.length = n) (hr : Rd w A l) : (convert 22 9 (.slice A n c)).run Try.prog w = .ok (.string ⟨l.toArray⟩) w := by
  subst hl
  rcases A with _ | ad
  · have h0 : l = [] := by
      rcases l with _ | ⟨x, r⟩
      · rfl
      · obtain ⟨ad, h, _⟩ := hr (by simp)
        cases h
    subst h0
    exact run_convert_bytes_nil w _ _ Try.underlying22 Try.underlying5 0 c _ Try.underlying9
  · rw [run_convert_bytes_string w _ _ _ _ _ c Try.underlying22 Try.underlying5 Try.underlying9]
    have hcells : ∀ j u, (l.map bv)[j]? = some u → w.cell? (ad.add j) = some u := by
      intro j u hu
      rw [List.getElem?_map] at hu
      obtain ⟨x, hx, rfl⟩ := Option.map_eq_some_iff.1 hu
      obtain ⟨hj, rfl⟩ := List.getElem?_eq_some_iff.1 hx
      obtain ⟨ad', e, hc⟩ := hr (by omega)
      cases e
      exact hc j hj
    have e : l.map bv = (l.map fun b => (b.toNat : Int)).map (Value.int .u8) := by rw [List.map_map]; rfl
    have hload := run_loadCells_list (P := Try.prog) w ad (l.map bv) hcells
    rw [List.length_map, e] at hload
    rw [run_bytesToString w ad l.length c (l.map fun b => (b.toNat : Int)) hload, foldl_push_bytes]
    simp [ByteArray.empty, ByteArray.emptyWithCapacity, Function.comp_def]
    rfl

/-- Bytes that a literal laid down, whatever its mark. -/
theorem Rd.litF (w : World) (l : List UInt8) (fr : Nat × Nat) : Rd (w.alloc (.cells (l.map bv).toArray 5 fr)) (some ⟨w.heap.size, 0, none⟩) l := fun h => by
  refine ⟨_, rfl, fun j hj => ?_⟩
  have e : (⟨w.heap.size, 0, none⟩ : Addr).add j = ⟨w.heap.size, j, none⟩ := by unfold Addr.add; split <;> simp_all
  rw [e, cell_of_row _ _ j (l.map bv).toArray 5 fr (heap_alloc_new w _)]
  simp [hj]

theorem is_lit (z : Int) (n : Nat) (l : List UInt8) (A : Option Addr) (m c : Nat) (w : World) (hz : z = n) (hn : n ≤ 9007199254740991) (hd : digs n = l) (hl : l.length = m) (hr : Rd w A l) :
    Calls Try.prog 30 #[.int .i64 z, .slice A m c] w (GotBool w true) := by
  subst hz hd
  exact is_any n A m c w hn hl hr
theorem fails_lit (z : Int) (er : Nat) (A : Option Addr) (m c : Nat) (l : List UInt8) (w : World) (hz : z = er) (her : er = 3 ∨ er = 4) (hm8 : m ≤ 100) (hl : l.length = m) (hr : Rd w A l) (hnc : m ≤ c) (hc : c ≤ maxLen) (ht : takeN l = (0, [], er)) :
    Calls Try.prog 31 #[.int .i64 z, .slice A m c] w (GotBool w true) := by
  subst hz
  exact fails_any er A m c l w her hm8 hl hr hnc hc ht

theorem dg0 : digs 0 = [0] := by rw [digs_small (by omega)]; rfl
theorem dg2 : digs 2 = [2] := by rw [digs_small (by omega)]; rfl
theorem dg127 : digs 127 = [127] := by rw [digs_small (by omega)]; rfl
theorem dg128 : digs 128 = [128, 1] := by rw [digs_big (by omega), digs_small (by omega)]; rfl
theorem dg300 : digs 300 = [172, 2] := by rw [digs_big (by omega), digs_small (by omega)]; rfl
theorem tx_ab : textE [97, 98] 2 = ([2, 97, 98], 0) := by
  unfold textE
  rw [if_neg (by omega), if_neg (by simp)]
  show (digs 2 ++ [97, 98], 0) = _
  rw [dg2]; rfl
theorem tt_ab : takeT [2, 97, 98, 99] 2 = ([97, 98], [99], 0) := by
  have h := takeT_text (t := [97, 98]) (r := [99]) (most := 2) (by simp) (by simp)
  have e : digs ([97, 98] : List UInt8).length = [2] := dg2
  rw [e] at h
  exact h

theorem bl_of_alloc {w w' : World} {o : Obj} (h : Below (w.alloc o).heap.size (w.alloc o) w') : Below w.heap.size w w' := bl_trans (bl_alloc (Below.refl _ _) _) h

set_option maxHeartbeats 1000000 in
set_option maxRecDepth 20000 in
theorem works_any (w : World) : Calls Try.prog 19 #[] w (GotBool w true) := by
  have kc := fun (w : World) (C : Array Value) (n c : Nat) => Lib.run_convert_bytes_const (P := Try.prog) w 22 5 C n c Try.underlying22 Try.underlying5
  go_enter Try.func19, Try.ntmps19
  go_wp2_with fail
  have c1 := text_any (some ⟨w.heap.size, 0, none⟩) 2 2 2 [97, 98] _ rfl (Rd.litF w [97, 98] (2, 3)) (by omega) (by omega) (by omega)
  rw [tx_ab] at c1
  refine c1.mono ?_
  rintro e w1 ⟨v1, rfl, ho1, hb1⟩
  clear c1
  obtain ⟨A1, n1, c1, rfl, HL1, hc1, hc1', hr1⟩ := ho1.form
  have hB1 : Below w.heap.size w w1 := bl_trans (bl_alloc (Below.refl _ _) _) hb1
  clear hb1 ho1
  go_wp2_with fail
  have c2 := takeT_any (some ⟨w1.heap.size, 0, none⟩) 4 4 2 [2, 97, 98, 99] _ rfl (Rd.lit w1 [2, 97, 98, 99]) (by omega) (by simp [maxLen]) (by omega) (by omega) (by omega)
  rw [tt_ab] at c2
  refine c2.mono ?_
  rintro e w2 ⟨v2, u2, rfl, ho2, hp2, _, hb2⟩
  clear c2
  obtain ⟨A2, n2, c2, rfl, HL2, hc2, hc2', hr2⟩ := ho2.form
  obtain ⟨A3, n3, c3, rfl, HL3, hc3, hc3', hr3⟩ := hp2.form
  have hB2 : Below w1.heap.size w1 w2 := bl_trans (bl_alloc (Below.refl _ _) _) hb2
  clear hb2 ho2 hp2
  go_wp2_with fail
  refine (is_lit _ 0 [0] _ 1 1 _ rfl (by omega) dg0 rfl (Rd.lit w2 [0])).mono ?_
  rintro e w3 ⟨rfl, hb3⟩
  have hB3 := bl_of_alloc hb3
  clear hb3
  go_wp2_with fail
  refine (is_lit _ 127 [127] _ 1 1 _ rfl (by omega) dg127 rfl (Rd.lit w3 [127])).mono ?_
  rintro e w4 ⟨rfl, hb4⟩
  have hB4 := bl_trans hB3 (bl_of_alloc hb4)
  clear hb4 hB3
  go_wp2_with fail
  refine (is_lit _ 128 [128, 1] _ 2 2 _ rfl (by omega) dg128 rfl (Rd.lit w4 [128, 1])).mono ?_
  rintro e w5 ⟨rfl, hb5⟩
  have hB5 := bl_trans hB4 (bl_of_alloc hb5)
  clear hb5 hB4
  go_wp2_with fail
  refine (is_lit _ 300 [172, 2] _ 2 2 _ rfl (by omega) dg300 rfl (Rd.lit w5 [172, 2])).mono ?_
  rintro e w6 ⟨rfl, hb6⟩
  have hB6 := bl_trans hB5 (bl_of_alloc hb6)
  clear hb6 hB5
  go_wp2_with fail
  refine (fails_lit _ 4 _ 2 2 [128, 0] _ rfl (.inr rfl) (by omega) rfl (Rd.lit w6 [128, 0]) (by omega) (by simp [maxLen]) (by rfl)).mono ?_
  rintro e w7 ⟨rfl, hb7⟩
  have hB7 := bl_trans hB6 (bl_of_alloc hb7)
  clear hb7 hB6
  go_wp2_with fail
  refine (fails_lit _ 3 _ 1 1 [128] _ rfl (.inl rfl) (by omega) rfl (Rd.lit w7 [128]) (by omega) (by simp [maxLen]) (by rfl)).mono ?_
  rintro e w8 ⟨rfl, hb8⟩
  have hB8 := bl_trans hB7 (bl_of_alloc hb8)
  clear hb8 hB7
  go_wp2_with fail
  refine (eq_true A1 _ n1 c1 3 3 [2, 97, 98] _ HL1.out rfl (((hr1.below hB2).below hB8).alloc _) (Rd.lit w8 [2, 97, 98]) (by have := HL1.out; simp at this; simp [maxLen]; omega)).mono ?_
  rintro e w9 ⟨rfl, hb9⟩
  have hB9 := bl_trans hB8 (bl_of_alloc hb9)
  clear hb9 hB8
  have s1 := string_of w9 A2 n2 c2 [97, 98] HL2.out (hr2.below hB9)
  have s2 := string_of w9 A3 n3 c3 [99] HL3.out (hr3.below hB9)
  go_wp2
  go_ret
  exact ⟨rfl, bl_trans hB1 (bl_trans hB2 hB9)⟩

/-- 'Bring' and 'number': a number, out of any. -/
def nb (n : Int) : Nat := (n % 9007199254740992).toNat
theorem nb_le (n : Int) : nb n ≤ 9007199254740991 := by unfold nb; omega

set_option maxHeartbeats 1000000 in
set_option maxRecDepth 20000 in
theorem bring_any (i : Int) (n : Nat) (w : World) (h1 : -9223372036854775808 ≤ i) (h2 : i ≤ 9223372036854775807) (hn : 0 < n) (hn2 : n ≤ 9223372036854775807) :
    Calls Try.prog 29 #[.int .i64 i, .int .i64 n] w fun e w' => e = .returned (.int .i64 (i % n)) ∧ w = w' := by
  by_cases hi : 0 ≤ i
  · have hm0 : 0 ≤ i % (n : Int) := Int.emod_nonneg _ (by omega)
    go_enter Try.func29, Try.ntmps29
    go_wp2_with fail
    go_ret
    exact ⟨rfl, rfl⟩
  · have hneg : i.tmod n = -((-i) % (n : Int)) := by
      have e := Int.neg_tmod (a := -i) (b := (n : Int))
      rw [Int.neg_neg] at e
      rw [e, Int.tmod_eq_emod_of_nonneg (a := -i) (by omega)]
    have g1 : 0 ≤ (-i) % (n : Int) := Int.emod_nonneg _ (by omega)
    have g2 : (-i) % (n : Int) < n := Int.emod_lt_of_pos _ (by omega)
    have g3 : i % (n : Int) = if (-i) % (n : Int) = 0 then 0 else n - (-i) % (n : Int) := by
      have d := Int.mul_ediv_add_emod (-i) n
      generalize (-i) % (n : Int) = r at *
      generalize (-i) / (n : Int) = q at *
      by_cases hr : r = 0
      · rw [if_pos hr]
        have e : i = (n : Int) * (-q) := by rw [Int.mul_neg]; omega
        rw [e, Int.mul_emod_right]
      · rw [if_neg hr]
        have e : i = (n - r) + (n : Int) * (-q - 1) := by rw [Int.mul_sub, Int.mul_neg, Int.mul_one]; omega
        rw [e, Int.add_mul_emod_self_left]
        exact Int.emod_eq_of_lt (by omega) (by omega)
    have HN := Lib.hid hneg
    have H3 := Lib.hid g3
    clear hneg g3
    by_cases hz : (-i) % (n : Int) = 0
    · have b1 : decide (i.tmod n < 0) = false := by rw [HN.out]; simp; omega
      have HZ := Lib.hid hz
      clear hz
      go_enter Try.func29, Try.ntmps29
      go_wp2_with fail
      go_ret
      refine ⟨?_, rfl⟩
      rw [H3.out, if_pos HZ.out]
      show Ending.returned (Value.int IntKind.i64 (i.tmod n)) = _
      rw [HN.out, HZ.out]; rfl
    · have b1 : decide (i.tmod n < 0) = true := by rw [HN.out]; simp; omega
      have b2 : i.tmod n < 0 := by rw [HN.out]; omega
      have b3 : -(n : Int) < i.tmod n := by rw [HN.out]; omega
      go_enter Try.func29, Try.ntmps29
      go_wp2_with fail
      go_ret
      refine ⟨?_, rfl⟩
      rw [H3.out, if_neg hz]
      show Ending.returned (Value.int IntKind.i64 (i.tmod n + n)) = _
      rw [HN.out]
      congr 2
      omega

set_option maxHeartbeats 1000000 in
set_option maxRecDepth 20000 in
theorem number_any (i : Int) (w : World) (h1 : -9223372036854775808 ≤ i) (h2 : i ≤ 9223372036854775807) :
    Calls Try.prog 26 #[.int .i64 i] w fun e w' => e = .returned (.int .i64 (nb i : Int)) ∧ w = w' := by
  have hb := bring_any i 9007199254740992 w h1 h2 (by omega) (by omega)
  have HB := Lib.hid hb
  clear hb
  go_enter Try.func26, Try.ntmps26
  go_wp2_with (go_at_call 29; refine (HB.out).mono ?_; rintro e w' ⟨rfl, rfl⟩)
  go_ret
  refine ⟨?_, rfl⟩
  unfold nb
  rw [Int.toNat_of_nonneg (by omega)]
  rfl

/-- 'min(m, 5000)', under a name. -/
theorem min_5000 (m : Nat) : ∃ k : Nat, Hid (k = min m 5000) ∧ k ≤ m ∧ k ≤ 5000 ∧ ∀ (ts : Array TypeId) (t : TypeId) (W : World), (Builtin.min_ ts t #[.int .i64 (m : Int), .int .i64 5000]).run Try.prog W = .ok (.int .i64 (k : Int)) W := by
  refine ⟨min m 5000, rfl, by omega, by omega, fun ts t W => ?_⟩
  rw [run_min_int2]
  have e : (if (5000 : Int) < m then (5000 : Int) else m) = ((min m 5000 : Nat) : Int) := by split <;> omega
  rw [e]

/-- 'Bring', the place under a name. -/
theorem bring_nat (i : Int) (n : Nat) (h1 : -9223372036854775808 ≤ i) (h2 : i ≤ 9223372036854775807) (hn : 0 < n) (hn2 : n ≤ 9223372036854775807) :
    ∃ j : Nat, j < n ∧ Hid ((j : Int) = i % n) ∧ Hid (∀ w : World, Calls Try.prog 29 #[.int .i64 i, .int .i64 n] w fun e w' => e = .returned (.int .i64 (j : Int)) ∧ w = w') := by
  have g1 : 0 ≤ i % (n : Int) := Int.emod_nonneg _ (by omega)
  have g2 : i % (n : Int) < n := Int.emod_lt_of_pos _ (by omega)
  refine ⟨(i % (n : Int)).toNat, by omega, Int.toNat_of_nonneg g1, fun w => ?_⟩
  rw [Int.toNat_of_nonneg g1]
  exact bring_any i n w h1 h2 hn hn2

end Go.Proofs.Ythoocdgaiojkmaa
