/- How many bytes a set has, and its least one, over the translated program. Least wants math/bits' table as it was laid. -/
import Derived.Test.YteedmkokbapkgaaDoorSetA
set_option linter.unusedVariables false
set_option linter.unusedSimpArgs false
namespace Go.Proofs.YteedmkokbapkgaaDoor
open Go.RowKit

theorem and127 (s : Nat) (hs : s < 9223372036854775808) : bits .and .i64 (s : Int) 127 = ((s % 128 : Nat) : Int) := by
  have h : s &&& 127 = s % 128 := Nat.and_two_pow_sub_one_eq_mod s 7
  show IntKind.i64.wrap ((BitVec.ofInt 64 (s : Int) &&& BitVec.ofInt 64 127).toNat : Int) = _
  have e1 : (BitVec.ofInt 64 (s : Int)).toNat = s := by rw [BitVec.ofInt_natCast, BitVec.toNat_ofNat]; omega
  have e2 : (BitVec.ofInt 64 127).toNat = 127 := by decide
  rw [BitVec.toNat_and, e1, e2, h, IntWalk.i64_in _ (by omega)]

set_option maxHeartbeats 2000000 in
set_option maxRecDepth 20000 in
theorem ones_any (x : Nat) (hx : x < 18446744073709551616) (w : World) :
    Calls Tryd.prog 89 #[.int .u64 (x : Int)] w fun e w' => e = .returned (.int .i64 (cnt 64 x : Int)) ∧ w' = w := by
  go_enter Tryd.func89, Tryd.ntmps89
  obtain ⟨b, hb⟩ : ∃ b, b = p1 6148914691236517205 x := ⟨_, rfl⟩
  obtain ⟨d, hd⟩ : ∃ d, d = p2 3689348814741910323 b := ⟨_, rfl⟩
  obtain ⟨y, hy⟩ : ∃ y, y = p3 1085102592571150095 d := ⟨_, rfl⟩
  obtain ⟨y1, hy1⟩ : ∃ y1, y1 = y + y / 256 := ⟨_, rfl⟩
  obtain ⟨y2, hy2⟩ : ∃ y2, y2 = y1 + y1 / 65536 := ⟨_, rfl⟩
  obtain ⟨l1, l2, l3, l4⟩ := ones_of x y y1 y2 hx (by rw [hy, hd, hb]) hy1 hy2
  have k1 := p1_le x hx
  rw [← hb] at k1
  have k2 := p2_le b
  rw [← hd] at k2
  obtain ⟨a1, ha1⟩ : ∃ a, a = x / 2 &&& 6148914691236517205 := ⟨_, rfl⟩
  obtain ⟨a2, ha2⟩ : ∃ a, a = x &&& 6148914691236517205 := ⟨_, rfl⟩
  obtain ⟨c1, hc1⟩ : ∃ a, a = b / 4 &&& 3689348814741910323 := ⟨_, rfl⟩
  obtain ⟨c2, hc2⟩ : ∃ a, a = b &&& 3689348814741910323 := ⟨_, rfl⟩
  have e1 : bits .and .u64 ((x : Int) / 2) 6148914691236517205 = (a1 : Int) := by
    rw [ha1]
    exact bits_and_u64_nat (x / 2) 6148914691236517205 (by omega) (by omega)
  have e2 : bits .and .u64 (x : Int) 6148914691236517205 = (a2 : Int) := by
    rw [ha2]
    exact bits_and_u64_nat x 6148914691236517205 (by omega) (by omega)
  have e3 : IntKind.u64.wrap ((a1 : Int) + (a2 : Int)) = (b : Int) := by
    have : a1 + a2 = b := by rw [hb, ha1, ha2]; rfl
    rw [IntKind.wrap_u64]
    omega
  have e4 : bits .and .u64 ((b : Int) / 4) 3689348814741910323 = (c1 : Int) := by
    rw [hc1]
    exact bits_and_u64_nat (b / 4) 3689348814741910323 (by omega) (by omega)
  have e5 : bits .and .u64 (b : Int) 3689348814741910323 = (c2 : Int) := by
    rw [hc2]
    exact bits_and_u64_nat b 3689348814741910323 (by omega) (by omega)
  have e6 : IntKind.u64.wrap ((c1 : Int) + (c2 : Int)) = (d : Int) := by
    have : c1 + c2 = d := by rw [hd, hc1, hc2]; rfl
    rw [IntKind.wrap_u64]
    omega
  obtain ⟨g, hg⟩ : ∃ g, g = d / 16 + d := ⟨_, rfl⟩
  have e7 : IntKind.u64.wrap ((d : Int) / 16 + (d : Int)) = (g : Int) := by
    rw [IntKind.wrap_u64]
    omega
  have e8 : bits .and .u64 (g : Int) 1085102592571150095 = (y : Int) := by
    have : y = g &&& 1085102592571150095 := by rw [hy, hg]; rfl
    rw [this]
    exact bits_and_u64_nat g 1085102592571150095 (by omega) (by omega)
  have e9 : IntKind.u64.wrap ((y : Int) + (y : Int) / 256) = (y1 : Int) := by
    rw [IntKind.wrap_u64]
    omega
  have e10 : IntKind.u64.wrap ((y1 : Int) + (y1 : Int) / 65536) = (y2 : Int) := by
    rw [IntKind.wrap_u64]
    omega
  obtain ⟨y3, hy3⟩ : ∃ y3, y3 = y2 + y2 / 4294967296 := ⟨_, rfl⟩
  have e11 : IntKind.u64.wrap ((y2 : Int) + (y2 : Int) / 4294967296) = (y3 : Int) := by
    rw [IntKind.wrap_u64]
    omega
  have e12 : IntKind.i64.wrap (y3 : Int) = (y3 : Int) := by
    rw [IntWalk.i64_in _ (by omega)]
  have e13 : bits .and .i64 (y3 : Int) 127 = (cnt 64 x : Int) := by
    rw [← l4, ← hy3]
    exact and127 y3 (by omega)
  clear hb hd hy hy1 hy2 l1 l2 l3 l4 k1 k2 ha1 ha2 hc1 hc2 hg hy3
  go_wp2
  go_ret
  exact ⟨rfl, rfl⟩

theorem ones_word (x : BitVec 64) (w : World) :
    Calls Tryd.prog 89 #[.int .u64 (x.toNat : Int)] w fun e w' => e = .returned (.int .i64 (pop x : Int)) ∧ w' = w :=
  ones_any x.toNat x.isLt w

theorem index4 (f : Nat → BitVec 64) (k : Nat) (hk : k < 4) (W : World) : (Instr.index 57 (.agg (row4 f)) (.int .i64 (k : Int))).run Tryd.prog W = .ok (.int .u64 ((f k).toNat : Int)) W := by
  have e : (Tryd.prog.info? 55).map (·.size) = some 1 := by kernel_rfl
  obtain ⟨i, hi, hs⟩ : ∃ i, Tryd.prog.info? 55 = some i ∧ i.size = 1 := by
    cases hq : Tryd.prog.info? 55 with
    | none => rw [hq] at e; cases e
    | some i => rw [hq] at e; exact ⟨i, rfl, by simpa using e⟩
  have hg := row4_get f k hk
  have h0 : (0 : Int) ≤ k := by omega
  have h1 : (k : Int) < 4 := by omega
  have hu := run_underlying Tryd.underlying57
  have ha := run_underlying Tryd.underlying55
  simp [Instr.index, hu, hi, hs, h1, sizeOf, typeInfo, go_sem]
  rw [if_pos hk, hg]
  rfl

/-- How many bits of the first k words are 1. -/
def sumP (f : Nat → BitVec 64) : Nat → Nat
  | 0 => 0
  | k + 1 => sumP f k + pop (f k)
theorem sumP_le (f : Nat → BitVec 64) : ∀ k, sumP f k ≤ 64 * k
  | 0 => Nat.le_refl _
  | k + 1 => by
    have := sumP_le f k
    have := pop_le (f k)
    rw [sumP]
    omega
theorem sumP_four (f : Nat → BitVec 64) : sumP f 4 = (elems f).length := by
  rw [elems_len]
  simp [sumP]

theorem sum_step (f : Nat → BitVec 64) (k : Nat) (hk : k < 4) : wrap64 ((sumP f k : Int) + (pop (f k) : Int)) = (sumP f (k + 1) : Int) := by
  have h1 := sumP_le f k
  have h2 := pop_le (f k)
  have hs : sumP f (k + 1) = sumP f k + pop (f k) := rfl
  rw [hs, IntWalk.wrap64_in _ (by omega)]
  omega

def GotN (w : World) (n : Nat) (e : Ending) (w' : World) : Prop := e = .returned (.int .i64 (n : Int)) ∧ Below w.heap.size w w'

set_option maxHeartbeats 2000000 in
set_option maxRecDepth 20000 in
theorem len_any (f : Nat → BitVec 64) (w : World) :
    Calls Tryd.prog 74 #[.agg (row4 f)] w (GotN w (elems f).length) := by
  have hA := Lib.hid (H4.new w f)
  go_enter Tryd.func74, Tryd.ntmps74
  go_wp2_with (refine wpList_load_row rfl 57 _ rfl w.heap.size rfl 57 _ (0, 0) _ hA.out Tryd.underlying57 rfl (by rw [size4, row4_size]) ?_)
  go_loopw [3, 7] (fun s i wr => ∃ k : Nat, k ≤ 4 ∧ i = .int .i64 k ∧ s = .int .i64 (sumP f k : Int) ∧ Below w.heap.size w wr) (fun _ i _ => 4 - (intOf i).toNat)
  case atStart => exact ⟨0, by omega, rfl, rfl, bl_alloc (Below.refl _ _) _⟩
  case round =>
    obtain ⟨k, hk, rfl, rfl, hB⟩ := hrel
    by_cases hlt : k < 4
    · have hx := index4 f k hlt
      have HB := Lib.hid hB
      clear hB hA
      go_wp2_with fail
      refine (ones_word (f k) _).mono ?_
      rintro e w' ⟨rfl, rfl⟩
      go_wp2
      rw [sum_step f k hlt]
      exact ⟨⟨k + 1, by omega, by go_num, rfl, HB.out⟩, by simp [intOf]; omega⟩
    · obtain rfl : k = 4 := by omega
      rw [sumP_four] at *
      go_wp2
      go_ret
      exact ⟨rfl, hB⟩

/-- math/bits' table, as its initialiser lays it. -/
def Tab (w : World) : Prop := ∀ j, j < 64 → w.cell? ⟨0, j, none⟩ = some (.int .u8 ((Lib.deBruijn64tab.getD j 0 : Nat) : Int))
theorem Tab.below {w w' : World} (h : Tab w) (hb : Below w.heap.size w w') : Tab w' := fun j hj =>
  (hb.cell (p := ⟨0, j, none⟩) (World.block_lt_of_cell? w _ (h j hj))).trans (h j hj)

/-- The lowest bit of a word. -/
def low (x : BitVec 64) : Nat := Lib.ctz 64 x.toNat
theorem low_spec (x : BitVec 64) (hx : x ≠ 0) : low x < 64 ∧ x.getLsbD (low x) = true ∧ ∀ i, i < low x → x.getLsbD i = false := by
  have h0 : x.toNat ≠ 0 := fun h => hx (by apply BitVec.eq_of_toNat_eq; simpa using h)
  have hlt : x.toNat < 2 ^ 64 := x.isLt
  obtain ⟨m, hm, hk⟩ := Lib.ctzFrom_spec 64 x.toNat (by omega) hlt
  have e : low x = Lib.ctzFrom 64 x.toNat := by simp [low, Lib.ctz, h0]
  rw [e]
  refine ⟨hk, ?_, fun i hi => ?_⟩
  · rw [BitVec.getLsbD, hm, Nat.mul_comm, Nat.testBit_mul_two_pow]
    have e2 : Lib.ctzFrom 64 (x.toNat) = Lib.ctzFrom 64 ((2 * m + 1) * 2 ^ Lib.ctzFrom 64 x.toNat) := by
      conv => lhs; rw [hm, Nat.mul_comm]
    rw [← e2]
    simp
  · rw [BitVec.getLsbD, hm, Nat.mul_comm, Nat.testBit_mul_two_pow]
    have e2 : Lib.ctzFrom 64 (x.toNat) = Lib.ctzFrom 64 ((2 * m + 1) * 2 ^ Lib.ctzFrom 64 x.toNat) := by
      conv => lhs; rw [hm, Nat.mul_comm]
    have : ¬ Lib.ctzFrom 64 x.toNat ≤ i := by omega
    simp [this]

theorem low_key (x a : Nat) (hx : x < 18446744073709551616) (hx0 : x ≠ 0) (hlow : x &&& (18446744073709551616 - x) = a) :
    IntKind.u64.wrap (bits BinOp.and IntKind.u64 (x : Int) (IntKind.u64.wrap (-(x : Int))) * 285870213051353865) / 288230376151711744 = ((a * 285870213051353865 % 18446744073709551616 / 288230376151711744 : Nat) : Int) := by
  have e1 : IntKind.u64.wrap (-(x : Int)) = ((18446744073709551616 - x : Nat) : Int) := by rw [IntKind.wrap_u64]; omega
  rw [e1, bits_and_u64_nat x _ hx (by omega), hlow, IntKind.wrap_u64]
  omega

set_option maxHeartbeats 1000000 in
theorem tz_core (x k idx : Nat) (w : World) (hx0 : ((x : Int) == 0) = false)
    (key : IntKind.u64.wrap (bits BinOp.and IntKind.u64 (x : Int) (IntKind.u64.wrap (-(x : Int))) * 285870213051353865) / 288230376151711744 = (idx : Int))
    (hi : idx < 64) (hk : k < 64) (hcell : w.cell? ⟨0, idx, none⟩ = some (.int .u8 (k : Int))) :
    Calls Tryd.prog 90 #[.int .u64 (x : Int)] w fun e w' => e = .returned (.int .i64 (k : Int)) ∧ w' = w := by
  go_enter Tryd.func90, Tryd.ntmps90
  go_wp2_with (simp only [key])
  go_ret
  exact ⟨rfl, rfl⟩
theorem tz_any (x : BitVec 64) (hx : x ≠ 0) (w : World) (hT : Tab w) :
    Calls Tryd.prog 90 #[.int .u64 (x.toNat : Int)] w fun e w' => e = .returned (.int .i64 (low x : Int)) ∧ w' = w := by
  have h0 : x.toNat ≠ 0 := fun h => hx (by apply BitVec.eq_of_toNat_eq; simpa using h)
  obtain ⟨hlow, hk⟩ := Lib.lowest_bit 64 x.toNat h0 x.isLt
  obtain ⟨hi, htab⟩ := Lib.deBruijn64_at _ hk
  have hcell := hT _ hi
  rw [htab] at hcell
  exact tz_core x.toNat (low x) _ w (by simp; omega) (low_key x.toNat _ x.isLt h0 hlow) hi hk hcell

theorem all_range_eq64 : ∀ (xs ys : List (BitVec 64)), xs.length = ys.length → ((List.range xs.length).all fun i => xs.getD i 0 == ys.getD i 0) = (xs == ys)
  | [], [], _ => rfl
  | x :: xs, y :: ys, h => by
    have ih := all_range_eq64 xs ys (by simpa using h)
    rw [List.length_cons, List.range_succ_eq_map, List.all_cons, List.all_map]
    simp only [List.getD_cons_zero, Function.comp_def, List.getD_cons_succ, ih]
    simp [List.cons_beq_cons]
  | [], _ :: _, h => by simp at h
  | _ :: _, [], h => by simp at h
set_option maxRecDepth 20000 in
theorem equal_words (xs ys : List (BitVec 64)) (hx : xs.length = 4) (hy : ys.length = 4) (w : World) : (Op.equalIn 10000 57 (.agg (xs.map dv).toArray) (.agg (ys.map dv).toArray)).run Tryd.prog w = .ok (xs == ys) w := by
  have ht := Tryd.underlying57
  have he := Tryd.underlying55
  have hsz : ∀ w, (sizeOf 55).run Tryd.prog w = .ok 1 w := fun w => by kernel_rfl
  rw [← all_range_eq64 xs ys (hx.trans hy.symm), hx, List.range_eq_range', Op.equalIn]
  simp only [Sem.run_bind, run_underlying ht, Result.andThen_ok, hsz, Std.Legacy.Range.forIn_eq_forIn_range', Std.Legacy.Range.size, Nat.sub_zero, Nat.add_sub_cancel, Nat.div_one]
  have hl : ∀ i ∈ List.range' 0 4 1, i < 4 := fun i hi => by simpa using (List.mem_range'_1.1 hi).2
  generalize List.range' 0 4 1 = l at hl ⊢
  induction l with
  | nil => simp
  | cons i l ih =>
    have hi : i < 4 := hl i (by simp)
    have px : (part 55 (xs.map dv).toArray (i * 1)).run Tryd.prog w = .ok (dv (xs.getD i 0)) w := by
      simp [part, isAgg, run_underlying he, List.getD, List.getElem?_eq_getElem (show i < xs.length by omega)]
    have py : (part 55 (ys.map dv).toArray (i * 1)).run Tryd.prog w = .ok (dv (ys.getD i 0)) w := by
      simp [part, isAgg, run_underlying he, List.getD, List.getElem?_eq_getElem (show i < ys.length by omega)]
    have pe : (Op.equalIn 9999 55 (dv (xs.getD i 0)) (dv (ys.getD i 0))).run Tryd.prog w = .ok (xs.getD i 0 == ys.getD i 0) w := by
      rw [dv, dv, run_equalIn_int w 9998 55 .u64 .u64 _ _ he]
      congr 1
      rw [Bool.eq_iff_iff]
      simp [← BitVec.toNat_inj]
      omega
    simp only [List.forIn_cons, Sem.run_bind, px, py, pe, Result.andThen_ok, List.all_cons]
    cases hb : (xs.getD i 0 == ys.getD i 0)
    · simp
    · simp only [Bool.not_true, Bool.false_eq_true, if_false, Sem.run_pure, Result.andThen_ok, Bool.true_and]
      exact ih fun j hj => hl j (by simp [hj])
/-- Two sets, compared. -/
theorem same_sets {f g : Nat → BitVec 64} (h : Eq4 f g) (W : World) : (Op.equalIn 10000 57 (.agg (row4 f)) (.agg (row4 g))).run Tryd.prog W = .ok true W := by
  rw [row4_congr h]
  unfold row4
  rw [equal_words _ _ (by simp) (by simp)]
  simp
theorem other_sets {f g : Nat → BitVec 64} (h : ¬ Eq4 f g) (W : World) : (Op.equalIn 10000 57 (.agg (row4 f)) (.agg (row4 g))).run Tryd.prog W = .ok false W := by
  unfold row4
  rw [equal_words _ _ (by simp) (by simp)]
  congr 1
  apply beq_eq_false_iff_ne.2
  intro e
  apply h
  intro j hj
  have := congrArg (·[j]?) e
  simpa [hj] using this

end Go.Proofs.YteedmkokbapkgaaDoor
