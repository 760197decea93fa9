/- What the statements' helpers do (CopyBytes, EqBytes, Bring; behind, four, ahead): contracts over the translated program. No condition but that lists can be read. -/
import Derived.Test.YtobfmlgoelmcpaaCrcA
set_option linter.unusedVariables false
namespace Go.Proofs.Ytobfmlgoelmcpaa
open Go.RowKit

def GotBytes (w : World) (l : List UInt8) (e : Ending) (w' : World) : Prop := ∃ v, e = .returned v ∧ Own w' w.heap.size v l ∧ Below w.heap.size w w'
def GotBool (w : World) (b : Bool) (e : Ending) (w' : World) : Prop := e = .returned (.bool b) ∧ Below w.heap.size w w'

theorem take_more {l l' : List UInt8} {k : Nat} (h : l.take k = l'.take k) (h1 : k < l.length) (h2 : k < l'.length) (he : l[k] = l'[k]) : l.take (k + 1) = l'.take (k + 1) := by
  rw [List.take_succ_eq_append_getElem h1, List.take_succ_eq_append_getElem h2, h, he]


/- The statements' helpers -/

set_option maxHeartbeats 400000 in
set_option maxRecDepth 20000 in
theorem copy_any (A : Option Addr) (n c : Nat) (l : List UInt8) (w : World) (hl : l.length = n) (hr : Rd w A l) (hn : n ≤ 200000000000000) :
    Calls Try.prog 11 #[.slice A n c] w (GotBytes w l) := by
  go_enter Try.func11, Try.ntmps11
  go_wp2_with (at_builtin; refine wpList_append_bytes _ rfl _ _ rfl w.heap.size _ [] rfl (Own.nil _ _) A n c l rfl hl hr (by simp; omega) (Nat.le_refl _) ?_)
  intro v' w' ho hg _
  go_wp2
  go_ret
  exact ⟨_, rfl, by simpa using ho, bl_grown (Below.refl _ _) hg (by simp [Value.ownBlock])⟩

set_option maxHeartbeats 400000 in
set_option maxRecDepth 20000 in
theorem eq_any (A A' : Option Addr) (n c n' c' : Nat) (l l' : List UInt8) (w : World) (hl : l.length = n) (hl' : l'.length = n') (hr : Rd w A l) (hr' : Rd w A' l') (hn : n ≤ maxLen) (hn' : n' ≤ maxLen) :
    Calls Try.prog 16 #[.slice A n c, .slice A' n' c'] w (GotBool w (decide (l = l'))) := by
  unfold maxLen at hn hn'
  by_cases hne : n = n'
  · subst hne
    have hb : ((n : Int) != (n : Int)) = false := by simp
    go_enter Try.func16, Try.ntmps16
    go_wp2
    go_loopw [5] (fun i wr => ∃ k : Nat, k ≤ n ∧ i = .int .i64 k ∧ l.take k = l'.take k ∧ Below w.heap.size w wr) (fun i _ => n - (intOf i).toNat)
    case atStart => exact ⟨0, Nat.zero_le _, rfl, by simp, Below.refl _ _⟩
    case round =>
      obtain ⟨k, hk, rfl, hp, hbl⟩ := hrel
      have HP := Lib.hid hp
      have HL := Lib.hid hl
      have HL' := Lib.hid hl'
      clear hp hl hl'
      by_cases hlt : k < n
      · have h1 : k < l.length := by have := HL.out; omega
        have h2 : k < l'.length := by have := HL'.out; omega
        obtain ⟨ad, rfl, hc⟩ := (hr.below hbl).cell h1
        obtain ⟨ad', rfl, hc'⟩ := (hr'.below hbl).cell h2
        clear hr hr'
        go_wp2
        by_cases hx : l[k] = l'[k]
        · have hb : ((l[k].toNat : Int) != (l'[k].toNat : Int)) = false := by simp [hx]
          have HX := Lib.hid hx
          clear hx
          go_quiet (fail)
          go_wp2
          exact ⟨⟨k + 1, by omega, by go_num, take_more HP.out h1 h2 HX.out, bl_drewN hbl _⟩, by simp [intOf]; omega⟩
        · have hb : ((l[k].toNat : Int) != (l'[k].toNat : Int)) = true := by
            simp only [bne_iff_ne, ne_eq]
            intro h
            exact hx (UInt8.toNat_inj.1 (by omega))
          have HX := Lib.hid hx
          clear hx
          go_quiet (fail)
          go_wp2
          go_ret
          refine ⟨?_, bl_drewN hbl _⟩
          have : l ≠ l' := fun h => HX.out (by subst h; rfl)
          simp [this]
      · go_wp2
        go_ret
        refine ⟨?_, hbl⟩
        have h := HP.out
        rw [List.take_of_length_le (by have := HL.out; omega), List.take_of_length_le (by have := HL'.out; omega)] at h
        simp [h]
  · have hb : ((n : Int) != (n' : Int)) = true := by simp; omega
    have HN := Lib.hid hne
    clear hne
    go_enter Try.func16, Try.ntmps16
    go_wp2
    go_ret
    refine ⟨?_, Below.refl _ _⟩
    have : l ≠ l' := fun h => HN.out (by subst h; omega)
    simp [this]

set_option maxHeartbeats 1000000 in
set_option maxRecDepth 20000 in
theorem bring_any (i : Int) (n : Nat) (w : World) (h1 : -9223372036854775808 ≤ i) (h2 : i ≤ 9223372036854775807) (hn : 0 < n) (hn2 : n ≤ 9223372036854775807) :
    Calls Try.prog 18 #[.int .i64 i, .int .i64 n] w fun e w' => e = .returned (.int .i64 (i % n)) ∧ w = w' := by
  by_cases hi : 0 ≤ i
  · have hm0 : 0 ≤ i % (n : Int) := Int.emod_nonneg _ (by omega)
    go_enter Try.func18, Try.ntmps18
    go_wp2_with fail
    go_ret
    exact ⟨rfl, rfl⟩
  · have hneg : i.tmod n = -((-i) % (n : Int)) := by
      have e := Int.neg_tmod (a := -i) (b := (n : Int))
      rw [Int.neg_neg] at e
      rw [e, Int.tmod_eq_emod_of_nonneg (a := -i) (by omega)]
    have g1 : 0 ≤ (-i) % (n : Int) := Int.emod_nonneg _ (by omega)
    have g2 : (-i) % (n : Int) < n := Int.emod_lt_of_pos _ (by omega)
    have g3 : i % (n : Int) = if (-i) % (n : Int) = 0 then 0 else n - (-i) % (n : Int) := by
      have d := Int.mul_ediv_add_emod (-i) n
      generalize (-i) % (n : Int) = r at *
      generalize (-i) / (n : Int) = q at *
      by_cases hr : r = 0
      · rw [if_pos hr]
        have e : i = (n : Int) * (-q) := by rw [Int.mul_neg]; omega
        rw [e, Int.mul_emod_right]
      · rw [if_neg hr]
        have e : i = (n - r) + (n : Int) * (-q - 1) := by rw [Int.mul_sub, Int.mul_neg, Int.mul_one]; omega
        rw [e, Int.add_mul_emod_self_left]
        exact Int.emod_eq_of_lt (by omega) (by omega)
    have HN := Lib.hid hneg
    have H3 := Lib.hid g3
    clear hneg g3
    by_cases hz : (-i) % (n : Int) = 0
    · have b1 : decide (i.tmod n < 0) = false := by rw [HN.out]; simp; omega
      have HZ := Lib.hid hz
      clear hz
      go_enter Try.func18, Try.ntmps18
      go_wp2_with fail
      go_ret
      refine ⟨?_, rfl⟩
      rw [H3.out, if_pos HZ.out]
      show Ending.returned (Value.int IntKind.i64 (i.tmod n)) = _
      rw [HN.out, HZ.out]; rfl
    · have b1 : decide (i.tmod n < 0) = true := by rw [HN.out]; simp; omega
      have b2 : i.tmod n < 0 := by rw [HN.out]; omega
      have b3 : -(n : Int) < i.tmod n := by rw [HN.out]; omega
      go_enter Try.func18, Try.ntmps18
      go_wp2_with fail
      go_ret
      refine ⟨?_, rfl⟩
      rw [H3.out, if_neg hz]
      show Ending.returned (Value.int IntKind.i64 (i.tmod n + n)) = _
      rw [HN.out]
      congr 2
      omega

/-- 'Bring', the place under a name. -/
theorem bring_nat (i : Int) (n : Nat) (h1 : -9223372036854775808 ≤ i) (h2 : i ≤ 9223372036854775807) (hn : 0 < n) (hn2 : n ≤ 9223372036854775807) :
    ∃ j : Nat, j < n ∧ Hid ((j : Int) = i % n) ∧ Hid (∀ w : World, Calls Try.prog 18 #[.int .i64 i, .int .i64 n] w fun e w' => e = .returned (.int .i64 (j : Int)) ∧ w = w') := by
  have g1 : 0 ≤ i % (n : Int) := Int.emod_nonneg _ (by omega)
  have g2 : i % (n : Int) < n := Int.emod_lt_of_pos _ (by omega)
  refine ⟨(i % (n : Int)).toNat, by omega, Int.toNat_of_nonneg g1, fun w => ?_⟩
  rw [Int.toNat_of_nonneg g1]
  exact bring_any i n w h1 h2 hn hn2

/-- Bytes that a literal laid down, whatever its mark. -/
theorem Rd.litF (w : World) (l : List UInt8) (fr : Nat × Nat) : Rd (w.alloc (.cells (l.map bv).toArray 5 fr)) (some ⟨w.heap.size, 0, none⟩) l := fun h => by
  refine ⟨_, rfl, fun j hj => ?_⟩
  have e : (⟨w.heap.size, 0, none⟩ : Addr).add j = ⟨w.heap.size, j, none⟩ := by unfold Addr.add; split <;> simp_all
  rw [e, cell_of_row _ _ j (l.map bv).toArray 5 fr (heap_alloc_new w _)]
  simp [hj]


set_option maxHeartbeats 400000 in
set_option maxRecDepth 20000 in
theorem behind_any (A A' : Option Addr) (n c n' c' : Nat) (l l' : List UInt8) (w : World) (hl : l.length = n) (hl' : l'.length = n') (hr : Rd w A l) (hr' : Rd w A' l') (hn : n + n' ≤ 200000000000000) :
    Calls Try.prog 20 #[.slice A n c, .slice A' n' c'] w (GotBytes w (l ++ l')) := by
  have HL := Lib.hid hl
  have HL' := Lib.hid hl'
  clear hl hl'
  go_enter Try.func20, Try.ntmps20
  go_wp2_with (at_builtin; refine wpList_append_bytes _ rfl (.tmp 6) (.tmp 7) rfl w.heap.size _ [] rfl (Own.nil _ _) A n c l rfl HL.out hr (by have := HL.out; simp; omega) (Nat.le_refl _) ?_)
  intro v1 w1 ho1 hg1 _
  have hB1 : Below w.heap.size w w1 := bl_grown (Below.refl _ _) hg1 (by simp [Value.ownBlock])
  have hsz := hB1.size
  have ho1 : Own w1 w.heap.size v1 l := ho1
  go_wp2_with (at_builtin; refine wpList_append_bytes _ rfl (.tmp 9) (.tmp 10) rfl w.heap.size _ l rfl ho1 A' n' c' l' rfl HL'.out (hr'.below hB1) (by have := HL.out; have := HL'.out; omega) hsz ?_)
  intro v2 w2 ho2 hg2 _
  go_wp2
  go_ret
  exact ⟨_, rfl, ho2, bl_grown hB1 hg2 (fun k hk => (ho1.lt k hk).1)⟩

/-- A number's bytes, the lowest first. -/
def fourE (x : BitVec 32) : List UInt8 := [lowB x, lowB (x >>> 8), lowB (x >>> 16), lowB (x >>> 24)]
theorem split8 (x : BitVec 32) : BitVec.ofNat 32 (lowB x).toNat ^^^ (x >>> 8) <<< 8 = x := by
  apply BitVec.eq_of_getLsbD_eq
  intro i hi
  rw [BitVec.getLsbD_xor, shl8_bit]
  rcases Nat.lt_or_ge i 8 with h | h
  · rw [low_bit x i h]
    simp [h]
  · rw [byte_bit _ _ h, BitVec.getLsbD_ushiftRight, Nat.add_sub_cancel' h]
    have e1 : decide (i < 32) = true := by simp [hi]
    have e2 : decide (i < 8) = false := by simp; omega
    rw [e1, e2]
    simp
theorem leVal_four (x : BitVec 32) : leVal (fourE x) = x := by
  have h0 : x >>> 32 = 0#32 := by
    apply BitVec.eq_of_getLsbD_eq
    intro i hi
    rw [BitVec.getLsbD_ushiftRight, BitVec.getLsbD_of_ge _ _ (by omega)]
    simp
  have s1 := split8 x
  have s2 := split8 (x >>> 8)
  have s3 := split8 (x >>> 16)
  have s4 := split8 (x >>> 24)
  rw [← BitVec.shiftRight_add] at s2 s3 s4
  rw [h0] at s4
  unfold fourE
  simp only [leVal]
  rw [s4, s3, s2, s1]
theorem four_inj {x y : BitVec 32} (h : fourE x = fourE y) : x = y := by rw [← leVal_four x, h, leVal_four]

theorem bv_low (x : BitVec 32) : Value.int .u8 ((x.toNat : Int) % 256) = bv (lowB x) := by
  unfold bv
  rw [lowB_nat]
  rfl
theorem bv_mid (x : BitVec 32) (k n : Nat) (h : 2 ^ k = n) : Value.int .u8 ((x.toNat : Int) / n % 256) = bv (lowB (x >>> k)) := by
  rw [← bv_low, half32, ← h]
  simp
theorem bv_top (x : BitVec 32) : Value.int .u8 ((x.toNat : Int) / 16777216) = bv (lowB (x >>> 24)) := by
  rw [← bv_low, half32]
  have := x.isLt
  have e : (x.toNat : Int) / 16777216 = (x.toNat : Int) / 2 ^ 24 % 256 := by omega
  rw [e]

set_option maxHeartbeats 400000 in
set_option maxRecDepth 20000 in
theorem four_any (x : BitVec 32) (w : World) : Calls Try.prog 21 #[.int .u32 (x.toNat : Int)] w (GotBytes w (fourE x)) := by
  go_enter Try.func21, Try.ntmps21
  go_wp2
  go_ret
  refine ⟨_, rfl, ?_, bl_alloc (Below.refl _ _) _⟩
  have h := Own.lit (w := w) w.heap.size (fourE x) (Nat.le_refl _) (by simp [fourE, maxLen])
  have e : ((fourE x).map bv).toArray = #[Value.int .u8 ((x.toNat : Int) % 256), Value.int .u8 ((x.toNat : Int) / 256 % 256), Value.int .u8 ((x.toNat : Int) / 65536 % 256), Value.int .u8 ((x.toNat : Int) / 16777216)] := by
    have e1 := bv_mid x 8 256 rfl
    have e2 := bv_mid x 16 65536 rfl
    have e3 := bv_top x
    unfold fourE
    simp only [List.map, ← e3, ← bv_low x]
    rw [← e1, ← e2]
    rfl
  rw [e] at h
  exact h

theorem top_bit (y : BitVec 32) : y.getLsbD 31 = decide (2147483648 ≤ y.toNat) := by
  rw [BitVec.getLsbD, Nat.testBit_eq_decide_div_mod_eq]
  have := y.isLt
  by_cases h : 2147483648 ≤ y.toNat
  · have e : y.toNat / 2 ^ 31 = 1 := by omega
    simp [e, h]
  · have e : y.toNat / 2 ^ 31 = 0 := by omega
    simp [e, h]
theorem top_yes {y : BitVec 32} (h : y.getLsbD 31 = true) : decide ((2147483648 : Int) ≤ (y.toNat : Int)) = true := by
  rw [top_bit] at h
  simp at h ⊢
  omega
theorem top_no {y : BitVec 32} (h : ¬ y.getLsbD 31 = true) : decide ((2147483648 : Int) ≤ (y.toNat : Int)) = false := by
  rw [top_bit] at h
  simp at h ⊢
  omega

theorem up_yes {y : BitVec 32} (h : y.getLsbD 31 = true) : bits .xor .u32 (y.toNat : Int) 3988292384 * 2 % 4294967296 + 1 = ((ust y).toNat : Int) := by
  have e2 : (3988292384 : Int) = (poly.toNat : Int) := by decide
  rw [e2, xor32]
  unfold ust
  rw [if_pos h]
  generalize y ^^^ poly = z
  rw [BitVec.toNat_or, BitVec.toNat_shiftLeft, Nat.shiftLeft_eq]
  have e3 : z.toNat * 2 ^ 1 % 2 ^ 32 = 2 ^ 1 * (z.toNat % 2147483648) := by omega
  have e4 : (1#32).toNat = 1 := rfl
  rw [e3, e4, ← Nat.two_pow_add_eq_or_of_lt (by omega)]
  omega
theorem up_no {y : BitVec 32} (h : ¬ y.getLsbD 31 = true) : (y.toNat : Int) * 2 % 4294967296 = ((ust y).toNat : Int) := by
  unfold ust
  rw [if_neg h, BitVec.toNat_shiftLeft, Nat.shiftLeft_eq]
  omega
theorem unsteps_more {k : Nat} {x y : BitVec 32} (hk : k < 8) (h : ustN (8 - k) x = y) : ustN (8 - (k + 1)) (ust x) = y := by
  have e : 8 - k = (8 - (k + 1)) + 1 := by omega
  rw [e] at h
  exact h

set_option maxHeartbeats 400000 in
set_option maxRecDepth 20000 in
theorem ahead_any (s : BitVec 32) (A : Option Addr) (n c : Nat) (l : List UInt8) (w : World) (hl : l.length = n) (hr : Rd w A l) (hn : n ≤ maxLen) :
    Calls Try.prog 19 #[.int .u32 (s.toNat : Int), .slice A n c] w (Same32 w (aheadE s l)) := by
  unfold maxLen at hn
  have HL := Lib.hid hl
  clear hl
  go_enter Try.func19, Try.ntmps19
  go_wp2
  go_loop [5, 6] (fun s' i => ∃ (k : Nat) (x : BitVec 32), k ≤ n ∧ i = .int .i64 ((k : Int) - 1) ∧ s' = .int .u32 (x.toNat : Int) ∧ Hid (untakeBs (~~~ s) (l.drop k) = x)) (fun _ i => (intOf i + 1).toNat)
  case atStart => exact ⟨n, ~~~ s, Nat.le_refl _, rfl, by rw [not32], by rw [List.drop_of_length_le (by have := HL.out; omega)]; rfl⟩
  case round =>
    obtain ⟨k, x, hk, rfl, rfl, HX⟩ := hrel
    rcases k with _ | k
    · go_wp2
      go_ret
      refine ⟨?_, rfl⟩
      have h := HX.out
      rw [List.drop_zero] at h
      unfold aheadE
      rw [h, ← not32]
      rfl
    · have hk' : k < l.length := by have := HL.out; omega
      obtain ⟨ad, rfl, hc⟩ := hr.cell hk'
      have HC := Lib.hid hc
      clear hr hc
      go_wp2
      go_loop [5, 7] (fun s' i => ∃ (j : Nat) (y : BitVec 32), j ≤ 8 ∧ i = .int .i64 j ∧ s' = .int .u32 (y.toNat : Int) ∧ Hid (ustN (8 - j) y = ustN 8 x)) (fun _ i => 8 - (intOf i).toNat)
      case atStart => exact ⟨0, x, by omega, rfl, rfl, rfl⟩
      case round =>
        obtain ⟨j, y, hj, rfl, rfl, HY⟩ := hrel
        by_cases hlt : j < 8
        · by_cases hm : y.getLsbD 31 = true
          · have hb := top_yes hm
            have HM := Lib.hid hm
            clear hm
            go_wp2
            exact ⟨⟨j + 1, ust y, by omega, by go_num, by rw [up_yes HM.out], unsteps_more hlt HY.out⟩, by simp [intOf]; omega⟩
          · have hb := top_no hm
            have HM := Lib.hid hm
            clear hm
            go_wp2
            exact ⟨⟨j + 1, ust y, by omega, by go_num, by rw [up_no HM.out], unsteps_more hlt HY.out⟩, by simp [intOf]; omega⟩
        · have hc := HC.out
          obtain rfl : j = 8 := by omega
          go_wp2
          refine ⟨⟨k, untakeB x l[k], by omega, rfl, ?_, ?_⟩, by simp [intOf]⟩
          · have hy : y = ustN 8 x := HY.out
            rw [xorbyte, hy]
            rfl
          · rw [List.drop_eq_getElem_cons hk', ← HX.out]
            rfl
end Go.Proofs.Ytobfmlgoelmcpaa
