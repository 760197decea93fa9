/- What the statements' helpers do (Bring, CopyBytes, EqBytes): contracts over the translated program. No condition but that lists can be read. -/
import Derived.Test.YthpcmceomamadaaShaZ
set_option linter.unusedVariables false
namespace Go.Proofs.Ythpcmceomamadaa
open Go.RowKit

set_option maxHeartbeats 1000000 in
set_option maxRecDepth 20000 in
theorem bring_any (i : Int) (n : Nat) (w : World) (h1 : -9223372036854775808 ≤ i) (h2 : i ≤ 9223372036854775807) (hn : 0 < n) (hn2 : n ≤ 9223372036854775807) :
    Calls Try.prog 46 #[.int .i64 i, .int .i64 n] w fun e w' => e = .returned (.int .i64 (i % n)) ∧ w = w' := by
  by_cases hi : 0 ≤ i
  · have hm0 : 0 ≤ i % (n : Int) := Int.emod_nonneg _ (by omega)
    go_enter Try.func46, Try.ntmps46
    go_wp2_with fail
    go_ret
    exact ⟨rfl, rfl⟩
  · have hneg : i.tmod n = -((-i) % (n : Int)) := by
      have e := Int.neg_tmod (a := -i) (b := (n : Int))
      rw [Int.neg_neg] at e
      rw [e, Int.tmod_eq_emod_of_nonneg (a := -i) (by omega)]
    have g1 : 0 ≤ (-i) % (n : Int) := Int.emod_nonneg _ (by omega)
    have g2 : (-i) % (n : Int) < n := Int.emod_lt_of_pos _ (by omega)
    have g3 : i % (n : Int) = if (-i) % (n : Int) = 0 then 0 else n - (-i) % (n : Int) := by
      have d := Int.mul_ediv_add_emod (-i) n
      generalize (-i) % (n : Int) = r at *
      generalize (-i) / (n : Int) = q at *
      by_cases hr : r = 0
      · rw [if_pos hr]
        have e : i = (n : Int) * (-q) := by rw [Int.mul_neg]; omega
        rw [e, Int.mul_emod_right]
      · rw [if_neg hr]
        have e : i = (n - r) + (n : Int) * (-q - 1) := by rw [Int.mul_sub, Int.mul_neg, Int.mul_one]; omega
        rw [e, Int.add_mul_emod_self_left]
        exact Int.emod_eq_of_lt (by omega) (by omega)
    have HN := Lib.hid hneg
    have H3 := Lib.hid g3
    clear hneg g3
    by_cases hz : (-i) % (n : Int) = 0
    · have b1 : decide (i.tmod n < 0) = false := by rw [HN.out]; simp; omega
      have HZ := Lib.hid hz
      clear hz
      go_enter Try.func46, Try.ntmps46
      go_wp2_with fail
      go_ret
      refine ⟨?_, rfl⟩
      rw [H3.out, if_pos HZ.out]
      show Ending.returned (Value.int IntKind.i64 (i.tmod n)) = _
      rw [HN.out, HZ.out]; rfl
    · have b1 : decide (i.tmod n < 0) = true := by rw [HN.out]; simp; omega
      have b2 : i.tmod n < 0 := by rw [HN.out]; omega
      have b3 : -(n : Int) < i.tmod n := by rw [HN.out]; omega
      go_enter Try.func46, Try.ntmps46
      go_wp2_with fail
      go_ret
      refine ⟨?_, rfl⟩
      rw [H3.out, if_neg hz]
      show Ending.returned (Value.int IntKind.i64 (i.tmod n + n)) = _
      rw [HN.out]
      congr 2
      omega

/-- 'Bring', the place under a name. -/
theorem bring_nat (i : Int) (n : Nat) (h1 : -9223372036854775808 ≤ i) (h2 : i ≤ 9223372036854775807) (hn : 0 < n) (hn2 : n ≤ 9223372036854775807) :
    ∃ j : Nat, j < n ∧ Hid ((j : Int) = i % n) ∧ Hid (∀ w : World, Calls Try.prog 46 #[.int .i64 i, .int .i64 n] w fun e w' => e = .returned (.int .i64 (j : Int)) ∧ w = w') := by
  have g1 : 0 ≤ i % (n : Int) := Int.emod_nonneg _ (by omega)
  have g2 : i % (n : Int) < n := Int.emod_lt_of_pos _ (by omega)
  refine ⟨(i % (n : Int)).toNat, by omega, Int.toNat_of_nonneg g1, fun w => ?_⟩
  rw [Int.toNat_of_nonneg g1]
  exact bring_any i n w h1 h2 hn hn2

theorem take_more {l l' : List UInt8} {k : Nat} (h : l.take k = l'.take k) (h1 : k < l.length) (h2 : k < l'.length) (he : l[k] = l'[k]) : l.take (k + 1) = l'.take (k + 1) := by
  rw [List.take_succ_eq_append_getElem h1, List.take_succ_eq_append_getElem h2, h, he]


set_option maxHeartbeats 400000 in
set_option maxRecDepth 20000 in
theorem copy_any (A : Option Addr) (n c : Nat) (l : List UInt8) (w : World) (hl : l.length = n) (hr : Rd w A l) (hn : n ≤ 200000000000000) :
    Calls Try.prog 11 #[.slice A n c] w (GotBytes w l) := by
  go_enter Try.func11, Try.ntmps11
  go_wp2_with (at_builtin; refine wpList_append_bytes _ rfl _ _ rfl w.heap.size _ [] rfl (Own.nil _ _) A n c l rfl hl hr (by simp; omega) (Nat.le_refl _) ?_)
  intro v' w' ho hg _
  go_wp2
  go_ret
  exact ⟨_, rfl, by simpa using ho, bl_grown (Below.refl _ _) hg (by simp [Value.ownBlock])⟩

set_option maxHeartbeats 400000 in
set_option maxRecDepth 20000 in
theorem eq_any (A A' : Option Addr) (n c n' c' : Nat) (l l' : List UInt8) (w : World) (hl : l.length = n) (hl' : l'.length = n') (hr : Rd w A l) (hr' : Rd w A' l') (hn : n ≤ maxLen) (hn' : n' ≤ maxLen) :
    Calls Try.prog 12 #[.slice A n c, .slice A' n' c'] w (GotBool w (decide (l = l'))) := by
  unfold maxLen at hn hn'
  by_cases hne : n = n'
  · subst hne
    have hb : ((n : Int) != (n : Int)) = false := by simp
    go_enter Try.func12, Try.ntmps12
    go_wp2
    go_loopw [5] (fun i wr => ∃ k : Nat, k ≤ n ∧ i = .int .i64 k ∧ l.take k = l'.take k ∧ Below w.heap.size w wr) (fun i _ => n - (intOf i).toNat)
    case atStart => exact ⟨0, Nat.zero_le _, rfl, by simp, Below.refl _ _⟩
    case round =>
      obtain ⟨k, hk, rfl, hp, hbl⟩ := hrel
      have HP := Lib.hid hp
      have HL := Lib.hid hl
      have HL' := Lib.hid hl'
      clear hp hl hl'
      by_cases hlt : k < n
      · have h1 : k < l.length := by have := HL.out; omega
        have h2 : k < l'.length := by have := HL'.out; omega
        obtain ⟨ad, rfl, hc⟩ := (hr.below hbl).cell h1
        obtain ⟨ad', rfl, hc'⟩ := (hr'.below hbl).cell h2
        clear hr hr'
        go_wp2
        by_cases hx : l[k] = l'[k]
        · have hb : ((l[k].toNat : Int) != (l'[k].toNat : Int)) = false := by simp [hx]
          have HX := Lib.hid hx
          clear hx
          go_quiet (fail)
          go_wp2
          exact ⟨⟨k + 1, by omega, by go_num, take_more HP.out h1 h2 HX.out, bl_drewN hbl _⟩, by simp [intOf]; omega⟩
        · have hb : ((l[k].toNat : Int) != (l'[k].toNat : Int)) = true := by
            simp only [bne_iff_ne, ne_eq]
            intro h
            exact hx (UInt8.toNat_inj.1 (by omega))
          have HX := Lib.hid hx
          clear hx
          go_quiet (fail)
          go_wp2
          go_ret
          refine ⟨?_, bl_drewN hbl _⟩
          have : l ≠ l' := fun h => HX.out (by subst h; rfl)
          simp [this]
      · go_wp2
        go_ret
        refine ⟨?_, hbl⟩
        have h := HP.out
        rw [List.take_of_length_le (by have := HL.out; omega), List.take_of_length_le (by have := HL'.out; omega)] at h
        simp [h]
  · have hb : ((n : Int) != (n' : Int)) = true := by simp; omega
    have HN := Lib.hid hne
    clear hne
    go_enter Try.func12, Try.ntmps12
    go_wp2
    go_ret
    refine ⟨?_, Below.refl _ _⟩
    have : l ≠ l' := fun h => HN.out (by subst h; omega)
    simp [this]


/-- 'b[:min(len(b), m)]'. -/
theorem min_lit (m k : Nat) (z : Int) (hz : (k : Int) = z) : ∃ j : Nat, Hid (j = min m k) ∧ j ≤ m ∧ j ≤ k ∧ ∀ (ts : Array TypeId) (t : TypeId) (W : World), (Builtin.min_ ts t #[.int .i64 (m : Int), .int .i64 z]).run Try.prog W = .ok (.int .i64 (j : Int)) W := by
  subst hz
  refine ⟨min m k, rfl, by omega, by omega, fun ts t W => ?_⟩
  rw [run_min_int2]
  have e : (if (k : Int) < m then (k : Int) else m) = ((min m k : Nat) : Int) := by split <;> omega
  rw [e]

end Go.Proofs.Ythpcmceomamadaa
