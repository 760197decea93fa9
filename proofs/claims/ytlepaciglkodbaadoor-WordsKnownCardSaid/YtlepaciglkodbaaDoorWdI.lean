/- Words of the grammar language: the laws' helpers. No condition. -/
import Derived.Test.YtlepaciglkodbaaDoorWdH
set_option linter.unusedVariables false
set_option linter.unusedSimpArgs false
namespace Go.Proofs.YtlepaciglkodbaaDoor
open Go.RowKit

def GotBytes (w : World) (l : List UInt8) (e : Ending) (w' : World) : Prop := ∃ v, e = .returned v ∧ Own w' w.heap.size v l ∧ Below w.heap.size w w'
theorem take_more {α : Type} {l l' : List α} {k : Nat} (h : l.take k = l'.take k) (h1 : k < l.length) (h2 : k < l'.length) (hx : l[k] = l'[k]) : l.take (k + 1) = l'.take (k + 1) := by
  rw [List.take_succ_eq_append_getElem h1, List.take_succ_eq_append_getElem h2, h, hx]

set_option maxHeartbeats 400000 in
set_option maxRecDepth 20000 in
theorem copy_any (A : Option Addr) (n c : Nat) (l : List UInt8) (w : World) (hl : l.length = n) (hr : Rd w A l) (hn : n ≤ 200000000000000) :
    Calls Tryd.prog 10 #[.slice A n c] w (GotBytes w l) := by
  go_enter Tryd.func10, Tryd.ntmps10
  go_wp2_with (at_builtin; refine wpList_append_bytes _ rfl _ _ rfl w.heap.size _ [] rfl (Own.nil _ _) A n c l rfl hl hr (by simp; omega) (Nat.le_refl _) ?_)
  intro v' w' ho hg _
  go_wp2
  go_ret
  exact ⟨_, rfl, by simpa using ho, bl_grown (Below.refl _ _) hg (by simp [Value.ownBlock])⟩

set_option maxHeartbeats 400000 in
set_option maxRecDepth 20000 in
theorem eq_any (A A' : Option Addr) (n c n' c' : Nat) (l l' : List UInt8) (w : World) (hl : l.length = n) (hl' : l'.length = n') (hr : Rd w A l) (hr' : Rd w A' l') (hn : n ≤ maxLen) (hn' : n' ≤ maxLen) :
    Calls Tryd.prog 14 #[.slice A n c, .slice A' n' c'] w (GotBool w (decide (l = l'))) := by
  unfold maxLen at hn hn'
  by_cases hne : n = n'
  · subst hne
    have hb : ((n : Int) != (n : Int)) = false := by simp
    go_enter Tryd.func14, Tryd.ntmps14
    go_wp2
    go_loopw [5] (fun i wr => ∃ k : Nat, k ≤ n ∧ i = .int .i64 k ∧ l.take k = l'.take k ∧ Below w.heap.size w wr) (fun i _ => n - (intOf i).toNat)
    case atStart => exact ⟨0, Nat.zero_le _, rfl, by simp, Below.refl _ _⟩
    case round =>
      obtain ⟨k, hk, rfl, hp, hbl⟩ := hrel
      have HP := Lib.hid hp
      have HL := Lib.hid hl
      have HL' := Lib.hid hl'
      clear hp hl hl'
      by_cases hlt : k < n
      · have h1 : k < l.length := by have := HL.out; omega
        have h2 : k < l'.length := by have := HL'.out; omega
        obtain ⟨ad, rfl, hc⟩ := (hr.below hbl).cell h1
        obtain ⟨ad', rfl, hc'⟩ := (hr'.below hbl).cell h2
        clear hr hr'
        go_wp2
        by_cases hx : l[k] = l'[k]
        · have hb : ((l[k].toNat : Int) != (l'[k].toNat : Int)) = false := by simp [hx]
          have HX := Lib.hid hx
          clear hx
          go_quiet (fail)
          go_wp2
          exact ⟨⟨k + 1, by omega, by go_num, take_more HP.out h1 h2 HX.out, bl_drewN hbl _⟩, by simp [intOf]; omega⟩
        · have hb : ((l[k].toNat : Int) != (l'[k].toNat : Int)) = true := by
            simp only [bne_iff_ne, ne_eq]
            intro h
            exact hx (UInt8.toNat_inj.1 (by omega))
          have HX := Lib.hid hx
          clear hx
          go_quiet (fail)
          go_wp2
          go_ret
          refine ⟨?_, bl_drewN hbl _⟩
          have : l ≠ l' := fun h => HX.out (by subst h; rfl)
          simp [this]
      · go_wp2
        go_ret
        refine ⟨?_, hbl⟩
        have h := HP.out
        rw [List.take_of_length_le (by have := HL.out; omega), List.take_of_length_le (by have := HL'.out; omega)] at h
        simp [h]
  · have hb : ((n : Int) != (n' : Int)) = true := by simp; omega
    have HN := Lib.hid hne
    clear hne
    go_enter Tryd.func14, Tryd.ntmps14
    go_wp2
    go_ret
    refine ⟨?_, Below.refl _ _⟩
    have : l ≠ l' := fun h => HN.out (by subst h; omega)
    simp [this]

set_option maxHeartbeats 1000000 in
set_option maxRecDepth 20000 in
theorem bring_any (i : Int) (n : Nat) (w : World) (h1 : -9223372036854775808 ≤ i) (h2 : i ≤ 9223372036854775807) (hn : 0 < n) (hn2 : n ≤ 9223372036854775807) :
    Calls Tryd.prog 25 #[.int .i64 i, .int .i64 n] w fun e w' => e = .returned (.int .i64 (i % n)) ∧ w = w' := by
  by_cases hi : 0 ≤ i
  · have hm0 : 0 ≤ i % (n : Int) := Int.emod_nonneg _ (by omega)
    go_enter Tryd.func25, Tryd.ntmps25
    go_wp2_with fail
    go_ret
    exact ⟨rfl, rfl⟩
  · have hneg : i.tmod n = -((-i) % (n : Int)) := by
      have e := Int.neg_tmod (a := -i) (b := (n : Int))
      rw [Int.neg_neg] at e
      rw [e, Int.tmod_eq_emod_of_nonneg (a := -i) (by omega)]
    have g1 : 0 ≤ (-i) % (n : Int) := Int.emod_nonneg _ (by omega)
    have g2 : (-i) % (n : Int) < n := Int.emod_lt_of_pos _ (by omega)
    have g3 : i % (n : Int) = if (-i) % (n : Int) = 0 then 0 else n - (-i) % (n : Int) := by
      have d := Int.mul_ediv_add_emod (-i) n
      generalize (-i) % (n : Int) = r at *
      generalize (-i) / (n : Int) = q at *
      by_cases hr : r = 0
      · rw [if_pos hr]
        have e : i = (n : Int) * (-q) := by rw [Int.mul_neg]; omega
        rw [e, Int.mul_emod_right]
      · rw [if_neg hr]
        have e : i = (n - r) + (n : Int) * (-q - 1) := by rw [Int.mul_sub, Int.mul_neg, Int.mul_one]; omega
        rw [e, Int.add_mul_emod_self_left]
        exact Int.emod_eq_of_lt (by omega) (by omega)
    have HN := Lib.hid hneg
    have H3 := Lib.hid g3
    clear hneg g3
    by_cases hz : (-i) % (n : Int) = 0
    · have b1 : decide (i.tmod n < 0) = false := by rw [HN.out]; simp; omega
      have HZ := Lib.hid hz
      clear hz
      go_enter Tryd.func25, Tryd.ntmps25
      go_wp2_with fail
      go_ret
      refine ⟨?_, rfl⟩
      rw [H3.out, if_pos HZ.out]
      show Ending.returned (Value.int IntKind.i64 (i.tmod n)) = _
      rw [HN.out, HZ.out]; rfl
    · have b1 : decide (i.tmod n < 0) = true := by rw [HN.out]; simp; omega
      have b2 : i.tmod n < 0 := by rw [HN.out]; omega
      have b3 : -(n : Int) < i.tmod n := by rw [HN.out]; omega
      go_enter Tryd.func25, Tryd.ntmps25
      go_wp2_with fail
      go_ret
      refine ⟨?_, rfl⟩
      rw [H3.out, if_neg hz]
      show Ending.returned (Value.int IntKind.i64 (i.tmod n + n)) = _
      rw [HN.out]
      congr 2
      omega


theorem gap_step (r : Bool) (b : UInt8) (t : List UInt8) (c32 c9 c10 c13 c35 : Bool) (h32 : (b.toNat == 32) = c32) (h9 : (b.toNat == 9) = c9) (h10 : (b.toNat == 10) = c10) (h13 : (b.toNat == 13) = c13) (h35 : (b.toNat == 35) = c35) :
    gapST r (b :: t) = if r = true then gapST (!c10) t else if (c32 || c9 || c10 || c13) = true then gapST false t else if c35 = true then gapST true t else none := by
  have e10 : (b != 10) = !c10 := by
    rw [← h10, bne]
    congr 1
    rw [Bool.eq_iff_iff]
    simp [← UInt8.toNat_inj]
  have e35 : (b = 35) ↔ c35 = true := by
    rw [← h35]
    simp [← UInt8.toNat_inj]
  cases r with
  | true => rw [gapST, e10, if_pos rfl]
  | false =>
    rw [gapST]
    unfold spB
    rw [h32, h9, h10, h13]
    simp only [e35, Bool.false_eq_true, if_false]
theorem excl {n a b : Nat} (hab : a ≠ b) (h : (n == a) = true) : (n == b) = false := by
  simp at h ⊢
  omega
set_option maxRecDepth 20000 in
theorem between_any (A : Option Addr) (n c : Nat) (b : List UInt8) (w : World) (hl : b.length = n) (hr : Rd w A b) (hn : n ≤ maxLen) : Calls Tryd.prog 24 #[.slice A n c] w (GotBool w (gapST false b).isSome) := by
  generalize hQ : GotBool w (gapST false b).isSome = Q
  have HQ := Lib.hid hQ
  have HL := Lib.hid hl
  unfold maxLen at hn
  clear hQ hl
  go_enter Tryd.func24, Tryd.ntmps24
  go_wp2_with fail
  go_loopw [3, 4, 5] (fun v3 v4 _ wr => ∃ (r : Bool) (k : Nat), v3 = .bool r ∧ v4 = .int .i64 (k : Int) ∧ k ≤ n ∧ Hid (gapST false b = gapST r (b.drop k)) ∧ wr = w) (fun _ v4 _ _ => n - (intOf v4).toNat)
  case atStart => exact ⟨false, 0, rfl, rfl, Nat.zero_le _, by unfold Hid; rw [List.drop_zero], rfl⟩
  case round =>
    obtain ⟨r, k, rfl, rfl, hk, HG, rfl⟩ := hrel
    by_cases hlt : k < n
    · have hkb : k < b.length := by rw [HL.out]; exact hlt
      obtain ⟨ad, hA, hc⟩ := hr.cell hkb
      subst hA
      have hd : b.drop k = b[k] :: b.drop (k + 1) := List.drop_eq_getElem_cons hkb
      have bl : decide (k < n) = true := by simp [hlt]
      generalize b[k] = x at *
      obtain ⟨c32, h32⟩ : ∃ y, (x.toNat == 32) = y := ⟨_, rfl⟩
      obtain ⟨c9, h9⟩ : ∃ y, (x.toNat == 9) = y := ⟨_, rfl⟩
      obtain ⟨c10, h10⟩ : ∃ y, (x.toNat == 10) = y := ⟨_, rfl⟩
      obtain ⟨c13, h13⟩ : ∃ y, (x.toNat == 13) = y := ⟨_, rfl⟩
      obtain ⟨c35, h35⟩ : ∃ y, (x.toNat == 35) = y := ⟨_, rfl⟩
      have hst := gap_step r x (b.drop (k + 1)) _ _ _ _ _ h32 h9 h10 h13 h35
      rw [← hd] at hst
      have e10 := eqb _ 10 10 rfl _ h10
      have e35 := eqb _ 35 35 rfl _ h35
      have n32 := bne_of (eqb _ 32 32 rfl _ h32)
      have n9 := bne_of (eqb _ 9 9 rfl _ h9)
      have n10 := bne_of e10
      have n13 := bne_of (eqb _ 13 13 rfl _ h13)
      have x1 : c35 = true → c10 = false ∧ c32 = false ∧ c9 = false ∧ c13 = false := fun h => by
        rw [h] at h35
        exact ⟨h10.symm.trans (excl (by decide) h35), h32.symm.trans (excl (by decide) h35), h9.symm.trans (excl (by decide) h35), h13.symm.trans (excl (by decide) h35)⟩
      have x2 : c10 = true → c32 = false ∧ c9 = false := fun h => by
        rw [h] at h10
        exact ⟨h32.symm.trans (excl (by decide) h10), h9.symm.trans (excl (by decide) h10)⟩
      clear h32 h9 h10 h13 h35 hd hkb
      generalize x.toNat = m at *
      have HR := Lib.hid hr
      clear hr
      cases c35
      case true =>
        obtain ⟨rfl, rfl, rfl, rfl⟩ := x1 rfl
        clear x1 x2
        cases r
        case true =>
          have HS := Lib.hid hst
          clear hst
          go_wp2_with fail
          go_roundw
          case rel => exact ⟨true, k + 1, by first | rfl | trivial, by go_num, by omega, by unfold Hid; rw [HG.out, HS.out]; rfl, by first | rfl | trivial⟩
          case measure => simp [intOf]; omega
        case false =>
          have HS := Lib.hid hst
          clear hst
          go_wp2_with fail
          go_roundw
          case rel => exact ⟨true, k + 1, by first | rfl | trivial, by go_num, by omega, by unfold Hid; rw [HG.out, HS.out]; rfl, by first | rfl | trivial⟩
          case measure => simp [intOf]; omega
      case false =>
        clear x1
        cases c10
        case true =>
          obtain ⟨rfl, rfl⟩ := x2 rfl
          clear x2
          cases r
          case true =>
            have HS := Lib.hid hst
            clear hst
            go_wp2_with fail
            go_roundw
            case rel => exact ⟨false, k + 1, by first | rfl | trivial, by go_num, by omega, by unfold Hid; rw [HG.out, HS.out]; rfl, by first | rfl | trivial⟩
            case measure => simp [intOf]; omega
          case false =>
            have HS := Lib.hid hst
            clear hst
            go_wp2_with fail
            go_roundw
            case rel => exact ⟨false, k + 1, by first | rfl | trivial, by go_num, by omega, by unfold Hid; rw [HG.out, HS.out]; rfl, by first | rfl | trivial⟩
            case measure => simp [intOf]; omega
        case false =>
          clear x2
          cases r
          case true =>
            have HS := Lib.hid hst
            clear hst
            go_wp2_with fail
            go_roundw
            case rel => exact ⟨true, k + 1, by first | rfl | trivial, by go_num, by omega, by unfold Hid; rw [HG.out, HS.out]; rfl, by first | rfl | trivial⟩
            case measure => simp [intOf]; omega
          case false =>
            cases c32
            case true =>
              have HS := Lib.hid hst
              clear hst
              go_wp2_with fail
              go_roundw
              case rel => exact ⟨false, k + 1, by first | rfl | trivial, by go_num, by omega, by unfold Hid; rw [HG.out, HS.out]; rfl, by first | rfl | trivial⟩
              case measure => simp [intOf]; omega
            case false =>
            cases c9
            case true =>
              have HS := Lib.hid hst
              clear hst
              go_wp2_with fail
              go_roundw
              case rel => exact ⟨false, k + 1, by first | rfl | trivial, by go_num, by omega, by unfold Hid; rw [HG.out, HS.out]; rfl, by first | rfl | trivial⟩
              case measure => simp [intOf]; omega
            case false =>
            cases c13
            case true =>
              have HS := Lib.hid hst
              clear hst
              go_wp2_with fail
              go_roundw
              case rel => exact ⟨false, k + 1, by first | rfl | trivial, by go_num, by omega, by unfold Hid; rw [HG.out, HS.out]; rfl, by first | rfl | trivial⟩
              case measure => simp [intOf]; omega
            case false =>
            have HS := Lib.hid hst
            clear hst
            go_wp2_with fail
            exact post_is HQ ⟨by rw [HG.out, HS.out]; rfl, Below.refl _ _⟩
    · have hkn : k = n := by omega
      have hd : b.drop k = [] := List.drop_eq_nil_of_le (by rw [HL.out]; omega)
      have HD := Lib.hid hd
      have bl : decide (k < n) = false := by simp; omega
      clear hd hkn
      go_wp2_with fail
      exact post_is HQ ⟨by rw [HG.out, HD.out]; rfl, Below.refl _ _⟩

end Go.Proofs.YtlepaciglkodbaaDoor
