/- The document's four, Size: contracts over the translated program. -/
import Derived.Test.YtlblcligjelbgaaPackI
set_option linter.unusedVariables false
namespace Go.Proofs.Ytlblcligjelbgaa
open Go.RowKit

set_option maxHeartbeats 400000 in
set_option maxRecDepth 20000 in
theorem refFour_any (x : BitVec 32) (w : World) : Calls Try.prog 34 #[.int .i64 (x.toNat : Int)] w (GotBytes w (fourE x)) := by
  have hx := x.isLt
  go_enter Try.func34, Try.ntmps34
  go_wp2
  go_ret
  refine ⟨_, rfl, ?_, bl_alloc (Below.refl _ _) _⟩
  have h := Own.lit (w := w) w.heap.size (fourE x) (Nat.le_refl _) (by simp [fourE, maxLen])
  have e : ((fourE x).map bv).toArray = #[Value.int .u8 ((x.toNat : Int) % 256), Value.int .u8 ((x.toNat : Int) / 256 % 256), Value.int .u8 ((x.toNat : Int) / 65536 % 256), Value.int .u8 ((x.toNat : Int) / 16777216)] := by
    have e1 := bv_mid x 8 256 rfl
    have e2 := bv_mid x 16 65536 rfl
    have e3 := bv_top x
    unfold fourE
    simp only [List.map, ← e3, ← bv_low x]
    rw [← e1, ← e2]
    rfl
  rw [e] at h
  exact h

theorem leN_at {l : List UInt8} (h : 6 ≤ l.length) : leN ((l.drop 2).take 4) = l[2].toNat + l[3].toNat * 256 + l[4].toNat * 65536 + l[5].toNat * 16777216 := by
  match l, h with
  | a :: b :: c :: d :: e :: f :: r, _ =>
    simp only [List.drop_succ_cons, List.drop_zero, List.take_succ_cons, List.take_zero, leN, List.getElem_cons_succ, List.getElem_cons_zero]
    omega

theorem mark_two {l : List UInt8} (h0 : 0 < l.length → l.getD 0 0 = 73) (h1 : 1 < l.length → l.getD 1 0 = 80) : l.take 2 = ([73, 80] : List UInt8).take l.length := by
  match l, h0, h1 with
  | [], _, _ => rfl
  | [a], h0, _ => have := h0 (by simp); simp at this; subst this; rfl
  | a :: b :: r, h0, h1 =>
    have e0 := h0 (by simp)
    have e1 := h1 (by simp)
    simp at e0 e1
    subst e0 e1
    simp

set_option maxHeartbeats 1000000 in
set_option maxRecDepth 20000 in
theorem refSize_any (A : Option Addr) (n c : Nat) (l : List UInt8) (w : World) (hl : l.length = n) (hr : Rd w A l) (hnc : n ≤ c) (hc : c ≤ maxLen) :
    Calls Try.prog 22 #[.slice A n c] w (GotSz w (sizeE l).1 (sizeE l).2) := by
  unfold maxLen at hc
  have HS : Hid (sizeE l = _) := Lib.hid (sizeE.eq_1 l)
  rw [hl] at HS
  have HL := Lib.hid hl
  clear hl
  by_cases hn0 : n = 0
  · subst hn0
    have hz : sizeE l = (0, 3) := by
      have : l = [] := List.eq_nil_of_length_eq_zero HL.out
      rw [this]; rfl
    have HZ := Lib.hid hz
    clear hz
    go_enter Try.func22, Try.ntmps22
    go_wp2_with fail
    go_ret2
    rw [HZ.out]
    exact ⟨rfl, Below.refl _ _⟩
  have k0 : 0 < l.length := by have := HL.out; omega
  obtain ⟨ad, rfl, hcell⟩ := hr.cell k0
  have hc0 : w.cell? ad = some (.int .u8 (l[0].toNat : Int)) := by simpa [Addr.add] using hcell
  have hbn0 : decide ((0 : Int) < (n : Int)) = true := by simp; omega
  clear hcell
  by_cases hx : l[0] = 73
  · have hb : ((l[0].toNat : Int) != 73) = false := by rw [hx]; rfl
    have hb' : (l[0].toNat : Int) = 73 := by rw [hx]; rfl
    have HX := Lib.hid hx
    clear hx
    by_cases hn1 : n = 1
    · subst hn1
      have hm := mark_two (l := l) (fun _ => by rw [getD_of k0]; exact HX.out) (fun h => by have := HL.out; omega)
      rw [HL.out] at hm
      rw [if_neg (by rw [hm]; simp), if_pos (by omega)] at HS
      clear hm
      go_enter Try.func22, Try.ntmps22
      go_wp2_with fail
      go_ret2
      rw [HS.out]
      exact ⟨rfl, Below.refl _ _⟩
    have k1 : 1 < l.length := by have := HL.out; omega
    have hc1 : w.cell? ⟨ad.block, ad.off + 1, none⟩ = some (.int .u8 (l[1].toNat : Int)) := by
      obtain ⟨ad', e, h⟩ := hr.cell k1
      cases e
      simpa [Addr.add] using h
    have hbn1 : decide ((1 : Int) < (n : Int)) = true := by simp; omega
    by_cases hy : l[1] = 80
    · have hb1 : ((l[1].toNat : Int) != 80) = false := by rw [hy]; rfl
      have hb1' : (l[1].toNat : Int) = 80 := by rw [hy]; rfl
      have HY := Lib.hid hy
      clear hy
      have hm := mark_two (l := l) (fun _ => by rw [getD_of k0]; exact HX.out) (fun h => by rw [getD_of k1]; exact HY.out)
      rw [HL.out] at hm
      rw [if_neg (by rw [hm]; simp)] at HS
      clear hm
      by_cases h6 : n < 6
      · rw [if_pos h6] at HS
        go_enter Try.func22, Try.ntmps22
        go_wp2_with fail
        go_ret2
        rw [HS.out]
        exact ⟨rfl, Below.refl _ _⟩
      · rw [if_neg h6] at HS
        have hle : 6 ≤ l.length := by have := HL.out; omega
        have HN := Lib.hid (leN_at hle)
        rw [HN.out] at HS
        have cells : ∀ j (h : j < l.length), 0 < j → w.cell? ⟨ad.block, ad.off + j, none⟩ = some (.int .u8 (l[j].toNat : Int)) := fun j h h0 => by
          obtain ⟨ad', e, h'⟩ := hr.cell h
          cases e
          simpa [Addr.add, show ¬ j = 0 by omega] using h'
        have e2 := cells 2 (by omega) (by omega)
        have e3 := cells 3 (by omega) (by omega)
        have e4 := cells 4 (by omega) (by omega)
        have e5 := cells 5 (by omega) (by omega)
        have u2 := l[2].toNat_lt
        have u3 := l[3].toNat_lt
        have u4 := l[4].toNat_lt
        have u5 := l[5].toNat_lt
        clear cells hr HN
        generalize l[2].toNat = x2 at *
        generalize l[3].toNat = x3 at *
        generalize l[4].toNat = x4 at *
        generalize l[5].toNat = x5 at *
        go_enter Try.func22, Try.ntmps22
        go_wp2_with fail
        go_quiet (fail)
        have hzE : (x2 : Int) + (x3 : Int) * 256 + (x4 : Int) * 65536 + (x5 : Int) * 16777216 = ((x2 + x3 * 256 + x4 * 65536 + x5 * 16777216 : Nat) : Int) := by omega
        have hzl : x2 + x3 * 256 + x4 * 65536 + x5 * 16777216 < 4294967296 := by omega
        rw [hzE]
        clear hzE
        generalize x2 + x3 * 256 + x4 * 65536 + x5 * 16777216 = z at *
        by_cases h5 : 262144 < z
        · rw [if_pos h5] at HS
          go_wp2_with fail
          go_ret2
          rw [HS.out]
          exact ⟨rfl, bl_drewN (Below.refl _ _) _⟩
        · rw [if_neg h5] at HS
          by_cases h11 : z < 11
          · rw [if_pos h11] at HS
            go_wp2_with fail
            go_ret2
            rw [HS.out]
            exact ⟨rfl, bl_drewN (Below.refl _ _) _⟩
          · rw [if_neg h11] at HS
            go_wp2_with fail
            go_ret2
            rw [HS.out]
            exact ⟨rfl, bl_drewN (Below.refl _ _) _⟩
    · have hb1 : ((l[1].toNat : Int) != 80) = true := by simpa using ne_byte hy 80 rfl
      have hb1' : ¬ (l[1].toNat : Int) = 80 := ne_byte hy 80 rfl
      rw [← HL.out, if_pos (mark_ne k1 (by omega) hy)] at HS
      clear hy
      go_enter Try.func22, Try.ntmps22
      go_wp2_with fail
      go_ret2
      rw [HS.out]
      exact ⟨rfl, Below.refl _ _⟩
  · have hb1 : ((l[0].toNat : Int) != 73) = true := by simpa using ne_byte hx 73 rfl
    have hb1' : ¬ (l[0].toNat : Int) = 73 := ne_byte hx 73 rfl
    rw [← HL.out, if_pos (mark_ne k0 (by omega) hx)] at HS
    clear hx
    go_enter Try.func22, Try.ntmps22
    go_wp2_with fail
    go_ret2
    rw [HS.out]
    exact ⟨rfl, Below.refl _ _⟩


end Go.Proofs.Ytlblcligjelbgaa
