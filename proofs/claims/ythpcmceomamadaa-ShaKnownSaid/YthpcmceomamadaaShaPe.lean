/- The document's eight and Pad. No condition but that the bytes can be read, and are 5000 at most. -/
import Derived.Test.YthpcmceomamadaaShaPr
import Derived.Test.YthpcmceomamadaaShaPm
set_option linter.unusedVariables false
set_option linter.unusedSimpArgs false
namespace Go.Proofs.Ythpcmceomamadaa
open Go.RowKit

set_option maxHeartbeats 1000000 in
set_option maxRecDepth 100000 in
theorem eight_any (n : Nat) (hn : n ≤ 1000000) (w : World) : Calls Try.prog 32 #[.int .i64 (n : Int)] w (GotBytes w (eightL n 8)) := by
  go_enter Try.func32, Try.ntmps32
  go_wp2
  go_loopw [3, 4] (fun v i wr => ∃ k j : Nat, k + j = 8 ∧ i = .int .i64 ((k : Int) - 1) ∧ Hid (Own wr w.heap.size v (eightL n j)) ∧ Hid (Below w.heap.size w wr)) (fun _ i _ => (intOf i + 1).toNat)
  case atStart => exact ⟨8, 0, rfl, rfl, Own.nil _ _, Below.refl _ _⟩
  case round =>
    obtain ⟨k, j, hkj, rfl, HO, HB⟩ := hrel
    rcases k with _ | k
    · have e0 : ((0 : Nat) : Int) - 1 = -1 := by omega
      rw [e0]
      clear e0
      obtain rfl : j = 8 := by omega
      go_wp2
      go_ret
      exact ⟨_, rfl, HO.out, HB.out⟩
    · have ek : ((k + 1 : Nat) : Int) - 1 = (k : Int) := by omega
      rw [ek]
      clear ek
      obtain ⟨t, ht⟩ : ∃ t, 8 * k = t := ⟨_, rfl⟩
      have et : 8 * (k : Int) = (t : Int) := by omega
      have ht64 : t < 64 := by omega
      obtain ⟨x, hx⟩ : ∃ x, UInt8.ofNat (n / 2 ^ t) = x := ⟨_, rfl⟩
      have hv : ((n : Int) / 2 ^ t) % 256 = (x.toNat : Int) := by
        rw [← hx, UInt8.toNat_ofNat']
        simp
      have hL : eightL n (j + 1) = eightL n j ++ [x] := by rw [eightL_step n j k (by omega), ht, hx]
      have HL := Lib.hid hL
      have hsz : w.heap.size ≤ wr.heap.size := HB.out.size
      obtain ⟨A, m, c, rfl, HLm, _, _, _⟩ := HO.out.form
      have hm8 : m ≤ 8 := by rw [← HLm.out, eightL_len]; omega
      have HD := Lib.hid (bl_alloc (Below.refl wr.heap.size wr) (.cells #[.int .u8 (x.toNat : Int)] 5))
      have HO2 := Lib.hid (HO.out.below HD.out)
      have HLit : Hid (Rd (wr.alloc (.cells #[.int .u8 (x.toNat : Int)] 5)) (some ⟨wr.heap.size, 0, none⟩) [x]) := Lib.hid (Rd.litF wr [x] (0, 0))
      have HN : Hid ((eightL n j).length + [x].length ≤ 200000000000000) := by show _ ≤ _; rw [HLm.out]; simp; omega
      have HS : Hid (w.heap.size ≤ (wr.alloc (.cells #[.int .u8 (x.toNat : Int)] 5)).heap.size) := by show _ ≤ _; simp; omega
      clear ht hx hL
      go_wp2_with (refine wpList_append_bytes _ (by rfl) _ _ rfl w.heap.size _ (eightL n j) rfl HO2.out _ 1 1 [x] rfl rfl HLit.out HN.out HS.out ?_)
      intro v2 w2 ho2 hg2 _
      clear et hv
      go_wp2_with fail
      refine ⟨⟨k, j + 1, by omega, by go_num, ?_, Lib.hid (bl_grown (bl_trans HB.out HD.out) hg2 (fun q hq => (HO.out.lt q hq).1))⟩, by simp [intOf]⟩
      rw [HL.out]
      exact Lib.hid ho2

/-- A slice of the call's own, onto which a byte was put. -/
theorem lit_byte (w : World) (x : UInt8) : Rd (w.alloc (.cells #[.int .u8 (x.toNat : Int)] 5)) (some ⟨w.heap.size, 0, none⟩) [x] := Rd.litF w [x] (0, 0)

theorem lit_128 (w : World) : Rd (w.alloc (.cells #[.int .u8 128] 5)) (some ⟨w.heap.size, 0, none⟩) [128] := lit_byte w 128
theorem lit_0 (w : World) : Rd (w.alloc (.cells #[.int .u8 0] 5)) (some ⟨w.heap.size, 0, none⟩) [0] := lit_byte w 0

set_option maxHeartbeats 1000000 in
set_option maxRecDepth 100000 in
theorem refPad_any (A : Option Addr) (n c : Nat) (l : List UInt8) (w : World) (hl : l.length = n) (hr : Rd w A l) (hn : n ≤ 5000) :
    Calls Try.prog 14 #[.slice A n c] w (GotBytes w (padE l)) := by
  obtain ⟨N, hN⟩ : ∃ N, padN n = N := ⟨_, rfl⟩
  obtain ⟨r1, r2, r3⟩ := padN_room n
  rw [hN] at r1 r2 r3
  have HL := Lib.hid hl
  have HR := Lib.hid hr
  have HN := Lib.hid hN
  have HO0 := Lib.hid (Own.nil w w.heap.size)
  have hl1 : Hid (([] : List UInt8).length + l.length ≤ 200000000000000) := by show _ ≤ _; rw [hl]; simp; omega
  clear hl hr hN
  go_enter Try.func14, Try.ntmps14
  go_wp2_with (refine wpList_append_bytes _ (by rfl) _ _ rfl w.heap.size _ [] rfl HO0.out _ n c l rfl HL.out HR.out hl1.out (Nat.le_refl _) ?_)
  intro v1 w1 ho1 hg1 _
  obtain ⟨A1, m1, c1, rfl, HL1, _, _, _⟩ := ho1.form
  have HB1 := Lib.hid (bl_grown (Below.refl w.heap.size w) hg1 (fun q hq => by cases hq))
  have HD1 := Lib.hid (bl_alloc (Below.refl w1.heap.size w1) (.cells #[.int .u8 128] 5))
  have HO1 := Lib.hid (ho1.below HD1.out)
  have HP1 := Lib.hid (fun q hq => (ho1.lt q hq).1)
  have HK1 := Lib.hid (lit_128 w1)
  have hs1 : w.heap.size ≤ w1.heap.size := HB1.out.size
  have hl2 : Hid (l.length + [(128 : UInt8)].length ≤ 200000000000000) := by show _ ≤ _; simp; have := HL.out; omega
  have hs2 : Hid (w.heap.size ≤ (w1.alloc (.cells #[.int .u8 128] 5)).heap.size) := by show _ ≤ _; simp; omega
  clear ho1 hg1
  go_wp2_with (refine wpList_append_bytes _ (by rfl) _ _ rfl w.heap.size _ l rfl HO1.out _ 1 1 [128] rfl rfl HK1.out hl2.out hs2.out ?_)
  intro v2 w2 ho2 hg2 _
  have HB2 := Lib.hid (bl_grown (bl_trans HB1.out HD1.out) hg2 HP1.out)
  have HO2 : Hid (Own w2 w.heap.size v2 (padZ l 0)) := by
    have h : padZ l 0 = l ++ [128] := by simp [padZ, nulL]
    show Own _ _ _ _
    rw [h]
    exact ho2
  clear ho2 hg2 HB1 HD1 HO1 HP1 HK1 hl1 hl2 hs2 hs1 HL1
  go_wp2_with fail
  go_loopw [3] (fun v wr => ∃ z : Nat, n + 9 + z ≤ N ∧ Hid (Own wr w.heap.size v (padZ l z)) ∧ Hid (Below w.heap.size w wr)) (fun v _ => N - (match v with | .slice _ m _ => m | _ => 0))
  case atStart => exact ⟨0, by omega, HO2, HB2⟩
  case round =>
    clear HO2 HB2
    obtain ⟨z, hz, HO, HB⟩ := hrel
    obtain ⟨A1, m, c1, rfl, HLm, _, _, HRd⟩ := HO.out.form
    have hm : m = n + 1 + z := by rw [← HLm.out, padZ_len, HL.out]
    have hfull := pad_full n z N HN.out hz
    obtain ⟨r, hr⟩ : ∃ r, m % 64 = r := ⟨_, rfl⟩
    have er : (m : Int) % 64 = (r : Int) := by omega
    have er2 : (m : Int).tmod 64 = (r : Int) := by rw [Int.tmod_eq_emod_of_nonneg (by omega)]; exact er
    have hm2 : m ≤ 6000 := by omega
    have HM := Lib.hid hm
    have hsz : w.heap.size ≤ wr.heap.size := HB.out.size
    by_cases h56 : r = 56
    · have hend : n + 9 + z = N := hfull.1 (by omega)
      have HE := Lib.hid hend
      have hw8 : 8 * (n : Int) = ((8 * n : Nat) : Int) := by omega
      have HC8 := Lib.hid (fun W => eight_any (8 * n) (by omega) W)
      generalize h8 : 8 * n = n8 at *
      have HN8 := Lib.hid h8
      subst h56
      clear hfull hr hm hend h8
      go_wp2_with fail
      (with_reducible refine (HC8.out _).mono ?_)
      rintro e w3 ⟨v3, rfl, ho3, hb3⟩
      obtain ⟨A3, m3, c3, rfl, HL3, _, _, hr3⟩ := ho3.form
      have h38 : m3 = 8 := by rw [← HL3.out, eightL_len]
      have HO4 := Lib.hid (HO.out.below hb3)
      have HR4 := Lib.hid hr3
      have HB4 := Lib.hid (bl_trans HB.out hb3)
      have hl4 : Hid ((padZ l z).length + (eightL n8 8).length ≤ 200000000000000) := by show _ ≤ _; rw [HLm.out, eightL_len]; omega
      have hs4 : Hid (w.heap.size ≤ w3.heap.size) := Lib.hid HB4.out.size
      clear ho3 hb3 hr3 er er2 hw8 h38
      go_wp2_with (refine wpList_append_bytes _ (by rfl) _ _ rfl w.heap.size _ (padZ l z) rfl HO4.out _ m3 c3 (eightL n8 8) rfl HL3.out HR4.out hl4.out hs4.out ?_)
      intro v5 w5 ho5 hg5 _
      have HO5 := Lib.hid ho5
      have HB5 := Lib.hid (bl_grown HB4.out hg5 (fun q hq => (HO4.out.lt q hq).1))
      clear ho5 hg5
      go_wp2_with fail
      go_ret
      refine ⟨_, rfl, ?_, HB5.out⟩
      have hw := pad_whole l z (by rw [HL.out, HN.out]; exact HE.out)
      rw [← hw, HL.out, HN8.out]
      exact HO5.out
    · have hlt : n + 9 + (z + 1) ≤ N := by
        have : ¬ n + 9 + z = N := fun h => h56 (by have := hfull.2 h; omega)
        omega
      have hb : ((r : Int) != 56) = true := by simp; omega
      have HD := Lib.hid (bl_alloc (Below.refl wr.heap.size wr) (.cells #[.int .u8 0] 5))
      have HO2 := Lib.hid (HO.out.below HD.out)
      have HLit := Lib.hid (lit_0 wr)
      have hl4 : Hid ((padZ l z).length + [(0 : UInt8)].length ≤ 200000000000000) := by show _ ≤ _; rw [HLm.out]; simp; omega
      have hs4 : Hid (w.heap.size ≤ (wr.alloc (.cells #[.int .u8 0] 5)).heap.size) := by show _ ≤ _; simp; omega
      clear hfull hr hm h56
      go_wp2_with (refine wpList_append_bytes _ (by rfl) _ _ rfl w.heap.size _ (padZ l z) rfl HO2.out _ 1 1 [0] rfl rfl HLit.out hl4.out hs4.out ?_)
      intro v2 w2 ho2 hg2 _
      clear er er2 hb
      have hz' := padZ_step l z
      rw [← hz'] at ho2
      obtain ⟨A6, m6, c6, rfl, HL6, _, _, _⟩ := ho2.form
      have h6 : m6 = m + 1 := by rw [← HL6.out, hz', List.length_append, HLm.out]; rfl
      have HO6 := Lib.hid ho2
      have HB6 := Lib.hid (bl_grown (bl_trans HB.out HD.out) hg2 (fun q hq => (HO.out.lt q hq).1))
      have H6 := Lib.hid h6
      clear ho2 hg2 h6 hz'
      go_wp2_with fail
      refine ⟨⟨z + 1, hlt, HO6, HB6⟩, ?_⟩
      have := H6.out
      have := HM.out
      simp only []
      omega

end Go.Proofs.Ythpcmceomamadaa
