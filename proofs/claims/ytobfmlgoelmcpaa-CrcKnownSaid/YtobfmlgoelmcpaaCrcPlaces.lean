/- CrcPlaces: for all bytes and every place the law answers true: if two bytes that stand side by side change places, the sum is another one, unless they are the same. No condition. -/
import Derived.Test.YtobfmlgoelmcpaaCrcC
import Derived.Test.YtobfmlgoelmcpaaCrcE
import Derived.Test.YtobfmlgoelmcpaaRow32
import Derived.RegionTactic
import Derived.Deep.RegionHeld3
set_option linter.unusedVariables false
namespace Go.Proofs.Ytobfmlgoelmcpaa
open Go.ChangeShapes Go.WideShapes Go.ChangeAt Go.RowKit


theorem still {w w' : World} {a : Addr} {v : Value} (hb : Below w.heap.size w w') (h : w.cell? a = some v) : w'.cell? a = some v := (hb.cell (World.block_lt_of_cell? w _ h)).trans h

set_option maxHeartbeats 1000000 in
set_option maxRecDepth 20000 in
theorem places_walk (A : Option Addr) (m c : Nat) (l : List UInt8) (i : Int) (w : World) (hl : l.length = m) (hmc : m ≤ c) (hc : c ≤ 140737488351232) (hr : Rd w A l) (h1 : -9223372036854775808 ≤ i) (h2 : i ≤ 9223372036854775807) :
    Calls Try.prog 8 #[.slice A m c, .int .i64 i] w (Yes w) := by
  have HL := Lib.hid hl
  clear hl
  by_cases hm0 : m < 2
  · go_enter Try.func8, Try.ntmps8
    go_wp2_with fail
    refine (works_any _).mono ?_
    rintro e w1 ⟨rfl, hb1⟩
    go_wp2
    go_ret
    exact ⟨rfl, hb1⟩
  · have hm2 : 2 ≤ m := by omega
    clear hm0
    obtain ⟨k, hk, _, HK⟩ := bring_nat i (m - 1) h1 h2 (by omega) (by omega)
    have hz : ((m - 1 : Nat) : Int) = (m : Int) - 1 := by omega
    rw [hz] at HK
    clear hz
    have hl1 : k < l.length := by have := HL.out; omega
    have hl2 : k + 1 < l.length := by have := HL.out; omega
    obtain ⟨ad, rfl, _⟩ := hr.cell hl1
    go_enter Try.func8, Try.ntmps8
    go_wp2_with fail
    refine (works_any _).mono ?_
    rintro e w1 ⟨rfl, hB1⟩
    go_wp2_with fail
    refine (HK.out w1).mono ?_
    rintro e w1' ⟨rfl, rfl⟩
    go_wp2_with fail
    refine (behind_any none (some ad) 0 0 m c [] l w1 rfl HL.out (Rd.nil _ _) (hr.below hB1) (by omega)).mono ?_
    rintro e w2 ⟨v2, rfl, ho2, hb2⟩
    have hB2 := bl_trans hB1 hb2
    obtain ⟨A2, n2, c2, rfl, HL2, hc2, hc2', hr2⟩ := ho2.form
    obtain rfl : m = n2 := by rw [← HL2.out, ← HL.out]; simp
    obtain ⟨_, g, rfl, hg1, hg2, _, _⟩ := ho2.head (by omega)
    have ho2 : Own w2 w1.heap.size (.slice (some ⟨g, 0, none⟩) m c2) l := ho2
    have k1 := ho2.cellAt hl1
    have k2 := ho2.cellAt hl2
    have f1 := ho2.frozenAt k
    have f2 := ho2.frozenAt (k + 1)
    unfold maxLen at hc2'
    go_wp2_with fail
    go_region
    have o1 := (ho2.stored k l[k + 1] (.int .u8 (l[k + 1].toNat : Int)) rfl)
    have o2 := (o1.1.stored (k + 1) l[k] (.int .u8 (l[k].toNat : Int)) rfl)
    have hwg : w.heap.size ≤ g := by have := hB1.size; omega
    have hB3 : Below w.heap.size w ((w2.setCell ⟨g, k, none⟩ (.int .u8 (l[k + 1].toNat : Int))).setCell ⟨g, k + 1, none⟩ (.int .u8 (l[k].toNat : Int))).drew := ((hB2.setCell (p := ⟨g, k, none⟩) hwg _).setCell (p := ⟨g, k + 1, none⟩) hwg _).drew
    have ho3 := o2.1
    clear o1 o2 k1 k2 f1 f2 ho2 hr2 hb2 hB2
    have ho3 : Own ((w2.setCell ⟨g, k, none⟩ (.int .u8 (l[k + 1].toNat : Int))).setCell ⟨g, k + 1, none⟩ (.int .u8 (l[k].toNat : Int))).drew w1.heap.size (.slice (some ⟨g, 0, none⟩) m c2) ((l.set k l[k + 1]).set (k + 1) l[k]) := ho3
    generalize ((w2.setCell ⟨g, k, none⟩ (.int .u8 (l[k + 1].toNat : Int))).setCell ⟨g, k + 1, none⟩ (.int .u8 (l[k].toNat : Int))).drew = w3 at *
    have hrl := ho3.rd
    have hll : ((l.set k l[k + 1]).set (k + 1) l[k]).length = m := by rw [List.length_set, List.length_set, HL.out]
    have hpt := places_told hl2
    generalize (l.set k l[k + 1]).set (k + 1) l[k] = l' at *
    have HE : Hid ((((ofE l').toNat : Int) == ((ofE l).toNat : Int)) = ((l[k].toNat : Int) == (l[k + 1].toNat : Int))) := by
      show (_ == _) = (_ == _)
      by_cases h : l[k] = l[k + 1]
      · rw [hpt.2 h, h]
        simp
      · rw [ne32 (fun e => h (hpt.1 e))]
        simp only [Bool.false_eq, beq_eq_false_iff_ne, ne_eq]
        intro e
        exact h (UInt8.toNat_inj.1 (by omega))
    have HLL := Lib.hid hll
    clear hpt hll
    have q1 : w3.cell? (ad.add k) = some (.int .u8 (l[k].toNat : Int)) := by
      obtain ⟨ad', e, h⟩ := (hr.below hB3).cell hl1
      cases e
      exact h
    have q2 : w3.cell? ⟨ad.block, ad.off + (k + 1), none⟩ = some (.int .u8 (l[k + 1].toNat : Int)) := by
      obtain ⟨ad', e, h⟩ := (hr.below hB3).cell hl2
      cases e
      exact h
    have r1 : (0 : Int) ≤ (k : Int) := by omega
    have r2 : (k : Int) < (m : Int) := by omega
    have r3 : IntKind.i64.wrap ((k : Int) + 1) = (k : Int) + 1 := IntWalk.i64_in _ (by omega)
    have r4 : (0 : Int) ≤ (k : Int) + 1 := by omega
    have r5 : (k : Int) + 1 < (m : Int) := by omega
    have r6 : ((k : Int) + 1).toNat = k + 1 := by omega
    have hrd : Rd w3.drew (some ⟨g, 0, none⟩) l' := hrl
    have hBd : Below w.heap.size w w3.drew := hB3.drew
    have d1 : w3.drew.cell? (ad.add k) = some (.int .u8 (l[k].toNat : Int)) := q1
    have d2 : w3.drew.cell? ⟨ad.block, ad.off + (k + 1), none⟩ = some (.int .u8 (l[k + 1].toNat : Int)) := q2
    clear hrl hB3
    go_wp2_with fail
    go_region_held3 (fun w' => w'.cell? (ad.add k) = some (.int .u8 (l[k].toNat : Int)) ∧ w'.cell? ⟨ad.block, ad.off + (k + 1), none⟩ = some (.int .u8 (l[k + 1].toNat : Int)))
      (refine ⟨?_, ?_⟩ <;> assumption)
      (first
        | (go_at_call 12; (with_reducible refine (of_any (some ⟨g, 0, none⟩) m c2 l' _ HLL.out hrd (by simp [maxLen]; omega)).mono ?_); rintro e w4 ⟨rfl, hb4⟩; have q3 := still hb4 d1; have q4 := still hb4 d2; have hB4 := bl_trans hBd hb4)
        | (go_at_call 12; (with_reducible refine (of_any (some ad) m c l _ HL.out (hr.below hB4) (by simp [maxLen]; omega)).mono ?_); rintro e w5 ⟨rfl, hb5⟩; have q5 := still hb5 q3; have q6 := still hb5 q4; have hB5 := bl_trans hB4 hb5)
        | fail)
    go_wp2
    go_ret
    refine ⟨?_, hB5⟩
    show Ending.returned (.bool ((((ofE l').toNat : Int) == ((ofE l).toNat : Int)) == ((l[k].toNat : Int) == (l[k + 1].toNat : Int)))) = _
    rw [HE.out]
    simp

set_option maxRecDepth 100000 in
theorem CrcPlaces_holds : Rows.CrcPlacesSaid :=
  OpenClaim.holds_of_wide 8 Try.f8 rfl rfl rfl rfl rfl rfl rfl ⟨rfl, rfl, rfl, rfl, rfl⟩ rfl rfl rfl rfl rfl (by kernel_rfl) Try.func8 (by kernel_rfl)
    (of_decide_eq_true (by kernel_rfl)) (by unfold Func.isWrapper; first | (rw [if_pos (by decide +kernel)]; kernel_rfl) | (rw [if_neg (by decide +kernel)]; exact ⟨rfl, rfl⟩))
    (fun os started H enc _ => law_lifted (s := Rows.crcPlacesSpec) Try.func8 (by kernel_rfl) rfl
      (fun H ds h => by rw [Try.params8] at h; match ds, h with | [_, _], _ => rfl) (by kernel_rfl) (by kernel_rfl)
      os started H enc
      (ChangeSpec.witness6 (enc := enc) (C := Try.checked) false ⟨#[], #[.slice none 0 0, .int .i64 0], []⟩ 8 (by kernel_rfl) (by kernel_rfl) (by kernel_rfl) (by kernel_rfl))
      (fun W args ds p h => by
        obtain ⟨⟨base, hok⟩, hA, hl⟩ := h
        rw [Try.params8] at hok hA hl
        obtain ⟨v0, v1, d0, d1, p0, p1, rfl, rfl, rfl, g0, g1⟩ := trodAll_two hA
        obtain ⟨A0, n0, c0, l0, rfl, e0, a0, b0, r0⟩ := open_bytes (hok 0 23 v0 rfl rfl) g0 (hl 0 23 d0 rfl rfl)
        obtain ⟨n1, rfl, a1, b1⟩ := open_i64 (hok 1 3 v1 rfl rfl) g1
        exact places_walk A0 n0 c0 l0 n1 W e0 a0 b0 r0 a1 b1))

end Go.Proofs.Ytobfmlgoelmcpaa
