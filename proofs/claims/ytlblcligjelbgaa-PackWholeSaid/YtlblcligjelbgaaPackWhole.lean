/- PackWhole: each beginning of a pack that is not all of it, and each pack with something behind it, is none. -/
import Derived.Test.YtlblcligjelbgaaPackI
set_option linter.unusedVariables false
namespace Go.Proofs.Ytlblcligjelbgaa
open Go.ChangeShapes Go.WideShapes Go.ChangeAt Go.RowKit

set_option maxHeartbeats 2000000 in
set_option maxRecDepth 20000 in
theorem packWhole_any (A : Option Addr) (n c : Nat) (at_ : Int) (B : Option Addr) (m d : Nat) (ll : List (List UInt8)) (lb : List UInt8) (w : World) (hl : ll.length = n) (hr : RdC w A ll) (hnc : n ≤ c) (hc : c ≤ maxLen)
    (h1 : -9223372036854775808 ≤ at_) (h2 : at_ ≤ 9223372036854775807) (hlb : lb.length = m) (hrb : Rd w B lb) (hmd : m ≤ d) (hd : d ≤ 140737488351232) :
    Calls Try.prog 8 #[.slice A n c, .int .i64 at_, .slice B m d] w (Yes w) := by
  have HL := Lib.hid hl
  have HLB := Lib.hid hlb
  clear hl hlb
  obtain ⟨b, hp, hb1, hb2⟩ := made_ok ll 1 (by omega) (by omega)
  have hz := size_cut hp lb
  have HCU := Lib.hid (fun (k : Nat) (hk : k < b.length) => unpack_cut hp hk)
  obtain ⟨er, hu, her⟩ : ∃ (er : Nat), (∃ k ss, Hid (unpackE (b ++ lb) = (k, ss, er))) ∧ (er = 0 ∧ m = 0 ∨ er = 4 ∧ 0 < m) := by
    rcases lb with _ | ⟨x, r⟩
    · exact ⟨0, ⟨_, _, by rw [List.append_nil]; exact unpack_pack hp⟩, .inl ⟨rfl, HLB.out.symm⟩⟩
    · exact ⟨4, ⟨_, _, unpack_more hp (by simp)⟩, .inr ⟨rfl, by have := HLB.out; simp at this; omega⟩⟩
  obtain ⟨uk, us, HU⟩ := hu
  have HP := Lib.hid hp
  have HZ := Lib.hid hz
  have HD := Lib.hid (made_small ll)
  have HMA := Lib.hid (fun (W : World) (hb : Below w.heap.size w W) => made_any A n c ll W HL.out (hr.below hb) (by omega))
  clear hp hz
  generalize madeE ll = ss at *
  have hbe : (((er : Int) == 0) == ((m : Int) == 0)) = true := by
    rcases her with ⟨rfl, rfl⟩ | ⟨rfl, h⟩
    · simp
    · have : ((m : Int) == 0) = false := by simp; omega
      rw [this]; rfl
  have hbe2 : ((er : Int) == 0) = true ∨ (((er : Int) == 0) = false ∧ ((er : Int) == 4) = true) := by
    rcases her with ⟨rfl, rfl⟩ | ⟨rfl, h⟩
    · exact .inl rfl
    · exact .inr ⟨rfl, rfl⟩
  have HBE := Lib.hid hbe
  clear her hbe
  go_enter Try.func8, Try.ntmps8
  go_wp2_with fail
  refine (works_any w).mono ?_
  rintro e w1 ⟨rfl, g1⟩
  go_wp2_with fail
  refine (HMA.out _ g1).mono ?_
  rintro e w2 ⟨A2, n2, c2, rfl, HL2, hnc2, hc2, hr2, g2⟩
  have gB2 := bl_trans g1 g2
  clear g1 g2 HMA hr
  go_wp2_with fail
  refine (pack_is HL2.out hr2 (by omega) HD.out HP.out).mono ?_
  rintro e w4 ⟨v4, rfl, ho4, g4⟩
  obtain ⟨A4, n4, c4, rfl, HL4, hnc4, hc4, hr4⟩ := ho4.form
  rw [HL4.out] at HZ HCU hb1 hb2
  have gB4 := bl_trans gB2 g4
  unfold maxLen at hc4
  clear g4 gB2 hr2 ho4
  obtain ⟨j, hj, _, HJ⟩ := bring_nat at_ n4 h1 h2 (by omega) (by omega)
  have hcut : ∀ W : World, (Instr.slice 24 (.slice A4 n4 c4) none (some (.int .i64 (j : Int))) none).run Try.prog W = .ok (.slice A4 j c4) W := fun W => by
    obtain ⟨i, hi, _, hs1, _⟩ := info_parts info_u8
    have he : Try.prog.elem 24 = 5 := by kernel_rfl
    rw [run_slice_h W 24 A4 n4 c4 (by rw [he]; exact Try.underlying24) .i64 (j : Int) (by omega) (by omega)]
    simp [sizeOf, typeInfo, he, hi, hs1, sliced, Result.andThen]
    intro _
    cases A4 <;> simp [Addr.add]
  have hb0 : ((n4 : Int) == 0) = false := by simp; omega
  go_wp2_with fail
  refine (HJ.out _).mono ?_
  rintro e w5 ⟨rfl, rfl⟩
  go_wp2_with fail
  refine (unpack_is (l := b.take j) (by rw [List.length_take, HL4.out]; omega) (hr4.take j) (by omega) (by simp only [maxLen]; omega) (HCU.out j hj)).mono ?_
  rintro e w6 ⟨v6, rs6, rfl, _, _, g6⟩
  have hr6 := hr4.below g6
  have gB6 := bl_trans gB4 g6
  clear g6 gB4 hr4 hcut
  go_wp2_with fail
  refine (copy_any A4 n4 c4 b _ HL4.out hr6 (by omega)).mono ?_
  rintro e w7 ⟨v7, rfl, ho7, g7⟩
  have gB7 := bl_trans gB6 g7
  have hs7 := g7.size
  go_wp2_with (at_builtin; refine wpList_append_bytes _ rfl _ _ rfl w6.heap.size _ b rfl ho7 B m d lb rfl HLB.out (hrb.below gB7) (by rw [HL4.out, HLB.out]; omega) (by omega) ?_)
  intro v8 w8 ho8 hg8 _
  obtain ⟨A8, n8, c8, rfl, HL8, hnc8, hc8, hr8⟩ := ho8.form
  have g68 : Below w6.heap.size w6 w8 := bl_grown g7 hg8 (fun k hk => (ho7.lt k hk).1)
  have gB8 := bl_trans gB6 g68
  have hr68 := hr6.below g68
  clear g7 gB7 hs7 ho7 hg8 ho8 g68 hr6
  go_wp2_with fail
  refine (unpack_is HL8.out hr8 hnc8 hc8 HU.out).mono ?_
  rintro e w9 ⟨v9, rs9, rfl, _, _, g9⟩
  have hr9 := hr68.below g9
  have gB9 := bl_trans gB8 g9
  clear g9 gB8 hr68 hr8
  go_wp2_with fail
  refine (copy_any A4 n4 c4 b _ HL4.out hr9 (by omega)).mono ?_
  rintro e wA ⟨vA, rfl, hoA, gA⟩
  have gBA := bl_trans gB9 gA
  have hsA := gA.size
  go_wp2_with (at_builtin; refine wpList_append_bytes _ rfl _ _ rfl w9.heap.size _ b rfl hoA B m d lb rfl HLB.out (hrb.below gBA) (by rw [HL4.out, HLB.out]; omega) (by omega) ?_)
  intro vC wC hoC hgC _
  obtain ⟨AC, nC, cC, rfl, HLC, hncC, hcC, hrC⟩ := hoC.form
  have g9C : Below w9.heap.size w9 wC := bl_grown gA hgC (fun k hk => (hoA.lt k hk).1)
  have gBC := bl_trans gB9 g9C
  clear gA gBA hsA hoA hgC hoC g9C hr9
  go_wp2_with fail
  refine (size_is HLC.out hrC hncC hcC HZ.out).mono ?_
  rintro e wD ⟨rfl, gD⟩
  have gBD := bl_trans gBC gD
  have hbn : ((n4 : Int) == (n4 : Int)) = true := by simp
  have hbe := HBE.out
  rcases hbe2 with q | ⟨q, q'⟩
  · rw [q] at hbe
    have q2 : ((m : Int) == 0) = true := by simpa using hbe
    clear hbe
    go_wp2_with fail
    go_ret
    exact ⟨rfl, gBD⟩
  · rw [q] at hbe
    have q2 : ((m : Int) == 0) = false := by simpa using hbe
    clear hbe
    go_wp2_with fail
    go_ret
    exact ⟨rfl, gBD⟩

set_option maxRecDepth 100000 in
theorem PackWhole_holds : Rows.PackWholeSaid :=
  OpenClaim.holds_of_wide 8 Try.f8 rfl rfl rfl rfl rfl rfl rfl ⟨rfl, rfl, rfl, rfl, rfl⟩ rfl rfl rfl rfl rfl (by kernel_rfl) Try.func8 (by kernel_rfl)
    (of_decide_eq_true (by kernel_rfl)) (by unfold Func.isWrapper; first | (rw [if_pos (by decide +kernel)]; kernel_rfl) | (rw [if_neg (by decide +kernel)]; exact ⟨rfl, rfl⟩))
    (fun os started H enc _ => law_lifted (s := Rows.packWholeSpec) Try.func8 (by kernel_rfl) rfl
      (fun H ds h => by rw [Try.params8] at h; match ds, h with | [_, _, _], _ => rfl) (by kernel_rfl) (by kernel_rfl)
      os started H enc
      (ChangeSpec.witness6 (enc := enc) (C := Try.checked) false ⟨#[], #[.slice none 0 0, .int .i64 0, .slice none 0 0], []⟩ 8 (by kernel_rfl) (by kernel_rfl) (by kernel_rfl) (by kernel_rfl))
      (fun W args ds p h => by
        obtain ⟨⟨base, hok⟩, hA, hl⟩ := h
        rw [Try.params8] at hok hA hl
        obtain ⟨v0, v1, v2, d0, d1, d2, p0, p1, p2, rfl, rfl, rfl, g0, g1, g2⟩ := trodAll_three hA
        obtain ⟨A0, n0, c0, l0, rfl, e0, a0, b0, r0⟩ := open_lists (hok 0 43 v0 rfl rfl) g0
        obtain ⟨n1, rfl, a1, b1⟩ := open_i64 (hok 1 3 v1 rfl rfl) g1
        obtain ⟨A2, n2, c2, l2, rfl, e2, a2, b2, r2⟩ := open_bytes (hok 2 24 v2 rfl rfl) g2 (hl 2 24 d2 rfl rfl)
        exact packWhole_any A0 n0 c0 n1 A2 n2 c2 l0 l2 W e0 r0 a0 b0 a1 b1 e2 r2 a2 b2))

end Go.Proofs.Ytlblcligjelbgaa
