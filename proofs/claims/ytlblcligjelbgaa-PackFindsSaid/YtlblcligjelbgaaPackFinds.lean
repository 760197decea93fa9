/- PackFinds: of a pack's sections Find tells each one's data by its tag, and none by others. -/
import Derived.Test.YtlblcligjelbgaaPackI
set_option linter.unusedVariables false
namespace Go.Proofs.Ytlblcligjelbgaa
open Go.ChangeShapes Go.WideShapes Go.ChangeAt Go.RowKit

theorem find_first : ∀ (ss : List Sec) (last : Int), riseFrom last ss = true → ∀ (k : Nat) (h : k < ss.length), findE ss[k].1 ss = some ss[k].2 ∧ last < ss[k].1
  | [], _, _, k, h => by simp at h
  | s :: r, last, hr, 0, h => by
    simp only [riseFrom, Bool.and_eq_true, decide_eq_true_eq] at hr
    simp [findE, hr.1.1]
  | s :: r, last, hr, k + 1, h => by
    simp only [riseFrom, Bool.and_eq_true, decide_eq_true_eq] at hr
    have ih := find_first r s.1 hr.2 k (by simpa using h)
    simp only [List.getElem_cons_succ]
    refine ⟨?_, by omega⟩
    rw [findE, if_neg (by omega)]
    exact ih.1
theorem find_some : ∀ (ss : List Sec) (tag : Int), (findE tag ss).isSome = true ↔ ∃ k, ∃ h : k < ss.length, ss[k].1 = tag
  | [], tag => by simp [findE]
  | s :: r, tag => by
    rw [findE]
    by_cases h : s.1 = tag
    · simp only [h, if_true, Option.isSome_some, true_iff]
      exact ⟨0, by simp, h⟩
    · rw [if_neg h, find_some r tag]
      constructor
      · rintro ⟨k, hk, e⟩
        exact ⟨k + 1, by simpa using hk, by simpa using e⟩
      · rintro ⟨k, hk, e⟩
        rcases k with _ | k
        · exact absurd e h
        · exact ⟨k, by simpa using hk, by simpa using e⟩
/-- Is the tag among the first k? -/
def among (ss : List Sec) (tag : Int) (k : Nat) : Prop := ∃ i, ∃ h : i < ss.length, i < k ∧ ss[i].1 = tag
theorem found_is {A : Option Addr} {n c : Nat} {tag : Int} {ss : List Sec} {w : World} {o : Option (List UInt8)} (hl : ss.length = n) (hr : RdS w A ss) (hn : n ≤ maxLen) (hd : ∀ s ∈ ss, s.2.length ≤ 200000000000000) (h : findE tag ss = o) :
    Calls Try.prog 14 #[.slice A n c, .int .i64 tag] w (Found w o) := h ▸ find_any A n c tag ss w hl hr hn hd

set_option maxHeartbeats 2000000 in
set_option maxRecDepth 20000 in
theorem packFinds_any (A : Option Addr) (n c : Nat) (tag0 : Int) (ll : List (List UInt8)) (w : World) (h1 : -9223372036854775808 ≤ tag0) (h2 : tag0 ≤ 9223372036854775807) (hl : ll.length = n) (hr : RdC w A ll) (hnc : n ≤ c) (hc : c ≤ maxLen) :
    Calls Try.prog 9 #[.slice A n c, .int .i64 tag0] w (Yes w) := by
  have HL := Lib.hid hl
  clear hl
  obtain ⟨j, hj, HJ⟩ := bring_to tag0 260 260 rfl h1 h2 (by omega) (by omega)
  have h9 : (ll.take 9).length ≤ 9 := by rw [List.length_take]; omega
  have hrise : riseFrom 0 (madeE ll) = true := made_rise (ll.take 9) 0 (by omega)
  have HF := Lib.hid (find_first _ _ hrise)
  have HD := Lib.hid (made_small ll)
  have HMA := Lib.hid (fun (W : World) (hb : Below w.heap.size w W) => made_any A n c ll W HL.out (hr.below hb) (by omega))
  clear hrise
  generalize madeE ll = ss at *
  go_enter Try.func9, Try.ntmps9
  go_wp2_with fail
  refine (works_any w).mono ?_
  rintro e w1 ⟨rfl, g1⟩
  go_wp2_with fail
  refine (HMA.out _ g1).mono ?_
  rintro e w2 ⟨A2, n2, c2, rfl, HL2, hnc2, hc2, hr2, g2⟩
  have gB2 := bl_trans g1 g2
  clear g1 g2 HMA hr
  unfold maxLen at hc2
  go_wp2_with fail
  refine (HJ.out _).mono ?_
  rintro e w3 ⟨rfl, rfl⟩
  go_wp2_with fail
  go_loopw [6, 7] (fun at_ i wr => ∃ (k : Nat) (p : Int), k ≤ n2 ∧ i = .int .i64 (k : Int) ∧ at_ = .int .i64 p ∧ ((p = -1 ∧ ¬ among ss j k) ∨ (0 ≤ p ∧ p ≤ 9223372036854775807 ∧ among ss j k)) ∧ Below w2.heap.size w2 wr) (fun _ i _ => n2 - (intOf i).toNat)
  case atStart => exact ⟨0, -1, Nat.zero_le _, rfl, rfl, .inl ⟨rfl, fun ⟨i, _, h, _⟩ => by omega⟩, Below.refl _ _⟩
  case round =>
    obtain ⟨k, p, hk, rfl, rfl, hp, hbl⟩ := hrel
    have HPP := Lib.hid hp
    clear hp
    by_cases hlt : k < n2
    · have hk' : k < ss.length := by have := HL2.out; omega
      obtain ⟨ad, Ak, m, cm, rfl, q1, q2, HK, hm1, hm2, hrd⟩ := (hr2.below hbl).at hk'
      unfold maxLen at hm2
      have hms : m ≤ 150000000000000 := by have := HD.out _ (List.getElem_mem hk'); have := HK.out; omega
      go_wp2_with fail
      refine (found_is HL2.out (hr2.below hbl) (by simp only [maxLen]; omega) (fun s hs => by have := HD.out s hs; omega) (HF.out k hk').1).mono ?_
      rintro e w4 ⟨v4, rfl, ho4, g4⟩
      obtain ⟨A4, n4, c4, rfl, HL4, hnc4, hc4, hr4⟩ := ho4.form
      have q1' := (g4.cell (World.block_lt_of_cell? _ _ q1)).trans q1
      have q2' := (g4.cell (World.block_lt_of_cell? _ _ q2)).trans q2
      have hB4 := bl_trans hbl g4
      dsimp only [Option.getD_some] at HL4 hr4
      clear q1 q2 ho4
      go_wp2_with fail
      refine (eq_is (b := true) HL4.out HK.out hr4 (hrd.below g4) (by omega) (by simp only [maxLen]; omega) (by simp)).mono ?_
      rintro e w5 ⟨rfl, g5⟩
      have q1'' := (g5.cell (World.block_lt_of_cell? _ _ q1')).trans q1'
      have hB5 := bl_trans hB4 g5
      clear q1' q2' g4 g5 hB4
      by_cases hx : ss[k].1 = (j : Int)
      · have hbx : (ss[k].1 == (j : Int)) = true := by simp [hx]
        have HX := Lib.hid hx
        clear hx
        go_wp2_with fail
        refine ⟨⟨k + 1, (k : Int), by omega, by go_num, rfl, .inr ⟨by omega, by omega, k, hk', by omega, HX.out⟩, hB5⟩, by simp [intOf]; omega⟩
      · have hbx : (ss[k].1 == (j : Int)) = false := by simp [hx]
        have HX := Lib.hid hx
        clear hx
        go_wp2_with fail
        refine ⟨⟨k + 1, p, by omega, by go_num, rfl, ?_, hB5⟩, by simp [intOf]; omega⟩
        have hmono : among ss j (k + 1) → among ss j k := by
          rintro ⟨i, hi, hik, e⟩
          by_cases hi' : i = k
          · subst hi'; exact absurd e HX.out
          · exact ⟨i, hi, by omega, e⟩
        rcases HPP.out with ⟨h, h'⟩ | ⟨h, h'', i, hi, hik, e⟩
        · exact .inl ⟨h, fun g => h' (hmono g)⟩
        · exact .inr ⟨h, h'', i, hi, by omega, e⟩
    · go_wp2_with fail
      have hfs := find_some ss (j : Int)
      have hall : among ss j k ↔ ∃ i, ∃ h : i < ss.length, ss[i].1 = (j : Int) := by
        constructor
        · rintro ⟨i, hi, _, e⟩; exact ⟨i, hi, e⟩
        · rintro ⟨i, hi, e⟩; exact ⟨i, hi, by have := HL2.out; omega, e⟩
      have hbool : (findE j ss).isSome = decide (0 ≤ p) := by
        rcases HPP.out with ⟨h, h'⟩ | ⟨h, _, h'⟩
        · rw [hall, ← hfs] at h'
          rw [h]
          simpa using h'
        · rw [hall, ← hfs] at h'
          rw [h']
          simp [h]
      have HB := Lib.hid hbool
      clear hbool
      refine (found_is HL2.out (hr2.below hbl) (by simp only [maxLen]; omega) (fun s hs => by have := HD.out s hs; omega) rfl).mono ?_
      rintro e w4 ⟨v4, rfl, ho4, g4⟩
      rw [HB.out]
      go_wp2_with fail
      go_ret
      refine ⟨?_, bl_trans gB2 (bl_trans hbl g4)⟩
      simp

set_option maxRecDepth 100000 in
theorem PackFinds_holds : Rows.PackFindsSaid :=
  OpenClaim.holds_of_wide 9 Try.f9 rfl rfl rfl rfl rfl rfl rfl ⟨rfl, rfl, rfl, rfl, rfl⟩ rfl rfl rfl rfl rfl (by kernel_rfl) Try.func9 (by kernel_rfl)
    (of_decide_eq_true (by kernel_rfl)) (by unfold Func.isWrapper; first | (rw [if_pos (by decide +kernel)]; kernel_rfl) | (rw [if_neg (by decide +kernel)]; exact ⟨rfl, rfl⟩))
    (fun os started H enc _ => law_lifted (s := Rows.packFindsSpec) Try.func9 (by kernel_rfl) rfl
      (fun H ds h => by rw [Try.params9] at h; match ds, h with | [_, _], _ => rfl) (by kernel_rfl) (by kernel_rfl)
      os started H enc
      (ChangeSpec.witness6 (enc := enc) (C := Try.checked) false ⟨#[], #[.slice none 0 0, .int .i64 0], []⟩ 8 (by kernel_rfl) (by kernel_rfl) (by kernel_rfl) (by kernel_rfl))
      (fun W args ds p h => by
        obtain ⟨⟨base, hok⟩, hA, hl⟩ := h
        rw [Try.params9] at hok hA hl
        obtain ⟨v0, v1, d0, d1, p0, p1, rfl, rfl, rfl, g0, g1⟩ := trodAll_two hA
        obtain ⟨A0, n0, c0, l0, rfl, e0, a0, b0, r0⟩ := open_lists (hok 0 43 v0 rfl rfl) g0
        obtain ⟨n1, rfl, a1, b1⟩ := open_i64 (hok 1 3 v1 rfl rfl) g1
        exact packFinds_any A0 n0 c0 n1 l0 W a1 b1 e0 r0 a0 b0))

end Go.Proofs.Ytlblcligjelbgaa
