/- Words of the grammar language: a word that is told by a number and a text. No condition. -/
import Derived.Test.YtlepaciglkodbaaDoorWdT
import Derived.Laws.Concat
set_option linter.unusedVariables false
set_option linter.unusedSimpArgs false
namespace Go.Proofs.YtlepaciglkodbaaDoor
open Go.RowKit

theorem wordOK_of {u : List UInt8} {k : Nat} (h1 : Stop u) (h2 : firstE u = some (k, u.length)) : WordOK u k := by
  have := first_word h1 h2
  rwa [List.take_length] at this
theorem lt_plain : ∀ n : Fin 256, ltB n.val = true → spB n.val = false ∧ sgB n.val = false ∧ n.val ≠ 35 ∧ n.val ≠ 34 ∧ n.val ≠ 47 := by decide +kernel
theorem name_word {s : List UInt8} (h : (kindE s == 1) = true) : WordOK s 1 := by
  have h1 : kindE s = 1 := by simpa using h
  unfold kindE at h1
  split at h1
  · omega
  · rename_i h2
    have hl := let_le s
    have hlen : letN s = s.length := by omega
    cases s with
    | nil => exact absurd (Or.inl rfl) h2
    | cons b t =>
      have hb : ltB b.toNat = true := by
        have h3 : letN (b :: t) ≠ 0 := by omega
        rw [letN] at h3
        split at h3
        · omega
        · rw [runN] at h3
          split at h3
          · assumption
          · omega
      obtain ⟨p1, p2, p3, p4, p5⟩ := lt_plain ⟨b.toNat, b.toNat_lt⟩ hb
      have q3 : b ≠ 35 := fun e => p3 (by rw [e]; rfl)
      have q4 : b ≠ 34 := fun e => p4 (by rw [e]; rfl)
      have q5 : b ≠ 47 := fun e => p5 (by rw [e]; rfl)
      have p1 : spB b.toNat = false := p1
      have p2 : sgB b.toNat = false := p2
      refine wordOK_of ?_ ?_
      · unfold Stop
        rw [gapN, if_neg (by rw [p1]; simp), if_neg q3]
      · rw [firstE, if_neg (by rw [p2]; simp), if_neg q4, if_neg q5, if_neg (by omega), hlen, List.take_length, h1]
theorem path_word {s : List UInt8} (h : isPathE s = true) : WordOK (34 :: (s ++ [34])) 2 := by
  unfold isPathE at h
  simp only [Bool.and_eq_true, decide_eq_true_eq, beq_iff_eq] at h
  obtain ⟨⟨h1, h2⟩, h3⟩ := h
  have hr : runN ptB (s ++ [34]) = s.length := by
    have := run_app ptB s [34] (fun c z e => by injection e with e1 _; subst e1; decide)
    rw [h2, List.take_length] at this
    rw [this]
  refine wordOK_of rfl ?_
  rw [firstE, if_neg (by decide), if_pos rfl, hr, if_pos ⟨by omega, by omega, by rw [List.drop_left]; rfl⟩]
  simp
theorem pattern_word {s : List UInt8} (h : (patN s == s.length) = true) : WordOK (47 :: (s ++ [47])) 3 := by
  have h2 : patN s = s.length := by simpa using h
  have hr : patN (s ++ [47]) = s.length := by
    have := pat_app [] s.length s (Nat.le_refl _)
    rw [h2, List.take_length] at this
    rw [this]
  refine wordOK_of rfl ?_
  rw [firstE, if_neg (by decide), if_neg (by decide), if_pos rfl, hr, if_pos (by rw [List.drop_left]; rfl)]
  simp
theorem spelled_word : ∀ k : Nat, 5 ≤ k → k ≤ 13 → WordOK (spellE k) k := by
  intro k h1 h2
  have hall : ∀ i : Fin 14, 5 ≤ i.val → gapN false (spellE i.val) = 0 ∧ firstE (spellE i.val) = some (i.val, (spellE i.val).length) := by decide +kernel
  obtain ⟨a, b⟩ := hall ⟨k, by omega⟩ h1
  exact wordOK_of a b
def signE : Nat → UInt8
  | 0 => 61
  | 1 => 59
  | 2 => 58
  | _ => 124
theorem sign_word (j : Nat) (hj : j < 4) : WordOK [signE j] 4 := by
  have hall : ∀ i : Fin 4, gapN false [signE i.val] = 0 ∧ firstE [signE i.val] = some (4, 1) := by decide +kernel
  obtain ⟨a, b⟩ := hall ⟨j, hj⟩
  exact wordOK_of a b

def GotWr (w : World) (e : Ending) (w' : World) : Prop := ∃ (u : List UInt8) (k : Nat), e = .returned (.tuple #[.string ⟨u.toArray⟩, .int .i64 (k : Int)]) ∧ WordOK u k ∧ u.length ≤ 48 ∧ Below w.heap.size w w'
theorem add_strs (W : World) (a b : List UInt8) (ha : a.length ≤ 1000) (hb : b.length ≤ 1000) : (Op.stringOp .add ⟨a.toArray⟩ ⟨b.toArray⟩).run Tryd.prog W = .ok (.string ⟨(a ++ b).toArray⟩) W :=
  run_string_add_lists W a b (by omega) (by omega)
theorem sign_cut (j : Nat) (hj : j < 4) (W : World) : ∃ s, (Instr.slice 9 (.string ⟨#[61, 59, 58, 124]⟩) (some (.int .i64 (j : Int))) none none).run Tryd.prog W = .ok (.string ⟨s⟩) W ∧ (∀ W', (Instr.slice 9 (.string ⟨s⟩) none (some (.int .i64 1)) none).run Tryd.prog W' = .ok (.string ⟨#[signE j]⟩) W') ∧ ∀ W', (Instr.slice 9 (.string ⟨#[61, 59, 58, 124]⟩) (some (.int .i64 (j : Int))) none none).run Tryd.prog W' = .ok (.string ⟨s⟩) W' := by
  have h1 := fun W' => from_at [61, 59, 58, 124] j (by simp; omega) (j : Int) rfl W'
  refine ⟨(([61, 59, 58, 124] : List UInt8).drop j).toArray, h1 W, fun W' => ?_, h1⟩
  rw [to_at _ 1 (by simp; omega) 1 rfl]
  match j, hj with
  | 0, _ => rfl
  | 1, _ => rfl
  | 2, _ => rfl
  | 3, _ => rfl

set_option maxRecDepth 20000 in
set_option maxHeartbeats 1000000 in
theorem written_any (z : Int) (s : List UInt8) (w : World) (hT : Tab w) (hs : s.length ≤ 40) (hz1 : -9223372036854775808 ≤ z) (hz2 : z ≤ 9223372036854775807) : Calls Tryd.prog 26 #[.int .i64 z, .string ⟨s.toArray⟩] w (GotWr w) := by
  generalize hQ : GotWr w = Q
  have HQ := Lib.hid hQ
  clear hQ
  obtain ⟨j, hj, HJ⟩ := bring_to z 13 13 rfl hz1 hz2 (by omega) (by omega)
  obtain ⟨q, hq⟩ : ∃ q, z.tdiv 13 = q := ⟨_, rfl⟩
  have hq1 : -9223372036854775808 ≤ q ∧ q ≤ 9223372036854775807 := by
    rw [← hq]
    constructor
    · rcases Int.le_total 0 z with h | h
      · have := Int.tdiv_nonneg h (by omega : (0 : Int) ≤ 13); omega
      · have e : z.tdiv 13 = -((-z).tdiv 13) := by rw [Int.neg_tdiv, Int.neg_neg]
        have h2 : (-z).tdiv 13 = (-z) / 13 := Int.tdiv_eq_ediv_of_nonneg (by omega)
        rw [e, h2]
        omega
    · rcases Int.le_total 0 z with h | h
      · have h2 : z.tdiv 13 = z / 13 := Int.tdiv_eq_ediv_of_nonneg h
        rw [h2]; omega
      · have e : z.tdiv 13 = -((-z).tdiv 13) := by rw [Int.neg_tdiv, Int.neg_neg]
        have h2 : (-z).tdiv 13 = (-z) / 13 := Int.tdiv_eq_ediv_of_nonneg (by omega)
        rw [e, h2]; omega
  have hwq : wrap64 (z.tdiv 13) = q := by rw [hq]; exact IntWalk.wrap64_in _ hq1
  have hwq2 : IntKind.i64.wrap (z.tdiv 13) = q := by rw [hq]; exact IntWalk.i64_in _ hq1
  obtain ⟨j4, hj4, HJ4⟩ := bring_to q 4 4 rfl hq1.1 hq1.2 (by omega) (by omega)
  obtain ⟨sg, hc0, hc1, hc2⟩ := sign_cut j4 hj4 w
  have HSG := Lib.hid (sign_word j4 hj4)
  obtain ⟨K, hK⟩ : ∃ K, 1 + j = K := ⟨_, rfl⟩
  have hw1 : wrap64 ((1 : Int) + (j : Int)) = (K : Int) := by rw [IntWalk.wrap64_in _ ⟨by omega, by omega⟩]; omega
  clear hq hc0 hq1
  have hcs : K = 1 ∨ K = 2 ∨ K = 3 ∨ K = 4 ∨ (5 ≤ K ∧ K ≤ 13) := by omega
  have b1 : ∀ c, decide (K = 1) = c → ((K : Int) == 1) = c := fun c h => by rw [← h, Bool.eq_iff_iff]; simp; omega
  have b2 : ∀ c, decide (K = 2) = c → ((K : Int) == 2) = c := fun c h => by rw [← h, Bool.eq_iff_iff]; simp; omega
  have b3 : ∀ c, decide (K = 3) = c → ((K : Int) == 3) = c := fun c h => by rw [← h, Bool.eq_iff_iff]; simp; omega
  have b4 : ∀ c, decide (4 < K) = c → decide ((4 : Int) < (K : Int)) = c := fun c h => by rw [← h, decide_eq_decide]; omega
  rcases hcs with h | h | h | h | h
  · obtain rfl : j = 0 := by omega
    have hcall := fun w => fun (hT : Tab w) => isName_any s w hT (by unfold maxLen; omega)
    have HLEM := Lib.hid (fun h => name_word (s := s) h)
    clear h hK b1 b2 b3 b4
    generalize (kindE s == 1) = cc at *
    cases cc
    case true =>
      have HLE2 := Lib.hid (HLEM.out rfl)
      clear HLEM
      go_enter Tryd.func26, Tryd.ntmps26
      go_wp2_with fail
      refine (HJ.out _).mono ?_
      rintro e w1 ⟨rfl, rfl⟩
      go_wp2_with fail
      refine (hcall _ hT).mono ?_
      rintro e w2 ⟨rfl, hb2⟩
      go_wp2_with fail
      exact post_is HQ ⟨s, 1, rfl, HLE2.out, by (try simp); omega, hb2⟩
    case false =>
      go_enter Tryd.func26, Tryd.ntmps26
      go_wp2_with fail
      refine (HJ.out _).mono ?_
      rintro e w1 ⟨rfl, rfl⟩
      go_wp2_with fail
      refine (hcall _ hT).mono ?_
      rintro e w2 ⟨rfl, hb2⟩
      go_wp2_with fail
      refine (HJ4.out _).mono ?_
      rintro e w4 ⟨rfl, rfl⟩
      go_wp2_with fail
      exact post_is HQ ⟨[signE j4], 4, rfl, HSG.out, by simp, hb2⟩
  · obtain rfl : j = 1 := by omega
    have hcall := fun w => fun (hT : Tab w) => isPath_any s w (by unfold maxLen; omega)
    have HLEM := Lib.hid (fun h => path_word (s := s) h)
    clear h hK b1 b2 b3 b4
    generalize isPathE s = cc at *
    cases cc
    case true =>
      have HLE2 := Lib.hid (HLEM.out rfl)
      clear HLEM
      have ha1 := fun W => add_strs W [34] s (by simp) (by omega)
      have ha2 := fun W => add_strs W (34 :: s) [34] (by simp; omega) (by simp)
      have HRS : Hid ([34] ++ s ++ [34] = 34 :: (s ++ [34])) := rfl
      go_enter Tryd.func26, Tryd.ntmps26
      go_wp2_with fail
      refine (HJ.out _).mono ?_
      rintro e w1 ⟨rfl, rfl⟩
      go_wp2_with fail
      refine (hcall _ hT).mono ?_
      rintro e w2 ⟨rfl, hb2⟩
      go_wp2_with fail
      exact post_is HQ ⟨(34 :: (s ++ [34])), 2, rfl, HLE2.out, by (try simp); omega, hb2⟩
    case false =>
      go_enter Tryd.func26, Tryd.ntmps26
      go_wp2_with fail
      refine (HJ.out _).mono ?_
      rintro e w1 ⟨rfl, rfl⟩
      go_wp2_with fail
      refine (hcall _ hT).mono ?_
      rintro e w2 ⟨rfl, hb2⟩
      go_wp2_with fail
      refine (HJ4.out _).mono ?_
      rintro e w4 ⟨rfl, rfl⟩
      go_wp2_with fail
      exact post_is HQ ⟨[signE j4], 4, rfl, HSG.out, by simp, hb2⟩
  · obtain rfl : j = 2 := by omega
    have hcall := fun w => fun (hT : Tab w) => isPattern_any s w (by omega)
    have HLEM := Lib.hid (fun h => pattern_word (s := s) h)
    clear h hK b1 b2 b3 b4
    generalize (patN s == s.length) = cc at *
    cases cc
    case true =>
      have HLE2 := Lib.hid (HLEM.out rfl)
      clear HLEM
      have ha1 := fun W => add_strs W [47] s (by simp) (by omega)
      have ha2 := fun W => add_strs W (47 :: s) [47] (by simp; omega) (by simp)
      have HRS : Hid ([47] ++ s ++ [47] = 47 :: (s ++ [47])) := rfl
      go_enter Tryd.func26, Tryd.ntmps26
      go_wp2_with fail
      refine (HJ.out _).mono ?_
      rintro e w1 ⟨rfl, rfl⟩
      go_wp2_with fail
      refine (hcall _ hT).mono ?_
      rintro e w2 ⟨rfl, hb2⟩
      go_wp2_with fail
      exact post_is HQ ⟨(47 :: (s ++ [47])), 3, rfl, HLE2.out, by (try simp); omega, hb2⟩
    case false =>
      go_enter Tryd.func26, Tryd.ntmps26
      go_wp2_with fail
      refine (HJ.out _).mono ?_
      rintro e w1 ⟨rfl, rfl⟩
      go_wp2_with fail
      refine (hcall _ hT).mono ?_
      rintro e w2 ⟨rfl, hb2⟩
      go_wp2_with fail
      refine (HJ4.out _).mono ?_
      rintro e w4 ⟨rfl, rfl⟩
      go_wp2_with fail
      exact post_is HQ ⟨[signE j4], 4, rfl, HSG.out, by simp, hb2⟩
  · obtain rfl : j = 3 := by omega
    clear h hK b1 b2 b3 b4
    go_enter Tryd.func26, Tryd.ntmps26
    go_wp2_with fail
    refine (HJ.out _).mono ?_
    rintro e w1 ⟨rfl, rfl⟩
    go_wp2_with fail
    refine (HJ4.out _).mono ?_
    rintro e w4 ⟨rfl, rfl⟩
    go_wp2_with fail
    exact post_is HQ ⟨[signE j4], 4, rfl, HSG.out, by simp, Below.refl _ _⟩
  · have e1 : ((1 : Int) + (j : Int) == 1) = false := by simp; omega
    have e2 : ((1 : Int) + (j : Int) == 2) = false := by simp; omega
    have e3 : ((1 : Int) + (j : Int) == 3) = false := by simp; omega
    have e4 : decide ((4 : Int) < (1 : Int) + (j : Int)) = true := by simp; omega
    obtain rfl : K = 1 + j := hK.symm
    have HW := Lib.hid (spelled_word (1 + j) h.1 h.2)
    have hsl := spell_len (1 + j)
    have HSP : Hid (spellZ ((1 : Int) + (j : Int)) = spellE (1 + j)) := by unfold Hid spellZ; rw [if_neg (by omega)]; congr 1
    clear h b1 b2 b3 b4
    go_enter Tryd.func26, Tryd.ntmps26
    go_wp2_with fail
    refine (HJ.out _).mono ?_
    rintro e w1 ⟨rfl, rfl⟩
    go_wp2_with fail
    refine (spelled_any ((1 : Int) + (j : Int)) _ hT).mono ?_
    rw [HSP.out]
    rintro e w2 ⟨rfl, rfl⟩
    go_wp2_with fail
    exact post_is HQ ⟨spellE (1 + j), 1 + j, by simp, HW.out, by omega, Below.refl _ _⟩


end Go.Proofs.YtlepaciglkodbaaDoor
