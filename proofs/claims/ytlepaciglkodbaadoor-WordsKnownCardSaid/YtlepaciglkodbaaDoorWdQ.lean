/- Words of the grammar language: the document's IsName, IsPath, IsPattern; and WordsMay. No condition. -/
import Derived.Test.YtlepaciglkodbaaDoorWdP
import Derived.Test.YtlepaciglkodbaaDoorWdRow
set_option linter.unusedVariables false
set_option linter.unusedSimpArgs false
namespace Go.Proofs.YtlepaciglkodbaaDoor
open Go.RowKit

theorem run_whole (p : Nat → Bool) (l : List UInt8) (k : Nat) (hk : ¬ k < l.length) : runN p (l.drop k) = 0 := by
  rw [List.drop_eq_nil_of_le (by omega)]; rfl
/-- The document's IsName says what the program's says. -/
theorem name_is (l : List UInt8) : (kindE l == 1) = (decide (0 < l.length) && !(dgB (l.getD 0 0).toNat) && (rkindE l == 1) && (runN ltB l == l.length)) := by
  cases l with
  | nil => rfl
  | cons b t =>
    have hg : (b :: t).getD 0 0 = b := rfl
    rw [hg]
    unfold kindE rkindE
    cases hd : dgB b.toNat with
    | true =>
      have : letN (b :: t) = 0 := by rw [letN, if_pos hd]
      rw [this, if_pos (Or.inl rfl)]
      simp
    | false =>
      have hl : letN (b :: t) = runN ltB (b :: t) := by rw [letN, if_neg (by rw [hd]; simp)]
      rw [hl]
      have hle := run_le ltB (b :: t)
      have h0 : decide (0 < (b :: t).length) = true := by simp
      rw [h0]
      rcases kindW_of (b :: t) with hk | ⟨hk1, hk2, hk3⟩
      · rw [hk, if_pos rfl]
        by_cases h1 : runN ltB (b :: t) = (b :: t).length
        · rw [h1]
          by_cases h2 : 24 < (b :: t).length
          · rw [if_pos (by omega), if_pos h2]; simp
          · rw [if_neg (by simp only [List.length_cons] at *; omega), if_neg h2]; simp
        · rw [if_pos (by omega)]
          have h3 : (runN ltB (b :: t) == (b :: t).length) = false := by simpa using h1
          rw [h3]
          simp
      · have h5 : (kindW (b :: t) == 1) = false := by simp; omega
        have h6 : (if kindW (b :: t) = 1 then (if 24 < (b :: t).length then 0 else 1) else kindW (b :: t)) = kindW (b :: t) := if_neg (by omega)
        rw [h6, h5]
        by_cases h7 : runN ltB (b :: t) = 0 ∨ runN ltB (b :: t) < (b :: t).length ∨ 24 < runN ltB (b :: t)
        · rw [if_pos h7]; simp
        · rw [if_neg h7, h5]; simp
set_option maxRecDepth 20000 in
theorem risName_any (l : List UInt8) (w : World) (hm : l.length ≤ 140737488355328) : Calls Tryd.prog 17 #[.string ⟨l.toArray⟩] w (GotT w (kindE l == 1)) := by
  have hn := name_is l
  generalize hQ : GotT w (kindE l == 1) = Q
  have hlen := fun ty => len_at l #[9] ty rfl
  have hkd := fun w => rkind_any l w hm
  cases l with
  | nil =>
    have HQ := Lib.hid hQ
    clear hQ hn
    go_enter Tryd.func17, Tryd.ntmps17
    go_wp2_with fail
    exact post_is HQ ⟨rfl, rfl⟩
  | cons b t =>
    have hi := letter_at (b :: t) 0 (by simp) 0 rfl
    have hg : (b :: t).getD 0 0 = b := rfl
    rw [hg] at hi hn
    rw [show decide (0 < (b :: t).length) = true by simp] at hn
    have hne : (((b :: t) : List UInt8) == []) = false := rfl
    have hdg := rdigit_any b.toNat
    rw [hn] at hQ
    have HQ := Lib.hid hQ
    clear hQ hn hg
    generalize dgB b.toNat = c1 at *
    generalize b.toNat = x at *
    generalize (b :: t) = l at *
    cases c1
    case true =>
      go_enter Tryd.func17, Tryd.ntmps17
      go_wp2_with fail
      refine (hdg _).mono ?_
      rintro e w1 ⟨rfl, rfl⟩
      go_wp2_with fail
      exact post_is HQ ⟨by simp, rfl⟩
    case false =>
      obtain ⟨c2, hc2⟩ : ∃ c, (rkindE l == 1) = c := ⟨_, rfl⟩
      have e2 := bne_of (eqb _ 1 1 rfl _ hc2)
      rw [hc2] at HQ
      clear hc2
      generalize rkindE l = rk at *
      cases c2
      case false =>
        go_enter Tryd.func17, Tryd.ntmps17
        go_wp2_with fail
        refine (hdg _).mono ?_
        rintro e w1 ⟨rfl, rfl⟩
        go_wp2_with fail
        refine (hkd _).mono ?_
        rintro e w1 ⟨rfl, rfl⟩
        go_wp2_with fail
        exact post_is HQ ⟨by simp, rfl⟩
      case true =>
        go_enter Tryd.func17, Tryd.ntmps17
        go_wp2_with fail
        refine (hdg _).mono ?_
        rintro e w1 ⟨rfl, rfl⟩
        go_wp2_with fail
        refine (hkd _).mono ?_
        rintro e w1 ⟨rfl, rfl⟩
        clear hi hdg hkd
        go_wp2_with fail
        go_loopw [3] (fun v wr => ∃ k : Nat, k ≤ l.length ∧ v = .int .i64 (k : Int) ∧ wr = w ∧ Hid (runN ltB l = k + runN ltB (l.drop k))) (fun v _ => l.length - (intOf v).toNat)
        case atStart => exact ⟨0, Nat.zero_le _, rfl, rfl, by unfold Hid; simp⟩
        case round =>
          obtain ⟨k, hk, rfl, rfl, HK⟩ := hrel
          by_cases hlt : k < l.length
          · have hat := letter_at l k hlt (k : Int) rfl
            have bl : decide (k < l.length) = true := by simp [hlt]
            have hlt2 := rletter_any (l.getD k 0).toNat
            cases hp : ltB (l.getD k 0).toNat with
            | true =>
              have HR := Lib.hid (run_yes hlt hp)
              rw [hp] at hlt2
              clear hp
              generalize (l.getD k 0).toNat = c at *
              go_wp2_with fail
              refine (hlt2 _).mono ?_
              rintro e w1 ⟨rfl, rfl⟩
              go_wp2_with fail
              go_roundw
              case rel => exact ⟨k + 1, by omega, by go_num, by first | rfl | trivial, by unfold Hid; rw [HK.out, HR.out]; omega⟩
              case measure => simp [intOf]; omega
            | false =>
              have HR := Lib.hid (run_no hlt hp)
              have HE : Hid ((runN ltB l == l.length) = false) := by
                unfold Hid
                rw [HK.out, HR.out]
                simp
                omega
              rw [hp] at hlt2
              clear hp
              generalize (l.getD k 0).toNat = c at *
              go_wp2_with fail
              refine (hlt2 _).mono ?_
              rintro e w1 ⟨rfl, rfl⟩
              go_wp2_with fail
              exact post_is HQ ⟨by rw [HE.out]; simp, rfl⟩
          · have bl : decide (k < l.length) = false := by simp; omega
            have HE : Hid ((runN ltB l == l.length) = true) := by
              unfold Hid
              rw [HK.out, run_whole ltB l k hlt]
              simp
              omega
            clear hlt
            go_wp2_with fail
            exact post_is HQ ⟨by rw [HE.out]; simp, rfl⟩

set_option maxRecDepth 20000 in
theorem risPath_any (l : List UInt8) (w : World) (hm : l.length ≤ 140737488355328) : Calls Tryd.prog 19 #[.string ⟨l.toArray⟩] w (GotT w (isPathE l)) := by
  generalize hQ : GotT w (isPathE l) = Q
  have HQ := Lib.hid hQ
  have hlen := fun ty => len_at l #[9] ty rfl
  clear hQ
  go_enter Tryd.func19, Tryd.ntmps19
  go_wp2_with fail
  go_loopw [3, 4] (fun v _ wr => ∃ k : Nat, k ≤ l.length ∧ v = .int .i64 (k : Int) ∧ wr = w ∧ Hid (runN ptB l = k + runN ptB (l.drop k))) (fun v _ _ => l.length - (intOf v).toNat)
  case atStart => exact ⟨0, Nat.zero_le _, rfl, rfl, by unfold Hid; simp⟩
  case round =>
    obtain ⟨k, hk, rfl, rfl, HK⟩ := hrel
    by_cases hlt : k < l.length
    · have hat := letter_at l k hlt (k : Int) rfl
      have bl : decide (k < l.length) = true := by simp [hlt]
      have hdg := rdigit_any (l.getD k 0).toNat
      have HYES := Lib.hid (fun h => run_yes (p := ptB) hlt h)
      have HNO : Hid (ptB (l.getD k 0).toNat = false → isPathE l = false) := by
        intro h
        unfold isPathE
        rw [HK.out, run_no hlt h]
        have : (k + 0 == l.length) = false := by simp; omega
        rw [this]
        simp
      generalize (l.getD k 0).toNat = x at *
      obtain ⟨a1, h1⟩ : ∃ b, decide (97 ≤ x) = b := ⟨_, rfl⟩
      obtain ⟨a2, h2⟩ : ∃ b, decide (x ≤ 122) = b := ⟨_, rfl⟩
      obtain ⟨c3, h3⟩ : ∃ b, (x == 46) = b := ⟨_, rfl⟩
      obtain ⟨c4, h4⟩ : ∃ b, (x == 95) = b := ⟨_, rfl⟩
      obtain ⟨c5, h5⟩ : ∃ b, (x == 45) = b := ⟨_, rfl⟩
      obtain ⟨c6, h6⟩ : ∃ b, (x == 47) = b := ⟨_, rfl⟩
      have e1 : decide ((97 : Int) ≤ (x : Int)) = a1 := by rw [← h1, decide_eq_decide]; omega
      have e2 : decide ((x : Int) ≤ 122) = a2 := by rw [← h2, decide_eq_decide]; omega
      have e3 := eqb x 46 46 rfl _ h3
      have e4 := eqb x 95 95 rfl _ h4
      have e5 := eqb x 45 45 rfl _ h5
      have e6 := eqb x 47 47 rfl _ h6
      have hpt : ptB x = ((a1 && a2) || dgB x || c3 || c4 || c5 || c6) := by unfold ptB smB; rw [h1, h2, h3, h4, h5, h6]
      rw [hpt] at HYES HNO
      clear h1 h2 h3 h4 h5 h6 hpt
      generalize dgB x = c2 at *
      cases a1
      case true =>
        cases a2
        case true =>
          have HR := Lib.hid (HYES.out (by simp))
          clear HYES HNO
          go_wp2_with fail
          go_roundw
          case rel => exact ⟨k + 1, by omega, by go_num, by first | rfl | trivial, by unfold Hid; rw [HK.out, HR.out]; omega⟩
          case measure => simp [intOf]; omega
        case false =>
          cases c2
          case true =>
            have HR := Lib.hid (HYES.out (by simp))
            clear HYES HNO
            go_wp2_with fail
            refine (hdg _).mono ?_
            rintro e w1 ⟨rfl, rfl⟩
            go_wp2_with fail
            go_roundw
            case rel => exact ⟨k + 1, by omega, by go_num, by first | rfl | trivial, by unfold Hid; rw [HK.out, HR.out]; omega⟩
            case measure => simp [intOf]; omega
          case false =>
            cases c3
            case true =>
              have HR := Lib.hid (HYES.out (by simp))
              clear HYES HNO
              go_wp2_with fail
              refine (hdg _).mono ?_
              rintro e w1 ⟨rfl, rfl⟩
              go_wp2_with fail
              go_roundw
              case rel => exact ⟨k + 1, by omega, by go_num, by first | rfl | trivial, by unfold Hid; rw [HK.out, HR.out]; omega⟩
              case measure => simp [intOf]; omega
            case false =>
              cases c4
              case true =>
                have HR := Lib.hid (HYES.out (by simp))
                clear HYES HNO
                go_wp2_with fail
                refine (hdg _).mono ?_
                rintro e w1 ⟨rfl, rfl⟩
                go_wp2_with fail
                go_roundw
                case rel => exact ⟨k + 1, by omega, by go_num, by first | rfl | trivial, by unfold Hid; rw [HK.out, HR.out]; omega⟩
                case measure => simp [intOf]; omega
              case false =>
                cases c5
                case true =>
                  have HR := Lib.hid (HYES.out (by simp))
                  clear HYES HNO
                  go_wp2_with fail
                  refine (hdg _).mono ?_
                  rintro e w1 ⟨rfl, rfl⟩
                  go_wp2_with fail
                  go_roundw
                  case rel => exact ⟨k + 1, by omega, by go_num, by first | rfl | trivial, by unfold Hid; rw [HK.out, HR.out]; omega⟩
                  case measure => simp [intOf]; omega
                case false =>
                  cases c6
                  case true =>
                    have HR := Lib.hid (HYES.out (by simp))
                    clear HYES HNO
                    go_wp2_with fail
                    refine (hdg _).mono ?_
                    rintro e w1 ⟨rfl, rfl⟩
                    go_wp2_with fail
                    go_roundw
                    case rel => exact ⟨k + 1, by omega, by go_num, by first | rfl | trivial, by unfold Hid; rw [HK.out, HR.out]; omega⟩
                    case measure => simp [intOf]; omega
                  case false =>
                    have HR := Lib.hid (HNO.out (by simp))
                    clear HYES HNO
                    go_wp2_with fail
                    refine (hdg _).mono ?_
                    rintro e w1 ⟨rfl, rfl⟩
                    go_wp2_with fail
                    exact post_is HQ ⟨by rw [HR.out]; rfl, rfl⟩
      case false =>
        cases c2
        case true =>
          have HR := Lib.hid (HYES.out (by simp))
          clear HYES HNO
          go_wp2_with fail
          refine (hdg _).mono ?_
          rintro e w1 ⟨rfl, rfl⟩
          go_wp2_with fail
          go_roundw
          case rel => exact ⟨k + 1, by omega, by go_num, by first | rfl | trivial, by unfold Hid; rw [HK.out, HR.out]; omega⟩
          case measure => simp [intOf]; omega
        case false =>
          cases c3
          case true =>
            have HR := Lib.hid (HYES.out (by simp))
            clear HYES HNO
            go_wp2_with fail
            refine (hdg _).mono ?_
            rintro e w1 ⟨rfl, rfl⟩
            go_wp2_with fail
            go_roundw
            case rel => exact ⟨k + 1, by omega, by go_num, by first | rfl | trivial, by unfold Hid; rw [HK.out, HR.out]; omega⟩
            case measure => simp [intOf]; omega
          case false =>
            cases c4
            case true =>
              have HR := Lib.hid (HYES.out (by simp))
              clear HYES HNO
              go_wp2_with fail
              refine (hdg _).mono ?_
              rintro e w1 ⟨rfl, rfl⟩
              go_wp2_with fail
              go_roundw
              case rel => exact ⟨k + 1, by omega, by go_num, by first | rfl | trivial, by unfold Hid; rw [HK.out, HR.out]; omega⟩
              case measure => simp [intOf]; omega
            case false =>
              cases c5
              case true =>
                have HR := Lib.hid (HYES.out (by simp))
                clear HYES HNO
                go_wp2_with fail
                refine (hdg _).mono ?_
                rintro e w1 ⟨rfl, rfl⟩
                go_wp2_with fail
                go_roundw
                case rel => exact ⟨k + 1, by omega, by go_num, by first | rfl | trivial, by unfold Hid; rw [HK.out, HR.out]; omega⟩
                case measure => simp [intOf]; omega
              case false =>
                cases c6
                case true =>
                  have HR := Lib.hid (HYES.out (by simp))
                  clear HYES HNO
                  go_wp2_with fail
                  refine (hdg _).mono ?_
                  rintro e w1 ⟨rfl, rfl⟩
                  go_wp2_with fail
                  go_roundw
                  case rel => exact ⟨k + 1, by omega, by go_num, by first | rfl | trivial, by unfold Hid; rw [HK.out, HR.out]; omega⟩
                  case measure => simp [intOf]; omega
                case false =>
                  have HR := Lib.hid (HNO.out (by simp))
                  clear HYES HNO
                  go_wp2_with fail
                  refine (hdg _).mono ?_
                  rintro e w1 ⟨rfl, rfl⟩
                  go_wp2_with fail
                  exact post_is HQ ⟨by rw [HR.out]; rfl, rfl⟩
    · have bl : decide (k < l.length) = false := by simp; omega
      have hrl : runN ptB l = l.length := by rw [HK.out, run_whole ptB l k hlt]; omega
      by_cases h1 : 1 ≤ l.length
      · have b1 : decide (1 ≤ l.length) = true := by simp; omega
        have b1' : decide ((1 : Int) ≤ (l.length : Int)) = true := by simp; omega
        by_cases h2 : l.length ≤ 32
        · have b2 : decide ((l.length : Int) ≤ 32) = true := by simp; omega
          have HE : Hid (isPathE l = true) := by unfold Hid isPathE; rw [hrl]; simp; omega
          clear hlt hrl h1 h2
          go_wp2_with fail
          exact post_is HQ ⟨by rw [HE.out]; rfl, rfl⟩
        · have b2 : decide ((l.length : Int) ≤ 32) = false := by simp; omega
          have HE : Hid (isPathE l = false) := by unfold Hid isPathE; rw [hrl]; simp; omega
          clear hlt hrl h1 h2
          go_wp2_with fail
          exact post_is HQ ⟨by rw [HE.out]; rfl, rfl⟩
      · have b1 : decide (1 ≤ l.length) = false := by rw [decide_eq_false_iff_not]; omega
        have b1' : decide ((1 : Int) ≤ (l.length : Int)) = false := by rw [decide_eq_false_iff_not]; omega
        have HE : Hid (isPathE l = false) := by
          have h0 : l.length = 0 := by omega
          unfold Hid isPathE
          rw [hrl, h0]
          rfl
        clear hlt hrl h1
        go_wp2_with fail
        exact post_is HQ ⟨by rw [HE.out]; rfl, rfl⟩

set_option maxRecDepth 20000 in
theorem risPattern_any (l : List UInt8) (w : World) (hm : l.length ≤ 140737488355328) : Calls Tryd.prog 21 #[.string ⟨l.toArray⟩] w (GotT w (patN l == l.length)) := by
  generalize hQ : GotT w (patN l == l.length) = Q
  have HQ := Lib.hid hQ
  have hlen := fun ty => len_at l #[9] ty rfl
  clear hQ
  go_enter Tryd.func21, Tryd.ntmps21
  go_wp2_with fail
  go_loopw [3] (fun v wr => ∃ k : Nat, k ≤ l.length ∧ v = .int .i64 (k : Int) ∧ wr = w ∧ Hid (patN l = k + patN (l.drop k))) (fun v _ => l.length - (intOf v).toNat)
  case atStart => exact ⟨0, Nat.zero_le _, rfl, rfl, by unfold Hid; simp⟩
  case round =>
    obtain ⟨k, hk, rfl, rfl, HK⟩ := hrel
    by_cases hlt : k < l.length
    · have hat := letter_at l k hlt (k : Int) rfl
      have hph := pat_here hlt
      have bl : decide (k < l.length) = true := by simp [hlt]
      have HNO : Hid (patN (l.drop k) = 0 → (patN l == l.length) = false) := by
        intro h
        rw [HK.out, h]
        simp
        omega
      by_cases h1 : l.getD k 0 = 47
      · have b1 := eq_nat 47 rfl h1
        have b10 : (((l.getD k 0).toNat : Int) == 10) = false := ne_nat (c := 10) 10 rfl (by rw [h1]; decide)
        have b13 : (((l.getD k 0).toNat : Int) == 13) = false := ne_nat (c := 13) 13 rfl (by rw [h1]; decide)
        rw [if_pos h1] at hph
        have HP := Lib.hid (HNO.out hph)
        clear hph h1
        generalize (l.getD k 0).toNat = c at *
        go_wp2_with fail
        exact post_is HQ ⟨by rw [HP.out]; rfl, rfl⟩
      · have b1 := ne_nat (c := 47) 47 rfl h1
        rw [if_neg h1] at hph
        unfold endB at hph
        obtain ⟨c10, h10⟩ : ∃ b, ((l.getD k 0).toNat == 10) = b := ⟨_, rfl⟩
        obtain ⟨c13, h13⟩ : ∃ b, ((l.getD k 0).toNat == 13) = b := ⟨_, rfl⟩
        have e10 := eqb _ 10 10 rfl _ h10
        have e13 := eqb _ 13 13 rfl _ h13
        rw [h10, h13] at hph
        cases c10
        case true =>
          rw [if_pos (by simp)] at hph
          have HP := Lib.hid (HNO.out hph)
          clear hph h1 h10 h13
          generalize (l.getD k 0).toNat = c at *
          go_wp2_with fail
          exact post_is HQ ⟨by rw [HP.out]; rfl, rfl⟩
        case false =>
        cases c13
        case true =>
          rw [if_pos (by simp)] at hph
          have HP := Lib.hid (HNO.out hph)
          clear hph h1 h10 h13
          generalize (l.getD k 0).toNat = c at *
          go_wp2_with fail
          exact post_is HQ ⟨by rw [HP.out]; rfl, rfl⟩
        case false =>
        rw [if_neg (by simp)] at hph
        clear h10 h13
        by_cases h3 : l.getD k 0 = 92
        · have b3 := eq_nat 92 rfl h3
          rw [if_pos h3] at hph
          by_cases h4 : k + 1 < l.length
          · have b4 : decide (l.length ≤ k + 1) = false := by simp; omega
            have b4' : decide ((l.length : Int) ≤ (k : Int) + 1) = false := by simp; omega
            have hat1 := letter_at l (k + 1) h4 ((k : Int) + 1) (by simp)
            rw [if_pos h4] at hph
            obtain ⟨d10, g10⟩ : ∃ b, ((l.getD (k + 1) 0).toNat == 10) = b := ⟨_, rfl⟩
            obtain ⟨d13, g13⟩ : ∃ b, ((l.getD (k + 1) 0).toNat == 13) = b := ⟨_, rfl⟩
            have f10 := eqb _ 10 10 rfl _ g10
            have f13 := eqb _ 13 13 rfl _ g13
            rw [g10, g13] at hph
            cases d10
            case true =>
              rw [if_pos (by simp)] at hph
              have HP := Lib.hid (HNO.out hph)
              clear hph h1 h3 g10 g13
              generalize (l.getD k 0).toNat = c at *
              generalize (l.getD (k + 1) 0).toNat = c1 at *
              go_wp2_with fail
              exact post_is HQ ⟨by rw [HP.out]; rfl, rfl⟩
            case false =>
            cases d13
            case true =>
              rw [if_pos (by simp)] at hph
              have HP := Lib.hid (HNO.out hph)
              clear hph h1 h3 g10 g13
              generalize (l.getD k 0).toNat = c at *
              generalize (l.getD (k + 1) 0).toNat = c1 at *
              go_wp2_with fail
              exact post_is HQ ⟨by rw [HP.out]; rfl, rfl⟩
            case false =>
              rw [if_neg (by simp)] at hph
              have HP := Lib.hid hph
              clear hph h1 h3 g10 g13
              generalize (l.getD k 0).toNat = c at *
              generalize (l.getD (k + 1) 0).toNat = c1 at *
              go_wp2_with fail
              go_roundw
              case rel => exact ⟨k + 2, by omega, by go_num, by first | rfl | trivial, by unfold Hid; rw [HK.out, HP.out]; omega⟩
              case measure => simp [intOf]; omega
          · have b4 : decide (l.length ≤ k + 1) = true := by simp; omega
            have b4' : decide ((l.length : Int) ≤ (k : Int) + 1) = true := by simp; omega
            rw [if_neg h4] at hph
            have HP := Lib.hid (HNO.out hph)
            clear hph h1 h3
            generalize (l.getD k 0).toNat = c at *
            go_wp2_with fail
            exact post_is HQ ⟨by rw [HP.out]; rfl, rfl⟩
        · have b3 := ne_nat (c := 92) 92 rfl h3
          rw [if_neg h3] at hph
          have HP := Lib.hid hph
          clear hph h1 h3
          generalize (l.getD k 0).toNat = c at *
          go_wp2_with fail
          go_roundw
          case rel => exact ⟨k + 1, by omega, by go_num, by first | rfl | trivial, by unfold Hid; rw [HK.out, HP.out]; omega⟩
          case measure => simp [intOf]; omega
    · have bl : decide (k < l.length) = false := by simp; omega
      have HE : Hid ((patN l == l.length) = true) := by
        unfold Hid
        rw [HK.out, pat_end l k hlt]
        simp
        omega
      clear hlt
      go_wp2_with fail
      exact post_is HQ ⟨by rw [HE.out]; rfl, rfl⟩

set_option maxRecDepth 20000 in
theorem may_walk (s : List UInt8) (z : Int) (w : World) (hT : Tab w) (hs : s.length ≤ 140737488351232) (hz1 : -9223372036854775808 ≤ z) (hz2 : z ≤ 9223372036854775807) : Calls Tryd.prog 4 #[.string ⟨s.toArray⟩, .int .i64 z] w (Yes w) := by
  generalize hQ : Yes w = Q
  have HQ := Lib.hid hQ
  clear hQ
  go_enter Tryd.func4, Tryd.ntmps4
  go_wp2_with fail
  refine (isName_any s _ hT (by unfold maxLen; omega)).mono ?_
  rintro e w1 ⟨rfl, hb1⟩
  have hT1 := hT.below hb1
  go_wp2_with fail
  refine (risName_any s _ (by omega)).mono ?_
  rintro e w2 ⟨rfl, rfl⟩
  generalize (kindE s == 1) = c1 at *
  go_wp2_with fail
  refine (isPath_any s _ (by unfold maxLen; omega)).mono ?_
  rintro e w2 ⟨rfl, hb2⟩
  have HB2 := Lib.hid (bl_trans hb1 hb2)
  have hT2 := hT1.below hb2
  clear hb1 hb2
  go_wp2_with fail
  refine (risPath_any s _ (by omega)).mono ?_
  rintro e w3 ⟨rfl, rfl⟩
  generalize isPathE s = c2 at *
  go_wp2_with fail
  refine (isPattern_any s _ (by omega)).mono ?_
  rintro e w3 ⟨rfl, hb3⟩
  have HB3 := Lib.hid (bl_trans HB2.out hb3)
  have hT3 := hT2.below hb3
  clear hb3
  go_wp2_with fail
  refine (risPattern_any s _ (by omega)).mono ?_
  rintro e w4 ⟨rfl, rfl⟩
  generalize (patN s == s.length) = c3 at *
  go_wp2_with fail
  refine (spelled_any z _ hT3).mono ?_
  rintro e w4 ⟨rfl, rfl⟩
  go_wp2_with fail
  refine (rspelled_any z _).mono ?_
  rintro e w4 ⟨rfl, rfl⟩
  generalize spellZ z = sz at *
  go_wp2_with fail
  refine (awake_any _ hT3).mono ?_
  rintro e w5 ⟨rfl, hb5⟩
  go_wp2_with fail
  exact post_is HQ ⟨by simp, bl_trans HB3.out hb5⟩


end Go.Proofs.YtlepaciglkodbaaDoor
