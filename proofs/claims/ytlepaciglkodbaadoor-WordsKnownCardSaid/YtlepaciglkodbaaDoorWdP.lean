/- Words of the grammar language: the document's small functions. No condition. -/
import Derived.Test.YtlepaciglkodbaaDoorWdD
set_option linter.unusedVariables false
set_option linter.unusedSimpArgs false
namespace Go.Proofs.YtlepaciglkodbaaDoor
open Go.RowKit

set_option maxRecDepth 20000 in
theorem rdigit_any (n : Nat) (w : World) : Calls Tryd.prog 36 #[.int .u8 (n : Int)] w (GotT w (dgB n)) := by
  unfold dgB
  generalize hQ : GotT w (decide (48 ≤ n) && decide (n ≤ 57)) = Q
  have HQ := Lib.hid hQ
  clear hQ
  by_cases h1 : 48 ≤ n
  · have b1 : decide ((48 : Int) ≤ (n : Int)) = true := by simp; omega
    by_cases h2 : n ≤ 57
    · have b2 : decide ((n : Int) ≤ 57) = true := by simp; omega
      have H1 := Lib.hid h1
      have H2 := Lib.hid h2
      clear h1 h2
      go_enter Tryd.func36, Tryd.ntmps36
      go_wp2_with fail
      exact post_is HQ ⟨by simp [H1.out, H2.out], rfl⟩
    · have b2 : decide ((n : Int) ≤ 57) = false := by simp; omega
      have H1 := Lib.hid h1
      have H2 := Lib.hid h2
      clear h1 h2
      go_enter Tryd.func36, Tryd.ntmps36
      go_wp2_with fail
      exact post_is HQ ⟨by simp [H1.out, H2.out], rfl⟩
  · have b1 : decide ((48 : Int) ≤ (n : Int)) = false := by simp; omega
    have H1 := Lib.hid h1
    clear h1
    go_enter Tryd.func36, Tryd.ntmps36
    go_wp2_with fail
    exact post_is HQ ⟨by simp [H1.out], rfl⟩

set_option maxRecDepth 20000 in
theorem rletter_any (n : Nat) (w : World) : Calls Tryd.prog 38 #[.int .u8 (n : Int)] w (GotT w (ltB n)) := by
  unfold ltB smB cpB dgB
  obtain ⟨a1, h1⟩ : ∃ b, decide (97 ≤ n) = b := ⟨_, rfl⟩
  obtain ⟨a2, h2⟩ : ∃ b, decide (n ≤ 122) = b := ⟨_, rfl⟩
  obtain ⟨a3, h3⟩ : ∃ b, decide (65 ≤ n) = b := ⟨_, rfl⟩
  obtain ⟨a4, h4⟩ : ∃ b, decide (n ≤ 90) = b := ⟨_, rfl⟩
  obtain ⟨a5, h5⟩ : ∃ b, decide (48 ≤ n) = b := ⟨_, rfl⟩
  obtain ⟨a6, h6⟩ : ∃ b, decide (n ≤ 57) = b := ⟨_, rfl⟩
  obtain ⟨a7, h7⟩ : ∃ b, (n == 95) = b := ⟨_, rfl⟩
  have e1 : decide ((97 : Int) ≤ (n : Int)) = a1 := by rw [← h1, decide_eq_decide]; omega
  have e2 : decide ((n : Int) ≤ 122) = a2 := by rw [← h2, decide_eq_decide]; omega
  have e3 : decide ((65 : Int) ≤ (n : Int)) = a3 := by rw [← h3, decide_eq_decide]; omega
  have e4 : decide ((n : Int) ≤ 90) = a4 := by rw [← h4, decide_eq_decide]; omega
  have e5 : decide ((48 : Int) ≤ (n : Int)) = a5 := by rw [← h5, decide_eq_decide]; omega
  have e6 : decide ((n : Int) ≤ 57) = a6 := by rw [← h6, decide_eq_decide]; omega
  have e7 := eqb n 95 95 rfl _ h7
  rw [h1, h2, h3, h4, h5, h6, h7]
  clear h1 h2 h3 h4 h5 h6 h7
  generalize hQ : GotT w ((a1 && a2) || (a3 && a4) || (a5 && a6) || a7) = Q
  have HQ := Lib.hid hQ
  clear hQ
  cases a1
  case true =>
    cases a2
    case true =>
      go_enter Tryd.func38, Tryd.ntmps38
      go_wp2_with fail
      exact post_is HQ ⟨by simp, rfl⟩
    case false =>
      cases a3
      case true =>
        cases a4
        case true =>
          go_enter Tryd.func38, Tryd.ntmps38
          go_wp2_with fail
          exact post_is HQ ⟨by simp, rfl⟩
        case false =>
          cases a5
          case true =>
            cases a6
            case true =>
              go_enter Tryd.func38, Tryd.ntmps38
              go_wp2_with fail
              exact post_is HQ ⟨by simp, rfl⟩
            case false =>
              cases a7
              case true =>
                go_enter Tryd.func38, Tryd.ntmps38
                go_wp2_with fail
                exact post_is HQ ⟨by simp, rfl⟩
              case false =>
                go_enter Tryd.func38, Tryd.ntmps38
                go_wp2_with fail
                exact post_is HQ ⟨by simp, rfl⟩
          case false =>
            cases a7
            case true =>
              go_enter Tryd.func38, Tryd.ntmps38
              go_wp2_with fail
              exact post_is HQ ⟨by simp, rfl⟩
            case false =>
              go_enter Tryd.func38, Tryd.ntmps38
              go_wp2_with fail
              exact post_is HQ ⟨by simp, rfl⟩
      case false =>
        cases a5
        case true =>
          cases a6
          case true =>
            go_enter Tryd.func38, Tryd.ntmps38
            go_wp2_with fail
            exact post_is HQ ⟨by simp, rfl⟩
          case false =>
            cases a7
            case true =>
              go_enter Tryd.func38, Tryd.ntmps38
              go_wp2_with fail
              exact post_is HQ ⟨by simp, rfl⟩
            case false =>
              go_enter Tryd.func38, Tryd.ntmps38
              go_wp2_with fail
              exact post_is HQ ⟨by simp, rfl⟩
        case false =>
          cases a7
          case true =>
            go_enter Tryd.func38, Tryd.ntmps38
            go_wp2_with fail
            exact post_is HQ ⟨by simp, rfl⟩
          case false =>
            go_enter Tryd.func38, Tryd.ntmps38
            go_wp2_with fail
            exact post_is HQ ⟨by simp, rfl⟩
  case false =>
    cases a3
    case true =>
      cases a4
      case true =>
        go_enter Tryd.func38, Tryd.ntmps38
        go_wp2_with fail
        exact post_is HQ ⟨by simp, rfl⟩
      case false =>
        cases a5
        case true =>
          cases a6
          case true =>
            go_enter Tryd.func38, Tryd.ntmps38
            go_wp2_with fail
            exact post_is HQ ⟨by simp, rfl⟩
          case false =>
            cases a7
            case true =>
              go_enter Tryd.func38, Tryd.ntmps38
              go_wp2_with fail
              exact post_is HQ ⟨by simp, rfl⟩
            case false =>
              go_enter Tryd.func38, Tryd.ntmps38
              go_wp2_with fail
              exact post_is HQ ⟨by simp, rfl⟩
        case false =>
          cases a7
          case true =>
            go_enter Tryd.func38, Tryd.ntmps38
            go_wp2_with fail
            exact post_is HQ ⟨by simp, rfl⟩
          case false =>
            go_enter Tryd.func38, Tryd.ntmps38
            go_wp2_with fail
            exact post_is HQ ⟨by simp, rfl⟩
    case false =>
      cases a5
      case true =>
        cases a6
        case true =>
          go_enter Tryd.func38, Tryd.ntmps38
          go_wp2_with fail
          exact post_is HQ ⟨by simp, rfl⟩
        case false =>
          cases a7
          case true =>
            go_enter Tryd.func38, Tryd.ntmps38
            go_wp2_with fail
            exact post_is HQ ⟨by simp, rfl⟩
          case false =>
            go_enter Tryd.func38, Tryd.ntmps38
            go_wp2_with fail
            exact post_is HQ ⟨by simp, rfl⟩
      case false =>
        cases a7
        case true =>
          go_enter Tryd.func38, Tryd.ntmps38
          go_wp2_with fail
          exact post_is HQ ⟨by simp, rfl⟩
        case false =>
          go_enter Tryd.func38, Tryd.ntmps38
          go_wp2_with fail
          exact post_is HQ ⟨by simp, rfl⟩

set_option maxRecDepth 20000 in
theorem rspelled_any (z : Int) (w : World) : Calls Tryd.prog 23 #[.int .i64 z] w (fun e w' => e = .returned (.string ⟨(spellZ z).toArray⟩) ∧ w = w') := by
  generalize hQ : (fun (e : Ending) (w' : World) => e = .returned (.string ⟨(spellZ z).toArray⟩) ∧ w = w') = Q
  have HQ := Lib.hid hQ
  clear hQ
  by_cases h5 : z = 5
  · subst h5
    go_enter Tryd.func23, Tryd.ntmps23
    go_wp2_with fail
    exact post_is HQ ⟨rfl, rfl⟩
  have b5 : (z == 5) = false := by simpa using h5
  by_cases h6 : z = 6
  · subst h6
    go_enter Tryd.func23, Tryd.ntmps23
    go_wp2_with fail
    exact post_is HQ ⟨rfl, rfl⟩
  have b6 : (z == 6) = false := by simpa using h6
  by_cases h7 : z = 7
  · subst h7
    go_enter Tryd.func23, Tryd.ntmps23
    go_wp2_with fail
    exact post_is HQ ⟨rfl, rfl⟩
  have b7 : (z == 7) = false := by simpa using h7
  by_cases h8 : z = 8
  · subst h8
    go_enter Tryd.func23, Tryd.ntmps23
    go_wp2_with fail
    exact post_is HQ ⟨rfl, rfl⟩
  have b8 : (z == 8) = false := by simpa using h8
  by_cases h9 : z = 9
  · subst h9
    go_enter Tryd.func23, Tryd.ntmps23
    go_wp2_with fail
    exact post_is HQ ⟨rfl, rfl⟩
  have b9 : (z == 9) = false := by simpa using h9
  by_cases h10 : z = 10
  · subst h10
    go_enter Tryd.func23, Tryd.ntmps23
    go_wp2_with fail
    exact post_is HQ ⟨rfl, rfl⟩
  have b10 : (z == 10) = false := by simpa using h10
  by_cases h11 : z = 11
  · subst h11
    go_enter Tryd.func23, Tryd.ntmps23
    go_wp2_with fail
    exact post_is HQ ⟨rfl, rfl⟩
  have b11 : (z == 11) = false := by simpa using h11
  by_cases h12 : z = 12
  · subst h12
    go_enter Tryd.func23, Tryd.ntmps23
    go_wp2_with fail
    exact post_is HQ ⟨rfl, rfl⟩
  have b12 : (z == 12) = false := by simpa using h12
  by_cases h13 : z = 13
  · subst h13
    go_enter Tryd.func23, Tryd.ntmps23
    go_wp2_with fail
    exact post_is HQ ⟨rfl, rfl⟩
  have b13 : (z == 13) = false := by simpa using h13
  have hs : spellZ z = [] := by
    unfold spellZ
    split
    · rfl
    · obtain ⟨k, rfl⟩ : ∃ k : Nat, z = (k : Int) := ⟨z.toNat, by omega⟩
      rw [Int.toNat_natCast]
      by_cases hb : 13 < k
      · exact spell_out hb
      · have hk : k < 5 := by omega
        match k, hk with
        | 0, _ => rfl
        | 1, _ => rfl
        | 2, _ => rfl
        | 3, _ => rfl
        | 4, _ => rfl
  have HS := Lib.hid hs
  clear hs h5 h6 h7 h8 h9 h10 h11 h12 h13
  go_enter Tryd.func23, Tryd.ntmps23
  go_wp2_with fail
  exact post_is HQ ⟨by rw [HS.out]; rfl, rfl⟩

/-- The document's kind of letters: 0, if they are too many. -/
def rkindE (s : List UInt8) : Nat := if kindW s = 1 then (if 24 < s.length then 0 else 1) else kindW s
set_option maxRecDepth 20000 in
theorem rkind_any (l : List UInt8) (w : World) (hm : l.length ≤ 140737488355328) : Calls Tryd.prog 37 #[.string ⟨l.toArray⟩] w (fun e w' => e = .returned (.int .i64 (rkindE l : Int)) ∧ w = w') := by
  generalize hQ : (fun (e : Ending) (w' : World) => e = .returned (.int .i64 (rkindE l : Int)) ∧ w = w') = Q
  have HQ := Lib.hid hQ
  clear hQ
  have hlen := fun ty => len_at l #[9] ty rfl
  have HW : Hid (kindW l = kindFrom l (14 - 5) 5) := rfl
  go_enter Tryd.func37, Tryd.ntmps37
  go_wp2_with fail
  go_loopw [3] (fun v wr => ∃ k : Nat, 5 ≤ k ∧ k ≤ 14 ∧ v = .int .i64 (k : Int) ∧ Hid (kindW l = kindFrom l (14 - k) k) ∧ wr = w) (fun v _ => 14 - (intOf v).toNat)
  case atStart => exact ⟨5, by omega, by omega, rfl, HW, rfl⟩
  case round =>
    obtain ⟨k, hk5, hk, rfl, HK, hw⟩ := hrel
    subst hw
    by_cases hlt : k < 14
    · have bk : decide ((k : Int) ≤ 13) = true := by simp; omega
      have hat := kindFrom_at l k hlt
      have hsp := fun w => rspelled_any (k : Int) w
      rw [show spellZ (k : Int) = spellE k by unfold spellZ; rw [if_neg (by omega)]; rfl] at hsp
      by_cases hs : l = spellE k
      · have bs : (l == spellE k) = true := by rw [hs]; simp
        have HA : Hid (rkindE l = k) := by
          unfold Hid rkindE
          rw [HK.out, hat, if_pos hs, if_neg (by omega)]
        clear hat hs
        generalize spellE k = s at *
        go_wp2_with fail
        refine (hsp _).mono ?_
        rintro e w1 ⟨rfl, rfl⟩
        go_wp2_with fail
        exact post_is HQ ⟨by rw [HA.out]; rfl, rfl⟩
      · have bs : (l == spellE k) = false := by simpa using hs
        have HA := Lib.hid (hat.trans (if_neg hs))
        clear hat hs
        generalize spellE k = s at *
        go_wp2_with fail
        refine (hsp _).mono ?_
        rintro e w1 ⟨rfl, rfl⟩
        go_wp2_with fail
        go_roundw
        case rel => exact ⟨k + 1, by omega, by omega, by go_num, by unfold Hid; rw [HK.out, HA.out], by first | rfl | trivial⟩
        case measure => simp [intOf]; omega
    · have bk : decide ((k : Int) ≤ 13) = false := by simp; omega
      have hk1 : kindW l = 1 := by
        rw [HK.out, show 14 - k = 0 by omega]
        rfl
      by_cases hb : 24 < l.length
      · have b1 : decide ((24 : Int) < (l.length : Int)) = true := by simp; omega
        have HA : Hid (rkindE l = 0) := by unfold Hid rkindE; rw [if_pos hk1, if_pos hb]
        clear hb hk1
        go_wp2_with fail
        exact post_is HQ ⟨by rw [HA.out]; rfl, rfl⟩
      · have b1 : decide ((24 : Int) < (l.length : Int)) = false := by simp; omega
        have HA : Hid (rkindE l = 1) := by unfold Hid rkindE; rw [if_pos hk1, if_neg hb]
        clear hb hk1
        go_wp2_with fail
        exact post_is HQ ⟨by rw [HA.out]; rfl, rfl⟩


end Go.Proofs.YtlepaciglkodbaaDoor
