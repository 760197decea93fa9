/- Words of the grammar language: the program's small functions. No condition. -/
import Derived.Test.YtlepaciglkodbaaDoorBytes
import Derived.Test.YtlepaciglkodbaaDoorWdO
import Derived.LoopTactic
import Derived.Deep.QuietTactic
import Derived.BigQuiet
import Derived.Outline
import Derived.Lib.Hide
import Derived.WalkSpells
import Derived.WalkSmall
import Derived.Lib.Bytealg
import Derived.Laws.Externs
import Derived.Laws.RangeAny
import Derived.Laws.Strings3
set_option linter.unusedVariables false
set_option linter.unusedSimpArgs false
namespace Go.Proofs.YtlepaciglkodbaaDoor
open Go.RowKit

def GotT (w : World) (b : Bool) (e : Ending) (w' : World) : Prop := e = .returned (.bool b) ∧ w = w'
/-- A number, and nothing that was there has turned. -/
def GotN (w : World) (n : Nat) (e : Ending) (w' : World) : Prop := e = .returned (.int .i64 (n : Int)) ∧ Below w.heap.size w w'
def GotBool (w : World) (b : Bool) (e : Ending) (w' : World) : Prop := e = .returned (.bool b) ∧ Below w.heap.size w w'
theorem post_is {Q R : Ending → World → Prop} {e : Ending} {w : World} (h : Hid (R = Q)) (x : R e w) : Q e w := h.out ▸ x


set_option maxRecDepth 20000 in
theorem small_any (n : Nat) (w : World) : Calls Tryd.prog 53 #[.int .i32 (n : Int)] w (GotT w (smB n)) := by
  unfold smB
  generalize hQ : GotT w (decide (97 ≤ n) && decide (n ≤ 122)) = Q
  have HQ := Lib.hid hQ
  clear hQ
  by_cases h1 : 97 ≤ n
  · have b1 : decide ((97 : Int) ≤ (n : Int)) = true := by simp; omega
    by_cases h2 : n ≤ 122
    · have b2 : decide ((n : Int) ≤ 122) = true := by simp; omega
      have H1 := Lib.hid h1
      have H2 := Lib.hid h2
      clear h1 h2
      go_enter Tryd.func53, Tryd.ntmps53
      go_wp2_with fail
      exact post_is HQ ⟨by simp [H1.out, H2.out], rfl⟩
    · have b2 : decide ((n : Int) ≤ 122) = false := by simp; omega
      have H1 := Lib.hid h1
      have H2 := Lib.hid h2
      clear h1 h2
      go_enter Tryd.func53, Tryd.ntmps53
      go_wp2_with fail
      exact post_is HQ ⟨by simp [H1.out, H2.out], rfl⟩
  · have b1 : decide ((97 : Int) ≤ (n : Int)) = false := by simp; omega
    have H1 := Lib.hid h1
    clear h1
    go_enter Tryd.func53, Tryd.ntmps53
    go_wp2_with fail
    exact post_is HQ ⟨by simp [H1.out], rfl⟩

set_option maxRecDepth 20000 in
theorem digit_any (n : Nat) (w : World) : Calls Tryd.prog 54 #[.int .i32 (n : Int)] w (GotT w (dgB n)) := by
  unfold dgB
  generalize hQ : GotT w (decide (48 ≤ n) && decide (n ≤ 57)) = Q
  have HQ := Lib.hid hQ
  clear hQ
  by_cases h1 : 48 ≤ n
  · have b1 : decide ((48 : Int) ≤ (n : Int)) = true := by simp; omega
    by_cases h2 : n ≤ 57
    · have b2 : decide ((n : Int) ≤ 57) = true := by simp; omega
      have H1 := Lib.hid h1
      have H2 := Lib.hid h2
      clear h1 h2
      go_enter Tryd.func54, Tryd.ntmps54
      go_wp2_with fail
      exact post_is HQ ⟨by simp [H1.out, H2.out], rfl⟩
    · have b2 : decide ((n : Int) ≤ 57) = false := by simp; omega
      have H1 := Lib.hid h1
      have H2 := Lib.hid h2
      clear h1 h2
      go_enter Tryd.func54, Tryd.ntmps54
      go_wp2_with fail
      exact post_is HQ ⟨by simp [H1.out, H2.out], rfl⟩
  · have b1 : decide ((48 : Int) ≤ (n : Int)) = false := by simp; omega
    have H1 := Lib.hid h1
    clear h1
    go_enter Tryd.func54, Tryd.ntmps54
    go_wp2_with fail
    exact post_is HQ ⟨by simp [H1.out], rfl⟩

theorem eqb (n k : Nat) (z : Int) (hz : z = (k : Int)) (b : Bool) (h : (n == k) = b) : (((n : Nat) : Int) == z) = b := by
  subst hz
  rw [← h, Bool.eq_iff_iff]
  simp
  omega
set_option maxRecDepth 20000 in
theorem end_any (n : Nat) (w : World) : Calls Tryd.prog 55 #[.int .u8 (n : Int)] w (GotT w (endB n)) := by
  unfold endB
  generalize hQ : GotT w (n == 10 || n == 13) = Q
  have HQ := Lib.hid hQ
  clear hQ
  cases h1 : (n == 10) with
  | true =>
    have b1 := eqb n 10 10 rfl true h1
    have H1 := Lib.hid h1
    clear h1
    go_enter Tryd.func55, Tryd.ntmps55
    go_wp2_with fail
    exact post_is HQ ⟨by simp [H1.out], rfl⟩
  | false =>
    have b1 := eqb n 10 10 rfl false h1
    have H1 := Lib.hid h1
    clear h1
    cases h2 : (n == 13) with
    | true =>
      have b2 := eqb n 13 13 rfl true h2
      have H2 := Lib.hid h2
      clear h2
      go_enter Tryd.func55, Tryd.ntmps55
      go_wp2_with fail
      exact post_is HQ ⟨by simp [H1.out, H2.out], rfl⟩
    | false =>
      have b2 := eqb n 13 13 rfl false h2
      have H2 := Lib.hid h2
      clear h2
      go_enter Tryd.func55, Tryd.ntmps55
      go_wp2_with fail
      exact post_is HQ ⟨by simp [H1.out, H2.out], rfl⟩

set_option maxRecDepth 20000 in
theorem ptis_any (n : Nat) (w : World) : Calls Tryd.prog 52 #[.int .i32 (n : Int)] w (GotT w (ptB n)) := by
  unfold ptB
  generalize hQ : GotT w (smB n || dgB n || n == 46 || n == 95 || n == 45 || n == 47) = Q
  have HQ := Lib.hid hQ
  have hs := small_any n
  have hd := digit_any n
  clear hQ
  generalize smB n = b1 at *
  generalize dgB n = b2 at *
  obtain ⟨c3, h3⟩ : ∃ b, (n == 46) = b := ⟨_, rfl⟩
  obtain ⟨c4, h4⟩ : ∃ b, (n == 95) = b := ⟨_, rfl⟩
  obtain ⟨c5, h5⟩ : ∃ b, (n == 45) = b := ⟨_, rfl⟩
  obtain ⟨c6, h6⟩ : ∃ b, (n == 47) = b := ⟨_, rfl⟩
  have e3 := eqb n 46 46 rfl _ h3
  have e4 := eqb n 95 95 rfl _ h4
  have e5 := eqb n 45 45 rfl _ h5
  have e6 := eqb n 47 47 rfl _ h6
  rw [h3, h4, h5, h6] at HQ
  clear h3 h4 h5 h6
  cases b1
  case true =>
    go_enter Tryd.func52, Tryd.ntmps52
    go_wp2_with fail
    refine (hs _).mono ?_
    rintro e w1 ⟨rfl, rfl⟩
    go_wp2_with fail
    exact post_is HQ ⟨by simp, rfl⟩
  case false =>
  cases b2
  case true =>
    go_enter Tryd.func52, Tryd.ntmps52
    go_wp2_with fail
    refine (hs _).mono ?_
    rintro e w1 ⟨rfl, rfl⟩
    go_wp2_with fail
    refine (hd _).mono ?_
    rintro e w1 ⟨rfl, rfl⟩
    go_wp2_with fail
    exact post_is HQ ⟨by simp, rfl⟩
  case false =>
  cases c3
  case true =>
    go_enter Tryd.func52, Tryd.ntmps52
    go_wp2_with fail
    refine (hs _).mono ?_
    rintro e w1 ⟨rfl, rfl⟩
    go_wp2_with fail
    refine (hd _).mono ?_
    rintro e w1 ⟨rfl, rfl⟩
    go_wp2_with fail
    exact post_is HQ ⟨by simp, rfl⟩
  case false =>
  cases c4
  case true =>
    go_enter Tryd.func52, Tryd.ntmps52
    go_wp2_with fail
    refine (hs _).mono ?_
    rintro e w1 ⟨rfl, rfl⟩
    go_wp2_with fail
    refine (hd _).mono ?_
    rintro e w1 ⟨rfl, rfl⟩
    go_wp2_with fail
    exact post_is HQ ⟨by simp, rfl⟩
  case false =>
  cases c5
  case true =>
    go_enter Tryd.func52, Tryd.ntmps52
    go_wp2_with fail
    refine (hs _).mono ?_
    rintro e w1 ⟨rfl, rfl⟩
    go_wp2_with fail
    refine (hd _).mono ?_
    rintro e w1 ⟨rfl, rfl⟩
    go_wp2_with fail
    exact post_is HQ ⟨by simp, rfl⟩
  case false =>
    go_enter Tryd.func52, Tryd.ntmps52
    go_wp2_with fail
    refine (hs _).mono ?_
    rintro e w1 ⟨rfl, rfl⟩
    go_wp2_with fail
    refine (hd _).mono ?_
    rintro e w1 ⟨rfl, rfl⟩
    go_wp2_with fail
    exact post_is HQ ⟨by simp, rfl⟩
set_option maxRecDepth 20000 in
theorem ltis_any (n : Nat) (w : World) : Calls Tryd.prog 62 #[.int .i32 (n : Int)] w (GotT w (ltB n)) := by
  unfold ltB cpB
  generalize hQ : GotT w (smB n || (decide (65 ≤ n) && decide (n ≤ 90)) || dgB n || n == 95) = Q
  have HQ := Lib.hid hQ
  have hs := small_any n
  have hd := digit_any n
  clear hQ
  generalize smB n = b1 at *
  generalize dgB n = b2 at *
  obtain ⟨c3, h3⟩ : ∃ b, (n == 95) = b := ⟨_, rfl⟩
  obtain ⟨c4, h4⟩ : ∃ b, decide (65 ≤ n) = b := ⟨_, rfl⟩
  obtain ⟨c5, h5⟩ : ∃ b, decide (n ≤ 90) = b := ⟨_, rfl⟩
  have e3 := eqb n 95 95 rfl _ h3
  have e4 : decide ((65 : Int) ≤ (n : Int)) = c4 := by rw [← h4, decide_eq_decide]; omega
  have e5 : decide ((n : Int) ≤ 90) = c5 := by rw [← h5, decide_eq_decide]; omega
  rw [h3, h4, h5] at HQ
  clear h3 h4 h5
  cases b1
  case true =>
    go_enter Tryd.func62, Tryd.ntmps62
    go_wp2_with fail
    refine (hs _).mono ?_
    rintro e w1 ⟨rfl, rfl⟩
    go_wp2_with fail
    exact post_is HQ ⟨by simp, rfl⟩
  case false =>
  cases c4
  case true =>
    cases c5
    case true =>
      go_enter Tryd.func62, Tryd.ntmps62
      go_wp2_with fail
      refine (hs _).mono ?_
      rintro e w1 ⟨rfl, rfl⟩
      go_wp2_with fail
      exact post_is HQ ⟨by simp, rfl⟩
    case false =>
      cases b2
      case true =>
        go_enter Tryd.func62, Tryd.ntmps62
        go_wp2_with fail
        refine (hs _).mono ?_
        rintro e w1 ⟨rfl, rfl⟩
        go_wp2_with fail
        refine (hd _).mono ?_
        rintro e w1 ⟨rfl, rfl⟩
        go_wp2_with fail
        exact post_is HQ ⟨by simp, rfl⟩
      case false =>
        go_enter Tryd.func62, Tryd.ntmps62
        go_wp2_with fail
        refine (hs _).mono ?_
        rintro e w1 ⟨rfl, rfl⟩
        go_wp2_with fail
        refine (hd _).mono ?_
        rintro e w1 ⟨rfl, rfl⟩
        go_wp2_with fail
        exact post_is HQ ⟨by simp, rfl⟩
  case false =>
    cases b2
    case true =>
      go_enter Tryd.func62, Tryd.ntmps62
      go_wp2_with fail
      refine (hs _).mono ?_
      rintro e w1 ⟨rfl, rfl⟩
      go_wp2_with fail
      refine (hd _).mono ?_
      rintro e w1 ⟨rfl, rfl⟩
      go_wp2_with fail
      exact post_is HQ ⟨by simp, rfl⟩
    case false =>
      go_enter Tryd.func62, Tryd.ntmps62
      go_wp2_with fail
      refine (hs _).mono ?_
      rintro e w1 ⟨rfl, rfl⟩
      go_wp2_with fail
      refine (hd _).mono ?_
      rintro e w1 ⟨rfl, rfl⟩
      go_wp2_with fail
      exact post_is HQ ⟨by simp, rfl⟩

end Go.Proofs.YtlepaciglkodbaaDoor
