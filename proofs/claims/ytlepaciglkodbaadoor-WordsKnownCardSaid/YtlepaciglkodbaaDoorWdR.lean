/- Words of the grammar language: where a path or a pattern ends, the word at a place. No condition. -/
import Derived.Test.YtlepaciglkodbaaDoorWdQ
import Derived.Test.YtlepaciglkodbaaDoorWdJ
set_option linter.unusedVariables false
set_option linter.unusedSimpArgs false
namespace Go.Proofs.YtlepaciglkodbaaDoor
open Go.RowKit

theorem Rd.getD {w : World} {A : Option Addr} {l : List UInt8} (h : Rd w A l) {k : Nat} (hk : k < l.length) : ∃ ad, A = some ad ∧ w.cell? (ad.add k) = some (.int .u8 ((l.getD k 0).toNat : Int)) := by
  obtain ⟨ad, e, hc⟩ := h.cell hk
  refine ⟨ad, e, ?_⟩
  rw [hc, List.getD_eq_getElem?_getD, List.getElem?_eq_getElem hk]
  rfl
def stopP (n : Nat) : Bool := !(endB n) && !(n == 34)
/-- Where a pattern ends; where a path does. -/
def endPE (b : List UInt8) (p : Nat) : Int := if (b.drop (p + 1 + patN (b.drop (p + 1)))).head? = some 47 then ((p + 1 + patN (b.drop (p + 1)) + 1 : Nat) : Int) else -1
def endQE (b : List UInt8) (p : Nat) : Int := if (b.drop (p + 1 + runN stopP (b.drop (p + 1)))).head? = some 34 then ((p + 1 + runN stopP (b.drop (p + 1)) + 1 : Nat) : Int) else -1
def GotZ (w : World) (z : Int) (e : Ending) (w' : World) : Prop := e = .returned (.int .i64 z) ∧ Below w.heap.size w w'

set_option maxRecDepth 20000 in
theorem endP_any (A : Option Addr) (n c p : Nat) (b : List UInt8) (w : World) (hl : b.length = n) (hr : Rd w A b) (hn : n ≤ 8192) (hp : p < n) (hq : b.getD p 0 = 47) : Calls Tryd.prog 50 #[.slice A n c, .int .i64 (p : Int)] w (GotZ w (endPE b p)) := by
  obtain ⟨P, hP⟩ : ∃ P, patN (b.drop (p + 1)) = P := ⟨_, rfl⟩
  generalize hQ : GotZ w (endPE b p) = Q
  unfold endPE at hQ
  rw [hP] at hQ
  have HQ := Lib.hid hQ
  have HP := Lib.hid hP
  have HR := Lib.hid hr
  have HL := Lib.hid hl
  have HB := Lib.hid hq
  obtain ⟨ad0, hA, hc0⟩ := hr.getD (k := p) (by omega)
  subst hA
  rw [hq, show ((47 : UInt8).toNat : Int) = 47 from rfl] at hc0
  have HC0 := Lib.hid hc0
  clear hQ hP hr hl hq hc0
  go_enter Tryd.func50, Tryd.ntmps50
  go_wp2_with fail
  go_loopw [5] (fun v wr => ∃ i : Nat, p + 1 ≤ i ∧ v = .int .i64 (i : Int) ∧ Below w.heap.size w wr ∧ Hid ((i ≤ n ∧ p + 1 + P = i + patN (b.drop i)) ∨ (i = n + 1 ∧ ¬ (b.drop (p + 1 + P)).head? = some 47))) (fun v _ => n + 1 - (intOf v).toNat)
  case atStart => exact ⟨p + 1, Nat.le_refl _, by first | rfl | (push_cast; rfl), Below.refl _ _, Or.inl ⟨by omega, by rw [HP.out]⟩⟩
  case round =>
    obtain ⟨i, hi, rfl, hbw, HK⟩ := hrel
    by_cases hlt : i < n
    · obtain ⟨hin, hk⟩ := HK.out.resolve_right (by omega)
      have hib : i < b.length := by rw [HL.out]; exact hlt
      obtain ⟨ad, hA, hci⟩ := (HR.out.below hbw).getD hib
      obtain rfl := Option.some.inj hA
      have hcp := (hbw.cell (World.block_lt_of_cell? w _ HC0.out)).trans HC0.out
      have hph := pat_here hib
      have bl : decide (i < n) = true := by simp [hlt]
      have HHD := Lib.hid (fun (c : UInt8) => head_at hib c)
      have HBW := Lib.hid hbw
      have HLT := Lib.hid hlt
      clear hbw
      by_cases h1 : b.getD i 0 = 47
      · have b10 : (((b.getD i 0).toNat : Int) == 10) = false := ne_nat (c := 10) 10 rfl (by rw [h1]; decide)
        have b13 : (((b.getD i 0).toNat : Int) == 13) = false := ne_nat (c := 13) 13 rfl (by rw [h1]; decide)
        have b47 := eq_nat 47 rfl h1
        rw [if_pos h1] at hph
        have HE : Hid ((if (b.drop (p + 1 + P)).head? = some 47 then ((p + 1 + P + 1 : Nat) : Int) else -1) = (i : Int) + 1) := by
          unfold Hid
          rw [hk, hph, Nat.add_zero, if_pos ((HHD.out 47).2 h1)]
          simp
        clear hph h1 hk
        generalize (b.getD i 0).toNat = x at *
        go_wp2_with fail
        go_quiet (fail)
        go_wp2_with fail
        exact post_is HQ ⟨by rw [HE.out]; try rfl, bl_drewN HBW.out _⟩
      · have b47 := ne_nat (c := 47) 47 rfl h1
        rw [if_neg h1] at hph
        have HN : Hid (patN (b.drop i) = 0 → (if (b.drop (p + 1 + P)).head? = some 47 then ((p + 1 + P + 1 : Nat) : Int) else -1) = -1) := by
          intro h
          rw [hk, h, Nat.add_zero, if_neg (fun e => h1 ((HHD.out 47).1 e))]
        unfold endB at hph
        obtain ⟨c10, h10⟩ : ∃ y, ((b.getD i 0).toNat == 10) = y := ⟨_, rfl⟩
        obtain ⟨c13, h13⟩ : ∃ y, ((b.getD i 0).toNat == 13) = y := ⟨_, rfl⟩
        have e10 := eqb _ 10 10 rfl _ h10
        have e13 := eqb _ 13 13 rfl _ h13
        rw [h10, h13] at hph
        cases c10
        case true =>
          rw [if_pos (by simp)] at hph
          have HE := Lib.hid (HN.out hph)
          clear hph h1 h10 h13 hk
          generalize (b.getD i 0).toNat = x at *
          go_wp2_with fail
          exact post_is HQ ⟨by rw [HE.out]; try rfl, HBW.out⟩
        case false =>
        cases c13
        case true =>
          rw [if_pos (by simp)] at hph
          have HE := Lib.hid (HN.out hph)
          clear hph h1 h10 h13 hk
          generalize (b.getD i 0).toNat = x at *
          go_wp2_with fail
          exact post_is HQ ⟨by rw [HE.out]; try rfl, HBW.out⟩
        case false =>
        rw [if_neg (by simp)] at hph
        clear h10 h13
        have HH1 := Lib.hid h1
        by_cases h3 : b.getD i 0 = 92
        · have b3 := eq_nat 92 rfl h3
          rw [if_pos h3] at hph
          by_cases h4 : i + 1 < b.length
          · have h4n : i + 1 < n := by rw [HL.out] at h4; exact h4
            obtain ⟨ad, hA, hci1⟩ := (HR.out.below HBW.out).getD h4
            obtain rfl := Option.some.inj hA
            rw [show ad0.add (i + 1) = ⟨ad0.block, ad0.off + (i + 1), none⟩ by simp [Addr.add]] at hci1
            have b4 : decide (i + 1 < n) = true := by simp; omega
            have b4' : decide ((i : Int) + 1 < (n : Int)) = true := by simp; omega
            rw [if_pos h4] at hph
            obtain ⟨d10, g10⟩ : ∃ y, ((b.getD (i + 1) 0).toNat == 10) = y := ⟨_, rfl⟩
            obtain ⟨d13, g13⟩ : ∃ y, ((b.getD (i + 1) 0).toNat == 13) = y := ⟨_, rfl⟩
            have f10 := eqb _ 10 10 rfl _ g10
            have f13 := eqb _ 13 13 rfl _ g13
            rw [g10, g13] at hph
            obtain ⟨i1, hi1⟩ : ∃ i1, i + 1 = i1 := ⟨_, rfl⟩
            have HI1 := Lib.hid hi1
            have hii : (i : Int) + 1 = (i1 : Int) := by omega
            cases d10
            case true =>
              rw [if_pos (by simp)] at hph
              have HE := Lib.hid (HN.out hph)
              clear hph h1 h3 g10 g13 hk h4 hi1 hii
              generalize (b.getD i 0).toNat = x at *
              generalize (b.getD (i + 1) 0).toNat = x1 at *
              go_wp2_with fail
              go_quiet (fail)
              go_wp2_with fail
              exact post_is HQ ⟨by rw [HE.out]; try rfl, bl_drewN HBW.out _⟩
            case false =>
            cases d13
            case true =>
              rw [if_pos (by simp)] at hph
              have HE := Lib.hid (HN.out hph)
              clear hph h1 h3 g10 g13 hk h4 hi1 hii
              generalize (b.getD i 0).toNat = x at *
              generalize (b.getD (i + 1) 0).toNat = x1 at *
              go_wp2_with fail
              go_quiet (fail)
              go_wp2_with fail
              exact post_is HQ ⟨by rw [HE.out]; try rfl, bl_drewN HBW.out _⟩
            case false =>
              rw [if_neg (by simp)] at hph
              have HK2 := Lib.hid (show p + 1 + P = (i + 2) + patN (b.drop (i + 2)) by rw [hk, hph]; omega)
              clear hph h1 h3 g10 g13 hk h4 hi1 hii
              generalize (b.getD i 0).toNat = x at *
              generalize (b.getD (i + 1) 0).toNat = x1 at *
              go_wp2_with fail
              go_quiet (fail)
              go_wp2_with fail
              go_roundw
              case rel => exact ⟨i + 2, by omega, by go_num, bl_drewN HBW.out _, Or.inl ⟨by omega, HK2.out⟩⟩
              case measure => have := HLT.out; simp [intOf]; omega
          · have h4n : i + 1 = n := by rw [HL.out] at h4; omega
            have b4 : decide (i + 1 < n) = false := by simp; omega
            have b4' : decide ((i : Int) + 1 < (n : Int)) = false := by simp; omega
            rw [if_neg h4] at hph
            have HE := Lib.hid (show ¬ (b.drop (p + 1 + P)).head? = some 47 by rw [hk, hph, Nat.add_zero]; exact fun e => h1 ((HHD.out 47).1 e))
            clear hph h1 h3 hk h4
            generalize (b.getD i 0).toNat = x at *
            go_wp2_with fail
            go_quiet (fail)
            go_wp2_with fail
            go_roundw
            case rel => exact ⟨i + 2, by omega, by go_num, bl_drewN HBW.out _, Or.inr ⟨by omega, HE.out⟩⟩
            case measure => have := HLT.out; simp [intOf]; omega
        · have b3 := ne_nat (c := 92) 92 rfl h3
          rw [if_neg h3] at hph
          have HK2 := Lib.hid (show p + 1 + P = (i + 1) + patN (b.drop (i + 1)) by rw [hk, hph]; omega)
          clear hph h1 h3 hk
          generalize (b.getD i 0).toNat = x at *
          go_wp2_with fail
          go_quiet (fail)
          go_wp2_with fail
          go_roundw
          case rel => exact ⟨i + 1, by omega, by go_num, bl_drewN HBW.out _, Or.inl ⟨by omega, HK2.out⟩⟩
          case measure => have := HLT.out; simp [intOf]; omega
    · have bl : decide (i < n) = false := by simp; omega
      have HE : Hid ((if (b.drop (p + 1 + P)).head? = some 47 then ((p + 1 + P + 1 : Nat) : Int) else -1) = -1) := by
        unfold Hid
        rcases HK.out with ⟨h1, h2⟩ | ⟨_, h2⟩
        · have h3 := HL.out
          rw [pat_end b i (by omega)] at h2
          rw [if_neg (head_out (by omega) 47)]
        · rw [if_neg h2]
      clear hlt
      go_wp2_with fail
      exact post_is HQ ⟨by rw [HE.out]; try rfl, hbw⟩


theorem run_mono (p q : Nat → Bool) (h : ∀ n, p n = true → q n = true) : ∀ l : List UInt8, runN p l ≤ runN q l
  | [] => Nat.le_refl _
  | b :: t => by
    have := run_mono p q h t
    rw [runN, runN]
    by_cases hb : p b.toNat = true
    · rw [if_pos hb, if_pos (h _ hb)]; omega
    · rw [if_neg hb]; omega
theorem run_at (p : Nat → Bool) : ∀ (l : List UInt8) (i : Nat), i < runN p l → p (l.getD i 0).toNat = true
  | [], i, h => by simp [runN] at h
  | b :: t, i, h => by
    rw [runN] at h
    by_cases hb : p b.toNat = true
    · rw [if_pos hb] at h
      cases i with
      | zero => exact hb
      | succ i => exact run_at p t i (by omega)
    · rw [if_neg hb] at h; omega
theorem run_take (p : Nat → Bool) : ∀ (l : List UInt8) (n : Nat), runN p (l.take n) = n → n ≤ runN p l
  | l, 0, h => Nat.zero_le _
  | [], n + 1, h => by simp [runN] at h
  | b :: t, n + 1, h => by
    rw [List.take_succ_cons, runN] at h
    by_cases hb : p b.toNat = true
    · rw [if_pos hb] at h
      rw [runN, if_pos hb]
      have := run_take p t n (by omega)
      omega
    · rw [if_neg hb] at h; omega
theorem pt_stop (n : Nat) (h : ptB n = true) : stopP n = true := by
  unfold ptB smB dgB at h
  unfold stopP endB
  simp at h ⊢
  omega
/-- A path's word, seen by where the next sign of an end stands. -/
theorem path_is (T : List UInt8) : ((T.drop (runN stopP T)).head? = some 34 ∧ isPathE (T.take (runN stopP T)) = true ↔ (0 < runN ptB T ∧ runN ptB T ≤ 32 ∧ (T.drop (runN ptB T)).head? = some 34)) ∧
    (0 < runN ptB T ∧ runN ptB T ≤ 32 ∧ (T.drop (runN ptB T)).head? = some 34 → runN stopP T = runN ptB T) := by
  have h1 := run_mono ptB stopP pt_stop T
  have hle := run_le stopP T
  have hlen : (T.take (runN stopP T)).length = runN stopP T := by rw [List.length_take]; omega
  have back : 0 < runN ptB T ∧ runN ptB T ≤ 32 ∧ (T.drop (runN ptB T)).head? = some 34 → runN stopP T = runN ptB T := by
    rintro ⟨_, _, h4⟩
    have h5 := head_drop h4
    have h6 := (head_at h5 34).1 h4
    rcases Nat.lt_or_ge (runN ptB T) (runN stopP T) with h7 | h7
    · have := run_at stopP T _ h7
      rw [h6] at this
      exact absurd this (by decide)
    · omega
  refine ⟨⟨fun ⟨h2, h3⟩ => ?_, fun h => ?_⟩, back⟩
  · unfold isPathE at h3
    rw [hlen] at h3
    simp only [Bool.and_eq_true, decide_eq_true_eq, beq_iff_eq] at h3
    obtain ⟨⟨h4, h5⟩, h6⟩ := h3
    have h7 := run_take ptB T _ h5
    have h8 : runN stopP T = runN ptB T := by omega
    rw [h5] at h4 h6
    rw [← h8]
    exact ⟨h4, h6, h2⟩
  · have h8 := back h
    rw [h8, isPath_run]
    exact ⟨h.2.2, by simp [h.1, h.2.1]⟩

set_option maxRecDepth 20000 in
theorem endQ_any (A : Option Addr) (n c p : Nat) (b : List UInt8) (w : World) (hl : b.length = n) (hr : Rd w A b) (hn : n ≤ 8192) (hp : p < n) (hq : b.getD p 0 = 34) : Calls Tryd.prog 50 #[.slice A n c, .int .i64 (p : Int)] w (GotZ w (endQE b p)) := by
  obtain ⟨P, hP⟩ : ∃ P, runN stopP (b.drop (p + 1)) = P := ⟨_, rfl⟩
  generalize hQ : GotZ w (endQE b p) = Q
  unfold endQE at hQ
  rw [hP] at hQ
  have HQ := Lib.hid hQ
  have HP := Lib.hid hP
  have HR := Lib.hid hr
  have HL := Lib.hid hl
  have HB := Lib.hid hq
  obtain ⟨ad0, hA, hc0⟩ := hr.getD (k := p) (by omega)
  subst hA
  rw [hq, show ((34 : UInt8).toNat : Int) = 34 from rfl] at hc0
  have HC0 := Lib.hid hc0
  clear hQ hP hr hl hq hc0
  go_enter Tryd.func50, Tryd.ntmps50
  go_wp2_with fail
  go_loopw [5] (fun v wr => ∃ i : Nat, p + 1 ≤ i ∧ v = .int .i64 (i : Int) ∧ Below w.heap.size w wr ∧ i ≤ n ∧ Hid (p + 1 + P = i + runN stopP (b.drop i))) (fun v _ => n + 1 - (intOf v).toNat)
  case atStart => exact ⟨p + 1, Nat.le_refl _, by first | rfl | (push_cast; rfl), Below.refl _ _, by omega, by unfold Hid; rw [HP.out]⟩
  case round =>
    obtain ⟨i, hi, rfl, hbw, hin, HK⟩ := hrel
    by_cases hlt : i < n
    · have hk := HK.out
      have hib : i < b.length := by rw [HL.out]; exact hlt
      obtain ⟨ad, hA, hci⟩ := (HR.out.below hbw).getD hib
      obtain rfl := Option.some.inj hA
      have hcp := (hbw.cell (World.block_lt_of_cell? w _ HC0.out)).trans HC0.out
      have bl : decide (i < n) = true := by simp [hlt]
      have HHD := Lib.hid (fun (c : UInt8) => head_at hib c)
      have HBW := Lib.hid hbw
      have HLT := Lib.hid hlt
      have HNO := Lib.hid (fun h => run_no (p := stopP) hib h)
      have HYES := Lib.hid (fun h => run_yes (p := stopP) hib h)
      clear hbw
      by_cases h1 : b.getD i 0 = 34
      · have b10 : (((b.getD i 0).toNat : Int) == 10) = false := ne_nat (c := 10) 10 rfl (by rw [h1]; decide)
        have b13 : (((b.getD i 0).toNat : Int) == 13) = false := ne_nat (c := 13) 13 rfl (by rw [h1]; decide)
        have b47 := eq_nat 34 rfl h1
        have hph := HNO.out (by rw [h1]; decide)
        have HE : Hid ((if (b.drop (p + 1 + P)).head? = some 34 then ((p + 1 + P + 1 : Nat) : Int) else -1) = (i : Int) + 1) := by
          unfold Hid
          rw [hk, hph, Nat.add_zero, if_pos ((HHD.out 34).2 h1)]
          simp
        clear hph h1 hk HNO HYES
        generalize (b.getD i 0).toNat = x at *
        go_wp2_with fail
        go_quiet (fail)
        go_wp2_with fail
        exact post_is HQ ⟨by rw [HE.out]; try rfl, bl_drewN HBW.out _⟩
      · have b47 := ne_nat (c := 34) 34 rfl h1
        have HN : Hid (stopP (b.getD i 0).toNat = false → (if (b.drop (p + 1 + P)).head? = some 34 then ((p + 1 + P + 1 : Nat) : Int) else -1) = -1) := by
          intro h
          rw [hk, HNO.out h, Nat.add_zero, if_neg (fun e => h1 ((HHD.out 34).1 e))]
        obtain ⟨c10, h10⟩ : ∃ y, ((b.getD i 0).toNat == 10) = y := ⟨_, rfl⟩
        obtain ⟨c13, h13⟩ : ∃ y, ((b.getD i 0).toNat == 13) = y := ⟨_, rfl⟩
        obtain ⟨c34, h34⟩ : ∃ y, ((b.getD i 0).toNat == 34) = y := ⟨_, rfl⟩
        have e10 := eqb _ 10 10 rfl _ h10
        have e13 := eqb _ 13 13 rfl _ h13
        have e34 := eqb _ 34 34 rfl _ h34
        have hst : stopP (b.getD i 0).toNat = (!(c10 || c13) && !c34) := by unfold stopP endB; rw [h10, h13, h34]
        rw [hst] at HN
        have HYES2 := Lib.hid (show (!(c10 || c13) && !c34) = true → p + 1 + P = (i + 1) + runN stopP (b.drop (i + 1)) from fun h => by rw [hk, HYES.out (by rw [hst]; exact h)]; omega)
        have e34b : c34 = false := by rw [b47] at e34; exact e34.symm
        subst e34b
        clear h34 hst hk HYES HNO
        cases c10
        case true =>
          have HE := Lib.hid (HN.out (by simp))
          clear h1 h10 h13 HN HYES2
          generalize (b.getD i 0).toNat = x at *
          go_wp2_with fail
          exact post_is HQ ⟨by rw [HE.out]; try rfl, HBW.out⟩
        case false =>
        cases c13
        case true =>
          have HE := Lib.hid (HN.out (by simp))
          clear h1 h10 h13 HN HYES2
          generalize (b.getD i 0).toNat = x at *
          go_wp2_with fail
          exact post_is HQ ⟨by rw [HE.out]; try rfl, HBW.out⟩
        case false =>
        have HK2 := Lib.hid (HYES2.out (by simp))
        clear h10 h13 HN HYES2 h1
        obtain ⟨c92, h92⟩ : ∃ y, ((b.getD i 0).toNat == 92) = y := ⟨_, rfl⟩
        have e92 := eqb _ 92 92 rfl _ h92
        clear h92
        generalize (b.getD i 0).toNat = x at *
        cases c92
        case true =>
          go_wp2_with fail
          go_quiet (fail)
          go_wp2_with fail
          go_roundw
          case rel => exact ⟨i + 1, by omega, by go_num, bl_drewN HBW.out _, HLT.out, HK2⟩
          case measure => have := HLT.out; simp [intOf]; omega
        case false =>
          go_wp2_with fail
          go_quiet (fail)
          go_wp2_with fail
          go_roundw
          case rel => exact ⟨i + 1, by omega, by go_num, bl_drewN HBW.out _, HLT.out, HK2⟩
          case measure => have := HLT.out; simp [intOf]; omega
    · have bl : decide (i < n) = false := by simp; omega
      have HE : Hid ((if (b.drop (p + 1 + P)).head? = some 34 then ((p + 1 + P + 1 : Nat) : Int) else -1) = -1) := by
        unfold Hid
        have h2 := HK.out
        have h3 := HL.out
        rw [run_whole stopP b i (by omega)] at h2
        rw [if_neg (head_out (by omega) 34)]
      clear hlt
      go_wp2_with fail
      exact post_is HQ ⟨by rw [HE.out]; try rfl, hbw⟩


end Go.Proofs.YtlepaciglkodbaaDoor
