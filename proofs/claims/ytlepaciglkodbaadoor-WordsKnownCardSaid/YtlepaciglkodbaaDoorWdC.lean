/- Words of the grammar language: the program's small functions over texts. No condition. -/
import Derived.Test.YtlepaciglkodbaaDoorWdB
set_option linter.unusedVariables false
set_option linter.unusedSimpArgs false
namespace Go.Proofs.YtlepaciglkodbaaDoor
open Go.RowKit

/-- What the program's table holds: how the kinds are written. -/
def Tab (w : World) : Prop := ∀ k, k < 14 → w.cell? ⟨0, k, none⟩ = some (.string ⟨(spellE k).toArray⟩)
theorem Tab.below {w w' : World} (h : Tab w) (hb : Below w.heap.size w w') : Tab w' := fun k hk =>
  (hb.cell (World.block_lt_of_cell? w _ (h k hk))).trans (h k hk)

theorem spell_out {k : Nat} (h : 13 < k) : spellE k = [] := by
  obtain ⟨m, rfl⟩ : ∃ m, k = m + 14 := ⟨k - 14, by omega⟩
  rfl
/-- How a kind is written, of any number. -/
def spellZ (z : Int) : List UInt8 := if z < 0 then [] else spellE z.toNat
set_option maxRecDepth 20000 in
theorem spelled_any (z : Int) (w : World) (hT : Tab w) : Calls Tryd.prog 22 #[.int .i64 z] w (fun e w' => e = .returned (.string ⟨(spellZ z).toArray⟩) ∧ w = w') := by
  generalize hQ : (fun (e : Ending) (w' : World) => e = .returned (.string ⟨(spellZ z).toArray⟩) ∧ w = w') = Q
  have HQ := Lib.hid hQ
  clear hQ
  by_cases h1 : z < 0
  · have b1 : decide (z < 0) = true := by simp [h1]
    have HE : Hid (spellZ z = []) := by unfold Hid spellZ; rw [if_pos h1]
    clear h1
    go_enter Tryd.func22, Tryd.ntmps22
    go_wp2_with fail
    exact post_is HQ ⟨by rw [HE.out]; rfl, rfl⟩
  · obtain ⟨k, rfl⟩ : ∃ k : Nat, z = (k : Int) := ⟨z.toNat, by omega⟩
    have b1 : decide ((k : Int) < 0) = false := by simp
    have HE : Hid (spellZ (k : Int) = spellE k) := by unfold Hid spellZ; rw [if_neg h1]; rfl
    clear h1
    by_cases h2 : 13 < k
    · have b2 : decide ((13 : Int) < (k : Int)) = true := by simp; omega
      have HS := Lib.hid (spell_out h2)
      clear h2
      go_enter Tryd.func22, Tryd.ntmps22
      go_wp2_with fail
      exact post_is HQ ⟨by rw [HE.out, HS.out]; rfl, rfl⟩
    · have b2 : decide ((13 : Int) < (k : Int)) = false := by simp; omega
      have hc := hT k (by omega)
      have hlt : (k : Int) < 14 := by omega
      clear h2 hT
      generalize hE : spellE k = s at *
      have HS := Lib.hid hE
      clear hE
      go_enter Tryd.func22, Tryd.ntmps22
      go_wp2_with fail
      exact post_is HQ ⟨by rw [HE.out]; rfl, rfl⟩

set_option maxRecDepth 20000 in
theorem let_any (l : List UInt8) (w : World) (hm : l.length ≤ maxLen) : Calls Tryd.prog 49 #[.string ⟨l.toArray⟩] w (GotN w (letN l)) := by
  generalize hQ : GotN w (letN l) = Q
  have HQ := Lib.hid hQ
  clear hQ
  cases l with
  | nil =>
    go_enter Tryd.func49, Tryd.ntmps49
    go_wp2_with fail
    refine (alike_lt [] _ (by simp)).mono ?_
    rintro e w1 ⟨rfl, hb⟩
    go_wp2_with fail
    exact post_is HQ ⟨rfl, hb⟩
  | cons b t =>
    have hi := letter_at (b :: t) 0 (by simp) 0 rfl
    have hg : (b :: t).getD 0 0 = b := rfl
    rw [hg] at hi
    have hcv : IntKind.i32.wrap (b.toNat : Int) = (b.toNat : Int) := by
      have := b.toNat_lt
      rw [IntKind.wrap_i32 _]
      omega
    have hne : (((b :: t) : List UInt8) == []) = false := rfl
    have hal := fun w => alike_lt (b :: t) w hm
    have hdg := digit_any b.toNat
    cases hd : dgB b.toNat with
    | true =>
      rw [hd] at hdg
      have HD := Lib.hid (show letN (b :: t) = 0 by rw [letN, if_pos hd])
      clear hd hg
      generalize b.toNat = n at *
      generalize (b :: t) = l at *
      go_enter Tryd.func49, Tryd.ntmps49
      go_wp2_with fail
      refine (hdg _).mono ?_
      rintro e w1 ⟨rfl, rfl⟩
      go_wp2_with fail
      exact post_is HQ ⟨by rw [HD.out]; rfl, Below.refl _ _⟩
    | false =>
      rw [hd] at hdg
      have HD := Lib.hid (show letN (b :: t) = runN ltB (b :: t) by rw [letN, if_neg (by rw [hd]; simp)])
      clear hd hg
      generalize b.toNat = n at *
      generalize (b :: t) = l at *
      go_enter Tryd.func49, Tryd.ntmps49
      go_wp2_with fail
      refine (hdg _).mono ?_
      rintro e w1 ⟨rfl, rfl⟩
      go_wp2_with fail
      refine (hal _).mono ?_
      rintro e w1 ⟨rfl, hb⟩
      go_wp2_with fail
      exact post_is HQ ⟨by rw [HD.out]; rfl, hb⟩

theorem kindFrom_at (s : List UInt8) (k : Nat) (hk : k < 14) : kindFrom s (14 - k) k = if s = spellE k then k else kindFrom s (14 - (k + 1)) (k + 1) := by
  obtain ⟨f, hf⟩ : ∃ f, 14 - k = f + 1 := ⟨13 - k, by omega⟩
  rw [hf, kindFrom, show 14 - (k + 1) = f by omega]

set_option maxRecDepth 20000 in
theorem kind_any (l : List UInt8) (w : World) (hT : Tab w) (hm : l.length ≤ maxLen) : Calls Tryd.prog 35 #[.string ⟨l.toArray⟩] w (GotN w (kindE l)) := by
  generalize hQ : GotN w (kindE l) = Q
  have HQ := Lib.hid hQ
  clear hQ
  have hlen := fun ty => len_at l #[9] ty rfl
  have hlet := fun w => let_any l w hm
  have hll := let_le l
  unfold maxLen at hm
  generalize hn : letN l = n at *
  have HN := Lib.hid hn
  clear hn
  have hz : n = 0 ∨ n ≠ 0 := by omega
  rcases hz with rfl | hz
  · have HE : Hid (kindE l = 0) := by unfold Hid kindE; rw [if_pos (Or.inl HN.out)]
    go_enter Tryd.func35, Tryd.ntmps35
    go_wp2_with fail
    refine (hlet _).mono ?_
    rintro e w1 ⟨rfl, hb⟩
    go_wp2_with fail
    exact post_is HQ ⟨by rw [HE.out]; rfl, hb⟩
  · have b0 : ((n : Int) == 0) = false := by simp; omega
    by_cases h1 : n < l.length
    · have b1 : decide (n < l.length) = true := by simp [h1]
      have HE : Hid (kindE l = 0) := by unfold Hid kindE; rw [if_pos (Or.inr (Or.inl (by rw [HN.out]; exact h1)))]
      have HZ := Lib.hid hz
      clear hz h1
      go_enter Tryd.func35, Tryd.ntmps35
      go_wp2_with fail
      refine (hlet _).mono ?_
      rintro e w1 ⟨rfl, hb⟩
      go_wp2_with fail
      exact post_is HQ ⟨by rw [HE.out]; rfl, hb⟩
    · have b1 : decide (n < l.length) = false := by simp; omega
      by_cases h2 : 24 < n
      · have b2 : decide ((24 : Int) < (n : Int)) = true := by simp; omega
        have HE : Hid (kindE l = 0) := by unfold Hid kindE; rw [if_pos (Or.inr (Or.inr (by rw [HN.out]; exact h2)))]
        have HZ := Lib.hid hz
        clear hz h1 h2
        go_enter Tryd.func35, Tryd.ntmps35
        go_wp2_with fail
        refine (hlet _).mono ?_
        rintro e w1 ⟨rfl, hb⟩
        go_wp2_with fail
        exact post_is HQ ⟨by rw [HE.out]; rfl, hb⟩
      · have b2 : decide ((24 : Int) < (n : Int)) = false := by simp; omega
        have HE : Hid (kindE l = kindFrom l (14 - 5) 5) := by unfold Hid kindE; rw [if_neg (by rw [HN.out]; omega)]; rfl
        have HZ := Lib.hid hz
        clear hz h1 h2 hll
        go_enter Tryd.func35, Tryd.ntmps35
        go_wp2_with fail
        refine (hlet _).mono ?_
        rintro e w1 ⟨rfl, hb⟩
        have hT1 := hT.below hb
        go_wp2_with fail
        go_loopw [4] (fun v wr => ∃ k : Nat, k ≤ 14 ∧ v = .int .i64 (k : Int) ∧ Hid (kindE l = kindFrom l (14 - k) k) ∧ wr = w1) (fun v _ => 14 - (intOf v).toNat)
        case atStart => exact ⟨5, by omega, rfl, HE, rfl⟩
        case round =>
          obtain ⟨k, hk, rfl, HK, hw⟩ := hrel
          subst hw
          by_cases hlt : k < 14
          · have hc := hT1 k hlt
            have bk : decide ((k : Int) ≤ 13) = true := by simp; omega
            have hki : (k : Int) < 14 := by omega
            have hat := kindFrom_at l k hlt
            by_cases hs : l = spellE k
            · have bs : (l == spellE k) = true := by rw [hs]; simp
              have HA := Lib.hid (hat.trans (if_pos hs))
              clear hat hs hT1 hT
              generalize spellE k = s at *
              go_wp2_with fail
              exact post_is HQ ⟨by rw [HK.out, HA.out]; rfl, hb⟩
            · have bs : (l == spellE k) = false := by simpa using hs
              have HA := Lib.hid (hat.trans (if_neg hs))
              clear hat hs hT
              generalize spellE k = s at *
              go_wp2_with fail
              go_roundw
              case rel => exact ⟨k + 1, by omega, by go_num, by unfold Hid; rw [HK.out, HA.out], trivial⟩
              case measure => simp [intOf]; omega
          · have bk : decide ((k : Int) ≤ 13) = false := by simp; omega
            have HL : Hid (14 - k = 0) := by unfold Hid; omega
            clear hT1 hT
            go_wp2_with fail
            exact post_is HQ ⟨by rw [HK.out, HL.out]; rfl, hb⟩


set_option maxRecDepth 20000 in
theorem isName_any (l : List UInt8) (w : World) (hT : Tab w) (hm : l.length ≤ maxLen) : Calls Tryd.prog 16 #[.string ⟨l.toArray⟩] w (GotBool w (kindE l == 1)) := by
  generalize hQ : GotBool w (kindE l == 1) = Q
  have HQ := Lib.hid hQ
  clear hQ
  obtain ⟨c, hc⟩ : ∃ c, (kindE l == 1) = c := ⟨_, rfl⟩
  have hb1 := eqb _ 1 1 rfl _ hc
  have HC := Lib.hid hc
  have hk := fun w hT => kind_any l w hT hm
  clear hc
  generalize kindE l = n at *
  go_enter Tryd.func16, Tryd.ntmps16
  go_wp2_with fail
  refine (hk _ hT).mono ?_
  rintro e w1 ⟨rfl, hb⟩
  go_wp2_with fail
  exact post_is HQ ⟨by rw [HC.out]; rfl, hb⟩

def isPathE (l : List UInt8) : Bool := decide (0 < runN ptB l) && (runN ptB l == l.length) && decide (runN ptB l ≤ 32)
set_option maxRecDepth 20000 in
theorem isPath_any (l : List UInt8) (w : World) (hm : l.length ≤ maxLen) : Calls Tryd.prog 18 #[.string ⟨l.toArray⟩] w (GotBool w (isPathE l)) := by
  unfold isPathE
  have hlen := fun ty => len_at l #[9] ty rfl
  have hk := fun w => path_any l w hm
  have hle := run_le ptB l
  unfold maxLen at hm
  generalize runN ptB l = n at *
  generalize hQ : GotBool w (decide (0 < n) && n == l.length && decide (n ≤ 32)) = Q
  have HQ := Lib.hid hQ
  clear hQ
  by_cases h1 : 0 < n
  · have b1 : decide ((0 : Int) < (n : Int)) = true := by simp; omega
    have H1 := Lib.hid h1
    clear h1
    cases h2 : (n == l.length) with
    | true =>
      have b2 := eqb n l.length (l.length : Int) rfl _ h2
      have H2 := Lib.hid h2
      clear h2
      by_cases h3 : n ≤ 32
      · have b3 : decide ((n : Int) ≤ 32) = true := by simp; omega
        have H3 := Lib.hid h3
        clear h3 hle
        go_enter Tryd.func18, Tryd.ntmps18
        go_wp2_with fail
        refine (hk _).mono ?_
        rintro e w1 ⟨rfl, hb⟩
        go_wp2_with fail
        exact post_is HQ ⟨by simp [H1.out, H2.out, H3.out], hb⟩
      · have b3 : decide ((n : Int) ≤ 32) = false := by simp; omega
        have H3 := Lib.hid h3
        clear h3 hle
        go_enter Tryd.func18, Tryd.ntmps18
        go_wp2_with fail
        refine (hk _).mono ?_
        rintro e w1 ⟨rfl, hb⟩
        go_wp2_with fail
        exact post_is HQ ⟨by simp [H1.out, H2.out, H3.out], hb⟩
    | false =>
      have b2 := eqb n l.length (l.length : Int) rfl _ h2
      have H2 := Lib.hid h2
      clear h2 hle
      go_enter Tryd.func18, Tryd.ntmps18
      go_wp2_with fail
      refine (hk _).mono ?_
      rintro e w1 ⟨rfl, hb⟩
      go_wp2_with fail
      exact post_is HQ ⟨by simp [H1.out, H2.out], hb⟩
  · have b1 : decide ((0 : Int) < (n : Int)) = false := by simp; omega
    have H1 := Lib.hid h1
    clear h1 hle
    go_enter Tryd.func18, Tryd.ntmps18
    go_wp2_with fail
    refine (hk _).mono ?_
    rintro e w1 ⟨rfl, hb⟩
    go_wp2_with fail
    exact post_is HQ ⟨by simp [H1.out], hb⟩

theorem drop_two (l : List UInt8) (k : Nat) (hk : k + 1 < l.length) : l.drop k = l.getD k 0 :: l.getD (k + 1) 0 :: l.drop (k + 2) := by
  rw [drop_at l k (by omega), drop_at l (k + 1) hk]
theorem pat_end (l : List UInt8) (k : Nat) (hk : ¬ k < l.length) : patN (l.drop k) = 0 := by
  rw [List.drop_eq_nil_of_le (by omega)]; rfl
theorem pat_here {l : List UInt8} {k : Nat} (hk : k < l.length) : patN (l.drop k) =
    if l.getD k 0 = 47 then 0 else if endB (l.getD k 0).toNat = true then 0 else if l.getD k 0 = 92 then (if k + 1 < l.length then (if endB (l.getD (k + 1) 0).toNat = true then 0 else patN (l.drop (k + 2)) + 2) else 0) else patN (l.drop (k + 1)) + 1 := by
  rw [drop_at l k hk, patN_cons]
  by_cases h : k + 1 < l.length
  · rw [drop_at l (k + 1) h, if_pos h]
  · rw [List.drop_eq_nil_of_le (by omega), if_neg h]
theorem ne_nat {b c : UInt8} (z : Int) (hz : z = (c.toNat : Int)) (h : b ≠ c) : ((b.toNat : Int) == z) = false := by
  subst hz
  simp only [beq_eq_false_iff_ne, ne_eq]
  intro e
  exact h (UInt8.toNat_inj.1 (by omega))
theorem eq_nat {b c : UInt8} (z : Int) (hz : z = (c.toNat : Int)) (h : b = c) : ((b.toNat : Int) == z) = true := by
  subst hz h
  simp
theorem bne_of {a b : Int} {c : Bool} (h : (a == b) = c) : (a != b) = !c := by rw [bne, h]

set_option maxRecDepth 20000 in
theorem pattern_any (l : List UInt8) (w : World) (hm : l.length ≤ 140737488355328) : Calls Tryd.prog 40 #[.string ⟨l.toArray⟩] w (GotN w (patN l)) := by
  have hlen := fun ty => len_at l #[9] ty rfl
  generalize hQ : GotN w (patN l) = Q
  have HQ := Lib.hid hQ
  clear hQ
  go_enter Tryd.func40, Tryd.ntmps40
  go_wp2_with fail
  go_loopw [3] (fun v wr => ∃ k : Nat, k ≤ l.length ∧ v = .int .i64 (k : Int) ∧ wr = w ∧ Hid (patN l = k + patN (l.drop k))) (fun v _ => l.length - (intOf v).toNat)
  case atStart => exact ⟨0, Nat.zero_le _, rfl, rfl, by unfold Hid; simp⟩
  case round =>
    obtain ⟨k, hk, rfl, rfl, HK⟩ := hrel
    by_cases hlt : k < l.length
    · have hat := letter_at l k hlt (k : Int) rfl
      have hph := pat_here hlt
      have bl : decide (k < l.length) = true := by simp [hlt]
      by_cases h1 : l.getD k 0 = 47
      · have b1 := bne_of (eq_nat 47 rfl h1)
        rw [if_pos h1] at hph
        have HP := Lib.hid hph
        clear hph h1
        generalize (l.getD k 0).toNat = c at *
        go_wp2_with fail
        exact post_is HQ ⟨by rw [HK.out, HP.out]; rfl, Below.refl _ _⟩
      · have b1 := bne_of (ne_nat (c := 47) 47 rfl h1)
        rw [if_neg h1] at hph
        have he := end_any (l.getD k 0).toNat
        cases h2 : endB (l.getD k 0).toNat with
        | true =>
          rw [if_pos h2] at hph
          rw [h2] at he
          have HP := Lib.hid hph
          clear hph h1 h2
          generalize (l.getD k 0).toNat = c at *
          go_wp2_with fail
          refine (he _).mono ?_
          rintro e w1 ⟨rfl, rfl⟩
          go_wp2_with fail
          exact post_is HQ ⟨by rw [HK.out, HP.out]; rfl, Below.refl _ _⟩
        | false =>
          rw [if_neg (by rw [h2]; simp)] at hph
          rw [h2] at he
          by_cases h3 : l.getD k 0 = 92
          · have b3 := eq_nat 92 rfl h3
            rw [if_pos h3] at hph
            by_cases h4 : k + 1 < l.length
            · have b4 : ((k : Int) + 1 == (l.length : Int)) = false := by simp; omega
              have hat1 := letter_at l (k + 1) h4 ((k : Int) + 1) (by simp)
              rw [if_pos h4] at hph
              have he1 := end_any (l.getD (k + 1) 0).toNat
              cases h5 : endB (l.getD (k + 1) 0).toNat with
              | true =>
                rw [if_pos h5] at hph
                rw [h5] at he1
                have HP := Lib.hid hph
                clear hph h1 h2 h3 h5
                generalize (l.getD k 0).toNat = c at *
                generalize (l.getD (k + 1) 0).toNat = c1 at *
                go_wp2_with fail
                refine (he _).mono ?_
                rintro e w1 ⟨rfl, rfl⟩
                go_wp2_with fail
                refine (he1 _).mono ?_
                rintro e w1 ⟨rfl, rfl⟩
                go_wp2_with fail
                exact post_is HQ ⟨by rw [HK.out, HP.out]; rfl, Below.refl _ _⟩
              | false =>
                rw [if_neg (by rw [h5]; simp)] at hph
                rw [h5] at he1
                have HP := Lib.hid hph
                clear hph h1 h2 h3 h5
                generalize (l.getD k 0).toNat = c at *
                generalize (l.getD (k + 1) 0).toNat = c1 at *
                go_wp2_with fail
                refine (he _).mono ?_
                rintro e w1 ⟨rfl, rfl⟩
                go_wp2_with fail
                refine (he1 _).mono ?_
                rintro e w1 ⟨rfl, rfl⟩
                go_wp2_with fail
                go_roundw
                case rel => exact ⟨k + 2, by omega, by go_num, by first | rfl | trivial, by unfold Hid; rw [HK.out, HP.out]; omega⟩
                case measure => simp [intOf]; omega
            · have b4 : ((k : Int) + 1 == (l.length : Int)) = true := by simp; omega
              rw [if_neg h4] at hph
              have HP := Lib.hid hph
              clear hph h1 h2 h3
              generalize (l.getD k 0).toNat = c at *
              go_wp2_with fail
              refine (he _).mono ?_
              rintro e w1 ⟨rfl, rfl⟩
              go_wp2_with fail
              exact post_is HQ ⟨by rw [HK.out, HP.out]; rfl, Below.refl _ _⟩
          · have b3 := ne_nat (c := 92) 92 rfl h3
            rw [if_neg h3] at hph
            have HP := Lib.hid hph
            clear hph h1 h2 h3
            generalize (l.getD k 0).toNat = c at *
            go_wp2_with fail
            refine (he _).mono ?_
            rintro e w1 ⟨rfl, rfl⟩
            go_wp2_with fail
            go_roundw
            case rel => exact ⟨k + 1, by omega, by go_num, by first | rfl | trivial, by unfold Hid; rw [HK.out, HP.out]; omega⟩
            case measure => simp [intOf]; omega
    · have bl : decide (k < l.length) = false := by simp; omega
      have HP := Lib.hid (pat_end l k hlt)
      clear hlt
      go_wp2_with fail
      exact post_is HQ ⟨by rw [HK.out, HP.out]; rfl, Below.refl _ _⟩
set_option maxRecDepth 20000 in
theorem isPattern_any (l : List UInt8) (w : World) (hm : l.length ≤ 140737488355328) : Calls Tryd.prog 20 #[.string ⟨l.toArray⟩] w (GotBool w (patN l == l.length)) := by
  have hlen := fun ty => len_at l #[9] ty rfl
  have hk := fun w => pattern_any l w hm
  generalize patN l = n at *
  generalize hQ : GotBool w (n == l.length) = Q
  have HQ := Lib.hid hQ
  clear hQ
  obtain ⟨c, hc⟩ : ∃ c, (n == l.length) = c := ⟨_, rfl⟩
  have hb1 := eqb n l.length (l.length : Int) rfl _ hc
  have HC := Lib.hid hc
  clear hc
  go_enter Tryd.func20, Tryd.ntmps20
  go_wp2_with fail
  refine (hk _).mono ?_
  rintro e w1 ⟨rfl, hb⟩
  go_wp2_with fail
  exact post_is HQ ⟨by rw [HC.out]; rfl, hb⟩


end Go.Proofs.YtlepaciglkodbaaDoor
