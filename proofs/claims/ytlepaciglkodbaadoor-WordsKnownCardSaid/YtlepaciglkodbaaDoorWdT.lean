/- Words of the grammar language: the document's Cut, and that two lists are the same; WordsCut. No condition. -/
import Derived.Test.YtlepaciglkodbaaDoorWdS
import Derived.Test.YtlepaciglkodbaaDoorWdL
set_option linter.unusedVariables false
set_option linter.unusedSimpArgs false
namespace Go.Proofs.YtlepaciglkodbaaDoor
open Go.RowKit

theorem spell_len (k : Nat) : (spellE k).length ≤ 6 := by
  by_cases h : 13 < k
  · rw [spell_out h]; simp
  · have hall : ∀ i : Fin 14, (spellE i.val).length ≤ 6 := by decide
    exact hall ⟨k, by omega⟩
theorem let_word (s : List UInt8) (m : Nat) (hs : s.length = m) (hm : m ≠ 0) : rkindE s = if m = 0 ∨ 24 < m then 0 else kindW s := by
  unfold rkindE
  rcases kindW_of s with h | ⟨h1, h2, h3⟩
  · rw [h, if_pos rfl, hs]
    by_cases hb : 24 < m
    · rw [if_pos hb, if_pos (Or.inr hb)]
    · rw [if_neg hb, if_neg (by omega)]
  · rw [if_neg (by omega)]
    have := spell_len (kindW s)
    rw [← h3, hs] at this
    rw [if_neg (by omega)]
theorem word_any (A : Option Addr) (n c p : Nat) (b : List UInt8) (w : World) (hl : b.length = n) (hr : Rd w A b) (hn : n ≤ 8192) (hnc : n ≤ c) (hp : p < n) : Calls Tryd.prog 32 #[.slice A n c, .int .i64 (p : Int)] w (GotK w (wordE b p)) := by
  have hd := drop_at b p (by omega)
  cases hs : sgB (b.getD p 0).toNat with
  | true =>
    have e : wordE b p = ⟨4, p, p + 1⟩ := by unfold wordE; rw [hd, firstE, if_pos hs]
    rw [e]
    exact word_sign A n c p b w hl hr hn hp hs
  | false =>
    by_cases h2 : b.getD p 0 = 34
    · have e : wordE b p = pathK b p := by
        unfold wordE pathK
        rw [hd, firstE, if_neg (by rw [hs]; simp), if_pos h2]
        by_cases hcd : 0 < runN ptB (b.drop (p + 1)) ∧ runN ptB (b.drop (p + 1)) ≤ 32 ∧ ((b.drop (p + 1)).drop (runN ptB (b.drop (p + 1)))).head? = some 34
        · rw [if_pos hcd, if_pos hcd]
        · rw [if_neg hcd, if_neg hcd]
      rw [e]
      exact word_path A n c p b w hl hr hn hnc hp h2
    · by_cases h3 : b.getD p 0 = 47
      · have e : wordE b p = patK b p := by
          unfold wordE patK
          rw [hd, firstE, if_neg (by rw [hs]; simp), if_neg h2, if_pos h3]
          by_cases hcd : ((b.drop (p + 1)).drop (patN (b.drop (p + 1)))).head? = some 47
          · rw [if_pos hcd, if_pos hcd]
          · rw [if_neg hcd, if_neg hcd]
        rw [e]
        exact word_pat A n c p b w hl hr hn hp h3
      · have ho : Oth (b.getD p 0).toNat := ⟨hs, ne_nat (c := 34) 34 rfl h2, ne_nat (c := 47) 47 rfl h3⟩
        by_cases hx : letN (b.drop p) = 0
        · have e : wordE b p = ⟨0, 0, 0⟩ := by
            unfold wordE
            rw [hd] at hx ⊢
            rw [firstE, if_neg (by rw [hs]; simp), if_neg h2, if_neg h3, if_pos (Or.inl hx)]
          rw [e]
          exact word_none A n c p b w hl hr hn hp ho hx
        · have e : wordE b p = letK b p := by
            have hlw := let_word ((b.drop p).take (letN (b.drop p))) (letN (b.drop p)) (by have := let_le (b.drop p); rw [List.length_take]; omega) hx
            unfold wordE letK
            rw [hlw]
            rw [hd] at hx ⊢
            rw [firstE, if_neg (by rw [hs]; simp), if_neg h2, if_neg h3]
            by_cases hb : 24 < letN (b.getD p 0 :: b.drop (p + 1))
            · rw [if_pos (Or.inr hb), if_pos (if_pos (Or.inr hb))]
            · have hk := kindW_of ((b.getD p 0 :: b.drop (p + 1)).take (letN (b.getD p 0 :: b.drop (p + 1))))
              have hno : ¬ (letN (b.getD p 0 :: b.drop (p + 1)) = 0 ∨ 24 < letN (b.getD p 0 :: b.drop (p + 1))) := by omega
              have hif : (if letN (b.getD p 0 :: b.drop (p + 1)) = 0 ∨ 24 < letN (b.getD p 0 :: b.drop (p + 1)) then 0 else kindW ((b.getD p 0 :: b.drop (p + 1)).take (letN (b.getD p 0 :: b.drop (p + 1))))) = kindW ((b.getD p 0 :: b.drop (p + 1)).take (letN (b.getD p 0 :: b.drop (p + 1)))) := if_neg hno
              rw [hif, if_neg hno, if_neg (by omega)]
          rw [e]
          exact word_let A n c p b w hl hr hn hnc hp ho hx

theorem cut_rem : ∀ (l : List UInt8) (p : Nat), cutS l p 0 true = cutS (l.drop (remN l)) (p + remN l) 0 false
  | [], p => by simp [cutS, rem_nil]
  | b :: t, p => by
    by_cases h : b = 10
    · subst h
      rw [rem_cons, if_pos rfl, List.drop_zero, cutS, cutS]
      rw [if_pos (by decide)]
      rfl
    · have hb : (b != 10) = true := by simpa using h
      rw [rem_cons, if_neg h, cutS, hb, cut_rem t, List.drop_succ_cons, Nat.add_assoc, Nat.add_comm 1]
theorem cut_sp {b : List UInt8} {p : Nat} (hp : p < b.length) (h : spB (b.getD p 0).toNat = true) : cutS (b.drop p) p 0 false = cutS (b.drop (p + 1)) (p + 1) 0 false := by
  rw [drop_at b p hp, cutS, if_pos h]
theorem cut_hash {b : List UInt8} {p : Nat} (hp : p < b.length) (h : b.getD p 0 = 35) : cutS (b.drop p) p 0 false = cutS (b.drop (p + remN (b.drop p))) (p + remN (b.drop p)) 0 false := by
  have hd := drop_at b p hp
  have hr : remN (b.drop p) = remN (b.drop (p + 1)) + 1 := by rw [hd, rem_cons, if_neg (by rw [h]; decide)]
  have h2 : cutS (b.drop p) p 0 false = cutS (b.drop (p + 1)) (p + 1) 0 true := by
    rw [hd, cutS, if_neg (by rw [h]; decide), if_pos h]
  rw [h2, cut_rem, hr, List.drop_drop]
  congr 1
  · congr 1; omega
  · omega
theorem stop_at {b : List UInt8} {p : Nat} (hp : p < b.length) (h1 : spB (b.getD p 0).toNat = false) (h2 : b.getD p 0 ≠ 35) : Stop (b.drop p) := by
  unfold Stop
  rw [drop_at b p hp, gapN, if_neg (by rw [h1]; simp), if_neg h2]
theorem rem_end (b : List UInt8) (q : Nat) (hq : ¬ q < b.length) : remN (b.drop q) = 0 := by
  rw [List.drop_eq_nil_of_le (by omega)]; rfl
theorem rem_here {b : List UInt8} {q : Nat} (hq : q < b.length) : remN (b.drop q) = if b.getD q 0 = 10 then 0 else remN (b.drop (q + 1)) + 1 := by
  rw [drop_at b q hq, rem_cons]

set_option maxRecDepth 20000 in
set_option maxHeartbeats 1000000 in
theorem rcut_any (A : Option Addr) (n c : Nat) (b : List UInt8) (w : World) (hl : b.length = n) (hr : Rd w A b) (hn : n ≤ maxLen) (hnc : n ≤ c) : Calls Tryd.prog 12 #[.slice A n c] w (GotCut w (ansE b)) := by
  generalize hQ : GotCut w (ansE b) = Q
  unfold ansE at hQ
  by_cases hbig : 8192 < b.length
  · rw [if_pos hbig] at hQ
    have b1 : decide ((8192 : Int) < (n : Int)) = true := by simp; omega
    have HQ := Lib.hid hQ
    clear hQ hbig hl
    go_enter Tryd.func12, Tryd.ntmps12
    go_wp2_with fail
    refine bodyPost_ret (results_tmp3 rfl _ _ _) rfl ?_
    exact post_is HQ ⟨_, rfl, OwnT.nil _ _, Below.refl _ _⟩
  · rw [if_neg hbig] at hQ
    have b1 : decide ((8192 : Int) < (n : Int)) = false := by simp; omega
    have hn8 : n ≤ 8192 := by omega
    have HQ := Lib.hid hQ
    have HL := Lib.hid hl
    have HR := Lib.hid hr
    have HNC := Lib.hid hnc
    clear hQ hbig hr hl hn hnc
    go_enter Tryd.func12, Tryd.ntmps12
    go_wp2_with fail
    go_loopw [5, 6, 7, 8] (fun v5 v6 _ _ wr => ∃ (p : Nat) (acc : List Tk), v6 = .int .i64 (p : Int) ∧ p ≤ n ∧ OwnT wr w.heap.size v5 acc ∧ acc.length ≤ p ∧ Hid (cutE b = (cutS (b.drop p) p 0 false).app acc) ∧ Below w.heap.size w wr) (fun _ v6 _ _ _ => n - (intOf v6).toNat)
    case atStart => exact ⟨0, [], rfl, Nat.zero_le _, OwnT.nil _ _, Nat.le_refl _, by unfold Hid; rw [CutR.app_nil]; rfl, Below.refl _ _⟩
    case round =>
      obtain ⟨p, acc, rfl, hp, hown, hap, HC, hbw⟩ := hrel
      by_cases hlt : p < n
      · have hpb : p < b.length := by rw [HL.out]; exact hlt
        obtain ⟨ad, hA, hc⟩ := (HR.out.below hbw).getD hpb
        subst hA
        have bl : decide (p < n) = true := by simp [hlt]
        have HSP := Lib.hid (fun h => cut_sp hpb h)
        have HHS := Lib.hid (fun h => cut_hash hpb h)
        have HST := Lib.hid (fun h1 h2 => stop_at hpb h1 h2)
        have HPOS : Hid (b.getD p 0 = 35 → 0 < remN (b.drop p)) := fun h => by
          rw [rem_here hpb, if_neg (by rw [h]; decide)]; omega
        have HB := Lib.hid hbw
        have HO := Lib.hid hown
        have HLT := Lib.hid hlt
        have hwd := word_any (some ad) n c p b wr HL.out (HR.out.below hbw) hn8 HNC.out hlt
        obtain ⟨c35, hc35⟩ : ∃ y, decide (b.getD p 0 = 35) = y := ⟨_, rfl⟩
        have e35 : (((b.getD p 0).toNat : Int) == 35) = c35 := by
          cases c35
          · exact ne_nat (c := 35) 35 rfl (by simpa using hc35)
          · exact eq_nat 35 rfl (by simpa using hc35)
        have H35 : Hid (b.getD p 0 = 35 ↔ c35 = true) := by unfold Hid; rw [← hc35]; simp
        obtain ⟨sp, hsp⟩ : ∃ y, spB (b.getD p 0).toNat = y := ⟨_, rfl⟩
        rw [hsp] at HSP HST
        have HS2 := Lib.hid hsp
        unfold spB at hsp
        generalize (b.getD p 0).toNat = x at *
        obtain ⟨c1, h1⟩ : ∃ y, (x == 32) = y := ⟨_, rfl⟩
        obtain ⟨c2, h2⟩ : ∃ y, (x == 9) = y := ⟨_, rfl⟩
        obtain ⟨c3, h3⟩ : ∃ y, (x == 10) = y := ⟨_, rfl⟩
        obtain ⟨c4, h4⟩ : ∃ y, (x == 13) = y := ⟨_, rfl⟩
        have e1 := eqb x 32 32 rfl _ h1
        have e2 := eqb x 9 9 rfl _ h2
        have e3 := eqb x 10 10 rfl _ h3
        have e4 := eqb x 13 13 rfl _ h4
        rw [h1, h2, h3, h4] at hsp
        clear h1 h2 h3 h4 hbw hown hc35 HS2
        cases c1
        case true =>
          have hsp1 : sp = true := by rw [← hsp]; simp
          have HC2 : Hid (cutE b = (cutS (b.drop (p + 1)) (p + 1) 0 false).app acc) := by unfold Hid; rw [HC.out, HSP.out hsp1]
          clear hsp1 hsp HSP HHS HST HPOS H35 hwd
          go_wp2_with fail
          go_roundw
          case rel => exact ⟨p + 1, acc, by go_num, HLT.out, HO.out, by omega, HC2, HB.out⟩
          case measure => have := HLT.out; simp [intOf]; omega
        case false =>
        cases c2
        case true =>
          have hsp1 : sp = true := by rw [← hsp]; simp
          have HC2 : Hid (cutE b = (cutS (b.drop (p + 1)) (p + 1) 0 false).app acc) := by unfold Hid; rw [HC.out, HSP.out hsp1]
          clear hsp1 hsp HSP HHS HST HPOS H35 hwd
          go_wp2_with fail
          go_roundw
          case rel => exact ⟨p + 1, acc, by go_num, HLT.out, HO.out, by omega, HC2, HB.out⟩
          case measure => have := HLT.out; simp [intOf]; omega
        case false =>
        cases c3
        case true =>
          have hsp1 : sp = true := by rw [← hsp]; simp
          have HC2 : Hid (cutE b = (cutS (b.drop (p + 1)) (p + 1) 0 false).app acc) := by unfold Hid; rw [HC.out, HSP.out hsp1]
          clear hsp1 hsp HSP HHS HST HPOS H35 hwd
          go_wp2_with fail
          go_roundw
          case rel => exact ⟨p + 1, acc, by go_num, HLT.out, HO.out, by omega, HC2, HB.out⟩
          case measure => have := HLT.out; simp [intOf]; omega
        case false =>
        cases c4
        case true =>
          have hsp1 : sp = true := by rw [← hsp]; simp
          have HC2 : Hid (cutE b = (cutS (b.drop (p + 1)) (p + 1) 0 false).app acc) := by unfold Hid; rw [HC.out, HSP.out hsp1]
          clear hsp1 hsp HSP HHS HST HPOS H35 hwd
          go_wp2_with fail
          go_roundw
          case rel => exact ⟨p + 1, acc, by go_num, HLT.out, HO.out, by omega, HC2, HB.out⟩
          case measure => have := HLT.out; simp [intOf]; omega
        case false =>
        have hsp1 : sp = false := by rw [← hsp]; simp
        clear hsp HSP
        cases c35
        case true =>
          have h35 := H35.out.2 rfl
          have HC2 : Hid (cutE b = (cutS (b.drop (p + remN (b.drop p))) (p + remN (b.drop p)) 0 false).app acc) := by unfold Hid; rw [HC.out, HHS.out h35]
          have HPO := Lib.hid (HPOS.out h35)
          have hrl := rem_le (b.drop p)
          rw [List.length_drop, HL.out] at hrl
          clear hsp1 HHS HST HPOS H35 hwd h35
          generalize hrm : remN (b.drop p) = m at *
          have HRM := Lib.hid hrm
          clear hrm
          go_wp2_with fail
          go_loopw [6] (fun v w3 => ∃ q : Nat, p ≤ q ∧ q ≤ n ∧ v = .int .i64 (q : Int) ∧ Hid (p + m = q + remN (b.drop q)) ∧ w3 = wr) (fun v _ => n - (intOf v).toNat)
          case atStart => exact ⟨p, Nat.le_refl _, hp, rfl, by unfold Hid; rw [HRM.out], rfl⟩
          case round =>
            obtain ⟨q, hq, hqn, rfl, HK, hw⟩ := hrel
            subst hw
            by_cases hq2 : q < n
            · have hqb : q < b.length := by rw [HL.out]; exact hq2
              obtain ⟨ad2, hA, hcq⟩ := (HR.out.below HB.out).getD hqb
              obtain rfl := Option.some.inj hA
              have bq : decide (q < n) = true := by simp [hq2]
              have hrh := rem_here hqb
              by_cases h10 : b.getD q 0 = 10
              · have b10 := bne_of (eq_nat 10 rfl h10)
                rw [if_pos h10] at hrh
                have HE : Hid (q = p + m) := by unfold Hid; rw [HK.out, hrh]; rfl
                clear hrh h10 hc
                generalize (b.getD q 0).toNat = y at *
                go_wp2_with fail
                have hqe := HE.out
                subst hqe
                go_roundw
                case rel => exact ⟨p + m, acc, rfl, hqn, HO.out, by omega, HC2, HB.out⟩
                case measure => have := HPO.out; simp [intOf]; omega
              · have b10 := bne_of (ne_nat (c := 10) 10 rfl h10)
                rw [if_neg h10] at hrh
                have HK2 : Hid (p + m = (q + 1) + remN (b.drop (q + 1))) := by unfold Hid; rw [HK.out, hrh]; omega
                clear hrh h10 hc
                generalize (b.getD q 0).toNat = y at *
                go_wp2_with fail
                go_roundw
                case rel => exact ⟨q + 1, by omega, by omega, by go_num, HK2, by first | rfl | trivial⟩
                case measure => simp [intOf]; omega
            · have bq : decide (q < n) = false := by simp; omega
              have HE : Hid (q = p + m) := by unfold Hid; rw [HK.out, rem_end b q (by rw [HL.out]; exact hq2)]; rfl
              clear hq2
              go_wp2_with fail
              have hqe := HE.out
              subst hqe
              go_roundw
              case rel => exact ⟨p + m, acc, rfl, hqn, HO.out, by omega, HC2, HB.out⟩
              case measure => have := HPO.out; simp [intOf]; omega
        case false =>
          have hst := HST.out hsp1 (fun h => by have := H35.out.1 h; cases this)
          cases hfi : firstE (b.drop p) with
          | none =>
            have hwe : wordE b p = ⟨0, 0, 0⟩ := by unfold wordE; rw [hfi]
            rw [hwe] at hwd
            have HE : Hid (cutE b = .bad p) := by
              unfold Hid
              rw [HC.out, cut_bad p hst (by rw [List.length_drop, HL.out]; omega) hfi]
              rfl
            clear hfi hst hwe hsp1 HHS HST HPOS H35
            unfold GotK cellsK nv at hwd
            go_wp2_with fail
            refine hwd.mono ?_
            rintro e w2 ⟨rfl, hb2⟩
            go_wp2_with fail
            refine bodyPost_ret (results_tmp3 rfl _ _ _) rfl ?_
            refine post_is HQ ?_
            rw [HE.out]
            exact ⟨_, rfl, OwnT.nil _ _, bl_alloc (bl_trans HB.out hb2) _⟩
          | some kn =>
            obtain ⟨k, m⟩ := kn
            have hwe : wordE b p = ⟨k, p, p + m⟩ := by unfold wordE; rw [hfi]
            rw [hwe] at hwd
            obtain ⟨hm1, hm2⟩ := first_pos hfi
            rw [List.length_drop, HL.out] at hm2
            have hk0 := first_ne hfi
            have bk : (((k : Nat) : Int) == 0) = false := by simp; omega
            have HE : Hid (cutE b = (cutS (b.drop (p + m)) (p + m) 0 false).app (acc ++ [⟨k, p, p + m⟩])) := by
              unfold Hid
              rw [HC.out, cut_word p hst hfi, CutR.app_app, List.drop_drop]
            obtain ⟨M, hM⟩ : ∃ M, p + m = M := ⟨_, rfl⟩
            rw [hM] at hwd HE
            have hpM : p < M := by omega
            have hMn : M ≤ n := by omega
            clear hfi hst hwe hsp1 HHS HST HPOS H35 hM hm1 hm2 hk0
            unfold GotK cellsK nv at hwd
            go_wp2_with fail
            refine hwd.mono ?_
            rintro e w2 ⟨rfl, hb2⟩
            have hown2 := HO.out.below hb2
            have HB2 := Lib.hid (bl_trans HB.out hb2)
            have hsz2 := HB2.out.size
            have HO3 := Lib.hid (World.ownsRow.alloc (World.ownsRow.alloc hown2 (.cells #[.int .i64 (k : Int), .int .i64 (p : Int), .int .i64 (M : Int)] 36)) (.cells #[.int .i64 (k : Int), .int .i64 (p : Int), .int .i64 (M : Int)] 36))
            have hnew := heap_alloc_new w2 (.cells #[.int .i64 (k : Int), .int .i64 (p : Int), .int .i64 (M : Int)] 36)
            have HOB := Lib.hid (fun k hk => (World.ownsRow.lt hown2 k hk).1)
            clear hown2
            go_wp2_with (at_builtin; refine wpList_append_tk _ rfl _ _ rfl w.heap.size _ acc rfl HO3.out ⟨w2.heap.size + 1, 0, none⟩ ⟨k, p, M⟩ rfl (by have := cells_one (w2.alloc (.cells #[.int .i64 (k : Int), .int .i64 (p : Int), .int .i64 (M : Int)] 36)) (.int .i64 (k : Int)) (.int .i64 (p : Int)) (.int .i64 (M : Int)); rw [World.size_alloc] at this; exact this) (by omega) (by simp; omega) ?_)
            intro v' w3 ho3 hg3 _
            have hc3 : w3.cell? ⟨w2.heap.size, 2, none⟩ = some (.int .i64 (M : Int)) := by
              refine hg3.cell ?_ (fun e => ?_)
              · rw [World.cell?_alloc_lt _ _ _ (by simp)]
                exact agg3 w2 _ _ _ 2 (by omega)
              · have := (World.ownsRow.lt HO.out _ e.symm).2
                have h9 := hb2.size
                simp at this
                omega
            have HB3 := Lib.hid (bl_grown (bl_alloc (bl_alloc HB2.out _) _) hg3 (fun k hk => HOB.out k hk))
            have HO4 := Lib.hid ho3
            have hMx : n - M < n - p := by omega
            have HMX := Lib.hid hMx
            clear ho3 hg3 hMx
            go_wp2_with fail
            go_roundw
            case rel => exact ⟨M, acc ++ [⟨k, p, M⟩], by first | rfl | trivial, hMn, HO4.out, by simp; omega, HE, HB3.out⟩
            case measure => have := HMX.out; simpa [intOf] using this
      · have bl : decide (p < n) = false := by simp; omega
        have hpe : b.drop p = [] := List.drop_eq_nil_of_le (by rw [HL.out]; omega)
        have HE : Hid (cutE b = .ok acc) := by
          unfold Hid
          rw [HC.out, hpe]
          simp [cutS, CutR.app]
        clear hpe hlt
        go_wp2_with fail
        refine bodyPost_ret (results_tmp3 rfl _ _ _) rfl ?_
        refine post_is HQ ?_
        rw [HE.out]
        exact ⟨_, rfl, hown, hbw⟩

attribute [-go_sem] run_equalIn_agg
set_option maxRecDepth 20000 in
theorem same_yes (A A' : Option Addr) (n c n' c' : Nat) (l : List Tk) (w : World) (hl : l.length = n) (hl' : l.length = n') (hr : RdT w A l) (hr' : RdT w A' l) (hn : n ≤ 1000000) : Calls Tryd.prog 13 #[.slice A n c, .slice A' n' c'] w (GotBool w true) := by
  generalize hQ : GotBool w true = Q
  have HQ := Lib.hid hQ
  obtain rfl : n = n' := by omega
  have hb : ((n : Int) != (n : Int)) = false := by simp
  have HL := Lib.hid hl
  have HR := Lib.hid hr
  have HR' := Lib.hid hr'
  clear hQ hl hl' hr hr'
  go_enter Tryd.func13, Tryd.ntmps13
  go_wp2_with fail
  go_loopw [5] (fun v wr => ∃ i : Nat, i ≤ n ∧ v = .int .i64 (i : Int) ∧ Below w.heap.size w wr) (fun v _ => n - (intOf v).toNat)
  case atStart => exact ⟨0, Nat.zero_le _, rfl, Below.refl _ _⟩
  case round =>
    obtain ⟨i, hi, rfl, hbw⟩ := hrel
    by_cases hlt : i < n
    · have hil : i < l.length := by rw [HL.out]; exact hlt
      obtain ⟨ad, hA, q0, q1, q2⟩ := HR.out.below hbw i hil
      obtain ⟨ad', hA', r0, r1, r2⟩ := HR'.out.below hbw i hil
      subst hA hA'
      have bl : decide (i < n) = true := by simp [hlt]
      have heq := fun W => eq_toks_fields l[i] l[i] W
      rw [decide_eq_true rfl] at heq
      unfold cellsK at heq
      unfold nv at *
      generalize l[i].kind = x at *
      generalize l[i].from' = y at *
      generalize l[i].to = z at *
      have HLT := Lib.hid hlt
      have HMM := Lib.hid (show n - (i + 1) < n - i by omega)
      have HB := Lib.hid hbw
      have heq : ∀ W, (Op.equalIn 10000 36 (.agg #[.int .i64 (x : Int), .int .i64 (y : Int), .int .i64 (z : Int)]) (.agg #[.int .i64 (x : Int), .int .i64 (y : Int), .int .i64 (z : Int)])).run Tryd.prog W = .ok true W := heq
      clear hil hbw
      go_wp2_with fail
      refine wp_region_held_drew (S := fun W' => W' = wr.drew) (by kernel_rfl) rfl (fun hHeld => ?_)
      have d0 := (show wr.drew.cell? _ = _ from q0)
      have d1 := (show wr.drew.cell? _ = _ from q1)
      have d2 := (show wr.drew.cell? _ = _ from q2)
      have d3 := (show wr.drew.cell? _ = _ from r0)
      have d4 := (show wr.drew.cell? _ = _ from r1)
      have d5 := (show wr.drew.cell? _ = _ from r2)
      clear q0 q1 q2 r0 r1 r2
      try simp only [List.getElem_toArray, List.getElem_cons_zero, List.getElem_cons_succ, Act.put, List.setIfInBounds_toArray, List.set_cons_zero, List.set_cons_succ]
      refine wpAnyH_take (i := 0) (v := ?vzsm0) rfl (by kernel_rfl) (by kernel_rfl) (by kernel_rfl) (fun _ _ _ h => h) (Or.inl ⟨by rfl, ?yzsm0⟩) hHeld ?rzsm0
      case yzsm0 => (intro wS hSw; subst hSw; go_simp; try (with_reducible rfl))
      try simp only [List.getElem_toArray, List.getElem_cons_zero, List.getElem_cons_succ, Act.put, List.setIfInBounds_toArray, List.set_cons_zero, List.set_cons_succ]
      refine wpAnyH_take (i := 1) (v := ?vzsm1) rfl (by kernel_rfl) (by kernel_rfl) (by kernel_rfl) (fun _ _ _ h => h) (Or.inl ⟨by rfl, ?yzsm1⟩) hHeld ?rzsm1
      case yzsm1 => (intro wS hSw; subst hSw; go_simp; try (with_reducible rfl))
      try simp only [List.getElem_toArray, List.getElem_cons_zero, List.getElem_cons_succ, Act.put, List.setIfInBounds_toArray, List.set_cons_zero, List.set_cons_succ]
      refine wpAnyH_take (i := 2) (v := ?vzsm2) rfl (by kernel_rfl) (by kernel_rfl) (by kernel_rfl) (fun _ _ _ h => h) (Or.inl ⟨by rfl, ?yzsm2⟩) hHeld ?rzsm2
      case yzsm2 => (intro wS hSw; subst hSw; go_simp; try (with_reducible rfl))
      try simp only [List.getElem_toArray, List.getElem_cons_zero, List.getElem_cons_succ, Act.put, List.setIfInBounds_toArray, List.set_cons_zero, List.set_cons_succ]
      refine wpAnyH_take (i := 3) (v := ?vzsm3) rfl (by kernel_rfl) (by kernel_rfl) (by kernel_rfl) (fun _ _ _ h => h) (Or.inl ⟨by rfl, ?yzsm3⟩) hHeld ?rzsm3
      case yzsm3 => (intro wS hSw; subst hSw; go_simp; try (with_reducible rfl))
      try simp only [List.getElem_toArray, List.getElem_cons_zero, List.getElem_cons_succ, Act.put, List.setIfInBounds_toArray, List.set_cons_zero, List.set_cons_succ]
      refine wpAnyH_take (i := 4) (v := ?vzsm4) rfl (by kernel_rfl) (by kernel_rfl) (by kernel_rfl) (fun _ _ _ h => h) (Or.inl ⟨by rfl, ?yzsm4⟩) hHeld ?rzsm4
      case yzsm4 => (intro wS hSw; subst hSw; go_simp; try (with_reducible rfl))
      try simp only [List.getElem_toArray, List.getElem_cons_zero, List.getElem_cons_succ, Act.put, List.setIfInBounds_toArray, List.set_cons_zero, List.set_cons_succ]
      refine wpAnyH_take (i := 5) (v := ?vzsm5) rfl (by kernel_rfl) (by kernel_rfl) (by kernel_rfl) (fun _ _ _ h => h) (Or.inl ⟨by rfl, ?yzsm5⟩) hHeld ?rzsm5
      case yzsm5 => (intro wS hSw; subst hSw; go_simp; try (with_reducible rfl))
      try simp only [List.getElem_toArray, List.getElem_cons_zero, List.getElem_cons_succ, Act.put, List.setIfInBounds_toArray, List.set_cons_zero, List.set_cons_succ]
      refine wpAnyH_take (i := 6) (v := ?vzsm6) rfl (by kernel_rfl) (by kernel_rfl) (by kernel_rfl) (fun _ _ _ h => h) (Or.inl ⟨by rfl, ?yzsm6⟩) hHeld ?rzsm6
      case yzsm6 => (intro wS hSw; subst hSw; go_simp; try (with_reducible rfl))
      try simp only [List.getElem_toArray, List.getElem_cons_zero, List.getElem_cons_succ, Act.put, List.setIfInBounds_toArray, List.set_cons_zero, List.set_cons_succ]
      refine wpAnyH_take (i := 7) (v := ?vzsm7) rfl (by kernel_rfl) (by kernel_rfl) (by kernel_rfl) (fun _ _ _ h => h) (Or.inl ⟨by rfl, ?yzsm7⟩) hHeld ?rzsm7
      case yzsm7 => (intro wS hSw; subst hSw; go_simp; try (with_reducible rfl))
      try simp only [List.getElem_toArray, List.getElem_cons_zero, List.getElem_cons_succ, Act.put, List.setIfInBounds_toArray, List.set_cons_zero, List.set_cons_succ]
      refine wpAnyH_take (i := 8) (v := .bool false) rfl (by kernel_rfl) (by kernel_rfl) (by kernel_rfl) (fun _ _ _ h => h) (Or.inl ⟨by rfl, fun wS hSw => by subst hSw; go_simp; try rw [heq]⟩) hHeld ?_
      try simp only [List.getElem_toArray, List.getElem_cons_zero, List.getElem_cons_succ, Act.put, List.setIfInBounds_toArray, List.set_cons_zero, List.set_cons_succ]
      refine wpAnyH_done (by kernel_rfl) ?_ _
      clear hHeld d0 d1 d2 d3 d4 d5 heq
      go_wp2_with fail
      go_roundw
      case rel => exact ⟨i + 1, HLT.out, by go_num, bl_drewN HB.out 1⟩
      case measure => have := HMM.out; simpa [intOf, IntWalk.wrap64_in ((i : Int) + 1) ⟨by omega, by omega⟩] using this
    · have bl : decide (i < n) = false := by simp; omega
      clear hlt
      go_wp2_with fail
      exact post_is HQ ⟨rfl, hbw⟩

set_option maxRecDepth 20000 in
theorem cutlaw_walk_any (A : Option Addr) (n c : Nat) (b : List UInt8) (w : World) (hT : Tab w) (hl : b.length = n) (hnc : n ≤ c) (hn0 : n ≤ 140737488351232) (hr : Rd w A b) : Calls Tryd.prog 3 #[.slice A n c] w (Yes w) := by
  generalize hQ : Yes w = Q
  have HQ := Lib.hid hQ
  have HR := Lib.hid hr
  have HL := Lib.hid hl
  have hfew : (ansE b).1.length ≤ 8192 := by
    unfold ansE
    split
    · simp
    · cases h : cutE b with
      | bad p => simp
      | ok l => have := cut_few h; simp only; omega
  clear hQ
  have hcp := copy_any A n c b w hl hr (by omega)
  clear hr hl
  go_enter Tryd.func3, Tryd.ntmps3
  go_wp2_with fail
  refine hcp.mono ?_
  rintro e w1 ⟨v, rfl, ho, hb1⟩
  obtain ⟨A1, n1, c1, rfl, HL1, g1, g2, hr1⟩ := ho.form
  have hn1 : n1 = n := by rw [← HL1.out, HL.out]
  subst hn1
  have hT1 := hT.below hb1
  have HB1 := Lib.hid hb1
  have HR1 := Lib.hid hr1
  clear ho hb1 hr1 hcp
  go_wp2_with fail
  refine (cut_any A1 n1 c1 b w1 HL1.out HR1.out (by unfold maxLen; omega) hT1).mono ?_
  rintro e w2 ⟨v2, rfl, ho2, hb2⟩
  obtain ⟨A2, n2, c2, rfl, HL2, f1, f2, hr2⟩ := ho2.shape
  have HB2 := Lib.hid (bl_trans HB1.out hb2)
  have HB12 := Lib.hid hb2
  have HR2 := Lib.hid hr2
  clear ho2 hb2 hr2
  go_wp2_with fail
  refine (rcut_any A n1 c b w2 HL.out (HR.out.below HB2.out) (by unfold maxLen; omega) hnc).mono ?_
  rintro e w3 ⟨v3, rfl, ho3, hb3⟩
  obtain ⟨A3, n3, c3, rfl, HL3, f3, f4, hr3⟩ := ho3.shape
  have HB3 := Lib.hid (bl_trans HB2.out hb3)
  have HB13 := Lib.hid (bl_trans HB12.out hb3)
  have hr23 := HR2.out.below hb3
  have hsm := same_yes A2 A3 n2 c2 n3 c3 (ansE b).1 w3 HL2.out HL3.out hr23 hr3 (by rw [← HL2.out]; omega)
  have HSM := Lib.hid hsm
  clear ho3 hb3 hr3 hr23 hsm hfew
  generalize (ansE b).2.1 = at2 at *
  generalize (ansE b).2.2 = er2 at *
  go_wp2_with fail
  refine HSM.out.mono ?_
  rintro e w4 ⟨rfl, hb4⟩
  have HB4 := Lib.hid (bl_trans HB3.out hb4)
  have HB14 := Lib.hid (bl_trans HB13.out hb4)
  clear hb4
  have heq := eq_any A1 A n1 c1 n1 c b b w4 HL1.out HL.out (HR1.out.below HB14.out) (HR.out.below HB4.out) (by unfold maxLen; omega) (by unfold maxLen; omega)
  rw [decide_eq_true rfl] at heq
  have HEQ := Lib.hid heq
  clear heq
  go_wp2_with fail
  refine HEQ.out.mono ?_
  rintro e w5 ⟨rfl, hb5⟩
  have HB5 := Lib.hid (bl_trans HB4.out hb5)
  have hT5 := hT.below HB5.out
  clear hb5
  go_wp2_with fail
  refine (awake_any _ hT5).mono ?_
  rintro e w6 ⟨rfl, hb6⟩
  go_wp2_with fail
  exact post_is HQ ⟨rfl, bl_trans HB5.out hb6⟩


theorem cutlaw_walk (A : Option Addr) (n c : Nat) (b : List UInt8) (w : World) (hT : Tab w) (hl : b.length = n) (hnc : n ≤ c) (hcm : c ≤ 140737488351232) (hr : Rd w A b) : Calls Tryd.prog 3 #[.slice A n c] w (Yes w) :=
  cutlaw_walk_any A n c b w hT hl hnc (by omega) hr


end Go.Proofs.YtlepaciglkodbaaDoor
