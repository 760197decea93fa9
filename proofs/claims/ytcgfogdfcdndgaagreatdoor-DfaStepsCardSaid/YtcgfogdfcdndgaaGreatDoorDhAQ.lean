/- Machines: the document's Check. -/
import Derived.Test.YtcgfogdfcdndgaaGreatDoorDgXQ
set_option linter.unusedVariables false
set_option linter.unusedSimpArgs false
namespace Go.Proofs.YtcgfogdfcdndgaaGreatDoor
open Go.RowKit
attribute [local go_sem] Oper.semAt_some

theorem may_iff (cl : Nat → Int) (T : List (List Int)) (X : List Int) : mayD (clL cl) T X = true ↔ (T.length ≠ 0 ∧ X.length = T.length ∧ (∀ i (h : i < T.length), T[i].length = (T.headD []).length ∧ ∀ k (hk : k < T[i].length), -1 ≤ T[i][k] ∧ T[i][k] < (T.length : Int)) ∧ (∀ c, c < 256 → 0 ≤ cl c ∧ cl c < ((T.headD []).length : Int)) ∧ ∀ i (h : i < X.length), -1 ≤ X[i] ∧ X[i] < 64) := by
  unfold mayD
  simp only [Bool.and_eq_true, Bool.not_eq_true', Bool.or_eq_false_iff, beq_eq_false_iff_ne, bne_eq_false_iff_eq, List.all_eq_true, beq_iff_eq]
  have inD_iff : ∀ lo hi x, inD lo hi x = true ↔ lo ≤ x ∧ x < hi := fun lo hi x => by unfold inD; simp
  constructor
  · rintro ⟨⟨⟨a1, a2⟩, a3⟩, a4, a5⟩
    refine ⟨a1, a2, fun i hi => ⟨(a3 _ (List.getElem_mem hi)).1, fun k hk => (inD_iff _ _ _).1 ((a3 _ (List.getElem_mem hi)).2 _ (List.getElem_mem hk))⟩, fun c hc => (inD_iff _ _ _).1 (a4 _ ?_), fun i hi => (inD_iff _ _ _).1 (a5 _ (List.getElem_mem hi))⟩
    unfold clL
    exact List.mem_map.2 ⟨c, List.mem_range.2 hc, rfl⟩
  · rintro ⟨a1, a2, a3, a4, a5⟩
    refine ⟨⟨⟨a1, a2⟩, fun r hr => ?_⟩, fun x hx => ?_, fun x hx => ?_⟩
    · obtain ⟨i, hi, rfl⟩ := List.mem_iff_getElem.1 hr
      refine ⟨(a3 i hi).1, fun x hx => ?_⟩
      obtain ⟨k, hk, rfl⟩ := List.mem_iff_getElem.1 hx
      exact (inD_iff _ _ _).2 ((a3 i hi).2 k hk)
    · unfold clL at hx
      obtain ⟨c, hc, rfl⟩ := List.mem_map.1 hx
      exact (inD_iff _ _ _).2 (a4 c (List.mem_range.1 hc))
    · obtain ⟨i, hi, rfl⟩ := List.mem_iff_getElem.1 hx
      exact (inD_iff _ _ _).2 (a5 i hi)
theorem all_noD {α : Type} {l : List α} {p : α → Bool} {k : Nat} (hk : k < l.length) (h : p l[k] = false) : l.all p = false := by
  rw [Bool.eq_false_iff]
  intro ha
  rw [List.all_eq_true.1 ha _ (List.getElem_mem hk)] at h
  cases h
theorem all_nextD {α : Type} {l : List α} {p : α → Bool} {k : Nat} (hk : k < l.length) (h0 : (l.take k).all p = true) (h : p l[k] = true) : (l.take (k + 1)).all p = true := by
  rw [List.take_succ_eq_append_getElem hk, List.all_append, h0]
  simp [h]
theorem chk_many {cl : Nat → Int} {T : List (List Int)} {X : List Int} (h : 512 < T.length ∨ 512 < X.length ∨ T.all fewC = false) : checkD (clL cl) T X = 5 := by
  unfold checkD
  rw [if_pos]
  rcases h with h | h | h
  · exact Or.inl h
  · exact Or.inr (Or.inl h)
  · refine Or.inr (Or.inr ?_)
    have h1 : ¬ T.all fewC = true := by rw [h]; simp
    rw [List.all_eq_true] at h1
    rw [List.any_eq_true]
    apply Classical.byContradiction
    intro hn
    refine h1 fun x hx => ?_
    unfold fewC
    cases hd : decide (256 < x.length) with
    | false => rfl
    | true => exact absurd ⟨x, hx, hd⟩ hn
theorem chk_few {cl : Nat → Int} {T : List (List Int)} {X : List Int} (h1 : ¬ 512 < T.length) (h2 : ¬ 512 < X.length) (h3 : T.all fewC = true) : checkD (clL cl) T X = if mayD (clL cl) T X = true then 0 else 2 := by
  unfold checkD
  rw [if_neg]
  rintro (h | h | h)
  · exact h1 h
  · exact h2 h
  · obtain ⟨x, hx, hd⟩ := List.any_eq_true.1 h
    have := List.all_eq_true.1 h3 x hx
    unfold fewC at this
    rw [hd] at this
    cases this
set_option maxRecDepth 100000 in
set_option maxHeartbeats 16000000 in
theorem rchkd_any (cl : Nat → Int) (T : List (List Int)) (X : List Int) (An Ax : Option Addr) (nn cn nx cx : Nat) (hnn : T.length = nn) (hnx : X.length = nx) (hn2 : nn ≤ 140737488355328) (hx2 : nx ≤ 140737488355328) (hrb : ∀ r ∈ T, r.length ≤ 140737488355328) (W : World) (hr : RdTb W An T) (hx : RdW W Ax X) :
    Calls Tryz.prog 22 #[.agg (mkT cl [.slice An nn cn, .slice Ax nx cx])] W (GotEr W (checkD (clL cl) T X)) := by
  generalize hQ : GotEr W (checkD (clL cl) T X) = Q
  have HQ := Lib.hid hQ
  have b0 := bl_alloc (Below.refl W.heap.size W) (.cells (mkT cl [.slice An nn cn, .slice Ax nx cx]) 33)
  have M0 := Lib.hid (show MachB W W.heap.size cl T X An Ax nn cn nx cx (mkT cl [.slice An nn cn, .slice Ax nx cx]) (W.alloc (.cells (mkT cl [.slice An nn cn, .slice Ax nx cx]) 33)) from
    ⟨heap_alloc_new W _, rfl, hr.below b0, hx.below b0, b0, hnn, hnx, hn2, hx2⟩)
  have HRB := Lib.hid hrb
  have HNN := Lib.hid hnn
  have HNX := Lib.hid hnx
  clear hQ hr hx hnn hnx b0 hrb
  generalize mkT cl [.slice An nn cn, .slice Ax nx cx] = dv at *
  go_enter Tryz.func22, Tryz.ntmps22
  go_upto_region 1 with fail
  generalize W.alloc (.cells dv 33) = wA at *
  generalize W.heap.size = g at *
  have c1 := M0.out.next
  have c2 := M0.out.rule
  by_cases a1 : 512 < nn
  · have d1 : decide ((512 : Int) < (nn : Int)) = true := by simp; omega
    go_wp2_with fail
    refine post_is HQ ⟨?_, M0.out.low⟩
    rw [chk_many (Or.inl (by rw [HNN.out]; exact a1))]
    rfl
  have d1 : decide ((512 : Int) < (nn : Int)) = false := by simp; omega
  by_cases a2 : 512 < nx
  · have d2 : decide ((512 : Int) < (nx : Int)) = true := by simp; omega
    go_wp2_with fail
    refine post_is HQ ⟨?_, M0.out.low⟩
    rw [chk_many (Or.inr (Or.inl (by rw [HNX.out]; exact a2)))]
    rfl
  have d2 : decide ((512 : Int) < (nx : Int)) = false := by simp; omega
  go_wp2_with fail
  clear c1 c2 d1 d2
  go_loopw [3] (fun vi wr => ∃ k : Nat, k ≤ nn ∧ vi = .int .i64 (k : Int) ∧ Hid ((T.take k).all fewC = true) ∧ Hid (MachB W g cl T X An Ax nn cn nx cx dv wr)) (fun vi _ => nn - (intOf vi).toNat)
  case atStart => exact ⟨0, Nat.zero_le _, rfl, rfl, M0.out⟩
  case round =>
    obtain ⟨k, hk, rfl, HA, M1⟩ := hrel
    have c1 := M1.out.next
    by_cases hlt : k < nn
    · have hkl : k < T.length := by rw [HNN.out]; exact hlt
      obtain ⟨ad, hA, B9, m9, d9, hc9, hm9, hmd9, hr9⟩ := M1.out.row hkl
      subst hA
      have i1 : (k : Int) < (nn : Int) := by omega
      have HKL := Lib.hid hkl
      have HM9 := Lib.hid hm9
      clear hr9 hm9
      by_cases a3 : 256 < m9
      · have d3 : decide ((256 : Int) < (m9 : Int)) = true := by simp; omega
        go_wp2_with fail
        refine post_is HQ ⟨?_, M1.out.low⟩
        rw [chk_many (Or.inr (Or.inr (all_noD HKL.out (by unfold fewC; rw [HM9.out]; simp; exact a3))))]
        rfl
      · have d3 : decide ((256 : Int) < (m9 : Int)) = false := by simp; omega
        go_wp2_with fail
        refine ⟨⟨k + 1, by omega, by go_num, ?_, M1.out⟩, by simp [intOf]; omega⟩
        exact all_nextD HKL.out HA.out (by unfold fewC; rw [HM9.out]; simp; omega)
    · obtain rfl : k = nn := by omega
      have HF := Lib.hid (show T.all fewC = true from by have := HA.out; rwa [List.take_of_length_le (by rw [HNN.out]; exact Nat.le_refl _)] at this)
      have HCK := Lib.hid (chk_few (cl := cl) (by rw [HNN.out]; exact a1) (by rw [HNX.out]; exact a2) HF.out)
      have HB := Lib.hid (show ¬ mayD (clL cl) T X = true → checkD (clL cl) T X = 2 from fun h => by rw [HCK.out, if_neg h])
      have HG := Lib.hid (show mayD (clL cl) T X = true → checkD (clL cl) T X = 0 from fun h => by rw [HCK.out, if_pos h])
      have HMI := Lib.hid (may_iff cl T X)
      clear HA HF HCK hk hlt
      have c2 := M1.out.rule
      by_cases z0 : k = 0
      · subst z0
        go_wp2_with fail
        refine post_is HQ ⟨?_, M1.out.low⟩
        rw [HB.out (fun h => (HMI.out.1 h).1 HNN.out)]
        rfl
      have e0 : ((k : Int) == 0) = false := by rw [beq_eq_false_iff_ne]; omega
      by_cases z1 : nx = k
      · subst z1
        have h0 : 0 < T.length := by rw [HNN.out]; omega
        obtain ⟨ad, hA, B0, m0, d0, hc0, hm0, hmd0, hr0⟩ := M1.out.row h0
        subst hA
        have HHD := Lib.hid (show (T.headD []).length = m0 from by rw [← hm0]; cases T with | nil => simp at h0 | cons x l => rfl)
        have HM0 := Lib.hid (show ∀ w', Below wr.heap.size wr w' → w'.cell? ad = some (.slice B0 m0 d0) from fun w' hb => (hb.cell (World.block_lt_of_cell? wr _ (by rwa [add_zero_a] at hc0))).trans (by rwa [add_zero_a] at hc0))
        have hc00 : wr.cell? ad = some (.slice B0 m0 d0) := HM0.out wr (Below.refl _ _)
        have i0 : (0 : Int) < (nx : Int) := by omega
        clear hr0 hm0 h0 hc0
        have e1 : ((nx : Int) != (nx : Int)) = false := by simp
        by_cases z2 : m0 = 0
        · subst z2
          go_wp2_with fail
          refine post_is HQ ⟨?_, M1.out.low⟩
          rw [HB.out (fun h => by have := (HMI.out.1 h).2.2.2.1 0 (by omega); rw [HHD.out] at this; omega)]
          rfl
        have e2 : ((m0 : Int) == 0) = false := by rw [beq_eq_false_iff_ne]; omega
        go_wp2_with fail
        clear c1 c2 hc00
        have MB1 := Lib.hid (Below.refl wr.heap.size wr)
        generalize hw1 : wr = w1 at *
        have HW1 := Lib.hid hw1
        clear hw1
        go_loopw [4] (fun vi wr => ∃ k : Nat, k ≤ 256 ∧ vi = .int .i64 (k : Int) ∧ Hid (∀ c, c < k → 0 ≤ cl c ∧ cl c < (m0 : Int)) ∧ Hid (Below w1.heap.size w1 wr)) (fun vi _ => 256 - (intOf vi).toNat)
        case atStart => exact ⟨0, Nat.zero_le _, rfl, fun c hc => absurd hc (by omega), Below.refl _ _⟩
        case round =>
          obtain ⟨k, hk, rfl, HA, BW⟩ := hrel
          have M2 := Lib.hid (M1.out.then BW.out)
          have c1 := M2.out.next
          have hc00 := HM0.out wr BW.out
          by_cases hlt : k < 256
          · have cc := M2.out.cls hlt
            have HCK := Lib.hid (show ∀ (P : Prop), (0 ≤ cl k ∧ cl k < (m0 : Int) → P) → (¬ (0 ≤ cl k ∧ cl k < (m0 : Int)) → P) → P from fun P h1 h2 => if h : 0 ≤ cl k ∧ cl k < (m0 : Int) then h1 h else h2 h)
            have HBC := Lib.hid (show ¬ (0 ≤ cl k ∧ cl k < (m0 : Int)) → checkD (clL cl) T X = 2 from fun hn => HB.out (fun h => hn (by have := (HMI.out.1 h).2.2.2.1 k hlt; rwa [HHD.out] at this)))
            have HNX2 := Lib.hid (show 0 ≤ cl k ∧ cl k < (m0 : Int) → ∀ c, c < k + 1 → 0 ≤ cl c ∧ cl c < (m0 : Int) from fun h c hc => by
              by_cases hck : c = k
              · rw [hck]; exact h
              · exact HA.out c (by omega))
            generalize cl k = ck at *
            have i1 : (k : Int) < 256 := by omega
            by_cases b1 : ck < 0
            · have d1 : decide (ck < 0) = true := by simpa using b1
              go_wp2_with fail
              go_quiet (fail)
              go_wp2_with fail
              refine post_is HQ ⟨?_, bl_drewN M2.out.low _⟩
              rw [HBC.out (by omega)]
              rfl
            have d1 : decide (ck < 0) = false := by simpa using b1
            by_cases b2 : (m0 : Int) ≤ ck
            · have d2 : decide ((m0 : Int) ≤ ck) = true := by simpa using b2
              go_wp2_with fail
              go_quiet (fail)
              go_wp2_with fail
              refine post_is HQ ⟨?_, bl_drewN M2.out.low _⟩
              rw [HBC.out (by omega)]
              rfl
            have d2 : decide ((m0 : Int) ≤ ck) = false := by simpa using b2
            go_wp2_with fail
            go_quiet (fail)
            go_wp2_with fail
            refine ⟨⟨k + 1, by omega, by go_num, HNX2.out (by omega), bl_drewN BW.out _⟩, by simp [intOf]; omega⟩
          · obtain rfl : k = 256 := by omega
            have HC := Lib.hid HA.out
            clear HA hk hlt c1 hc00
            have BW2 := Lib.hid BW.out
            clear BW
            go_wp2_with fail
            go_loopw [5] (fun vi wr => ∃ k : Nat, k ≤ nx ∧ vi = .int .i64 (k : Int) ∧ Hid (∀ i (h : i < T.length) (h2 : i < X.length), i < k → (T[i].length = m0 ∧ ∀ j (hj : j < T[i].length), -1 ≤ T[i][j] ∧ T[i][j] < (nx : Int)) ∧ -1 ≤ X[i] ∧ X[i] < 64) ∧ Hid (Below w1.heap.size w1 wr)) (fun vi _ => nx - (intOf vi).toNat)
            case atStart => exact ⟨0, Nat.zero_le _, rfl, fun i h h2 hi => absurd hi (by omega), BW2.out⟩
            case round =>
              obtain ⟨k, hk, rfl, HA, BW⟩ := hrel
              have M3 := Lib.hid (M1.out.then BW.out)
              have c1 := M3.out.next
              have c2 := M3.out.rule
              have hc00 := HM0.out wr BW.out
              by_cases hlt : k < nx
              · have hkl : k < T.length := by rw [HNN.out]; exact hlt
                have hkx : k < X.length := by rw [HNX.out]; exact hlt
                obtain ⟨ad2, hA, B9, m9, d9, hc9, hm9, hmd9, hr9⟩ := M3.out.row hkl
                obtain rfl := Option.some.inj hA
                obtain ⟨adx, hAx, hcx⟩ := M3.out.rx k hkx
                subst hAx
                have i1 : (k : Int) < (nx : Int) := by omega
                have HROW := Lib.hid (show checkD (clL cl) T X = 0 → (m9 = m0 ∧ (∀ j (hj : j < T[k].length), -1 ≤ T[k][j] ∧ T[k][j] < (nx : Int))) ∧ -1 ≤ X[k] ∧ X[k] < 64 from fun h0 => by
                  have hm : mayD (clL cl) T X = true := by
                    cases hmy : mayD (clL cl) T X with
                    | true => rfl
                    | false => rw [HB.out (by rw [hmy]; simp)] at h0; cases h0
                  obtain ⟨_, _, q3, _, q5⟩ := HMI.out.1 hm
                  have q31 := (q3 k hkl).1
                  rw [hm9, HHD.out] at q31
                  exact ⟨⟨q31, fun j hj => by have := (q3 k hkl).2 j hj; rw [HNN.out] at this; exact this⟩, q5 k hkx⟩)
                have HBD := Lib.hid (show checkD (clL cl) T X = 0 ∨ checkD (clL cl) T X = 2 from by
                  cases hmy : mayD (clL cl) T X with
                  | true => exact Or.inl (HG.out hmy)
                  | false => exact Or.inr (HB.out (by rw [hmy]; simp)))
                have HNXT := Lib.hid (show m9 = m0 → (∀ j (hj : j < T[k].length), -1 ≤ T[k][j] ∧ T[k][j] < (nx : Int)) → -1 ≤ X[k] ∧ X[k] < 64 → ∀ i (h : i < T.length) (h2 : i < X.length), i < k + 1 → (T[i].length = m0 ∧ ∀ j (hj : j < T[i].length), -1 ≤ T[i][j] ∧ T[i][j] < (nx : Int)) ∧ -1 ≤ X[i] ∧ X[i] < 64 from fun e1 e2 e3 i h h2 hi => by
                  by_cases hik : i = k
                  · subst hik
                    exact ⟨⟨by rw [hm9]; exact e1, e2⟩, e3⟩
                  · exact HA.out i h h2 (by omega))
                generalize X[k] = xv at *
                have HM9 := Lib.hid hm9
                have hrb9 : m9 ≤ 140737488355328 := by have := HRB.out _ (List.getElem_mem hkl); rwa [hm9] at this
                generalize T[k] = row at *
                have HR9 := Lib.hid hr9
                clear hm9 hr9 hkl hkx
                by_cases b0 : m9 = m0
                · subst b0
                  have e0 : ((m9 : Int) != (m9 : Int)) = false := by simp
                  by_cases b1 : xv < -1
                  · have d1 : decide (xv < -1) = true := by simpa using b1
                    go_wp2_with fail
                    go_quiet (fail)
                    go_wp2_with fail
                    refine post_is HQ ⟨?_, bl_drewN M3.out.low _⟩
                    rw [HBD.out.resolve_left (fun h => by have := (HROW.out h).2.1; omega)]
                    rfl
                  have d1 : decide (xv < -1) = false := by simpa using b1
                  by_cases b2 : 64 ≤ xv
                  · have d2 : decide (64 ≤ xv) = true := by simpa using b2
                    go_wp2_with fail
                    go_quiet (fail)
                    go_wp2_with fail
                    refine post_is HQ ⟨?_, bl_drewN M3.out.low _⟩
                    rw [HBD.out.resolve_left (fun h => by have := (HROW.out h).2.2; omega)]
                    rfl
                  have d2 : decide (64 ≤ xv) = false := by simpa using b2
                  go_wp2_with fail
                  go_quiet (fail)
                  go_wp2_with fail
                  have BW3 := Lib.hid BW.out
                  have K9 := Lib.hid (World.block_lt_of_cell? wr _ hc9)
                  have HC9 := Lib.hid hc9
                  obtain ⟨wz, hwz⟩ : ∃ x, x = wr := ⟨_, rfl⟩
                  rw [← hwz] at K9 HC9 HR9 BW3
                  clear BW c1 c2 hc00 hc9 hcx M3 M2
                  rw [← hwz]
                  clear hwz
                  go_loopw [6] (fun vi wr => ∃ k2 : Nat, k2 ≤ m9 ∧ vi = .int .i64 (k2 : Int) ∧ Hid (∀ j (hj : j < row.length), j < k2 → -1 ≤ row[j] ∧ row[j] < (nx : Int)) ∧ Hid (Below wz.heap.size wz wr)) (fun vi _ => m9 - (intOf vi).toNat)
                  case atStart => exact ⟨0, Nat.zero_le _, rfl, fun j hj h => absurd h (by omega), bl_drewN (Below.refl _ _) _⟩
                  case round =>
                    obtain ⟨k2, hk2, rfl, HA2, BZ⟩ := hrel
                    have M4 := Lib.hid (M1.out.then (bl_trans BW3.out BZ.out))
                    have c1 := M4.out.next
                    have hc9 := (BZ.out.cell K9.out).trans HC9.out
                    by_cases hlt2 : k2 < m9
                    · have hkr : k2 < row.length := by rw [HM9.out]; exact hlt2
                      obtain ⟨adr, hAr, hcr⟩ := (HR9.out.below BZ.out) k2 hkr
                      subst hAr
                      have i2 : (k2 : Int) < (m9 : Int) := by omega
                      have HN2 := Lib.hid (show -1 ≤ row[k2] ∧ row[k2] < (nx : Int) → ∀ j (hj : j < row.length), j < k2 + 1 → -1 ≤ row[j] ∧ row[j] < (nx : Int) from fun h j hj hjk => by
                        by_cases hjj : j = k2
                        · subst hjj; exact h
                        · exact HA2.out j hj (by omega))
                      have HR2 := Lib.hid (show checkD (clL cl) T X = 0 → -1 ≤ row[k2] ∧ row[k2] < (nx : Int) from fun h => (HROW.out h).1.2 k2 hkr)
                      generalize row[k2] = rv at *
                      clear hkr
                      by_cases b3 : rv < -1
                      · have d3 : decide (rv < -1) = true := by simpa using b3
                        go_wp2_with fail
                        go_quiet (fail)
                        go_wp2_with fail
                        refine post_is HQ ⟨?_, bl_drewN M4.out.low _⟩
                        rw [HBD.out.resolve_left (fun h => by have := HR2.out h; omega)]
                        rfl
                      have d3 : decide (rv < -1) = false := by simpa using b3
                      by_cases b4 : (nx : Int) ≤ rv
                      · have d4 : decide ((nx : Int) ≤ rv) = true := by simpa using b4
                        go_wp2_with fail
                        go_quiet (fail)
                        go_wp2_with fail
                        refine post_is HQ ⟨?_, bl_drewN M4.out.low _⟩
                        rw [HBD.out.resolve_left (fun h => by have := HR2.out h; omega)]
                        rfl
                      have d4 : decide ((nx : Int) ≤ rv) = false := by simpa using b4
                      go_wp2_with fail
                      go_quiet (fail)
                      go_wp2_with fail
                      refine ⟨⟨k2 + 1, by omega, by go_num, HN2.out (by omega), bl_drewN BZ.out _⟩, by simp [intOf]; omega⟩
                    · obtain rfl : k2 = m9 := by omega
                      go_wp2_with fail
                      go_roundw
                      case rel =>
                        repeat apply Exists.intro
                        refine ⟨?_, rfl⟩
                        exact ⟨k + 1, by omega, by go_num, HNXT.out (by first | rfl | trivial) (fun j hj => HA2.out j hj (by rw [HM9.out] at hj; exact hj)) (by omega), bl_trans BW3.out BZ.out⟩
                      all_goals (simp [intOf] <;> omega)
                · have e0 : ((m9 : Int) != (m0 : Int)) = true := by simp; omega
                  go_wp2_with fail
                  go_quiet (fail)
                  go_wp2_with fail
                  refine post_is HQ ⟨?_, bl_drewN M3.out.low _⟩
                  rw [HBD.out.resolve_left (fun h => b0 (HROW.out h).1.1)]
                  rfl
              · obtain rfl : k = nx := by omega
                go_wp2_with fail
                refine post_is HQ ⟨?_, M3.out.low⟩
                rw [HG.out (HMI.out.2 ⟨by rw [HNN.out]; exact z0, by rw [HNX.out, HNN.out], fun i h => ?_, fun c hc => by rw [HHD.out]; exact HC.out c hc, fun i h => ?_⟩)]
                · rfl
                · have := (HA.out i h (by rw [HNX.out, ← HNN.out]; exact h) (by rw [← HNN.out]; exact h)).1
                  rw [HHD.out, HNN.out]
                  exact this
                · exact (HA.out i (by rw [HNN.out, ← HNX.out]; exact h) h (by rw [← HNX.out]; exact h)).2
      · have e1 : ((nx : Int) != (k : Int)) = true := by simp; omega
        go_wp2_with fail
        refine post_is HQ ⟨?_, M1.out.low⟩
        rw [HB.out (fun h => z1 (by rw [← HNX.out, (HMI.out.1 h).2.1, HNN.out]))]
        rfl

end Go.Proofs.YtcgfogdfcdndgaaGreatDoor
