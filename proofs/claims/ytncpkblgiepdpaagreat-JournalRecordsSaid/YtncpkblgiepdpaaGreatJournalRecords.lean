/- JournalRecords: of all numbers and bytes: a record's bytes, and the records in bytes, where they end, or that one is wrong, are the document's; what is answered is written over, and what was handed in stays. No condition. -/
import Derived.Test.YtncpkblgiepdpaaGreatJoL
import Derived.Test.YtncpkblgiepdpaaGreatJoRl
import Derived.Test.YtncpkblgiepdpaaGreatRow
set_option linter.unusedVariables false
set_option linter.unusedSimpArgs false
namespace Go.Proofs.YtncpkblgiepdpaaGreat
open Go.RowKit Go.Maps Go.Shelf Go.Sort Go.ChangeShapes Go.WideShapes Go.ChangeAt

theorem rdL_own {w' : World} {v : Value} {l : List (List UInt8)} {base : Nat} {vals : List Value} (ho : w'.ownsRow base 22 1 v l.length vals) (hv : ∀ q (h : q < l.length), ∃ A c, vals[q]? = some (.slice A l[q].length c) ∧ Rd w' A l[q]) : ∃ A c, v = .slice A l.length c ∧ RdL w' A l := by
  rcases ho.2 with ⟨e, hn⟩ | ⟨g, cap, cur, e, hb, hg, hnc, hcm, r⟩
  · exact ⟨none, 0, by rw [e, hn], fun h => by omega⟩
  · refine ⟨some ⟨g, 0, none⟩, cap, e, fun h0 => ⟨_, rfl, fun j hj => ?_⟩⟩
    obtain ⟨A, c, hu, hr⟩ := hv j hj
    exact ⟨A, c, World.ownsRow.cells ho (g := g) (by rw [e]; rfl) j _ hu, hr⟩
theorem recs_few (b : List UInt8) : 20 * (recsE b).1.length ≤ b.length := by
  have key : ∀ (f : Nat) (b : List UInt8) (n : Nat), 20 * (recsF f b n).1.length ≤ b.length := by
    intro f
    induction f with
    | zero => intro b n; simp [recsF]
    | succ f ih =>
      intro b n
      unfold recsF
      by_cases h : (takenE b n).2 = 0
      · rw [if_pos h]
        split
        · have hz := taken_zero (b := b) (n := n) (r := (takenE b n).1) (by rw [← h])
          have := ih (b.drop ((takenE b n).1.length + 20)) (n + 1)
          rw [List.length_drop] at this
          simp only [List.length_cons]
          omega
        · simp
      · rw [if_neg h]
        split <;> simp
  exact key _ _ _

theorem bl_drew4 {n : Nat} {w a : World} (h : Below n w a) : Below n w a.drew := ⟨h.os, h.tape, h.output, h.size, h.block⟩

set_option maxHeartbeats 8000000 in
set_option maxRecDepth 40000 in
theorem records_walk (w : World) (n : Int) (A : Option Addr) (m c : Nat) (b : List UInt8) (A' : Option Addr) (m' c' : Nat) (all : List UInt8) (h1 : -9223372036854775808 ≤ n) (h2 : n ≤ 9223372036854775807)
    (hl : b.length = m) (hr : Rd w A b) (hm : m ≤ 140737488351232) (hl' : all.length = m') (hr' : Rd w A' all) (hmc' : m' ≤ c') (hc' : c' ≤ 140737488351232) :
    Calls Tryz.prog 3 #[.int .i64 n, .slice A m c, .slice A' m' c'] w (Yes w) := by
  obtain ⟨X, hX⟩ : ∃ X, (recA n b).1 = X := ⟨_, rfl⟩
  obtain ⟨E, hE⟩ : ∃ E, (recA n b).2 = E := ⟨_, rfl⟩
  obtain ⟨L, hL⟩ : ∃ L, (recsE all).1 = L := ⟨_, rfl⟩
  obtain ⟨P, hP⟩ : ∃ P, (recsE all).2.1 = P := ⟨_, rfl⟩
  obtain ⟨G, hG⟩ : ∃ G, (recsE all).2.2 = G := ⟨_, rfl⟩
  have hmb : m' ≤ 140737488355328 := Nat.le_trans hmc' (Nat.le_trans hc' (by decide))
  have HCB : Hid (c' ≤ maxLen) := Lib.hid (Nat.le_trans hc' (by decide))
  have hLn : 20 * L.length ≤ m' := by rw [← hL, ← hl']; exact recs_few all
  have HX := Lib.hid hX
  have HE := Lib.hid hE
  have HLL := Lib.hid hL
  have HP := Lib.hid hP
  have HG := Lib.hid hG
  have HN1 := Lib.hid h1
  have HN2 := Lib.hid h2
  have HLn := Lib.hid hLn
  have HLb := Lib.hid hl
  have HLa := Lib.hid hl'
  have HRb := Lib.hid hr
  have HRa := Lib.hid hr'
  clear hX hE hL hP hG hLn hl hl' hr hr' h1 h2
  go_enter Tryz.func3, Tryz.ntmps3
  go_wp2_with fail
  refine (copy_any A m c b w HLb.out HRb.out (by omega)).mono ?_
  rintro e w1 ⟨v1, rfl, ho1, hb1⟩
  obtain ⟨A1, n1, c1, rfl, HL1, hn1, hc1, hr1⟩ := ho1.form
  have HM1 := Lib.hid (Nat.le_trans hn1 hc1)
  clear hn1 hc1
  have HR1 := Lib.hid hr1
  have B1 := Lib.hid hb1
  clear hr1 ho1 hb1
  go_wp2_with fail
  refine (copy_any A' m' c' all w1 HLa.out (HRa.out.below B1.out) (by omega)).mono ?_
  rintro e w2 ⟨v2, rfl, ho2, hb2⟩
  obtain ⟨A2, n2, c2, rfl, HL2, hn2, hc2, hr2⟩ := ho2.form
  have HM2 := Lib.hid (Nat.le_trans hn2 hc2)
  have HN2b := Lib.hid hn2
  have HC2b := Lib.hid hc2
  clear hn2 hc2
  have hn2b : n2 ≤ 140737488355328 := (HL2.out.symm.trans HLa.out) ▸ hmb
  have HR2 := Lib.hid hr2
  have HR1b := Lib.hid (HR1.out.below hb2)
  have B2 := Lib.hid (bl_trans B1.out hb2)
  clear hr2 ho2 hb2 HR1 B1
  go_wp2_with fail
  refine (recordAll n A1 n1 c1 b w2 HN1.out HN2.out HL1.out HR1b.out).mono ?_
  rintro e w3 ⟨v3, rfl, ho3, hb3⟩
  rw [HX.out] at ho3
  rw [HE.out]
  obtain ⟨A3, n3, c3, rfl, HL3, hn3, hc3, hr3⟩ := ho3.form
  have HM3 := Lib.hid (Nat.le_trans hn3 hc3)
  clear hn3 hc3
  have HR3 := Lib.hid hr3
  have HR13 := Lib.hid (HR1b.out.below hb3)
  have HR23 := Lib.hid (HR2.out.below hb3)
  have B3 := Lib.hid (bl_trans B2.out hb3)
  clear hr3 ho3 hb3 HR1b HR2 B2
  go_wp2_with fail
  refine (refRecordAll n A m c b w3 HN1.out HN2.out HLb.out (HRb.out.below B3.out)).mono ?_
  rintro e w4 ⟨v4, rfl, ho4, hb4⟩
  rw [HX.out] at ho4
  rw [HE.out]
  obtain ⟨A4, n4, c4, rfl, HL4, hn4, hc4, hr4⟩ := ho4.form
  have HM4 := Lib.hid (Nat.le_trans hn4 hc4)
  clear hn4 hc4
  have HR4 := Lib.hid hr4
  have HR34 := Lib.hid (HR3.out.below hb4)
  have HR14 := Lib.hid (HR13.out.below hb4)
  have HR24 := Lib.hid (HR23.out.below hb4)
  have B4 := Lib.hid (bl_trans B3.out hb4)
  clear hr4 ho4 hb4 HR3 HR13 HR23 B3
  go_wp2_with fail
  have hrec := records_any A2 n2 c2 all w4 HL2.out HR24.out HN2b.out HC2b.out hn2b
  refine hrec.mono ?_
  clear hrec
  rintro e w5 ⟨v5, vals5, rfl, ho5, hv5, hb5⟩
  rw [HLL.out] at ho5 hv5
  rw [HP.out, HG.out]
  have hR5 : ∃ Al cl, v5 = .slice Al L.length cl ∧ RdL w5 Al L := rdL_own ho5 (fun q hq => by
    obtain ⟨u, hu, hou⟩ := hv5 q hq
    obtain ⟨Aq, cq, rfl, _, _, hrq⟩ := hou.shape
    exact ⟨Aq, cq, hu, hrq⟩)
  obtain ⟨A5, c5, rfl, hrl5⟩ := hR5
  have hRL : RowsL w5 w4.heap.size (.slice A5 L.length c5) (L.map List.length) := by
    refine ⟨vals5, by rw [List.length_map]; exact ho5, fun q hq => ?_⟩
    rw [List.length_map] at hq
    obtain ⟨u, hu, hou⟩ := hv5 q hq
    exact ⟨u, hu, L[q], by simp, hou⟩
  have HRL := Lib.hid hRL
  have HRL5 := Lib.hid hrl5
  have B45 := Lib.hid hb5
  clear ho5 hv5 hrl5 hRL hb5
  obtain ⟨N, hN⟩ : ∃ N, L.length = N := ⟨_, rfl⟩
  have HNN := Lib.hid hN
  rw [hN] at HRL ⊢
  clear hN
  go_wp2_with fail
  refine (refRecords_any A' m' c' all w5 HLa.out (HRa.out.below (bl_trans B4.out B45.out)) hmc' HCB.out hmb).mono ?_
  rintro e w6 ⟨v6, rfl, hR6, hb6⟩
  rw [HLL.out] at hR6
  rw [HP.out, HG.out]
  obtain ⟨vals6, ho6, hv6⟩ := hR6
  obtain ⟨A6, c6, rfl, hrl6⟩ := rdL_own ho6 (fun q hq => by
    obtain ⟨Aq, cq, hu, hrq⟩ := hv6 q hq
    exact ⟨Aq, cq, hu, hrq.1⟩)
  rw [HNN.out]
  have HRL6 := Lib.hid hrl6
  have B46 := Lib.hid (bl_trans B45.out hb6)
  have HRLb := Lib.hid (HRL.out.below hb6)
  have HRL5b := Lib.hid (HRL5.out.below hb6)
  clear ho6 hv6 hrl6 hb6 HRL HRL5 B45
  go_wp2_with fail
  refine (eq_any A3 A4 n3 c3 n4 c4 X X w6 HL3.out HL4.out (HR34.out.below B46.out) (HR4.out.below B46.out) HM3.out HM4.out).mono ?_
  rintro e w7 ⟨rfl, hb7⟩
  rw [decide_eq_true rfl]
  have B47 := Lib.hid (bl_trans B46.out hb7)
  have HRLc := Lib.hid (HRLb.out.below hb7)
  have HRL5c := Lib.hid (HRL5b.out.below hb7)
  have HRL6c := Lib.hid (HRL6.out.below hb7)
  clear hb7 B46 HRLb HRL5b HRL6
  go_wp2_with fail
  refine (sameT_any A5 A6 N c5 c6 L w7 HNN.out HRL5c.out HRL6c.out (by have := HLn.out; have := HNN.out; omega)).mono ?_
  rintro e w8 ⟨rfl, hb8⟩
  have B48 := Lib.hid (bl_trans B47.out hb8)
  have HRLd := Lib.hid (HRLc.out.below hb8)
  clear hb8 B47 HRLc HRL5c HRL6c
  go_wp2_with fail
  have hb4s : w.heap.size ≤ w4.heap.size := B4.out.size
  have hNm : (L.map List.length).length = N := by rw [List.length_map]; exact HNN.out
  have HNM := Lib.hid hNm
  have hNb : N ≤ 8000000000000 := by have := HLn.out; have := HNN.out; omega
  clear hNm
  go_loopw [19] (fun i wr => ∃ k : Nat, k ≤ N ∧ i = .int .i64 k ∧ Hid (RowsL wr w4.heap.size (.slice A5 N c5) (L.map List.length)) ∧ Hid (Below w4.heap.size w4 wr)) (fun i _ => N - (intOf i).toNat)
  case atStart => exact ⟨0, Nat.zero_le _, rfl, HRLd, B48⟩
  case round =>
    clear HRLd B48
    obtain ⟨k, hk, rfl, HRW, HBW⟩ := hrel
    by_cases hlt : k < N
    · have hkn : k < (L.map List.length).length := by rw [HNM.out]; exact hlt
      obtain ⟨M, hM⟩ : ∃ M, (L.map List.length)[k] = M := ⟨_, rfl⟩
      have HM := Lib.hid hM
      clear hM
      go_wp2_with fail
      go_loopw [20] (fun i wr => ∃ q : Nat, q ≤ M ∧ i = .int .i64 q ∧ Hid (RowsL wr w4.heap.size (.slice A5 N c5) (L.map List.length)) ∧ Hid (Below w4.heap.size w4 wr)) (fun i _ => M - (intOf i).toNat)
      case atStart => exact ⟨0, Nat.zero_le _, rfl, HRW, HBW⟩
      case round =>
        clear HRW HBW
        obtain ⟨q, hq, rfl, HRW, HBW⟩ := hrel
        obtain ⟨g, B, cb, l, eA, _, hcr, hol, hll⟩ := HRW.out.at hkn
        subst eA
        rw [HM.out] at hcr hol hll
        by_cases hlq : q < M
        · have hql : q < l.length := by omega
          obtain ⟨_, gb, eB, _, _, hMc, hcM⟩ := hol.head (by omega)
          have hM63 : M ≤ 9223372036854775807 := Nat.le_trans hMc hcM
          clear hMc hcM
          subst eB
          have hcc := hol.cellAt hql
          have hcf := hol.frozenAt q
          have hxx := xor8 l[q] 1
          rw [show ((1 : UInt8).toNat : Int) = 1 from rfl] at hxx
          obtain ⟨y, hy⟩ : ∃ y, l[q] ^^^ 1 = y := ⟨_, rfl⟩
          obtain ⟨x, hx⟩ : ∃ x, l[q].toNat = x := ⟨_, rfl⟩
          rw [hy] at hxx
          rw [hx] at hxx hcc
          have hU : IsU8 wr gb := hol.isU8 _ rfl
          have HU := Lib.hid hU
          have hgb : w4.heap.size ≤ gb := by
            rcases hol.2 with ⟨e1, _⟩ | ⟨g2, cap, cur, hv, hbg, _⟩
            · cases e1
            · cases hv; exact hbg
          have HGB := Lib.hid hgb
          clear hy hx hol hU hgb hll
          go_wp2_with fail
          go_region
          go_wp2_with fail
          exact ⟨⟨q + 1, by omega, by go_num, Lib.hid (RowsL.drewN (HRW.out.set gb q y HU.out) 1), Lib.hid (bl_drew4 (HBW.out.setCell (p := ⟨gb, q, none⟩) HGB.out (bv y)))⟩, by simp [intOf]; omega⟩
        · clear hol hll
          have hqM : q = M := by omega
          subst hqM
          go_wp2_with fail
          exact ⟨⟨k + 1, by omega, by go_num, HRW, HBW⟩, by simp [intOf]; omega⟩
    · obtain rfl : k = N := by omega
      have hm9 : m ≤ maxLen := Nat.le_trans hm (by decide)
      have hm8 : m' ≤ maxLen := Nat.le_trans hmb (by decide)
      have HM9 := Lib.hid hm9
      have HM8 := Lib.hid hm8
      clear hm9 hm8
      go_wp2_with fail
      refine (eq_any A1 A n1 c1 m c b b wr HL1.out HLb.out (HR14.out.below HBW.out) (HRb.out.below (bl_trans B4.out HBW.out)) HM1.out HM9.out).mono ?_
      rintro e w9 ⟨rfl, hb9⟩
      rw [decide_eq_true rfl]
      have B9 := Lib.hid (bl_trans HBW.out hb9)
      clear hb9 HBW
      go_wp2_with fail
      refine (eq_any A2 A' n2 c2 m' c' all all w9 HL2.out HLa.out (HR24.out.below B9.out) (HRa.out.below (bl_trans B4.out B9.out)) HM2.out HM8.out).mono ?_
      rintro e w10 ⟨rfl, hb10⟩
      rw [decide_eq_true rfl]
      have B10 := Lib.hid (bl_trans B9.out hb10)
      clear hb10 B9
      go_wp2_with fail
      refine (jawake_any _).mono ?_
      rintro e w11 ⟨rfl, hb11⟩
      have B11 := Lib.hid (bl_trans B10.out hb11)
      go_wp2_with fail
      go_ret
      exact ⟨rfl, bl_trans B4.out B11.out⟩

set_option maxRecDepth 100000 in
theorem JournalRecords_holds : Rows.JournalRecordsSaid :=
  OpenClaim.holds_of_wide 3 Tryz.f3 rfl rfl rfl rfl rfl rfl rfl ⟨rfl, rfl, rfl, rfl, rfl⟩ rfl rfl rfl rfl rfl (by kernel_rfl) Tryz.func3 (by kernel_rfl)
    (of_decide_eq_true (by kernel_rfl)) (by unfold Func.isWrapper; first | (rw [if_pos (by decide +kernel)]; kernel_rfl) | (rw [if_neg (by decide +kernel)]; exact ⟨rfl, rfl⟩))
    (fun os started H enc _ => law_lifted (s := Rows.journalRecordsSpec) Tryz.func3 (by kernel_rfl) rfl
      (fun H ds h => by rw [Tryz.params3] at h; match ds, h with | [_, _, _], _ => rfl) (by kernel_rfl) (by kernel_rfl)
      os started H enc
      (ChangeSpec.witness6 (enc := enc) (C := Tryz.checked) false ⟨#[], #[.int .i64 0, .slice none 0 0, .slice none 0 0], []⟩ 8 (by kernel_rfl) (by kernel_rfl) (by kernel_rfl) (by kernel_rfl))
      (fun W args ds p h => by
        obtain ⟨⟨base, hok⟩, hA, hl⟩ := h
        rw [Tryz.params3] at hok hA hl
        obtain ⟨v0, v1, v2, d0, d1, d2, p0, p1, p2, rfl, rfl, rfl, g0, g1, g2⟩ := trodAll_three hA
        obtain ⟨n0, rfl, a0, b0⟩ := open_i64 (hok 0 3 v0 rfl rfl) g0
        obtain ⟨A1, n1, c1, l1, rfl, e1, a1, b1, r1⟩ := open_bytes (hok 1 22 v1 rfl rfl) g1 (hl 1 22 d1 rfl rfl)
        obtain ⟨A2, n2, c2, l2, rfl, e2, a2, b2, r2⟩ := open_bytes (hok 2 22 v2 rfl rfl) g2 (hl 2 22 d2 rfl rfl)
        exact records_walk W n0 A1 n1 c1 l1 A2 n2 c2 l2 a0 b0 e1 r1 (Nat.le_trans a1 b1) e2 r2 a2 b2))

end Go.Proofs.YtncpkblgiepdpaaGreat

