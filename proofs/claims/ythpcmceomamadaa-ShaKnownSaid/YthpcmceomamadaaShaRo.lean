/- The document's Root. No condition. -/
import Derived.Test.YthpcmceomamadaaShaTi
import Derived.Test.YthpcmceomamadaaShaAb
import Derived.Laws.AppendOwn
import Derived.Deep.DeepCutAuto
set_option linter.unusedVariables false
set_option linter.unusedSimpArgs false
namespace Go.Proofs.Ythpcmceomamadaa
open Go.RowKit

/-- A root, or that there is none, by a call that makes memory. -/
def GotRootB (w : World) (x : BitVec 32) (f : Int) (e : Ending) (w' : World) : Prop := e = .returned (.tuple #[.int .u32 (x.toNat : Int), .int .i64 f]) ∧ Below w.heap.size w w'

/-- What is to be reached: noughts, and the number behind them. -/
def mostF (P n j : Nat) : Nat := if j < P then 0 else n
theorem mostF_digs (P n N : Nat) (hn : n ≤ 1000) : Digs (mostF P n) N := fun j _ => by
  unfold mostF
  split <;> omega
theorem own_ints {w : World} {base N : Nat} {v : Value} {f : Nat → Nat} (h : w.ownsRow base 3 1 v N (((List.range N).map f).map nv)) (hN : 0 < N) :
    ∃ g c, v = .slice (some ⟨g, 0, none⟩) N c ∧ base ≤ g ∧ N ≤ c ∧ RdN w g N f := by
  rcases h.2 with ⟨_, h0⟩ | ⟨g, cap, cur, hv, hb, hg, hc, _⟩
  · omega
  · refine ⟨g, cap, hv, hb, hc, (Array.getElem?_eq_some_iff.1 hg).1, fun j hj => ?_⟩
    have := World.ownsRow.cells h (g := g) (by rw [hv]; rfl) j (nv (f j)) (by simp [hj])
    rw [add_zero_at] at this
    exact this
theorem made_own (w : World) (P : Nat) (hP : P ≤ 100) : (w.alloc (.cells (rowN P (fun _ => 0)) 3)).ownsRow w.heap.size 3 1 (.slice (some ⟨w.heap.size, 0, none⟩) P P) P (((List.range P).map (fun _ => 0)).map nv) := by
  refine ⟨by simp, .inr ⟨w.heap.size, P, _, rfl, Nat.le_refl _, heap_alloc_new w _, Nat.le_refl _, by simp only [maxLen]; omega, by rw [rowN_size, Nat.mul_one], ?_⟩⟩
  unfold rowN
  rw [List.take_of_length_le (by simp)]
theorem most_list (P n : Nat) : ((List.range P).map (fun _ => 0)).map nv ++ [nv n] = ((List.range (P + 1)).map (mostF P n)).map nv := by
  rw [List.range_succ, List.map_append, List.map_append]
  congr 1
  · congr 1
    apply List.map_congr_left
    intro j hj
    unfold mostF
    rw [if_pos (List.mem_range.1 hj)]
  · simp [mostF]

set_option maxHeartbeats 1000000 in
set_option maxRecDepth 100000 in
theorem refRoot_yes (p n : Nat) (hp : p = 2 ∨ p = 3) (h1 : 1 ≤ n) (hn : n ≤ 1000) (w : World) :
    Calls Try.prog 9 #[.int .i64 (p : Int), .int .i64 (n : Int)] w (GotRootB w (rootW p n) 0) := by
  obtain ⟨i0, hi0, hz0, hz1, hz2⟩ := info_parts info_int
  obtain ⟨P, hP⟩ : ∃ P, 2 * p = P := ⟨_, rfl⟩
  have hP6 : P ≤ 6 := by omega
  have hP4 : 4 ≤ P := by omega
  have eP : 2 * (p : Int) = (P : Int) := by omega
  have p2 : 2 ≤ p := by omega
  have p3 : p ≤ 3 := by omega
  have hmk := make_ints P (P : Int) rfl (by omega)
  have HP := Lib.hid hp
  have HPP := Lib.hid hP
  have HO := Lib.hid (made_own w P (by omega))
  clear hp hP
  go_enter Try.func9, Try.ntmps9
  go_upto_region 4 with fail
  clear hmk
  have HK := Lib.hid (bl_alloc (Below.refl w.heap.size w) (.cells (rowN P (fun _ => 0)) 3))
  generalize w.alloc (.cells (rowN P (fun _ => 0)) 3) = w0 at *
  have hsz : w.heap.size ≤ w0.heap.size := HK.out.size
  have HO2 := Lib.hid (World.ownsRow.alloc HO.out (.cells #[.int .i64 (n : Int)] 3))
  have HK2 := Lib.hid (bl_alloc HK.out (.cells #[.int .i64 (n : Int)] 3))
  have hlit : ∀ (j : Nat) (u : Value), [nv n][j]? = some u → (w0.alloc (.cells #[.int .i64 (n : Int)] 3)).cell? ((⟨w0.heap.size, 0, none⟩ : Addr).add j) = some u := by
    intro j u hu
    match j, hu with
    | 0, hu =>
      cases hu
      rw [add_zero_at, cell_of_row _ _ _ _ _ _ (heap_alloc_new w0 _)]
      rfl
    | j + 1, hu => simp at hu
  have HLit := Lib.hid hlit
  clear hlit
  go_wp2_with (refine wpList_append_own _ rfl _ _ 42 rfl w.heap.size 3 i0 (.int .i64 0) 1 8 Try.underlying42 hi0 hz0 hz1 hz2 rfl (by omega) _ P _ rfl HO2.out ⟨w0.heap.size, 0, none⟩ 1 1 [nv n] rfl rfl HLit.out (by intro u hu; cases hu with | head => rfl | tail _ h => cases h) (by simp only [maxLen]; omega) (by omega) (by simp; omega) ?_)
  intro v1 w1 ho1 hg1 _
  rw [← List.map_map, most_list] at ho1
  obtain ⟨gm, cm, rfl, hgm, hcm, hrm⟩ := own_ints ho1 (by omega)
  have HM := Lib.hid hrm
  have hB1 : Below w.heap.size w w1 := bl_grown HK2.out hg1 (fun k hk => by cases hk; exact Nat.le_refl _)
  have HB1 := Lib.hid hB1
  clear ho1 hg1 hrm hB1 HO2 HK2 HLit HO HK hsz
  go_wp2_with fail
  go_loopw [7, 8] (fun xv bv wr => ∃ k x : Nat, k ≤ 41 ∧ bv = .int .i64 ((k : Int) - 1) ∧ xv = .int .i64 (x : Int) ∧ Hid (rootGo p n k x = rootN p n) ∧ Hid (x + 2 ^ k ≤ 2 ^ 41) ∧ RdN wr gm (P + 1) (mostF P n) ∧ Below w.heap.size w wr) (fun _ bv _ => (intOf bv + 1).toNat)
  case atStart => exact ⟨41, 0, by omega, rfl, rfl, root41 HP.out hn, show 0 + 2 ^ 41 ≤ 2 ^ 41 by omega, HM.out, HB1.out⟩
  case round =>
    clear HM HB1
    obtain ⟨k, x, hk, rfl, rfl, HX, HL, hrm, hB⟩ := hrel
    rcases k with _ | k
    · have e0 : ((0 : Nat) : Int) - 1 = -1 := by omega
      rw [e0]
      clear e0
      have hand := and32n x
      have HB := Lib.hid hB
      clear hB hrm
      go_wp2
      go_ret2
      refine ⟨?_, HB.out⟩
      have h := HX.out
      rw [← rootE_end, ← h]
      rfl
    · have hx : x < 2199023255552 := by have := HL.out; have := Nat.two_pow_pos (k + 1); omega
      have ek : ((k + 1 : Nat) : Int) - 1 = (k : Int) := by omega
      rw [ek]
      clear ek
      obtain ⟨b, hb⟩ : ∃ b : Nat, 2 ^ k = b := ⟨_, rfl⟩
      obtain ⟨y, hy⟩ : ∃ y, x + b = y := ⟨_, rfl⟩
      have hlow : x + 2 ^ k ≤ 2 ^ 41 := by have h := HL.out; rw [Nat.pow_succ] at h; omega
      have hhigh : y + 2 ^ k ≤ 2 ^ 41 := by have h := HL.out; rw [Nat.pow_succ] at h; omega
      have hyx : x + 2 ^ k = y := by rw [hb, hy]
      have hy2 : y < 281474976710656 := by omega
      have hby : b ≤ y := by omega
      have hw : wrap64 ((x : Int) + wrap64 (2 ^ k)) = (y : Int) := by
        have e : ((2 : Int) ^ k) = ((2 ^ k : Nat) : Int) := by simp
        have e1 : wrap64 (b : Int) = (b : Int) := IntWalk.wrap64_in _ ⟨by omega, by omega⟩
        rw [e, hb, e1]
        have e : (x : Int) + (b : Int) = (y : Int) := by omega
        rw [e]
        exact IntWalk.wrap64_in _ ⟨by omega, by omega⟩
      have HW := Lib.hid hw
      clear hw
      have DY := Lib.hid (fun W => digits_any y hy2 W)
      have LL := Lib.hid hlow
      have LH := Lib.hid hhigh
      have YX := Lib.hid hyx
      have HRM := Lib.hid hrm
      have HB := Lib.hid hB
      clear hb hy hlow hhigh hyx hrm hB hy2 hby
      go_wp2_with fail
      rw [HW.out]
      (with_reducible refine (DY.out _).mono ?_)
      rintro e wd ⟨g0, c0, f0, rfl, _, hr0, hd0, hv0, hb0⟩
      clear HW
      have I0 := Lib.hid hr0
      have ID := Lib.hid hd0
      have IV := Lib.hid hv0
      have IM := Lib.hid (HRM.out.below hb0)
      have IB := Lib.hid (bl_trans HB.out hb0)
      clear hr0 hd0 hv0 hb0 HRM HB
      go_wp2_with fail
      go_loopw [10, 11] (fun pv iv wr => ∃ (i N g c : Nat) (f : Nat → Nat), 1 ≤ i ∧ i ≤ p ∧ iv = .int .i64 (i : Int) ∧ pv = .slice (some ⟨g, 0, none⟩) N c ∧ Hid (N = 3 * i) ∧ Hid (RdN wr g N f) ∧ Hid (Digs f N) ∧ Hid (val f N = y ^ i) ∧ Hid (RdN wr gm (P + 1) (mostF P n)) ∧ Hid (Below w.heap.size w wr)) (fun _ iv _ => p - (intOf iv).toNat)
      case atStart => exact ⟨1, 3, g0, c0, f0, by omega, by omega, rfl, rfl, rfl, I0, ID, (by show val f0 3 = y ^ 1; rw [IV.out, Nat.pow_one]), IM, IB⟩
      case round =>
        clear I0 ID IV IM IB
        obtain ⟨i, N, g, c, f, hi1, hip, rfl, rfl, HN, HR, HD, HV, HM, HB⟩ := hrel
        by_cases hlt : i < p
        · go_wp2_with fail
          (with_reducible refine (DY.out _).mono ?_)
          rintro e w2 ⟨g1, c1, f1, rfl, _, hr1, hd1, hv1, hb1⟩
          have R1 := Lib.hid hr1
          have D1 := Lib.hid hd1
          have V1 := Lib.hid hv1
          have B1 := Lib.hid hb1
          clear hr1 hd1 hv1 hb1
          go_wp2_with fail
          refine (times_any g c g1 c1 N 3 f f1 _ (by have := HN.out; omega) (by omega) (HR.out.below B1.out) R1.out HD.out D1.out).mono ?_
          rintro e w3 ⟨g2, c2, f2, rfl, _, hr2, hd2, hv2, hb2⟩
          have R2 := Lib.hid hr2
          have D2 := Lib.hid hd2
          have V2 := Lib.hid hv2
          have B2 := Lib.hid hb2
          clear hr2 hd2 hv2 hb2
          go_wp2_with fail
          refine ⟨⟨i + 1, N + 3, g2, c2, f2, by omega, by omega, by go_num, rfl, (by show N + 3 = 3 * (i + 1); rw [HN.out]; omega), R2, D2, (by show val f2 (N + 3) = y ^ (i + 1); rw [V2.out, HV.out, V1.out, Nat.pow_succ]), Lib.hid ((HM.out.below B1.out).below B2.out), Lib.hid (bl_trans (bl_trans HB.out B1.out) B2.out)⟩, by simp [intOf]; omega⟩
        · obtain rfl : i = p := by omega
          have hNs : N ≤ P + 1 + 2 := by have := HN.out; have := HPP.out; omega
          have hNl : P + 1 ≤ N := by have := HN.out; have := HPP.out; omega
          have hN9 : N ≤ 9 := by have := HN.out; omega
          have hM : val (mostF P n) (P + 1) = n * 2 ^ (32 * i) := by
            have h := most_val n i (mostF P n) (fun j hj => by unfold mostF; rw [if_pos (by have := HPP.out; omega)]) (by unfold mostF; rw [if_neg (by have := HPP.out; omega)])
            rw [HPP.out] at h
            exact h
          have hiso := above_isW (p := i) (n := n) HV.out hM
          have HI := Lib.hid hiso
          clear hM hiso
          cases hr : decide (val (mostF P n) (P + 1) < val f N) with
          | false =>
            have A1 := above_any g c gm cm N (P + 1) f (mostF P n) wr hNs hNl hN9 HR.out HM.out HD.out (mostF_digs P n _ hn) false hr
            have A2 := Lib.hid A1
            have hyes : isW (x + 2 ^ k) i n = true := by rw [YX.out, HI.out, hr]; rfl
            have HY2 := Lib.hid hyes
            clear hr A1 hyes hNs hNl hN9
            go_wp2_with fail
            refine A2.out.mono ?_
            rintro e w2 ⟨rfl, rfl⟩
            go_wp2
            refine ⟨⟨k, y, by omega, by go_num, rfl, ?_, LH, HM.out, HB.out⟩, by simp [intOf]⟩
            rw [← YX.out, ← rootGo_yes HY2.out]
            exact HX
          | true =>
            have A1 := above_any g c gm cm N (P + 1) f (mostF P n) wr hNs hNl hN9 HR.out HM.out HD.out (mostF_digs P n _ hn) true hr
            have A2 := Lib.hid A1
            have hno : isW (x + 2 ^ k) i n = false := by rw [YX.out, HI.out, hr]; rfl
            have HY2 := Lib.hid hno
            clear hr A1 hno hNs hNl hN9
            go_wp2_with fail
            refine A2.out.mono ?_
            rintro e w2 ⟨rfl, rfl⟩
            go_wp2
            refine ⟨⟨k, x, by omega, by go_num, rfl, ?_, LL, HM.out, HB.out⟩, by simp [intOf]⟩
            rw [← rootGo_no HY2.out]
            exact HX

end Go.Proofs.Ythpcmceomamadaa
