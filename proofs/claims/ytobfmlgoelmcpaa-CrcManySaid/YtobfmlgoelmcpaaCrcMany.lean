/- CrcMany: for every sum, all bytes and all cuts the law answers true: bytes that come in pieces, however they are cut, have the sum of all. No condition. -/
import Derived.Test.YtobfmlgoelmcpaaCrcC
import Derived.Test.YtobfmlgoelmcpaaRow32
set_option linter.unusedVariables false
namespace Go.Proofs.Ytobfmlgoelmcpaa
open Go.ChangeShapes Go.WideShapes Go.ChangeAt Go.RowKit

/-- A slice that reads as numbers. -/
def RdI (w : World) (A : Option Addr) (l : List Int) : Prop :=
  0 < l.length → ∃ ad, A = some ad ∧ ∀ j (h : j < l.length), w.cell? (ad.add j) = some (.int .i64 l[j])
theorem RdI.cell {w : World} {A : Option Addr} {l : List Int} (h : RdI w A l) {k : Nat} (hk : k < l.length) : ∃ ad, A = some ad ∧ w.cell? (ad.add k) = some (.int .i64 l[k]) := by
  obtain ⟨ad, e, hc⟩ := h (by omega)
  exact ⟨ad, e, hc k hk⟩
theorem RdI.below {w w' : World} {A : Option Addr} {l : List Int} (h : RdI w A l) (hb : Below w.heap.size w w') : RdI w' A l := fun hl => by
  obtain ⟨ad, e, hc⟩ := h hl
  exact ⟨ad, e, fun j hj => (hb.cell (World.block_lt_of_cell? w _ (hc j hj))).trans (hc j hj)⟩

theorem cells_int : Try.prog.cellsOf 3 = 1 := by kernel_rfl
theorem bytes_int : Try.prog.bytesOf 3 = 8 := by kernel_rfl

/-- An argument of type []int, opened. -/
theorem open_int_list {H : Type} {enc : TypeId × Value → H} {W : World} {base : Nat} {v : Value} {d : DataW H} {p : List MemPlace} (hv : Value.okWide Try.prog W .any base 30 v)
    (h0 : DataW.Trod enc Try.prog W 0 (fun _ => true) true 30 v d p) (hw : ∀ n ∈ d.weights Try.prog 30, n ≤ reachBytes) :
    ∃ A n c l, v = .slice A n c ∧ l.length = n ∧ n ≤ c ∧ c ≤ 140737488351232 ∧ RdI W A l ∧ ∀ z ∈ l, -9223372036854775808 ≤ z ∧ z ≤ 9223372036854775807 := by
  obtain ⟨A, n, c, rfl⟩ := okWide_slice Try.underlying30 hv
  obtain ⟨fuel, hf⟩ := h0
  rcases open_ints Try.underlying30 Try.underlying3 cells_int hf with ⟨hcs, hx⟩ | ⟨a, len', cap', zs, hcs, _, hl, hm, hz, hx, hcell, hwz⟩
  · simp [Value.cells] at hcs
    obtain ⟨rfl, rfl, rfl⟩ := hcs
    exact ⟨none, 0, 0, [], rfl, rfl, Nat.le_refl _, by omega, (fun h => absurd h (by simp)), by simp⟩
  · simp [Value.cells] at hcs
    obtain ⟨rfl, rfl, rfl⟩ := hcs
    simp only [Prod.mk.injEq] at hx
    obtain ⟨rfl, rfl⟩ := hx
    simp only [if_true] at hz
    have hc : c ≤ 140737488351232 := by
      have := hw (c * 8) (by simp [DataW.weights, Try.underlying30, bytes_int, lits]; omega)
      simp [reachBytes] at this
      omega
    refine ⟨some a, n, c, zs.take n, rfl, by simp; omega, hl, hc, fun _ => ⟨a, rfl, fun j hj => ?_⟩, fun z hz' => ?_⟩
    · simp only [List.length_take] at hj
      have hjz : j < zs.length := by omega
      have hg : zs.getD j 0 = zs[j] := by simp [List.getD, hjz]
      rw [hcell j hjz, hg, List.getElem_take]
    · have := hwz z (List.mem_of_mem_take hz')
      simpa [Lit.wf, IntKind.min, IntKind.max, IntKind.signed, IntKind.bits] using this

/-- 'b[s:t]', at an address that is not looked into. -/
theorem cut_mid (A : Option Addr) (n c s d : Nat) (l : List UInt8) (w : World) (hl : l.length = n) (hr : Rd w A l) (ht : s + d ≤ n) (hnc : n ≤ c) (zs zt : Int) (es : (s : Int) = zs) (et : ((s + d : Nat) : Int) = zt) :
    ∃ A', (∀ W : World, (Instr.slice 23 (.slice A n c) (some (.int .i64 zs)) (some (.int .i64 zt)) none).run Try.prog W = .ok (.slice A' d (c - s)) W) ∧ Rd w A' ((l.take (s + d)).drop s) ∧ Hid (((l.take (s + d)).drop s).length = d) := by
  subst es et
  refine ⟨_, fun W => ?_, (hr.take (s + d)).drop s c (by rw [List.length_take]; omega), by rw [Hid, List.length_drop, List.length_take]; omega⟩
  obtain ⟨i, hi, _, hs1, _⟩ := info_parts info_u8
  have he : Try.prog.elem 23 = 5 := by kernel_rfl
  rw [run_slice_lh W 23 A n c (by rw [he]; exact Try.underlying23) .i64 .i64 s (s + d : Nat) (by omega) (by omega) (by omega)]
  simp [sizeOf, typeInfo, he, hi, hs1, sliced, Result.andThen]
  omega

/-- 'Bring', the place under a name. -/
theorem bring_to (i : Int) (n : Nat) (z : Int) (hz : (n : Int) = z) (h1 : -9223372036854775808 ≤ i) (h2 : i ≤ 9223372036854775807) (hn : 0 < n) (hn2 : n ≤ 9223372036854775807) :
    ∃ j : Nat, j < n ∧ Hid (∀ w : World, Calls Try.prog 18 #[.int .i64 i, .int .i64 z] w fun e w' => e = .returned (.int .i64 (j : Int)) ∧ w = w') := by
  subst hz
  obtain ⟨j, hj, _, H⟩ := bring_nat i n h1 h2 hn hn2
  exact ⟨j, hj, H⟩

theorem onE_piece {s : BitVec 32} {l : List UInt8} {p t : Nat} (h : p ≤ t) : onE (onE s (l.take p)) ((l.take t).drop p) = onE s (l.take t) := by
  rw [← onE_append]
  have e : l.take p = (l.take t).take p := by rw [List.take_take, Nat.min_eq_left h]
  rw [e, List.take_append_drop]

def ManyRel (s : BitVec 32) (l : List UInt8) (m K : Nat) (sv tv av iv : Value) (w wr : World) : Prop :=
  ∃ (k p : Nat) (x y : BitVec 32), k ≤ K + 1 ∧ p ≤ m ∧ iv = .int .i64 k ∧ av = .int .i64 p ∧ sv = .int .u32 (x.toNat : Int) ∧ tv = .int .u32 (y.toNat : Int) ∧
    Hid (x = onE s (l.take p) ∧ y = onE 0#32 (l.take p)) ∧ Hid (k = K + 1 → p = m) ∧ Below w.heap.size w wr

set_option maxHeartbeats 2000000 in
set_option maxRecDepth 20000 in
theorem many_walk (s : BitVec 32) (A : Option Addr) (m c : Nat) (l : List UInt8) (A' : Option Addr) (n c' : Nat) (cuts : List Int) (w : World) (hl : l.length = m) (hmc : m ≤ c) (hc : c ≤ 140737488351232) (hr : Rd w A l)
    (hl' : cuts.length = n) (hnc' : n ≤ c') (hc' : c' ≤ 140737488351232) (hr' : RdI w A' cuts) (hz : ∀ z ∈ cuts, -9223372036854775808 ≤ z ∧ z ≤ 9223372036854775807) :
    Calls Try.prog 4 #[.int .u32 (s.toNat : Int), .slice A m c, .slice A' n c'] w (Yes w) := by
  obtain ⟨j, _, hj1, hj2, hmin⟩ := min_lit m 3000 3000 rfl
  have hlk : (l.take j).length = j := by rw [List.length_take, hl]; omega
  have hrk := hr.take j
  have hjc : j ≤ c := by omega
  generalize l.take j = b at *
  have HL := Lib.hid hlk
  have HL' := Lib.hid hl'
  have HZ := Lib.hid hz
  clear hl hlk hr hl' hz
  go_enter Try.func4, Try.ntmps4
  go_wp2_with fail
  refine (works_any w).mono ?_
  rintro e w1 ⟨rfl, hB1⟩
  go_wp2_with fail
  have HM := Lib.hid hmin
  clear hmin
  obtain ⟨K, hK⟩ : ∃ K : Nat, (K ≤ n ∧ K ≤ 40) ∧ (K = n ∨ K = 40) := ⟨min n 40, by omega, by omega⟩
  have HK := Lib.hid hK.2
  have hKn := hK.1.1
  have hK4 := hK.1.2
  clear hK
  go_loopw [7, 8, 9, 10] (fun sv tv av iv wr => ManyRel s b j K sv tv av iv w wr) (fun _ _ _ i _ => 41 - (intOf i).toNat)
  case atStart => exact ⟨0, 0, s, 0#32, by omega, by omega, rfl, rfl, rfl, rfl, ⟨by simp [onE_nil], by simp [onE_nil]⟩, (fun h => by omega), hB1⟩
  case round =>
    obtain ⟨k, p, x, y, hk, hp, rfl, rfl, rfl, rfl, HX, HP, hB⟩ := hrel
    by_cases hkK : k ≤ K
    · have hkn : k ≤ n := by omega
      have hk4 : k ≤ 40 := by omega
      by_cases hlt : k < K
      · have hkn' : k < n := by omega
        have hk4' : k < 40 := by omega
        have hkl : k < cuts.length := by have := HL'.out; omega
        obtain ⟨ad, rfl, hcell⟩ := (hr'.below hB).cell hkl
        have hzk := HZ.out _ (List.getElem_mem hkl)
        obtain ⟨r, hr1, HBR⟩ := bring_to cuts[k] (j - p + 1) ((j : Int) - p + 1) (by omega) hzk.1 hzk.2 (by omega) (by omega)
        clear hzk
        go_wp2_with fail
        refine (HBR.out wr).mono ?_
        rintro e wr' ⟨rfl, rfl⟩
        obtain ⟨A2, hcut, hr2, HL2⟩ := cut_mid A j c p r b wr HL.out (hrk.below hB) (by omega) hjc p (p + r) (by omega) (by omega)
        have hcp : c - p ≤ 140737488351232 := by omega
        go_wp2_with fail
        refine (on_any x A2 r (c - p) _ wr HL2.out hr2 (by simp [maxLen]; omega)).mono ?_
        rintro e w2 ⟨rfl, hb2⟩
        go_wp2_with fail
        refine (on_any y A2 r (c - p) _ w2 HL2.out (hr2.below hb2) (by simp [maxLen]; omega)).mono ?_
        rintro e w3 ⟨rfl, hb3⟩
        have hB3 := bl_trans (bl_trans hB hb2) hb3
        clear hcut hr2 hb2 hb3
        go_wp2
        refine ⟨⟨k + 1, p + r, _, _, by omega, by omega, by go_num, by go_num, rfl, rfl, ?_, (fun h => by omega), hB3⟩, by simp [intOf]; omega⟩
        obtain ⟨e1, e2⟩ := HX.out
        exact ⟨by rw [e1, onE_piece (by omega)], by rw [e2, onE_piece (by omega)]⟩
      · obtain rfl : k = K := by omega
        obtain ⟨d, hd⟩ : ∃ d, p + d = j := ⟨j - p, by omega⟩
        obtain ⟨A2, hcut, hr2, HL2⟩ := cut_mid A j c p d b wr HL.out (hrk.below hB) (by omega) hjc p j (by omega) (by omega)
        have hd' : d ≤ j := by omega
        have HD := Lib.hid hd
        clear hd hlt
        have hcp : c - p ≤ 140737488351232 := by omega
        by_cases h1 : k < n
        · have h4 : ¬ k < 40 := by have := HK.out; omega
          go_wp2_with fail
          refine (on_any x A2 d (c - p) _ wr HL2.out hr2 (by simp [maxLen]; omega)).mono ?_
          rintro e w2 ⟨rfl, hb2⟩
          go_wp2_with fail
          refine (on_any y A2 d (c - p) _ w2 HL2.out (hr2.below hb2) (by simp [maxLen]; omega)).mono ?_
          rintro e w3 ⟨rfl, hb3⟩
          have hB3 := bl_trans (bl_trans hB hb2) hb3
          clear hcut hr2 hb2 hb3
          go_wp2
          refine ⟨⟨k + 1, j, _, _, by omega, by omega, by go_num, by go_num, rfl, rfl, ?_, (fun h => rfl), hB3⟩, by simp [intOf]; omega⟩
          obtain ⟨e1, e2⟩ := HX.out
          have e3 := HD.out
          exact ⟨by rw [e1, onE_piece (by omega), e3], by rw [e2, onE_piece (by omega), e3]⟩
        · go_wp2_with fail
          refine (on_any x A2 d (c - p) _ wr HL2.out hr2 (by simp [maxLen]; omega)).mono ?_
          rintro e w2 ⟨rfl, hb2⟩
          go_wp2_with fail
          refine (on_any y A2 d (c - p) _ w2 HL2.out (hr2.below hb2) (by simp [maxLen]; omega)).mono ?_
          rintro e w3 ⟨rfl, hb3⟩
          have hB3 := bl_trans (bl_trans hB hb2) hb3
          clear hcut hr2 hb2 hb3
          go_wp2
          refine ⟨⟨k + 1, j, _, _, by omega, by omega, by go_num, by go_num, rfl, rfl, ?_, (fun h => rfl), hB3⟩, by simp [intOf]; omega⟩
          obtain ⟨e1, e2⟩ := HX.out
          have e3 := HD.out
          exact ⟨by rw [e1, onE_piece (by omega), e3], by rw [e2, onE_piece (by omega), e3]⟩
    · obtain rfl : k = K + 1 := by omega
      obtain rfl : j = p := (HP.out rfl).symm
      have hx : x = onE s b ∧ y = ofE b := by
        obtain ⟨e1, e2⟩ := HX.out
        rw [List.take_of_length_le (by have := HL.out; omega)] at e1 e2
        exact ⟨e1, e2⟩
      have X1 := Lib.hid hx.1
      have X2 := Lib.hid hx.2
      clear hx hkK
      by_cases h1 : K + 1 ≤ n
      · have h4 : ¬ K + 1 ≤ 40 := by have := HK.out; omega
        go_wp2_with fail
        refine (on_any s A j c b wr HL.out (hrk.below hB) (by simp [maxLen]; omega)).mono ?_
        rintro e w2 ⟨rfl, hb2⟩
        have hB2 := bl_trans hB hb2
        have g1 : ((x.toNat : Int) == ((onE s b).toNat : Int)) = true := by rw [X1.out]; simp
        go_wp2_with fail
        refine (of_any A j c b w2 HL.out (hrk.below hB2) (by simp [maxLen]; omega)).mono ?_
        rintro e w3 ⟨rfl, hb3⟩
        have hB3 := bl_trans hB2 hb3
        have g2 : ((y.toNat : Int) == ((ofE b).toNat : Int)) = true := by rw [X2.out]; simp
        go_wp2
        go_ret
        exact ⟨rfl, hB3⟩
      · go_wp2_with fail
        refine (on_any s A j c b wr HL.out (hrk.below hB) (by simp [maxLen]; omega)).mono ?_
        rintro e w2 ⟨rfl, hb2⟩
        have hB2 := bl_trans hB hb2
        have g1 : ((x.toNat : Int) == ((onE s b).toNat : Int)) = true := by rw [X1.out]; simp
        go_wp2_with fail
        refine (of_any A j c b w2 HL.out (hrk.below hB2) (by simp [maxLen]; omega)).mono ?_
        rintro e w3 ⟨rfl, hb3⟩
        have hB3 := bl_trans hB2 hb3
        have g2 : ((y.toNat : Int) == ((ofE b).toNat : Int)) = true := by rw [X2.out]; simp
        go_wp2
        go_ret
        exact ⟨rfl, hB3⟩

set_option maxRecDepth 100000 in
theorem CrcMany_holds : Rows.CrcManySaid :=
  OpenClaim.holds_of_wide 4 Try.f4 rfl rfl rfl rfl rfl rfl rfl ⟨rfl, rfl, rfl, rfl, rfl⟩ rfl rfl rfl rfl rfl (by kernel_rfl) Try.func4 (by kernel_rfl)
    (of_decide_eq_true (by kernel_rfl)) (by unfold Func.isWrapper; first | (rw [if_pos (by decide +kernel)]; kernel_rfl) | (rw [if_neg (by decide +kernel)]; exact ⟨rfl, rfl⟩))
    (fun os started H enc _ => law_lifted (s := Rows.crcManySpec) Try.func4 (by kernel_rfl) rfl
      (fun H ds h => by rw [Try.params4] at h; match ds, h with | [_, _, _], _ => rfl) (by kernel_rfl) (by kernel_rfl)
      os started H enc
      (ChangeSpec.witness6 (enc := enc) (C := Try.checked) false ⟨#[], #[.int .u32 0, .slice none 0 0, .slice none 0 0], []⟩ 8 (by kernel_rfl) (by kernel_rfl) (by kernel_rfl) (by kernel_rfl))
      (fun W args ds p h => by
        obtain ⟨⟨base, hok⟩, hA, hl⟩ := h
        rw [Try.params4] at hok hA hl
        obtain ⟨v0, v1, v2, d0, d1, d2, p0, p1, p2, rfl, rfl, rfl, g0, g1, g2⟩ := trodAll_three hA
        obtain ⟨n0, rfl⟩ := open_u32 (hok 0 22 v0 rfl rfl) g0
        obtain ⟨A1, n1, c1, l1, rfl, e1, a1, b1, r1⟩ := open_bytes (hok 1 23 v1 rfl rfl) g1 (hl 1 23 d1 rfl rfl)
        obtain ⟨A2, n2, c2, l2, rfl, e2, a2, b2, r2, i2⟩ := open_int_list (hok 2 30 v2 rfl rfl) g2 (hl 2 30 d2 rfl rfl)
        exact many_walk n0 A1 n1 c1 l1 A2 n2 c2 l2 W e1 a1 b1 r1 e2 a2 b2 r2 i2))

end Go.Proofs.Ytobfmlgoelmcpaa
