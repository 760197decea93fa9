/- The document's All and Least, over the translated program; Bring. No condition. -/
import Derived.Test.YtcgoacfcdlbhdaaDoorSetV
import Derived.Test.YtcgoacfcdlbhdaaDoorSetK
set_option linter.unusedVariables false
set_option linter.unusedSimpArgs false
namespace Go.Proofs.YtcgoacfcdlbhdaaDoor
open Go.RowKit

set_option maxRecDepth 20000 in
theorem bring_any (i : Int) (n : Nat) (w : World) (h1 : -9223372036854775808 ≤ i) (h2 : i ≤ 9223372036854775807) (hn : 0 < n) (hn2 : n ≤ 9223372036854775807) :
    Calls Tryd.prog 25 #[.int .i64 i, .int .i64 n] w fun e w' => e = .returned (.int .i64 (i % n)) ∧ w = w' := by
  by_cases hi : 0 ≤ i
  · have hm0 : 0 ≤ i % (n : Int) := Int.emod_nonneg _ (by omega)
    go_enter Tryd.func25, Tryd.ntmps25
    go_wp2_with fail
    go_ret
    exact ⟨rfl, rfl⟩
  · have hneg : i.tmod n = -((-i) % (n : Int)) := by
      have e := Int.neg_tmod (a := -i) (b := (n : Int))
      rw [Int.neg_neg] at e
      rw [e, Int.tmod_eq_emod_of_nonneg (a := -i) (by omega)]
    have g1 : 0 ≤ (-i) % (n : Int) := Int.emod_nonneg _ (by omega)
    have g2 : (-i) % (n : Int) < n := Int.emod_lt_of_pos _ (by omega)
    have g3 : i % (n : Int) = if (-i) % (n : Int) = 0 then 0 else n - (-i) % (n : Int) := by
      have d := Int.mul_ediv_add_emod (-i) n
      generalize (-i) % (n : Int) = r at *
      generalize (-i) / (n : Int) = q at *
      by_cases hr : r = 0
      · rw [if_pos hr]
        have e : i = (n : Int) * (-q) := by rw [Int.mul_neg]; omega
        rw [e, Int.mul_emod_right]
      · rw [if_neg hr]
        have e : i = (n - r) + (n : Int) * (-q - 1) := by rw [Int.mul_sub, Int.mul_neg, Int.mul_one]; omega
        rw [e, Int.add_mul_emod_self_left]
        exact Int.emod_eq_of_lt (by omega) (by omega)
    have HN := Lib.hid hneg
    have H3 := Lib.hid g3
    clear hneg g3
    by_cases hz : (-i) % (n : Int) = 0
    · have b1 : decide (i.tmod n < 0) = false := by rw [HN.out]; simp; omega
      have HZ := Lib.hid hz
      clear hz
      go_enter Tryd.func25, Tryd.ntmps25
      go_wp2_with fail
      go_ret
      refine ⟨?_, rfl⟩
      rw [H3.out, if_pos HZ.out]
      show Ending.returned (Value.int IntKind.i64 (i.tmod n)) = _
      rw [HN.out, HZ.out]; rfl
    · have b1 : decide (i.tmod n < 0) = true := by rw [HN.out]; simp; omega
      have b2 : i.tmod n < 0 := by rw [HN.out]; omega
      have b3 : -(n : Int) < i.tmod n := by rw [HN.out]; omega
      go_enter Tryd.func25, Tryd.ntmps25
      go_wp2_with fail
      go_ret
      refine ⟨?_, rfl⟩
      rw [H3.out, if_neg hz]
      show Ending.returned (Value.int IntKind.i64 (i.tmod n + n)) = _
      rw [HN.out]
      congr 2
      omega

/-- 'Bring', the place under a name. -/
theorem bring_nat (i : Int) (n : Nat) (h1 : -9223372036854775808 ≤ i) (h2 : i ≤ 9223372036854775807) (hn : 0 < n) (hn2 : n ≤ 9223372036854775807) :
    ∃ j : Nat, j < n ∧ Hid ((j : Int) = i % n) ∧ Hid (∀ w : World, Calls Tryd.prog 25 #[.int .i64 i, .int .i64 n] w fun e w' => e = .returned (.int .i64 (j : Int)) ∧ w = w') := by
  have g1 : 0 ≤ i % (n : Int) := Int.emod_nonneg _ (by omega)
  have g2 : i % (n : Int) < n := Int.emod_lt_of_pos _ (by omega)
  refine ⟨(i % (n : Int)).toNat, by omega, Int.toNat_of_nonneg g1, fun w => ?_⟩
  rw [Int.toNat_of_nonneg g1]
  exact bring_any i n w h1 h2 hn hn2

theorem byte8 (k : Nat) (h : k < 256) : IntKind.u8.wrap (k : Int) = (k : Int) := by
  simp [IntKind.wrap, IntKind.signed, IntKind.bits]
  omega
theorem rd_byte (w : World) (v : Value) (b : UInt8) (h : v = bv b) : Rd (w.alloc (.cells #[v] 5)) (some ⟨w.heap.size, 0, none⟩) [b] := fun _ => by
  refine ⟨_, rfl, fun j hj => ?_⟩
  obtain rfl : j = 0 := by simp at hj; omega
  subst h
  simp [Addr.add]

/-- What is below k, as bytes. -/
def preL (f : Nat → BitVec 64) (k : Nat) : List UInt8 := ((List.range k).filter (has f)).map UInt8.ofNat
theorem preL_all (f : Nat → BitVec 64) : preL f 256 = bytesL f := rfl
theorem preL_yes (f : Nat → BitVec 64) (k : Nat) (h : has f k = true) : preL f (k + 1) = preL f k ++ [UInt8.ofNat k] := by
  unfold preL
  rw [List.range_succ, List.filter_append, List.map_append]
  simp [List.filter_cons, h]
theorem preL_no (f : Nat → BitVec 64) (k : Nat) (h : has f k = false) : preL f (k + 1) = preL f k := by
  unfold preL
  rw [List.range_succ, List.filter_append, List.map_append]
  simp [List.filter_cons, h]
theorem preL_len (f : Nat → BitVec 64) (k : Nat) : (preL f k).length ≤ k := by
  unfold preL
  rw [List.length_map]
  have := List.length_filter_le (has f) (List.range k)
  simpa using this

theorem h4_own {W W' : World} {row : Option Nat} {i : Nat} {f : Nat → BitVec 64} (h : H4 W i f) (hg : W.grownBy W' row) (hne : ∀ i, IsSet W i → row ≠ some i) : H4 W' i f :=
  (hg.block i h.lt (fun e => hne i (isSet_h4 h) e.symm)).trans h

set_option maxHeartbeats 2000000 in
set_option maxRecDepth 20000 in
theorem refAll_any (f : Nat → BitVec 64) (w : World) :
    Calls Tryd.prog 19 #[.agg (row4 f)] w fun e w' => ∃ v, e = .returned v ∧ Own w' w.heap.size v (bytesL f) ∧ Below w.heap.size w w' := by
  go_enter Tryd.func19, Tryd.ntmps19
  go_wp2_with fail
  have HA := Lib.hid (H4.new w f)
  have HB0 := Lib.hid (bl_alloc (Below.refl w.heap.size w) (.cells (row4 f) 24))
  go_loopw [3, 4] (fun v i wr => ∃ k : Nat, k ≤ 256 ∧ i = .int .i64 k ∧ Hid (H4 wr w.heap.size f) ∧ Hid (Own wr w.heap.size v (preL f k)) ∧ Hid (Below w.heap.size w wr)) (fun _ i _ => 256 - (intOf i).toNat)
  case atStart => exact ⟨0, by omega, rfl, HA, Own.nil _ _, HB0⟩
  case round =>
    clear HA HB0
    obtain ⟨k, hk, rfl, H4k, HO, HB⟩ := hrel
    by_cases hlt : k < 256
    · have hw := byte8 k hlt
      go_wp2_with (refine wpList_load_row rfl 24 _ rfl w.heap.size rfl 24 _ (0, 0) _ H4k.out Tryd.underlying24 rfl (by rw [size4, row4_size]) ?_)
      try rw [hw]
      refine (refHas_any f k hlt _).mono ?_
      rintro e w1 ⟨rfl, hb1⟩
      have H41 := Lib.hid (H4k.out.below hb1)
      have HO1 := Lib.hid (HO.out.below hb1)
      have HB1 := Lib.hid (bl_trans HB.out hb1)
      clear hb1 H4k HO HB
      cases hh : has f k
      · have hp := Lib.hid (preL_no f k hh)
        clear hh
        go_wp2
        exact ⟨⟨k + 1, by omega, by go_num, H41, Lib.hid (by rw [hp.out]; exact HO1.out), HB1⟩, by simp [intOf]; omega⟩
      · have hp := Lib.hid (preL_yes f k hh)
        have hl := preL_len f k
        clear hh
        go_wp2_with (at_builtin; refine wpList_append_bytes _ rfl _ _ rfl w.heap.size _ (preL f k) rfl (HO1.out.alloc _) _ 1 1 [UInt8.ofNat k] rfl rfl (rd_byte _ _ _ (by unfold bv; congr 1; simp; omega)) (by simp; omega) (by have := HB1.out.size; simp; omega) ?_)
        intro v' w' ho' hg' _
        have HO2 : Hid (Own w' w.heap.size v' (preL f (k + 1))) := Lib.hid (by rw [hp.out]; exact ho')
        have HB2 := Lib.hid (bl_grown (bl_alloc HB1.out _) hg' (fun q hq => (HO1.out.lt q hq).1))
        have H42 : Hid (H4 w' w.heap.size f) := Lib.hid (h4_own (H41.out.alloc _) hg' (fun i hi => (HO1.out.alloc _).notSet hi))
        clear ho' hg' HO1 HB1 H41
        go_wp2_with fail
        exact ⟨⟨k + 1, by omega, by go_num, H42, HO2, HB2⟩, by simp [intOf]; omega⟩
    · obtain rfl : k = 256 := by omega
      go_wp2
      go_ret
      exact ⟨_, rfl, HO.out, HB.out⟩

theorem own_first {w : World} {base : Nat} {A : Option Addr} {n c : Nat} {l : List UInt8} (h : Own w base (.slice A n c) l) (hn : 0 < l.length) : ∃ g, A = some ⟨g, 0, none⟩ ∧ ∀ k (hk : k < l.length), w.cell? ⟨g, k, none⟩ = some (.int .u8 (l[k].toNat : Int)) := by
  rcases h.2 with ⟨h1, h2⟩ | ⟨g, cap, cur, hv, hb, hg, hnc, hcm, _⟩
  · omega
  · cases hv
    refine ⟨g, rfl, fun k hk => ?_⟩
    have h1 := World.ownsRow.cellAt h k (by omega)
    rw [h1]
    simp [hk, bv]

set_option maxHeartbeats 2000000 in
set_option maxRecDepth 20000 in
theorem refLeast_any (f : Nat → BitVec 64) (w : World) :
    Calls Tryd.prog 21 #[.agg (row4 f)] w (GotL w (elems f)) := by
  go_enter Tryd.func21, Tryd.ntmps21
  have HA := Lib.hid (H4.new w f)
  have HB0 := Lib.hid (bl_alloc (Below.refl w.heap.size w) (.cells (row4 f) 24))
  go_wp2_with (refine wpList_load_row rfl 24 _ rfl w.heap.size rfl 24 _ (0, 0) _ HA.out Tryd.underlying24 rfl (by rw [size4, row4_size]) ?_)
  refine (refAll_any f _).mono ?_
  rintro e w1 ⟨v, rfl, ho, hb1⟩
  obtain ⟨A, n, c, rfl, HL, hnc, hcm, hr⟩ := ho.form
  have HB1 := Lib.hid (bl_trans HB0.out hb1)
  cases he : elems f with
  | nil =>
    obtain rfl : n = 0 := by rw [← HL.out, bytesL_len, he]; rfl
    have HE := Lib.hid he
    clear hr hb1 HB0 HA ho he
    go_wp2
    exact bodyPost_ret (v := .tuple #[.int .u8 0, .bool false]) (by simp [results, Tryd.results21, go_sem]) rfl ⟨by rw [HE.out]; rfl, HB1.out⟩
  | cons c0 r =>
    have hn0 : 0 < (bytesL f).length := by rw [bytesL_len, he]; simp
    obtain ⟨g, rfl, hcl⟩ := own_first ho hn0
    have hc0 := hcl 0 hn0
    have e0 : ((bytesL f)[0]).toNat = c0 := by
      have h1 : c0 < 256 := elems_lt f c0 (by rw [he]; simp)
      simp only [bytesL, List.getElem_map, he, List.getElem_cons_zero]
      show (UInt8.ofNat c0).toNat = c0
      simpa using h1
    rw [e0] at hc0
    have hn1 : n ≠ 0 := by rw [← HL.out]; omega
    have hn2 : 0 < n := by omega
    have HE := Lib.hid he
    clear hr hb1 HB0 HA ho he hcl e0 hn0
    go_wp2
    exact bodyPost_ret (v := .tuple #[.int .u8 (c0 : Int), .bool true]) (by simp [results, Tryd.results21, go_sem]) rfl ⟨by rw [HE.out]; rfl, HB1.out⟩

end Go.Proofs.YtcgoacfcdlbhdaaDoor
