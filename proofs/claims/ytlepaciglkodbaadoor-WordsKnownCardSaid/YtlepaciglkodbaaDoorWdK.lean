/- Words of the grammar language: each word, alone, is cut as that word. No condition. -/
import Derived.Test.YtlepaciglkodbaaDoorWdJ
set_option linter.unusedVariables false
set_option linter.unusedSimpArgs false
namespace Go.Proofs.YtlepaciglkodbaaDoor
open Go.RowKit

theorem bring_nat (i : Int) (n : Nat) (h1 : -9223372036854775808 ≤ i) (h2 : i ≤ 9223372036854775807) (hn : 0 < n) (hn2 : n ≤ 9223372036854775807) :
    ∃ j : Nat, j < n ∧ Hid ((j : Int) = i % n) ∧ Hid (∀ w : World, Calls Tryd.prog 25 #[.int .i64 i, .int .i64 n] w fun e w' => e = .returned (.int .i64 (j : Int)) ∧ w = w') := by
  have g1 : 0 ≤ i % (n : Int) := Int.emod_nonneg _ (by omega)
  have g2 : i % (n : Int) < n := Int.emod_lt_of_pos _ (by omega)
  refine ⟨(i % (n : Int)).toNat, by omega, Int.toNat_of_nonneg g1, fun w => ?_⟩
  rw [Int.toNat_of_nonneg g1]
  exact bring_any i n w h1 h2 hn hn2

/-- 'Bring', the place under a name. -/
theorem bring_to (i : Int) (n : Nat) (z : Int) (hz : (n : Int) = z) (h1 : -9223372036854775808 ≤ i) (h2 : i ≤ 9223372036854775807) (hn : 0 < n) (hn2 : n ≤ 9223372036854775807) :
    ∃ j : Nat, j < n ∧ Hid (∀ w : World, Calls Tryd.prog 25 #[.int .i64 i, .int .i64 z] w fun e w' => e = .returned (.int .i64 (j : Int)) ∧ w = w') := by
  subst hz
  obtain ⟨j, hj, _, H⟩ := bring_nat i n h1 h2 hn hn2
  exact ⟨j, hj, H⟩


/-- A word amid those that Cut tells: its bytes. -/
theorem word_at {b : List UInt8} {l : List Tk} (h : cutE b = .ok l) (i : Nat) (hi : i < l.length) : l[i].from' < l[i].to ∧ l[i].to ≤ b.length ∧ WordOK ((b.take l[i].to).drop l[i].from') l[i].kind := by
  obtain ⟨v, g, y, toks, r', hb, hc, hbe, hg, hres⟩ := cut_form b.length b 0 (Nat.le_refl _)
  have ht : toks = l := by
    rcases hres with ⟨_, h2⟩ | ⟨_, _, h2⟩
    · rw [show cutS b 0 0 false = cutE b from rfl, h] at h2
      injection h2 with h3
      exact h3.symm
    · rw [show cutS b 0 0 false = cutE b from rfl, h] at h2
      cases h2
  subst ht
  obtain ⟨v1, u, v2, hv, hf, ht, hu, _⟩ := hc.split i toks[i] (List.getElem?_eq_getElem hi)
  rw [Nat.zero_add] at hf ht
  have hu1 := hu.1
  have hbl : b.length = v1.length + u.length + v2.length + (g ++ y).length := by rw [hb, hv]; simp; omega
  refine ⟨by omega, by omega, ?_⟩
  have e : (b.take toks[i].to).drop toks[i].from' = u := by
    rw [hf, ht, hb, hv]
    have e1 : v1 ++ (u ++ v2) ++ (g ++ y) = (v1 ++ u) ++ (v2 ++ (g ++ y)) := by simp
    rw [e1, ← List.length_append, List.take_left, List.drop_left]
  rw [e]
  exact hu
theorem alone_cut {u : List UInt8} {k : Nat} (h : WordOK u k) (hl : u.length ≤ 8192) : ansE u = ([⟨k, 0, u.length⟩], 0, 0) := by
  have h1 := h.first (Sep.nil k) 0
  rw [List.append_nil] at h1
  unfold ansE cutE
  rw [if_neg (by omega), h1]
  simp [cutS, CutR.app]
theorem word_is {u : List UInt8} {k : Nat} (h : WordOK u k) : (k = 4 ∧ u.length = 1) ∨ (k = 2 ∧ ∃ v, u = 34 :: (v ++ [34]) ∧ isPathE v = true) ∨ (k = 3 ∧ ∃ v, u = 47 :: (v ++ [47]) ∧ patN v = v.length) ∨ (k = 1 ∧ kindE u = 1) ∨ (5 ≤ k ∧ k ≤ 13 ∧ u = spellE k ∧ kindE u = k) := by
  obtain ⟨h1, h2⟩ := h
  have := (h2 [] (Sep.nil k)).2
  rw [List.append_nil] at this
  rcases first_kind this with ⟨h, h3⟩ | ⟨h, v, hv, h3, h4, h5⟩ | ⟨h, v, hv, h3⟩ | ⟨h | ⟨h, h4, h5⟩, h3⟩
  · exact Or.inl ⟨h, h3⟩
  · rw [List.take_length] at hv
    refine Or.inr (Or.inl ⟨h, v, hv, ?_⟩)
    unfold isPathE
    simp [h3, h4, h5]
  · rw [List.take_length] at hv
    exact Or.inr (Or.inr (Or.inl ⟨h, v, hv, h3⟩))
  · rw [List.take_length] at h3
    subst h
    exact Or.inr (Or.inr (Or.inr (Or.inl ⟨rfl, h3⟩)))
  · rw [List.take_length] at h3 h5
    exact Or.inr (Or.inr (Or.inr (Or.inr ⟨h, h4, h5, h3⟩)))
theorem inner_at (q : UInt8) (v : List UInt8) (W : World) (z : Int) (hz : z = ((v.length + 1 : Nat) : Int)) : (Instr.slice 9 (.string ⟨(q :: (v ++ [q])).toArray⟩) (some (.int .i64 1)) (some (.int .i64 z)) none).run Tryd.prog W = .ok (.string ⟨v.toArray⟩) W := by
  subst hz
  rw [run_slice_string W 9 _ .i64 .i64 1 _ Tryd.underlying9 (by omega) (by omega) (by rw [size_str]; simp; omega)]
  congr 2
  apply ByteArray.ext
  simp
theorem agg3 (w : World) (x y z : Value) (j : Nat) (hj : j < 3) : (w.alloc (.cells #[x, y, z] 36)).cell? ⟨w.heap.size, j, none⟩ = #[x, y, z][j]? := cell_of_row _ _ j _ _ _ (heap_alloc_new w _)


attribute [-go_sem] run_equalIn_agg
set_option maxRecDepth 20000 in
set_option maxHeartbeats 2000000 in
theorem alone_walk (A : Option Addr) (n c : Nat) (b : List UInt8) (z : Int) (w : World) (hT : Tab w) (hl : b.length = n) (hnc : n ≤ c) (hcm : c ≤ 140737488351232) (hr : Rd w A b) (hz1 : -9223372036854775808 ≤ z) (hz2 : z ≤ 9223372036854775807) : Calls Tryd.prog 6 #[.slice A n c, .int .i64 z] w (Yes w) := by
  generalize hQ : Yes w = Q
  have HQ := Lib.hid hQ
  have hcut := cut_any A n c b w hl hr (by unfold maxLen; omega) hT
  have HR := Lib.hid hr
  have HL := Lib.hid hl
  clear hQ hr
  by_cases hgo : ∃ l, cutE b = .ok l ∧ b.length ≤ 8192 ∧ l ≠ []
  · obtain ⟨l, hok, hb8, hne⟩ := hgo
    have ha : ansE b = (l, 0, 0) := by unfold ansE; rw [if_neg (by omega), hok]
    have hl0 : 0 < l.length := List.length_pos_iff.2 hne
    rw [ha] at hcut
    have HOK := Lib.hid hok
    have hn8 : n ≤ 8192 := by omega
    clear ha hok hne
    go_enter Tryd.func6, Tryd.ntmps6
    go_wp2_with fail
    refine hcut.mono ?_
    rintro e w1 ⟨v, rfl, ho, hb1⟩
    obtain ⟨At, k, ct, rfl, HK, h1, h2, hrt⟩ := ho.shape
    have hlk : l.length = k := HK.out
    have hk0 : ((k : Int) == 0) = false := by simp; omega
    obtain ⟨j, hj, HJ⟩ := bring_to z k (k : Int) rfl hz1 hz2 (by omega) (by unfold maxLen at h2; omega)
    have hjl : j < l.length := by omega
    obtain ⟨ad, hA, q0, q1, q2⟩ := hrt j hjl
    subst hA
    obtain ⟨o1, o2, o3⟩ := word_at HOK.out j hjl
    have hT1 := hT.below hb1
    have HB1 := Lib.hid hb1
    have hrb := HR.out.below (bl_alloc hb1 (.cells #[nv l[j].kind, nv l[j].from', nv l[j].to] 36))
    obtain ⟨A', hcm, hrd', hlen'⟩ := cut_mid A n c l[j].from' (l[j].to - l[j].from') b _ HL.out hrb (by omega) hnc (l[j].from' : Int) (l[j].to : Int) rfl (by omega)
    rw [show l[j].from' + (l[j].to - l[j].from') = l[j].to by omega] at hrd' hlen'
    have hst := string_of _ A' (l[j].to - l[j].from') (c - l[j].from') _ hlen'.out hrd'
    have hul := hlen'.out
    clear hrd' hrb ho hrt hcut
    unfold nv at *
    generalize (b.take l[j].to).drop l[j].from' = u at *
    generalize l[j].kind = x at *
    generalize hy : l[j].from' = y at *
    generalize hzz : l[j].to = zt at *
    have hm : zt - y = u.length := by omega
    rw [hm] at hcm hst
    have HU := Lib.hid o3
    obtain ⟨W2, hW2⟩ : ∃ W2, W2 = w1.alloc (.cells #[.int .i64 (x : Int), .int .i64 (y : Int), .int .i64 (zt : Int)] 36) := ⟨_, rfl⟩
    have hbw2 : Below w1.heap.size w1 W2 := by rw [hW2]; exact bl_alloc (Below.refl _ _) _
    have t0 : W2.cell? ⟨w1.heap.size, 0, none⟩ = some (.int .i64 (x : Int)) := by rw [hW2]; exact agg3 w1 _ _ _ 0 (by omega)
    have t1 : W2.cell? ⟨w1.heap.size, 1, none⟩ = some (.int .i64 (y : Int)) := by rw [hW2]; exact agg3 w1 _ _ _ 1 (by omega)
    have t2 : W2.cell? ⟨w1.heap.size, 2, none⟩ = some (.int .i64 (zt : Int)) := by rw [hW2]; exact agg3 w1 _ _ _ 2 (by omega)
    rw [← hW2] at hst
    obtain ⟨cap, w3, hc1, hc2, hb3, hr3, hcv⟩ := bytes_of W2 u (by unfold maxLen; omega)
    have hT3 := (hT1.below hbw2).below hb3
    have hcut2 := cut_any _ _ cap u w3 rfl hr3 (by unfold maxLen; omega) hT3
    rw [alone_cut HU.out (by omega)] at hcut2
    have HM := Lib.hid hm
    have hu0 : 1 ≤ u.length := o3.1
    have hu8 : u.length ≤ 8192 := by omega
    have by1 : decide ((y : Int) < 0) = false := by simp
    have by2 : decide (n < zt) = false := by simp; omega
    have by3 : decide (zt ≤ y) = false := by simp; omega
    have HBW2 := Lib.hid hbw2
    have HB3 := Lib.hid hb3
    subst hW2
    rw [World.size_alloc] at hcut2
    have HC2 := Lib.hid hcut2
    clear hm hcut2 o1 o2 o3 hy hzz hul hr3 hjl hlk hl0 hl hn8 hb8 HK hlen' hb3 hbw2 hb1
    go_wp2_with fail
    refine (HJ.out _).mono ?_
    rintro e w' ⟨rfl, hw'⟩
    subst hw'
    go_wp2_with fail
    refine HC2.out.mono ?_
    rintro e w4 ⟨v2, rfl, ho2, hb4⟩
    obtain ⟨A2, k2, c2, rfl, HK2, g1, g2, hrt2⟩ := ho2.shape
    obtain rfl : k2 = 1 := HK2.out.symm
    obtain ⟨ad2, hA2, q0, q1, q2⟩ := hrt2 0 (by simp)
    subst hA2
    have e0 : ad2.add (0 * 3) = ad2 := by simp [Addr.add]
    rw [e0] at q0 q1 q2
    simp only [List.getElem_cons_zero] at q0 q1 q2
    unfold nv at q0 q1 q2
    have hBW := (HBW2.out.trans ((HB3.out.trans (hb4.mono (by have := HB3.out.size; omega))).mono (by have := HBW2.out.size; omega)))
    have hT4 := hT1.below hBW
    have hB2 := HB3.out.trans (hb4.mono HB3.out.size)
    have t40 := (hB2.cell (World.block_lt_of_cell? _ _ t0)).trans t0
    have HBA := Lib.hid (bl_trans HB1.out hBW)
    have heq := fun W => eq_toks_fields ⟨x, 0, u.length⟩ ⟨x, 0, u.length⟩ W
    rw [decide_eq_true rfl] at heq
    have heq : ∀ W, (Op.equalIn 10000 36 (.agg #[.int .i64 (x : Int), .int .i64 0, .int .i64 (u.length : Int)]) (.agg #[.int .i64 (x : Int), .int .i64 0, .int .i64 (u.length : Int)])).run Tryd.prog W = .ok true W := heq
    have hln := fun ty => len_at u #[9] ty rfl
    have T40 := Lib.hid t40
    have HT4 := Lib.hid hT4
    clear ho2 hrt2 hb4 hBW hB2 e0 hT3 hT1 t0 t1 t2 hcv hst HK2 hcm hT4
    go_wp2_with fail

    refine wp_region_held_drew (S := fun W' => W' = w4.drew) (by kernel_rfl) rfl (fun hHeld => ?_)
    have d0 := (show w4.drew.cell? _ = _ from q0)
    have d1 := (show w4.drew.cell? _ = _ from q1)
    have d2 := (show w4.drew.cell? _ = _ from q2)
    have d3 := (show w4.drew.cell? _ = _ from t40)
    clear q0 q1 q2
    try simp only [List.getElem_toArray, List.getElem_cons_zero, List.getElem_cons_succ, Act.put, List.setIfInBounds_toArray, List.set_cons_zero, List.set_cons_succ]
    refine wpAnyH_take (i := 0) (v := ?vzal0) rfl (by kernel_rfl) (by kernel_rfl) (by kernel_rfl) (fun _ _ _ h => h) (Or.inl ⟨by rfl, ?yzal0⟩) hHeld ?rzal0
    case yzal0 => (intro wS hSw; subst hSw; go_simp; try (with_reducible rfl))
    try simp only [List.getElem_toArray, List.getElem_cons_zero, List.getElem_cons_succ, Act.put, List.setIfInBounds_toArray, List.set_cons_zero, List.set_cons_succ]
    refine wpAnyH_take (i := 1) (v := ?vzal1) rfl (by kernel_rfl) (by kernel_rfl) (by kernel_rfl) (fun _ _ _ h => h) (Or.inl ⟨by rfl, ?yzal1⟩) hHeld ?rzal1
    case yzal1 => (intro wS hSw; subst hSw; go_simp; try (with_reducible rfl))
    try simp only [List.getElem_toArray, List.getElem_cons_zero, List.getElem_cons_succ, Act.put, List.setIfInBounds_toArray, List.set_cons_zero, List.set_cons_succ]
    refine wpAnyH_take (i := 2) (v := ?vzal2) rfl (by kernel_rfl) (by kernel_rfl) (by kernel_rfl) (fun _ _ _ h => h) (Or.inl ⟨by rfl, ?yzal2⟩) hHeld ?rzal2
    case yzal2 => (intro wS hSw; subst hSw; go_simp; try (with_reducible rfl))
    try simp only [List.getElem_toArray, List.getElem_cons_zero, List.getElem_cons_succ, Act.put, List.setIfInBounds_toArray, List.set_cons_zero, List.set_cons_succ]
    refine wpAnyH_take (i := 3) (v := ?vzal3) rfl (by kernel_rfl) (by kernel_rfl) (by kernel_rfl) (fun _ _ _ h => h) (Or.inl ⟨by rfl, ?yzal3⟩) hHeld ?rzal3
    case yzal3 => (intro wS hSw; subst hSw; go_simp; try (with_reducible rfl))
    try simp only [List.getElem_toArray, List.getElem_cons_zero, List.getElem_cons_succ, Act.put, List.setIfInBounds_toArray, List.set_cons_zero, List.set_cons_succ]
    refine wpAnyH_take (i := 4) (v := ?vzal4) rfl (by kernel_rfl) (by kernel_rfl) (by kernel_rfl) (fun _ _ _ h => h) (Or.inl ⟨by rfl, ?yzal4⟩) hHeld ?rzal4
    case yzal4 => (intro wS hSw; subst hSw; go_simp; try (with_reducible rfl))
    try simp only [List.getElem_toArray, List.getElem_cons_zero, List.getElem_cons_succ, Act.put, List.setIfInBounds_toArray, List.set_cons_zero, List.set_cons_succ]
    refine wpAnyH_take (i := 5) (v := ?vzal5) rfl (by kernel_rfl) (by kernel_rfl) (by kernel_rfl) (fun _ _ _ h => h) (Or.inl ⟨by rfl, ?yzal5⟩) hHeld ?rzal5
    case yzal5 => (intro wS hSw; subst hSw; go_simp; try (with_reducible rfl))
    try simp only [List.getElem_toArray, List.getElem_cons_zero, List.getElem_cons_succ, Act.put, List.setIfInBounds_toArray, List.set_cons_zero, List.set_cons_succ]
    refine wpAnyH_take (i := 6) (v := ?vzal6) rfl (by kernel_rfl) (by kernel_rfl) (by kernel_rfl) (fun _ _ _ h => h) (Or.inl ⟨by rfl, ?yzal6⟩) hHeld ?rzal6
    case yzal6 => (intro wS hSw; subst hSw; go_simp; try (with_reducible rfl))
    try simp only [List.getElem_toArray, List.getElem_cons_zero, List.getElem_cons_succ, Act.put, List.setIfInBounds_toArray, List.set_cons_zero, List.set_cons_succ]
    refine wpAnyH_take (i := 7) (v := ?vzal7) rfl (by kernel_rfl) (by kernel_rfl) (by kernel_rfl) (fun _ _ _ h => h) (Or.inl ⟨by rfl, ?yzal7⟩) hHeld ?rzal7
    case yzal7 => (intro wS hSw; subst hSw; go_simp; try (with_reducible rfl))
    try simp only [List.getElem_toArray, List.getElem_cons_zero, List.getElem_cons_succ, Act.put, List.setIfInBounds_toArray, List.set_cons_zero, List.set_cons_succ]
    refine wpAnyH_take (i := 8) (v := ?vzal8) rfl (by kernel_rfl) (by kernel_rfl) (by kernel_rfl) (fun _ _ _ h => h) (Or.inl ⟨by rfl, ?yzal8⟩) hHeld ?rzal8
    case yzal8 => (intro wS hSw; subst hSw; go_simp; try (with_reducible rfl))
    try simp only [List.getElem_toArray, List.getElem_cons_zero, List.getElem_cons_succ, Act.put, List.setIfInBounds_toArray, List.set_cons_zero, List.set_cons_succ]
    refine wpAnyH_take (i := 9) (v := ?vzal9) rfl (by kernel_rfl) (by kernel_rfl) (by kernel_rfl) (fun _ _ _ h => h) (Or.inl ⟨by rfl, ?yzal9⟩) hHeld ?rzal9
    case yzal9 => (intro wS hSw; subst hSw; go_simp; try (with_reducible rfl))
    try simp only [List.getElem_toArray, List.getElem_cons_zero, List.getElem_cons_succ, Act.put, List.setIfInBounds_toArray, List.set_cons_zero, List.set_cons_succ]
    refine wpAnyH_take (i := 10) (v := ?vzal10) rfl (by kernel_rfl) (by kernel_rfl) (by kernel_rfl) (fun _ _ _ h => h) (Or.inl ⟨by rfl, ?yzal10⟩) hHeld ?rzal10
    case yzal10 => (intro wS hSw; subst hSw; go_simp; try (with_reducible rfl))
    try simp only [List.getElem_toArray, List.getElem_cons_zero, List.getElem_cons_succ, Act.put, List.setIfInBounds_toArray, List.set_cons_zero, List.set_cons_succ]
    refine wpAnyH_take (i := 11) (v := ?vzal11) rfl (by kernel_rfl) (by kernel_rfl) (by kernel_rfl) (fun _ _ _ h => h) (Or.inl ⟨by rfl, ?yzal11⟩) hHeld ?rzal11
    case yzal11 => (intro wS hSw; subst hSw; go_simp; try (with_reducible rfl))
    try simp only [List.getElem_toArray, List.getElem_cons_zero, List.getElem_cons_succ, Act.put, List.setIfInBounds_toArray, List.set_cons_zero, List.set_cons_succ]
    refine wpAnyH_take (i := 12) (v := ?vzal12) rfl (by kernel_rfl) (by kernel_rfl) (by kernel_rfl) (fun _ _ _ h => h) (Or.inl ⟨by rfl, ?yzal12⟩) hHeld ?rzal12
    case yzal12 => (intro wS hSw; subst hSw; go_simp; try (with_reducible rfl))
    try simp only [List.getElem_toArray, List.getElem_cons_zero, List.getElem_cons_succ, Act.put, List.setIfInBounds_toArray, List.set_cons_zero, List.set_cons_succ]
    refine wpAnyH_take (i := 13) (v := ?vzal13) rfl (by kernel_rfl) (by kernel_rfl) (by kernel_rfl) (fun _ _ _ h => h) (Or.inl ⟨by rfl, ?yzal13⟩) hHeld ?rzal13
    case yzal13 => (intro wS hSw; subst hSw; go_simp; try (with_reducible rfl))
    try simp only [List.getElem_toArray, List.getElem_cons_zero, List.getElem_cons_succ, Act.put, List.setIfInBounds_toArray, List.set_cons_zero, List.set_cons_succ]
    refine wpAnyH_take (i := 14) (v := ?vzal14) rfl (by kernel_rfl) (by kernel_rfl) (by kernel_rfl) (fun _ _ _ h => h) (Or.inl ⟨by rfl, ?yzal14⟩) hHeld ?rzal14
    case yzal14 => (intro wS hSw; subst hSw; go_simp; try (with_reducible rfl))
    try simp only [List.getElem_toArray, List.getElem_cons_zero, List.getElem_cons_succ, Act.put, List.setIfInBounds_toArray, List.set_cons_zero, List.set_cons_succ]
    refine wpAnyH_take (i := 15) (v := ?vzal15) rfl (by kernel_rfl) (by kernel_rfl) (by kernel_rfl) (fun _ _ _ h => h) (Or.inl ⟨by rfl, ?yzal15⟩) hHeld ?rzal15
    case yzal15 => (intro wS hSw; subst hSw; go_simp; try (with_reducible rfl))
    try simp only [List.getElem_toArray, List.getElem_cons_zero, List.getElem_cons_succ, Act.put, List.setIfInBounds_toArray, List.set_cons_zero, List.set_cons_succ]
    refine wpAnyH_take (i := 16) (v := .bool false) rfl (by kernel_rfl) (by kernel_rfl) (by kernel_rfl) (fun _ _ _ h => h) (Or.inl ⟨by rfl, fun wS hSw => by subst hSw; go_simp; try rw [heq]⟩) hHeld ?_
    try simp only [List.getElem_toArray, List.getElem_cons_zero, List.getElem_cons_succ, Act.put, List.setIfInBounds_toArray, List.set_cons_zero, List.set_cons_succ]
    refine wpAnyH_take (i := 17) (v := ?vzal17) rfl (by kernel_rfl) (by kernel_rfl) (by kernel_rfl) (fun _ _ _ h => h) (Or.inl ⟨by rfl, ?yzal17⟩) hHeld ?rzal17
    case yzal17 => (intro wS hSw; subst hSw; go_simp; try (with_reducible rfl))
    try simp only [List.getElem_toArray, List.getElem_cons_zero, List.getElem_cons_succ, Act.put, List.setIfInBounds_toArray, List.set_cons_zero, List.set_cons_succ]
    refine wpAnyH_done (by kernel_rfl) ?_ _
    clear hHeld d0 d1 d2 d3 heq
    have t5 := (show w4.drew.cell? _ = _ from T40.out)
    have hT5 : Tab w4.drew := HT4.out
    have HB5 := Lib.hid (show Below w.heap.size w w4.drew from bl_drewN HBA.out 1)
    generalize w4.drew = w5 at *
    have hlu : u.length ≤ 8192 := hu8
    rcases word_is HU.out with ⟨rfl, hu1⟩ | ⟨rfl, v, hu, hv⟩ | ⟨rfl, v, hu, hv⟩ | ⟨rfl, hk⟩ | ⟨h5, h13, hs, hk⟩
    · have b1 : ((u.length : Int) == 1) = true := by simp; omega
      go_wp2_with fail
      refine (awake_any _ hT5).mono ?_
      rintro e6 w6 ⟨rfl, hbw6⟩
      have HBw6 := Lib.hid (bl_trans HB5.out hbw6)
      have hTw6 := hT5.below hbw6
      clear hbw6
      go_wp2_with fail
      exact post_is HQ ⟨rfl, HBw6.out⟩
    · have hm : u.length = v.length + 2 := by rw [hu]; simp
      have hin : ∀ W, (Instr.slice 9 (.string ⟨u.toArray⟩) (some (.int .i64 1)) (some (.int .i64 ((u.length : Int) - 1))) none).run Tryd.prog W = .ok (.string ⟨v.toArray⟩) W := fun W => by
        have h9 := inner_at 34 v W ((u.length : Int) - 1) (by rw [hm]; simp; omega)
        rw [hu] at *
        exact h9
      have hv0 : 0 < v.length := by unfold isPathE at hv; rw [Bool.and_eq_true, Bool.and_eq_true] at hv; have h1 := of_decide_eq_true hv.1.1; have h2 := run_le ptB v; omega
      have b1 : decide ((2 : Int) < (u.length : Int)) = true := by simp; omega
      have hul : v.length ≤ 8192 := by omega
      have HV := Lib.hid hv
      clear hu hm hv
      go_wp2_with fail
      refine (isPath_any v _ (by unfold maxLen; omega)).mono ?_
      rw [HV.out]
      rintro e6 w6 ⟨rfl, hbw6⟩
      have HBw6 := Lib.hid (bl_trans HB5.out hbw6)
      have hTw6 := hT5.below hbw6
      clear hbw6
      go_wp2_with fail
      refine (awake_any _ hTw6).mono ?_
      rintro e6 w7 ⟨rfl, hbw7⟩
      have HBw7 := Lib.hid (bl_trans HBw6.out hbw7)
      have hTw7 := hTw6.below hbw7
      clear hbw7
      go_wp2_with fail
      exact post_is HQ ⟨rfl, HBw7.out⟩
    · have hm : u.length = v.length + 2 := by rw [hu]; simp
      have hin : ∀ W, (Instr.slice 9 (.string ⟨u.toArray⟩) (some (.int .i64 1)) (some (.int .i64 ((u.length : Int) - 1))) none).run Tryd.prog W = .ok (.string ⟨v.toArray⟩) W := fun W => by
        have h9 := inner_at 47 v W ((u.length : Int) - 1) (by rw [hm]; simp; omega)
        rw [hu] at *
        exact h9
      skip
      have b1 : decide ((1 : Int) < (u.length : Int)) = true := by simp; omega
      have hul : v.length ≤ 8192 := by omega
      have HV := Lib.hid hv
      clear hu hm hv
      go_wp2_with fail
      refine (isPattern_any v _ (by omega)).mono ?_
      rw [show (patN v == v.length) = true by rw [HV.out]; simp]
      rintro e6 w6 ⟨rfl, hbw6⟩
      have HBw6 := Lib.hid (bl_trans HB5.out hbw6)
      have hTw6 := hT5.below hbw6
      clear hbw6
      go_wp2_with fail
      refine (awake_any _ hTw6).mono ?_
      rintro e6 w7 ⟨rfl, hbw7⟩
      have HBw7 := Lib.hid (bl_trans HBw6.out hbw7)
      have hTw7 := hTw6.below hbw7
      clear hbw7
      go_wp2_with fail
      exact post_is HQ ⟨rfl, HBw7.out⟩
    · have HV := Lib.hid hk
      clear hk
      go_wp2_with fail
      refine (isName_any u _ hT5 (by unfold maxLen; omega)).mono ?_
      rw [show (kindE u == 1) = true by rw [HV.out]; rfl]
      rintro e6 w6 ⟨rfl, hbw6⟩
      have HBw6 := Lib.hid (bl_trans HB5.out hbw6)
      have hTw6 := hT5.below hbw6
      clear hbw6
      go_wp2_with fail
      refine (awake_any _ hTw6).mono ?_
      rintro e6 w7 ⟨rfl, hbw7⟩
      have HBw7 := Lib.hid (bl_trans HBw6.out hbw7)
      have hTw7 := hTw6.below hbw7
      clear hbw7
      go_wp2_with fail
      exact post_is HQ ⟨rfl, HBw7.out⟩
    · have HV := Lib.hid hk
      have c1 : ((x : Int) == 1) = false := by simp; omega
      have c2 : ((x : Int) == 2) = false := by simp; omega
      have c3 : ((x : Int) == 3) = false := by simp; omega
      have c4 : ((x : Int) == 4) = false := by simp; omega
      have hsp : spellZ (x : Int) = u := by rw [hs]; unfold spellZ; rw [if_neg (by omega)]; rfl
      have HSP := Lib.hid hsp
      have HX := Lib.hid (show ¬ x = 1 by omega)
      clear hk hs hsp h5 h13
      go_wp2_with fail
      refine (spelled_any (x : Int) _ hT5).mono ?_
      rw [HSP.out]
      rintro e6 w6 ⟨rfl, rfl⟩
      go_wp2_with fail
      refine (isName_any u _ hT5 (by unfold maxLen; omega)).mono ?_
      rw [show (kindE u == 1) = false by rw [HV.out]; simp; exact HX.out]
      rintro e6 w6 ⟨rfl, hbw6⟩
      have HBw6 := Lib.hid (bl_trans HB5.out hbw6)
      have hTw6 := hT5.below hbw6
      clear hbw6
      go_wp2_with fail
      refine (awake_any _ hTw6).mono ?_
      rintro e6 w7 ⟨rfl, hbw7⟩
      have HBw7 := Lib.hid (bl_trans HBw6.out hbw7)
      have hTw7 := hTw6.below hbw7
      clear hbw7
      go_wp2_with fail
      exact post_is HQ ⟨rfl, HBw7.out⟩

  · have hcases : ansE b = ([], 0, 5) ∨ (∃ p, ansE b = ([], p, 140)) ∨ ansE b = ([], 0, 0) := by
      unfold ansE
      by_cases hb : 8192 < b.length
      · left; rw [if_pos hb]
      · rw [if_neg hb]
        cases hc : cutE b with
        | bad p => exact Or.inr (Or.inl ⟨p, rfl⟩)
        | ok l =>
          cases l with
          | nil => exact Or.inr (Or.inr rfl)
          | cons x l => exact absurd ⟨_, hc, by omega, by simp⟩ hgo
    clear hgo
    rcases hcases with ha | ⟨p, ha⟩ | ha
    · rw [ha] at hcut
      clear ha
      go_enter Tryd.func6, Tryd.ntmps6
      go_wp2_with fail
      refine hcut.mono ?_
      rintro e w1 ⟨v, rfl, ho, hb1⟩
      obtain ⟨At, k, ct, rfl, HK, h1, h2, hrt⟩ := ho.shape
      obtain rfl : k = 0 := HK.out.symm
      have hT1 := hT.below hb1
      clear ho hrt
      go_wp2_with fail
      refine (awake_any _ hT1).mono ?_
      rintro e2 w2 ⟨rfl, hb2⟩
      go_wp2_with fail
      exact post_is HQ ⟨rfl, bl_trans hb1 hb2⟩
    · rw [ha] at hcut
      clear ha
      go_enter Tryd.func6, Tryd.ntmps6
      go_wp2_with fail
      refine hcut.mono ?_
      rintro e w1 ⟨v, rfl, ho, hb1⟩
      obtain ⟨At, k, ct, rfl, HK, h1, h2, hrt⟩ := ho.shape
      obtain rfl : k = 0 := HK.out.symm
      have hT1 := hT.below hb1
      clear ho hrt
      go_wp2_with fail
      refine (awake_any _ hT1).mono ?_
      rintro e2 w2 ⟨rfl, hb2⟩
      go_wp2_with fail
      exact post_is HQ ⟨rfl, bl_trans hb1 hb2⟩
    · rw [ha] at hcut
      clear ha
      go_enter Tryd.func6, Tryd.ntmps6
      go_wp2_with fail
      refine hcut.mono ?_
      rintro e w1 ⟨v, rfl, ho, hb1⟩
      obtain ⟨At, k, ct, rfl, HK, h1, h2, hrt⟩ := ho.shape
      obtain rfl : k = 0 := HK.out.symm
      have hT1 := hT.below hb1
      clear ho hrt
      go_wp2_with fail
      refine (awake_any _ hT1).mono ?_
      rintro e2 w2 ⟨rfl, hb2⟩
      go_wp2_with fail
      exact post_is HQ ⟨rfl, bl_trans hb1 hb2⟩

end Go.Proofs.YtlepaciglkodbaaDoor
