/- Words of the grammar language: the examples of the law's side. No condition. -/
import Derived.Test.YtlepaciglkodbaaDoorWdF
import Derived.Laws.IdiomStrings
import Derived.Laws.StructEq
import Derived.RegionTactic
import Derived.Deep.RegionHeld3
set_option linter.unusedVariables false
set_option linter.unusedSimpArgs false
namespace Go.Proofs.YtlepaciglkodbaaDoor
open Go.RowKit

theorem bytes_of (w : World) (l : List UInt8) (hl : l.length ≤ maxLen) : ∃ cap w', l.length ≤ cap ∧ cap ≤ 9223372036854775807 ∧ Below w.heap.size w w' ∧ Rd w' (some ⟨w.heap.size, 0, none⟩) l ∧
    (convert 9 22 (.string ⟨l.toArray⟩)).run Tryd.prog w = .ok (.slice (some ⟨w.heap.size, 0, none⟩) l.length cap) w' := by
  have h := run_bytes_of_string (P := Tryd.prog) w 9 22 5 ⟨l.toArray⟩ Tryd.underlying9 Tryd.underlying22 Tryd.underlying5
  have hs : (⟨l.toArray⟩ : ByteArray).size = l.length := by show l.toArray.size = _; simp
  rw [hs] at h
  have g1 := grownCap_ge w l.length 0 5
  have g2 := grownCap_le_maxLen w l.length 0 5 hl
  refine ⟨_, _, g1, by simpa only [maxLen] using g2, bl_alloc (Below.drew (Below.refl _ _)) _, ?_, h⟩
  refine fun h0 => ⟨_, rfl, fun j hj => ?_⟩
  have e : (⟨w.heap.size, 0, none⟩ : Addr).add j = ⟨w.heap.size, j, none⟩ := by
    unfold Addr.add
    split
    · rename_i h; rw [h]
    · simp
  have hn := heap_alloc_new w.drew (.cells (bytesRow ⟨l.toArray⟩ (grownCap w l.length 0 5)) 5 ((bytesRow ⟨l.toArray⟩ (grownCap w l.length 0 5)).size, (bytesRow ⟨l.toArray⟩ (grownCap w l.length 0 5)).size + 1))
  rw [e, cell_of_row _ w.heap.size j _ _ _ hn]
  unfold bytesRow
  simp only [bv]
  rw [Array.getElem?_append_left (by simp; omega)]
  simp [hj]

set_option maxRecDepth 20000 in
theorem refuses_yes (s : List UInt8) (p : Nat) (hs : ansE s = ([], p, 140)) (hl : s.length ≤ 1000) (w : World) (hT : Tab w) : Calls Tryd.prog 34 #[.string ⟨s.toArray⟩, .int .i64 (p : Int)] w (GotBool w true) := by
  generalize hQ : GotBool w true = Q
  have HQ := Lib.hid hQ
  clear hQ
  obtain ⟨cap, w1, hc1, hc2, hb1, hr1, hcv⟩ := bytes_of w s (by unfold maxLen; omega)
  have hT1 := hT.below hb1
  have hsz := hb1.size
  generalize hn : s.length = n at *
  have HN := Lib.hid hn
  have HS := Lib.hid hs
  clear hn hs
  go_enter Tryd.func34, Tryd.ntmps34
  go_wp2_with fail
  refine (cut_any _ n cap s w1 HN.out hr1 (by unfold maxLen; omega) hT1).mono ?_
  rw [HS.out]
  rintro e w2 ⟨v, rfl, ho, hb2⟩
  obtain ⟨A, m, c, rfl, HM, h1, h2, h3⟩ := ho.shape
  obtain rfl : m = 0 := HM.out.symm
  clear ho h3
  go_wp2_with fail
  exact post_is HQ ⟨rfl, bl_trans hb1 hb2⟩

theorem eq_toks_fields (x y : Tk) (w : World) : (Op.equalIn 10000 36 (.agg (cellsK x).toArray) (.agg (cellsK y).toArray)).run Tryd.prog w = .ok (decide (x = y)) w := by
  obtain ⟨k, f, t⟩ := x
  obtain ⟨k', f', t'⟩ := y
  rw [run_equalIn_struct w 9999 36 _ _ (by kernel_rfl) (by kernel_rfl)]
  have hi := Tryd.underlying3
  have hf : (Tryd.prog.fieldsOf 36).toList.map (fun f => (f.name == "_", f.type, f.offset)) = [(false, 3, 0), (false, 3, 1), (false, 3, 2)] := by kernel_rfl
  generalize (Tryd.prog.fieldsOf 36).toList = fs at hf
  obtain ⟨f0, fs, rfl, g0, hf⟩ := List.map_eq_cons_iff.1 hf
  obtain ⟨f1, fs, rfl, g1, hf⟩ := List.map_eq_cons_iff.1 hf
  obtain ⟨f2, fs, rfl, g2, hf⟩ := List.map_eq_cons_iff.1 hf
  obtain rfl := List.map_eq_nil_iff.1 hf
  simp only [Prod.mk.injEq] at g0 g1 g2
  obtain ⟨n0, t0, o0⟩ := g0
  obtain ⟨n1, t1, o1⟩ := g1
  obtain ⟨n2, t2, o2⟩ := g2
  have step : ∀ {d : Nat} {xs ys : Array Value} {f : Field} {fs : List Field} {x y : Value} {r : Bool} {w : World} (hn : (f.name == "_") = false) (hx : (part f.type xs f.offset).run Tryd.prog w = .ok x w) (hy : (part f.type ys f.offset).run Tryd.prog w = .ok y w) (he : (Op.equalIn d f.type x y).run Tryd.prog w = .ok r w),
      (Op.eqFields d xs ys (f :: fs)).run Tryd.prog w = if r = true then (Op.eqFields d xs ys fs).run Tryd.prog w else .ok false w := by
    intro d xs ys f fs x y r w hn hx hy he
    have hn' : f.name ≠ "_" := by simpa using hn
    rw [Op.eqFields, if_pos hn']
    simp only [Sem.run_bind, hx, hy, he, Result.andThen_ok]
    cases r <;> simp
  rw [step n0 (x := .int .i64 k) (y := .int .i64 k') (r := ((k : Int) == k')) (by rw [t0, o0]; kernel_rfl) (by rw [t0, o0]; kernel_rfl) (by rw [t0]; exact run_equalIn_int w 9998 3 .i64 .i64 _ _ hi),
    step n1 (x := .int .i64 f) (y := .int .i64 f') (r := ((f : Int) == f')) (by rw [t1, o1]; kernel_rfl) (by rw [t1, o1]; kernel_rfl) (by rw [t1]; exact run_equalIn_int w 9998 3 .i64 .i64 _ _ hi),
    step n2 (x := .int .i64 t) (y := .int .i64 t') (r := ((t : Int) == t')) (by rw [t2, o2]; kernel_rfl) (by rw [t2, o2]; kernel_rfl) (by rw [t2]; exact run_equalIn_int w 9998 3 .i64 .i64 _ _ hi)]
  by_cases h0 : k = k' <;> by_cases h1 : f = f' <;> by_cases h2 : t = t' <;> simp [h0, h1, h2, Op.eqFields] <;> omega

/-- The numbers of words, one behind the other. -/
def flatT (l : List Tk) : List Nat := l.flatMap fun t => [t.kind, t.from', t.to]
theorem flatT_len (l : List Tk) : (flatT l).length = 3 * l.length := by
  induction l with
  | nil => rfl
  | cons t l ih =>
    have : flatT (t :: l) = [t.kind, t.from', t.to] ++ flatT l := rfl
    rw [this, List.length_append, ih]
    simp
    omega
theorem flatT_at : ∀ (l : List Tk) (i : Nat) (h : i < l.length), (flatT l)[3 * i]? = some l[i].kind ∧ (flatT l)[3 * i + 1]? = some l[i].from' ∧ (flatT l)[3 * i + 2]? = some l[i].to
  | [], i, h => by simp at h
  | t :: l, 0, h => ⟨rfl, rfl, rfl⟩
  | t :: l, i + 1, h => by
    have e : flatT (t :: l) = [t.kind, t.from', t.to] ++ flatT l := rfl
    have ih := flatT_at l i (by simpa using h)
    have k : ∀ q, ([t.kind, t.from', t.to] ++ flatT l)[3 * (i + 1) + q]? = (flatT l)[3 * i + q]? := fun q => by
      rw [List.getElem?_append_right (by simp; omega)]
      congr 1
      simp
      omega
    rw [e]
    exact ⟨by rw [show 3 * (i + 1) = 3 * (i + 1) + 0 from rfl, k 0]; exact ih.1, by rw [k 1]; exact ih.2.1, by rw [k 2]; exact ih.2.2⟩

attribute [-go_sem] run_equalIn_agg
set_option maxRecDepth 20000 in
theorem cuts_yes (s : List UInt8) (l : List Tk) (hs : ansE s = (l, 0, 0)) (hl : s.length ≤ 1000) (hll : l.length ≤ 1000) (g n c : Nat) (hn : n = 3 * l.length) (w : World) (hw : ∀ j u, (flatT l)[j]? = some u → w.cell? ⟨g, j, none⟩ = some (nv u)) (hT : Tab w) :
    Calls Tryd.prog 33 #[.string ⟨s.toArray⟩, .slice (some ⟨g, 0, none⟩) n c] w (GotBool w true) := by
  generalize hQ : GotBool w true = Q
  have HQ := Lib.hid hQ
  clear hQ
  obtain ⟨cap, w1, hc1, hc2, hb1, hr1, hcv⟩ := bytes_of w s (by unfold maxLen; omega)
  have hT1 := hT.below hb1
  have hsz := hb1.size
  generalize hln : s.length = m at *
  have HN := Lib.hid hln
  have HS := Lib.hid hs
  have HNN := Lib.hid hn
  clear hln hs hn
  go_enter Tryd.func33, Tryd.ntmps33
  go_wp2_with fail
  refine (cut_any _ m cap s w1 HN.out hr1 (by unfold maxLen; omega) hT1).mono ?_
  rw [HS.out]
  rintro e w2 ⟨v, rfl, ho, hb2⟩
  obtain ⟨A, k, c2, rfl, HM, h1, h2, hrd⟩ := ho.shape
  have HB := Lib.hid (bl_trans hb1 hb2)
  have hb3 : (((3 : Int) * (k : Int)) != (n : Int)) = false := by
    have h5 : l.length = k := HM.out
    have := HNN.out
    simp; omega
  have hw3 : wrap64 ((3 : Int) * (k : Int)) = (3 : Int) * (k : Int) := by
    have h5 : l.length = k := HM.out
    exact IntWalk.wrap64_in _ ⟨by omega, by omega⟩
  clear ho
  go_wp2_with fail
  have hlk : l.length = k := HM.out
  have HN3 : Hid (n = 3 * k) := by unfold Hid; rw [← hlk]; exact HNN.out
  clear hb3 hw3
  go_loopw [8] (fun v wr => ∃ i : Nat, i ≤ k ∧ v = .int .i64 (i : Int) ∧ Below w2.heap.size w2 wr) (fun v _ => k - (intOf v).toNat)
  case atStart => exact ⟨0, Nat.zero_le _, rfl, Below.refl _ _⟩
  case round =>
    obtain ⟨i, hi, rfl, hbi⟩ := hrel
    by_cases hlt : i < k
    · have hil : i < l.length := by omega
      obtain ⟨ad, hA, q0, q1, q2⟩ := hrd.below hbi i hil
      subst hA
      have hBW := bl_trans HB.out hbi
      have kk := fun {p : Addr} {v : Value} (hc : w.cell? p = some v) => (hBW.cell (World.block_lt_of_cell? w _ hc)).trans hc
      obtain ⟨f0, f1, f2⟩ := flatT_at l i hil
      have z0 := kk (hw _ _ f0)
      have z1 := kk (hw _ _ f1)
      have z2 := kk (hw _ _ f2)
      have bl : decide (i < k) = true := by simp [hlt]
      obtain ⟨J, hJ⟩ : ∃ J, 3 * i = J := ⟨_, rfl⟩
      obtain ⟨J1, hJ1⟩ : ∃ J, 3 * i + 1 = J := ⟨_, rfl⟩
      obtain ⟨J2, hJ2⟩ : ∃ J, 3 * i + 2 = J := ⟨_, rfl⟩
      rw [hJ] at z0
      rw [hJ1] at z1
      rw [hJ2] at z2
      have m0 : IntKind.i64.wrap ((3 : Int) * (i : Int)) = (J : Int) := by rw [IntWalk.i64_in _ (by omega)]; omega
      have m1 : IntKind.i64.wrap ((J : Int) + 1) = (J1 : Int) := by rw [IntWalk.i64_in _ (by omega)]; omega
      have m2 : IntKind.i64.wrap ((J : Int) + 2) = (J2 : Int) := by rw [IntWalk.i64_in _ (by omega)]; omega
      have j0 : J < n := by have := HN3.out; omega
      have j1 : J1 < n := by have := HN3.out; omega
      have j2 : J2 < n := by have := HN3.out; omega
      clear hJ hJ1 hJ2
      have heq := fun W => eq_toks_fields l[i] l[i] W
      rw [decide_eq_true rfl] at heq
      unfold cellsK at heq
      unfold nv at *
      generalize l[i].kind = x at *
      generalize l[i].from' = y at *
      generalize l[i].to = z at *
      have HLT := Lib.hid hlt
      have HWR := Lib.hid hbi
      have hM : k - (i + 1) < k - i := by omega
      have HM2 := Lib.hid hM
      have hi3 : i ≤ 1000 := by omega
      clear hM
      have heq : ∀ W, (Op.equalIn 10000 36 (.agg #[.int .i64 (x : Int), .int .i64 (y : Int), .int .i64 (z : Int)]) (.agg #[.int .i64 (x : Int), .int .i64 (y : Int), .int .i64 (z : Int)])).run Tryd.prog W = .ok true W := heq
      clear f0 f1 f2 kk hBW hrd hlk hil hbi
      go_wp2_with fail
      refine wp_region_held_drew (S := fun W' => W' = wr.drew) (by kernel_rfl) rfl (fun hHeld => ?_)
      have q0d := (show wr.drew.cell? _ = _ from q0)
      have q1d := (show wr.drew.cell? _ = _ from q1)
      have q2d := (show wr.drew.cell? _ = _ from q2)
      have z0d := (show wr.drew.cell? _ = _ from z0)
      have z1d := (show wr.drew.cell? _ = _ from z1)
      have z2d := (show wr.drew.cell? _ = _ from z2)
      clear q0 q1 q2 z0 z1 z2
      try simp only [List.getElem_toArray, List.getElem_cons_zero, List.getElem_cons_succ, Act.put, List.setIfInBounds_toArray, List.set_cons_zero, List.set_cons_succ]
      refine wpAnyH_take (i := 0) (v := ?vzga0) rfl (by kernel_rfl) (by kernel_rfl) (by kernel_rfl) (fun _ _ _ h => h) (Or.inl ⟨by rfl, ?yzga0⟩) hHeld ?rzga0
      case yzga0 => (intro wS hSw; subst hSw; go_simp; try (with_reducible rfl))
      try simp only [List.getElem_toArray, List.getElem_cons_zero, List.getElem_cons_succ, Act.put, List.setIfInBounds_toArray, List.set_cons_zero, List.set_cons_succ]
      refine wpAnyH_take (i := 1) (v := ?vzga1) rfl (by kernel_rfl) (by kernel_rfl) (by kernel_rfl) (fun _ _ _ h => h) (Or.inl ⟨by rfl, ?yzga1⟩) hHeld ?rzga1
      case yzga1 => (intro wS hSw; subst hSw; go_simp; try (with_reducible rfl))
      try simp only [List.getElem_toArray, List.getElem_cons_zero, List.getElem_cons_succ, Act.put, List.setIfInBounds_toArray, List.set_cons_zero, List.set_cons_succ]
      refine wpAnyH_take (i := 2) (v := ?vzga2) rfl (by kernel_rfl) (by kernel_rfl) (by kernel_rfl) (fun _ _ _ h => h) (Or.inl ⟨by rfl, ?yzga2⟩) hHeld ?rzga2
      case yzga2 => (intro wS hSw; subst hSw; go_simp; try (with_reducible rfl))
      try simp only [List.getElem_toArray, List.getElem_cons_zero, List.getElem_cons_succ, Act.put, List.setIfInBounds_toArray, List.set_cons_zero, List.set_cons_succ]
      refine wpAnyH_take (i := 3) (v := ?vzga3) rfl (by kernel_rfl) (by kernel_rfl) (by kernel_rfl) (fun _ _ _ h => h) (Or.inl ⟨by rfl, ?yzga3⟩) hHeld ?rzga3
      case yzga3 => (intro wS hSw; subst hSw; go_simp; try (with_reducible rfl))
      try simp only [List.getElem_toArray, List.getElem_cons_zero, List.getElem_cons_succ, Act.put, List.setIfInBounds_toArray, List.set_cons_zero, List.set_cons_succ]
      refine wpAnyH_take (i := 4) (v := ?vzga4) rfl (by kernel_rfl) (by kernel_rfl) (by kernel_rfl) (fun _ _ _ h => h) (Or.inl ⟨by rfl, ?yzga4⟩) hHeld ?rzga4
      case yzga4 => (intro wS hSw; subst hSw; go_simp; try (with_reducible rfl))
      try simp only [List.getElem_toArray, List.getElem_cons_zero, List.getElem_cons_succ, Act.put, List.setIfInBounds_toArray, List.set_cons_zero, List.set_cons_succ]
      refine wpAnyH_take (i := 5) (v := ?vzga5) rfl (by kernel_rfl) (by kernel_rfl) (by kernel_rfl) (fun _ _ _ h => h) (Or.inl ⟨by rfl, ?yzga5⟩) hHeld ?rzga5
      case yzga5 => (intro wS hSw; subst hSw; go_simp; try (with_reducible rfl))
      try simp only [List.getElem_toArray, List.getElem_cons_zero, List.getElem_cons_succ, Act.put, List.setIfInBounds_toArray, List.set_cons_zero, List.set_cons_succ]
      refine wpAnyH_take (i := 6) (v := ?vzga6) rfl (by kernel_rfl) (by kernel_rfl) (by kernel_rfl) (fun _ _ _ h => h) (Or.inl ⟨by rfl, ?yzga6⟩) hHeld ?rzga6
      case yzga6 => (intro wS hSw; subst hSw; go_simp; try (with_reducible rfl))
      try simp only [List.getElem_toArray, List.getElem_cons_zero, List.getElem_cons_succ, Act.put, List.setIfInBounds_toArray, List.set_cons_zero, List.set_cons_succ]
      refine wpAnyH_take (i := 7) (v := ?vzga7) rfl (by kernel_rfl) (by kernel_rfl) (by kernel_rfl) (fun _ _ _ h => h) (Or.inl ⟨by rfl, ?yzga7⟩) hHeld ?rzga7
      case yzga7 => (intro wS hSw; subst hSw; go_simp; try (with_reducible rfl))
      try simp only [List.getElem_toArray, List.getElem_cons_zero, List.getElem_cons_succ, Act.put, List.setIfInBounds_toArray, List.set_cons_zero, List.set_cons_succ]
      refine wpAnyH_take (i := 8) (v := ?vzga8) rfl (by kernel_rfl) (by kernel_rfl) (by kernel_rfl) (fun _ _ _ h => h) (Or.inl ⟨by rfl, ?yzga8⟩) hHeld ?rzga8
      case yzga8 => (intro wS hSw; subst hSw; go_simp; try (with_reducible rfl))
      try simp only [List.getElem_toArray, List.getElem_cons_zero, List.getElem_cons_succ, Act.put, List.setIfInBounds_toArray, List.set_cons_zero, List.set_cons_succ]
      refine wpAnyH_take (i := 9) (v := ?vzga9) rfl (by kernel_rfl) (by kernel_rfl) (by kernel_rfl) (fun _ _ _ h => h) (Or.inl ⟨by rfl, ?yzga9⟩) hHeld ?rzga9
      case yzga9 => (intro wS hSw; subst hSw; go_simp; try (with_reducible rfl))
      try simp only [List.getElem_toArray, List.getElem_cons_zero, List.getElem_cons_succ, Act.put, List.setIfInBounds_toArray, List.set_cons_zero, List.set_cons_succ]
      refine wpAnyH_take (i := 10) (v := ?vzga10) rfl (by kernel_rfl) (by kernel_rfl) (by kernel_rfl) (fun _ _ _ h => h) (Or.inl ⟨by rfl, ?yzga10⟩) hHeld ?rzga10
      case yzga10 => (intro wS hSw; subst hSw; go_simp; try (with_reducible rfl))
      try simp only [List.getElem_toArray, List.getElem_cons_zero, List.getElem_cons_succ, Act.put, List.setIfInBounds_toArray, List.set_cons_zero, List.set_cons_succ]
      refine wpAnyH_take (i := 11) (v := ?vzga11) rfl (by kernel_rfl) (by kernel_rfl) (by kernel_rfl) (fun _ _ _ h => h) (Or.inl ⟨by rfl, ?yzga11⟩) hHeld ?rzga11
      case yzga11 => (intro wS hSw; subst hSw; go_simp; try (with_reducible rfl))
      try simp only [List.getElem_toArray, List.getElem_cons_zero, List.getElem_cons_succ, Act.put, List.setIfInBounds_toArray, List.set_cons_zero, List.set_cons_succ]
      refine wpAnyH_take (i := 12) (v := ?vzga12) rfl (by kernel_rfl) (by kernel_rfl) (by kernel_rfl) (fun _ _ _ h => h) (Or.inl ⟨by rfl, ?yzga12⟩) hHeld ?rzga12
      case yzga12 => (intro wS hSw; subst hSw; go_simp; try (with_reducible rfl))
      try simp only [List.getElem_toArray, List.getElem_cons_zero, List.getElem_cons_succ, Act.put, List.setIfInBounds_toArray, List.set_cons_zero, List.set_cons_succ]
      refine wpAnyH_take (i := 13) (v := ?vzga13) rfl (by kernel_rfl) (by kernel_rfl) (by kernel_rfl) (fun _ _ _ h => h) (Or.inl ⟨by rfl, ?yzga13⟩) hHeld ?rzga13
      case yzga13 => (intro wS hSw; subst hSw; go_simp; try (with_reducible rfl))
      try simp only [List.getElem_toArray, List.getElem_cons_zero, List.getElem_cons_succ, Act.put, List.setIfInBounds_toArray, List.set_cons_zero, List.set_cons_succ]
      refine wpAnyH_take (i := 14) (v := ?vzga14) rfl (by kernel_rfl) (by kernel_rfl) (by kernel_rfl) (fun _ _ _ h => h) (Or.inl ⟨by rfl, ?yzga14⟩) hHeld ?rzga14
      case yzga14 => (intro wS hSw; subst hSw; go_simp; try (with_reducible rfl))
      try simp only [List.getElem_toArray, List.getElem_cons_zero, List.getElem_cons_succ, Act.put, List.setIfInBounds_toArray, List.set_cons_zero, List.set_cons_succ]
      refine wpAnyH_take (i := 15) (v := ?vzga15) rfl (by kernel_rfl) (by kernel_rfl) (by kernel_rfl) (fun _ _ _ h => h) (Or.inl ⟨by rfl, ?yzga15⟩) hHeld ?rzga15
      case yzga15 => (intro wS hSw; subst hSw; go_simp; try (with_reducible rfl))
      try simp only [List.getElem_toArray, List.getElem_cons_zero, List.getElem_cons_succ, Act.put, List.setIfInBounds_toArray, List.set_cons_zero, List.set_cons_succ]
      refine wpAnyH_take (i := 16) (v := ?vzga16) rfl (by kernel_rfl) (by kernel_rfl) (by kernel_rfl) (fun _ _ _ h => h) (Or.inl ⟨by rfl, ?yzga16⟩) hHeld ?rzga16
      case yzga16 => (intro wS hSw; subst hSw; go_simp; try (with_reducible rfl))
      try simp only [List.getElem_toArray, List.getElem_cons_zero, List.getElem_cons_succ, Act.put, List.setIfInBounds_toArray, List.set_cons_zero, List.set_cons_succ]
      refine wpAnyH_take (i := 17) (v := ?vzga17) rfl (by kernel_rfl) (by kernel_rfl) (by kernel_rfl) (fun _ _ _ h => h) (Or.inl ⟨by rfl, ?yzga17⟩) hHeld ?rzga17
      case yzga17 => (intro wS hSw; subst hSw; go_simp; try (with_reducible rfl))
      try simp only [List.getElem_toArray, List.getElem_cons_zero, List.getElem_cons_succ, Act.put, List.setIfInBounds_toArray, List.set_cons_zero, List.set_cons_succ]
      refine wpAnyH_take (i := 18) (v := ?vzga18) rfl (by kernel_rfl) (by kernel_rfl) (by kernel_rfl) (fun _ _ _ h => h) (Or.inl ⟨by rfl, ?yzga18⟩) hHeld ?rzga18
      case yzga18 => (intro wS hSw; subst hSw; go_simp; try (with_reducible rfl))
      try simp only [List.getElem_toArray, List.getElem_cons_zero, List.getElem_cons_succ, Act.put, List.setIfInBounds_toArray, List.set_cons_zero, List.set_cons_succ]
      refine wpAnyH_take (i := 19) (v := ?vzga19) rfl (by kernel_rfl) (by kernel_rfl) (by kernel_rfl) (fun _ _ _ h => h) (Or.inl ⟨by rfl, ?yzga19⟩) hHeld ?rzga19
      case yzga19 => (intro wS hSw; subst hSw; go_simp; try (with_reducible rfl))
      try simp only [List.getElem_toArray, List.getElem_cons_zero, List.getElem_cons_succ, Act.put, List.setIfInBounds_toArray, List.set_cons_zero, List.set_cons_succ]
      refine wpAnyH_take (i := 20) (v := ?vzga20) rfl (by kernel_rfl) (by kernel_rfl) (by kernel_rfl) (fun _ _ _ h => h) (Or.inl ⟨by rfl, ?yzga20⟩) hHeld ?rzga20
      case yzga20 => (intro wS hSw; subst hSw; go_simp; try (with_reducible rfl))
      try simp only [List.getElem_toArray, List.getElem_cons_zero, List.getElem_cons_succ, Act.put, List.setIfInBounds_toArray, List.set_cons_zero, List.set_cons_succ]
      refine wpAnyH_take (i := 21) (v := ?vzga21) rfl (by kernel_rfl) (by kernel_rfl) (by kernel_rfl) (fun _ _ _ h => h) (Or.inl ⟨by rfl, ?yzga21⟩) hHeld ?rzga21
      case yzga21 => (intro wS hSw; subst hSw; go_simp; try (with_reducible rfl))
      try simp only [List.getElem_toArray, List.getElem_cons_zero, List.getElem_cons_succ, Act.put, List.setIfInBounds_toArray, List.set_cons_zero, List.set_cons_succ]
      refine wpAnyH_take (i := 22) (v := .bool false) rfl (by kernel_rfl) (by kernel_rfl) (by kernel_rfl) (fun _ _ _ h => h) (Or.inl ⟨by rfl, fun wS hSw => by subst hSw; go_simp; try rw [heq]⟩) hHeld ?_
      try simp only [List.getElem_toArray, List.getElem_cons_zero, List.getElem_cons_succ, Act.put, List.setIfInBounds_toArray, List.set_cons_zero, List.set_cons_succ]
      refine wpAnyH_done (by kernel_rfl) ?_ _
      clear hHeld q0d q1d q2d z0d z1d z2d heq m0 m1 m2 j0 j1 j2 hw hr1 hcv hT hT1 hlt
      go_wp2_with fail
      refine ⟨⟨i + 1, HLT.out, by go_num, bl_drewN HWR.out 1⟩, ?_⟩
      have := HM2.out
      simpa [intOf] using this
    · have bl : decide (i < k) = false := by simp; omega
      have HB2 := Lib.hid (bl_trans HB.out hbi)
      clear hrd hlk hlt
      go_wp2_with fail
      exact post_is HQ ⟨rfl, HB2.out⟩

end Go.Proofs.YtlepaciglkodbaaDoor
