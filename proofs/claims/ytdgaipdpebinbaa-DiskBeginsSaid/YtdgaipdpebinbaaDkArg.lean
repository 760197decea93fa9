/- Arguments of types []Deed and []int, opened. -/
import Derived.Test.YtdgaipdpebinbaaDkW
import Derived.Test.YtdgaipdpebinbaaDkAi
import Derived.Deep.SlicePairs
set_option linter.unusedVariables false
set_option linter.unusedSimpArgs false
namespace Go.Proofs.Ytdgaipdpebinbaa
open Go.ChangeShapes Go.WideShapes Go.ChangeAt Go.RowKit

theorem cells_s1 : Try.prog.cellsOf 9 = 1 := by kernel_rfl
theorem cells_i1 : Try.prog.cellsOf 23 = 1 := by kernel_rfl
theorem cells_deed : Try.prog.cellsOf 32 = 7 := by kernel_rfl
instance : Inhabited MD := ⟨⟨0, 0, 0, ⟨#[]⟩, ⟨#[]⟩, none, 0, 0, none, 0, 0, []⟩⟩

theorem cap_bytes : Try.prog.bytesOf 32 = 104 := by kernel_rfl
set_option maxRecDepth 20000 in
/-- An argument of type []Deed, opened. -/
theorem open_deeds {H : Type} {enc : TypeId × Value → H} {W : World} {base : Nat} {v : Value} {d : DataW H} {p : List MemPlace} (hv : Value.okWide Try.prog W .any base 22 v)
    (h0 : DataW.Trod enc Try.prog W 0 (fun _ => true) true 22 v d p) (hw : ∀ n ∈ d.weights Try.prog 22, n ≤ reachBytes) :
    ∃ A n c L, v = .slice A n c ∧ L.length = n ∧ n ≤ c ∧ c ≤ 140737488351232 ∧ RdD W A L ∧ ∀ x ∈ L, x.Ok W := by
  obtain ⟨A, n, c, rfl⟩ := okWide_slice Try.underlying22 hv
  obtain ⟨fuel, hf⟩ := h0
  rcases Deep.open_slice Try.underlying22 hf with ⟨hcs, hx⟩ | ⟨a, len, cap, m, fu, D, Pl, hcs, _, hl, hm, hmm, hx, hcell⟩
  · simp [Value.cells] at hcs
    obtain ⟨rfl, rfl, rfl⟩ := hcs
    exact ⟨none, 0, 0, [], rfl, rfl, by omega, by omega, RdD.nil _ _, by simp⟩
  · simp [Value.cells] at hcs
    obtain ⟨rfl, rfl, rfl⟩ := hcs
    simp only [if_true] at hmm
    obtain rfl : m = c := by omega
    simp only [Prod.mk.injEq] at hx
    obtain ⟨rfl, rfl⟩ := hx
    have hcb : m * 104 ≤ 140737488351232 := by
      have := hw (m * 104) (by
        rw [DataW.weights, Try.underlying22]
        simp only [List.length_map, List.length_range, cap_bytes]
        rw [show n + (m - n) = m by omega]
        exact List.mem_cons_self ..)
      simpa [reachBytes] using this
    have each : ∀ i, i < n → ∃ x : MD, (∀ q v, (x.cells)[q]? = some v → W.cell? (a.add (i * 7 + q)) = some v) ∧ x.Ok W := by
      intro i hi
      obtain ⟨cs', h1, h2⟩ := hcell i (by omega)
      rw [cells_deed] at h1
      obtain ⟨_, hlen, hcl⟩ := World.cells?_some h1
      obtain ⟨xs, k, hk, hxy, _, hxl, hfl⟩ := DataW.trod_struct Try.underlying32 h2
      match xs, hxl, cs', hlen with
      | [y0, y1, y2, y3, y4, y5, y6], _, [u0, u1, u2, u3, u4, u5, u6], _ =>
        have t0 := hfl 0 _ rfl
        have t1 := hfl 1 _ rfl
        have t2 := hfl 2 _ rfl
        have t3 := hfl 3 _ rfl
        have t4 := hfl 4 _ rfl
        have t5 := hfl 5 _ rfl
        have t6 := hfl 6 _ rfl
        simp [cells_int, cells_s1, cells_b1, cells_i1] at t0 t1 t2 t3 t4 t5 t6
        obtain ⟨z0, e0, _, w0⟩ := DataW.trod_int Try.underlying3 t0
        obtain ⟨z1, e1, _, w1⟩ := DataW.trod_string Try.underlying9 t1
        obtain ⟨z2, e2, _, w2⟩ := DataW.trod_string Try.underlying9 t2
        obtain ⟨z4, e4, _, _⟩ := DataW.trod_int Try.underlying3 t4
        obtain ⟨z5, e5, _, _⟩ := DataW.trod_int Try.underlying3 t5
        have h6 : ∃ A2 m2 c2, u6 = .slice A2 m2 c2 := by
          rcases open_ints Try.underlying23 Try.underlying3 cells_int t6 with ⟨e6, _⟩ | ⟨b, len', cap', zs, e6, _⟩
          · simp only [List.cons.injEq, and_true] at e6
            exact ⟨_, _, _, e6⟩
          · simp only [List.cons.injEq, and_true] at e6
            exact ⟨_, _, _, e6⟩
        obtain ⟨A2, m2, c2, rfl⟩ := h6
        simp only [List.cons.injEq, and_true] at e0 e1 e2 e4 e5
        subst e0 e1 e2 e4 e5
        simp only [Prod.mk.injEq] at hxy
        have hwd : ∀ q ∈ y3.1.weights Try.prog 30, q ≤ reachBytes := fun q hq => hw q (by
          rw [DataW.weights, Try.underlying22]
          refine List.mem_cons_of_mem _ (List.mem_append.2 (.inl (weights_all (x := D i) (List.mem_map.2 ⟨i, by simpa using hi, rfl⟩) ?_)))
          rw [hxy.1, DataW.weights, Try.underlying32]
          simp only [List.map_cons, List.map_nil, DataW.weightsEach, List.mem_append]
          simp [hq])
        have h3 : ∃ A3 m3 c3 b, u3 = .slice A3 m3 c3 ∧ b.length = m3 ∧ m3 ≤ c3 ∧ c3 ≤ 140737488351232 ∧ Rd W A3 b := by
          rcases open_ints Try.underlying30 Try.underlying5 cells_u8 t3 with ⟨hcs, _⟩ | ⟨b, len', cap', zs, hcs, _, hl', hm', hzs, hx, hcell', hwz⟩
          · simp only [List.cons.injEq, and_true] at hcs
            exact ⟨none, 0, 0, [], hcs, rfl, by omega, by omega, Rd.nil _ _⟩
          · simp only [List.cons.injEq, and_true] at hcs
            simp only [if_true] at hzs
            have hcap : cap' ≤ 140737488351232 := by
              have := hwd cap' (by rw [hx]; simp [DataW.weights, Try.underlying30, bytes_u8, lits]; omega)
              simpa [reachBytes] using this
            refine ⟨some b, len', cap', (zs.take len').map (fun z => UInt8.ofNat z.toNat), hcs, by simp; omega, hl', hcap, fun _ => ⟨b, rfl, fun j hj => ?_⟩⟩
            simp only [List.length_map, List.length_take] at hj
            have hjz : j < zs.length := by omega
            have hg : zs.getD j 0 = zs[j] := by simp [List.getD, hjz]
            rw [hcell' j hjz, hg]
            have hb : 0 ≤ zs[j] ∧ zs[j] ≤ 255 := by
              have := hwz zs[j] (List.getElem_mem hjz)
              simpa [Lit.wf, IntKind.min, IntKind.max, IntKind.signed, IntKind.bits] using this
            simp only [bv, List.getElem_map, List.getElem_take]
            rw [UInt8.toNat_ofNat', Nat.mod_eq_of_lt (by omega), Int.toNat_of_nonneg hb.1]
        obtain ⟨A3, m3, c3, b, rfl, hb1, hb2, hb3, hb4⟩ := h3
        have hw0 : -9223372036854775808 ≤ z0 ∧ z0 ≤ 9223372036854775807 := by simpa [Lit.wf, IntKind.min, IntKind.max, IntKind.signed, IntKind.bits] using w0
        refine ⟨⟨z0, z4, z5, z1, z2, A3, m3, c3, A2, m2, c2, b⟩, fun q v hq => ?_, ⟨hw0.1, hw0.2, w1, w2, hb2, hb3, hb1, hb4⟩⟩
        have hq7 : q < 7 := (List.getElem?_eq_some_iff.1 hq).1
        have := hcl q hq7
        rw [add_twice] at this
        rw [this]
        exact hq
    obtain ⟨f, hfx⟩ := Deep.choose_lt each
    refine ⟨some a, n, m, (List.range n).map f, rfl, by simp, hl, by omega, fun _ => ⟨a, rfl, fun j hj q v hq => ?_⟩, fun x hx => ?_⟩
    · have hjn : j < n := by simpa using hj
      rw [List.getElem_map, List.getElem_range] at hq
      exact (hfx j hjn).1 q v hq
    · obtain ⟨i, hi, rfl⟩ := List.mem_map.1 hx
      exact (hfx i (by simpa using hi)).2
end Go.Proofs.Ytdgaipdpebinbaa
