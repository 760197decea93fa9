/- An argument of type []api.Section, opened. -/
import Derived.Test.YtlblcligjelbgaaPackU
import Derived.Deep.SlicePairs
set_option linter.unusedVariables false
namespace Go.Proofs.Ytlblcligjelbgaa
open Go.ChangeShapes Go.WideShapes Go.ChangeAt Go.RowKit

theorem RdS_nil (w : World) (A : Option Addr) : RdS w A [] := fun h => absurd h (by simp)
theorem bytes_sec : Try.prog.bytesOf 41 = 32 := by kernel_rfl
theorem weights_all {H : Type} {P : Program} {e : TypeId} {m : Nat} : ∀ {elems : List (DataW H)} {x : DataW H}, x ∈ elems → m ∈ x.weights P e → m ∈ DataW.weightsAll P e elems
  | [], _, h, _ => by cases h
  | y :: r, x, h, hm => by
    rw [DataW.weightsAll]
    rcases List.mem_cons.1 h with rfl | h
    · exact List.mem_append.2 (.inl hm)
    · exact List.mem_append.2 (.inr (weights_all h hm))
/-- An argument of type []api.Section, opened. -/
theorem open_secs {H : Type} {enc : TypeId × Value → H} {W : World} {base : Nat} {v : Value} {d : DataW H} {p : List MemPlace} (hv : Value.okWide Try.prog W .any base 22 v)
    (h0 : DataW.Trod enc Try.prog W 0 (fun _ => true) true 22 v d p) (hw : ∀ n ∈ d.weights Try.prog 22, n ≤ reachBytes) :
    ∃ A n c ss, v = .slice A n c ∧ ss.length = n ∧ n ≤ c ∧ c * 32 ≤ 140737488351232 ∧ RdS W A ss ∧ ∀ s ∈ ss, s.2.length ≤ 150000000000000 := by
  obtain ⟨A, n, c, rfl⟩ := okWide_slice Try.underlying22 hv
  obtain ⟨fuel, hf⟩ := h0
  rcases Deep.open_slice_pairs Try.underlying22 Try.underlying41 (by kernel_rfl) rfl rfl (by kernel_rfl) (by kernel_rfl) hf with ⟨hcs, hx⟩ | ⟨a, len, cap, m, fu, V0, V1, D0, D1, P0, P1, hcs, _, hl, hm, hmm, hx, hcell⟩
  · simp [Value.cells] at hcs
    obtain ⟨rfl, rfl, rfl⟩ := hcs
    exact ⟨none, 0, 0, [], rfl, rfl, by omega, by omega, RdS_nil _ _, by simp⟩
  · simp [Value.cells] at hcs
    obtain ⟨rfl, rfl, rfl⟩ := hcs
    simp only [if_true] at hmm
    obtain rfl : m = c := by omega
    simp only [Prod.mk.injEq] at hx
    obtain ⟨rfl, rfl⟩ := hx
    have hc32 : m * 32 ≤ 140737488351232 := by
      have := hw (m * 32) (by
        rw [DataW.weights, Try.underlying22]
        simp only [List.length_map, List.length_range, bytes_sec]
        rw [show n + (m - n) = m by omega]
        exact List.mem_cons_self ..)
      simpa [reachBytes] using this
    have each : ∀ i, i < n → ∃ s : Sec, W.cell? (a.add (i * 2)) = some (.int .i64 s.1) ∧ (∃ Aj cj, W.cell? ((a.add (i * 2)).add 1) = some (.slice Aj s.2.length cj) ∧ s.2.length ≤ cj ∧ cj ≤ maxLen ∧ Rd W Aj s.2) ∧ s.2.length ≤ 150000000000000 := by
      intro i hi
      obtain ⟨g1, g2, g3, g4⟩ := hcell i (by omega)
      obtain ⟨z, hz, _, _⟩ := DataW.trod_int Try.underlying3 g3
      simp only [List.cons.injEq, and_true] at hz
      rw [hz] at g1
      have hwd : ∀ q ∈ (D1 i).weights Try.prog 24, q ≤ reachBytes := fun q hq => hw q (by
        rw [DataW.weights, Try.underlying22]
        refine List.mem_cons_of_mem _ (List.mem_append.2 (.inl (weights_all (x := .agg [D0 i, D1 i]) (List.mem_map.2 ⟨i, by simpa using hi, rfl⟩) ?_)))
        rw [DataW.weights, Try.underlying41]
        simp only [List.map_cons, List.map_nil, DataW.weightsEach, List.mem_append]
        exact .inr (.inl hq))
      rcases open_ints Try.underlying24 Try.underlying5 cells_u8 g4 with ⟨hcs, _⟩ | ⟨b, len', cap', zs, hcs, _, hl', hm', hzs, hx, hcell', hwz⟩
      · simp only [List.cons.injEq, and_true] at hcs
        rw [hcs] at g2
        exact ⟨(z, []), g1, ⟨none, 0, by rw [add_twice]; exact g2, by simp, by simp [maxLen], Rd.nil _ _⟩, by simp⟩
      · simp only [List.cons.injEq, and_true] at hcs
        rw [hcs] at g2
        simp only [if_true] at hzs
        simp only [Prod.mk.injEq] at hx
        have hcap : cap' ≤ 140737488351232 := by
          have := hwd cap' (by rw [hx.1]; simp [DataW.weights, Try.underlying24, bytes_u8, lits]; omega)
          simpa [reachBytes] using this
        have hlz : ((zs.take len').map (fun z => UInt8.ofNat z.toNat)).length = len' := by simp; omega
        refine ⟨(z, (zs.take len').map (fun z => UInt8.ofNat z.toNat)), g1, ⟨some b, cap', by rw [add_twice, hlz]; exact g2, by rw [hlz]; exact hl', hm', fun _ => ⟨b, rfl, fun j hj => ?_⟩⟩, by rw [hlz]; omega⟩
        simp only [List.length_map, List.length_take] at hj
        have hjz : j < zs.length := by omega
        have hg : zs.getD j 0 = zs[j] := by simp [List.getD, hjz]
        rw [hcell' j hjz, hg]
        have hb : 0 ≤ zs[j] ∧ zs[j] ≤ 255 := by
          have := hwz zs[j] (List.getElem_mem hjz)
          simpa [Lit.wf, IntKind.min, IntKind.max, IntKind.signed, IntKind.bits] using this
        simp only [bv, List.getElem_map, List.getElem_take]
        rw [UInt8.toNat_ofNat', Nat.mod_eq_of_lt (by omega), Int.toNat_of_nonneg hb.1]
    let f : Nat → Sec := fun i => if h : i < n then (each i h).choose else (0, [])
    have hfs : ∀ i (h : i < n), f i = (each i h).choose := fun i h => dif_pos h
    refine ⟨some a, n, m, (List.range n).map f, rfl, by simp, hl, hc32, fun _ => ⟨a, rfl, fun j hj => ?_⟩, fun s hs => ?_⟩
    · have hjn : j < n := by simpa using hj
      have eg : ((List.range n).map f)[j] = (each j hjn).choose := by rw [List.getElem_map, List.getElem_range]; exact hfs j hjn
      rw [eg]
      exact ⟨(each j hjn).choose_spec.1, (each j hjn).choose_spec.2.1⟩
    · obtain ⟨i, hi, rfl⟩ := List.mem_map.1 hs
      have hin : i < n := by simpa using hi
      rw [hfs i hin]
      exact (each i hin).choose_spec.2.2

end Go.Proofs.Ytlblcligjelbgaa
