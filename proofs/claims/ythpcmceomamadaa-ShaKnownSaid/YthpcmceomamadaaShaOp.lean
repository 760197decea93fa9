/- Arguments of type [32]uint8, [8]uint32 and string, opened; arrays of bytes and of words, compared. -/
import Derived.Test.YthpcmceomamadaaShaX
import Derived.Test.YthpcmceomamadaaRow
import Derived.Stop.BytesEq
import Derived.ChangeMaps5
set_option linter.unusedVariables false
set_option linter.unusedSimpArgs false
namespace Go.Proofs.Ythpcmceomamadaa
open Go.ChangeShapes Go.WideShapes Go.ChangeAt Go.RowKit

theorem cells_32 : Try.prog.cellsOf 37 = 32 := by kernel_rfl

/-- An argument of type [32]uint8, opened. -/
theorem open_digest {H : Type} {enc : TypeId × Value → H} {W : World} {base : Nat} {v : Value} {d : DataW H} {p : List MemPlace} (hv : Value.okWide Try.prog W .any base 37 v)
    (h0 : DataW.Trod enc Try.prog W 0 (fun _ => true) true 37 v d p) : ∃ f : Nat → UInt8, v = .agg (rowB 32 f) := by
  have hu := Try.underlying37
  unfold Value.okWide at hv
  rw [hu] at hv
  obtain ⟨cs, rfl, hsz, _⟩ := hv
  rw [cells_32] at hsz
  obtain ⟨fuel, hf⟩ := h0
  obtain ⟨xs, m, a1, a2, a3, hxl, hx⟩ := DataW.trod_array hu hf
  have key : ∀ j, j < 32 → ∃ x : UInt8, cs[j]? = some (bv x) := by
    intro j hj
    have h1 := hx j (by omega)
    simp only [cells_u8, Value.cells, Nat.mul_one] at h1
    rw [List.getElem?_eq_getElem (by omega)] at h1
    obtain ⟨x, e1, _, w1⟩ := DataW.trod_int Try.underlying5 h1
    have hcs : cs[j]? = some (.int .u8 x) := by
      have e2 : (List.take 1 (List.drop j cs.toList))[0]? = some (.int .u8 x) := by rw [e1]; rfl
      rw [List.getElem?_take, if_pos (by omega), List.getElem?_drop] at e2
      simpa using e2
    have hb : 0 ≤ x ∧ x ≤ 255 := by simpa [Lit.wf, IntKind.min, IntKind.max, IntKind.signed, IntKind.bits] using w1
    refine ⟨UInt8.ofNat x.toNat, ?_⟩
    rw [hcs]
    unfold bv
    rw [UInt8.toNat_ofNat', Nat.mod_eq_of_lt (by omega), Int.toNat_of_nonneg hb.1]
  refine ⟨fun j => if h : j < 32 then Classical.choose (key j h) else 0, ?_⟩
  congr 1
  refine rowB_ext 32 _ cs hsz fun j hj => ?_
  rw [dif_pos hj]
  exact Classical.choose_spec (key j hj)

theorem cells_8 : Try.prog.cellsOf 31 = 8 := by kernel_rfl
theorem cells_u32 : Try.prog.cellsOf 22 = 1 := by kernel_rfl
theorem rowF_ext (n : Nat) (f : Nat → BitVec 32) (a : Array Value) (hs : a.size = n) (h : ∀ j, j < n → a[j]? = some (wv (f j))) : a = rowF n f := by
  apply Array.ext_getElem?
  intro j
  by_cases hj : j < n
  · rw [h j hj, rowF_get _ _ _ hj]
  · rw [Array.getElem?_eq_none (by omega), Array.getElem?_eq_none (by rw [rowF_size]; omega)]
/-- An argument of type [8]uint32, opened. -/
theorem open_eight {H : Type} {enc : TypeId × Value → H} {W : World} {base : Nat} {v : Value} {d : DataW H} {p : List MemPlace} (hv : Value.okWide Try.prog W .any base 31 v)
    (h0 : DataW.Trod enc Try.prog W 0 (fun _ => true) true 31 v d p) : ∃ h : S8, v = .agg (rowF 8 h.get) := by
  have hu := Try.underlying31
  unfold Value.okWide at hv
  rw [hu] at hv
  obtain ⟨cs, rfl, hsz, _⟩ := hv
  rw [cells_8] at hsz
  obtain ⟨fuel, hf⟩ := h0
  obtain ⟨xs, m, a1, a2, a3, hxl, hx⟩ := DataW.trod_array hu hf
  have key : ∀ j, j < 8 → ∃ x : BitVec 32, cs[j]? = some (wv x) := by
    intro j hj
    have h1 := hx j (by omega)
    simp only [cells_u32, Value.cells, Nat.mul_one] at h1
    rw [List.getElem?_eq_getElem (by omega)] at h1
    obtain ⟨x, e1, _, w1⟩ := DataW.trod_int Try.underlying22 h1
    have hcs : cs[j]? = some (.int .u32 x) := by
      have e2 : (List.take 1 (List.drop j cs.toList))[0]? = some (.int .u32 x) := by rw [e1]; rfl
      rw [List.getElem?_take, if_pos (by omega), List.getElem?_drop] at e2
      simpa using e2
    have hb : 0 ≤ x ∧ x ≤ 4294967295 := by simpa [Lit.wf, IntKind.min, IntKind.max, IntKind.signed, IntKind.bits] using w1
    refine ⟨BitVec.ofNat 32 x.toNat, ?_⟩
    rw [hcs]
    unfold wv
    rw [BitVec.toNat_ofNat, Nat.mod_eq_of_lt (by omega), Int.toNat_of_nonneg hb.1]
  refine ⟨S8.of fun j => if h : j < 8 then Classical.choose (key j h) else 0, ?_⟩
  congr 1
  refine rowF_ext 8 _ cs hsz fun j hj => ?_
  rw [S8.of_get _ _ hj, dif_pos hj]
  exact Classical.choose_spec (key j hj)

theorem open_str {H : Type} {enc : TypeId × Value → H} {W : World} {base : Nat} {v : Value} {d : DataW H} {p : List MemPlace} (hv : Value.okWide Try.prog W .any base 9 v)
    (h0 : DataW.Trod enc Try.prog W 0 (fun _ => true) true 9 v d p) : ∃ l : List UInt8, v = .string ⟨l.toArray⟩ ∧ l.length ≤ maxLen := by
  obtain ⟨s, rfl, _, _, hs⟩ := Go.ChangeMaps.open_string Try.underlying9 hv h0
  exact ⟨s.data.toList, rfl, by rw [Array.length_toList]; exact hs⟩

/-- Two digests, compared. -/
theorem same_digest (f g : Nat → UInt8) (W : World) : (Op.equalIn 10000 37 (.agg (rowB 32 f)) (.agg (rowB 32 g))).run Try.prog W = .ok ((List.range 32).map f == (List.range 32).map g) W := by
  obtain ⟨i, hi, _, hs, _⟩ := info_parts info_u8
  exact run_equalIn_bytes W 9998 37 5 32 Try.underlying37 Try.underlying5 (fun w => by simp [sizeOf, typeInfo, hi, hs]) ((List.range 32).map f) ((List.range 32).map g) (by simp) (by simp)
theorem same_is (f : Nat → UInt8) (W : World) : (Op.equalIn 10000 37 (.agg (rowB 32 f)) (.agg (rowB 32 f))).run Try.prog W = .ok true W := by
  rw [same_digest]
  simp
theorem same_null (W : World) : (Op.equalIn 10000 37 (.agg tab32) (.agg tab32)).run Try.prog W = .ok true W := by
  rw [tab32_row]
  exact same_is _ W

theorem all_range_eq32 : ∀ (xs ys : List (BitVec 32)), xs.length = ys.length → ((List.range xs.length).all fun i => xs.getD i 0 == ys.getD i 0) = (xs == ys)
  | [], [], _ => rfl
  | x :: xs, y :: ys, h => by
    have ih := all_range_eq32 xs ys (by simpa using h)
    rw [List.length_cons, List.range_succ_eq_map, List.all_cons, List.all_map]
    simp only [List.getD_cons_zero, Function.comp_def, List.getD_cons_succ, ih]
    simp [List.cons_beq_cons]
  | [], _ :: _, h => by simp at h
  | _ :: _, [], h => by simp at h
theorem equal_words (xs ys : List (BitVec 32)) (hx : xs.length = 8) (hy : ys.length = 8) (w : World) : (Op.equalIn 10000 31 (.agg (xs.map wv).toArray) (.agg (ys.map wv).toArray)).run Try.prog w = .ok (xs == ys) w := by
  have ht := Try.underlying31
  have he := Try.underlying22
  have hsz : ∀ w, (sizeOf 22).run Try.prog w = .ok 1 w := fun w => by kernel_rfl
  rw [← all_range_eq32 xs ys (hx.trans hy.symm), hx, List.range_eq_range', Op.equalIn]
  simp only [Sem.run_bind, run_underlying ht, Result.andThen_ok, hsz, Std.Legacy.Range.forIn_eq_forIn_range', Std.Legacy.Range.size, Nat.sub_zero, Nat.add_sub_cancel, Nat.div_one]
  have hl : ∀ i ∈ List.range' 0 8 1, i < 8 := fun i hi => by simpa using (List.mem_range'_1.1 hi).2
  generalize List.range' 0 8 1 = l at hl ⊢
  induction l with
  | nil => simp
  | cons i l ih =>
    have hi : i < 8 := hl i (by simp)
    have px : (part 22 (xs.map wv).toArray (i * 1)).run Try.prog w = .ok (wv (xs.getD i 0)) w := by
      simp [part, isAgg, run_underlying he, List.getD, List.getElem?_eq_getElem (show i < xs.length by omega)]
    have py : (part 22 (ys.map wv).toArray (i * 1)).run Try.prog w = .ok (wv (ys.getD i 0)) w := by
      simp [part, isAgg, run_underlying he, List.getD, List.getElem?_eq_getElem (show i < ys.length by omega)]
    have pe : (Op.equalIn 9999 22 (wv (xs.getD i 0)) (wv (ys.getD i 0))).run Try.prog w = .ok (xs.getD i 0 == ys.getD i 0) w := by
      rw [wv, wv, run_equalIn_int w 9998 22 .u32 .u32 _ _ he]
      congr 1
      rw [Bool.eq_iff_iff]
      simp [← BitVec.toNat_inj]
      omega
    simp only [List.forIn_cons, Sem.run_bind, px, py, pe, Result.andThen_ok, List.all_cons]
    cases hb : (xs.getD i 0 == ys.getD i 0)
    · simp
    · simp only [Bool.not_true, Bool.false_eq_true, if_false, Sem.run_pure, Result.andThen_ok, Bool.true_and]
      exact ih fun j hj => hl j (by simp [hj])
theorem same_words (f : Nat → BitVec 32) (W : World) : (Op.equalIn 10000 31 (.agg (rowF 8 f)) (.agg (rowF 8 f))).run Try.prog W = .ok true W := by
  unfold rowF
  rw [equal_words _ _ (by simp) (by simp)]
  simp

end Go.Proofs.Ythpcmceomamadaa
