/- The least byte of a set, over the translated program. Least wants math/bits' table as it was laid. -/
import Derived.Test.YteedmkokbapkgaaDoorSetB
set_option linter.unusedVariables false
set_option linter.unusedSimpArgs false
namespace Go.Proofs.YteedmkokbapkgaaDoor
open Go.RowKit

/-- What Least answers of bytes that rise. -/
def leastV : List Nat → Value
  | [] => .tuple #[.int .u8 0, .bool false]
  | c :: _ => .tuple #[.int .u8 (c : Int), .bool true]
def GotL (w : World) (l : List Nat) (e : Ending) (w' : World) : Prop := e = .returned (leastV l) ∧ Below w.heap.size w w'

theorem word_zero {f : Nat → BitVec 64} {k : Nat} (h : f k = 0) : (((f k).toNat : Int) == 0) = true := by
  rw [h]
  rfl
theorem word_some {f : Nat → BitVec 64} {k : Nat} (h : f k ≠ 0) : (((f k).toNat : Int) == 0) = false := by
  apply beq_eq_false_iff_ne.2
  intro e
  apply h
  apply BitVec.eq_of_toNat_eq
  simpa using e

set_option maxHeartbeats 2000000 in
set_option maxRecDepth 20000 in
theorem least_none (f : Nat → BitVec 64) (he : elems f = []) (w : World) :
    Calls Tryd.prog 75 #[.agg (row4 f)] w (GotL w []) := by
  have hz := zero4
  rw [tab4_row] at hz
  have hs := same_sets ((elems_nil_iff f).1 he)
  have hA := Lib.hid (H4.new w f)
  clear he
  go_enter Tryd.func75, Tryd.ntmps75
  go_wp2_with (refine wpList_load_row rfl 57 _ rfl w.heap.size rfl 57 _ (0, 0) _ hA.out Tryd.underlying57 rfl (by rw [size4, row4_size]) ?_)
  exact bodyPost_ret (v := .tuple #[.int .u8 0, .bool false]) (by simp [results, Tryd.results75, go_sem]) rfl ⟨rfl, bl_alloc (Below.refl _ _) _⟩

set_option maxHeartbeats 2000000 in
set_option maxRecDepth 20000 in
theorem least_some (f : Nat → BitVec 64) (he : elems f ≠ []) (w : World) (hT : Tab w) :
    Calls Tryd.prog 75 #[.agg (row4 f)] w (GotL w (elems f)) := by
  have hz := zero4
  rw [tab4_row] at hz
  have hne : ¬ Eq4 f nilW := fun h => he ((elems_nil_iff f).2 h)
  have hs := other_sets hne
  have hA := Lib.hid (H4.new w f)
  have HN := Lib.hid hne
  have HT := Lib.hid hT
  clear he hne hT
  go_enter Tryd.func75, Tryd.ntmps75
  go_wp2_with (refine wpList_load_row rfl 57 _ rfl w.heap.size rfl 57 _ (0, 0) _ hA.out Tryd.underlying57 rfl (by rw [size4, row4_size]) ?_)
  have hB0 := Lib.hid (bl_alloc (Below.refl w.heap.size w) (.cells (row4 f) 57))
  clear hz hs
  go_loopw [4] (fun i wr => ∃ k : Nat, k < 4 ∧ i = .int .i64 k ∧ Hid (∀ j, j < k → f j = 0) ∧ H4 wr w.heap.size f ∧ Below w.heap.size w wr) (fun i _ => 4 - (intOf i).toNat)
  case atStart => exact ⟨0, by omega, rfl, Lib.hid (fun j hj => absurd hj (by omega)), hA.out, hB0.out⟩
  case round =>
    clear hA hB0
    obtain ⟨k, hk, rfl, HZ, h1, hB⟩ := hrel
    have hc1 := h1.cell hk
    by_cases hq : f k = 0
    · have hx := word_zero hq
      have hk3 : k < 3 := by
        rcases Nat.lt_or_ge k 3 with h | h
        · exact h
        · exfalso
          apply HN.out
          intro j hj
          by_cases e : j = k
          · rw [e, hq]; rfl
          · exact HZ.out j (by omega)
      have HZ2 := Lib.hid (show ∀ j, j < k + 1 → f j = 0 from fun j hj => by
        by_cases e : j = k
        · rw [e, hq]
        · exact HZ.out j (by omega))
      have H1 := Lib.hid h1
      have HB := Lib.hid hB
      clear hq HZ h1 hB
      go_wp2
      exact ⟨⟨k + 1, by omega, by go_num, HZ2, H1.out, HB.out⟩, by simp [intOf]; omega⟩
    · have hx := word_some hq
      obtain ⟨l1, l2, l3⟩ := low_spec (f k) hq
      obtain ⟨l, hl, _⟩ := elems_least f k (low (f k)) hk l1 HZ.out l3 l2
      have HL := Lib.hid hl
      have HQ := Lib.hid hq
      have HB := Lib.hid hB
      have hc1' := hc1
      clear hl hq hB l2 l3 h1 HZ
      go_wp2_with fail
      refine (tz_any (f k) HQ.out _ (HT.out.below HB.out)).mono ?_
      rintro e w' ⟨rfl, rfl⟩
      obtain ⟨z, hz⟩ : ∃ z, low (f k) = z := ⟨_, rfl⟩
      rw [hz] at HL l1 ⊢
      clear hz
      go_wp2
      have e4 : (k : Int) * 64 + (z : Int) = ((64 * k + z : Nat) : Int) := by omega
      rw [e4]
      exact bodyPost_ret (v := .tuple #[.int .u8 ((64 * k + z : Nat) : Int), .bool true]) (by simp [results, Tryd.results75, go_sem]) rfl ⟨by rw [HL.out]; rfl, HB.out⟩
theorem least_any (f : Nat → BitVec 64) (w : World) (hT : Tab w) :
    Calls Tryd.prog 75 #[.agg (row4 f)] w (GotL w (elems f)) := by
  by_cases h : elems f = []
  · rw [h]
    exact least_none f h w
  · exact least_some f h w hT

end Go.Proofs.YteedmkokbapkgaaDoor
