/- Bytes that a call made: heads, cells, stores; pieces of a slice; a row of noughts. No condition but what each statement names. -/
import Derived.Test.YtdgaipdpebinbaaJoD
set_option linter.unusedVariables false
set_option linter.unusedSimpArgs false
namespace Go.Proofs.Ytdgaipdpebinbaa
open Go.RowKit

theorem Own.head {w : World} {base : Nat} {A : Option Addr} {n c : Nat} {l : List UInt8} (h : Own w base (.slice A n c) l) (hn : 0 < n) : l.length = n ∧ ∃ g, A = some ⟨g, 0, none⟩ ∧ base ≤ g ∧ g < w.heap.size ∧ n ≤ c ∧ c ≤ maxLen := by
  rcases h.2 with ⟨h1, h2⟩ | ⟨g, cap, cur, hv, hb, hg, hnc, hcm, _⟩
  · cases h1; omega
  · cases hv
    exact ⟨rfl, g, rfl, hb, (Array.getElem?_eq_some_iff.1 hg).1, hnc, hcm⟩
theorem Own.len {w : World} {base : Nat} {A : Option Addr} {n c : Nat} {l : List UInt8} (h : Own w base (.slice A n c) l) : l.length = n := by
  rcases h.2 with ⟨h1, h2⟩ | ⟨g, cap, cur, hv, _⟩
  · cases h1; omega
  · cases hv; rfl
theorem Own.cellAt {w : World} {base g n c : Nat} {l : List UInt8} (h : Own w base (.slice (some ⟨g, 0, none⟩) n c) l) {k : Nat} (hk : k < l.length) : w.cell? ⟨g, k, none⟩ = some (.int .u8 (l[k].toNat : Int)) := by
  obtain rfl := h.len
  have h1 := World.ownsRow.cellAt h k (by omega)
  rw [h1]
  simp [hk, bv]
theorem Own.frozenAt {w : World} {base g n c : Nat} {l : List UInt8} (h : Own w base (.slice (some ⟨g, 0, none⟩) n c) l) (k : Nat) : w.frozen? ⟨g, k, none⟩ = false := by
  obtain rfl := h.len
  exact World.ownsRow.frozenAt h k
theorem Own.stored {w : World} {base g n c : Nat} {l : List UInt8} (h : Own w base (.slice (some ⟨g, 0, none⟩) n c) l) (k : Nat) (b : UInt8) (u : Value) (hu : u = bv b) :
    Own (w.setCell ⟨g, k, none⟩ u) base (.slice (some ⟨g, 0, none⟩) n c) (l.set k b) ∧ w.grownBy (w.setCell ⟨g, k, none⟩ u) (some g) := by
  obtain rfl := h.len
  subst hu
  have h1 := World.ownsRow.stored h k (bv b)
  refine ⟨?_, h1.2⟩
  unfold Own
  rw [List.length_set, List.map_set]
  exact h1.1
/-- Any number's cell of a byte is some byte's. -/
theorem u8_of {z : Int} (h0 : 0 ≤ z) (h1 : z < 256) : Value.int .u8 z = bv (UInt8.ofNat z.toNat) := by
  unfold bv
  rw [UInt8.toNat_ofNat', Nat.mod_eq_of_lt (by omega), Int.toNat_of_nonneg h0]
theorem Own.rd {w : World} {base : Nat} {A : Option Addr} {n c : Nat} {l : List UInt8} (h : Own w base (.slice A n c) l) : Rd w A l := by
  obtain ⟨A', n', c', e, _, _, _, hr⟩ := h.form
  cases e
  exact hr
theorem cut_mid (A : Option Addr) (n c s d : Nat) (l : List UInt8) (w : World) (hl : l.length = n) (hr : Rd w A l) (ht : s + d ≤ n) (hnc : n ≤ c) (zs zt : Int) (es : (s : Int) = zs) (et : ((s + d : Nat) : Int) = zt) :
    ∃ A', (∀ W : World, (Instr.slice 30 (.slice A n c) (some (.int .i64 zs)) (some (.int .i64 zt)) none).run Try.prog W = .ok (.slice A' d (c - s)) W) ∧ Rd w A' ((l.take (s + d)).drop s) ∧ Hid (((l.take (s + d)).drop s).length = d) := by
  subst es et
  refine ⟨_, fun W => ?_, (hr.take (s + d)).drop s c (by rw [List.length_take]; omega), by rw [Hid, List.length_drop, List.length_take]; omega⟩
  obtain ⟨i, hi, _, hs1, _⟩ := info_parts info_u8
  have he : Try.prog.elem 30 = 5 := by kernel_rfl
  rw [run_slice_lh W 30 A n c (by rw [he]; exact Try.underlying30) .i64 .i64 s (s + d : Nat) (by omega) (by omega) (by omega)]
  simp [sizeOf, typeInfo, he, hi, hs1, sliced, Result.andThen]
  omega
theorem cut_full (A : Option Addr) (n c : Nat) (hnc : n ≤ c) (W : World) : (Instr.slice 30 (.slice A n c) none (some (.int .i64 (n : Int))) (some (.int .i64 (n : Int)))).run Try.prog W = .ok (.slice A n n) W := by
  obtain ⟨i, hi, _, hs1, _⟩ := info_parts info_u8
  have he : Try.prog.elem 30 = 5 := by kernel_rfl
  have hb : (Instr.sliceBounds true n c none (some (.int .i64 (n : Int))) (some (.int .i64 (n : Int)))).run Try.prog W = .ok (0, n, n) W := by
    simp [Instr.sliceBounds, go_sem, hnc]
  rw [run_slice_any W 30 A n c (by rw [he]; exact Try.underlying30), hb]
  simp [sizeOf, typeInfo, he, hi, hs1, sliced, Result.andThen]
  intro _
  cases A <;> simp [Addr.add]
/-- A row of noughts. -/
def nulls (n : Nat) : Array Value := ((List.replicate n (0 : UInt8)).map bv).toArray
theorem nulls_made (n : Nat) : madeCells #[Value.int .u8 0] n = nulls n := by
  unfold madeCells nulls
  apply Array.ext
  · simp
  · intro i h1 h2
    simp [Nat.mod_one, bv]
/-- 'make([]byte, n)'. -/
theorem make_bytes (n : Nat) (z : Int) (hz : (n : Int) = z) (hn : n ≤ 100000) (W : World) :
    (Instr.makeSlice 30 (.int .i64 z) (.int .i64 z)).run Try.prog W = .ok (.slice (some ⟨W.heap.size, 0, none⟩) n n) (W.alloc (.cells (nulls n) 5)) := by
  subst hz
  obtain ⟨i, hi, hz, hs, hb⟩ := info_parts info_u8
  rw [run_make (P := Try.prog) W 30 5 i (.int .u8 0) Try.underlying30 hi hz .i64 .i64 n n (by omega) (Int.le_refl _) (by rw [hb]; omega) (by omega), hs]
  have e : (Value.int .u8 0).cells = #[Value.int .u8 0] := rfl
  rw [e, Int.toNat_natCast, Nat.mul_one, nulls_made]
theorem rd_nulls (W : World) (n : Nat) : Rd (W.alloc (.cells (nulls n) 5)) (some ⟨W.heap.size, 0, none⟩) (List.replicate n 0) := Rd.litF W _ (0, 0)
theorem ofInt_nat64 (a : Nat) (ha : a < 9223372036854775808) : (BitVec.ofInt 64 (a : Int)).toNat = a := by
  rw [BitVec.ofInt_natCast, BitVec.toNat_ofNat]; exact Nat.mod_eq_of_lt (by omega)
theorem or_nat64 (a b : Nat) (ha : a < 9223372036854775808) (hb : b < 9223372036854775808) : bits .or .i64 (a : Int) (b : Int) = ((a ||| b : Nat) : Int) := by
  have hx : a ||| b < 2 ^ 63 := Nat.or_lt_two_pow (by omega) (by omega)
  show IntKind.i64.wrap ((BitVec.ofInt 64 (a : Int) ||| BitVec.ofInt 64 (b : Int)).toNat : Int) = _
  rw [BitVec.toNat_or, ofInt_nat64 a ha, ofInt_nat64 b hb, IntKind.wrap_i64]
  omega
end Go.Proofs.Ytdgaipdpebinbaa
