/- The laws' own small helpers: a name of three, a deed that does not fail. Contracts over the translated program. No condition but what each statement names. -/
import Derived.Test.YtncpkblgiepdpaaGreatDkT
import Derived.Test.YtncpkblgiepdpaaGreatDkSo
import Derived.Lib.SlBytesConst
set_option linter.unusedVariables false
namespace Go.Proofs.YtncpkblgiepdpaaGreat
open Go.RowKit Go.Maps Go.Shelf Go.Sort

theorem bring_any (i : Int) (n : Nat) (w : World) (h1 : -9223372036854775808 ≤ i) (h2 : i ≤ 9223372036854775807) (hn : 0 < n) (hn2 : n ≤ 9223372036854775807) :
    Calls Tryz.prog 14 #[.int .i64 i, .int .i64 n] w (GotV w (.int .i64 (i % n))) := by
  by_cases hi : 0 ≤ i
  · exact bring_in i n w hi h2 hn hn2
  · have hneg : i.tmod n = -((-i) % (n : Int)) := by
      have e := Int.neg_tmod (a := -i) (b := (n : Int))
      rw [Int.neg_neg] at e
      rw [e, Int.tmod_eq_emod_of_nonneg (a := -i) (by omega)]
    have g1 : 0 ≤ (-i) % (n : Int) := Int.emod_nonneg _ (by omega)
    have g2 : (-i) % (n : Int) < n := Int.emod_lt_of_pos _ (by omega)
    have g3 : i % (n : Int) = if (-i) % (n : Int) = 0 then 0 else n - (-i) % (n : Int) := by
      have d := Int.mul_ediv_add_emod (-i) n
      generalize (-i) % (n : Int) = r at *
      generalize (-i) / (n : Int) = q at *
      by_cases hr : r = 0
      · rw [if_pos hr]
        have e : i = (n : Int) * (-q) := by rw [Int.mul_neg]; omega
        rw [e, Int.mul_emod_right]
      · rw [if_neg hr]
        have e : i = (n - r) + (n : Int) * (-q - 1) := by rw [Int.mul_sub, Int.mul_neg, Int.mul_one]; omega
        rw [e, Int.add_mul_emod_self_left]
        exact Int.emod_eq_of_lt (by omega) (by omega)
    have HN := Lib.hid hneg
    have H3 := Lib.hid g3
    clear hneg g3
    by_cases hz : (-i) % (n : Int) = 0
    · have b1 : decide (i.tmod n < 0) = false := by rw [HN.out]; simp; omega
      have HZ := Lib.hid hz
      clear hz
      go_enter Tryz.func14, Tryz.ntmps14
      go_wp2_with fail
      go_ret
      refine ⟨?_, rfl⟩
      rw [H3.out, if_pos HZ.out]
      show Ending.returned (Value.int IntKind.i64 (i.tmod n)) = _
      rw [HN.out, HZ.out]; rfl
    · have b1 : decide (i.tmod n < 0) = true := by rw [HN.out]; simp; omega
      have b2 : i.tmod n < 0 := by rw [HN.out]; omega
      have b3 : -(n : Int) < i.tmod n := by rw [HN.out]; omega
      go_enter Tryz.func14, Tryz.ntmps14
      go_wp2_with fail
      go_ret
      refine ⟨?_, rfl⟩
      rw [H3.out, if_neg hz]
      show Ending.returned (Value.int IntKind.i64 (i.tmod n + n)) = _
      rw [HN.out]
      congr 2
      omega

theorem min_lit (m k : Nat) (z : Int) (hz : (k : Int) = z) : ∃ j : Nat, Hid (j = min m k) ∧ j ≤ m ∧ j ≤ k ∧ ∀ (ts : Array TypeId) (t : TypeId) (W : World), (Builtin.min_ ts t #[.int .i64 (m : Int), .int .i64 z]).run Tryz.prog W = .ok (.int .i64 (j : Int)) W := by
  subst hz
  refine ⟨min m k, rfl, by omega, by omega, fun ts t W => ?_⟩
  rw [run_min_int2]
  have e : (if (k : Int) < m then (k : Int) else m) = ((min m k : Nat) : Int) := by split <;> omega
  rw [e]

theorem Blk.far {w : World} {b : Nat} {vs : List Value} {t : TypeId} (h : Blk w b vs t) {p : Addr} (hp : b ≠ p.block) (u : Value) : Blk (w.setCell p u) b vs t := h.same (Below.heap_setCell _ _ _ _ hp)
theorem bl_set {w a : World} (h : Below w.heap.size w a) {p : Addr} (hp : w.heap.size ≤ p.block) (u : Value) : Below w.heap.size w (a.setCell p u) := bl_grown h (grown_set _ _ _) (fun k hk => by cases hk; exact hp)
end Go.Proofs.YtncpkblgiepdpaaGreat
