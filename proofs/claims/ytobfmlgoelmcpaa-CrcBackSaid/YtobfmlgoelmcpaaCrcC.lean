/- What the statements' own helper 'works' does: the chapter's examples come out as it says. -/
import Derived.Test.YtobfmlgoelmcpaaCrcB
import Derived.Deep.RegionWith
import Derived.Lib.SlBytesConst
set_option linter.unusedVariables false
namespace Go.Proofs.Ytobfmlgoelmcpaa
open Go.RowKit

def nine : List UInt8 := [49, 50, 51, 52, 53, 54, 55, 56, 57]
theorem sum9 : ofE nine = 3421780262#32 := by decide +kernel
theorem sum4 : ofE (nine.take 4) = 2615402659#32 := by decide +kernel
theorem sum0 : ofE (nine.take 0) = 0#32 := by decide +kernel
theorem sum1 : ofE [97] = 3904355907#32 := by decide +kernel
theorem sum45 : onE 2615402659#32 (nine.drop 4) = 3421780262#32 := by decide +kernel

/-- A known number, and nothing that was there has turned. -/
def GotN (w : World) (x : Int) (e : Ending) (w' : World) : Prop := e = .returned (.int .u32 x) ∧ Below w.heap.size w w'

theorem of_known {A : Option Addr} {n c : Nat} {l : List UInt8} {w : World} {x : BitVec 32} {z : Int} (hl : l.length = n) (hr : Rd w A l) (hn : n ≤ 100) (hs : ofE l = x) (hz : (x.toNat : Int) = z) :
    Calls Try.prog 12 #[.slice A n c] w (GotN w z) := by
  have h := of_any A n c l w hl hr (by simp [maxLen]; omega)
  rw [hs] at h
  subst hz
  exact h
theorem on_known {A : Option Addr} {n c : Nat} {l : List UInt8} {w : World} {s x : BitVec 32} {y z : Int} (hl : l.length = n) (hr : Rd w A l) (hn : n ≤ 100) (hs : onE s l = x) (hy : (s.toNat : Int) = y) (hz : (x.toNat : Int) = z) :
    Calls Try.prog 14 #[.int .u32 y, .slice A n c] w (GotN w z) := by
  have h := on_any s A n c l w hl hr (by simp [maxLen]; omega)
  rw [hs] at h
  subst hy hz
  exact h

theorem of9 {w : World} {b : Nat} (h : Rd w (some ⟨b, 0, none⟩) nine) : Calls Try.prog 12 #[.slice (some ⟨b, 0, none⟩) 9 9] w (GotN w 3421780262) :=
  of_known rfl h (by omega) sum9 rfl
theorem of4 {w : World} {b : Nat} (h : Rd w (some ⟨b, 0, none⟩) nine) : Calls Try.prog 12 #[.slice (some ⟨b, 0, none⟩) 4 9] w (GotN w 2615402659) :=
  of_known rfl (h.take 4) (by omega) sum4 rfl
theorem of0 {w : World} {b : Nat} (h : Rd w (some ⟨b, 0, none⟩) nine) : Calls Try.prog 12 #[.slice (some ⟨b, 0, none⟩) 0 9] w (GotN w 0) :=
  of_known rfl (h.take 0) (by omega) sum0 rfl
theorem on5 {w : World} {b : Nat} (h : Rd w (some ⟨b, 0, none⟩) nine) : Calls Try.prog 14 #[.int .u32 2615402659, .slice (some ⟨b, 4, none⟩) 5 5] w (GotN w 3421780262) :=
  on_known rfl (h.drop 4 9 (by decide)) (by omega) sum45 rfl rfl
theorem of1 {w : World} : Calls Try.prog 12 #[.slice (some ⟨w.heap.size, 0, none⟩) 1 1] (w.alloc (.cells #[.int .u8 97] 5)) (GotN (w.alloc (.cells #[.int .u8 97] 5)) 3904355907) :=
  of_known rfl (Rd.litF w [97] (0, 0)) (by omega) sum1 rfl

theorem start9 (w : World) : ∃ W : World, W = w.alloc (.cells #[.int .u8 49, .int .u8 50, .int .u8 51, .int .u8 52, .int .u8 53, .int .u8 54, .int .u8 55, .int .u8 56, .int .u8 57] 5 (9, 10)) ∧ Rd W.drew (some ⟨w.heap.size, 0, none⟩) nine ∧ Below w.heap.size w W.drew :=
  ⟨_, rfl, Rd.litF w nine (9, 10), bl_drewN (bl_alloc (Below.refl _ _) _) 1⟩
theorem bl_of_alloc {w w' : World} {o : Obj} (h : Below (w.alloc o).heap.size (w.alloc o) w') : Below w.heap.size w w' := bl_trans (bl_alloc (Below.refl _ _) _) h

set_option maxHeartbeats 1000000 in
set_option maxRecDepth 20000 in
theorem works_any (w : World) : Calls Try.prog 17 #[] w (GotBool w true) := by
  have kc := fun (w : World) (C : Array Value) (n c : Nat) => Lib.run_convert_bytes_const (P := Try.prog) w 23 5 C n c Try.underlying23 Try.underlying5
  go_enter Try.func17, Try.ntmps17
  go_wp2_with fail
  clear kc
  obtain ⟨W, hW, hR, hB⟩ := start9 w
  rw [← hW]
  clear hW
  go_region_with (first
    | (go_at_call 12; (with_reducible refine (of9 hR).mono ?_); rintro e w1 ⟨rfl, hb⟩; replace hR := hR.below hb; replace hB := bl_trans hB hb; clear hb)
    | (go_at_call 12; (with_reducible refine (of4 hR).mono ?_); rintro e w1 ⟨rfl, hb⟩; replace hR := hR.below hb; replace hB := bl_trans hB hb; clear hb)
    | (go_at_call 12; (with_reducible refine (of0 hR).mono ?_); rintro e w1 ⟨rfl, hb⟩; replace hR := hR.below hb; replace hB := bl_trans hB hb; clear hb)
    | (go_at_call 14; (with_reducible refine (on5 hR).mono ?_); rintro e w1 ⟨rfl, hb⟩; replace hR := hR.below hb; replace hB := bl_trans hB hb; clear hb)
    | (go_at_call 12; (with_reducible refine of1.mono ?_); rintro e w1 ⟨rfl, hb⟩; replace hB := bl_trans hB (bl_of_alloc hb); clear hb))
  all_goals
    go_wp2
    go_ret
    exact ⟨rfl, hB⟩

/-- 'min(m, k)', under a name. -/
theorem min_lit (m k : Nat) (z : Int) (hz : (k : Int) = z) : ∃ j : Nat, Hid (j = min m k) ∧ j ≤ m ∧ j ≤ k ∧ ∀ (ts : Array TypeId) (t : TypeId) (W : World), (Builtin.min_ ts t #[.int .i64 (m : Int), .int .i64 z]).run Try.prog W = .ok (.int .i64 (j : Int)) W := by
  subst hz
  refine ⟨min m k, rfl, by omega, by omega, fun ts t W => ?_⟩
  rw [run_min_int2]
  have e : (if (k : Int) < m then (k : Int) else m) = ((min m k : Nat) : Int) := by split <;> omega
  rw [e]
theorem eq_same (A A' : Option Addr) (n c n' c' : Nat) (l : List UInt8) (w : World) (hl : l.length = n) (hl' : l.length = n') (hr : Rd w A l) (hr' : Rd w A' l) (hn : n ≤ maxLen) :
    Calls Try.prog 16 #[.slice A n c, .slice A' n' c'] w (GotBool w true) := by
  have h := eq_any A A' n c n' c' l l w hl hl' hr hr' hn (by omega)
  simpa using h
theorem ne32 {x y : BitVec 32} (h : x ≠ y) : ((x.toNat : Int) == (y.toNat : Int)) = false := by
  simp only [beq_eq_false_iff_ne, ne_eq]
  intro e
  exact h (BitVec.eq_of_toNat_eq (by omega))

end Go.Proofs.Ytobfmlgoelmcpaa
