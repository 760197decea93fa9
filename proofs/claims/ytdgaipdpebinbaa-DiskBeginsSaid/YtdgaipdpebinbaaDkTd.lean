/- A deed of a disk, each kind: contracts over the translated program. No condition but that the disk lies in memory as said, and what each statement names. -/
import Derived.Test.YtdgaipdpebinbaaDkT
set_option linter.unusedVariables false
set_option linter.unusedSimpArgs false
namespace Go.Proofs.Ytdgaipdpebinbaa
open Go.RowKit Go.Maps Go.Shelf Go.Sort

section
variable {w : World} {own : Nat → Option Role} {d bn bk : Nat} {loc : Nat → Nat} {s : DS} {L : Nat → Prop}
/-- A deed's value. -/
def deedV (k N B : Int) (G V : ByteArray) (A : Option Addr) (m c : Nat) (A2 : Option Addr) (m2 c2 : Nat) : Value := .agg #[.int .i64 k, .string G, .string V, .slice A m c, .int .i64 N, .int .i64 B, .slice A2 m2 c2]
def deedCells (k N B : Int) (G V : ByteArray) (A : Option Addr) (m c : Nat) (A2 : Option Addr) (m2 c2 : Nat) : List Value := [.int .i64 k, .string G, .string V, .slice A m c, .int .i64 N, .int .i64 B, .slice A2 m2 c2]
theorem does_0 (hA : At w own d bn bk loc s (Ref s)) (hg : Good s) (hS : Short s) (hd : s.dead = false) (N B : Int) (G V : ByteArray) (A : Option Addr) (m c : Nat) (A2 : Option Addr) (m2 c2 : Nat) (l : BS) (hG : isN G = true) (hV : V.size ≤ maxLen)
    (hl : l.length = m) (hr : Rd w A l) (hO : 0 < l.length → ∀ p, A = some p → own p.block = none) (hm : m ≤ 549755813888) (hroom : s.room ≤ 16777216) :
    Calls Try.prog 8 #[deedV 0 N B G V A m c A2 m2 c2, .pointer (some ⟨d, 0, none⟩)] w (GotA w own d (.int .i64 ((dE s ⟨0, G.data.toList, V.data.toList, l⟩).2 : Nat)) (dE s ⟨0, G.data.toList, V.data.toList, l⟩).1) := by
  have hGs : G.size ≤ 40 := by unfold isN at hG; simp at hG; omega
  obtain ⟨X, hX⟩ : ∃ X : Obj, X = .cells (deedCells 0 N B G V A m c A2 m2 c2).toArray 32 := ⟨_, rfl⟩
  have hA0 := hA.alloc X
  have hr0 := hr.alloc X
  have hc := append_any hA0 hg hd G hG A m c l hl hr0 hO hm hroom
  rw [hX] at hc
  have hcast : ∀ z : Int, (dE s ⟨0, G.data.toList, V.data.toList, l⟩).2 = z → True := fun _ _ => trivial
  clear hd hg hS hl hcast
  unfold deedV
  unfold deedCells at hc
  have hb : Calls Try.prog 21 #[.int .i64 0, .int .i64 10] (w.alloc (.cells #[.int .i64 0, .string G, .string V, .slice A m c, .int .i64 N, .int .i64 B, .slice A2 m2 c2] 32)) (GotV (w.alloc (.cells #[.int .i64 0, .string G, .string V, .slice A m c, .int .i64 N, .int .i64 B, .slice A2 m2 c2] 32)) (.int .i64 0)) := bring_in 0 10 _ (by omega) (by omega) (by omega) (by omega)
  go_enter Try.func8, Try.ntmps8
  go_wp2_with (go_at_call 21; (with_reducible refine hb.mono ?_); rintro e w' ⟨rfl, rfl⟩)
  refine hc.mono ?_
  rintro e w2 ⟨rfl, own2, hD, hK⟩
  go_wp2
  go_ret
  exact ⟨rfl, own2, hD, hK.alloc⟩

theorem does_1 (hA : At w own d bn bk loc s (Ref s)) (hg : Good s) (hS : Short s) (hd : s.dead = false) (N B : Int) (G V : ByteArray) (A : Option Addr) (m c : Nat) (A2 : Option Addr) (m2 c2 : Nat) (l : BS) (hG : isN G = true) (hV : V.size ≤ maxLen)
    (hl : l.length = m) (hr : Rd w A l) (hO : 0 < l.length → ∀ p, A = some p → own p.block = none) (hm : m ≤ 549755813888) (hroom : s.room ≤ 16777216) :
    Calls Try.prog 8 #[deedV 1 N B G V A m c A2 m2 c2, .pointer (some ⟨d, 0, none⟩)] w (GotA w own d (.int .i64 ((dE s ⟨1, G.data.toList, V.data.toList, l⟩).2 : Nat)) (dE s ⟨1, G.data.toList, V.data.toList, l⟩).1) := by
  have hGs : G.size ≤ 40 := by unfold isN at hG; simp at hG; omega
  obtain ⟨X, hX⟩ : ∃ X : Obj, X = .cells (deedCells 1 N B G V A m c A2 m2 c2).toArray 32 := ⟨_, rfl⟩
  have hA0 := hA.alloc X
  have hr0 := hr.alloc X
  have hc := sync_any hA0 hg hd G (by unfold maxLen; omega)
  rw [hX] at hc
  have hcast : ∀ z : Int, (dE s ⟨1, G.data.toList, V.data.toList, l⟩).2 = z → True := fun _ _ => trivial
  clear hd hg hS hl hcast
  unfold deedV
  unfold deedCells at hc
  have hb : Calls Try.prog 21 #[.int .i64 1, .int .i64 10] (w.alloc (.cells #[.int .i64 1, .string G, .string V, .slice A m c, .int .i64 N, .int .i64 B, .slice A2 m2 c2] 32)) (GotV (w.alloc (.cells #[.int .i64 1, .string G, .string V, .slice A m c, .int .i64 N, .int .i64 B, .slice A2 m2 c2] 32)) (.int .i64 1)) := bring_in 1 10 _ (by omega) (by omega) (by omega) (by omega)
  go_enter Try.func8, Try.ntmps8
  go_wp2_with (go_at_call 21; (with_reducible refine hb.mono ?_); rintro e w' ⟨rfl, rfl⟩)
  refine hc.mono ?_
  rintro e w2 ⟨rfl, own2, hD, hK⟩
  go_wp2
  go_ret
  exact ⟨rfl, own2, hD, hK.alloc⟩

theorem does_2 (hA : At w own d bn bk loc s (Ref s)) (hg : Good s) (hS : Short s) (hd : s.dead = false) (N B : Int) (G V : ByteArray) (A : Option Addr) (m c : Nat) (A2 : Option Addr) (m2 c2 : Nat) (l : BS) (hG : isN G = true) (hV : isN V = true)
    (hl : l.length = m) (hr : Rd w A l) (hO : 0 < l.length → ∀ p, A = some p → own p.block = none) (hm : m ≤ 549755813888) (hroom : s.room ≤ 16777216) :
    Calls Try.prog 8 #[deedV 2 N B G V A m c A2 m2 c2, .pointer (some ⟨d, 0, none⟩)] w (GotA w own d (.int .i64 ((dE s ⟨2, G.data.toList, V.data.toList, l⟩).2 : Nat)) (dE s ⟨2, G.data.toList, V.data.toList, l⟩).1) := by
  have hGs : G.size ≤ 40 := by unfold isN at hG; simp at hG; omega
  obtain ⟨X, hX⟩ : ∃ X : Obj, X = .cells (deedCells 2 N B G V A m c A2 m2 c2).toArray 32 := ⟨_, rfl⟩
  have hA0 := hA.alloc X
  have hr0 := hr.alloc X
  have hc := rename_any hA0 hg hd G V (by omega) hV
  rw [hX] at hc
  have hcast : ∀ z : Int, (dE s ⟨2, G.data.toList, V.data.toList, l⟩).2 = z → True := fun _ _ => trivial
  clear hd hg hS hl hcast
  unfold deedV
  unfold deedCells at hc
  have hb : Calls Try.prog 21 #[.int .i64 2, .int .i64 10] (w.alloc (.cells #[.int .i64 2, .string G, .string V, .slice A m c, .int .i64 N, .int .i64 B, .slice A2 m2 c2] 32)) (GotV (w.alloc (.cells #[.int .i64 2, .string G, .string V, .slice A m c, .int .i64 N, .int .i64 B, .slice A2 m2 c2] 32)) (.int .i64 2)) := bring_in 2 10 _ (by omega) (by omega) (by omega) (by omega)
  go_enter Try.func8, Try.ntmps8
  go_wp2_with (go_at_call 21; (with_reducible refine hb.mono ?_); rintro e w' ⟨rfl, rfl⟩)
  refine hc.mono ?_
  rintro e w2 ⟨rfl, own2, hD, hK⟩
  go_wp2
  go_ret
  exact ⟨rfl, own2, hD, hK.alloc⟩

theorem does_3 (hA : At w own d bn bk loc s (Ref s)) (hg : Good s) (hS : Short s) (hd : s.dead = false) (N B : Int) (G V : ByteArray) (A : Option Addr) (m c : Nat) (A2 : Option Addr) (m2 c2 : Nat) (l : BS) (hG : isN G = true) (hV : V.size ≤ maxLen)
    (hl : l.length = m) (hr : Rd w A l) (hO : 0 < l.length → ∀ p, A = some p → own p.block = none) (hm : m ≤ 549755813888) (hroom : s.room ≤ 16777216) :
    Calls Try.prog 8 #[deedV 3 N B G V A m c A2 m2 c2, .pointer (some ⟨d, 0, none⟩)] w (GotA w own d (.int .i64 ((dE s ⟨3, G.data.toList, V.data.toList, l⟩).2 : Nat)) (dE s ⟨3, G.data.toList, V.data.toList, l⟩).1) := by
  have hGs : G.size ≤ 40 := by unfold isN at hG; simp at hG; omega
  obtain ⟨X, hX⟩ : ∃ X : Obj, X = .cells (deedCells 3 N B G V A m c A2 m2 c2).toArray 32 := ⟨_, rfl⟩
  have hA0 := hA.alloc X
  have hr0 := hr.alloc X
  have hc := remove_any hA0 hg hd G (by omega)
  rw [hX] at hc
  have hcast : ∀ z : Int, (dE s ⟨3, G.data.toList, V.data.toList, l⟩).2 = z → True := fun _ _ => trivial
  clear hd hg hS hl hcast
  unfold deedV
  unfold deedCells at hc
  have hb : Calls Try.prog 21 #[.int .i64 3, .int .i64 10] (w.alloc (.cells #[.int .i64 3, .string G, .string V, .slice A m c, .int .i64 N, .int .i64 B, .slice A2 m2 c2] 32)) (GotV (w.alloc (.cells #[.int .i64 3, .string G, .string V, .slice A m c, .int .i64 N, .int .i64 B, .slice A2 m2 c2] 32)) (.int .i64 3)) := bring_in 3 10 _ (by omega) (by omega) (by omega) (by omega)
  go_enter Try.func8, Try.ntmps8
  go_wp2_with (go_at_call 21; (with_reducible refine hb.mono ?_); rintro e w' ⟨rfl, rfl⟩)
  refine hc.mono ?_
  rintro e w2 ⟨rfl, own2, hD, hK⟩
  go_wp2
  go_ret
  exact ⟨rfl, own2, hD, hK.alloc⟩

theorem does_4 (hA : At w own d bn bk loc s (Ref s)) (hg : Good s) (hS : Short s) (hd : s.dead = false) (N B : Int) (G V : ByteArray) (A : Option Addr) (m c : Nat) (A2 : Option Addr) (m2 c2 : Nat) (l : BS) (hG : G.size ≤ maxLen) (hV : V.size ≤ maxLen)
    (hl : l.length = m) (hr : Rd w A l) (hO : 0 < l.length → ∀ p, A = some p → own p.block = none) (hm : m ≤ 549755813888) (hroom : s.room ≤ 16777216) :
    Calls Try.prog 8 #[deedV 4 N B G V A m c A2 m2 c2, .pointer (some ⟨d, 0, none⟩)] w (GotA w own d (.int .i64 ((dE s ⟨4, G.data.toList, V.data.toList, l⟩).2 : Nat)) (dE s ⟨4, G.data.toList, V.data.toList, l⟩).1) := by
  obtain ⟨X, hX⟩ : ∃ X : Obj, X = .cells (deedCells 4 N B G V A m c A2 m2 c2).toArray 32 := ⟨_, rfl⟩
  have hA0 := hA.alloc X
  have hr0 := hr.alloc X
  have hc := keepNames_in hA0 hg hS hd
  rw [hX] at hc
  have hcast : ∀ z : Int, (dE s ⟨4, G.data.toList, V.data.toList, l⟩).2 = z → True := fun _ _ => trivial
  clear hd hg hS hl hcast
  unfold deedV
  unfold deedCells at hc
  have hb : Calls Try.prog 21 #[.int .i64 4, .int .i64 10] (w.alloc (.cells #[.int .i64 4, .string G, .string V, .slice A m c, .int .i64 N, .int .i64 B, .slice A2 m2 c2] 32)) (GotV (w.alloc (.cells #[.int .i64 4, .string G, .string V, .slice A m c, .int .i64 N, .int .i64 B, .slice A2 m2 c2] 32)) (.int .i64 4)) := bring_in 4 10 _ (by omega) (by omega) (by omega) (by omega)
  go_enter Try.func8, Try.ntmps8
  go_wp2_with (go_at_call 21; (with_reducible refine hb.mono ?_); rintro e w' ⟨rfl, rfl⟩)
  refine hc.mono ?_
  rintro e w2 ⟨rfl, own2, hD, hK⟩
  go_wp2
  go_ret
  exact ⟨rfl, own2, hD, hK.alloc⟩
end
end Go.Proofs.Ytdgaipdpebinbaa
