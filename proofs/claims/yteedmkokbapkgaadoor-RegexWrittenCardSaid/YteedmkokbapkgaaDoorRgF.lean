/- The reader of patterns: a node more. No condition. -/
import Derived.Test.YteedmkokbapkgaaDoorRgE
import Derived.Deep.AppendLies
set_option linter.unusedVariables false
set_option linter.unusedSimpArgs false
namespace Go.Proofs.YteedmkokbapkgaaDoor
open Go.RowKit

def aggR (n : RN) : Value := .agg (cellsR n).toArray
theorem info_rn : (Tryd.prog.info? 59).map (fun i => (i.zero, i.size, i.bytes)) = some (some (aggR ⟨0, 0, 0, ⟨0, 0, 0, 0⟩⟩), 7, 56) := by kernel_rfl
theorem size_rn : (Tryd.prog.info? 59).map (·.size) = some 7 := by kernel_rfl
theorem built_join (k a b : Int) : Tryd.prog.built 59 [(0, Value.int .i64 k), (2, Value.int .i64 a), (3, Value.int .i64 b)] = some (cellsR ⟨k, a, b, nilS⟩).toArray := by kernel_rfl
theorem built_leaf (k : Int) (s : S4) : Tryd.prog.built 59 [(0, Value.int .i64 k), (1, encS s)] = some (cellsR ⟨k, 0, 0, s⟩).toArray := by kernel_rfl
theorem cellsN_more (l : List RN) (n : RN) : cellsN (l ++ [n]) = cellsN l ++ cellsR n := by unfold cellsN; simp
theorem grown_ad {a c : World} {o : Obj} {row : Option Nat} (k : (a.alloc o).drew.grownBy c row) : a.grownBy c row :=
  World.grownBy.trans (b := (a.alloc o).drew) ⟨rfl, rfl, rfl, by simp, fun i hi _ => Below.heap_alloc _ _ _ hi⟩ k
/-- What a call of the reader answers that makes nodes. -/
def GotM (w : World) (n0 g : Nat) (s r : List UInt8) (l : List RN) (v : Value) (e : Ending) (w' : World) : Prop := e = .returned v ∧ RdAt n0 g s r l w' ∧ Below n0 w w'

set_option maxRecDepth 20000 in
set_option maxHeartbeats 1000000 in
theorem made_any {n0 g : Nat} {s r : List UInt8} {l : List RN} {w : World} (n : RN) (h : RdAt n0 g s r l w) (hm : l.length + 2 * r.length + 1 ≤ 2060) : Calls Tryd.prog 88 #[.pointer (some ⟨g, 0, none⟩), aggR n] w
    (GotM w n0 g s r (l ++ [n]) (.int .i64 (l.length : Int))) := by
  obtain ⟨k, a, b, z0, z1, z2, z3⟩ := n
  have hlt := h.lt
  have hbase := h.base
  have hleft := h.left
  have hshort := h.short
  obtain ⟨v, hg, hv, hne⟩ := h.nodes
  have c2 : w.cell? ⟨g, 2, none⟩ = some v := by rw [cell_of_row w g _ _ _ _ hg]; rfl
  have f2 : w.frozen? ⟨g, 2, none⟩ = false := frozen_of_row w g 2 _ _ hg
  have hb1 := bl_alloc (Below.refl w.heap.size w) (.cells #[.int .i64 k, dv z0, dv z1, dv z2, dv z3, .int .i64 a, .int .i64 b] 59)
  have hnew : (w.alloc (.cells #[.int .i64 k, dv z0, dv z1, dv z2, dv z3, .int .i64 a, .int .i64 b] 59)).heap[w.heap.size]? = some (.cells #[.int .i64 k, dv z0, dv z1, dv z2, dv z3, .int .i64 a, .int .i64 b] 59 (0, 0)) := heap_alloc_new w _
  show Calls Tryd.prog 88 #[.pointer (some ⟨g, 0, none⟩), .agg #[.int .i64 k, dv z0, dv z1, dv z2, dv z3, .int .i64 a, .int .i64 b]] w _
  go_enter Tryd.func88, Tryd.ntmps88
  go_wp2_with fail
  generalize w.alloc (.cells #[.int .i64 k, dv z0, dv z1, dv z2, dv z3, .int .i64 a, .int .i64 b] 59) = w1 at *
  have hg1 : w1.heap[g]? = some (.cells #[.string ⟨s.toArray⟩, .int .i64 ((s.length - r.length : Nat) : Int), v] 107 (0, 0)) := (hb1.block g hlt).trans hg
  have hv1 : w1.ownsRow n0 59 7 v l.length (cellsN l) := World.ownsRow.kept hv (grown_of_below hb1 none) (by cases v.ownBlock <;> simp)
  have c21 : w1.cell? ⟨g, 2, none⟩ = some v := by rw [cell_of_row w1 g _ _ _ _ hg1]; rfl
  have c21a : (w1.alloc (.cells #[.int .i64 k, dv z0, dv z1, dv z2, dv z3, .int .i64 a, .int .i64 b] 59)).cell? ⟨g, 2, none⟩ = some v := (World.cell?_alloc_lt _ _ _ (World.block_lt_of_cell? w1 _ c21)).trans c21
  have f21 : w1.frozen? ⟨g, 2, none⟩ = false := frozen_of_row w1 g 2 _ _ hg1
  have c70 : w1.cell? ⟨w.heap.size, 0, none⟩ = some (.int .i64 k) := by rw [cell_of_row w1 w.heap.size _ _ _ _ hnew]; rfl
  have c71 : w1.cell? ⟨w.heap.size, 1, none⟩ = some (dv z0) := by rw [cell_of_row w1 w.heap.size _ _ _ _ hnew]; rfl
  have c72 : w1.cell? ⟨w.heap.size, 2, none⟩ = some (dv z1) := by rw [cell_of_row w1 w.heap.size _ _ _ _ hnew]; rfl
  have c73 : w1.cell? ⟨w.heap.size, 3, none⟩ = some (dv z2) := by rw [cell_of_row w1 w.heap.size _ _ _ _ hnew]; rfl
  have c74 : w1.cell? ⟨w.heap.size, 4, none⟩ = some (dv z3) := by rw [cell_of_row w1 w.heap.size _ _ _ _ hnew]; rfl
  have c75 : w1.cell? ⟨w.heap.size, 5, none⟩ = some (.int .i64 a) := by rw [cell_of_row w1 w.heap.size _ _ _ _ hnew]; rfl
  have c76 : w1.cell? ⟨w.heap.size, 6, none⟩ = some (.int .i64 b) := by rw [cell_of_row w1 w.heap.size _ _ _ _ hnew]; rfl
  have l1 : w.heap.size < w1.heap.size := (Array.getElem?_eq_some_iff.1 hnew).1
  obtain ⟨i0, hi, hz0, hz1, hz2⟩ := info_parts info_rn
  have HV := Lib.hid hv
  have HG := Lib.hid hg
  have HNEW := Lib.hid hnew
  have HLEFT := Lib.hid hleft
  have HNE := Lib.hid hne
  have HBD : Hid (some g ≠ v.ownBlock) := Lib.hid (fun e => hne e.symm)
  have HB1 := Lib.hid hb1
  have HG1 := Lib.hid hg1
  clear hv hg hnew hleft hne c2 f2 h hb1 hg1
  go_region_law ((refine step_append_lies _ (by rfl) _ _ 22 (by rfl) n0 59 i0 (aggR ⟨0, 0, 0, ⟨0, 0, 0, 0⟩⟩) 7 56 Tryd.underlying22 hi hz0 hz1 hz2 rfl (by omega) v l.length (cellsN l) (by rfl) (World.ownsRow.alloc (World.ownsRow.drew hv1) _) ⟨w1.heap.size, 0, none⟩ 1 1 (cellsR ⟨k, a, b, z0, z1, z2, z3⟩) (by rfl) (by rfl) (World.news_of_block (heap_alloc_new _ _)) (by simp [cellsR, dv, Value.oneCell']) (by omega) (by simp only [maxLen]; omega) (by omega) (by first | (simp; omega) | omega) _ rfl ?_; intro q cap w3 hown3 hgrow hat hlt3; have D3 := (hgrow.block g (by first | (simp; omega) | omega) HBD.out).trans ((Below.heap_alloc _ _ g (by first | (simp; omega) | omega)).trans HG1.out); have c6' := (cell_of_row w3 g 2 _ _ _ D3); have z6' := frozen_of_row w3 g 2 _ _ D3; have DH := Lib.hid D3; have OH := Lib.hid hown3; clear D3 hown3))
  all_goals
    have hg3 : w1.grownBy w3 v.ownBlock := grown_ad hgrow
    have G3 := Lib.hid hg3
    have hqg : q ≠ g := by
      rcases hat with e | e
      · exact fun e2 => HNE.out (by rw [e, e2])
      · have : w1.heap.size + 1 = q := by simpa using e.symm
        omega
    have D4 := heap_setCell_same w3 g 2 _ _ (.slice (some ⟨q, 0, none⟩) (l.length + 1) cap) DH.out
    have c8 : (w3.setCell ⟨g, 2, none⟩ (.slice (some ⟨q, 0, none⟩) (l.length + 1) cap)).cell? ⟨g, 2, none⟩ = some (.slice (some ⟨q, 0, none⟩) (l.length + 1) cap) := by rw [cell_of_row _ g _ _ _ _ D4]; rfl
    have D5 := Lib.hid D4
    have hw : wrap64 (((l.length + 1 : Nat) : Int) - 1) = (l.length : Int) := by rw [IntWalk.wrap64_in _ ⟨by omega, by omega⟩]; omega
    have hB3 : Below n0 w (w3.setCell ⟨g, 2, none⟩ (.slice (some ⟨q, 0, none⟩) (l.length + 1) cap)) := by
      have hb : Below n0 w1 w3 := (Below.refl n0 w1).grown hg3 (by omega) (fun k e => (World.ownsRow.lt HV.out k e).1)
      exact (HB1.out.mono (by omega)).trans (hb.grown (grown_set w3 g 2 _) (by have := hg3.size; omega) (fun k e => by cases e; exact hbase))
    have HB3 := Lib.hid hB3
    clear D4 hg3 hgrow hat hB3 c6' z6' hv1 c21 c21a c70 c71 c72 c73 c74 c75 c76 f21 hi hz0 hz1 hz2
    go_wp2_with fail
    go_ret
    refine ⟨rfl, ⟨⟨_, D5.out, ?_, ?_⟩, hbase, HLEFT.out, hshort, ?_⟩, HB3.out⟩
    · rw [cellsN_more, List.length_append]
      exact World.ownsRow.kept OH.out (grown_set w3 g 2 _) (Or.inr (by simp [Value.ownBlock]; exact hqg))
    · simp [Value.ownBlock]
      exact hqg
    · simp
      omega

end Go.Proofs.YteedmkokbapkgaaDoor
