/- The laws' names of three, a deed that does not fail: contracts over the translated program. No condition but what each statement names. -/
import Derived.Test.YtdgaipdpebinbaaDkU
import Derived.Test.YtdgaipdpebinbaaDkTd
set_option linter.unusedVariables false
set_option linter.unusedSimpArgs false
namespace Go.Proofs.Ytdgaipdpebinbaa
open Go.RowKit Go.Maps Go.Shelf Go.Sort

/-- One of three names. -/
def nameE (n : Nat) : UInt8 := UInt8.ofNat (97 + n % 3)
theorem name_any (t : ByteArray) (w : World) (ht : t.size ≤ maxLen) : Calls Try.prog 26 #[.string t] w (GotB w (.string ⟨#[nameE t.size]⟩)) := by
  unfold maxLen at ht
  have hk : t.size % 3 = 0 ∨ t.size % 3 = 1 ∨ t.size % 3 = 2 := by omega
  have ho : nameE t.size = UInt8.ofNat (97 + t.size % 3) := rfl
  have hrd : ∀ x : Int, x = 97 + (t.size : Int) % 3 → Rd (w.alloc (.cells #[.int .u8 x] 5)) (some ⟨w.heap.size, 0, none⟩) [nameE t.size] := by
    intro x hx _
    refine ⟨_, rfl, fun j hj => ?_⟩
    have hj0 : j = 0 := by simp at hj; omega
    subst hj0
    rw [hx]
    simp [Addr.add, bv, ho]
    omega
  have hcv := fun x hx => string_of (w.alloc (.cells #[.int .u8 x] 5)) (some ⟨w.heap.size, 0, none⟩) 1 1 [nameE t.size] rfl (hrd x hx)
  clear hrd ho
  go_enter Try.func26, Try.ntmps26
  go_wp2_with fail
  go_ret
  exact ⟨rfl, (Below.refl _ _).alloc (Nat.le_refl _) _⟩

theorem size_deed : (Try.prog.info? 32).map (·.size) = some 7 := by kernel_rfl
def zeroDeed : List Value := [.int .i64 0, .string ⟨#[]⟩, .string ⟨#[]⟩, .slice none 0 0, .int .i64 0, .int .i64 0, .slice none 0 0]
set_option maxHeartbeats 1000000 in
theorem near_any (k N B : Int) (G V : ByteArray) (A : Option Addr) (m c : Nat) (A2 : Option Addr) (m2 c2 : Nat) (w : World) (h1 : -9223372036854775808 ≤ k) (h2 : k ≤ 9223372036854775807) (hG : G.size ≤ maxLen) (hV : V.size ≤ maxLen) (hmc : m ≤ c) (hc : c ≤ 140737488351232) :
    Calls Try.prog 7 #[deedV k N B G V A m c A2 m2 c2] w (fun e w' => ∃ j, j = min m 30 ∧ e = .returned (deedV (k % 5) N B ⟨#[nameE G.size]⟩ ⟨#[nameE V.size]⟩ A j c A2 m2 c2) ∧ Below w.heap.size w w') := by
  obtain ⟨j, hj, hj1, hj2, hmin⟩ := min_lit m 30 30 rfl
  have hb : ∀ W, Calls Try.prog 21 #[.int .i64 k, .int .i64 5] W (GotV W (.int .i64 (k % 5))) := fun W => bring_any k 5 W h1 h2 (by omega) (by omega)
  have hn1 := fun W => name_any G W hG
  have hn2 := fun W => name_any V W hV
  clear hG hV h1 h2
  obtain ⟨H, hH⟩ : ∃ H, H = w.heap.size := ⟨_, rfl⟩
  obtain ⟨W0, hW0, B0, B1, K0⟩ : ∃ W0, W0 = (w.alloc (.cells (deedCells k N B G V A m c A2 m2 c2).toArray 32)).alloc (.cells zeroDeed.toArray 32) ∧ Blk W0 H (deedCells k N B G V A m c A2 m2 c2) 32 ∧ Blk W0 (H + 1) zeroDeed 32 ∧ Below w.heap.size w W0 := by
    refine ⟨_, rfl, ?_, ?_, ((Below.refl _ w).alloc (Nat.le_refl _) _).alloc (by simp) _⟩
    · rw [hH]
      exact Blk.same (heap_alloc_new w _) (Below.heap_alloc _ _ _ (by simp))
    · have := heap_alloc_new (w.alloc (.cells (deedCells k N B G V A m c A2 m2 c2).toArray 32)) (.cells zeroDeed.toArray 32)
      simp only [World.alloc, Array.size_push] at this
      rw [hH]
      exact this
  have hHw : w.heap.size ≤ H := by omega
  unfold deedV
  unfold deedCells zeroDeed at hW0
  unfold deedCells at B0
  unfold zeroDeed at B1
  have hne : H ≠ H + 1 := by omega
  have hne' : H + 1 ≠ H := by omega
  go_enter Try.func7, Try.ntmps7
  go_wp2_with fail
  rw [← hW0, ← hH]
  clear hW0 hH
  refine (hb W0).mono ?_
  rintro e w0 ⟨rfl, rfl⟩
  have q0 := B0.cell 0 _ rfl
  have y0 := B0.free 0
  have q1 := B0.cell 1 _ rfl
  go_wp2_with fail
  refine (hn1 _).mono ?_
  rintro e w1 ⟨rfl, hb1⟩
  clear q0 y0 q1
  replace K0 := bl_trans (bl_set K0 (p := ⟨H, 0, none⟩) hHw (.int .i64 (k % 5))) hb1
  replace B1 := (B1.far (p := ⟨H, 0, none⟩) hne' (.int .i64 (k % 5))).same (hb1.block _ (by have := B1.lt; simpa [World.setCell] using this))
  replace B0 := (B0.set 0 (.int .i64 (k % 5))).same (hb1.block _ (by have := B0.lt; simpa [World.setCell] using this))
  have q1 := B0.cell 1 _ rfl
  have y1 := B0.free 1
  have q2 := B0.cell 2 _ rfl
  go_wp2_with fail
  refine (hn2 _).mono ?_
  rintro e w2 ⟨rfl, hb2⟩
  clear q1 y1 q2
  replace K0 := bl_trans (bl_set K0 (p := ⟨H, 1, none⟩) hHw (.string ⟨#[nameE G.size]⟩)) hb2
  replace B1 := (B1.far (p := ⟨H, 1, none⟩) hne' (.string ⟨#[nameE G.size]⟩)).same (hb2.block _ (by have := B1.lt; simpa [World.setCell] using this))
  replace B0 := (B0.set 1 (.string ⟨#[nameE G.size]⟩)).same (hb2.block _ (by have := B0.lt; simpa [World.setCell] using this))
  have q0 := B0.cell 0 _ rfl
  have q1 := B0.cell 1 _ rfl
  have q2 := B0.cell 2 _ rfl
  have q3 := B0.cell 3 _ rfl
  have q4 := B0.cell 4 _ rfl
  have q5 := B0.cell 5 _ rfl
  have q6 := B0.cell 6 _ rfl
  have y2 := B0.free 2
  have y3 := B0.free 3
  have p0 := B1.cell 0 _ rfl
  have p1 := B1.cell 1 _ rfl
  have p2 := B1.cell 2 _ rfl
  have p3 := B1.cell 3 _ rfl
  have p4 := B1.cell 4 _ rfl
  have p5 := B1.cell 5 _ rfl
  have p6 := B1.cell 6 _ rfl
  have x0 := B1.free 0
  have x1 := B1.free 1
  have x2 := B1.free 2
  have x3 := B1.free 3
  have x4 := B1.free 4
  have x5 := B1.free 5
  have x6 := B1.free 6
  go_wp2_with fail
  have B9 := ((((((((B1.far (p := ⟨H, 2, none⟩) hne' (.string ⟨#[nameE V.size]⟩)).far (p := ⟨H, 3, none⟩) hne' (.slice A j c)).set 0 (.int .i64 (k % 5))).set 1 (.string ⟨#[nameE G.size]⟩)).set 2 (.string ⟨#[nameE V.size]⟩)).set 3 (.slice A j c)).set 4 (.int .i64 N)).set 5 (.int .i64 B)).set 6 (.slice A2 m2 c2)
  have hH1 : w.heap.size ≤ H + 1 := by omega
  have K9 := bl_set (bl_set (bl_set (bl_set (bl_set (bl_set (bl_set (bl_set (bl_set K0 (p := ⟨H, 2, none⟩) hHw (.string ⟨#[nameE V.size]⟩)) (p := ⟨H, 3, none⟩) hHw (.slice A j c)) (p := ⟨H + 1, 0, none⟩) hH1 (.int .i64 (k % 5))) (p := ⟨H + 1, 1, none⟩) hH1 (.string ⟨#[nameE G.size]⟩)) (p := ⟨H + 1, 2, none⟩) hH1 (.string ⟨#[nameE V.size]⟩)) (p := ⟨H + 1, 3, none⟩) hH1 (.slice A j c)) (p := ⟨H + 1, 4, none⟩) hH1 (.int .i64 N)) (p := ⟨H + 1, 5, none⟩) hH1 (.int .i64 B)) (p := ⟨H + 1, 6, none⟩) hH1 (.slice A2 m2 c2)
  refine bodyPost_ret (v := deedV (k % 5) N B ⟨#[nameE G.size]⟩ ⟨#[nameE V.size]⟩ A j c A2 m2 c2) (results_cell_row rfl _ _ (H + 1) 32 _ (0, 0) _ rfl B9 Try.underlying32 rfl size_deed) rfl ⟨j, hj, rfl, K9⟩
end Go.Proofs.Ytdgaipdpebinbaa
