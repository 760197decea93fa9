/- Less over the translated program, and what its walk and the laws' walks want of regions that draw their order. No condition. -/
import Derived.Deep.CutRange
import Derived.Deep.RegionHeld3
import Derived.Test.YtcgfogdfcdndgaaGreatDoorSetDQ
set_option linter.unusedVariables false
set_option linter.unusedSimpArgs false
namespace Go.Proofs.YtcgfogdfcdndgaaGreatDoor
open Go.RowKit

/-- A set out of a block of its own, whichever operation comes up first. -/
theorem yields_set {ops : Array Oper} {S : World → Prop} {op : Oper} {a : Act} (hw : Region.wanted op (yielded ops a.tmps) = true) (x : Operand) (ho : op.op = .load 51 x)
    (g : Nat) (hx : a.eval x = .pointer (some ⟨g, 0, none⟩)) (f : Nat → BitVec 64) (hS : ∀ w, S w → H4 w g f) : YieldsIf Tryz.prog ops S op (.agg (row4 f)) a :=
  .inl ⟨hw, fun w hw' => by
    unfold execOp
    simp only [ho, hx, Instr.loadAt, Instr.sureAddr, Sem.run_bind, Sem.run_pure, Result.andThen_ok, run_loadVar_row w g 51 51 _ _ _ (hS w hw') Tryz.underlying51 rfl (by rw [size4, row4_size])]⟩

set_option maxHeartbeats 2000000 in
set_option maxRecDepth 20000 in
theorem less_any (f g : Nat → BitVec 64) (w : World) :
    Calls Tryz.prog 82 #[.agg (row4 f), .agg (row4 g)] w (Got4 w (andW f (notW g))) := by
  have hz := zero4
  rw [tab4_row] at hz
  go_enter Tryz.func82, Tryz.ntmps82
  go_upto_region 1 with fail
  clear hz
  have hA := ((H4.new w f).alloc (.cells (row4 g) 51)).alloc (.cells (row4 nilW) 51)
  have hB := (H4.new1 w (.cells (row4 f) 51) g).alloc (.cells (row4 nilW) 51)
  have hC := H4.new2 w (.cells (row4 f) 51) (.cells (row4 g) 51) nilW
  have hL : Below w.heap.size w (((w.alloc (.cells (row4 f) 51)).alloc (.cells (row4 g) 51)).alloc (.cells (row4 nilW) 51)) := bl_alloc (bl_alloc (bl_alloc (Below.refl _ _) _) _) _
  generalize ((w.alloc (.cells (row4 f) 51)).alloc (.cells (row4 g) 51)).alloc (.cells (row4 nilW) 51) = w0 at *
  refine wp_region_held_drew (S := fun w' => H4 w' w.heap.size f ∧ H4 w' (w.heap.size + 1) g ∧ (∃ k, H4 w' (w.heap.size + 1 + 1) k) ∧ Below w.heap.size w w') (by kernel_rfl) ⟨hA.drew, hB.drew, ⟨_, hC.drew⟩, hL.drew⟩ (fun hHeld => ?_)
  clear hA hB hC hL
  refine wpAnyH_take (i := 0) (v := .agg (row4 f)) rfl (by kernel_rfl) (by kernel_rfl) (by kernel_rfl) (fun _ _ _ h => h) (yields_set (by rfl) (.tmp 2) rfl w.heap.size rfl f (fun _ h => h.1)) hHeld ?_
  try simp only [zzA, zzB, zzC, Act.put, zzD, zzE, zzF]
  refine wpAnyH_take (i := 1) (v := .agg (row4 g)) rfl (by kernel_rfl) (by kernel_rfl) (by kernel_rfl) (fun _ _ _ h => h) (yields_set (by rfl) (.tmp 3) rfl (w.heap.size + 1) rfl g (fun _ h => h.2.1)) hHeld ?_
  try simp only [zzA, zzB, zzC, Act.put, zzD, zzE, zzF]
  refine wpAnyH_ready (rs := [2]) (by kernel_rfl) (by simp) (AllReadyH.cons rfl (fun K hK => ?_) AllReadyH.nil)
  go_simp
  go_at_call 102
  refine (not_any g _).mono ?_
  rintro e w1 ⟨rfl, hb1⟩
  obtain ⟨kC, hKC⟩ := hHeld.2.2.1
  have hS1 := And.intro (hHeld.1.below hb1) (And.intro (hHeld.2.1.below hb1) (And.intro (Exists.intro kC (hKC.below hb1)) (bl_trans hHeld.2.2.2 hb1)))
  clear hHeld hb1 hKC
  go_wp2_with fail
  refine hK.out _ _ hS1 (fun hHeld => ?_)
  clear hK K hS1
  try simp only [zzA, zzB, zzC, Act.put, zzD, zzE, zzF]
  refine wpAnyH_ready (rs := [3]) (by kernel_rfl) (by simp) (AllReadyH.cons rfl (fun K hK => ?_) AllReadyH.nil)
  go_simp
  go_at_call 81
  refine (both_any f (notW g) _).mono ?_
  rintro e w2 ⟨rfl, hb1⟩
  obtain ⟨kC, hKC⟩ := hHeld.2.2.1
  have hS1 := And.intro (hHeld.1.below hb1) (And.intro (hHeld.2.1.below hb1) (And.intro (Exists.intro kC (hKC.below hb1)) (bl_trans hHeld.2.2.2 hb1)))
  clear hHeld hb1 hKC
  go_wp2_with fail
  refine hK.out _ _ hS1 (fun hHeld => ?_)
  clear hK K hS1
  try simp only [zzA, zzB, zzC, Act.put, zzD, zzE, zzF]
  refine wpAnyH_ready (rs := [4]) (by kernel_rfl) (by simp) (AllReadyH.cons rfl (fun K hK => ?_) AllReadyH.nil)
  rw [if_pos (by rfl)]
  obtain ⟨kC, hKC⟩ := hHeld.2.2.1
  refine wp_store_row 51 _ _ rfl (w.heap.size + 1 + 1) _ rfl rfl 51 _ hKC (by rw [size4, row4_size]) (by rw [row4_size, row4_size]) (row4_one _) ?_
  have hR := setRow_heap _ _ _ (row4 (andW f (notW g))) _ _ hKC
  have hBl := bl_setRow hHeld.2.2.2 (g := w.heap.size + 1 + 1) (by omega) (row4 (andW f (notW g)))
  refine hK.out _ _ ⟨hHeld.1.row (by omega) _, hHeld.2.1.row (by omega) _, ⟨_, hR⟩, hBl⟩ (fun _ => ?_)
  clear hK K hHeld hKC
  refine wpAnyH_done (by kernel_rfl) ?_ _
  go_wp2
  refine bodyPost_ret (v := .agg (row4 (andW f (notW g)))) (results_cell_row rfl _ _ (w.heap.size + 1 + 1) 51 _ (0, 0) _ rfl hR Tryz.underlying51 rfl (by rw [size4, row4_size])) rfl ⟨rfl, hBl⟩

end Go.Proofs.YtcgfogdfcdndgaaGreatDoor
