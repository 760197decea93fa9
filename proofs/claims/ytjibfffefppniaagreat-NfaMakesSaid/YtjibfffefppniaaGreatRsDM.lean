/- The document's edges of a node. -/
import Derived.Test.YtjibfffefppniaaGreatRsCM
set_option linter.unusedVariables false
set_option linter.unusedSimpArgs false
namespace Go.Proofs.YtjibfffefppniaaGreat
open Go.RowKit
attribute [local go_sem] Oper.semAt_some

set_option maxRecDepth 100000 in
set_option maxHeartbeats 16000000 in
theorem redges_any (x : RN) (S i : Nat) (hS : S ≤ 100000) (hi : i ≤ 100000) (hxa : -100000 ≤ x.a ∧ x.a ≤ 100000) (hxb : -100000 ≤ x.b ∧ x.b ≤ 100000) (hk : x.kind = 1 ∨ x.kind = 2 ∨ x.kind = 3 ∨ x.kind = 4 ∨ x.kind = 5 ∨ x.kind = 6) (W : World) :
    Calls Tryz.prog 22 #[aggR x, .int .i64 (S : Int), .int .i64 (i : Int)] W (GotEs W (edgesE x (partE (S : Int) (i : Int)) (partE (S : Int) x.a) (partE (S : Int) x.b))) := by
  obtain ⟨kd, xa, xb, z0, z1, z2, z3⟩ := x
  dsimp only at hxa hxb hk
  obtain ⟨ni, hni⟩ : ∃ v : Int, (S : Int) + 2 * (i : Int) = v := ⟨_, rfl⟩
  obtain ⟨no, hno⟩ : ∃ v : Int, ni + 1 = v := ⟨_, rfl⟩
  obtain ⟨ai, hai⟩ : ∃ v : Int, (S : Int) + 2 * xa = v := ⟨_, rfl⟩
  obtain ⟨ao, hao⟩ : ∃ v : Int, ai + 1 = v := ⟨_, rfl⟩
  obtain ⟨bi, hbi⟩ : ∃ v : Int, (S : Int) + 2 * xb = v := ⟨_, rfl⟩
  obtain ⟨bo, hbo⟩ : ∃ v : Int, bi + 1 = v := ⟨_, rfl⟩
  have hP : (edgesE ⟨kd, xa, xb, ⟨z0, z1, z2, z3⟩⟩ (partE (S : Int) (i : Int)) (partE (S : Int) xa) (partE (S : Int) xb)) = edgesE ⟨kd, xa, xb, ⟨z0, z1, z2, z3⟩⟩ ⟨ni, no⟩ ⟨ai, ao⟩ ⟨bi, bo⟩ := by
    subst hno hao hbo hni hai hbi
    rfl
  dsimp only
  rw [hP]
  generalize hQ : GotEs W (edgesE ⟨kd, xa, xb, ⟨z0, z1, z2, z3⟩⟩ ⟨ni, no⟩ ⟨ai, ao⟩ ⟨bi, bo⟩) = Q
  have HQ := Lib.hid hQ
  have w1 : IntKind.i64.wrap (2 * (i : Int)) = 2 * (i : Int) := IntWalk.i64_in _ (by omega)
  have w2 : IntKind.i64.wrap ((S : Int) + 2 * (i : Int)) = ni := by rw [IntWalk.i64_in _ (by omega)]; exact hni
  have w3 : IntKind.i64.wrap (ni + 1) = no := by rw [IntWalk.i64_in _ (by omega)]; exact hno
  have w4 : IntKind.i64.wrap (2 * xa) = 2 * xa := IntWalk.i64_in _ (by omega)
  have w5 : IntKind.i64.wrap ((S : Int) + 2 * xa) = ai := by rw [IntWalk.i64_in _ (by omega)]; exact hai
  have w6 : IntKind.i64.wrap (ai + 1) = ao := by rw [IntWalk.i64_in _ (by omega)]; exact hao
  have w7 : IntKind.i64.wrap (2 * xb) = 2 * xb := IntWalk.i64_in _ (by omega)
  have w8 : IntKind.i64.wrap ((S : Int) + 2 * xb) = bi := by rw [IntWalk.i64_in _ (by omega)]; exact hbi
  have w9 : IntKind.i64.wrap (bi + 1) = bo := by rw [IntWalk.i64_in _ (by omega)]; exact hbo
  clear hQ hP hni hno hai hao hbi hbo hxa hxb hS hi
  show Calls Tryz.prog 22 #[.agg #[.int .i64 kd, .int .u64 (z0.toNat : Int), .int .u64 (z1.toNat : Int), .int .u64 (z2.toNat : Int), .int .u64 (z3.toNat : Int), .int .i64 xa, .int .i64 xb], .int .i64 (S : Int), .int .i64 (i : Int)] W Q
  have k0 := heap_alloc_new W (.cells #[.int .i64 kd, .int .u64 (z0.toNat : Int), .int .u64 (z1.toNat : Int), .int .u64 (z2.toNat : Int), .int .u64 (z3.toNat : Int), .int .i64 xa, .int .i64 xb] 54)
  have B0 := Lib.hid (bl_alloc (Below.refl W.heap.size W) (.cells #[.int .i64 kd, .int .u64 (z0.toNat : Int), .int .u64 (z1.toNat : Int), .int .u64 (z2.toNat : Int), .int .u64 (z3.toNat : Int), .int .i64 xa, .int .i64 xb] 54))
  go_enter Tryz.func22, Tryz.ntmps22
  go_upto_region 1 with fail
  generalize W.alloc (.cells #[.int .i64 kd, .int .u64 (z0.toNat : Int), .int .u64 (z1.toNat : Int), .int .u64 (z2.toNat : Int), .int .u64 (z3.toNat : Int), .int .i64 xa, .int .i64 xb] 54) = w0 at *
  generalize hg : W.heap.size = g at *
  have HG := Lib.hid hg
  clear hg
  have e0 := cell_of_row w0 g 0 _ _ _ k0
  have e1 := cell_of_row w0 g 1 _ _ _ k0
  have e2 := cell_of_row w0 g 2 _ _ _ k0
  have e3 := cell_of_row w0 g 3 _ _ _ k0
  have e4 := cell_of_row w0 g 4 _ _ _ k0
  have e5 := cell_of_row w0 g 5 _ _ _ k0
  have e6 := cell_of_row w0 g 6 _ _ _ k0
  simp only [List.getElem?_toArray, List.getElem?_cons_succ, List.getElem?_cons_zero] at e0 e1 e2 e3 e4 e5 e6
  have K0 := Lib.hid k0
  clear k0
  go_upto_region 2 with fail
  go_quiet (fail)
  have BD := Lib.hid (show Below g W (w0.drewN nq) from bl_drewN' B0.out nq)
  have KD := Lib.hid (show (w0.drewN nq).heap[g]? = some (.cells #[.int .i64 kd, .int .u64 (z0.toNat : Int), .int .u64 (z1.toNat : Int), .int .u64 (z2.toNat : Int), .int .u64 (z3.toNat : Int), .int .i64 xa, .int .i64 xb] 54 (0, 0)) from K0.out)
  clear e0 e1 e2 e3 e4 e5 e6 K0 B0
  generalize w0.drewN nq = wd at *
  have e0 := cell_of_row wd g 0 _ _ _ KD.out
  have e1 := cell_of_row wd g 1 _ _ _ KD.out
  have e2 := cell_of_row wd g 2 _ _ _ KD.out
  have e3 := cell_of_row wd g 3 _ _ _ KD.out
  have e4 := cell_of_row wd g 4 _ _ _ KD.out
  simp only [List.getElem?_toArray, List.getElem?_cons_succ, List.getElem?_cons_zero] at e0 e1 e2 e3 e4
  have bu := built_free
  have bv := built_edge ni no z0.toNat z1.toNat z2.toNat z3.toNat
  have HBZ := Lib.hid (fun (o : Obj) => (show Below g W (wd.alloc o) from by have h := BD.out; rw [← HG.out] at h ⊢; exact bl_alloc h o))
  rcases hk with h | h | h | h | h | h
  · have h : kd = 1 := h
    subst h
    have HE := Lib.hid (show edgesE ⟨1, xa, xb, ⟨z0, z1, z2, z3⟩⟩ ⟨ni, no⟩ ⟨ai, ao⟩ ⟨bi, bo⟩ = [freeE ni no] from by simp [edgesE])
    go_wp2_with fail
    refine post_is HQ ⟨_, _, rfl, by rw [HE.out]; rfl, ?_, by rw [HG.out]; exact HBZ.out _⟩
    rw [HE.out]
    exact rde_row (heap_alloc_new _ _) rfl
  · have h : kd = 2 := h
    subst h
    have HE := Lib.hid (show edgesE ⟨2, xa, xb, ⟨z0, z1, z2, z3⟩⟩ ⟨ni, no⟩ ⟨ai, ao⟩ ⟨bi, bo⟩ = [⟨ni, no, ⟨z0, z1, z2, z3⟩, false⟩] from by simp [edgesE])
    go_wp2_with fail
    refine post_is HQ ⟨_, _, rfl, by rw [HE.out]; rfl, ?_, by rw [HG.out]; exact HBZ.out _⟩
    rw [HE.out]
    exact rde_row (heap_alloc_new _ _) rfl
  · have h : kd = 3 := h
    subst h
    have HE := Lib.hid (show edgesE ⟨3, xa, xb, ⟨z0, z1, z2, z3⟩⟩ ⟨ni, no⟩ ⟨ai, ao⟩ ⟨bi, bo⟩ = [freeE ni ai, freeE ao bi, freeE bo no] from by simp [edgesE])
    go_wp2_with fail
    refine post_is HQ ⟨_, _, rfl, by rw [HE.out]; rfl, ?_, by rw [HG.out]; exact HBZ.out _⟩
    rw [HE.out]
    exact rde_row (heap_alloc_new _ _) rfl
  · have h : kd = 4 := h
    subst h
    have HE := Lib.hid (show edgesE ⟨4, xa, xb, ⟨z0, z1, z2, z3⟩⟩ ⟨ni, no⟩ ⟨ai, ao⟩ ⟨bi, bo⟩ = [freeE ni ai, freeE ni bi, freeE ao no, freeE bo no] from by simp [edgesE])
    go_wp2_with fail
    refine post_is HQ ⟨_, _, rfl, by rw [HE.out]; rfl, ?_, by rw [HG.out]; exact HBZ.out _⟩
    rw [HE.out]
    exact rde_row (heap_alloc_new _ _) rfl
  · have h : kd = 5 := h
    subst h
    have HE := Lib.hid (show edgesE ⟨5, xa, xb, ⟨z0, z1, z2, z3⟩⟩ ⟨ni, no⟩ ⟨ai, ao⟩ ⟨bi, bo⟩ = [freeE ni no, freeE ni ai, freeE ao ai, freeE ao no] from by simp [edgesE])
    go_wp2_with fail
    refine post_is HQ ⟨_, _, rfl, by rw [HE.out]; rfl, ?_, by rw [HG.out]; exact HBZ.out _⟩
    rw [HE.out]
    exact rde_row (heap_alloc_new _ _) rfl
  · have h : kd = 6 := h
    subst h
    have HE := Lib.hid (show edgesE ⟨6, xa, xb, ⟨z0, z1, z2, z3⟩⟩ ⟨ni, no⟩ ⟨ai, ao⟩ ⟨bi, bo⟩ = [freeE ni ai, freeE ao ai, freeE ao no] from by simp [edgesE])
    go_wp2_with fail
    refine post_is HQ ⟨_, _, rfl, by rw [HE.out]; rfl, ?_, by rw [HG.out]; exact HBZ.out _⟩
    rw [HE.out]
    exact rde_row (heap_alloc_new _ _) rfl

end Go.Proofs.YtjibfffefppniaaGreat
