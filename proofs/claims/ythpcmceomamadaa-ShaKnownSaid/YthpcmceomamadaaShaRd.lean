/- The document's rounds. No condition but that 64 words and 64 words can be read. -/
import Derived.Test.YthpcmceomamadaaShaWs
import Derived.Deep.DeepCutAuto
import Derived.Great.BuildSlice
set_option linter.unusedVariables false
set_option linter.unusedSimpArgs false
namespace Go.Proofs.Ythpcmceomamadaa
open Go.RowKit

theorem built8 (a b c d e f g h : BitVec 32) : Try.prog.built 31 [(0, .int .u32 (a.toNat : Int)), (1, .int .u32 (b.toNat : Int)), (2, .int .u32 (c.toNat : Int)), (3, .int .u32 (d.toNat : Int)), (4, .int .u32 (e.toNat : Int)), (5, .int .u32 (f.toNat : Int)), (6, .int .u32 (g.toNat : Int)), (7, .int .u32 (h.toNat : Int))]
    = some (rowF 8 (S8.mk a b c d e f g h).get) := by
  kernel_rfl

set_option maxHeartbeats 2000000 in
set_option maxRecDepth 100000 in
theorem rounds_any (hh : S8) (gw cw gk ck : Nat) (fw fk : Nat → BitVec 32) (w : World) (hw : RdW w gw 64 fw) (hk : RdW w gk 64 fk) :
    Calls Try.prog 37 #[.agg (rowF 8 hh.get), .slice (some ⟨gw, 0, none⟩) 64 cw, .slice (some ⟨gk, 0, none⟩) 64 ck] w (GotF w 8 (fun j => hh.get j + (goF fk fw hh 64).get j)) := by
  have hz := zero8
  have HW := Lib.hid hw
  have HK := Lib.hid hk
  clear hw hk
  have i0 : Hw ((w.alloc (.cells (rowF 8 hh.get) 31)).alloc (.cells tab8 31)) w.heap.size 31 8 hh.get := (Hw.new rfl).alloc _
  have i1 : Hw ((w.alloc (.cells (rowF 8 hh.get) 31)).alloc (.cells tab8 31)) (w.heap.size + 1) 31 8 (fun _ => 0) := Hw.new2 _ tab8_row
  have j0 : Hw (((w.alloc (.cells (rowF 8 hh.get) 31)).alloc (.cells tab8 31)).alloc (.cells tab8 31)) w.heap.size 31 8 hh.get := i0.alloc _
  have j1 : Hw (((w.alloc (.cells (rowF 8 hh.get) 31)).alloc (.cells tab8 31)).alloc (.cells tab8 31)) (w.heap.size + 1) 31 8 (fun _ => 0) := i1.alloc _
  have j2 : Hw (((w.alloc (.cells (rowF 8 hh.get) 31)).alloc (.cells tab8 31)).alloc (.cells tab8 31)) (w.heap.size + 2) 31 8 (fun _ => 0) := by
    have e := Hw.new (w := (w.alloc (.cells (rowF 8 hh.get) 31)).alloc (.cells tab8 31)) (t := 31) tab8_row
    have e2 : ((w.alloc (.cells (rowF 8 hh.get) 31)).alloc (.cells tab8 31)).heap.size = w.heap.size + 2 := by simp
    rw [e2] at e
    exact e
  have jB : Below w.heap.size w (((w.alloc (.cells (rowF 8 hh.get) 31)).alloc (.cells tab8 31)).alloc (.cells tab8 31)) := bl_alloc (bl_alloc (bl_alloc (Below.refl _ _) _) _) _
  have I0 := Lib.hid i0
  have J0 := Lib.hid j0
  have J1 := Lib.hid j1
  have J2 := Lib.hid j2
  have JB := Lib.hid jB
  clear i0 i1 j0 j1 j2 jB
  go_enter Try.func37, Try.ntmps37
  go_wp2_with (first
    | (refine wpList_load_row rfl 31 _ rfl w.heap.size rfl 31 _ (0, 0) _ I0.out Try.underlying31 rfl (by rw [size8, rowF_size]) ?_)
    | (refine wpList_store_row rfl 31 _ _ rfl (w.heap.size + 2) _ rfl rfl 31 _ J2.out (by rw [size8, rowF_size]) (by rw [rowF_size, rowF_size]) (rowF_one _ _) ?_))
  have k2 := setRow_heap _ _ _ (rowF 8 hh.get) _ _ J2.out
  have k0 := (setRow_other (((w.alloc (.cells (rowF 8 hh.get) 31)).alloc (.cells tab8 31)).alloc (.cells tab8 31)) (w.heap.size + 2) w.heap.size (rowF 8 hh.get) (by omega)).trans J0.out
  have k1 := (setRow_other (((w.alloc (.cells (rowF 8 hh.get) 31)).alloc (.cells tab8 31)).alloc (.cells tab8 31)) (w.heap.size + 2) (w.heap.size + 1) (rowF 8 hh.get) (by omega)).trans J1.out
  have kB : Below w.heap.size w ((((w.alloc (.cells (rowF 8 hh.get) 31)).alloc (.cells tab8 31)).alloc (.cells tab8 31)).setRow (w.heap.size + 2) (rowF 8 hh.get)) := bl_setRow JB.out (by omega) _
  clear I0 J0 J1 J2 JB hz
  generalize (((w.alloc (.cells (rowF 8 hh.get) 31)).alloc (.cells tab8 31)).alloc (.cells tab8 31)).setRow (w.heap.size + 2) (rowF 8 hh.get) = W0 at *
  have K0 := Lib.hid k0
  have K1 := Lib.hid k1
  have K2 := Lib.hid k2
  have KB := Lib.hid kB
  clear k0 k1 k2 kB
  go_loopw [8] (fun i wr => ∃ (k : Nat) (s : S8), k ≤ 64 ∧ i = .int .i64 k ∧ Hid (goF fk fw hh k = s) ∧ Hw wr w.heap.size 31 8 hh.get ∧ Hw wr (w.heap.size + 1) 31 8 (fun _ => 0) ∧ Hw wr (w.heap.size + 2) 31 8 s.get ∧ Below w.heap.size w wr) (fun i _ => 64 - (intOf i).toNat)
  case atStart => exact ⟨0, hh, by omega, rfl, rfl, K0.out, K1.out, K2.out, KB.out⟩
  case round =>
    clear K0 K1 K2 KB
    obtain ⟨k, s, hk, rfl, HS, h0, h1, h2, hB⟩ := hrel
    by_cases hlt : k < 64
    · have M0 := Lib.hid h0
      have M1 := Lib.hid h1
      have M2 := Lib.hid h2
      have MB := Lib.hid hB
      obtain ⟨c0, c1, c2, c3, c4, c5, c6, c7⟩ := h2.at0
      clear h0 h1 h2 hB
      have q0 := sb0_of s.a
      have q1 := sb1_of s.e
      have q2 := ch_of s.e s.f s.g
      have q3 := mj_of s.a s.b s.c
      go_wp2
      go_quiet ((go_at_call 57; exact Calls.quiet_of (refTurn_z _ _ _ (by decide) (by decide))))
      have N0 := Lib.hid (M0.out.drewN nq)
      have N1 := Lib.hid (M1.out.drewN nq)
      have N2 := Lib.hid (M2.out.drewN nq)
      have NB := Lib.hid (bl_drewN MB.out nq)
      clear M0 M1 M2 MB c0 c1 c2 c3 c4 c5 c6 c7
      generalize wr.drewN nq = wa at *
      obtain ⟨c0, c1, c2, c3, c4, c5, c6, c7⟩ := N2.out.at0
      have M0 := N0
      have M1 := N1
      have M2 := N2
      have MB := NB
      clear N0 N1 N2 NB
      have kc := (HK.out.below MB.out).2 k hlt
      have wc := (HW.out.below MB.out).2 k hlt
      go_wp2
      go_quiet (fail)
      clear kc wc q1 q2
      rw [one_of2, tOne_is]
      obtain ⟨x, hx⟩ : ∃ x, tOne (fk k) (fw k) s = x := ⟨_, rfl⟩
      have HX := Lib.hid hx
      rw [hx]
      clear hx
      have N0 := Lib.hid (M0.out.drewN nq)
      have N1 := Lib.hid (M1.out.drewN nq)
      have N2 := Lib.hid (M2.out.drewN nq)
      have NB := Lib.hid (bl_drewN MB.out nq)
      clear M0 M1 M2 MB c0 c1 c2 c3 c4 c5 c6 c7
      generalize wa.drewN nq = wb at *
      obtain ⟨c0, c1, c2, c3, c4, c5, c6, c7⟩ := N2.out.at0
      have M0 := N0
      have M1 := N1
      have M2 := N2
      have MB := NB
      clear N0 N1 N2 NB
      go_wp2
      go_quiet ((go_at_call 57; exact Calls.quiet_of (refTurn_z _ _ _ (by decide) (by decide))))
      have N0 := Lib.hid (M0.out.drewN nq)
      have N1 := Lib.hid (M1.out.drewN nq)
      have N2 := Lib.hid (M2.out.drewN nq)
      have NB := Lib.hid (bl_drewN MB.out nq)
      clear M0 M1 M2 MB c0 c1 c2 c3 c4 c5 c6 c7
      generalize wb.drewN nq = wd at *
      obtain ⟨c0, c1, c2, c3, c4, c5, c6, c7⟩ := N2.out.at0
      have M0 := N0
      have M1 := N1
      have M2 := N2
      have MB := NB
      clear N0 N1 N2 NB
      clear q0 q3
      have q3 := mj_of s.a s.b s.c
      go_upto_region 9 with fail
      obtain ⟨y, hy⟩ : ∃ y, tTwo s = y := ⟨_, rfl⟩
      obtain ⟨v, hv⟩ : ∃ v, x + y = v := ⟨_, rfl⟩
      obtain ⟨u, hu⟩ : ∃ u, s.d + x = u := ⟨_, rfl⟩
      have e0 : ((sb0 s.a).toNat + (mj3 s.a s.b s.c).toNat : Int) % 4294967296 = (y.toNat : Int) := by rw [← hy]; unfold tTwo; rw [add32]
      rw [e0]
      clear e0 q3
      have e1 : IntKind.u32.wrap ((x.toNat : Int) + (y.toNat : Int)) = (v.toNat : Int) := by rw [← hv, wrap_add]
      have e2 : IntKind.u32.wrap ((s.d.toNat : Int) + (x.toNat : Int)) = (u.toNat : Int) := by rw [← hu, wrap_add]
      have E1 := Lib.hid e1
      have E2 := Lib.hid e2
      clear e1 e2
      have hst : stepE (fk k) (fw k) s = S8.mk v s.a s.b s.c u s.e s.f s.g := by unfold stepE; rw [HX.out, hy, hv, hu]
      have HST := Lib.hid hst
      clear hy hv hu hst
      refine wp_region_lit ?_
      refine wpList_step (fun K hK => ?_)
      go_simp
      refine hK _ _ ?_
      clear hK K
      refine wpList_step (fun K hK => ?_)
      go_simp
      refine hK _ _ ?_
      clear hK K
      refine wpList_step (fun K hK => ?_)
      go_simp
      refine hK _ _ ?_
      clear hK K
      refine wpList_step (fun K hK => ?_)
      go_simp
      refine hK _ _ ?_
      clear hK K
      refine wpList_step (fun K hK => ?_)
      go_simp
      refine hK _ _ ?_
      clear hK K
      refine wpList_step (fun K hK => ?_)
      go_simp
      refine hK _ _ ?_
      clear hK K
      refine wpList_step (fun K hK => ?_)
      go_simp
      refine hK _ _ ?_
      clear hK K
      refine wpList_step (fun K hK => ?_)
      go_simp
      refine hK _ _ ?_
      clear hK K
      refine wpList_step (fun K hK => ?_)
      go_simp
      refine hK _ _ ?_
      clear hK K
      refine wpList_step (fun K hK => ?_)
      go_simp
      refine hK _ _ ?_
      clear hK K
      refine wpList_step (fun K hK => ?_)
      go_simp
      refine hK _ _ ?_
      clear hK K
      refine wpList_step (fun K hK => ?_)
      go_simp
      refine hK _ _ ?_
      clear hK K
      refine wpList_step (fun K hK => ?_)
      go_simp
      refine hK _ _ ?_
      clear hK K
      refine wpList_step (fun K hK => ?_)
      go_simp
      refine hK _ _ ?_
      clear hK K
      refine wpList_step (fun K hK => ?_)
      go_simp
      refine hK _ _ ?_
      clear hK K
      refine wpList_step (fun K hK => ?_)
      go_simp
      refine hK _ _ ?_
      clear hK K
      refine wpList_step (fun K hK => ?_)
      go_simp
      refine hK _ _ ?_
      clear hK K
      refine wpList_step (fun K hK => ?_)
      go_simp
      refine hK _ _ ?_
      clear hK K
      refine wpList_step (fun K hK => ?_)
      go_simp
      refine hK _ _ ?_
      clear hK K
      clear c0 c1 c2 c3 c4 c5 c6 c7
      refine wpList_buildTo rfl 31 _ rfl (some 106) rfl (rowF 8 (S8.mk v s.a s.b s.c u s.e s.f s.g).get) ?hf ?_
      case hf =>
        simp only [List.map_toArray, List.map_cons, List.map_nil]
        simp [Act.eval]
        rw [E1.out, E2.out]
        exact built8 v s.a s.b s.c u s.e s.f s.g
      refine wpList_store_row rfl 31 _ _ rfl (w.heap.size + 2) _ rfl rfl 31 _ M2.out (by rw [size8, rowF_size]) (by rw [rowF_size, rowF_size]) (rowF_one _ _) ?_
      rw [← HST.out]
      have n2 := setRow_heap _ _ _ (rowF 8 (stepE (fk k) (fw k) s).get) _ _ M2.out
      have n0 := (setRow_other wd (w.heap.size + 2) w.heap.size (rowF 8 (stepE (fk k) (fw k) s).get) (by omega)).trans M0.out
      have n1 := (setRow_other wd (w.heap.size + 2) (w.heap.size + 1) (rowF 8 (stepE (fk k) (fw k) s).get) (by omega)).trans M1.out
      have nB : Below w.heap.size w (wd.setRow (w.heap.size + 2) (rowF 8 (stepE (fk k) (fw k) s).get)) := bl_setRow MB.out (by omega) _
      generalize wd.setRow (w.heap.size + 2) (rowF 8 (stepE (fk k) (fw k) s).get) = we at *
      have hgo : goF fk fw hh (k + 1) = stepE (fk k) (fw k) s := by rw [goF, HS.out]
      have HGO := Lib.hid hgo
      have N0 := Lib.hid n0
      have N1 := Lib.hid n1
      have N2 := Lib.hid n2
      have NB := Lib.hid nB
      clear n0 n1 n2 nB hgo M0 M1 M2 MB HST HX HS
      generalize stepE (fk k) (fw k) s = s' at *
      go_wp2_with fail
      exact ⟨⟨k + 1, s', by omega, by go_num, HGO, N0.out, N1.out, N2.out, NB.out⟩, by simp [intOf]; omega⟩
    · obtain rfl : k = 64 := by omega
      have h0' : Hw wr w.heap.size 31 8 (fun j => if j < 0 then hh.get j + s.get j else hh.get j) := h0
      have M0 := Lib.hid h0'
      have M1 := Lib.hid h1
      have M2 := Lib.hid h2
      have MB := Lib.hid hB
      clear h0 h0' h1 h2 hB
      go_wp2
      go_loopw [13] (fun i wr => ∃ q : Nat, q ≤ 8 ∧ i = .int .i64 (q : Int) ∧ Hid (Hw wr w.heap.size 31 8 (fun j => if j < q then hh.get j + s.get j else hh.get j)) ∧ Hid (Hw wr (w.heap.size + 1) 31 8 (fun _ => 0)) ∧ Hid (Hw wr (w.heap.size + 2) 31 8 s.get) ∧ Hid (Below w.heap.size w wr)) (fun i _ => 8 - (intOf i).toNat)
      case atStart => exact ⟨0, by omega, rfl, M0, M1, M2, MB⟩
      case round =>
        clear M0 M1 M2 MB
        obtain ⟨q, hq, rfl, M0, M1, M2, MB⟩ := hrel
        by_cases hlt : q < 8
        · have c0 := M0.out.cell hlt
          rw [if_neg (Nat.lt_irrefl q)] at c0
          have c2 := M2.out.cell hlt
          have f0 := M0.out.free q
          obtain ⟨x, hx⟩ : ∃ x, hh.get q = x := ⟨_, rfl⟩
          obtain ⟨y, hy⟩ : ∃ y, s.get q = y := ⟨_, rfl⟩
          rw [hx] at c0
          rw [hy] at c2
          obtain ⟨z, hz⟩ : ∃ z, x + y = z := ⟨_, rfl⟩
          have e1 : IntKind.u32.wrap ((x.toNat : Int) + (y.toNat : Int)) = (z.toNat : Int) := by rw [← hz, wrap_add]
          have e2 : ((x.toNat : Int) + (y.toNat : Int)) % 4294967296 = (z.toNat : Int) := by rw [← hz, add32]
          have HZ := Lib.hid hz
          clear hz
          have HX := Lib.hid hx
          have HY := Lib.hid hy
          clear hx hy
          go_wp2
          go_region
          all_goals
            go_wp2
            clear e1 e2
            refine ⟨⟨q + 1, by omega, by go_num, ?_, Lib.hid ((M1.out.other (by simp) _).drewN 1), Lib.hid ((M2.out.other (by simp) _).drewN 1), Lib.hid (bl_drewN (MB.out.setCell (p := ⟨w.heap.size, q, none⟩) (by simp) _) 1)⟩, by simp [intOf]; omega⟩
            refine Lib.hid (M0.out.set q z (fun j _ => ?_))
            by_cases e : j = q
            · subst e
              rw [if_pos (by omega), if_pos rfl, HX.out, HY.out, HZ.out]
            · rw [if_neg e]
              by_cases e2 : j < q
              · rw [if_pos (by omega), if_pos e2]
              · rw [if_neg (by omega), if_neg e2]
        · obtain rfl : q = 8 := by omega
          have e8 : rowF 8 (fun j => if j < 8 then hh.get j + s.get j else hh.get j) = rowF 8 (fun j => hh.get j + (goF fk fw hh 64).get j) := rowF_congr 8 (fun j hj => by rw [if_pos hj, HS.out])
          have m0 := M0.out
          unfold Hw at m0
          rw [e8] at m0
          have N0 := Lib.hid m0
          clear m0 e8 M0 HS
          go_wp2_with (first
            | (refine wpList_load_row rfl 31 _ rfl w.heap.size rfl 31 _ (0, 0) _ N0.out Try.underlying31 rfl (by rw [size8, rowF_size]) ?_)
            | (refine wpList_store_row rfl 31 _ _ rfl (w.heap.size + 1) _ rfl rfl 31 _ M1.out (by rw [size8, rowF_size]) (by rw [rowF_size, rowF_size]) (rowF_one _ _) ?_))
          refine bodyPost_ret (v := .agg (rowF 8 (fun j => hh.get j + (goF fk fw hh 64).get j))) (results_cell_row rfl _ _ (w.heap.size + 1) 31 _ (0, 0) _ rfl (setRow_heap _ _ _ _ _ _ M1.out) Try.underlying31 rfl (by rw [size8, rowF_size])) rfl ⟨rfl, ?_⟩
          exact bl_setRow MB.out (by omega) _

end Go.Proofs.Ythpcmceomamadaa
