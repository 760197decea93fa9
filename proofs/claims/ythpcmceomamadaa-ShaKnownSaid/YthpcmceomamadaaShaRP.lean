/- The document's own Parse. No condition. -/
import Derived.Test.YthpcmceomamadaaShaRW
set_option linter.unusedVariables false
set_option linter.unusedSimpArgs false
namespace Go.Proofs.Ythpcmceomamadaa
open Go.RowKit

def QuietZ (w : World) (z : Int) (e : Ending) (w' : World) : Prop := e = .returned (.int .i64 z) ∧ ∃ n, w' = w.drewN n
theorem refWorth_q (c : UInt8) (w : World) : Calls Try.prog 65 #[.int .u8 (c.toNat : Int)] w (QuietZ w (worthZ c)) :=
  (refWorth_any c w).mono fun _ _ ⟨he, h⟩ => ⟨he, 0, h.symm⟩

set_option maxHeartbeats 4000000 in
set_option maxRecDepth 100000 in
theorem refParse_any (l : List UInt8) (w : World) (hl : l.length ≤ maxLen) : Calls Try.prog 49 #[.string ⟨l.toArray⟩] w (GotP w l) := by
  unfold maxLen at hl
  have hz := zero32
  have hlen := fun ty => len_at l #[9] ty rfl
  have k0 : (w.alloc (.cells tab32 37)).heap[w.heap.size]? = some (.cells tab32 37 (0, 0)) := heap_alloc_new w _
  have K0 := Lib.hid k0
  have KB : Hid (Below w.heap.size w (w.alloc (.cells tab32 37))) := bl_alloc (Below.refl _ _) _
  clear k0
  have i0 : ((w.alloc (.cells tab32 37)).alloc (.cells tab32 37)).heap[w.heap.size]? = some (.cells tab32 37 (0, 0)) := heap_alloc2_old w _ _
  have i1 : Hb ((w.alloc (.cells tab32 37)).alloc (.cells tab32 37)) (w.heap.size + 1) 37 32 (fun j => if j < 0 then byteP l j else 0) := by
    have h : Hb ((w.alloc (.cells tab32 37)).alloc (.cells tab32 37)) (w.heap.size + 1) 37 32 (fun _ => 0) := by
      unfold Hb
      rw [← tab32_row]
      exact heap_alloc2_new w _ _
    exact h.turn (fun j _ => by simp)
  have iB : Below w.heap.size w ((w.alloc (.cells tab32 37)).alloc (.cells tab32 37)) := bl_alloc (bl_alloc (Below.refl _ _) _) _
  have I0 := Lib.hid i0
  have I1 := Lib.hid i1
  have IB := Lib.hid iB
  clear i0 i1 iB
  by_cases h64 : l.length = 64
  · have hb : ((l.length : Int) != 64) = false := by simp [h64]
    have H := Lib.hid h64
    clear h64
    go_enter Try.func49, Try.ntmps49
    go_wp2
    clear hz
    go_loopw [5] (fun i wr => ∃ k : Nat, k ≤ 32 ∧ i = .int .i64 k ∧ Hid (goodK l k) ∧ Hb wr (w.heap.size + 1) 37 32 (fun j => if j < k then byteP l j else 0) ∧ wr.heap[w.heap.size]? = some (.cells tab32 37 (0, 0)) ∧ Below w.heap.size w wr) (fun i _ => 32 - (intOf i).toNat)
    case atStart => exact ⟨0, by omega, rfl, show goodK l 0 from fun j hj => by omega, I1.out, I0.out, IB.out⟩
    case round =>
      clear I0 I1 IB
      obtain ⟨k, hk, rfl, HG, h1, h0, hB⟩ := hrel
      have J1 := Lib.hid h1
      have J0 := Lib.hid h0
      have JB := Lib.hid hB
      clear h1 h0 hB
      by_cases hlt : k < 32
      · obtain ⟨s2, hs2⟩ : ∃ s, 2 * k = s := ⟨_, rfl⟩
        obtain ⟨s3, hs3⟩ : ∃ s, 2 * k + 1 = s := ⟨_, rfl⟩
        have la := letter_at l s2 (by have := H.out; omega) (s2 : Int) rfl
        have lb := letter_at l s3 (by have := H.out; omega) (s3 : Int) rfl
        have lc1 : s2 < 64 := by omega
        have lc2 : s3 < 64 := by omega
        have es2 : IntKind.i64.wrap (2 * (k : Int)) = (s2 : Int) := by rw [IntWalk.i64_in _ (by omega)]; omega
        have es3 : IntKind.i64.wrap ((s2 : Int) + 1) = (s3 : Int) := by rw [IntWalk.i64_in _ (by omega)]; omega
        have ES2 := Lib.hid es2
        have ES3 := Lib.hid es3
        clear es2 es3
        have hp : pairE l k = match worthE (l.getD (2 * k) 0), worthE (l.getD (2 * k + 1) 0) with
          | some a, some b => some (UInt8.ofNat (16 * a + b))
          | _, _ => none := rfl
        rw [hs3, hs2] at hp
        generalize l.getD s2 0 = x at *
        generalize l.getD s3 0 = y at *
        have hbad : pairE l k = none → ¬ goodB l = true := by
          intro hn hg
          rw [goodB_iff] at hg
          have := hg.2 k hlt
          rw [hn] at this
          cases this
        have HBad := Lib.hid hbad
        clear hbad
        have hw1 := fun W => refWorth_q x W
        have hw2 := fun W => refWorth_q y W
        have Q1 := Lib.hid hw1
        have Q2 := Lib.hid hw2
        clear hw1 hw2 hs2 hs3
        have es2 := ES2.out
        have es3 := ES3.out
        go_wp2
        go_quiet ((go_at_call 65; exact Calls.quiet_of (refWorth_q _ _)))
        clear es2 es3 ES2 ES3
        have N0 : Hid ((wr.drewN nq).heap[w.heap.size]? = some (.cells tab32 37 (0, 0))) := J0
        have N1 : Hid (Hb (wr.drewN nq) (w.heap.size + 1) 37 32 (fun j => if j < k then byteP l j else 0)) := J1
        have NB := Lib.hid (bl_drewN JB.out nq)
        clear J0 J1 JB
        generalize wr.drewN nq = wq at *
        cases ea : worthE x with
        | none =>
          rw [ea] at hp
          have HP := Lib.hid hp
          have za : worthZ x = -1 := by unfold worthZ; rw [ea]
          clear hp ea
          go_wp2_with (refine wpList_store_row rfl 37 _ _ rfl w.heap.size _ rfl rfl 37 _ N0.out (by rw [size32]; rfl) rfl tab32_one ?_)
          obtain ⟨q1, q2⟩ := parse_bad (HBad.out HP.out)
          refine bodyPost_ret (v := .tuple #[.agg tab32, .int .i64 4]) (results_cell_row_tmp rfl _ _ w.heap.size _ _ rfl rfl (load32 (setRow_heap _ _ _ _ _ _ N0.out) rfl)) rfl ⟨by rw [q1, q2], ?_⟩
          exact bl_setRow NB.out (Nat.le_refl _) _
        | some a =>
          have za : worthZ x = (a : Int) := by unfold worthZ; rw [ea]
          have ha := worth_lt ea
          cases eb : worthE y with
          | none =>
            rw [ea, eb] at hp
            have HP := Lib.hid hp
            have zb : worthZ y = -1 := by unfold worthZ; rw [eb]
            clear hp ea eb
            go_wp2_with (refine wpList_store_row rfl 37 _ _ rfl w.heap.size _ rfl rfl 37 _ N0.out (by rw [size32]; rfl) rfl tab32_one ?_)
            obtain ⟨q1, q2⟩ := parse_bad (HBad.out HP.out)
            refine bodyPost_ret (v := .tuple #[.agg tab32, .int .i64 4]) (results_cell_row_tmp rfl _ _ w.heap.size _ _ rfl rfl (load32 (setRow_heap _ _ _ _ _ _ N0.out) rfl)) rfl ⟨by rw [q1, q2], ?_⟩
            exact bl_setRow NB.out (Nat.le_refl _) _
          | some b =>
            rw [ea, eb] at hp
            have HP := Lib.hid hp
            have hb2 := worth_lt eb
            have zb : worthZ y = (b : Int) := by unfold worthZ; rw [eb]
            have ck := N1.out.cell hlt
            have fk := N1.out.free k
            obtain ⟨z, hz⟩ : ∃ z, 16 * a + b = z := ⟨_, rfl⟩
            have hz256 : z < 256 := by omega
            have ez : 16 * (a : Int) + (b : Int) = (z : Int) := by omega
            have ez2 : (z : Int) % 256 = (z : Int) := by omega
            have HZ := Lib.hid hz
            clear hp hz ea eb
            go_wp2
            have hpk : pairE l k = some (UInt8.ofNat z) := by rw [← HZ.out]; exact HP.out
            have hbk : byteP l k = UInt8.ofNat z := by unfold byteP; rw [hpk]; rfl
            have hv : Value.int .u8 (z : Int) = bv (byteP l k) := by
              rw [hbk]
              unfold bv
              rw [UInt8.toNat_ofNat', Nat.mod_eq_of_lt (by have := HZ.out; omega)]
            refine ⟨⟨k + 1, by omega, by go_num, ?_, N1.out.set k _ _ hv (fun j _ => upd_ltB (byteP l) k j), ?_, NB.out.setCell (p := ⟨w.heap.size + 1, k, none⟩) (by simp) _⟩, by simp [intOf]; omega⟩
            · show goodK l (k + 1)
              intro j hj
              by_cases e : j = k
              · subst e
                rw [hpk]
                rfl
              · exact HG.out j (by omega)
            · rw [Below.heap_setCell _ _ _ _ (by simp)]; exact N0.out
      · obtain rfl : k = 32 := by omega
        have h32 := J1.out.turn (f' := byteP l) (fun j hj => if_pos hj)
        have J2 := Lib.hid h32
        clear J1 h32
        go_wp2_with (first
          | (refine wpList_load_row rfl 37 _ rfl (w.heap.size + 1) rfl 37 _ (0, 0) _ J2.out Try.underlying37 rfl (by rw [size32, rowB_size]) ?_)
          | (refine wpList_store_row rfl 37 _ _ rfl w.heap.size _ rfl rfl 37 _ J0.out (by rw [size32, rowB_size]) (by rw [rowB_size]; rfl) (rowB_one _ _) ?_))
        obtain ⟨q1, q2⟩ := parse_good ((goodB_iff l).2 ⟨H.out, HG.out⟩)
        refine bodyPost_ret (v := .tuple #[.agg (rowB 32 (byteP l)), .int .i64 0]) (results_cell_row_tmp rfl _ _ w.heap.size _ _ rfl rfl (load32 (setRow_heap _ _ _ _ _ _ J0.out) (by rw [rowB_size]))) rfl ⟨by rw [q1, q2], ?_⟩
        exact bl_setRow JB.out (Nat.le_refl _) _
  · have hb : ((l.length : Int) != 64) = true := by simp; omega
    have hbad : ¬ goodB l = true := by
      rw [goodB_iff]
      exact fun h => h64 h.1
    have HBad := Lib.hid hbad
    clear h64 hbad
    go_enter Try.func49, Try.ntmps49
    go_wp2_with (refine wpList_store_row rfl 37 _ _ rfl w.heap.size _ rfl rfl 37 _ K0.out (by rw [size32]; rfl) rfl tab32_one ?_)
    obtain ⟨q1, q2⟩ := parse_bad HBad.out
    refine bodyPost_ret (v := .tuple #[.agg tab32, .int .i64 4]) (results_cell_row_tmp rfl _ _ w.heap.size _ _ rfl rfl (load32 (setRow_heap _ _ _ _ _ _ K0.out) rfl)) rfl ⟨by rw [q1, q2], ?_⟩
    exact bl_setRow KB.out (Nat.le_refl _) _


end Go.Proofs.Ythpcmceomamadaa
