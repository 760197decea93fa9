/- Two nets that read the same, compared; states as marks; the document's Close and Step. -/
import Derived.Test.YtjibfffefppniaaGreatRsAM
set_option linter.unusedVariables false
set_option linter.unusedSimpArgs false
namespace Go.Proofs.YtjibfffefppniaaGreat
open Go.RowKit
attribute [local go_sem] Oper.semAt_some

attribute [-go_sem] run_equalIn_agg
set_option maxRecDepth 100000 in
set_option maxHeartbeats 8000000 in
theorem rsame_any (S : Int) (E : List Ed) (X : List Int) (Ae Ax Be Bx : Option Addr) (ne ce nx cx de dx : Nat) (hne : E.length = ne) (hnx : X.length = nx) (hm1 : ne ≤ 140737488355328) (hm2 : nx ≤ 140737488355328) (W : World) (hr : RdE W Ae E) (hx : RdW W Ax X) (hr' : RdE W Be E) (hx' : RdW W Bx X) :
    Calls Tryz.prog 7 #[.agg #[.int .i64 S, .slice Ae ne ce, .slice Ax nx cx], .agg #[.int .i64 S, .slice Be ne de, .slice Bx nx dx]] W (GotBl W true) := by
  generalize hQ : GotBl W true = Q
  have HQ := Lib.hid hQ
  have b0 := bl_alloc (Below.refl W.heap.size W) (.cells #[.int .i64 S, .slice Ae ne ce, .slice Ax nx cx] 29)
  have k0 := heap_alloc_new W (.cells #[.int .i64 S, .slice Ae ne ce, .slice Ax nx cx] 29)
  have b1 := bl_alloc b0 (.cells #[.int .i64 S, .slice Be ne de, .slice Bx nx dx] 29)
  have k1 := heap_alloc_new (W.alloc (.cells #[.int .i64 S, .slice Ae ne ce, .slice Ax nx cx] 29)) (.cells #[.int .i64 S, .slice Be ne de, .slice Bx nx dx] 29)
  rw [World.size_alloc] at k1
  have k0' := (Below.heap_alloc (W.alloc (.cells #[.int .i64 S, .slice Ae ne ce, .slice Ax nx cx] 29)) (.cells #[.int .i64 S, .slice Be ne de, .slice Bx nx dx] 29) W.heap.size (by simp)).trans k0
  have HE := Lib.hid (hr.below b1)
  have HX := Lib.hid (hx.below b1)
  have HE' := Lib.hid (hr'.below b1)
  have HX' := Lib.hid (hx'.below b1)
  have HNE := Lib.hid hne
  have HNX := Lib.hid hnx
  have B1 := Lib.hid b1
  have K0 := Lib.hid k0'
  have K1 := Lib.hid k1
  clear hQ hr hx hr' hx' hne hnx b0 b1 k0 k0' k1
  go_enter Tryz.func7, Tryz.ntmps7
  go_upto_region 1 with fail
  generalize (W.alloc (.cells #[.int .i64 S, .slice Ae ne ce, .slice Ax nx cx] 29)).alloc (.cells #[.int .i64 S, .slice Be ne de, .slice Bx nx dx] 29) = w0 at *
  generalize hg : W.heap.size = g at *
  have HG := Lib.hid hg
  clear hg
  have c0 := cell_of_row w0 g 0 _ _ _ K0.out
  have c1 := cell_of_row w0 g 1 _ _ _ K0.out
  have c2 := cell_of_row w0 g 2 _ _ _ K0.out
  have d0 := cell_of_row w0 (g + 1) 0 _ _ _ K1.out
  have d1 := cell_of_row w0 (g + 1) 1 _ _ _ K1.out
  have d2 := cell_of_row w0 (g + 1) 2 _ _ _ K1.out
  have t1 : (S != S) = false := by simp
  have t2 : ((ne : Int) != (ne : Int)) = false := by simp
  have t3 : ((nx : Int) != (nx : Int)) = false := by simp
  go_wp2_with fail
  clear c0 c1 c2 d0 d1 d2 t1 t2 t3
  go_loopw [5] (fun v wr => ∃ i : Nat, i ≤ ne ∧ v = .int .i64 (i : Int) ∧ Hid (Below w0.heap.size w0 wr)) (fun v _ => ne - (intOf v).toNat)
  case atStart => exact ⟨0, Nat.zero_le _, rfl, Below.refl _ _⟩
  case round =>
    obtain ⟨i, hi, rfl, HB⟩ := hrel
    have k0 := (HB.out.block g (Array.getElem?_eq_some_iff.1 K0.out).1).trans K0.out
    have k1 := (HB.out.block (g + 1) (Array.getElem?_eq_some_iff.1 K1.out).1).trans K1.out
    have c1 := cell_of_row wr g 1 _ _ _ k0
    have d1 := cell_of_row wr (g + 1) 1 _ _ _ k1
    clear k0 k1
    by_cases hlt : i < ne
    · have hil : i < E.length := by rw [HNE.out]; exact hlt
      obtain ⟨ad, rfl, hcs⟩ := (HE.out.below HB.out) i hil
      obtain ⟨ad', rfl, hcs'⟩ := (HE'.out.below HB.out) i hil
      generalize E[i] = e at *
      have HCS := Lib.hid hcs
      have HCS' := Lib.hid hcs'
      have hq := eq_edge e
      have hin : (i : Int) < (ne : Int) := by omega
      clear hcs hcs' hil
      go_wp2_with fail
      refine wp_region_held_drew (S := fun W' => W' = wr.drew) (by kernel_rfl) rfl (fun hHeld => ?_)
      have c1d := show wr.drew.cell? ⟨g, 1, none⟩ = some (.slice (some ad) ne ce) from c1
      have d1d := show wr.drew.cell? ⟨g + 1, 1, none⟩ = some (.slice (some ad') ne de) from d1
      clear c1 d1
      try simp only [List.getElem_toArray, List.getElem_cons_zero, List.getElem_cons_succ, Act.put, List.setIfInBounds_toArray, List.set_cons_zero, List.set_cons_succ]
      refine wpAnyH_take (i := 0) (v := ?vza0) rfl (by kernel_rfl) (by kernel_rfl) (by kernel_rfl) (fun _ _ _ h => h) (Or.inl ⟨by rfl, ?yza0⟩) hHeld ?rza0
      case yza0 => (intro wS hSw; subst hSw; go_simp; try (with_reducible rfl))
      try simp only [List.getElem_toArray, List.getElem_cons_zero, List.getElem_cons_succ, Act.put, List.setIfInBounds_toArray, List.set_cons_zero, List.set_cons_succ]
      refine wpAnyH_take (i := 1) (v := ?vza1) rfl (by kernel_rfl) (by kernel_rfl) (by kernel_rfl) (fun _ _ _ h => h) (Or.inl ⟨by rfl, ?yza1⟩) hHeld ?rza1
      case yza1 => (intro wS hSw; subst hSw; go_simp; try (with_reducible rfl))
      try simp only [List.getElem_toArray, List.getElem_cons_zero, List.getElem_cons_succ, Act.put, List.setIfInBounds_toArray, List.set_cons_zero, List.set_cons_succ]
      refine wpAnyH_take (i := 2) (v := ?vza2) rfl (by kernel_rfl) (by kernel_rfl) (by kernel_rfl) (fun _ _ _ h => h) (Or.inl ⟨by rfl, ?yza2⟩) hHeld ?rza2
      case yza2 => (intro wS hSw; subst hSw; go_simp; try (with_reducible rfl))
      try simp only [List.getElem_toArray, List.getElem_cons_zero, List.getElem_cons_succ, Act.put, List.setIfInBounds_toArray, List.set_cons_zero, List.set_cons_succ]
      refine wpAnyH_take (i := 3) (v := ?vza3) rfl (by kernel_rfl) (by kernel_rfl) (by kernel_rfl) (fun _ _ _ h => h) (Or.inl ⟨by rfl, ?yza3⟩) hHeld ?rza3
      case yza3 => (intro wS hSw; subst hSw; go_simp; try (with_reducible rfl))
      try simp only [List.getElem_toArray, List.getElem_cons_zero, List.getElem_cons_succ, Act.put, List.setIfInBounds_toArray, List.set_cons_zero, List.set_cons_succ]
      refine wpAnyH_take (i := 4) (v := edV e) rfl (by kernel_rfl) (by kernel_rfl) (by kernel_rfl) (fun _ _ _ h => h) (yields_part 39 7 (by rfl) (.tmp 40) rfl (ad.add (i * 7)) rfl [.int .i64 e.fr, .int .i64 e.to, .int .u64 (e.set.w0.toNat : Int), .int .u64 (e.set.w1.toNat : Int), .int .u64 (e.set.w2.toNat : Int), .int .u64 (e.set.w3.toNat : Int), .bool e.free] agg_edge sz_edge rfl (fun W hW => by subst hW; exact HCS.out)) hHeld ?_
      try simp only [List.getElem_toArray, List.getElem_cons_zero, List.getElem_cons_succ, Act.put, List.setIfInBounds_toArray, List.set_cons_zero, List.set_cons_succ]
      refine wpAnyH_take (i := 5) (v := ?vza5) rfl (by kernel_rfl) (by kernel_rfl) (by kernel_rfl) (fun _ _ _ h => h) (Or.inl ⟨by rfl, ?yza5⟩) hHeld ?rza5
      case yza5 => (intro wS hSw; subst hSw; go_simp; try (with_reducible rfl))
      try simp only [List.getElem_toArray, List.getElem_cons_zero, List.getElem_cons_succ, Act.put, List.setIfInBounds_toArray, List.set_cons_zero, List.set_cons_succ]
      refine wpAnyH_take (i := 6) (v := ?vza6) rfl (by kernel_rfl) (by kernel_rfl) (by kernel_rfl) (fun _ _ _ h => h) (Or.inl ⟨by rfl, ?yza6⟩) hHeld ?rza6
      case yza6 => (intro wS hSw; subst hSw; go_simp; try (with_reducible rfl))
      try simp only [List.getElem_toArray, List.getElem_cons_zero, List.getElem_cons_succ, Act.put, List.setIfInBounds_toArray, List.set_cons_zero, List.set_cons_succ]
      refine wpAnyH_take (i := 7) (v := ?vza7) rfl (by kernel_rfl) (by kernel_rfl) (by kernel_rfl) (fun _ _ _ h => h) (Or.inl ⟨by rfl, ?yza7⟩) hHeld ?rza7
      case yza7 => (intro wS hSw; subst hSw; go_simp; try (with_reducible rfl))
      try simp only [List.getElem_toArray, List.getElem_cons_zero, List.getElem_cons_succ, Act.put, List.setIfInBounds_toArray, List.set_cons_zero, List.set_cons_succ]
      refine wpAnyH_take (i := 8) (v := ?vza8) rfl (by kernel_rfl) (by kernel_rfl) (by kernel_rfl) (fun _ _ _ h => h) (Or.inl ⟨by rfl, ?yza8⟩) hHeld ?rza8
      case yza8 => (intro wS hSw; subst hSw; go_simp; try (with_reducible rfl))
      try simp only [List.getElem_toArray, List.getElem_cons_zero, List.getElem_cons_succ, Act.put, List.setIfInBounds_toArray, List.set_cons_zero, List.set_cons_succ]
      refine wpAnyH_take (i := 9) (v := edV e) rfl (by kernel_rfl) (by kernel_rfl) (by kernel_rfl) (fun _ _ _ h => h) (yields_part 39 7 (by rfl) (.tmp 45) rfl (ad'.add (i * 7)) rfl [.int .i64 e.fr, .int .i64 e.to, .int .u64 (e.set.w0.toNat : Int), .int .u64 (e.set.w1.toNat : Int), .int .u64 (e.set.w2.toNat : Int), .int .u64 (e.set.w3.toNat : Int), .bool e.free] agg_edge sz_edge rfl (fun W hW => by subst hW; exact HCS'.out)) hHeld ?_
      try simp only [List.getElem_toArray, List.getElem_cons_zero, List.getElem_cons_succ, Act.put, List.setIfInBounds_toArray, List.set_cons_zero, List.set_cons_succ]
      unfold edV at hq
      unfold edV
      refine wpAnyH_take (i := 10) (v := .bool false) rfl (by kernel_rfl) (by kernel_rfl) (by kernel_rfl) (fun _ _ _ h => h) (Or.inl ⟨by rfl, fun wS hSw => by subst hSw; go_simp; rw [hq]; rfl⟩) hHeld ?_
      try simp only [List.getElem_toArray, List.getElem_cons_zero, List.getElem_cons_succ, Act.put, List.setIfInBounds_toArray, List.set_cons_zero, List.set_cons_succ]
      refine wpAnyH_done (by kernel_rfl) ?_ _
      clear hHeld c1d d1d hq
      go_wp2_with fail
      exact ⟨⟨i + 1, by omega, by go_num, bl_drewN HB.out 1⟩, by simp [intOf]; omega⟩
    · obtain rfl : i = ne := by omega
      go_wp2_with fail
      clear c1 d1
      go_loopw [6] (fun v wr => ∃ j : Nat, j ≤ nx ∧ v = .int .i64 (j : Int) ∧ Hid (Below w0.heap.size w0 wr)) (fun v _ => nx - (intOf v).toNat)
      case atStart => exact ⟨0, Nat.zero_le _, rfl, HB⟩
      case round =>
        obtain ⟨j, hj, rfl, HB2⟩ := hrel
        have k0 := (HB2.out.block g (Array.getElem?_eq_some_iff.1 K0.out).1).trans K0.out
        have k1 := (HB2.out.block (g + 1) (Array.getElem?_eq_some_iff.1 K1.out).1).trans K1.out
        have c2 := cell_of_row wr g 2 _ _ _ k0
        have d2 := cell_of_row wr (g + 1) 2 _ _ _ k1
        simp only [List.getElem?_toArray, List.getElem?_cons_succ, List.getElem?_cons_zero] at c2 d2
        clear k0 k1
        by_cases hlt2 : j < nx
        · have hjl : j < X.length := by rw [HNX.out]; exact hlt2
          obtain ⟨ad, rfl, hcx⟩ := (HX.out.below HB2.out) j hjl
          obtain ⟨ad', rfl, hcx'⟩ := (HX'.out.below HB2.out) j hjl
          generalize X[j] = x at *
          have t1 : (x != x) = false := by simp
          have hjn : (j : Int) < (nx : Int) := by omega
          clear hjl
          go_wp2_with fail
          go_quiet (fail)
          go_wp2_with fail
          exact ⟨⟨j + 1, by omega, by go_num, bl_drewN HB2.out _⟩, by simp [intOf]; omega⟩
        · obtain rfl : j = nx := by omega
          go_wp2_with fail
          exact post_is HQ ⟨rfl, by rw [HG.out]; exact bl_trans' HG.out B1.out HB2.out⟩

/-- Marks of states, or none. -/
def GotMk (W : World) (s : Nat) (xs : List Int) (e : Ending) (W' : World) : Prop :=
  Below W.heap.size W W' ∧ ((xs.all (okSt (s : Int)) = true ∧ ∃ v cs, e = .returned (.tuple #[v, .bool true]) ∧ OwnQ W' W.heap.size v cs ∧ cs.length = s ∧ ∀ x, x ∈ trues cs ↔ x ∈ natsL xs) ∨ (xs.all (okSt (s : Int)) = false ∧ e = .returned (.tuple #[.slice none 0 0, .bool false])))
theorem nats_next {xs : List Int} {k : Nat} (hk : k < xs.length) (x : Nat) : x ∈ natsL (xs.take (k + 1)) ↔ x ∈ natsL (xs.take k) ∨ x = xs[k].toNat := by
  unfold natsL
  rw [List.take_succ_eq_append_getElem hk, List.map_append, List.mem_append]
  simp
set_option maxRecDepth 100000 in
set_option maxHeartbeats 8000000 in
theorem rmarks_any (s : Nat) (xs : List Int) (Ae Ax A : Option Addr) (ne ce nx cx n c : Nat) (hn : xs.length = n) (hn2 : n ≤ 140737488355328) (s2 : s ≤ 2048) (W : World) (hr : RdW W A xs) :
    Calls Tryz.prog 31 #[.agg #[.int .i64 (s : Int), .slice Ae ne ce, .slice Ax nx cx], .slice A n c] W (GotMk W s xs) := by
  generalize hQ : GotMk W s xs = Q
  have HQ := Lib.hid hQ
  have b0 := bl_alloc (Below.refl W.heap.size W) (.cells #[.int .i64 (s : Int), .slice Ae ne ce, .slice Ax nx cx] 29)
  have k0 := heap_alloc_new W (.cells #[.int .i64 (s : Int), .slice Ae ne ce, .slice Ax nx cx] 29)
  have HR := Lib.hid (hr.below b0)
  have HN := Lib.hid hn
  have B0 := Lib.hid b0
  have K0 := Lib.hid k0
  clear hQ hr hn b0 k0
  go_enter Tryz.func31, Tryz.ntmps31
  go_upto_region 1 with fail
  generalize W.alloc (.cells #[.int .i64 (s : Int), .slice Ae ne ce, .slice Ax nx cx] 29) = w0 at *
  generalize hg : W.heap.size = g at *
  have HG := Lib.hid hg
  have HGL := Lib.hid (Array.getElem?_eq_some_iff.1 K0.out).1
  have q0 := cell_of_row w0 g 0 _ _ _ K0.out
  obtain ⟨q, hq⟩ : ∃ q, w0.heap.size = q := ⟨_, rfl⟩
  have HQ0 := Lib.hid hq
  have hmk := make_marks s (s : Int) rfl (by omega) w0
  rw [hq] at hmk
  have o1 := own_marks w0 s (by omega)
  conv at o1 => arg 3; rw [hq]
  have B1 := Lib.hid (bl_alloc (Below.refl w0.heap.size w0) (.cells (marks0 s) 4))
  have O1 := Lib.hid o1
  clear hg hq o1
  go_upto_region 2 with fail
  generalize w0.alloc (.cells (marks0 s) 4) = w1 at *
  clear hmk q0
  go_wp2_with fail
  go_loopw [7] (fun iv wr => ∃ (i : Nat) (cs : List Bool), iv = .int .i64 (i : Int) ∧ i ≤ n ∧ Hid (cs.length = s) ∧ Hid ((xs.take i).all (okSt (s : Int)) = true) ∧ Hid (∀ x, x ∈ trues cs ↔ x ∈ natsL (xs.take i)) ∧ Hid (OwnQ wr w0.heap.size (.slice (some ⟨q, 0, none⟩) s s) cs) ∧ Hid (Below w0.heap.size w0 wr)) (fun iv _ => n - (intOf iv).toNat)
  case atStart => exact ⟨0, List.replicate s false, rfl, Nat.zero_le _, List.length_replicate, rfl, (fun x => by rw [trues_none]; simp [natsL]), O1, B1⟩
  case round =>
    obtain ⟨i, cs, rfl, hi, HLC, HA, HT, OC, BC⟩ := hrel
    clear O1 B1
    have KR := Lib.hid ((BC.out.block g HGL.out).trans K0.out)
    have q0 := cell_of_row wr g 0 _ _ _ KR.out
    simp only [List.getElem?_toArray, List.getElem?_cons_succ, List.getElem?_cons_zero] at q0
    by_cases hlt : i < n
    · have hil : i < xs.length := by rw [HN.out]; exact hlt
      obtain ⟨ad, hA, hcx⟩ := (HR.out.below BC.out) i hil
      subst hA
      have HNO := Lib.hid (fun h => all_no (p := okSt (s : Int)) hil h)
      have HYES := Lib.hid (fun h => all_next (p := okSt (s : Int)) hil HA.out h)
      have HNN := Lib.hid (nats_next hil)
      have HRD := Lib.hid (show ∀ w', Below wr.heap.size wr w' → w'.cell? (ad.add i) = some (.int .i64 xs[i]) from fun w' hb => (hb.cell (World.block_lt_of_cell? _ _ hcx)).trans hcx)
      generalize xs[i] = x at *
      have HSPL := Lib.hid (st_split (s : Int) x)
      obtain ⟨t1, ht1⟩ : ∃ b, decide (x < 0) = b := ⟨_, rfl⟩
      obtain ⟨t2, ht2⟩ : ∃ b, decide ((s : Int) ≤ x) = b := ⟨_, rfl⟩
      rw [ht1, ht2] at HSPL
      have hin : (i : Int) < (n : Int) := by omega
      clear hil HA
      cases t1 with
      | true =>
        have HX := Lib.hid (HNO.out (by rw [HSPL.out]; rfl))
        go_wp2_with fail
        go_quiet (fail)
        go_wp2_with fail
        exact post_is HQ ⟨by rw [HG.out]; exact bl_drewN' (bl_trans' HG.out B0.out BC.out) _, Or.inr ⟨HX.out, rfl⟩⟩
      | false =>
      cases t2 with
      | true =>
        have HX := Lib.hid (HNO.out (by rw [HSPL.out]; rfl))
        go_wp2_with fail
        go_quiet (fail)
        go_wp2_with fail
        exact post_is HQ ⟨by rw [HG.out]; exact bl_drewN' (bl_trans' HG.out B0.out BC.out) _, Or.inr ⟨HX.out, rfl⟩⟩
      | false =>
        have HX := Lib.hid (HYES.out (by rw [HSPL.out]; rfl))
        obtain ⟨y, rfl⟩ : ∃ y : Nat, x = (y : Int) := ⟨x.toNat, by simp at ht1; omega⟩
        have hy : y < s := by simp at ht2; omega
        go_wp2_with fail
        go_quiet (fail)
        have BD := Lib.hid (bl_drewN BC.out nq)
        have OD := Lib.hid (show OwnQ (wr.drewN nq) w0.heap.size (.slice (some ⟨q, 0, none⟩) s s) cs from OC.out.below (bl_drewN (Below.refl _ _) _))
        have hcd := HRD.out _ (bl_drewN (Below.refl wr.heap.size wr) nq)
        clear hcx q0 KR OC BC HRD
        generalize wr.drewN nq = wd at *
        have cy := OD.out.cellAt HLC.out (k := y) (by rw [HLC.out]; exact hy)
        have hst := OD.out.stored HLC.out y
        have cz := OD.out.frozenAt HLC.out y
        have O2 := Lib.hid hst.1
        have B2 := Lib.hid (bl_grown BD.out hst.2 (fun i e => by cases e; rw [HQ0.out]; exact Nat.le_refl _))
        have HL2 := Lib.hid (show (cs.set y true).length = s from by rw [List.length_set]; exact HLC.out)
        have HT2 := Lib.hid (show ∀ z, z ∈ trues (cs.set y true) ↔ z ∈ natsL (xs.take (i + 1)) from fun z => by
          rw [trues_set (by rw [HLC.out]; exact hy), HT.out z, HNN.out z, Int.toNat_natCast])
        have hys : (y : Int) < (s : Int) := by omega
        clear hst
        go_wp2_with fail
        exact ⟨⟨i + 1, cs.set y true, by go_num, by omega, HL2, HX, HT2, O2, B2⟩, by simp [intOf]; omega⟩
    · obtain rfl : i = n := by omega
      have hall : xs.take i = xs := List.take_of_length_le (by rw [HN.out]; exact Nat.le_refl _)
      rw [hall] at HA HT
      clear hall
      go_wp2_with fail
      exact post_is HQ ⟨by rw [HG.out]; exact bl_trans' HG.out B0.out BC.out, Or.inl ⟨HA.out, _, cs, rfl, by rw [HG.out]; exact OC.out.more (by have := B0.out.size; have := HG.out; omega), HLC.out, HT.out⟩⟩
theorem trues_rise {S : Nat} {cs : List Bool} {l : List Nat} (hl : cs.length = S) (h : ∀ x, x ∈ trues cs ↔ x ∈ l) : trues cs = riseE S l := by
  unfold riseE
  show (List.range cs.length).filter _ = _
  rw [hl]
  apply List.filter_congr
  intro x hx
  have hxS := List.mem_range.1 hx
  rw [Bool.eq_iff_iff, decide_eq_true_iff, ← h x, mem_trues]
  constructor
  · intro h2
    exact ⟨by omega, by simpa [List.getD, hl, hxS] using h2⟩
  · rintro ⟨h2, h3⟩
    simp [List.getD, h2, h3]
set_option maxRecDepth 100000 in
set_option maxHeartbeats 8000000 in
theorem rclose_any (S : Int) (E : List Ed) (X xs : List Int) (Ae Ax A : Option Addr) (ne ce nx cx n c : Nat) (hne : E.length = ne) (hnx : X.length = nx) (hn : xs.length = n) (hce : ne ≤ ce) (hcx : nx ≤ cx) (hm1 : ne ≤ 140737488355328) (hm2 : nx ≤ 140737488355328) (hm3 : n ≤ 140737488355328) (W : World) (hr : RdE W Ae E) (hx : RdW W Ax X) (hy : RdW W A xs) :
    Calls Tryz.prog 15 #[.agg #[.int .i64 S, .slice Ae ne ce, .slice Ax nx cx], .slice A n c] W (GotLE W (askE S E X xs (fun S ys => closeL S E ys))) := by
  generalize hQ : GotLE W (askE S E X xs (fun S ys => closeL S E ys)) = Q
  have HQ := Lib.hid hQ
  have b0 := bl_alloc (Below.refl W.heap.size W) (.cells #[.int .i64 S, .slice Ae ne ce, .slice Ax nx cx] 29)
  have N0 := Lib.hid (show NetB W W.heap.size S E X Ae Ax ne ce nx cx (W.alloc (.cells #[.int .i64 S, .slice Ae ne ce, .slice Ax nx cx] 29)) from ⟨heap_alloc_new W _, hr.below b0, hx.below b0, b0, hne, hnx, hce, hcx, hm1, hm2⟩)
  have R0 := Lib.hid (hy.below b0)
  have HN := Lib.hid hn
  have HB0 := Lib.hid (show W.heap.size ≤ (W.alloc (.cells #[.int .i64 S, .slice Ae ne ce, .slice Ax nx cx] 29)).heap.size from b0.size)
  clear hQ b0 hr hx hy hne hnx hn
  go_enter Tryz.func15, Tryz.ntmps15
  go_upto_region 1 with fail
  generalize W.alloc (.cells #[.int .i64 S, .slice Ae ne ce, .slice Ax nx cx] 29) = w0 at *
  generalize hg : W.heap.size = g at *
  have HG := Lib.hid hg
  clear hg
  have L0 := Lib.hid N0.out.load
  have HC := Lib.hid (rcheck_any S E X Ae Ax ne ce nx cx N0.out.ln N0.out.lx N0.out.bn N0.out.bx w0 N0.out.re N0.out.rx)
  go_wp2_with (refine wpList_load_part 29 3 _ rfl rfl ⟨g, 0, none⟩ rfl [.int .i64 S, .slice Ae ne ce, .slice Ax nx cx] (agg_net _) (sz_net _) rfl L0.out ?_)
  refine HC.out.mono ?_
  rintro e w2 ⟨rfl, hb2⟩
  have N2 := Lib.hid (N0.out.then hb2)
  have R2 := Lib.hid (R0.out.below hb2)
  clear hb2 HC L0 N0 R0
  by_cases hk : ¬ checkN S E X = 0
  · have HR := Lib.hid (show askE S E X xs (fun S ys => closeL S E ys) = ([], checkN S E X) by rw [askE, if_pos hk])
    generalize checkN S E X = k at *
    have h' : ((k : Int) != 0) = true := by simp; omega
    go_wp2_with fail
    refine post_is HQ ?_
    rw [HR.out]
    exact ⟨_, rfl, OwnI.nil _ _, N2.out.low⟩
  rw [Decidable.not_not] at hk
  have HK := Lib.hid hk
  obtain ⟨s, rfl, s1, s2, s3, s4, s5, s6⟩ := check_ok hk
  have S4 := Lib.hid s4
  rw [hk]
  clear hk s4 s6
  have HC := Lib.hid (rmarks_any s xs Ae Ax A ne ce nx cx n c HN.out hm3 s2 w2 R2.out)
  have L2 := Lib.hid N2.out.load
  go_wp2_with (refine wpList_load_part 29 3 _ rfl rfl ⟨g, 0, none⟩ rfl [.int .i64 (s : Int), .slice Ae ne ce, .slice Ax nx cx] (agg_net _) (sz_net _) rfl L2.out ?_)
  refine HC.out.mono ?_
  rintro e w3 ⟨hb3, h3⟩
  have N3 := Lib.hid (N2.out.then hb3)
  clear hb3 HC L2 N2 R2
  rcases h3 with ⟨ha, v, cs, rfl, ho, hl, hP⟩ | ⟨ha, rfl⟩
  · have HR := Lib.hid (show askE (s : Int) E X xs (fun S ys => closeL S E ys) = (riseE s (forE E (natsL xs)), 0) by
      rw [askE, if_neg (by rw [HK.out]; simp), if_neg (by rw [ha]; simp)]
      rfl)
    obtain ⟨A5, n5, c5, rfl, hl5, hc5, hr5⟩ := ho.rd (by rw [hl]; omega)
    have HL := Lib.hid hl
    have HP := Lib.hid hP
    have Q5 := Lib.hid hr5
    have hI : InN s (natsL xs) := (nats_in ha).1
    have HI := Lib.hid hI
    have HN5 := Lib.hid (show n5 = s from by rw [← hl5.out]; exact hl)
    have L3 := Lib.hid N3.out.load
    clear ho hl hP hl5 hr5 ha hI
    obtain rfl : n5 = s := HN5.out
    have HC := Lib.hid (rfree_any n5 E cs (.bool false) Ae A5 ne ce n5 c5 N3.out.ln N3.out.bn S4.out s1 s2 HL.out HL.out w3 N3.out.re Q5.out Ax nx cx)
    go_wp2_with (refine wpList_load_part 29 3 _ rfl rfl ⟨g, 0, none⟩ rfl [.int .i64 (n5 : Int), .slice Ae ne ce, .slice Ax nx cx] (agg_net _) (sz_net _) rfl L3.out ?_)
    refine HC.out.mono ?_
    rintro e w4 ⟨v, cs2, rfl, ho, hl, hP, hb4⟩
    obtain ⟨A6, n6, c6, rfl, hl6, hc6, hr6⟩ := ho.rd (by rw [hl]; omega)
    have N4 := Lib.hid (N3.out.then hb4)
    have HT := Lib.hid (show trues cs2 = riseE n5 (forE E (natsL xs)) from trues_rise hl (fun x => (hP x).trans (for_congr S4.out s2 (by rw [← HL.out]; exact trues_in cs) HI.out HP.out x)))
    have HC2 := Lib.hid (rlist_any cs2 A6 n6 c6 hl6.out (by have := hl6.out; omega) w4 hr6)
    have B4 := Lib.hid (show W.heap.size ≤ w4.heap.size from N4.out.low.size)
    clear ho hl hP hb4 hl6 hr6 HC L3 N3 HP Q5
    go_wp2_with fail
    refine HC2.out.mono ?_
    rintro e w5 ⟨v, rfl, ho, hb5⟩
    have B5 := Lib.hid (bl_trans N4.out.low hb5)
    rw [HT.out] at ho
    have O5 := Lib.hid (ho.more B4.out)
    obtain ⟨A7, n7, c7, rfl, _, _, _, _⟩ := ho.form
    clear ho hb5 HC2 N4 HT
    go_wp2_with fail
    refine post_is HQ ?_
    rw [HR.out]
    exact ⟨_, rfl, O5.out, B5.out⟩
  · have HR := Lib.hid (show askE (s : Int) E X xs (fun S ys => closeL S E ys) = ([], 9) by rw [askE, if_neg (by rw [HK.out]; simp), if_pos ha])
    go_wp2_with fail
    refine post_is HQ ?_
    rw [HR.out]
    exact ⟨_, rfl, OwnI.nil _ _, N3.out.low⟩
set_option maxRecDepth 100000 in
set_option maxHeartbeats 8000000 in
theorem rstep_any (ch : Nat) (hch : ch < 256) (S : Int) (E : List Ed) (X xs : List Int) (Ae Ax A : Option Addr) (ne ce nx cx n c : Nat) (hne : E.length = ne) (hnx : X.length = nx) (hn : xs.length = n) (hce : ne ≤ ce) (hcx : nx ≤ cx) (hm1 : ne ≤ 140737488355328) (hm2 : nx ≤ 140737488355328) (hm3 : n ≤ 140737488355328) (W : World) (hr : RdE W Ae E) (hx : RdW W Ax X) (hy : RdW W A xs) :
    Calls Tryz.prog 17 #[.agg #[.int .i64 S, .slice Ae ne ce, .slice Ax nx cx], .slice A n c, .int .u8 (ch : Int)] W (GotLE W (askE S E X xs (fun S ys => stepL S E ch ys))) := by
  generalize hQ : GotLE W (askE S E X xs (fun S ys => stepL S E ch ys)) = Q
  have HQ := Lib.hid hQ
  have b0 := bl_alloc (Below.refl W.heap.size W) (.cells #[.int .i64 S, .slice Ae ne ce, .slice Ax nx cx] 29)
  have N0 := Lib.hid (show NetB W W.heap.size S E X Ae Ax ne ce nx cx (W.alloc (.cells #[.int .i64 S, .slice Ae ne ce, .slice Ax nx cx] 29)) from ⟨heap_alloc_new W _, hr.below b0, hx.below b0, b0, hne, hnx, hce, hcx, hm1, hm2⟩)
  have R0 := Lib.hid (hy.below b0)
  have HN := Lib.hid hn
  have HB0 := Lib.hid (show W.heap.size ≤ (W.alloc (.cells #[.int .i64 S, .slice Ae ne ce, .slice Ax nx cx] 29)).heap.size from b0.size)
  clear hQ b0 hr hx hy hne hnx hn
  go_enter Tryz.func17, Tryz.ntmps17
  go_upto_region 1 with fail
  generalize W.alloc (.cells #[.int .i64 S, .slice Ae ne ce, .slice Ax nx cx] 29) = w0 at *
  generalize hg : W.heap.size = g at *
  have HG := Lib.hid hg
  clear hg
  have L0 := Lib.hid N0.out.load
  have HC := Lib.hid (rcheck_any S E X Ae Ax ne ce nx cx N0.out.ln N0.out.lx N0.out.bn N0.out.bx w0 N0.out.re N0.out.rx)
  go_wp2_with (refine wpList_load_part 29 3 _ rfl rfl ⟨g, 0, none⟩ rfl [.int .i64 S, .slice Ae ne ce, .slice Ax nx cx] (agg_net _) (sz_net _) rfl L0.out ?_)
  refine HC.out.mono ?_
  rintro e w2 ⟨rfl, hb2⟩
  have N2 := Lib.hid (N0.out.then hb2)
  have R2 := Lib.hid (R0.out.below hb2)
  clear hb2 HC L0 N0 R0
  by_cases hk : ¬ checkN S E X = 0
  · have HR := Lib.hid (show askE S E X xs (fun S ys => stepL S E ch ys) = ([], checkN S E X) by rw [askE, if_pos hk])
    generalize checkN S E X = k at *
    have h' : ((k : Int) != 0) = true := by simp; omega
    go_wp2_with fail
    refine post_is HQ ?_
    rw [HR.out]
    exact ⟨_, rfl, OwnI.nil _ _, N2.out.low⟩
  rw [Decidable.not_not] at hk
  have HK := Lib.hid hk
  obtain ⟨s, rfl, s1, s2, s3, s4, s5, s6⟩ := check_ok hk
  have S4 := Lib.hid s4
  rw [hk]
  clear hk s4 s6
  have HC := Lib.hid (rmarks_any s xs Ae Ax A ne ce nx cx n c HN.out hm3 s2 w2 R2.out)
  have L2 := Lib.hid N2.out.load
  go_wp2_with (refine wpList_load_part 29 3 _ rfl rfl ⟨g, 0, none⟩ rfl [.int .i64 (s : Int), .slice Ae ne ce, .slice Ax nx cx] (agg_net _) (sz_net _) rfl L2.out ?_)
  refine HC.out.mono ?_
  rintro e w3 ⟨hb3, h3⟩
  have N3 := Lib.hid (N2.out.then hb3)
  clear hb3 HC L2 N2 R2
  rcases h3 with ⟨ha, v, cs, rfl, ho, hl, hP⟩ | ⟨ha, rfl⟩
  · have HR := Lib.hid (show askE (s : Int) E X xs (fun S ys => stepL S E ch ys) = (riseE s (behE E ch (natsL xs)), 0) by
      rw [askE, if_neg (by rw [HK.out]; simp), if_neg (by rw [ha]; simp)]
      rfl)
    obtain ⟨A5, n5, c5, rfl, hl5, hc5, hr5⟩ := ho.rd (by rw [hl]; omega)
    have HL := Lib.hid hl
    have HP := Lib.hid hP
    have Q5 := Lib.hid hr5
    have hI : InN s (natsL xs) := (nats_in ha).1
    have HI := Lib.hid hI
    have HN5 := Lib.hid (show n5 = s from by rw [← hl5.out]; exact hl)
    have L3 := Lib.hid N3.out.load
    clear ho hl hP hl5 hr5 ha hI
    obtain rfl : n5 = s := HN5.out
    have HC := Lib.hid (rbehind_any' n5 E cs ch hch Ae A5 ne ce n5 c5 N3.out.ln N3.out.bn S4.out s1 s2 HL.out HL.out w3 N3.out.re Q5.out Ax nx cx)
    go_wp2_with (refine wpList_load_part 29 3 _ rfl rfl ⟨g, 0, none⟩ rfl [.int .i64 (n5 : Int), .slice Ae ne ce, .slice Ax nx cx] (agg_net _) (sz_net _) rfl L3.out ?_)
    refine HC.out.mono ?_
    rintro e w4 ⟨v, cs2, rfl, ho, hl, hP, hb4⟩
    obtain ⟨A6, n6, c6, rfl, hl6, hc6, hr6⟩ := ho.rd (by rw [hl]; omega)
    have N4 := Lib.hid (N3.out.then hb4)
    have HT := Lib.hid (show trues cs2 = riseE n5 (behE E ch (natsL xs)) from trues_rise hl (fun x => (hP x).trans (beh_congr HP.out x)))
    have HC2 := Lib.hid (rlist_any cs2 A6 n6 c6 hl6.out (by have := hl6.out; omega) w4 hr6)
    have B4 := Lib.hid (show W.heap.size ≤ w4.heap.size from N4.out.low.size)
    clear ho hl hP hb4 hl6 hr6 HC L3 N3 HP Q5
    go_wp2_with fail
    refine HC2.out.mono ?_
    rintro e w5 ⟨v, rfl, ho, hb5⟩
    have B5 := Lib.hid (bl_trans N4.out.low hb5)
    rw [HT.out] at ho
    have O5 := Lib.hid (ho.more B4.out)
    obtain ⟨A7, n7, c7, rfl, _, _, _, _⟩ := ho.form
    clear ho hb5 HC2 N4 HT
    go_wp2_with fail
    refine post_is HQ ?_
    rw [HR.out]
    exact ⟨_, rfl, O5.out, B5.out⟩
  · have HR := Lib.hid (show askE (s : Int) E X xs (fun S ys => stepL S E ch ys) = ([], 9) by rw [askE, if_neg (by rw [HK.out]; simp), if_pos ha])
    go_wp2_with fail
    refine post_is HQ ?_
    rw [HR.out]
    exact ⟨_, rfl, OwnI.nil _ _, N3.out.low⟩

end Go.Proofs.YtjibfffefppniaaGreat
