/- Print. Under: math/bits' table as it was laid. -/
import Derived.Test.YteedmkokbapkgaaDoorRgWw
set_option linter.unusedVariables false
set_option linter.unusedSimpArgs false
namespace Go.Proofs.YteedmkokbapkgaaDoor
open Go.RowKit

theorem string_of (w : World) (A : Option Addr) (n c : Nat) (l : List UInt8) (hl : l.length = n) (hr : Rd w A l) : (convert 35 9 (.slice A n c)).run Tryd.prog w = .ok (.string ⟨l.toArray⟩) w := by
  subst hl
  rcases A with _ | ad
  · have h0 : l = [] := by
      rcases l with _ | ⟨x, r⟩
      · rfl
      · obtain ⟨ad, h, _⟩ := hr (by simp)
        cases h
    subst h0
    exact run_convert_bytes_nil w _ _ Tryd.underlying35 Tryd.underlying5 0 c _ Tryd.underlying9
  · rw [run_convert_bytes_string w _ _ _ _ _ c Tryd.underlying35 Tryd.underlying5 Tryd.underlying9]
    have hcells : ∀ j u, (l.map bv)[j]? = some u → w.cell? (ad.add j) = some u := by
      intro j u hu
      rw [List.getElem?_map] at hu
      obtain ⟨x, hx, rfl⟩ := Option.map_eq_some_iff.1 hu
      obtain ⟨hj, rfl⟩ := List.getElem?_eq_some_iff.1 hx
      obtain ⟨ad', e, hc⟩ := hr (by omega)
      cases e
      exact hc j hj
    have e : l.map bv = (l.map fun b => (b.toNat : Int)).map (Value.int .u8) := by rw [List.map_map]; rfl
    have hload := run_loadCells_list (P := Tryd.prog) w ad (l.map bv) hcells
    rw [List.length_map, e] at hload
    rw [run_bytesToString w ad l.length c (l.map fun b => (b.toNat : Int)) hload, foldl_push_bytes]
    simp [ByteArray.empty, ByteArray.emptyWithCapacity, Function.comp_def]
    rfl

def GotPr (w : World) (r : List UInt8 × Nat) (e : Ending) (w' : World) : Prop := e = .returned (.tuple #[.string ⟨r.1.toArray⟩, .int .i64 (r.2 : Int)]) ∧ Below w.heap.size w w'
theorem sits_all (t : Rx) : Sits (flat 0 t) 0 t := fun j nd h => by rwa [Nat.zero_add]
theorem below_w {W0 : World} {b : Nat} {A : Option Addr} {n c : Nat} {txt : List UInt8} {w : World} (h : WAt W0 b A n c txt w) : Below W0.heap.size W0 w := h.below

set_option maxRecDepth 20000 in
set_option maxHeartbeats 2000000 in
theorem print_bad (l : List RN) (A : Option Addr) (n c : Nat) (hn : l.length = n) (w : World) (hr : RdR w A l) (hc : n ≤ c) (hk : checkE l ≠ 0) :
    Calls Tryd.prog 10 #[.agg #[.slice A n c]] w (GotPr w ([], checkE l)) := by
  generalize hQ : GotPr w ([], checkE l) = Q
  have HQ := Lib.hid hQ
  have HR := Lib.hid hr
  have HN := Lib.hid hn
  clear hQ hr hn
  have HB := Lib.hid (bl_alloc (Below.refl w.heap.size w) (.cells #[.slice A n c] 24))
  go_enter Tryd.func10, Tryd.ntmps10
  go_wp2_with fail
  refine (check_any l A n c HN.out _ (HR.out.below HB.out) hc).mono ?_
  rintro e w2 ⟨rfl, hb2⟩
  have HB2 := Lib.hid (bl_trans HB.out hb2)
  clear hb2 HB
  generalize checkE l = k at *
  have h' : ((k : Int) == 0) = false := by simp; omega
  go_wp2_with fail
  exact post_is HQ ⟨rfl, HB2.out⟩

set_option maxRecDepth 20000 in
set_option maxHeartbeats 2000000 in
theorem print_tree (t : Rx) (A : Option Addr) (n c : Nat) (hn : t.size = n) (hn2 : n ≤ 256) (w : World) (hT : Tab w) (hr : RdR w A (flat 0 t)) (hc : n ≤ c) :
    Calls Tryd.prog 10 #[.agg #[.slice A n c]] w (GotPr w (if 1024 < (bareW t).length then ([], 5) else (bareW t, 0))) := by
  generalize hQ : GotPr w (if 1024 < (bareW t).length then ([], 5) else (bareW t, 0)) = Q
  have HQ := Lib.hid hQ
  have HR := Lib.hid hr
  have hnl : (flat 0 t).length = n := by rw [flat_len, hn]
  have hck : checkE (flat 0 t) = 0 := by rw [checkE, hnl, if_neg (by omega), if_pos (tree_of_flat t)]
  have hpos := t.size_pos
  have hlen := bareW_len t
  have HT := Lib.hid hT
  have HNL := Lib.hid hnl
  have HLEN := Lib.hid hlen
  have HTN := Lib.hid hn
  clear hQ hr hT hnl hlen
  have h1 : 1 ≤ n := by omega
  have HB := Lib.hid (bl_alloc (Below.refl w.heap.size w) (.cells #[.slice A n c] 24))
  have hP : (w.alloc (.cells #[.slice A n c] 24)).heap[w.heap.size]? = some (.cells #[.slice A n c] 24 (0, 0)) := heap_alloc_new w _
  have HP := Lib.hid hP
  clear hP hn hpos
  go_enter Tryd.func10, Tryd.ntmps10
  go_wp2_with fail
  refine (check_any (flat 0 t) A n c HNL.out _ (HR.out.below HB.out) hc).mono ?_
  rintro e w2 ⟨rfl, hb2⟩
  have HP2 := Lib.hid ((hb2.block w.heap.size (by simp)).trans HP.out)
  have HB2 := Lib.hid (bl_trans HB.out hb2)
  clear hb2 HP HB
  rw [hck]
  have hcell := cell_of_row w2 w.heap.size 0 _ _ _ HP2.out
  have hx1 : (n : Int) - 1 = ((n - 1 : Nat) : Int) := by omega
  have bW := bl_alloc (Below.refl w2.heap.size w2) (.cells #[.slice A n c, .slice none 0 0] 50)
  have hcell3 : (w2.alloc (.cells #[.slice A n c, .slice none 0 0] 50)).cell? ⟨w.heap.size, 0, none⟩ = some (.slice A n c) := (World.cell?_alloc_lt _ _ _ (World.block_lt_of_cell? w2 _ hcell)).trans hcell
  have hW3 : WAt w w2.heap.size A n c [] (w2.alloc (.cells #[.slice A n c, .slice none 0 0] 50)) := ⟨⟨_, heap_alloc_new w2 _, Own.nil _ _⟩, HB2.out.size, bl_trans HB2.out bW⟩
  have HW3 := Lib.hid hW3
  have HB3 := Lib.hid (bl_trans HB2.out bW)
  clear bW hW3
  go_wp2_with fail
  have hnode := node_step (W0 := w) (b := w2.heap.size) HR.out HNL.out 0 t (sits_all t) (fun txt w' h hm => bare_any HT.out HR.out HNL.out t 0 (sits_all t) txt w' h hm) 0 [] _ HW3.out (by have := HLEN.out; have := HTN.out; rw [nodeOf, if_pos (Nat.zero_le _)]; simp; omega)
  rw [Nat.zero_add, HTN.out, nodeOf, if_pos (Nat.zero_le _), List.nil_append] at hnode
  refine hnode.mono ?_
  clear hnode
  rintro e w4 ⟨rfl, hw4, hk4⟩
  obtain ⟨v, hg, hv⟩ := hw4.text
  obtain ⟨A2, m2, k2, rfl, HM2, _, _, hrd⟩ := hv.form
  have c1 : w4.cell? ⟨w2.heap.size, 1, none⟩ = some (.slice A2 m2 k2) := by rw [cell_of_row w4 _ _ _ _ _ hg]; rfl
  have hst := string_of w4 A2 m2 k2 (bareW t) HM2.out hrd
  have HB4 := Lib.hid hw4.below
  clear hw4 hk4 hg hv hrd hcell hcell3 HW3
  by_cases hlong : 1024 < m2
  · have d1 : decide ((1024 : Int) < (m2 : Int)) = true := by simp; omega
    go_wp2_with fail
    refine post_is HQ ?_
    rw [HM2.out, if_pos hlong]
    exact ⟨rfl, HB4.out⟩
  · have d1 : decide ((1024 : Int) < (m2 : Int)) = false := by simp; omega
    go_wp2_with fail
    refine post_is HQ ?_
    rw [HM2.out, if_neg hlong]
    exact ⟨rfl, HB4.out⟩

end Go.Proofs.YteedmkokbapkgaaDoor
