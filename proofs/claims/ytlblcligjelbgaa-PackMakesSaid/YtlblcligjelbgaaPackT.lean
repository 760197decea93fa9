/- The document's Find and Copy: contracts over the translated program. -/
import Derived.Test.YtlblcligjelbgaaPackR
import Derived.Deep.RegionHeldLaw
set_option linter.unusedVariables false
namespace Go.Proofs.Ytlblcligjelbgaa
open Go.RowKit

set_option maxHeartbeats 800000 in
set_option maxRecDepth 20000 in
theorem refFind_any (A : Option Addr) (n c : Nat) (tag : Int) (ss : List Sec) (w : World) (hl : ss.length = n) (hr : RdS w A ss) (hn : n ≤ maxLen) (hd : ∀ s ∈ ss, s.2.length ≤ 200000000000000) :
    Calls Try.prog 15 #[.slice A n c, .int .i64 tag] w (Found w (findE tag ss)) := by
  unfold maxLen at hn
  have HL := Lib.hid hl
  have HD := Lib.hid hd
  clear hl hd
  go_enter Try.func15, Try.ntmps15
  go_wp2_with fail
  go_loopw [6] (fun i wr => ∃ (k : Nat), k ≤ n ∧ i = .int .i64 k ∧ findE tag ss = findE tag (ss.drop k) ∧ Below w.heap.size w wr) (fun i _ => n - (intOf i).toNat)
  case atStart => exact ⟨0, Nat.zero_le _, rfl, rfl, Below.refl _ _⟩
  case round =>
    obtain ⟨k, hk, rfl, he, hbl⟩ := hrel
    have HE := Lib.hid he
    clear he
    by_cases hlt : k < n
    · have hk' : k < ss.length := by have := HL.out; omega
      obtain ⟨ad, Ak, m, cm, rfl, hc1, hc2, HLk, _, _, hrk⟩ := (hr.below hbl).at hk'
      by_cases hx : ss[k].1 = tag
      · have hb : (ss[k].1 == tag) = true := by simp [hx]
        have HX := Lib.hid hx
        clear hx
        have hm : m ≤ 200000000000000 := by have := HD.out _ (List.getElem_mem hk'); have := HLk.out; omega
        go_wp2_with fail
        refine (copy_any _ _ _ ss[k].2 _ HLk.out hrk hm).mono ?_
        rintro e w2 ⟨v, rfl, ho, hb2⟩
        go_wp2_with fail
        go_ret2
        rw [HE.out, find_drop hk', if_pos HX.out]
        exact ⟨v, rfl, ho.more hbl.size, bl_trans hbl hb2⟩
      · have hb : (ss[k].1 == tag) = false := by simp [hx]
        have HX := Lib.hid hx
        clear hx
        go_wp2_with fail
        refine ⟨⟨k + 1, by omega, by go_num, ?_, hbl⟩, by simp [intOf]; omega⟩
        rw [HE.out, find_drop hk', if_neg HX.out]
    · go_wp2_with fail
      go_ret2
      rw [HE.out, List.drop_of_length_le (by have := HL.out; omega)]
      exact ⟨_, rfl, Own.nil _ _, hbl⟩

/-- Sections that the call made itself. -/
def GotCopy (w : World) (ss : List Sec) (e : Ending) (w' : World) : Prop := ∃ v rs, e = .returned v ∧ OwnS w' w.heap.size v rs ∧ Hid (rowsOf rs = ss) ∧ Below w.heap.size w w'

set_option maxHeartbeats 1500000 in
set_option maxRecDepth 20000 in
theorem refCopy_any (A : Option Addr) (n c : Nat) (ss : List Sec) (w : World) (hl : ss.length = n) (hr : RdS w A ss) (hn : n * 32 ≤ 140737488355328) (hd : ∀ s ∈ ss, s.2.length ≤ 150000000000000) :
    Calls Try.prog 11 #[.slice A n c] w (GotCopy w ss) := by
  have HL := Lib.hid hl
  have HD := Lib.hid hd
  clear hl hd
  obtain ⟨i0, hi, hz0, hz1, hz2⟩ := info_parts info_sec
  go_enter Try.func11, Try.ntmps11
  go_wp2_with fail
  go_loopw [3, 4] (fun v i wr => ∃ (k : Nat) (rs : List Row), k ≤ n ∧ Hid (rs.length = k) ∧ i = .int .i64 (k : Int) ∧ OwnS wr w.heap.size v rs ∧ Hid (rowsOf rs = ss.take k) ∧ Below w.heap.size w wr) (fun _ i _ => n - (intOf i).toNat)
  case atStart => exact ⟨0, [], Nat.zero_le _, rfl, rfl, OwnS.nil _ _, rfl, Below.refl _ _⟩
  case round =>
    obtain ⟨k, rs, hk, HK, rfl, hS, HR, hbl⟩ := hrel
    by_cases hlt : k < n
    · have hk' : k < ss.length := by have := HL.out; omega
      obtain ⟨ad, Ak, m, cm, rfl, hc1w, hc2w, HLk, hmc, hcm, hrkw⟩ := hr.at hk'
      have l1 := World.block_lt_of_cell? _ _ hc1w
      have l2 := World.block_lt_of_cell? _ _ hc2w
      have hc1 := (hbl.cell l1).trans hc1w
      have hc2 := (hbl.cell l2).trans hc2w
      have hrk := hrkw.below hbl
      have hm : m ≤ 150000000000000 := by have := HD.out _ (List.getElem_mem hk'); have := HLk.out; omega
      have hrs : rs.length + 1 ≤ n := by have := HK.out; omega
      have hszl := hbl.size
      have d1 : wr.drew.cell? (ad.add (k * 2)) = some (.int .i64 ss[k].1) := hc1
      have d2 : wr.drew.cell? ⟨(ad.add (k * 2)).block, (ad.add (k * 2)).off + 1, none⟩ = some (.slice Ak m cm) := hc2
      have hbd : Below w.heap.size w wr.drew := hbl.drew
      have hSd := hS.below (Below.drew (Below.refl wr.heap.size wr))
      have hrkd : Rd wr.drew Ak ss[k].2 := hrk.below (Below.drew (Below.refl wr.heap.size wr))
      dsimp only at l2
      clear hc1 hc2 hrk hr hc1w hc2w hrkw
      have hfar : ∀ q, u3.ownBlock = some q → w.heap.size ≤ q ∧ q < wr.heap.size := fun q hq => hS.lt q hq
      go_wp2_with fail
      go_region_held_law (fun w' => w'.cell? (ad.add (k * 2)) = some (.int .i64 ss[k].1) ∧ w'.cell? ⟨(ad.add (k * 2)).block, (ad.add (k * 2)).off + 1, none⟩ = some (.slice Ak m cm))
        (first | (refine ⟨?_, ?_⟩ <;> assumption) | go_keep)
        ((first
          | (refine step_append_lies _ (by rfl) _ _ 22 (by rfl) w.heap.size 41 i0 (.agg #[.int .i64 0, .slice none 0 0]) 2 32 Try.underlying22 hi hz0 hz1 hz2 rfl (by omega) u3 rs.length (rowCells rs) (by rfl) (World.ownsRow.alloc hS2.row _) ⟨w2.heap.size, 0, none⟩ 1 1 [.int .i64 ss[k].1, .slice Av nv cv] (by rfl) (by rfl) (two_cells _ _ _ _ _ (by simp)) (by simp [Value.oneCell']) (by omega) (by simp only [maxLen]; omega) (by omega) (by simp; omega) _ rfl ?_; intro g cap w3 hown3 hgrow hat hlt3; have x1 : w3.cell? (ad.add (k * 2)) = some (.int .i64 ss[k].1) := (hgrow.cell_far (ad.add (k * 2)) (by simp; omega) (fun e => by have h := (hfar (ad.add (k * 2)).block e.symm).1; omega)).trans ((World.cell?_alloc_lt _ _ _ (by omega)).trans y1); have x2 : w3.cell? ⟨(ad.add (k * 2)).block, (ad.add (k * 2)).off + 1, none⟩ = some (.slice Ak m cm) := (hgrow.cell_far ⟨(ad.add (k * 2)).block, (ad.add (k * 2)).off + 1, none⟩ (by simp; omega) (fun e => by have h := (hfar (ad.add (k * 2)).block e.symm).1; omega)).trans ((World.cell?_alloc_lt _ _ _ (by simp; omega)).trans y2))
          | (go_simp; go_at_call 20; (with_reducible refine (copy_any Ak m cm ss[k].2 _ HLk.out hrkd (by omega)).mono ?_); rintro e w2 ⟨v2, rfl, ho2, g2⟩; obtain ⟨Av, nv, cv, rfl, _, _, _, _⟩ := ho2.form; have hS2 := hSd.below g2; have y1 : w2.cell? (ad.add (k * 2)) = some (.int .i64 ss[k].1) := (g2.cell (by show (ad.add (k * 2)).block < wr.heap.size; omega)).trans d1; have y2 : w2.cell? ⟨(ad.add (k * 2)).block, (ad.add (k * 2)).off + 1, none⟩ = some (.slice Ak m cm) := (g2.cell (by show (ad.add (k * 2)).block < wr.heap.size; omega)).trans d2; have s2 : wr.heap.size ≤ w2.heap.size := g2.size)))
      go_wp2_with fail
      have hSa := hS2.below (bl_alloc (Below.refl w2.heap.size w2) (.cells #[Value.int IntKind.i64 ss[k].1, Value.slice Av nv cv] 41))
      have hoa : Own (w2.alloc (.cells #[Value.int IntKind.i64 ss[k].1, Value.slice Av nv cv] 41)) wr.heap.size (.slice Av nv cv) ss[k].2 := ho2.alloc _
      refine ⟨⟨k + 1, rs ++ [(ss[k], Value.slice Av nv cv)], by omega, by unfold Hid; rw [List.length_append, HK.out]; rfl, by go_num, hSa.more (w0 := wr) hS.datalt hoa hszl hown3 hgrow, ?_, bl_grown (bl_alloc (bl_trans hbd g2) _) hgrow (fun q hq => (hfar q hq).1)⟩, by simp [intOf]; omega⟩
      unfold Hid
      rw [List.take_succ_eq_append_getElem hk', ← HR.out]
      simp [rowsOf]
    · go_wp2_with fail
      go_ret
      exact ⟨_, rs, rfl, hS, by unfold Hid; rw [HR.out, List.take_of_length_le (by have := HL.out; omega)], hbl⟩

end Go.Proofs.Ytlblcligjelbgaa
