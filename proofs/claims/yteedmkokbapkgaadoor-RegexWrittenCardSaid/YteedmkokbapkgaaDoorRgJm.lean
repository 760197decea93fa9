/- The document's moved and Join. -/
import Derived.Test.YteedmkokbapkgaaDoorRgJn
set_option linter.unusedVariables false
set_option linter.unusedSimpArgs false
namespace Go.Proofs.YteedmkokbapkgaaDoor
open Go.RowKit

def movedN (x : RN) (k : Nat) : RN := ⟨x.kind, if 3 ≤ x.kind then x.a + k else x.a, if x.kind = 3 ∨ x.kind = 4 then x.b + k else x.b, x.set⟩
def GotN7 (w : World) (x : RN) (e : Ending) (w' : World) : Prop := e = .returned (aggR x) ∧ Below w.heap.size w w'
theorem zero_node (w : World) : (zeroValue 59).run Tryd.prog w = .ok (.agg (cellsR ⟨0, 0, 0, nilS⟩).toArray) w := by kernel_rfl
set_option maxRecDepth 20000 in
set_option maxHeartbeats 2000000 in
theorem moved_any (x : RN) (k : Nat) (w : World) (ha : 0 ≤ x.a ∧ x.a ≤ 1000000) (hb : 0 ≤ x.b ∧ x.b ≤ 1000000) (hk : k ≤ 1000000) :
    Calls Tryd.prog 42 #[aggR x, .int .i64 (k : Int)] w (GotN7 w (movedN x k)) := by
  obtain ⟨kd, a, b, z0, z1, z2, z3⟩ := x
  simp only [] at ha hb
  generalize hQ : GotN7 w (movedN ⟨kd, a, b, z0, z1, z2, z3⟩ k) = Q
  have HQ := Lib.hid hQ
  clear hQ
  have hwa : wrap64 (a + k) = a + k := IntWalk.wrap64_in _ ⟨by omega, by omega⟩
  have hwb : wrap64 (b + k) = b + k := IntWalk.wrap64_in _ ⟨by omega, by omega⟩
  have kn : ((w.alloc (.cells #[.int .i64 kd, dv z0, dv z1, dv z2, dv z3, .int .i64 a, .int .i64 b] 59)).alloc (.cells #[.int .i64 0, .int .u64 0, .int .u64 0, .int .u64 0, .int .u64 0, .int .i64 0, .int .i64 0] 59)).heap[w.heap.size]? = some (.cells #[.int .i64 kd, dv z0, dv z1, dv z2, dv z3, .int .i64 a, .int .i64 b] 59 (0, 0)) := by
    rw [Below.heap_alloc _ _ _ (by simp)]
    exact heap_alloc_new w _
  have kr : ((w.alloc (.cells #[.int .i64 kd, dv z0, dv z1, dv z2, dv z3, .int .i64 a, .int .i64 b] 59)).alloc (.cells #[.int .i64 0, .int .u64 0, .int .u64 0, .int .u64 0, .int .u64 0, .int .i64 0, .int .i64 0] 59)).heap[w.heap.size + 1]? = some (.cells #[.int .i64 0, .int .u64 0, .int .u64 0, .int .u64 0, .int .u64 0, .int .i64 0, .int .i64 0] 59 (0, 0)) := by
    have := heap_alloc_new (w.alloc (.cells #[.int .i64 kd, dv z0, dv z1, dv z2, dv z3, .int .i64 a, .int .i64 b] 59)) (.cells #[.int .i64 0, .int .u64 0, .int .u64 0, .int .u64 0, .int .u64 0, .int .i64 0, .int .i64 0] 59)
    rwa [World.size_alloc] at this
  have bA := bl_alloc (bl_alloc (Below.refl w.heap.size w) (.cells #[.int .i64 kd, dv z0, dv z1, dv z2, dv z3, .int .i64 a, .int .i64 b] 59)) (.cells #[.int .i64 0, .int .u64 0, .int .u64 0, .int .u64 0, .int .u64 0, .int .i64 0, .int .i64 0] 59)
  show Calls Tryd.prog 42 #[.agg #[.int .i64 kd, dv z0, dv z1, dv z2, dv z3, .int .i64 a, .int .i64 b], .int .i64 (k : Int)] w Q
  go_enter Tryd.func42, Tryd.ntmps42
  go_upto_region 1 with fail
  generalize (w.alloc (.cells #[.int .i64 kd, dv z0, dv z1, dv z2, dv z3, .int .i64 a, .int .i64 b] 59)).alloc (.cells #[.int .i64 0, .int .u64 0, .int .u64 0, .int .u64 0, .int .u64 0, .int .i64 0, .int .i64 0] 59) = w0 at *
  obtain ⟨q0, q1, q2, q3, q4, q5, q6⟩ := node_cells kn
  have f5 := frozen_of_row w0 w.heap.size 5 _ _ kn
  have s5 := heap_setCell_same w0 w.heap.size 5 _ _ (.int .i64 (a + k)) kn
  have KR := Lib.hid kr
  have BA := Lib.hid bA
  have KN := Lib.hid kn
  clear kr bA kn
  by_cases h3 : 3 ≤ kd
  · have d3 : decide ((3 : Int) ≤ kd) = true := by simp; omega
    have s5' : (w0.setCell ⟨w.heap.size, 5, none⟩ (.int .i64 (a + k))).heap[w.heap.size]? = some (.cells #[.int .i64 kd, dv z0, dv z1, dv z2, dv z3, .int .i64 (a + k), .int .i64 b] 59 (0, 0)) := s5
    obtain ⟨r0, r1, r2, r3, r4, r5, r6⟩ := node_cells s5'
    have g6 := frozen_of_row _ w.heap.size 6 _ _ s5'
    have kr5 := ((grown_set w0 w.heap.size 5 (.int .i64 (a + k))).block (w.heap.size + 1) (Array.getElem?_eq_some_iff.1 KR.out).1 (by simp)).trans KR.out
    have b5 := bl_grown BA.out (grown_set w0 w.heap.size 5 (.int .i64 (a + k))) (fun j e => by cases e; exact Nat.le_refl _)
    have KN5 := Lib.hid s5'
    have KR5 := Lib.hid kr5
    have B5 := Lib.hid b5
    clear s5 s5' kr5 b5
    by_cases h34 : kd = 3 ∨ kd = 4
    · have s6 : ((w0.setCell ⟨w.heap.size, 5, none⟩ (.int .i64 (a + k))).setCell ⟨w.heap.size, 6, none⟩ (.int .i64 (b + k))).heap[w.heap.size]? = some (.cells #[.int .i64 kd, dv z0, dv z1, dv z2, dv z3, .int .i64 (a + k), .int .i64 (b + k)] 59 (0, 0)) := heap_setCell_same (w0.setCell ⟨w.heap.size, 5, none⟩ (.int .i64 (a + k))) w.heap.size 6 _ _ (.int .i64 (b + k)) KN5.out
      have kr6 := ((grown_set (w0.setCell ⟨w.heap.size, 5, none⟩ (.int .i64 (a + k))) w.heap.size 6 (.int .i64 (b + k))).block (w.heap.size + 1) (Array.getElem?_eq_some_iff.1 KR5.out).1 (by simp)).trans KR5.out
      have b6 := bl_grown B5.out (grown_set (w0.setCell ⟨w.heap.size, 5, none⟩ (.int .i64 (a + k))) w.heap.size 6 (.int .i64 (b + k))) (fun j e => by cases e; exact Nat.le_refl _)
      have KN6 := Lib.hid s6
      have KR6 := Lib.hid kr6
      have B6 := Lib.hid b6
      clear s6 kr6 b6
      rcases h34 with rfl | rfl
      · go_upto_region 5 with fail
        go_wp2_with (first
          | (refine wpList_load_row rfl 59 _ rfl w.heap.size rfl 59 _ (0, 0) _ KN6.out Tryd.underlying59 rfl (by rw [size_rn]; rfl) ?_)
          | (refine wpList_store_row rfl 59 _ _ rfl (w.heap.size + 1) _ rfl rfl 59 _ KR6.out (by rw [size_rn]; rfl) (by rfl) (by simp [dv, Value.oneCell']) ?_))
        refine bodyPost_ret (v := .agg #[.int .i64 3, dv z0, dv z1, dv z2, dv z3, .int .i64 (a + k), .int .i64 (b + k)]) (results_cell_row rfl _ _ (w.heap.size + 1) 59 _ (0, 0) _ rfl (setRow_heap _ _ _ _ _ _ KR6.out) Tryd.underlying59 rfl (by rw [size_rn]; rfl)) rfl (post_is HQ ?_)
        refine ⟨?_, bl_setRow B6.out (by omega) _⟩
        show _ = Ending.returned (aggR (movedN ⟨3, a, b, z0, z1, z2, z3⟩ k))
        rw [movedN, if_pos (show (3 : Int) ≤ _ by simp), if_pos (Or.inl rfl)]
        rfl
      · go_upto_region 5 with fail
        go_wp2_with (first
          | (refine wpList_load_row rfl 59 _ rfl w.heap.size rfl 59 _ (0, 0) _ KN6.out Tryd.underlying59 rfl (by rw [size_rn]; rfl) ?_)
          | (refine wpList_store_row rfl 59 _ _ rfl (w.heap.size + 1) _ rfl rfl 59 _ KR6.out (by rw [size_rn]; rfl) (by rfl) (by simp [dv, Value.oneCell']) ?_))
        refine bodyPost_ret (v := .agg #[.int .i64 4, dv z0, dv z1, dv z2, dv z3, .int .i64 (a + k), .int .i64 (b + k)]) (results_cell_row rfl _ _ (w.heap.size + 1) 59 _ (0, 0) _ rfl (setRow_heap _ _ _ _ _ _ KR6.out) Tryd.underlying59 rfl (by rw [size_rn]; rfl)) rfl (post_is HQ ?_)
        refine ⟨?_, bl_setRow B6.out (by omega) _⟩
        show _ = Ending.returned (aggR (movedN ⟨4, a, b, z0, z1, z2, z3⟩ k))
        rw [movedN, if_pos (show (3 : Int) ≤ _ by simp), if_pos (Or.inr rfl)]
        rfl
    · have e3 : (kd == 3) = false := by simp; omega
      have e4 : (kd == 4) = false := by simp; omega
      go_upto_region 5 with fail
      go_wp2_with (first
        | (refine wpList_load_row rfl 59 _ rfl w.heap.size rfl 59 _ (0, 0) _ KN5.out Tryd.underlying59 rfl (by rw [size_rn]; rfl) ?_)
        | (refine wpList_store_row rfl 59 _ _ rfl (w.heap.size + 1) _ rfl rfl 59 _ KR5.out (by rw [size_rn]; rfl) (by rfl) (by simp [dv, Value.oneCell']) ?_))
      refine bodyPost_ret (v := .agg #[.int .i64 kd, dv z0, dv z1, dv z2, dv z3, .int .i64 (a + k), .int .i64 b]) (results_cell_row rfl _ _ (w.heap.size + 1) 59 _ (0, 0) _ rfl (setRow_heap _ _ _ _ _ _ KR5.out) Tryd.underlying59 rfl (by rw [size_rn]; rfl)) rfl (post_is HQ ?_)
      refine ⟨?_, bl_setRow B5.out (by omega) _⟩
      rw [movedN, if_pos h3, if_neg h34]
      rfl
  · have d3 : decide ((3 : Int) ≤ kd) = false := by simp; omega
    have e3 : (kd == 3) = false := by simp; omega
    have e4 : (kd == 4) = false := by simp; omega
    go_upto_region 5 with fail
    go_wp2_with (first
      | (refine wpList_load_row rfl 59 _ rfl w.heap.size rfl 59 _ (0, 0) _ KN.out Tryd.underlying59 rfl (by rw [size_rn]; rfl) ?_)
      | (refine wpList_store_row rfl 59 _ _ rfl (w.heap.size + 1) _ rfl rfl 59 _ KR.out (by rw [size_rn]; rfl) (by rfl) (by simp [dv, Value.oneCell']) ?_))
    refine bodyPost_ret (v := .agg #[.int .i64 kd, dv z0, dv z1, dv z2, dv z3, .int .i64 a, .int .i64 b]) (results_cell_row rfl _ _ (w.heap.size + 1) 59 _ (0, 0) _ rfl (setRow_heap _ _ _ _ _ _ KR.out) Tryd.underlying59 rfl (by rw [size_rn]; rfl)) rfl (post_is HQ ?_)
    refine ⟨?_, bl_setRow BA.out (by omega) _⟩
    rw [movedN, if_neg (show ¬ (3 ≤ kd) by omega), if_neg (show ¬ (kd = 3 ∨ kd = 4) by omega)]
    rfl

/-! Join -/
theorem rn_rex : (59 : TypeId) ≠ 24 := by decide
theorem OwnR.notX {W : World} {base : Nat} {v : Value} {l : List RN} (h : OwnR W base v l) {i : Nat} {cs : Array Value} (hi : W.heap[i]? = some (.cells cs 24 (0, 0))) : v.ownBlock ≠ some i := by
  rcases h.2 with ⟨rfl, _⟩ | ⟨g, cap, cur, rfl, _, hgb, _⟩
  · simp [Value.ownBlock]
  · intro e
    obtain rfl : g = i := by simpa [Value.ownBlock] using e
    rw [hgb] at hi
    injection hi with hi
    injection hi with _ h2 _
    exact absurd h2 rn_rex
def joinE (k : Int) (l1 l2 : List RN) : List RN := l1 ++ l2.map (fun x => movedN x l1.length) ++ [⟨k, ((l1.length - 1 : Nat) : Int), ((l1.length + l2.length - 1 : Nat) : Int), nilS⟩]
theorem wpList_join3 {ops : Array Oper} {rest : List Oper} {o : Oper} {a : Act} {w : World} {Q : Exit → Act → World → Prop} (x y z : Operand) (k p q : Int) (hg : o.guard = none) (ho : o.op = .build 59 #[(0, x), (2, y), (3, z)]) (hx : a.eval x = .int .i64 k) (hy : a.eval y = .int .i64 p) (hz : a.eval z = .int .i64 q)
    (h : wpList Tryd.prog ops Q rest (a.put o.dst (.agg #[.int .i64 k, .int .u64 0, .int .u64 0, .int .u64 0, .int .u64 0, .int .i64 p, .int .i64 q])) w) : wpList Tryd.prog ops Q (o :: rest) a w := by
  have hb := built_join k p q
  refine wpList_build hg _ _ ho ?_ ?_
  · simp [hx, hy, hz, hb]
  · simp [hx, hy, hz, hb]
    exact h
set_option maxRecDepth 100000 in
set_option maxHeartbeats 4000000 in
theorem join_any (k : Int) (l1 l2 : List RN) (A : Option Addr) (n c : Nat) (A2 : Option Addr) (m c2 : Nat) (hn : l1.length = n) (hm : l2.length = m) (h1 : 1 ≤ n) (h2 : 1 ≤ m) (hn2 : n + m ≤ 10000) (hab : ∀ x ∈ l2, (0 ≤ x.a ∧ x.a ≤ 1000000) ∧ 0 ≤ x.b ∧ x.b ≤ 1000000)
    (w : World) (hr : RdR w A l1) (hr2 : RdR w A2 l2) : Calls Tryd.prog 23 #[.int .i64 k, .agg #[.slice A n c], .agg #[.slice A2 m c2]] w (GotX w (joinE k l1 l2)) := by
  generalize hQ : GotX w (joinE k l1 l2) = Q
  have HQ := Lib.hid hQ
  clear hQ
  obtain ⟨ad, rfl⟩ : ∃ ad, A = some ad := by obtain ⟨ad, h, _⟩ := hr 0 (by omega); exact ⟨ad, h⟩
  obtain ⟨ad2, rfl⟩ : ∃ ad, A2 = some ad := by obtain ⟨ad, h, _⟩ := hr2 0 (by omega); exact ⟨ad, h⟩
  obtain ⟨i0, hi, hz0, hz1, hz2⟩ := info_parts info_rn
  have bA := bl_alloc (bl_alloc (bl_alloc (Below.refl w.heap.size w) (.cells #[.slice (some ad) n c] 24)) (.cells #[.slice (some ad2) m c2] 24)) (.cells #[.slice none 0 0] 24)
  have k1 : (((w.alloc (.cells #[.slice (some ad) n c] 24)).alloc (.cells #[.slice (some ad2) m c2] 24)).alloc (.cells #[.slice none 0 0] 24)).heap[w.heap.size]? = some (.cells #[.slice (some ad) n c] 24 (0, 0)) := by
    rw [Below.heap_alloc _ _ _ (by simp; omega), Below.heap_alloc _ _ _ (by simp)]
    exact heap_alloc_new w _
  have k2 : (((w.alloc (.cells #[.slice (some ad) n c] 24)).alloc (.cells #[.slice (some ad2) m c2] 24)).alloc (.cells #[.slice none 0 0] 24)).heap[w.heap.size + 1]? = some (.cells #[.slice (some ad2) m c2] 24 (0, 0)) := by
    rw [Below.heap_alloc _ _ _ (by simp)]
    have := heap_alloc_new (w.alloc (.cells #[.slice (some ad) n c] 24)) (.cells #[.slice (some ad2) m c2] 24)
    rwa [World.size_alloc] at this
  have kr : (((w.alloc (.cells #[.slice (some ad) n c] 24)).alloc (.cells #[.slice (some ad2) m c2] 24)).alloc (.cells #[.slice none 0 0] 24)).heap[w.heap.size + 1 + 1]? = some (.cells #[.slice none 0 0] 24 (0, 0)) := by
    have := heap_alloc_new ((w.alloc (.cells #[.slice (some ad) n c] 24)).alloc (.cells #[.slice (some ad2) m c2] 24)) (.cells #[.slice none 0 0] 24)
    rwa [World.size_alloc, World.size_alloc] at this
  go_enter Tryd.func23, Tryd.ntmps23
  go_upto_region 1 with fail
  generalize ((w.alloc (.cells #[.slice (some ad) n c] 24)).alloc (.cells #[.slice (some ad2) m c2] 24)).alloc (.cells #[.slice none 0 0] 24) = w0 at *
  have c1 : w0.cell? ⟨w.heap.size, 0, none⟩ = some (.slice (some ad) n c) := cell_of_row w0 _ 0 _ _ _ k1
  have HR := Lib.hid (hr.below bA)
  have HW1 := Lib.hid hr
  have HW2 := Lib.hid hr2
  have HN := Lib.hid hn
  have HM := Lib.hid hm
  have HAB := Lib.hid hab
  have hsz := bA.size
  clear hr hr2 hn hm hab
  go_upto_region 3 with (at_builtin; refine wpList_append_lies _ rfl _ _ 22 rfl w.heap.size 59 i0 (aggR ⟨0, 0, 0, ⟨0, 0, 0, 0⟩⟩) 7 56 Tryd.underlying22 hi hz0 hz1 hz2 rfl (by omega) (.slice none 0 0) 0 [] rfl (World.ownsRow_nil _ _ _ _) ad n c (cellsN l1) rfl (by rw [cellsN_len, HN.out]) (RdR.cells HR.out) (cellsN_one l1) (by omega) (by simp only [maxLen]; omega) (by omega) hsz _ rfl ?_; intro g cap w3 ho hg hat hlt)
  have e1 : w3.heap[w.heap.size]? = some (.cells #[.slice (some ad) n c] 24 (0, 0)) := (hg.block w.heap.size (Array.getElem?_eq_some_iff.1 k1).1 (by simp [Value.ownBlock])).trans k1
  have e2 : w3.heap[w.heap.size + 1]? = some (.cells #[.slice (some ad2) m c2] 24 (0, 0)) := (hg.block (w.heap.size + 1) (Array.getElem?_eq_some_iff.1 k2).1 (by simp [Value.ownBlock])).trans k2
  have e3 : w3.heap[w.heap.size + 1 + 1]? = some (.cells #[.slice none 0 0] 24 (0, 0)) := (hg.block (w.heap.size + 1 + 1) (Array.getElem?_eq_some_iff.1 kr).1 (by simp [Value.ownBlock])).trans kr
  have b3 := bl_grown bA hg (fun j e => by simp [Value.ownBlock] at e)
  have o3 : OwnR w3 w.heap.size (.slice (some ⟨g, 0, none⟩) n cap) l1 := by
    unfold OwnR
    rw [HN.out]
    simpa using ho
  have E1 := Lib.hid e1
  have E2 := Lib.hid e2
  have E3 := Lib.hid e3
  have EB := Lib.hid b3
  have EO := Lib.hid o3
  clear k1 k2 kr bA c1 hsz ho hg hat hlt e1 e2 e3 b3 o3 HR
  go_wp2_with fail
  go_loopw [7, 8] (fun v7 v8 wr => ∃ i : Nat, i ≤ m ∧ v8 = .int .i64 (i : Int) ∧ OwnR wr w.heap.size v7 (l1 ++ (l2.take i).map (fun x => movedN x n)) ∧ wr.heap[w.heap.size]? = some (.cells #[.slice (some ad) n c] 24 (0, 0)) ∧ wr.heap[w.heap.size + 1]? = some (.cells #[.slice (some ad2) m c2] 24 (0, 0)) ∧ wr.heap[w.heap.size + 1 + 1]? = some (.cells #[.slice none 0 0] 24 (0, 0)) ∧ Below w.heap.size w wr) (fun _ v _ => m - (intOf v).toNat)
  case atStart => exact ⟨0, Nat.zero_le _, rfl, by rw [List.take_zero]; simpa using EO.out, E1.out, E2.out, E3.out, EB.out⟩
  case round =>
    clear E1 E2 E3 EB EO
    obtain ⟨i, him, rfl, o1, k1, k2, kr, hb⟩ := hrel
    have d1 : wr.cell? ⟨w.heap.size, 0, none⟩ = some (.slice (some ad) n c) := cell_of_row wr _ 0 _ _ _ k1
    have d2 : wr.cell? ⟨w.heap.size + 1, 0, none⟩ = some (.slice (some ad2) m c2) := cell_of_row wr _ 0 _ _ _ k2
    by_cases hlt : i < m
    · have hlt2 : i < l2.length := by have := HM.out; omega
      have hcell : ∀ W', Below w.heap.size w W' → ∀ j u, (cellsR l2[i])[j]? = some u → W'.cell? ((ad2.add (i * 7)).add j) = some u := fun W' hW => by
        obtain ⟨ad', hadd, h⟩ := (HW2.out.below hW) i hlt2
        obtain rfl := Option.some.inj hadd
        exact h
      have hcs := hcell wr hb
      have htk : l2.take (i + 1) = l2.take i ++ [l2[i]] := by rw [List.take_add_one]; simp [hlt2]
      have hxb := HAB.out _ (List.getElem_mem hlt2)
      generalize l2[i] = x at *
      have hmv : ∀ W : World, Calls Tryd.prog 42 #[aggR x, .int .i64 (n : Int)] W (GotN7 W (movedN x n)) := fun W => moved_any x n W hxb.1 hxb.2 (by omega)
      have hnl : (l1 ++ (l2.take i).map (fun x => movedN x n)).length = n + i := by rw [List.length_append, List.length_map, List.length_take, HN.out]; omega
      have hnext : l1 ++ (l2.take (i + 1)).map (fun x => movedN x n) = (l1 ++ (l2.take i).map (fun x => movedN x n)) ++ [movedN x n] := by rw [htk]; simp
      have HNX := Lib.hid hnext
      generalize l1 ++ (l2.take i).map (fun x => movedN x n) = lc at *
      generalize hy : movedN x n = y at *
      obtain ⟨kd, a, b, z0, z1, z2, z3⟩ := y
      have HCELL := Lib.hid hcell
      have HMV := Lib.hid hmv
      have HNL := Lib.hid hnl
      have HO := Lib.hid o1
      have HKR := Lib.hid kr
      have HBW := Lib.hid hb
      clear hcell hnext htk hxb hy hmv hnl o1 kr hb
      go_wp2_with fail
      clear d1 d2
      refine wp_region_held_drew (S := fun W' => W'.heap[w.heap.size]? = some (.cells #[.slice (some ad) n c] 24 (0, 0)) ∧ W'.heap[w.heap.size + 1]? = some (.cells #[.slice (some ad2) m c2] 24 (0, 0)) ∧ ∀ j u, (cellsR x)[j]? = some u → W'.cell? ((ad2.add (i * 7)).add j) = some u) (by kernel_rfl) ⟨k1, k2, hcs⟩ (fun hHeld => ?_)
      try simp only [List.getElem_toArray, List.getElem_cons_zero, List.getElem_cons_succ, Act.put, List.setIfInBounds_toArray, List.set_cons_zero, List.set_cons_succ]
      refine wpAnyH_take (i := 0) (v := ?vza0) rfl (by kernel_rfl) (by kernel_rfl) (by kernel_rfl) (fun _ _ _ h => h) (Or.inl ⟨by rfl, ?yza0⟩) hHeld ?rza0
      case yza0 => (intro wS hSw; clear hSw; go_simp; try (with_reducible rfl))
      try simp only [List.getElem_toArray, List.getElem_cons_zero, List.getElem_cons_succ, Act.put, List.setIfInBounds_toArray, List.set_cons_zero, List.set_cons_succ]
      refine wpAnyH_take (i := 1) (v := ?vza1) rfl (by kernel_rfl) (by kernel_rfl) (by kernel_rfl) (fun _ _ _ h => h) (Or.inl ⟨by rfl, ?yza1⟩) hHeld ?rza1
      case yza1 => (intro wS hSw; clear hSw; go_simp; try (with_reducible rfl))
      try simp only [List.getElem_toArray, List.getElem_cons_zero, List.getElem_cons_succ, Act.put, List.setIfInBounds_toArray, List.set_cons_zero, List.set_cons_succ]
      refine wpAnyH_take (i := 2) (v := ?vza2) rfl (by kernel_rfl) (by kernel_rfl) (by kernel_rfl) (fun _ _ _ h => h) (Or.inl ⟨by rfl, ?yza2⟩) hHeld ?rza2
      case yza2 => (intro wS hSw; have q1 := cell_of_row wS (w.heap.size + 1) 0 _ _ _ hSw.2.1; clear hSw; go_simp; try (with_reducible rfl))
      try simp only [List.getElem_toArray, List.getElem_cons_zero, List.getElem_cons_succ, Act.put, List.setIfInBounds_toArray, List.set_cons_zero, List.set_cons_succ]
      refine wpAnyH_take (i := 3) (v := ?vza3) rfl (by kernel_rfl) (by kernel_rfl) (by kernel_rfl) (fun _ _ _ h => h) (Or.inl ⟨by rfl, ?yza3⟩) hHeld ?rza3
      case yza3 => (intro wS hSw; clear hSw; go_simp; try (with_reducible rfl))
      try simp only [List.getElem_toArray, List.getElem_cons_zero, List.getElem_cons_succ, Act.put, List.setIfInBounds_toArray, List.set_cons_zero, List.set_cons_succ]
      refine wpAnyH_take (i := 4) (v := ?vza4) rfl (by kernel_rfl) (by kernel_rfl) (by kernel_rfl) (fun _ _ _ h => h) (Or.inl ⟨by rfl, ?yza4⟩) hHeld ?rza4
      case yza4 => (intro wS hSw; clear hSw; go_simp; try (with_reducible rfl))
      try simp only [List.getElem_toArray, List.getElem_cons_zero, List.getElem_cons_succ, Act.put, List.setIfInBounds_toArray, List.set_cons_zero, List.set_cons_succ]
      refine wpAnyH_take (i := 5) (v := aggR x) rfl (by kernel_rfl) (by kernel_rfl) (by kernel_rfl) (fun _ _ _ h => h) (yields_mid 59 7 (by rfl) (.tmp 24) rfl (ad2.add (i * 7)) rfl (cellsR x) agg_rn sz_rn rfl (fun W hW => hW.2.2)) hHeld ?_
      try simp only [List.getElem_toArray, List.getElem_cons_zero, List.getElem_cons_succ, Act.put, List.setIfInBounds_toArray, List.set_cons_zero, List.set_cons_succ]
      refine wpAnyH_take (i := 6) (v := ?vza6) rfl (by kernel_rfl) (by kernel_rfl) (by kernel_rfl) (fun _ _ _ h => h) (Or.inl ⟨by rfl, ?yza6⟩) hHeld ?rza6
      case yza6 => (intro wS hSw; clear hSw; go_simp; try (with_reducible rfl))
      try simp only [List.getElem_toArray, List.getElem_cons_zero, List.getElem_cons_succ, Act.put, List.setIfInBounds_toArray, List.set_cons_zero, List.set_cons_succ]
      refine wpAnyH_take (i := 7) (v := ?vza7) rfl (by kernel_rfl) (by kernel_rfl) (by kernel_rfl) (fun _ _ _ h => h) (Or.inl ⟨by rfl, ?yza7⟩) hHeld ?rza7
      case yza7 => (intro wS hSw; have q1 := cell_of_row wS w.heap.size 0 _ _ _ hSw.1; clear hSw; go_simp; try (with_reducible rfl))
      try simp only [List.getElem_toArray, List.getElem_cons_zero, List.getElem_cons_succ, Act.put, List.setIfInBounds_toArray, List.set_cons_zero, List.set_cons_succ]
      refine wpAnyH_take (i := 8) (v := ?vza8) rfl (by kernel_rfl) (by kernel_rfl) (by kernel_rfl) (fun _ _ _ h => h) (Or.inl ⟨by rfl, ?yza8⟩) hHeld ?rza8
      case yza8 => (intro wS hSw; clear hSw; go_simp; try (with_reducible rfl))
      try simp only [List.getElem_toArray, List.getElem_cons_zero, List.getElem_cons_succ, Act.put, List.setIfInBounds_toArray, List.set_cons_zero, List.set_cons_succ]
      refine wpAnyH_ready (rs := [9]) (by kernel_rfl) (by simp) (AllReadyH.cons rfl (fun K hK => ?_) AllReadyH.nil)
      rw [if_pos (by rfl)]
      go_simp
      go_at_call 42
      refine (HMV.out _).mono ?_
      rintro e w5 ⟨rfl, hb5⟩
      have hS5 := And.intro ((hb5.block w.heap.size (Array.getElem?_eq_some_iff.1 hHeld.1).1).trans hHeld.1) (And.intro ((hb5.block (w.heap.size + 1) (Array.getElem?_eq_some_iff.1 hHeld.2.1).1).trans hHeld.2.1) (fun j u hu => (hb5.cell (World.block_lt_of_cell? _ _ (hHeld.2.2 j u hu))).trans (hHeld.2.2 j u hu)))
      have o5 : OwnR w5 w.heap.size u7 lc := (show OwnR wr.drew w.heap.size u7 lc from World.ownsRow.drew HO.out).below hb5
      have r5 := (hb5.block (w.heap.size + 1 + 1) (Array.getElem?_eq_some_iff.1 HKR.out).1).trans HKR.out
      have b5 := bl_trans (bl_drewN HBW.out 1) hb5
      clear hHeld hb5 HO HKR HBW hcs k1 k2
      simp only [aggR, cellsR]
      go_wp2_with fail
      refine hK.out _ _ hS5 (fun hHeld => ?_)
      clear hK K hS5
      try simp only [List.getElem_toArray, List.getElem_cons_zero, List.getElem_cons_succ, Act.put, List.setIfInBounds_toArray, List.set_cons_zero, List.set_cons_succ]
      refine wpAnyH_ready (rs := [10]) (by kernel_rfl) (by simp) (AllReadyH.cons rfl (fun K hK => ?_) AllReadyH.nil)
      rw [if_pos (by rfl)]
      have a1 := (Below.heap_alloc w5 (.cells #[.int .i64 kd, dv z0, dv z1, dv z2, dv z3, .int .i64 a, .int .i64 b] 59) w.heap.size (Array.getElem?_eq_some_iff.1 hHeld.1).1).trans hHeld.1
      have a2 := (Below.heap_alloc w5 (.cells #[.int .i64 kd, dv z0, dv z1, dv z2, dv z3, .int .i64 a, .int .i64 b] 59) (w.heap.size + 1) (Array.getElem?_eq_some_iff.1 hHeld.2.1).1).trans hHeld.2.1
      have a3 : ∀ j u, (cellsR x)[j]? = some u → (w5.alloc (.cells #[.int .i64 kd, dv z0, dv z1, dv z2, dv z3, .int .i64 a, .int .i64 b] 59)).cell? ((ad2.add (i * 7)).add j) = some u := fun j u hu => (World.cell?_alloc_lt _ _ _ (World.block_lt_of_cell? _ _ (hHeld.2.2 j u hu))).trans (hHeld.2.2 j u hu)
      have hS6 := And.intro a1 (And.intro a2 a3)
      have a4 := (Below.heap_alloc w5 (.cells #[.int .i64 kd, dv z0, dv z1, dv z2, dv z3, .int .i64 a, .int .i64 b] 59) (w.heap.size + 1 + 1) (Array.getElem?_eq_some_iff.1 r5).1).trans r5
      have LITB := Lib.hid (heap_alloc_new w5 (.cells #[.int .i64 kd, dv z0, dv z1, dv z2, dv z3, .int .i64 a, .int .i64 b] 59))
      have O6 := Lib.hid (o5.below (bl_alloc (Below.refl _ _) (.cells #[.int .i64 kd, dv z0, dv z1, dv z2, dv z3, .int .i64 a, .int .i64 b] 59)))
      have B6 := Lib.hid (bl_alloc b5 (.cells #[.int .i64 kd, dv z0, dv z1, dv z2, dv z3, .int .i64 a, .int .i64 b] 59))
      clear hHeld o5 r5 b5 a1 a2 a3
      go_simp
      refine hK.out _ _ hS6 (fun hHeld => ?_)
      clear hK K hS6
      try simp only [List.getElem_toArray, List.getElem_cons_zero, List.getElem_cons_succ, Act.put, List.setIfInBounds_toArray, List.set_cons_zero, List.set_cons_succ]
      refine wpAnyH_ready (rs := [11]) (by kernel_rfl) (by simp) (AllReadyH.cons rfl (fun K hK => ?_) AllReadyH.nil)
      rw [if_pos (by rfl)]
      refine wp_append_lies _ _ _ 22 rfl w.heap.size 59 i0 (aggR ⟨0, 0, 0, ⟨0, 0, 0, 0⟩⟩) 7 56 Tryd.underlying22 hi hz0 hz1 hz2 rfl (by omega) u7 lc.length (cellsN lc) rfl O6.out ⟨w5.heap.size, 0, none⟩ 1 1 #[.int .i64 kd, dv z0, dv z1, dv z2, dv z3, .int .i64 a, .int .i64 b].toList rfl rfl (World.news_of_block LITB.out) (by simp [Value.oneCell', dv]) (by omega) (by have := HNL.out; simp only [maxLen]; omega) (by have := HNL.out; omega) B6.out.size _ rfl ?_
      intro g2 cap2 w7 ho2 hg2 hat2 hlt2
      have o7 : OwnR w7 w.heap.size (.slice (some ⟨g2, 0, none⟩) (lc.length + 1) cap2) (lc ++ [⟨kd, a, b, z0, z1, z2, z3⟩]) := ownR_append rfl [⟨kd, a, b, z0, z1, z2, z3⟩] rfl ho2
      have x1 := (hg2.block w.heap.size (Array.getElem?_eq_some_iff.1 hHeld.1).1 (fun e => O6.out.notX hHeld.1 e.symm)).trans hHeld.1
      have x2 := (hg2.block (w.heap.size + 1) (Array.getElem?_eq_some_iff.1 hHeld.2.1).1 (fun e => O6.out.notX hHeld.2.1 e.symm)).trans hHeld.2.1
      have x3 := (hg2.block (w.heap.size + 1 + 1) (Array.getElem?_eq_some_iff.1 a4).1 (fun e => O6.out.notX a4 e.symm)).trans a4
      have b7 := bl_grown B6.out hg2 (fun j e => (World.ownsRow.lt O6.out j e).1)
      have hS7 := And.intro x1 (And.intro x2 (HCELL.out w7 b7))
      refine hK.out _ _ hS7 (fun hHeld => ?_)
      clear hK K hS7
      try simp only [List.getElem_toArray, List.getElem_cons_zero, List.getElem_cons_succ, Act.put, List.setIfInBounds_toArray, List.set_cons_zero, List.set_cons_succ]
      refine wpAnyH_take (i := 12) (v := ?vza12) rfl (by kernel_rfl) (by kernel_rfl) (by kernel_rfl) (fun _ _ _ h => h) (Or.inl ⟨by rfl, ?yza12⟩) hHeld ?rza12
      case yza12 => (intro wS hSw; clear hSw; go_simp; try (with_reducible rfl))
      try simp only [List.getElem_toArray, List.getElem_cons_zero, List.getElem_cons_succ, Act.put, List.setIfInBounds_toArray, List.set_cons_zero, List.set_cons_succ]
      refine wpAnyH_done (by kernel_rfl) ?_ _
      have X1 := Lib.hid x1
      have X2 := Lib.hid x2
      have X3 := Lib.hid x3
      have O7 := Lib.hid o7
      have B7 := Lib.hid b7
      clear hHeld x1 x2 x3 o7 b7 ho2 hg2 hat2 hlt2 a4
      go_wp2_with fail
      refine ⟨⟨i + 1, by omega, by go_num, ?_, X1.out, X2.out, X3.out, B7.out⟩, by simp [intOf]; omega⟩
      rw [HNX.out]
      exact O7.out
    · obtain rfl : i = m := by omega
      rw [List.take_of_length_le (by have := HM.out; omega)] at o1
      have hnl : (l1 ++ l2.map (fun x => movedN x n)).length = n + i := by rw [List.length_append, List.length_map, HN.out, HM.out]
      have hje : joinE k l1 l2 = (l1 ++ l2.map (fun x => movedN x n)) ++ [⟨k, ((n - 1 : Nat) : Int), ((n + i - 1 : Nat) : Int), nilS⟩] := by rw [joinE, HN.out, HM.out]
      rw [hje] at HQ
      generalize l1 ++ l2.map (fun x => movedN x n) = lc at *
      obtain ⟨A3, n3, c3, rfl, HL3, hnc3, hcm3, _⟩ := o1.form
      have hn3 : n3 = n + i := by have := HL3.out; omega
      subst hn3
      have w1 : (n : Int) - 1 = ((n - 1 : Nat) : Int) := by omega
      have w2 : ((n + i : Nat) : Int) - 1 = ((n + i - 1 : Nat) : Int) := by omega
      have w3 : (n : Int) + (i : Int) - 1 = ((n + i - 1 : Nat) : Int) := by omega
      have HO := Lib.hid o1
      have HKR := Lib.hid kr
      have HBW := Lib.hid hb
      have LITB := Lib.hid (heap_alloc_new wr (.cells #[.int .i64 k, .int .u64 0, .int .u64 0, .int .u64 0, .int .u64 0, .int .i64 ((n - 1 : Nat) : Int), .int .i64 ((n + i - 1 : Nat) : Int)] 59))
      have O6 := Lib.hid (o1.below (bl_alloc (Below.refl _ _) (.cells #[.int .i64 k, .int .u64 0, .int .u64 0, .int .u64 0, .int .u64 0, .int .i64 ((n - 1 : Nat) : Int), .int .i64 ((n + i - 1 : Nat) : Int)] 59)))
      have B6 := Lib.hid (bl_alloc hb (.cells #[.int .i64 k, .int .u64 0, .int .u64 0, .int .u64 0, .int .u64 0, .int .i64 ((n - 1 : Nat) : Int), .int .i64 ((n + i - 1 : Nat) : Int)] 59))
      have a4 := (Below.heap_alloc wr (.cells #[.int .i64 k, .int .u64 0, .int .u64 0, .int .u64 0, .int .u64 0, .int .i64 ((n - 1 : Nat) : Int), .int .i64 ((n + i - 1 : Nat) : Int)] 59) (w.heap.size + 1 + 1) (Array.getElem?_eq_some_iff.1 kr).1).trans kr
      clear o1 hb k1 k2 hje kr hcm3 hnc3
      go_wp2_with (first
        | (refine wpList_join3 _ _ _ k _ _ rfl rfl rfl rfl rfl ?_)
        | (at_builtin; refine wpList_append_lies _ rfl _ _ 22 rfl w.heap.size 59 i0 (aggR ⟨0, 0, 0, ⟨0, 0, 0, 0⟩⟩) 7 56 Tryd.underlying22 hi hz0 hz1 hz2 rfl (by omega) (.slice A3 (n + i) c3) lc.length (cellsN lc) rfl O6.out ⟨wr.heap.size, 0, none⟩ 1 1 #[.int .i64 k, .int .u64 0, .int .u64 0, .int .u64 0, .int .u64 0, .int .i64 ((n - 1 : Nat) : Int), .int .i64 ((n + i - 1 : Nat) : Int)].toList rfl rfl (World.news_of_block LITB.out) (by simp [Value.oneCell']) (by omega) (by have := HL3.out; simp only [maxLen]; omega) (by have := HL3.out; omega) B6.out.size _ rfl ?_; intro g2 cap2 w7 ho2 hg2 hat2 hlt2; have o7 := ownR_append rfl [⟨k, ((n - 1 : Nat) : Int), ((n + i - 1 : Nat) : Int), nilS⟩] rfl ho2; have x3 := (hg2.block (w.heap.size + 1 + 1) (Array.getElem?_eq_some_iff.1 a4).1 (fun e => O6.out.notX a4 e.symm)).trans a4; have b7 := bl_grown B6.out hg2 (fun j e => (World.ownsRow.lt O6.out j e).1); have f7 := frozen_of_row w7 (w.heap.size + 1 + 1) 0 _ _ x3; have c7 : w7.cell? ⟨w.heap.size + 1 + 1, 0, none⟩ = some (.slice none 0 0) := cell_of_row w7 _ 0 _ _ _ x3))
      have hno := o7.notX x3
      rw [hnl] at o7 hno
      have x8 := heap_setCell_same w7 (w.heap.size + 1 + 1) 0 _ _ (.slice (some ⟨g2, 0, none⟩) (n + i + 1) cap2) x3
      have o8 : OwnR (w7.setCell ⟨w.heap.size + 1 + 1, 0, none⟩ (.slice (some ⟨g2, 0, none⟩) (n + i + 1) cap2)) w.heap.size (.slice (some ⟨g2, 0, none⟩) (n + i + 1) cap2) (lc ++ [⟨k, ((n - 1 : Nat) : Int), ((n + i - 1 : Nat) : Int), nilS⟩]) :=
        World.ownsRow.kept o7 (grown_set w7 (w.heap.size + 1 + 1) 0 _) (Or.inr hno)
      have b8 := bl_grown b7 (grown_set w7 (w.heap.size + 1 + 1) 0 (.slice (some ⟨g2, 0, none⟩) (n + i + 1) cap2)) (fun j e => by cases e; omega)
      refine bodyPost_ret (v := .agg #[.slice (some ⟨g2, 0, none⟩) (n + i + 1) cap2]) (results_cell_row rfl _ _ (w.heap.size + 1 + 1) 24 _ (0, 0) _ rfl x8 Tryd.underlying24 rfl (by rw [size_rex]; rfl)) rfl (post_is HQ ?_)
      exact ⟨_, rfl, o8, b8⟩

end Go.Proofs.YteedmkokbapkgaaDoor
