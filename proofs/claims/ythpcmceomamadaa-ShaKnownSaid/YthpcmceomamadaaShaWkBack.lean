/- The walk of ShaBack: Parse and Hex take each other back. No condition. -/
import Derived.Test.YthpcmceomamadaaShaOp
set_option linter.unusedVariables false
set_option linter.unusedSimpArgs false
namespace Go.Proofs.Ythpcmceomamadaa
open Go.ChangeShapes Go.WideShapes Go.ChangeAt Go.RowKit

/-- Parse, its answers known. -/
theorem parse_is (l : List UInt8) (f : Nat → UInt8) (r : Int) (w : World) (hl : l.length ≤ maxLen) (hf : rowB 32 (parseF l) = rowB 32 f) (hr : parseR l = r) :
    Calls Try.prog 48 #[.string ⟨l.toArray⟩] w fun e w' => e = .returned (.tuple #[.agg (rowB 32 f), .int .i64 r]) ∧ Below w.heap.size w w' := by
  subst hr
  rw [← hf]
  exact parse_any l w hl
theorem parse_of_hex (f : Nat → UInt8) : rowB 32 (parseF (hexE f)) = rowB 32 f ∧ parseR (hexE f) = 0 := by
  obtain ⟨h1, h2⟩ := parse_good (good_hex f)
  refine ⟨?_, h2⟩
  rw [h1]
  exact rowB_congr 32 fun j hj => by
    unfold byteP
    rw [pair_hex f j hj]
    rfl

/-- A whole array out of a block of its own, by an operation that is wanted. -/
theorem wpList_load_guarded {P : Program} {ops : Array Oper} {rest : List Oper} {o : Oper} {a : Act} {w : World} {Q : Exit → Act → World → Prop} (hgd : Region.wanted o (yielded ops a.tmps) = true) (ty : TypeId) (x : Operand) (ho : o.op = .load ty x)
    (g : Nat) (hx : a.eval x = .pointer (some ⟨g, 0, none⟩)) (t : TypeId) (cs : Array Value) (fr : Nat × Nat) (d : TypeDesc) (hg : w.heap[g]? = some (.cells cs t fr))
    (hu : P.underlying ty = some d) (hd : (match d with | .struct _ | .array _ _ => true | _ => false) = true) (hi : (P.info? ty).map (·.size) = some cs.size)
    (h : wpList P ops Q rest (a.put o.dst (.agg cs)) w) : wpList P ops Q (o :: rest) a w := by
  refine wpList_step fun K hK => ?_
  rw [if_pos hgd]
  exact wp_load_row ty x ho g hx t cs fr d hg hu hd hi (hK _ _ h)

set_option maxHeartbeats 4000000 in
set_option maxRecDepth 100000 in
theorem back_walk (f : Nat → UInt8) (l : List UInt8) (w : World) (hl : l.length ≤ maxLen) :
    Calls Try.prog 26 #[.agg (rowB 32 f), .string ⟨l.toArray⟩] w (Yes w) := by
  have hz := zero32
  obtain ⟨p1, p2⟩ := parse_of_hex f
  have hlen := hexL_len f 32
  have hxl : (hexE f).length = 64 := hlen
  obtain ⟨h, hh⟩ : ∃ h, hexE f = h := ⟨_, rfl⟩
  rw [hh] at p1 p2 hxl
  have hla := fun ty => len_at h #[9] ty rfl
  rw [hxl] at hla
  have P := Lib.hid (parse_is h f 0 · (by rw [hxl]; simp [maxLen]) p1 p2)
  have HH := Lib.hid hh
  have HLl := Lib.hid hl
  clear p1 p2 hlen hxl hh hl
  have i0 : Hb (w.alloc (.cells (rowB 32 f) 37)) w.heap.size 37 32 f := heap_alloc_new w _
  have I0 := Lib.hid i0
  have hsame := same_is f
  have hnull : ∀ W, (Op.equalIn 10000 37 (.agg (rowB 32 (fun _ => 0))) (.agg tab32)).run Try.prog W = .ok true W := fun W => by
    rw [tab32_row]
    exact same_is _ W
  clear i0
  by_cases hg : goodB l = true
  · obtain ⟨g1, g2⟩ := parse_good hg
    have hb := hex_back hg
    have G := Lib.hid (parse_is l (byteP l) 0 · HLl.out (by rw [g1]) g2)
    have HX := Lib.hid (hex_is (byteP l) l hb)
    clear g1 g2 hb hg
    go_enter Try.func26, Try.ntmps26
    go_wp2_with (refine wpList_load_row rfl 37 _ rfl w.heap.size rfl 37 _ (0, 0) _ I0.out Try.underlying37 rfl (by rw [size32, rowB_size]) ?_)
    refine (hex_is f h HH.out _).mono ?_
    rintro e w1 ⟨rfl, hb1⟩
    have B1 := Lib.hid (bl_trans (bl_alloc (Below.refl _ _) _) hb1)
    have J0 := Lib.hid (I0.out.below hb1)
    clear hb1 I0
    go_wp2_with fail
    refine (P.out _).mono ?_
    rintro e w2 ⟨rfl, hb2⟩
    have B2 := Lib.hid (bl_trans B1.out hb2)
    have K0 := Lib.hid (J0.out.below hb2)
    clear hb2 B1 J0
    have n1 : (w2.alloc (.cells tab32 37)).heap[w2.heap.size]? = some (.cells tab32 37 (0, 0)) := heap_alloc_new w2 _
    have N1 := Lib.hid n1
    clear n1
    go_wp2_with (refine wpList_store_row rfl 37 _ _ rfl w2.heap.size _ rfl rfl 37 _ N1.out (by rw [size32, rowB_size]) (by rw [rowB_size]; rfl) (rowB_one _ _) ?_)
    have m1 : Hb ((w2.alloc (.cells tab32 37)).setRow w2.heap.size (rowB 32 f)) w2.heap.size 37 32 f := setRow_heap _ _ _ _ _ _ N1.out
    have m0 : Hb ((w2.alloc (.cells tab32 37)).setRow w2.heap.size (rowB 32 f)) w.heap.size 37 32 f := (setRow_other _ _ _ _ (by have := K0.out.lt; omega)).trans (K0.out.alloc _)
    have mB : Below w.heap.size w ((w2.alloc (.cells tab32 37)).setRow w2.heap.size (rowB 32 f)) := bl_setRow (bl_alloc B2.out _) B2.out.size _
    generalize hx3 : (w2.alloc (.cells tab32 37)).setRow w2.heap.size (rowB 32 f) = w3 at *
    clear hx3 N1
    refine (G.out _).mono ?_
    rintro e w4 ⟨rfl, hb4⟩
    have L0 := Lib.hid (m0.below hb4)
    have L1 := Lib.hid (m1.below hb4)
    have LB := Lib.hid (bl_trans mB hb4)
    have hlt0 := (m0.below hb4).lt
    have hlt1 := (m1.below hb4).lt
    have n2 : (w4.alloc (.cells tab32 37)).heap[w4.heap.size]? = some (.cells tab32 37 (0, 0)) := heap_alloc_new w4 _
    have N2 := Lib.hid n2
    clear n2 m0 m1 mB hb4 K0 B2
    have q0 : Hb ((w4.alloc (.cells tab32 37)).setRow w4.heap.size (rowB 32 (byteP l))) w.heap.size 37 32 f := (setRow_other _ _ _ _ (by omega)).trans (L0.out.alloc _)
    have q1 : Hb ((w4.alloc (.cells tab32 37)).setRow w4.heap.size (rowB 32 (byteP l))) w2.heap.size 37 32 f := (setRow_other _ _ _ _ (by omega)).trans (L1.out.alloc _)
    have q2 : Hb ((w4.alloc (.cells tab32 37)).setRow w4.heap.size (rowB 32 (byteP l))) w4.heap.size 37 32 (byteP l) := setRow_heap _ _ _ _ _ _ N2.out
    have qB : Below w.heap.size w ((w4.alloc (.cells tab32 37)).setRow w4.heap.size (rowB 32 (byteP l))) := bl_setRow (bl_alloc LB.out _) LB.out.size _
    have Q0 := Lib.hid q0
    have Q1 := Lib.hid q1
    have Q2 := Lib.hid q2
    have QB := Lib.hid qB
    clear q0 q1 q2 qB
    go_wp2_with (first
      | (refine wpList_store_row rfl 37 _ _ rfl w4.heap.size _ rfl rfl 37 _ N2.out (by rw [size32, rowB_size]) (by rw [rowB_size]; rfl) (rowB_one _ _) ?_)
      | (refine wpList_load_guarded (by rfl) 37 (.tmp 6) rfl w2.heap.size rfl 37 _ (0, 0) _ Q1.out Try.underlying37 rfl (by rw [size32, rowB_size]) ?_)
      | (refine wpList_load_guarded (by rfl) 37 (.tmp 2) rfl w.heap.size rfl 37 _ (0, 0) _ Q0.out Try.underlying37 rfl (by rw [size32, rowB_size]) ?_)
      | (refine wpList_load_guarded (by rfl) 37 (.tmp 8) rfl w4.heap.size rfl 37 _ (0, 0) _ Q2.out Try.underlying37 rfl (by rw [size32, rowB_size]) ?_))
    refine (HX.out _).mono ?_
    rintro e w5 ⟨rfl, hb5⟩
    have B5 := Lib.hid (bl_trans QB.out hb5)
    clear hb5 QB Q0 Q1 Q2 N2 L0 L1 LB
    go_wp2_with fail
    refine (awake_any _).mono ?_
    rintro e w6 ⟨rfl, hb6⟩
    go_wp2
    go_ret
    exact ⟨rfl, bl_trans B5.out hb6⟩
  · obtain ⟨g1, g2⟩ := parse_bad hg
    have G := Lib.hid (parse_is l (fun _ => 0) 4 · HLl.out (by rw [g1, tab32_row]) g2)
    clear g1 g2 hg
    go_enter Try.func26, Try.ntmps26
    go_wp2_with (refine wpList_load_row rfl 37 _ rfl w.heap.size rfl 37 _ (0, 0) _ I0.out Try.underlying37 rfl (by rw [size32, rowB_size]) ?_)
    refine (hex_is f h HH.out _).mono ?_
    rintro e w1 ⟨rfl, hb1⟩
    have B1 := Lib.hid (bl_trans (bl_alloc (Below.refl _ _) _) hb1)
    have J0 := Lib.hid (I0.out.below hb1)
    clear hb1 I0
    go_wp2_with fail
    refine (P.out _).mono ?_
    rintro e w2 ⟨rfl, hb2⟩
    have B2 := Lib.hid (bl_trans B1.out hb2)
    have K0 := Lib.hid (J0.out.below hb2)
    clear hb2 B1 J0
    have n1 : (w2.alloc (.cells tab32 37)).heap[w2.heap.size]? = some (.cells tab32 37 (0, 0)) := heap_alloc_new w2 _
    have N1 := Lib.hid n1
    clear n1
    go_wp2_with (refine wpList_store_row rfl 37 _ _ rfl w2.heap.size _ rfl rfl 37 _ N1.out (by rw [size32, rowB_size]) (by rw [rowB_size]; rfl) (rowB_one _ _) ?_)
    have m1 : Hb ((w2.alloc (.cells tab32 37)).setRow w2.heap.size (rowB 32 f)) w2.heap.size 37 32 f := setRow_heap _ _ _ _ _ _ N1.out
    have m0 : Hb ((w2.alloc (.cells tab32 37)).setRow w2.heap.size (rowB 32 f)) w.heap.size 37 32 f := (setRow_other _ _ _ _ (by have := K0.out.lt; omega)).trans (K0.out.alloc _)
    have mB : Below w.heap.size w ((w2.alloc (.cells tab32 37)).setRow w2.heap.size (rowB 32 f)) := bl_setRow (bl_alloc B2.out _) B2.out.size _
    generalize hx3 : (w2.alloc (.cells tab32 37)).setRow w2.heap.size (rowB 32 f) = w3 at *
    clear hx3 N1
    refine (G.out _).mono ?_
    rintro e w4 ⟨rfl, hb4⟩
    have L0 := Lib.hid (m0.below hb4)
    have L1 := Lib.hid (m1.below hb4)
    have LB := Lib.hid (bl_trans mB hb4)
    have hlt0 := (m0.below hb4).lt
    have hlt1 := (m1.below hb4).lt
    have n2 : (w4.alloc (.cells tab32 37)).heap[w4.heap.size]? = some (.cells tab32 37 (0, 0)) := heap_alloc_new w4 _
    have N2 := Lib.hid n2
    clear n2 m0 m1 mB hb4 K0 B2
    have q0 : Hb ((w4.alloc (.cells tab32 37)).setRow w4.heap.size (rowB 32 (fun _ => 0))) w.heap.size 37 32 f := (setRow_other _ _ _ _ (by omega)).trans (L0.out.alloc _)
    have q1 : Hb ((w4.alloc (.cells tab32 37)).setRow w4.heap.size (rowB 32 (fun _ => 0))) w2.heap.size 37 32 f := (setRow_other _ _ _ _ (by omega)).trans (L1.out.alloc _)
    have q2 : Hb ((w4.alloc (.cells tab32 37)).setRow w4.heap.size (rowB 32 (fun _ => 0))) w4.heap.size 37 32 (fun _ => 0) := setRow_heap _ _ _ _ _ _ N2.out
    have qB : Below w.heap.size w ((w4.alloc (.cells tab32 37)).setRow w4.heap.size (rowB 32 (fun _ => 0))) := bl_setRow (bl_alloc LB.out _) LB.out.size _
    have Q0 := Lib.hid q0
    have Q1 := Lib.hid q1
    have Q2 := Lib.hid q2
    have QB := Lib.hid qB
    clear q0 q1 q2 qB
    go_wp2_with (first
      | (refine wpList_store_row rfl 37 _ _ rfl w4.heap.size _ rfl rfl 37 _ N2.out (by rw [size32, rowB_size]) (by rw [rowB_size]; rfl) (rowB_one _ _) ?_)
      | (refine wpList_load_guarded (by rfl) 37 (.tmp 6) rfl w2.heap.size rfl 37 _ (0, 0) _ Q1.out Try.underlying37 rfl (by rw [size32, rowB_size]) ?_)
      | (refine wpList_load_guarded (by rfl) 37 (.tmp 2) rfl w.heap.size rfl 37 _ (0, 0) _ Q0.out Try.underlying37 rfl (by rw [size32, rowB_size]) ?_)
      | (refine wpList_load_guarded (by rfl) 37 (.tmp 8) rfl w4.heap.size rfl 37 _ (0, 0) _ Q2.out Try.underlying37 rfl (by rw [size32, rowB_size]) ?_))
    refine (awake_any _).mono ?_
    rintro e w6 ⟨rfl, hb6⟩
    go_wp2
    go_ret
    exact ⟨rfl, bl_trans QB.out hb6⟩

end Go.Proofs.Ythpcmceomamadaa
