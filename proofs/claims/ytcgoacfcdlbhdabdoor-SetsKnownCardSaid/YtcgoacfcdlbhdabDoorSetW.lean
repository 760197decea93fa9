/- The chapter's examples ('works'), over the translated program. It wants math/bits' table as it was laid. -/
import Derived.Test.YtcgoacfcdlbhdabDoorSetF
set_option linter.unusedVariables false
set_option linter.unusedSimpArgs false
namespace Go.Proofs.YtcgoacfcdlbhdabDoor
open Go.RowKit

/-- Four words, written out. -/
def lit4 (a b c d : Nat) : Nat → BitVec 64 := fun j => BitVec.ofNat 64 (if j = 0 then a else if j = 1 then b else if j = 2 then c else d)
instance (f g : Nat → BitVec 64) : Decidable (Eq4 f g) := inferInstanceAs (Decidable (∀ j, j < 4 → f j = g j))

/-- A slice of bytes that was just laid. -/
theorem rd_lit (w : World) (l : List UInt8) (cs : Array Value) (h : cs = (l.map bv).toArray) : Rd (w.alloc (.cells cs 5)) (some ⟨w.heap.size, 0, none⟩) l := by
  subst h
  intro _
  refine ⟨_, rfl, fun j hj => ?_⟩
  have h0 := cell_of_row (w.alloc (.cells (l.map bv).toArray 5)) w.heap.size j _ 5 (0, 0) (heap_alloc_new w _)
  have e : ((⟨w.heap.size, 0, none⟩ : Addr).add j) = ⟨w.heap.size, j, none⟩ := by
    unfold Addr.add
    split
    · rename_i hj0; rw [hj0]
    · simp
  rw [e, h0]
  simp [hj]
theorem of_lit (l : List UInt8) (n : Nat) (cs : Array Value) (w : World) (hl : l.length = n) (hn : n ≤ 1000) (h : cs = (l.map bv).toArray) :
    Calls Tryd.prog 11 #[.slice (some ⟨w.heap.size, 0, none⟩) n n] (w.alloc (.cells cs 5)) (Got4 (w.alloc (.cells cs 5)) (allW nilW (natL l))) :=
  of_any _ n n l hl (by omega) _ (rd_lit w l cs h)

def s1 : Nat → BitVec 64 := allW nilW (natL [1])
def s2 : Nat → BitVec 64 := allW nilW (natL [2])
def s12 : Nat → BitVec 64 := allW nilW (natL [1, 2])
def s23 : Nat → BitVec 64 := allW nilW (natL [2, 3])
def s123 : Nat → BitVec 64 := allW nilW (natL [1, 2, 3])
def s0 : Nat → BitVec 64 := allW nilW (natL [0])
def s1641 : Nat → BitVec 64 := allW nilW (natL [1, 64, 1])
def p6265 : Nat → BitVec 64 := allW nilW (spanL 62 (65 + 1 - 62))
def p21 : Nat → BitVec 64 := allW nilW (spanL 2 (1 + 1 - 2))
theorem same1 : Eq4 s1641 (lit4 2 1 0 0) := by decide +kernel
theorem same2 : Eq4 p6265 (lit4 13835058055282163712 3 0 0) := by decide +kernel
theorem same3 : Eq4 p21 nilW := by decide +kernel
theorem same4 : Eq4 (orW s12 s23) s123 := by decide +kernel
theorem same5 : Eq4 (andW s12 s23) s2 := by decide +kernel
theorem same6 : Eq4 (andW s12 (notW s23)) s1 := by decide +kernel
theorem len0 : (elems (notW s0)).length = 255 := by decide +kernel
theorem least0 : leastV (elems (notW s0)) = .tuple #[.int .u8 1, .bool true] := by
  have h : elems (notW s0) = 1 :: (List.range 254).map (2 + ·) := by decide +kernel
  rw [h]
  rfl
theorem leastn : leastV (elems (allW nilW (natL []))) = .tuple #[.int .u8 0, .bool false] := by
  have h : elems (allW nilW (natL [])) = [] := by decide +kernel
  rw [h]
  rfl

/-- A whole array out of a block of its own, by an operation that is wanted. -/
theorem wpList_load_guarded {P : Program} {ops : Array Oper} {rest : List Oper} {o : Oper} {a : Act} {w : World} {Q : Exit → Act → World → Prop} (hgd : Region.wanted o (yielded ops a.tmps) = true) (ty : TypeId) (x : Operand) (ho : o.op = .load ty x)
    (g : Nat) (hx : a.eval x = .pointer (some ⟨g, 0, none⟩)) (t : TypeId) (cs : Array Value) (fr : Nat × Nat) (d : TypeDesc) (hg : w.heap[g]? = some (.cells cs t fr))
    (hu : P.underlying ty = some d) (hd : (match d with | .struct _ | .array _ _ => true | _ => false) = true) (hi : (P.info? ty).map (·.size) = some cs.size)
    (h : wpList P ops Q rest (a.put o.dst (.agg cs)) w) : wpList P ops Q (o :: rest) a w := by
  refine wpList_step fun K hK => ?_
  rw [if_pos hgd]
  exact wp_load_row ty x ho g hx t cs fr d hg hu hd hi (hK _ _ h)

theorem zero4l (w : World) : (zeroValue 25).run Tryd.prog w = .ok (.agg #[.int .u64 0, .int .u64 0, .int .u64 0, .int .u64 0]) w := by kernel_rfl
theorem nil_row : (#[.int .u64 0, .int .u64 0, .int .u64 0, .int .u64 0] : Array Value) = row4 nilW := by kernel_rfl
theorem eq_lit (f : Nat → BitVec 64) (a b c d : Nat) (cs : Array Value) (hcs : cs = row4 (lit4 a b c d)) (h : Eq4 f (lit4 a b c d)) (W : World) : (Op.equalIn 10000 25 (.agg (row4 f)) (.agg cs)).run Tryd.prog W = .ok true W := by
  subst hcs
  exact same_sets h W

theorem of_s1 (w : World) : Calls Tryd.prog 11 #[.slice (some ⟨w.heap.size, 0, none⟩) 1 1] (w.alloc (.cells #[.int .u8 1] 5)) (Got4 (w.alloc (.cells #[.int .u8 1] 5)) s1) := of_lit [1] 1 _ w rfl (by omega) rfl
theorem of_s2 (w : World) : Calls Tryd.prog 11 #[.slice (some ⟨w.heap.size, 0, none⟩) 1 1] (w.alloc (.cells #[.int .u8 2] 5)) (Got4 (w.alloc (.cells #[.int .u8 2] 5)) s2) := of_lit [2] 1 _ w rfl (by omega) rfl
theorem of_s12 (w : World) : Calls Tryd.prog 11 #[.slice (some ⟨w.heap.size, 0, none⟩) 2 2] (w.alloc (.cells #[.int .u8 1, .int .u8 2] 5)) (Got4 (w.alloc (.cells #[.int .u8 1, .int .u8 2] 5)) s12) := of_lit [1, 2] 2 _ w rfl (by omega) rfl
theorem of_s23 (w : World) : Calls Tryd.prog 11 #[.slice (some ⟨w.heap.size, 0, none⟩) 2 2] (w.alloc (.cells #[.int .u8 2, .int .u8 3] 5)) (Got4 (w.alloc (.cells #[.int .u8 2, .int .u8 3] 5)) s23) := of_lit [2, 3] 2 _ w rfl (by omega) rfl
theorem of_s123 (w : World) : Calls Tryd.prog 11 #[.slice (some ⟨w.heap.size, 0, none⟩) 3 3] (w.alloc (.cells #[.int .u8 1, .int .u8 2, .int .u8 3] 5)) (Got4 (w.alloc (.cells #[.int .u8 1, .int .u8 2, .int .u8 3] 5)) s123) := of_lit [1, 2, 3] 3 _ w rfl (by omega) rfl
theorem of_s0 (w : World) : Calls Tryd.prog 11 #[.slice (some ⟨w.heap.size, 0, none⟩) 1 1] (w.alloc (.cells #[.int .u8 0] 5)) (Got4 (w.alloc (.cells #[.int .u8 0] 5)) s0) := of_lit [0] 1 _ w rfl (by omega) rfl
theorem of_s1641 (w : World) : Calls Tryd.prog 11 #[.slice (some ⟨w.heap.size, 0, none⟩) 3 3] (w.alloc (.cells #[.int .u8 1, .int .u8 64, .int .u8 1] 5)) (Got4 (w.alloc (.cells #[.int .u8 1, .int .u8 64, .int .u8 1] 5)) s1641) := of_lit [1, 64, 1] 3 _ w rfl (by omega) rfl
theorem of_none (w : World) : Calls Tryd.prog 11 #[.slice none 0 0] w (Got4 w (allW nilW (natL []))) := of_any none 0 0 [] rfl (by omega) w (Rd.nil _ _)
theorem span_a (w : World) : Calls Tryd.prog 6 #[.int .u8 62, .int .u8 65] w (Got4 w p6265) := span_any 62 65 (by omega) (by omega) w
theorem span_b (w : World) : Calls Tryd.prog 6 #[.int .u8 2, .int .u8 1] w (Got4 w p21) := span_any 2 1 (by omega) (by omega) w
theorem len_0 (w : World) : Calls Tryd.prog 8 #[.agg (row4 (notW s0))] w (GotN w 255) := by
  have h := len_any (notW s0) w
  rw [len0] at h
  exact h
theorem least_0 (w : World) (hT : Tab w) : Calls Tryd.prog 10 #[.agg (row4 (notW s0))] w (fun e w' => e = .returned (.tuple #[.int .u8 1, .bool true]) ∧ Below w.heap.size w w') := by
  have h := least_any (notW s0) w hT
  unfold GotL at h
  rw [least0] at h
  exact h
theorem least_n (w : World) (hT : Tab w) : Calls Tryd.prog 10 #[.agg (row4 (allW nilW (natL [])))] w (fun e w' => e = .returned (.tuple #[.int .u8 0, .bool false]) ∧ Below w.heap.size w w') := by
  have h := least_any (allW nilW (natL [])) w hT
  unfold GotL at h
  rw [leastn] at h
  exact h

set_option maxHeartbeats 4000000 in
set_option maxRecDepth 100000 in
theorem works_any (w : World) (hT : Tab w) : Calls Tryd.prog 5 #[] w (GotB w true) := by
  have hz := zero4l
  have q1 := eq_lit s1641 2 1 0 0 #[.int .u64 2, .int .u64 1, .int .u64 0, .int .u64 0] (by kernel_rfl) same1
  have q2 := eq_lit p6265 13835058055282163712 3 0 0 #[.int .u64 13835058055282163712, .int .u64 3, .int .u64 0, .int .u64 0] (by kernel_rfl) same2
  have q3 := eq_lit p21 0 0 0 0 #[.int .u64 0, .int .u64 0, .int .u64 0, .int .u64 0] (by kernel_rfl) (by decide +kernel)
  have q4 := same_sets same4
  have q5 := same_sets same5
  have q6 := same_sets same6
  have HT := Lib.hid hT
  clear hT
  go_enter Tryd.func5, Tryd.ntmps5
  go_wp2_with fail
  refine (of_s12 _).mono ?_
  rintro e w1 ⟨rfl, hb1⟩
  have Bw1 := Lib.hid (bl_trans (bl_alloc (Below.refl w.heap.size w) (.cells #[.int .u8 1, .int .u8 2] 5)) hb1)
  clear hb1
  go_wp2_with fail
  refine (of_s23 _).mono ?_
  rintro e w2 ⟨rfl, hb2⟩
  have Bw2 := Lib.hid (bl_trans (bl_alloc Bw1.out (.cells #[.int .u8 2, .int .u8 3] 5)) hb2)
  clear Bw1
  clear hb2
  have m1 := (H4.new w2 nilW).alloc (.cells (row4 nilW) 25)
  have m2 := H4.new1 w2 (.cells (row4 nilW) 25) nilW
  rw [← nil_row] at m1 m2
  have M1 := Lib.hid m1
  have m2r := m2.row (k := w2.heap.size) (by omega) (row4 s12)
  have M2 := Lib.hid m2r
  have m1' := (m1.laid (f' := s12)).row (k := w2.heap.size + 1) (by omega) (row4 s23)
  have m2' := m2r.laid (f' := s23)
  have mb := bl_setRow (bl_setRow (bl_alloc (bl_alloc Bw2.out (.cells #[.int .u64 0, .int .u64 0, .int .u64 0, .int .u64 0] 25)) (.cells #[.int .u64 0, .int .u64 0, .int .u64 0, .int .u64 0] 25)) (g := w2.heap.size) (by have := Bw2.out.size; omega) (row4 s12)) (g := w2.heap.size + 1) (by have := Bw2.out.size; omega) (row4 s23)
  clear m1 m2 m2r
  go_upto_region 2 with (first
    | (refine wpList_store_row rfl 25 _ _ rfl w2.heap.size _ rfl rfl 25 _ M1.out (by rw [size4, row4_size]) rfl (row4_one _) ?_)
    | (refine wpList_store_row rfl 25 _ _ rfl (w2.heap.size + 1) _ rfl rfl 25 _ M2.out (by rw [size4, row4_size]) rfl (row4_one _) ?_))
  have hg0 : w.heap.size ≤ w2.heap.size := Bw2.out.size
  clear M1 M2 Bw2
  generalize ((((w2.alloc (.cells #[.int .u64 0, .int .u64 0, .int .u64 0, .int .u64 0] 25)).alloc (.cells #[.int .u64 0, .int .u64 0, .int .u64 0, .int .u64 0] 25)).setRow w2.heap.size (row4 s12)).setRow (w2.heap.size + 1) (row4 s23)) = wm at *
  generalize w2.heap.size = g at *
  have Bwm := Lib.hid mb
  have M1wm := Lib.hid m1'
  have M2wm := Lib.hid m2'
  clear mb m1' m2'
  go_wp2_with fail
  refine (of_s0 _).mono ?_
  rintro e w3 ⟨rfl, hb3⟩
  have Bw3 := Lib.hid (bl_trans (bl_alloc Bwm.out (.cells #[.int .u8 0] 5)) hb3)
  have M1w3 := Lib.hid ((M1wm.out.alloc (.cells #[.int .u8 0] 5)).below hb3)
  clear M1wm
  have M2w3 := Lib.hid ((M2wm.out.alloc (.cells #[.int .u8 0] 5)).below hb3)
  clear M2wm
  clear Bwm
  clear hb3
  go_wp2_with fail
  refine (not_any s0 _).mono ?_
  rintro e w4 ⟨rfl, hb4⟩
  have Bw4 := Lib.hid (bl_trans Bw3.out hb4)
  have M1w4 := Lib.hid (M1w3.out.below hb4)
  clear M1w3
  have M2w4 := Lib.hid (M2w3.out.below hb4)
  clear M2w3
  clear Bw3
  clear hb4
  go_wp2_with fail
  refine (least_0 _ (HT.out.below Bw4.out)).mono ?_
  rintro e w5 ⟨rfl, hb5⟩
  have Bw5 := Lib.hid (bl_trans Bw4.out hb5)
  have M1w5 := Lib.hid (M1w4.out.below hb5)
  clear M1w4
  have M2w5 := Lib.hid (M2w4.out.below hb5)
  clear M2w4
  clear Bw4
  clear hb5
  go_wp2_with fail
  refine (of_none _).mono ?_
  rintro e w6 ⟨rfl, hb6⟩
  have Bw6 := Lib.hid (bl_trans Bw5.out hb6)
  have M1w6 := Lib.hid (M1w5.out.below hb6)
  clear M1w5
  have M2w6 := Lib.hid (M2w5.out.below hb6)
  clear M2w5
  clear Bw5
  clear hb6
  go_wp2_with fail
  refine (least_n _ (HT.out.below Bw6.out)).mono ?_
  rintro e w7 ⟨rfl, hb7⟩
  have Bw7 := Lib.hid (bl_trans Bw6.out hb7)
  have M1w7 := Lib.hid (M1w6.out.below hb7)
  clear M1w6
  have M2w7 := Lib.hid (M2w6.out.below hb7)
  clear M2w6
  clear Bw6
  clear hb7
  go_wp2_with fail
  refine (of_s1641 _).mono ?_
  rintro e w8 ⟨rfl, hb8⟩
  have Bw8 := Lib.hid (bl_trans (bl_alloc Bw7.out (.cells #[.int .u8 1, .int .u8 64, .int .u8 1] 5)) hb8)
  have M1w8 := Lib.hid ((M1w7.out.alloc (.cells #[.int .u8 1, .int .u8 64, .int .u8 1] 5)).below hb8)
  clear M1w7
  have M2w8 := Lib.hid ((M2w7.out.alloc (.cells #[.int .u8 1, .int .u8 64, .int .u8 1] 5)).below hb8)
  clear M2w7
  clear Bw7
  clear hb8
  go_wp2_with fail
  refine (span_a _).mono ?_
  rintro e w9 ⟨rfl, hb9⟩
  have Bw9 := Lib.hid (bl_trans Bw8.out hb9)
  have M1w9 := Lib.hid (M1w8.out.below hb9)
  clear M1w8
  have M2w9 := Lib.hid (M2w8.out.below hb9)
  clear M2w8
  clear Bw8
  clear hb9
  go_wp2_with fail
  refine (span_b _).mono ?_
  rintro e w10 ⟨rfl, hb10⟩
  have Bw10 := Lib.hid (bl_trans Bw9.out hb10)
  have M1w10 := Lib.hid (M1w9.out.below hb10)
  clear M1w9
  have M2w10 := Lib.hid (M2w9.out.below hb10)
  clear M2w9
  clear Bw9
  clear hb10
  go_wp2_with (first
    | (refine wpList_load_guarded (by rfl) 25 (.tmp 1) rfl g rfl 25 _ (0, 0) _ M1w10.out Tryd.underlying25 rfl (by rw [size4, row4_size]) ?_)
    | (refine wpList_load_guarded (by rfl) 25 (.tmp 2) rfl (g + 1) rfl 25 _ (0, 0) _ M2w10.out Tryd.underlying25 rfl (by rw [size4, row4_size]) ?_))
  refine (union_any s12 s23 _).mono ?_
  rintro e w11 ⟨rfl, hb11⟩
  have Bw11 := Lib.hid (bl_trans Bw10.out hb11)
  have M1w11 := Lib.hid (M1w10.out.below hb11)
  clear M1w10
  have M2w11 := Lib.hid (M2w10.out.below hb11)
  clear M2w10
  clear Bw10
  clear hb11
  go_wp2_with fail
  refine (of_s123 _).mono ?_
  rintro e w12 ⟨rfl, hb12⟩
  have Bw12 := Lib.hid (bl_trans (bl_alloc Bw11.out (.cells #[.int .u8 1, .int .u8 2, .int .u8 3] 5)) hb12)
  have M1w12 := Lib.hid ((M1w11.out.alloc (.cells #[.int .u8 1, .int .u8 2, .int .u8 3] 5)).below hb12)
  clear M1w11
  have M2w12 := Lib.hid ((M2w11.out.alloc (.cells #[.int .u8 1, .int .u8 2, .int .u8 3] 5)).below hb12)
  clear M2w11
  clear Bw11
  clear hb12
  go_wp2_with (first
    | (refine wpList_load_guarded (by rfl) 25 (.tmp 1) rfl g rfl 25 _ (0, 0) _ M1w12.out Tryd.underlying25 rfl (by rw [size4, row4_size]) ?_)
    | (refine wpList_load_guarded (by rfl) 25 (.tmp 2) rfl (g + 1) rfl 25 _ (0, 0) _ M2w12.out Tryd.underlying25 rfl (by rw [size4, row4_size]) ?_))
  refine (both_any s12 s23 _).mono ?_
  rintro e w13 ⟨rfl, hb13⟩
  have Bw13 := Lib.hid (bl_trans Bw12.out hb13)
  have M1w13 := Lib.hid (M1w12.out.below hb13)
  clear M1w12
  have M2w13 := Lib.hid (M2w12.out.below hb13)
  clear M2w12
  clear Bw12
  clear hb13
  go_wp2_with fail
  refine (of_s2 _).mono ?_
  rintro e w14 ⟨rfl, hb14⟩
  have Bw14 := Lib.hid (bl_trans (bl_alloc Bw13.out (.cells #[.int .u8 2] 5)) hb14)
  have M1w14 := Lib.hid ((M1w13.out.alloc (.cells #[.int .u8 2] 5)).below hb14)
  clear M1w13
  have M2w14 := Lib.hid ((M2w13.out.alloc (.cells #[.int .u8 2] 5)).below hb14)
  clear M2w13
  clear Bw13
  clear hb14
  go_wp2_with (first
    | (refine wpList_load_guarded (by rfl) 25 (.tmp 1) rfl g rfl 25 _ (0, 0) _ M1w14.out Tryd.underlying25 rfl (by rw [size4, row4_size]) ?_)
    | (refine wpList_load_guarded (by rfl) 25 (.tmp 2) rfl (g + 1) rfl 25 _ (0, 0) _ M2w14.out Tryd.underlying25 rfl (by rw [size4, row4_size]) ?_))
  refine (less_any s12 s23 _).mono ?_
  rintro e w15 ⟨rfl, hb15⟩
  have Bw15 := Lib.hid (bl_trans Bw14.out hb15)
  have M1w15 := Lib.hid (M1w14.out.below hb15)
  clear M1w14
  have M2w15 := Lib.hid (M2w14.out.below hb15)
  clear M2w14
  clear Bw14
  clear hb15
  go_wp2_with fail
  refine (of_s1 _).mono ?_
  rintro e w16 ⟨rfl, hb16⟩
  have Bw16 := Lib.hid (bl_trans (bl_alloc Bw15.out (.cells #[.int .u8 1] 5)) hb16)
  have M1w16 := Lib.hid ((M1w15.out.alloc (.cells #[.int .u8 1] 5)).below hb16)
  clear M1w15
  have M2w16 := Lib.hid ((M2w15.out.alloc (.cells #[.int .u8 1] 5)).below hb16)
  clear M2w15
  clear Bw15
  clear hb16
  go_wp2_with fail
  refine (of_s0 _).mono ?_
  rintro e w17 ⟨rfl, hb17⟩
  have Bw17 := Lib.hid (bl_trans (bl_alloc Bw16.out (.cells #[.int .u8 0] 5)) hb17)
  have M1w17 := Lib.hid ((M1w16.out.alloc (.cells #[.int .u8 0] 5)).below hb17)
  clear M1w16
  have M2w17 := Lib.hid ((M2w16.out.alloc (.cells #[.int .u8 0] 5)).below hb17)
  clear M2w16
  clear Bw16
  clear hb17
  go_wp2_with fail
  refine (not_any s0 _).mono ?_
  rintro e w18 ⟨rfl, hb18⟩
  have Bw18 := Lib.hid (bl_trans Bw17.out hb18)
  have M1w18 := Lib.hid (M1w17.out.below hb18)
  clear M1w17
  have M2w18 := Lib.hid (M2w17.out.below hb18)
  clear M2w17
  clear Bw17
  clear hb18
  go_wp2_with fail
  refine (len_0 _).mono ?_
  rintro e w19 ⟨rfl, hb19⟩
  have Bw19 := Lib.hid (bl_trans Bw18.out hb19)
  have M1w19 := Lib.hid (M1w18.out.below hb19)
  clear M1w18
  have M2w19 := Lib.hid (M2w18.out.below hb19)
  clear M2w18
  clear Bw18
  clear hb19
  go_wp2
  go_ret
  exact ⟨rfl, Bw19.out⟩


end Go.Proofs.YtcgoacfcdlbhdabDoor
