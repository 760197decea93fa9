/- The reader of patterns: joined, leaf, wayEnds, allButEnds. No condition. -/
import Derived.Test.YteedmkokbapkgaaDoorRgF
import Derived.StillTailTactics
set_option linter.unusedVariables false
set_option linter.unusedSimpArgs false
namespace Go.Proofs.YteedmkokbapkgaaDoor
open Go.RowKit

theorem joined_any {n0 g : Nat} {s r : List UInt8} {l : List RN} {w : World} (k a b : Int) (h : RdAt n0 g s r l w) (hm : l.length + 2 * r.length + 1 ≤ 2060) : Calls Tryd.prog 73 #[.pointer (some ⟨g, 0, none⟩), .int .i64 k, .int .i64 a, .int .i64 b] w
    (GotM w n0 g s r (l ++ [⟨k, a, b, nilS⟩]) (.int .i64 (l.length : Int))) := by
  have hb := built_join k a b
  have H := Lib.hid h
  clear h
  go_enter Tryd.func73, Tryd.ntmps73
  go_wp2_with fail
  refine (made_any ⟨k, a, b, nilS⟩ H.out hm).mono ?_
  rintro e w1 ⟨rfl, h1, hb1⟩
  have H1 := Lib.hid h1
  have HB1 := Lib.hid hb1
  clear h1 hb1
  go_wp2_with fail
  go_ret
  exact ⟨rfl, H1.out, HB1.out⟩

theorem wpList_leaf {ops : Array Oper} {rest : List Oper} {o : Oper} {a : Act} {w : World} {Q : Exit → Act → World → Prop} (z : S4) (x : Operand) (hg : o.guard = none) (ho : o.op = .build 59 #[(0, .const (.int .i64 2)), (1, x)]) (hx : a.eval x = encS z)
    (h : wpList Tryd.prog ops Q rest (a.put o.dst (aggR ⟨2, 0, 0, z⟩)) w) : wpList Tryd.prog ops Q (o :: rest) a w := by
  have hb := built_leaf 2 z
  have hc : a.eval (.const (.int .i64 2)) = .int .i64 2 := rfl
  refine wpList_build hg _ _ ho ?_ ?_
  · simp [hx, hc, hb]
  · simpa [hx, hc, hb, aggR] using h

set_option maxRecDepth 20000 in
theorem leaf_any {n0 g : Nat} {s r : List UInt8} {l : List RN} {w : World} (z : S4) (h : RdAt n0 g s r l w) (hm : l.length + 2 * r.length + 1 ≤ 2060) : Calls Tryd.prog 99 #[.pointer (some ⟨g, 0, none⟩), encS z] w
    (GotM w n0 g s r (l ++ [⟨2, 0, 0, z⟩]) (.int .i64 (l.length : Int))) := by
  have hb := built_leaf 2 z
  have b0 := bl_alloc (Below.refl w.heap.size w) (.cells (row4 z.f) 57)
  have H := Lib.hid (h.below b0)
  have HN : HS (w.alloc (.cells (row4 z.f) 57)) w.heap.size z := H4.new w z.f
  have C := Lib.hid HN
  have hlt := h.lt
  have hbase := h.base
  clear h HN b0
  unfold encS at hb
  show Calls Tryd.prog 99 #[.pointer (some ⟨g, 0, none⟩), .agg (row4 z.f)] w _
  go_enter Tryd.func99, Tryd.ntmps99
  go_wp2_with (first
    | (refine wpList_load_row rfl 57 _ rfl w.heap.size rfl 57 _ (0, 0) _ C.out Tryd.underlying57 rfl (by rw [size4, row4_size]) ?_)
    | (refine wpList_leaf z _ rfl rfl rfl ?_))
  refine (made_any ⟨2, 0, 0, z⟩ H.out hm).mono ?_
  rintro e w1 ⟨rfl, h1, hb1⟩
  have H1 := Lib.hid h1
  have HB1 := Lib.hid hb1
  clear h1 hb1 H C
  go_wp2_with fail
  go_ret
  exact ⟨rfl, H1.out, ((bl_alloc (Below.refl w.heap.size w) _).mono (by omega)).trans HB1.out⟩

set_option maxRecDepth 20000 in
theorem ends_any {n0 g : Nat} {s r : List UInt8} {l : List RN} {w : World} (h : RdAt n0 g s r l w) : Calls Tryd.prog 85 #[.pointer (some ⟨g, 0, none⟩)] w fun e w' => e = .returned (.bool (endsB r)) ∧ RdAt n0 g s r l w' ∧ Below w.heap.size w w' := by
  obtain ⟨k, HK, HL, hk, c0, c1, f1, HX⟩ := h.cells
  have hlen := fun ty => len_at s #[9] ty rfl
  have H := Lib.hid h
  clear h
  cases r with
  | nil =>
    have hkl : k = s.length := by have := HL.out; simpa using this
    have hb : (((k : Nat) : Int) == (s.length : Int)) = true := by rw [hkl]; simp
    clear hkl
    go_enter Tryd.func85, Tryd.ntmps85
    go_wp2_with (go_quiet (fail))
    go_ret
    have hB := bl_drewN (Below.refl w.heap.size w) nq
    exact ⟨rfl, H.out.below hB, hB⟩
  | cons x y =>
    have hkl : k < s.length := by have := HL.out; simp at this; omega
    have hb : (((k : Nat) : Int) == (s.length : Int)) = false := by simp; omega
    clear hkl
    go_enter Tryd.func85, Tryd.ntmps85
    go_wp2_with fail
    go_still_tail 13, (by kernel_rfl)
    change wpList _ _ _ _ _ w.drew
    have hB := bl_drewN (Below.refl w.heap.size w) 1
    have hI := H.out.below hB
    have HI := Lib.hid hI
    have HB : Hid (Below w.heap.size w w.drew) := Lib.hid hB
    have HI2 : Hid (RdAt n0 g s (x :: y) l w.drew) := Lib.hid hI
    clear hB hI HI
    generalize w.drew = w1 at *
    go_wp2_with fail
    refine (look_any HI2.out).mono ?_
    rintro e w2 ⟨rfl, h2, hb2⟩
    have H2 := Lib.hid h2
    have HB2 := Lib.hid (bl_trans HB.out hb2)
    clear h2 hb2
    go_wp2_with fail
    refine (has_list [124, 41] (look (x :: y)) _).mono ?_
    rintro e w3 ⟨rfl, rfl⟩
    have hE : hasB [124, 41] (look (x :: y)) = endsB (x :: y) := by
      rw [look_cons, endsB, look_cons, hasB]
      simp only [idxB]
      by_cases h1 : (124 : UInt8) = x
      · subst h1; rfl
      · by_cases h2 : (41 : UInt8) = x
        · subst h2; rfl
        · rw [if_neg h1, if_neg h2]
          simp [Ne.symm h1, Ne.symm h2]
    rw [hE]
    go_wp2_with fail
    go_ret
    exact ⟨rfl, H2.out, HB2.out⟩

set_option maxRecDepth 20000 in
theorem dot_any (w : World) : Calls Tryd.prog 77 #[] w (GotS w dotS) := by
  have hz := zero4
  have h0 := HS.new w
  have b0 := bl_alloc (Below.refl w.heap.size w) (.cells tab4 57)
  have H0 := Lib.hid h0
  have B0 := Lib.hid b0
  clear h0 b0
  go_enter Tryd.func77, Tryd.ntmps77
  go_wp2_with fail
  clear hz
  have hof := of_one 10 (w.alloc (.cells tab4 57))
  rw [World.size_alloc] at hof
  generalize w.alloc (.cells tab4 57) = w0 at *
  refine hof.mono ?_
  rintro e w1 ⟨rfl, hb1⟩
  have B1 := bl_trans (bl_alloc (Below.refl w0.heap.size w0) (.cells #[.int .u8 ((10 : UInt8).toNat : Int)] 5)) hb1
  have H1 := Lib.hid (H0.out.below B1)
  have C1 := Lib.hid (bl_trans B0.out B1)
  clear B1 hb1 H0 B0
  go_wp2_with fail
  refine (not_is (oneS 10) _).mono ?_
  rintro e w2 ⟨rfl, hb2⟩
  have H2 := Lib.hid (H1.out.below hb2)
  have C2 := Lib.hid (bl_trans C1.out hb2)
  clear hb2 H1 C1
  unfold encS
  go_wp2_with (refine wpList_store_row rfl 57 _ _ rfl w.heap.size _ rfl rfl 57 _ H2.out (by rw [size4, row4_size]) (by rw [row4_size, row4_size]) (row4_one _) ?_)
  refine bodyPost_ret (v := encS dotS) (results_cell_row rfl _ _ w.heap.size 57 _ (0, 0) _ rfl (setRow_heap _ _ _ _ _ _ H2.out) Tryd.underlying57 rfl (by rw [size4, row4_size])) rfl ⟨rfl, bl_setRow C2.out (by omega) _⟩

end Go.Proofs.YteedmkokbapkgaaDoor
