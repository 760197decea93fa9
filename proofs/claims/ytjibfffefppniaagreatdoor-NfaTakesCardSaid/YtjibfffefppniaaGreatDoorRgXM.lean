/- spanOf: what is known of a node's texts, by its parts. Under: math/bits' table as it was laid. -/
import Derived.Test.YtjibfffefppniaaGreatDoorRgVM
import Derived.Test.YtjibfffefppniaaGreatDoorSetMM
set_option linter.unusedVariables false
set_option linter.unusedSimpArgs false
namespace Go.Proofs.YtjibfffefppniaaGreatDoor
open Go.RowKit

def cellsSp (a : Sp) : List Value := .bool a.none :: (setCells a.fir ++ setCells a.las)
def encSp (a : Sp) : Value := .agg (cellsSp a).toArray
/-- A block that holds a span. -/
def HSp (w : World) (b : Nat) (a : Sp) : Prop := w.heap[b]? = some (.cells (cellsSp a).toArray 61 (0, 0))
theorem HSp.lt {w : World} {b : Nat} {a : Sp} (h : HSp w b a) : b < w.heap.size := (Array.getElem?_eq_some_iff.1 h).1
theorem HSp.none {w : World} {b : Nat} {a : Sp} (h : HSp w b a) : w.cell? ⟨b, 0, .none⟩ = some (.bool a.none) := by rw [cell_of_row w b _ _ _ _ h]; rfl
theorem HSp.free {w : World} {b : Nat} {a : Sp} (h : HSp w b a) (j : Nat) : w.frozen? ⟨b, j, .none⟩ = false := frozen_of_row w b j _ _ h
theorem HSp.fir {w : World} {b : Nat} {a : Sp} (h : HSp w b a) : ∀ j u, (setCells a.fir)[j]? = some u → w.cell? ((⟨b, 1, .none⟩ : Addr).add j) = some u := fun j u hu => by
  have hj : j < 4 := (List.getElem?_eq_some_iff.1 hu).1
  rw [add_mk, cell_of_row w b _ _ _ _ h]
  match j, hj with
  | 0, _ => exact hu
  | 1, _ => exact hu
  | 2, _ => exact hu
  | 3, _ => exact hu
theorem HSp.las {w : World} {b : Nat} {a : Sp} (h : HSp w b a) : ∀ j u, (setCells a.las)[j]? = some u → w.cell? ((⟨b, 5, .none⟩ : Addr).add j) = some u := fun j u hu => by
  have hj : j < 4 := (List.getElem?_eq_some_iff.1 hu).1
  rw [add_mk, cell_of_row w b _ _ _ _ h]
  match j, hj with
  | 0, _ => exact hu
  | 1, _ => exact hu
  | 2, _ => exact hu
  | 3, _ => exact hu
theorem HSp.whole {w : World} {b : Nat} {a : Sp} (h : HSp w b a) : ∀ j u, (cellsSp a)[j]? = some u → w.cell? ((⟨b, 0, .none⟩ : Addr).add j) = some u := fun j u hu => by
  rw [add_mk, cell_of_row w b _ _ _ _ h]
  simpa using hu
theorem HSp.kept {w w' : World} {b : Nat} {a : Sp} {row : Option Nat} (h : HSp w b a) (hg : w.grownBy w' row) (hne : row ≠ some b) : HSp w' b a := (hg.block b h.lt (fun e => hne e.symm)).trans h
theorem HSp.below {w w' : World} {b : Nat} {a : Sp} (h : HSp w b a) (hb : Below w.heap.size w w') : HSp w' b a := (hb.block b h.lt).trans h
theorem HSp.laid {w : World} {b : Nat} {a : Sp} (h : HSp w b a) (c : Sp) : HSp (w.setRow b (cellsSp c).toArray) b c := setRow_heap _ _ _ _ _ _ h
theorem HSp.row {w : World} {b k : Nat} {a : Sp} (h : HSp w b a) (hne : b ≠ k) (cs : Array Value) : HSp (w.setRow k cs) b a := (setRow_other _ _ _ _ hne).trans h
theorem HS.row {w : World} {b k : Nat} {s : S4} (h : HS w b s) (hne : b ≠ k) (cs : Array Value) : HS (w.setRow k cs) b s := (setRow_other _ _ _ _ hne).trans h
theorem HB.row {w : World} {b k N : Nat} {B : Nat → S4} (h : HB w b N B) (hne : b ≠ k) (cs : Array Value) : HB (w.setRow k cs) b N B := (setRow_other _ _ _ _ hne).trans h
theorem HB.kept {w w' : World} {b N : Nat} {B : Nat → S4} {row : Option Nat} (h : HB w b N B) (hg : w.grownBy w' row) (hne : row ≠ some b) : HB w' b N B := (hg.block b h.lt (fun e => hne e.symm)).trans h
theorem splice_none (a : Sp) (x : Bool) : (cellsSp a).set 0 (.bool x) = cellsSp ⟨x, a.fir, a.las⟩ := rfl
theorem splice_fir (a : Sp) (x : S4) : splice (cellsSp a) 1 (setCells x) = cellsSp ⟨a.none, x, a.las⟩ := rfl
theorem splice_las (a : Sp) (x : S4) : splice (cellsSp a) 5 (setCells x) = cellsSp ⟨a.none, a.fir, x⟩ := rfl
theorem size_span : (Tryz.prog.info? 61).map (·.size) = some 9 := by kernel_rfl
theorem agg_span (w : World) : (isAgg 61).run Tryz.prog w = .ok true w := by kernel_rfl
theorem sz_span (w : World) : (sizeOf 61).run Tryz.prog w = .ok 9 w := by kernel_rfl
theorem oneCellsSp (a : Sp) : ∀ v ∈ cellsSp a, v.oneCell' = true := by simp [cellsSp, setCells, dv, Value.oneCell']
theorem all_oneSp (a : Sp) : (cellsSp a).toArray.all (·.oneCell') = true := by simp [cellsSp, setCells, dv, Value.oneCell']
theorem zero_span (w : World) : (zeroValue 61).run Tryz.prog w = .ok (.agg (cellsSp nilSp).toArray) w := by kernel_rfl
theorem built_span3 (x : Bool) (f l : S4) : Tryz.prog.built 61 [(0, Value.bool x), (1, encS f), (2, encS l)] = some (cellsSp ⟨x, f, l⟩).toArray := by kernel_rfl
theorem built_span2 (f l : S4) : Tryz.prog.built 61 [(1, encS f), (2, encS l)] = some (cellsSp ⟨false, f, l⟩).toArray := by kernel_rfl
theorem built_span1 (x : Bool) : Tryz.prog.built 61 [(0, Value.bool x)] = some (cellsSp ⟨x, nilS, nilS⟩).toArray := by kernel_rfl
theorem wpList_span3 {ops : Array Oper} {rest : List Oper} {o : Oper} {a : Act} {w : World} {Q : Exit → Act → World → Prop} (x y z : Operand) (t : Bool) (f l : S4) (hg : o.guard = none) (ho : o.op = .build 61 #[(0, x), (1, y), (2, z)]) (hx : a.eval x = .bool t) (hy : a.eval y = encS f) (hz : a.eval z = encS l)
    (h : wpList Tryz.prog ops Q rest (a.put o.dst (encSp ⟨t, f, l⟩)) w) : wpList Tryz.prog ops Q (o :: rest) a w := by
  have hb := built_span3 t f l
  refine wpList_build hg _ _ ho ?_ ?_
  · simp [hx, hy, hz, hb]
  · simpa [hx, hy, hz, hb, encSp] using h
theorem wpList_span2 {ops : Array Oper} {rest : List Oper} {o : Oper} {a : Act} {w : World} {Q : Exit → Act → World → Prop} (y z : Operand) (f l : S4) (hg : o.guard = none) (ho : o.op = .build 61 #[(1, y), (2, z)]) (hy : a.eval y = encS f) (hz : a.eval z = encS l)
    (h : wpList Tryz.prog ops Q rest (a.put o.dst (encSp ⟨false, f, l⟩)) w) : wpList Tryz.prog ops Q (o :: rest) a w := by
  have hb := built_span2 f l
  refine wpList_build hg _ _ ho ?_ ?_
  · simp [hy, hz, hb]
  · simpa [hy, hz, hb, encSp] using h
theorem wp_span3 {o : Oper} {a : Act} {w : World} {K : Act → World → Prop} {Q : Exit → Act → World → Prop} (x y z : Operand) (t : Bool) (f l : S4) (ho : o.op = .build 61 #[(0, x), (1, y), (2, z)]) (hx : a.eval x = .bool t) (hy : a.eval y = encS f) (hz : a.eval z = encS l)
    (h : K (a.put o.dst (encSp ⟨t, f, l⟩)) w) : o.wp Tryz.prog a w K Q := by
  have hb := built_span3 t f l
  refine wp_build _ _ ho ?_ ?_
  · simp [hx, hy, hz, hb]
  · simpa [hx, hy, hz, hb, encSp] using h
theorem wpList_span1 {ops : Array Oper} {rest : List Oper} {o : Oper} {a : Act} {w : World} {Q : Exit → Act → World → Prop} (x : Operand) (t : Bool) (hg : o.guard = none) (ho : o.op = .build 61 #[(0, x)]) (hx : a.eval x = .bool t)
    (h : wpList Tryz.prog ops Q rest (a.put o.dst (encSp ⟨t, nilS, nilS⟩)) w) : wpList Tryz.prog ops Q (o :: rest) a w := by
  have hb := built_span1 t
  refine wpList_build hg _ _ ho ?_ ?_
  · simp [hx, hb]
  · simpa [hx, hb, encSp] using h
theorem wpList_store_mid {ops : Array Oper} {rest : List Oper} {o : Oper} {a : Act} {w : World} {Q : Exit → Act → World → Prop} (hgd : o.guard = none) (ty : TypeId) (x y : Operand) (ho : o.op = .store ty x y) (g off : Nat) (hx : a.eval x = .pointer (some ⟨g, off, none⟩)) (vs : List Value) (hy : a.eval y = .agg vs.toArray)
    (t : TypeId) (cs : List Value) (hg : w.heap[g]? = some (.cells cs.toArray t (0, 0))) (hi : (Tryz.prog.info? ty).map (·.size) = some vs.length) (hl : off + vs.length ≤ cs.length) (h1 : ∀ v ∈ vs, v.oneCell' = true)
    (h : wpList Tryz.prog ops Q rest (a.put o.dst undef) (w.setRow g (splice cs off vs).toArray)) : wpList Tryz.prog ops Q (o :: rest) a w :=
  wpList_plain hgd fun _ hK => wp_store_mid ty x y ho g off hx vs hy t cs hg hi hl h1 (hK _ _ h)

/-- What a call of spanOf finds. -/
structure SpanAt (w : World) (C q N c i : Nat) (l : List RN) (B : Nat → S4) : Prop where
  tab : Tab w
  tabq : 0 < q
  apart : C ≠ q
  nodes : ∃ A, w.cell? ⟨C, 9, .none⟩ = some (.slice A N c) ∧ RdR w A l
  behind : w.cell? ⟨C, 10, .none⟩ = some (.slice (some ⟨q, 0, .none⟩) N N)
  row : HB w q N B
  len : l.length = N
  most : N ≤ 256
  place : i < N

def GotSp (w : World) (q N : Nat) (a : Sp) (B : Nat → S4) (e : Ending) (w' : World) : Prop := e = .returned (encSp a) ∧ HB w' q N B ∧ w.grownBy w' (some q)

set_option maxRecDepth 100000 in
set_option maxHeartbeats 4000000 in
theorem span_of (C q N c i : Nat) (l : List RN) (B : Nat → S4) (a b : Sp) (w : World) (h : SpanAt w C q N c i l B) (hal : ∀ p, p < 256 → hasS a.las p = true → p < N) :
    Calls Tryz.prog 43 #[.pointer (some ⟨C, 0, none⟩), .int .i64 (i : Int), encSp a, encSp b] w (GotSp w q N (spanE (l.getD i ⟨0, 0, 0, nilS⟩) i a b) (spanB (l.getD i ⟨0, 0, 0, nilS⟩) a b B)) := by
  obtain ⟨hT, hTq, hCq, ⟨A, hc9, hr⟩, hc10, hB, hl, hN, hi⟩ := h
  have hilt : i < l.length := by omega
  obtain ⟨ad, rfl, hcs⟩ := hr i hilt
  have hk0 := hcs 0 _ rfl
  have hnd : l.getD i ⟨0, 0, 0, nilS⟩ = l[i] := by rw [List.getD_eq_getElem?_getD, List.getElem?_eq_getElem hilt]; rfl
  rw [hnd]
  generalize l[i] = nd at *
  obtain ⟨kd, na, nb, z⟩ := nd
  have hq0 := hB.lt
  have hC0 : C < w.heap.size := World.block_lt_of_cell? w _ hc9
  have hk : w.cell? (ad.add (i * 7)) = some (.int .i64 kd) := by simpa [Addr.add] using hk0
  have hz := zero_span
  have hbx := bl_alloc (bl_alloc (bl_alloc (Below.refl w.heap.size w) (.cells (cellsSp a).toArray 61)) (.cells (cellsSp b).toArray 61)) (.cells (cellsSp nilSp).toArray 61)
  have h6 : HSp (((w.alloc (.cells (cellsSp a).toArray 61)).alloc (.cells (cellsSp b).toArray 61)).alloc (.cells (cellsSp nilSp).toArray 61)) w.heap.size a := by
    unfold HSp
    rw [Below.heap_alloc _ _ _ (by simp; omega), Below.heap_alloc _ _ _ (by simp)]
    exact heap_alloc_new w _
  have h7 : HSp (((w.alloc (.cells (cellsSp a).toArray 61)).alloc (.cells (cellsSp b).toArray 61)).alloc (.cells (cellsSp nilSp).toArray 61)) (w.heap.size + 1) b := by
    unfold HSp
    rw [Below.heap_alloc _ _ _ (by simp)]
    have := heap_alloc_new (w.alloc (.cells (cellsSp a).toArray 61)) (.cells (cellsSp b).toArray 61)
    rwa [World.size_alloc] at this
  have h8 : HSp (((w.alloc (.cells (cellsSp a).toArray 61)).alloc (.cells (cellsSp b).toArray 61)).alloc (.cells (cellsSp nilSp).toArray 61)) (w.heap.size + 1 + 1) nilSp := by
    have := heap_alloc_new ((w.alloc (.cells (cellsSp a).toArray 61)).alloc (.cells (cellsSp b).toArray 61)) (.cells (cellsSp nilSp).toArray 61)
    rw [World.size_alloc, World.size_alloc] at this
    exact this
  have hs3 : (((w.alloc (.cells (cellsSp a).toArray 61)).alloc (.cells (cellsSp b).toArray 61)).alloc (.cells (cellsSp nilSp).toArray 61)).heap.size = w.heap.size + 3 := by simp
  generalize hQ : GotSp w q N (spanE ⟨kd, na, nb, z⟩ i a b) (spanB ⟨kd, na, nb, z⟩ a b B) = Q
  have HQ := Lib.hid hQ
  have hk3 := (hbx.cell (World.block_lt_of_cell? w _ hk)).trans hk
  have hc93 := (hbx.cell (World.block_lt_of_cell? w _ hc9)).trans hc9
  have hc103 := (hbx.cell (World.block_lt_of_cell? w _ hc10)).trans hc10
  have hB3 := hB.below hbx
  have hT3 := hT.below hbx
  have G3 := grown_of_below hbx (some q)
  have HLL := Lib.hid hl
  have HAL := Lib.hid hal
  clear hQ hk hk0 hcs hr hc9 hc10 hnd hl hbx hB hT hal
  show Calls Tryz.prog 43 #[.pointer (some ⟨C, 0, none⟩), .int .i64 (i : Int), .agg (cellsSp a).toArray, .agg (cellsSp b).toArray] w Q
  go_enter Tryz.func43, Tryz.ntmps43
  go_upto_region 1 with fail
  generalize ((w.alloc (.cells (cellsSp a).toArray 61)).alloc (.cells (cellsSp b).toArray 61)).alloc (.cells (cellsSp nilSp).toArray 61) = w3 at *
  have H6 := Lib.hid h6
  have H7 := Lib.hid h7
  have H8 := Lib.hid h8
  have HT3 := Lib.hid hT3
  have HB3 := Lib.hid hB3
  have HG3 := Lib.hid G3
  clear h6 h7 h8 hT3 hB3 G3 hz
  by_cases k2 : kd = 2
  · subst k2
    have hcv : IntKind.u8.wrap (i : Int) = (i : Int) := by rw [IntKind.wrap_u8]; omega
    have hof := of_nat i (by omega) w3
    have HOF := Lib.hid hof
    clear hof
    rw [hs3] at HOF
    go_wp2_with fail
    refine HOF.out.mono ?_
    rintro e w4 ⟨rfl, hb4⟩
    have B4 := bl_trans (bl_alloc (Below.refl w3.heap.size w3) (.cells #[.int .u8 (i : Int)] 5)) hb4
    have h84 := H8.out.below B4
    have b4 := HB3.out.below B4
    have g4 := HG3.out.trans (grown_of_below B4 (some q))
    have hl4 := B4.size
    have hn9 := HS.new w4
    have bA := bl_alloc (Below.refl w4.heap.size w4) (.cells tab4 59)
    have h85 := (h84.below bA).row (k := w4.heap.size) (by omega) (row4 (oneS i).f)
    have b5 := (b4.below bA).row (k := w4.heap.size) (by omega) (row4 (oneS i).f)
    have g5 := grown_row' (g4.trans (grown_of_below bA (some q))) (b := w4.heap.size) (by omega) (row4 (oneS i).f)
    have hn5 := hn9.laid (oneS i)
    have H85 := Lib.hid h85
    have N9 := Lib.hid hn9
    have N5 := Lib.hid hn5
    have B5 := Lib.hid b5
    have G5 := Lib.hid g5
    clear B4 hb4 h84 b4 g4 hn9 bA h85 b5 g5 hn5 HOF
    have hz4 := zero4
    unfold encS
    go_wp2_with (first
      | (refine wpList_store_row rfl 59 _ _ rfl w4.heap.size _ rfl rfl 59 _ N9.out (by rw [size4, row4_size]) (by rw [row4_size, row4_size]) (row4_one _) ?_)
      | (refine wpList_load_row rfl 59 _ rfl w4.heap.size rfl 59 _ (0, 0) _ N5.out Tryz.underlying59 rfl (by rw [size4, row4_size]) ?_)
      | (refine wpList_span2 _ _ (oneS i) (oneS i) rfl rfl rfl rfl ?_)
      | (refine wpList_store_row rfl 61 _ _ rfl (w.heap.size + 1 + 1) _ rfl rfl 61 _ H85.out (by rw [size_span]; rfl) (by rfl) (all_oneSp _) ?_))
    refine bodyPost_ret (v := encSp ⟨false, oneS i, oneS i⟩) (results_cell_row rfl _ _ (w.heap.size + 1 + 1) 61 _ (0, 0) _ rfl ((H85.out).laid ⟨false, oneS i, oneS i⟩) Tryz.underlying61 rfl (by rw [size_span]; rfl)) rfl (post_is HQ ?_)

    rw [spanE, if_pos rfl, spanB, if_neg (by simp), if_neg (by simp), if_neg (by simp)]
    exact ⟨rfl, B5.out.row (by omega) _, grown_row' G5.out (by omega) _⟩
  have e2 := int_ne k2
  have K2 := Lib.hid k2
  clear k2
  by_cases k3 : kd = 3
  · subst k3
    have HCW : Hid (w3.cell? ⟨C, 10, none⟩ = some (.slice (some ⟨q, 0, none⟩) N N)) := Lib.hid hc103
    obtain ⟨an, af, al⟩ := a
    obtain ⟨bn, bf, bl⟩ := b
    simp only [] at *
    cases an with
    | false =>
      cases bn with
      | false =>
        go_wp2_with (first
          | (refine wpList_load_agg 59 4 _ rfl rfl ⟨w.heap.size, 5, none⟩ rfl (setCells al) (agg_set _) (size_set _) rfl (H6.out.las) ?_)
          | (refine wpList_load_agg 59 4 _ rfl rfl ⟨w.heap.size + 1, 1, none⟩ rfl (setCells bf) (agg_set _) (size_set _) rfl (H7.out.fir) ?_))
        refine (note_any C q N B al bf _ HT3.out hTq HCW.out hCq HB3.out hN HAL.out).mono ?_
        rintro e w4 ⟨rfl, hb4, g4⟩
        have h64 := H6.out.kept g4 (by simp; omega)
        have h74 := H7.out.kept g4 (by simp; omega)
        have h84 := H8.out.kept g4 (by simp; omega)
        have l4 := g4.size
        have g4' := HG3.out.trans g4
        have bA := bl_alloc (Below.refl w4.heap.size w4) (.cells (cellsSp nilSp).toArray 61)
        have hn : HSp (w4.alloc (.cells (cellsSp nilSp).toArray 61)) w4.heap.size nilSp := heap_alloc_new w4 _
        have c0a := h64.none
        have c0b := h74.none
        have c6n := (h64.below bA).row (k := w4.heap.size) (by omega) (cellsSp ⟨false, af, bl⟩).toArray
        have c7n := (h74.below bA).row (k := w4.heap.size) (by omega) (cellsSp ⟨false, af, bl⟩).toArray
        have c8n := (h84.below bA).row (k := w4.heap.size) (by omega) (cellsSp ⟨false, af, bl⟩).toArray
        have cBn := (hb4.below bA).row (k := w4.heap.size) (by omega) (cellsSp ⟨false, af, bl⟩).toArray
        have cGn := grown_row' (g4'.trans (grown_of_below bA (some q))) (b := w4.heap.size) (by omega) (cellsSp ⟨false, af, bl⟩).toArray
        have cnn := hn.laid ⟨false, af, bl⟩
        have d0a := c6n.none
        have d0b := c7n.none
        have hz := zero_span
        have H64 := Lib.hid h64
        have H74 := Lib.hid h74
        have HNN := Lib.hid hn
        have H65 := Lib.hid c6n
        have H75 := Lib.hid c7n
        have H85 := Lib.hid c8n
        have B5 := Lib.hid cBn
        have G5 := Lib.hid cGn
        have N5 := Lib.hid cnn
        clear h64 h74 h84 hb4 g4 g4' bA hn c6n c7n c8n cBn cGn cnn
        go_wp2_with (first
          | (refine wpList_load_agg 59 4 _ rfl rfl ⟨w.heap.size, 1, none⟩ rfl (setCells af) (agg_set _) (size_set _) rfl (H64.out.fir) ?_)
          | (refine wpList_load_agg 59 4 _ rfl rfl ⟨w.heap.size + 1, 5, none⟩ rfl (setCells bl) (agg_set _) (size_set _) rfl (H74.out.las) ?_)
          | (refine wpList_span3 _ _ _ false af bl rfl rfl rfl rfl rfl ?_)
          | (refine wpList_store_row rfl 61 _ _ rfl w4.heap.size _ rfl rfl 61 _ HNN.out (by rw [size_span]; rfl) (by rfl) (all_oneSp _) ?_)
          | (refine wpList_load_agg 61 9 _ rfl rfl ⟨w4.heap.size, 0, none⟩ rfl (cellsSp ⟨false, af, bl⟩) (agg_span _) (sz_span _) rfl (N5.out.whole) ?_)
          | (refine wpList_store_row rfl 61 _ _ rfl (w.heap.size + 1 + 1) _ rfl rfl 61 _ H85.out (by rw [size_span]; rfl) (by rfl) (all_oneSp _) ?_))
        refine bodyPost_ret (v := encSp ⟨false, af, bl⟩) (results_cell_row rfl _ _ (w.heap.size + 1 + 1) 61 _ (0, 0) _ rfl (HSp.laid H85.out ⟨false, af, bl⟩) Tryz.underlying61 rfl (by rw [size_span]; rfl)) rfl (post_is HQ ?_)
        rw [spanE, if_neg (by simp), if_pos rfl, spanB, if_pos rfl]
        exact ⟨rfl, B5.out.row (by omega) _, grown_row' G5.out (by omega) _⟩
      | true =>
        go_wp2_with (first
          | (refine wpList_load_agg 59 4 _ rfl rfl ⟨w.heap.size, 5, none⟩ rfl (setCells al) (agg_set _) (size_set _) rfl (H6.out.las) ?_)
          | (refine wpList_load_agg 59 4 _ rfl rfl ⟨w.heap.size + 1, 1, none⟩ rfl (setCells bf) (agg_set _) (size_set _) rfl (H7.out.fir) ?_))
        refine (note_any C q N B al bf _ HT3.out hTq HCW.out hCq HB3.out hN HAL.out).mono ?_
        rintro e w4 ⟨rfl, hb4, g4⟩
        have h64 := H6.out.kept g4 (by simp; omega)
        have h74 := H7.out.kept g4 (by simp; omega)
        have h84 := H8.out.kept g4 (by simp; omega)
        have l4 := g4.size
        have g4' := HG3.out.trans g4
        have bA := bl_alloc (Below.refl w4.heap.size w4) (.cells (cellsSp nilSp).toArray 61)
        have hn : HSp (w4.alloc (.cells (cellsSp nilSp).toArray 61)) w4.heap.size nilSp := heap_alloc_new w4 _
        have c0a := h64.none
        have c0b := h74.none
        have c6n := (h64.below bA).row (k := w4.heap.size) (by omega) (cellsSp ⟨false, af, bl⟩).toArray
        have c7n := (h74.below bA).row (k := w4.heap.size) (by omega) (cellsSp ⟨false, af, bl⟩).toArray
        have c8n := (h84.below bA).row (k := w4.heap.size) (by omega) (cellsSp ⟨false, af, bl⟩).toArray
        have cBn := (hb4.below bA).row (k := w4.heap.size) (by omega) (cellsSp ⟨false, af, bl⟩).toArray
        have cGn := grown_row' (g4'.trans (grown_of_below bA (some q))) (b := w4.heap.size) (by omega) (cellsSp ⟨false, af, bl⟩).toArray
        have cnn := hn.laid ⟨false, af, bl⟩
        have d0a := c6n.none
        have d0b := c7n.none
        have hz := zero_span
        have H64 := Lib.hid h64
        have H74 := Lib.hid h74
        have HNN := Lib.hid hn
        have H65 := Lib.hid c6n
        have H75 := Lib.hid c7n
        have H85 := Lib.hid c8n
        have B5 := Lib.hid cBn
        have G5 := Lib.hid cGn
        have N5 := Lib.hid cnn
        clear h64 h74 h84 hb4 g4 g4' bA hn c6n c7n c8n cBn cGn cnn
        go_wp2_with (first
          | (refine wpList_load_agg 59 4 _ rfl rfl ⟨w.heap.size, 1, none⟩ rfl (setCells af) (agg_set _) (size_set _) rfl (H64.out.fir) ?_)
          | (refine wpList_load_agg 59 4 _ rfl rfl ⟨w.heap.size + 1, 5, none⟩ rfl (setCells bl) (agg_set _) (size_set _) rfl (H74.out.las) ?_)
          | (refine wpList_span3 _ _ _ false af bl rfl rfl rfl rfl rfl ?_)
          | (refine wpList_store_row rfl 61 _ _ rfl w4.heap.size _ rfl rfl 61 _ HNN.out (by rw [size_span]; rfl) (by rfl) (all_oneSp _) ?_)
          | (refine wpList_load_agg 59 4 _ rfl rfl ⟨w.heap.size, 5, none⟩ rfl (setCells al) (agg_set _) (size_set _) rfl (H65.out.las) ?_)
          | (refine wpList_load_agg 59 4 _ rfl rfl ⟨w.heap.size + 1, 5, none⟩ rfl (setCells bl) (agg_set _) (size_set _) rfl (H75.out.las) ?_))
        refine (union_is al bl _).mono ?_
        rintro e w6 ⟨rfl, hb6⟩
        have u6 := H65.out.below hb6
        have u7 := H75.out.below hb6
        have u8 := H85.out.below hb6
        have uB := B5.out.below hb6
        have uG := G5.out.trans (grown_of_below hb6 (some q))
        have uN := N5.out.below hb6
        have v6 := u6.row (k := w4.heap.size) (by omega) (cellsSp ⟨false, af, orS al bl⟩).toArray
        have v7 := u7.row (k := w4.heap.size) (by omega) (cellsSp ⟨false, af, orS al bl⟩).toArray
        have v8 := u8.row (k := w4.heap.size) (by omega) (cellsSp ⟨false, af, orS al bl⟩).toArray
        have vB := uB.row (k := w4.heap.size) (by omega) (cellsSp ⟨false, af, orS al bl⟩).toArray
        have vG := grown_row' uG (b := w4.heap.size) (by omega) (cellsSp ⟨false, af, orS al bl⟩).toArray
        have vN := uN.laid ⟨false, af, orS al bl⟩
        have d0a6 := v6.none
        have d0b6 := v7.none
        have N6o := Lib.hid uN
        have H66 := Lib.hid v6
        have H76 := Lib.hid v7
        have H86 := Lib.hid v8
        have B6 := Lib.hid vB
        have G6 := Lib.hid vG
        have N6 := Lib.hid vN
        clear hb6 u6 u7 u8 uB uG uN v6 v7 v8 vB vG vN
        unfold encS
        go_wp2_with (first
          | (refine wpList_store_mid rfl 59 _ _ rfl w4.heap.size 5 rfl (setCells (orS al bl)) rfl 61 (cellsSp ⟨false, af, bl⟩) N6o.out info_set (by simp [cellsSp, setCells]) (oneCells _) ?_; rw [splice_las])
          | (refine wpList_load_agg 61 9 _ rfl rfl ⟨w4.heap.size, 0, none⟩ rfl (cellsSp ⟨false, af, orS al bl⟩) (agg_span _) (sz_span _) rfl (N6.out.whole) ?_)
          | (refine wpList_store_row rfl 61 _ _ rfl (w.heap.size + 1 + 1) _ rfl rfl 61 _ H86.out (by rw [size_span]; rfl) (by rfl) (all_oneSp _) ?_))
        refine bodyPost_ret (v := encSp ⟨false, af, orS al bl⟩) (results_cell_row rfl _ _ (w.heap.size + 1 + 1) 61 _ (0, 0) _ rfl (HSp.laid H86.out ⟨false, af, orS al bl⟩) Tryz.underlying61 rfl (by rw [size_span]; rfl)) rfl (post_is HQ ?_)
        rw [spanE, if_neg (by simp), if_pos rfl, spanB, if_pos rfl]
        exact ⟨rfl, B6.out.row (by omega) _, grown_row' G6.out (by omega) _⟩
    | true =>
      cases bn with
      | false =>
        go_wp2_with (first
          | (refine wpList_load_agg 59 4 _ rfl rfl ⟨w.heap.size, 5, none⟩ rfl (setCells al) (agg_set _) (size_set _) rfl (H6.out.las) ?_)
          | (refine wpList_load_agg 59 4 _ rfl rfl ⟨w.heap.size + 1, 1, none⟩ rfl (setCells bf) (agg_set _) (size_set _) rfl (H7.out.fir) ?_))
        refine (note_any C q N B al bf _ HT3.out hTq HCW.out hCq HB3.out hN HAL.out).mono ?_
        rintro e w4 ⟨rfl, hb4, g4⟩
        have h64 := H6.out.kept g4 (by simp; omega)
        have h74 := H7.out.kept g4 (by simp; omega)
        have h84 := H8.out.kept g4 (by simp; omega)
        have l4 := g4.size
        have g4' := HG3.out.trans g4
        have bA := bl_alloc (Below.refl w4.heap.size w4) (.cells (cellsSp nilSp).toArray 61)
        have hn : HSp (w4.alloc (.cells (cellsSp nilSp).toArray 61)) w4.heap.size nilSp := heap_alloc_new w4 _
        have c0a := h64.none
        have c0b := h74.none
        have c6n := (h64.below bA).row (k := w4.heap.size) (by omega) (cellsSp ⟨false, af, bl⟩).toArray
        have c7n := (h74.below bA).row (k := w4.heap.size) (by omega) (cellsSp ⟨false, af, bl⟩).toArray
        have c8n := (h84.below bA).row (k := w4.heap.size) (by omega) (cellsSp ⟨false, af, bl⟩).toArray
        have cBn := (hb4.below bA).row (k := w4.heap.size) (by omega) (cellsSp ⟨false, af, bl⟩).toArray
        have cGn := grown_row' (g4'.trans (grown_of_below bA (some q))) (b := w4.heap.size) (by omega) (cellsSp ⟨false, af, bl⟩).toArray
        have cnn := hn.laid ⟨false, af, bl⟩
        have d0a := c6n.none
        have d0b := c7n.none
        have hz := zero_span
        have H64 := Lib.hid h64
        have H74 := Lib.hid h74
        have HNN := Lib.hid hn
        have H65 := Lib.hid c6n
        have H75 := Lib.hid c7n
        have H85 := Lib.hid c8n
        have B5 := Lib.hid cBn
        have G5 := Lib.hid cGn
        have N5 := Lib.hid cnn
        clear h64 h74 h84 hb4 g4 g4' bA hn c6n c7n c8n cBn cGn cnn
        go_wp2_with (first
          | (refine wpList_load_agg 59 4 _ rfl rfl ⟨w.heap.size, 1, none⟩ rfl (setCells af) (agg_set _) (size_set _) rfl (H64.out.fir) ?_)
          | (refine wpList_load_agg 59 4 _ rfl rfl ⟨w.heap.size + 1, 5, none⟩ rfl (setCells bl) (agg_set _) (size_set _) rfl (H74.out.las) ?_)
          | (refine wpList_span3 _ _ _ false af bl rfl rfl rfl rfl rfl ?_)
          | (refine wpList_store_row rfl 61 _ _ rfl w4.heap.size _ rfl rfl 61 _ HNN.out (by rw [size_span]; rfl) (by rfl) (all_oneSp _) ?_)
          | (refine wpList_load_agg 59 4 _ rfl rfl ⟨w.heap.size, 1, none⟩ rfl (setCells af) (agg_set _) (size_set _) rfl (H65.out.fir) ?_)
          | (refine wpList_load_agg 59 4 _ rfl rfl ⟨w.heap.size + 1, 1, none⟩ rfl (setCells bf) (agg_set _) (size_set _) rfl (H75.out.fir) ?_))
        refine (union_is af bf _).mono ?_
        rintro e w6 ⟨rfl, hb6⟩
        have u6 := H65.out.below hb6
        have u7 := H75.out.below hb6
        have u8 := H85.out.below hb6
        have uB := B5.out.below hb6
        have uG := G5.out.trans (grown_of_below hb6 (some q))
        have uN := N5.out.below hb6
        have v6 := u6.row (k := w4.heap.size) (by omega) (cellsSp ⟨false, orS af bf, bl⟩).toArray
        have v7 := u7.row (k := w4.heap.size) (by omega) (cellsSp ⟨false, orS af bf, bl⟩).toArray
        have v8 := u8.row (k := w4.heap.size) (by omega) (cellsSp ⟨false, orS af bf, bl⟩).toArray
        have vB := uB.row (k := w4.heap.size) (by omega) (cellsSp ⟨false, orS af bf, bl⟩).toArray
        have vG := grown_row' uG (b := w4.heap.size) (by omega) (cellsSp ⟨false, orS af bf, bl⟩).toArray
        have vN := uN.laid ⟨false, orS af bf, bl⟩
        have d0a6 := v6.none
        have d0b6 := v7.none
        have N6o := Lib.hid uN
        have H66 := Lib.hid v6
        have H76 := Lib.hid v7
        have H86 := Lib.hid v8
        have B6 := Lib.hid vB
        have G6 := Lib.hid vG
        have N6 := Lib.hid vN
        clear hb6 u6 u7 u8 uB uG uN v6 v7 v8 vB vG vN
        unfold encS
        go_wp2_with (first
          | (refine wpList_store_mid rfl 59 _ _ rfl w4.heap.size 1 rfl (setCells (orS af bf)) rfl 61 (cellsSp ⟨false, af, bl⟩) N6o.out info_set (by simp [cellsSp, setCells]) (oneCells _) ?_; rw [splice_fir])
          | (refine wpList_load_agg 61 9 _ rfl rfl ⟨w4.heap.size, 0, none⟩ rfl (cellsSp ⟨false, orS af bf, bl⟩) (agg_span _) (sz_span _) rfl (N6.out.whole) ?_)
          | (refine wpList_store_row rfl 61 _ _ rfl (w.heap.size + 1 + 1) _ rfl rfl 61 _ H86.out (by rw [size_span]; rfl) (by rfl) (all_oneSp _) ?_))
        refine bodyPost_ret (v := encSp ⟨false, orS af bf, bl⟩) (results_cell_row rfl _ _ (w.heap.size + 1 + 1) 61 _ (0, 0) _ rfl (HSp.laid H86.out ⟨false, orS af bf, bl⟩) Tryz.underlying61 rfl (by rw [size_span]; rfl)) rfl (post_is HQ ?_)
        rw [spanE, if_neg (by simp), if_pos rfl, spanB, if_pos rfl]
        exact ⟨rfl, B6.out.row (by omega) _, grown_row' G6.out (by omega) _⟩
      | true =>
        go_wp2_with (first
          | (refine wpList_load_agg 59 4 _ rfl rfl ⟨w.heap.size, 5, none⟩ rfl (setCells al) (agg_set _) (size_set _) rfl (H6.out.las) ?_)
          | (refine wpList_load_agg 59 4 _ rfl rfl ⟨w.heap.size + 1, 1, none⟩ rfl (setCells bf) (agg_set _) (size_set _) rfl (H7.out.fir) ?_))
        refine (note_any C q N B al bf _ HT3.out hTq HCW.out hCq HB3.out hN HAL.out).mono ?_
        rintro e w4 ⟨rfl, hb4, g4⟩
        have h64 := H6.out.kept g4 (by simp; omega)
        have h74 := H7.out.kept g4 (by simp; omega)
        have h84 := H8.out.kept g4 (by simp; omega)
        have l4 := g4.size
        have g4' := HG3.out.trans g4
        have bA := bl_alloc (Below.refl w4.heap.size w4) (.cells (cellsSp nilSp).toArray 61)
        have hn : HSp (w4.alloc (.cells (cellsSp nilSp).toArray 61)) w4.heap.size nilSp := heap_alloc_new w4 _
        have c0a := h64.none
        have c0b := h74.none
        have c6n := (h64.below bA).row (k := w4.heap.size) (by omega) (cellsSp ⟨true, af, bl⟩).toArray
        have c7n := (h74.below bA).row (k := w4.heap.size) (by omega) (cellsSp ⟨true, af, bl⟩).toArray
        have c8n := (h84.below bA).row (k := w4.heap.size) (by omega) (cellsSp ⟨true, af, bl⟩).toArray
        have cBn := (hb4.below bA).row (k := w4.heap.size) (by omega) (cellsSp ⟨true, af, bl⟩).toArray
        have cGn := grown_row' (g4'.trans (grown_of_below bA (some q))) (b := w4.heap.size) (by omega) (cellsSp ⟨true, af, bl⟩).toArray
        have cnn := hn.laid ⟨true, af, bl⟩
        have d0a := c6n.none
        have d0b := c7n.none
        have hz := zero_span
        have H64 := Lib.hid h64
        have H74 := Lib.hid h74
        have HNN := Lib.hid hn
        have H65 := Lib.hid c6n
        have H75 := Lib.hid c7n
        have H85 := Lib.hid c8n
        have B5 := Lib.hid cBn
        have G5 := Lib.hid cGn
        have N5 := Lib.hid cnn
        clear h64 h74 h84 hb4 g4 g4' bA hn c6n c7n c8n cBn cGn cnn
        go_wp2_with (first
          | (refine wpList_load_agg 59 4 _ rfl rfl ⟨w.heap.size, 1, none⟩ rfl (setCells af) (agg_set _) (size_set _) rfl (H64.out.fir) ?_)
          | (refine wpList_load_agg 59 4 _ rfl rfl ⟨w.heap.size + 1, 5, none⟩ rfl (setCells bl) (agg_set _) (size_set _) rfl (H74.out.las) ?_)
          | (refine wpList_span3 _ _ _ true af bl rfl rfl rfl rfl rfl ?_)
          | (refine wpList_store_row rfl 61 _ _ rfl w4.heap.size _ rfl rfl 61 _ HNN.out (by rw [size_span]; rfl) (by rfl) (all_oneSp _) ?_)
          | (refine wpList_load_agg 59 4 _ rfl rfl ⟨w.heap.size, 1, none⟩ rfl (setCells af) (agg_set _) (size_set _) rfl (H65.out.fir) ?_)
          | (refine wpList_load_agg 59 4 _ rfl rfl ⟨w.heap.size + 1, 1, none⟩ rfl (setCells bf) (agg_set _) (size_set _) rfl (H75.out.fir) ?_))
        refine (union_is af bf _).mono ?_
        rintro e w6 ⟨rfl, hb6⟩
        have u6 := H65.out.below hb6
        have u7 := H75.out.below hb6
        have u8 := H85.out.below hb6
        have uB := B5.out.below hb6
        have uG := G5.out.trans (grown_of_below hb6 (some q))
        have uN := N5.out.below hb6
        have v6 := u6.row (k := w4.heap.size) (by omega) (cellsSp ⟨true, orS af bf, bl⟩).toArray
        have v7 := u7.row (k := w4.heap.size) (by omega) (cellsSp ⟨true, orS af bf, bl⟩).toArray
        have v8 := u8.row (k := w4.heap.size) (by omega) (cellsSp ⟨true, orS af bf, bl⟩).toArray
        have vB := uB.row (k := w4.heap.size) (by omega) (cellsSp ⟨true, orS af bf, bl⟩).toArray
        have vG := grown_row' uG (b := w4.heap.size) (by omega) (cellsSp ⟨true, orS af bf, bl⟩).toArray
        have vN := uN.laid ⟨true, orS af bf, bl⟩
        have d0a6 := v6.none
        have d0b6 := v7.none
        have N6o := Lib.hid uN
        have H66 := Lib.hid v6
        have H76 := Lib.hid v7
        have H86 := Lib.hid v8
        have B6 := Lib.hid vB
        have G6 := Lib.hid vG
        have N6 := Lib.hid vN
        clear hb6 u6 u7 u8 uB uG uN v6 v7 v8 vB vG vN
        unfold encS
        go_wp2_with (first
          | (refine wpList_store_mid rfl 59 _ _ rfl w4.heap.size 1 rfl (setCells (orS af bf)) rfl 61 (cellsSp ⟨true, af, bl⟩) N6o.out info_set (by simp [cellsSp, setCells]) (oneCells _) ?_; rw [splice_fir])
          | (refine wpList_load_agg 59 4 _ rfl rfl ⟨w.heap.size, 5, none⟩ rfl (setCells al) (agg_set _) (size_set _) rfl (H66.out.las) ?_)
          | (refine wpList_load_agg 59 4 _ rfl rfl ⟨w.heap.size + 1, 5, none⟩ rfl (setCells bl) (agg_set _) (size_set _) rfl (H76.out.las) ?_))
        refine (union_is al bl _).mono ?_
        rintro e w7 ⟨rfl, hb7⟩
        have u6 := H66.out.below hb7
        have u7 := H76.out.below hb7
        have u8 := H86.out.below hb7
        have uB := B6.out.below hb7
        have uG := G6.out.trans (grown_of_below hb7 (some q))
        have uN := N6.out.below hb7
        have v6 := u6.row (k := w4.heap.size) (by omega) (cellsSp ⟨true, orS af bf, orS al bl⟩).toArray
        have v7 := u7.row (k := w4.heap.size) (by omega) (cellsSp ⟨true, orS af bf, orS al bl⟩).toArray
        have v8 := u8.row (k := w4.heap.size) (by omega) (cellsSp ⟨true, orS af bf, orS al bl⟩).toArray
        have vB := uB.row (k := w4.heap.size) (by omega) (cellsSp ⟨true, orS af bf, orS al bl⟩).toArray
        have vG := grown_row' uG (b := w4.heap.size) (by omega) (cellsSp ⟨true, orS af bf, orS al bl⟩).toArray
        have vN := uN.laid ⟨true, orS af bf, orS al bl⟩
        have d0a7 := v6.none
        have d0b7 := v7.none
        have N7o := Lib.hid uN
        have H67 := Lib.hid v6
        have H77 := Lib.hid v7
        have H87 := Lib.hid v8
        have B7 := Lib.hid vB
        have G7 := Lib.hid vG
        have N7 := Lib.hid vN
        clear hb7 u6 u7 u8 uB uG uN v6 v7 v8 vB vG vN
        unfold encS
        go_wp2_with (first
          | (refine wpList_store_mid rfl 59 _ _ rfl w4.heap.size 5 rfl (setCells (orS al bl)) rfl 61 (cellsSp ⟨true, orS af bf, bl⟩) N7o.out info_set (by simp [cellsSp, setCells]) (oneCells _) ?_; rw [splice_las])
          | (refine wpList_load_agg 61 9 _ rfl rfl ⟨w4.heap.size, 0, none⟩ rfl (cellsSp ⟨true, orS af bf, orS al bl⟩) (agg_span _) (sz_span _) rfl (N7.out.whole) ?_)
          | (refine wpList_store_row rfl 61 _ _ rfl (w.heap.size + 1 + 1) _ rfl rfl 61 _ H87.out (by rw [size_span]; rfl) (by rfl) (all_oneSp _) ?_))
        refine bodyPost_ret (v := encSp ⟨true, orS af bf, orS al bl⟩) (results_cell_row rfl _ _ (w.heap.size + 1 + 1) 61 _ (0, 0) _ rfl (HSp.laid H87.out ⟨true, orS af bf, orS al bl⟩) Tryz.underlying61 rfl (by rw [size_span]; rfl)) rfl (post_is HQ ?_)
        rw [spanE, if_neg (by simp), if_pos rfl, spanB, if_pos rfl]
        exact ⟨rfl, B7.out.row (by omega) _, grown_row' G7.out (by omega) _⟩
  have e3 := int_ne k3
  have K3 := Lib.hid k3
  clear k3
  by_cases k4 : kd = 4
  · subst k4
    obtain ⟨an, af, al⟩ := a
    obtain ⟨bn, bf, bl⟩ := b
    cases an with
    | false =>
      go_wp2_with fail
      refine wp_region_held_drew (S := fun W' => HSp W' w.heap.size ⟨false, af, al⟩ ∧ HSp W' (w.heap.size + 1) ⟨bn, bf, bl⟩ ∧ (∃ z, HSp W' (w.heap.size + 1 + 1) z) ∧ HB W' q N B ∧ w.grownBy W' (some q)) (by kernel_rfl) ⟨H6.out, H7.out, ⟨_, H8.out⟩, HB3.out, HG3.out.trans (grown_of_below (bl_drewN (Below.refl w3.heap.size w3) 1) (some q))⟩ (fun hHeld => ?_)
      try simp only [List.getElem_toArray, List.getElem_cons_zero, List.getElem_cons_succ, Act.put, List.setIfInBounds_toArray, List.set_cons_zero, List.set_cons_succ]
      refine wpAnyH_take (i := 0) (v := ?vzff0) rfl (by kernel_rfl) (by kernel_rfl) (by kernel_rfl) (fun _ _ _ h => h) (Or.inl ⟨by rfl, ?yzff0⟩) hHeld ?rzff0
      case yzff0 => (intro wS hSw; clear hSw; go_simp; try (with_reducible rfl))
      try simp only [List.getElem_toArray, List.getElem_cons_zero, List.getElem_cons_succ, Act.put, List.setIfInBounds_toArray, List.set_cons_zero, List.set_cons_succ]
      refine wpAnyH_take (i := 1) (v := ?vzff1) rfl (by kernel_rfl) (by kernel_rfl) (by kernel_rfl) (fun _ _ _ h => h) (Or.inl ⟨by rfl, ?yzff1⟩) hHeld ?rzff1
      case yzff1 => (intro wS hSw; have q1 := hSw.1.none; clear hSw; go_simp; try (with_reducible rfl))
      try simp only [List.getElem_toArray, List.getElem_cons_zero, List.getElem_cons_succ, Act.put, List.setIfInBounds_toArray, List.set_cons_zero, List.set_cons_succ]
      refine wpAnyH_take (i := 2) (v := ?vzff2) rfl (by kernel_rfl) (by kernel_rfl) (by kernel_rfl) (fun _ _ _ h => h) (Or.inl ⟨by rfl, ?yzff2⟩) hHeld ?rzff2
      case yzff2 => (intro wS hSw; clear hSw; go_simp; try (with_reducible rfl))
      try simp only [List.getElem_toArray, List.getElem_cons_zero, List.getElem_cons_succ, Act.put, List.setIfInBounds_toArray, List.set_cons_zero, List.set_cons_succ]
      refine wpAnyH_take (i := 3) (v := ?vzff3) rfl (by kernel_rfl) (by kernel_rfl) (by kernel_rfl) (fun _ _ _ h => h) (Or.inl ⟨by rfl, ?yzff3⟩) hHeld ?rzff3
      case yzff3 => (intro wS hSw; clear hSw; go_simp; try (with_reducible rfl))
      try simp only [List.getElem_toArray, List.getElem_cons_zero, List.getElem_cons_succ, Act.put, List.setIfInBounds_toArray, List.set_cons_zero, List.set_cons_succ]
      refine wpAnyH_take (i := 4) (v := ?vzff4) rfl (by kernel_rfl) (by kernel_rfl) (by kernel_rfl) (fun _ _ _ h => h) (Or.inl ⟨by rfl, ?yzff4⟩) hHeld ?rzff4
      case yzff4 => (intro wS hSw; have q1 := hSw.2.1.none; clear hSw; go_simp; try (with_reducible rfl))
      try simp only [List.getElem_toArray, List.getElem_cons_zero, List.getElem_cons_succ, Act.put, List.setIfInBounds_toArray, List.set_cons_zero, List.set_cons_succ]
      refine wpAnyH_take (i := 5) (v := ?vzff5) rfl (by kernel_rfl) (by kernel_rfl) (by kernel_rfl) (fun _ _ _ h => h) (Or.inl ⟨by rfl, ?yzff5⟩) hHeld ?rzff5
      case yzff5 => (intro wS hSw; clear hSw; go_simp; try (with_reducible rfl))
      try simp only [List.getElem_toArray, List.getElem_cons_zero, List.getElem_cons_succ, Act.put, List.setIfInBounds_toArray, List.set_cons_zero, List.set_cons_succ]
      refine wpAnyH_take (i := 6) (v := ?vzff6) rfl (by kernel_rfl) (by kernel_rfl) (by kernel_rfl) (fun _ _ _ h => h) (Or.inl ⟨by rfl, ?yzff6⟩) hHeld ?rzff6
      case yzff6 => (intro wS hSw; clear hSw; go_simp; try (with_reducible rfl))
      try simp only [List.getElem_toArray, List.getElem_cons_zero, List.getElem_cons_succ, Act.put, List.setIfInBounds_toArray, List.set_cons_zero, List.set_cons_succ]
      refine wpAnyH_take (i := 7) (v := encS af) rfl (by kernel_rfl) (by kernel_rfl) (by kernel_rfl) (fun _ _ _ h => h) (yields_mid 59 4 (by rfl) (.tmp 76) rfl ⟨w.heap.size, 1, none⟩ rfl (setCells af) agg_set size_set rfl (fun w hw => hw.1.fir)) hHeld ?_
      try simp only [List.getElem_toArray, List.getElem_cons_zero, List.getElem_cons_succ, Act.put, List.setIfInBounds_toArray, List.set_cons_zero, List.set_cons_succ]
      refine wpAnyH_take (i := 8) (v := ?vzff8) rfl (by kernel_rfl) (by kernel_rfl) (by kernel_rfl) (fun _ _ _ h => h) (Or.inl ⟨by rfl, ?yzff8⟩) hHeld ?rzff8
      case yzff8 => (intro wS hSw; clear hSw; go_simp; try (with_reducible rfl))
      try simp only [List.getElem_toArray, List.getElem_cons_zero, List.getElem_cons_succ, Act.put, List.setIfInBounds_toArray, List.set_cons_zero, List.set_cons_succ]
      refine wpAnyH_take (i := 9) (v := encS bf) rfl (by kernel_rfl) (by kernel_rfl) (by kernel_rfl) (fun _ _ _ h => h) (yields_mid 59 4 (by rfl) (.tmp 78) rfl ⟨w.heap.size + 1, 1, none⟩ rfl (setCells bf) agg_set size_set rfl (fun w hw => hw.2.1.fir)) hHeld ?_
      try simp only [List.getElem_toArray, List.getElem_cons_zero, List.getElem_cons_succ, Act.put, List.setIfInBounds_toArray, List.set_cons_zero, List.set_cons_succ]
      refine wpAnyH_take (i := 11) (v := ?vzff11) rfl (by kernel_rfl) (by kernel_rfl) (by kernel_rfl) (fun _ _ _ h => h) (Or.inl ⟨by rfl, ?yzff11⟩) hHeld ?rzff11
      case yzff11 => (intro wS hSw; clear hSw; go_simp; try (with_reducible rfl))
      try simp only [List.getElem_toArray, List.getElem_cons_zero, List.getElem_cons_succ, Act.put, List.setIfInBounds_toArray, List.set_cons_zero, List.set_cons_succ]
      refine wpAnyH_take (i := 12) (v := encS al) rfl (by kernel_rfl) (by kernel_rfl) (by kernel_rfl) (fun _ _ _ h => h) (yields_mid 59 4 (by rfl) (.tmp 81) rfl ⟨w.heap.size, 5, none⟩ rfl (setCells al) agg_set size_set rfl (fun w hw => hw.1.las)) hHeld ?_
      try simp only [List.getElem_toArray, List.getElem_cons_zero, List.getElem_cons_succ, Act.put, List.setIfInBounds_toArray, List.set_cons_zero, List.set_cons_succ]
      refine wpAnyH_take (i := 13) (v := ?vzff13) rfl (by kernel_rfl) (by kernel_rfl) (by kernel_rfl) (fun _ _ _ h => h) (Or.inl ⟨by rfl, ?yzff13⟩) hHeld ?rzff13
      case yzff13 => (intro wS hSw; clear hSw; go_simp; try (with_reducible rfl))
      try simp only [List.getElem_toArray, List.getElem_cons_zero, List.getElem_cons_succ, Act.put, List.setIfInBounds_toArray, List.set_cons_zero, List.set_cons_succ]
      refine wpAnyH_take (i := 14) (v := encS bl) rfl (by kernel_rfl) (by kernel_rfl) (by kernel_rfl) (fun _ _ _ h => h) (yields_mid 59 4 (by rfl) (.tmp 83) rfl ⟨w.heap.size + 1, 5, none⟩ rfl (setCells bl) agg_set size_set rfl (fun w hw => hw.2.1.las)) hHeld ?_
      try simp only [List.getElem_toArray, List.getElem_cons_zero, List.getElem_cons_succ, Act.put, List.setIfInBounds_toArray, List.set_cons_zero, List.set_cons_succ]
      refine wpAnyH_ready (rs := [10]) (by kernel_rfl) (by simp) (AllReadyH.cons rfl (fun K hK => ?_) AllReadyH.nil)
      go_simp
      go_at_call 58
      refine (union_is af bf _).mono ?_
      rintro e w5 ⟨rfl, hb5⟩
      have hS1 : HSp w5 w.heap.size ⟨false, af, al⟩ ∧ HSp w5 (w.heap.size + 1) ⟨bn, bf, bl⟩ ∧ (∃ z, HSp w5 (w.heap.size + 1 + 1) z) ∧ HB w5 q N B ∧ w.grownBy w5 (some q) := ⟨hHeld.1.below hb5, hHeld.2.1.below hb5, ⟨_, hHeld.2.2.1.choose_spec.below hb5⟩, hHeld.2.2.2.1.below hb5, hHeld.2.2.2.2.trans (grown_of_below hb5 (some q))⟩
      clear hHeld hb5
      go_wp2_with fail
      refine hK.out _ _ hS1 (fun hHeld => ?_)
      clear hK K hS1
      try simp only [List.getElem_toArray, List.getElem_cons_zero, List.getElem_cons_succ, Act.put, List.setIfInBounds_toArray, List.set_cons_zero, List.set_cons_succ]
      refine wpAnyH_ready (rs := [15]) (by kernel_rfl) (by simp) (AllReadyH.cons rfl (fun K hK => ?_) AllReadyH.nil)
      go_simp
      go_at_call 58
      refine (union_is al bl _).mono ?_
      rintro e w6 ⟨rfl, hb6⟩
      have hS1 : HSp w6 w.heap.size ⟨false, af, al⟩ ∧ HSp w6 (w.heap.size + 1) ⟨bn, bf, bl⟩ ∧ (∃ z, HSp w6 (w.heap.size + 1 + 1) z) ∧ HB w6 q N B ∧ w.grownBy w6 (some q) := ⟨hHeld.1.below hb6, hHeld.2.1.below hb6, ⟨_, hHeld.2.2.1.choose_spec.below hb6⟩, hHeld.2.2.2.1.below hb6, hHeld.2.2.2.2.trans (grown_of_below hb6 (some q))⟩
      clear hHeld hb6
      go_wp2_with fail
      refine hK.out _ _ hS1 (fun hHeld => ?_)
      clear hK K hS1
      try simp only [List.getElem_toArray, List.getElem_cons_zero, List.getElem_cons_succ, Act.put, List.setIfInBounds_toArray, List.set_cons_zero, List.set_cons_succ]
      refine wpAnyH_ready (rs := [16]) (by kernel_rfl) (by simp) (AllReadyH.cons rfl (fun K hK => ?_) AllReadyH.nil)
      rw [if_pos (by rfl)]
      refine wp_span3 _ _ _ bn (orS af bf) (orS al bl) rfl rfl rfl rfl ?_
      refine hK.out _ _ hHeld (fun hHeld => ?_)
      clear hK K
      try simp only [List.getElem_toArray, List.getElem_cons_zero, List.getElem_cons_succ, Act.put, List.setIfInBounds_toArray, List.set_cons_zero, List.set_cons_succ]
      refine wpAnyH_ready (rs := [17]) (by kernel_rfl) (by simp) (AllReadyH.cons rfl (fun K hK => ?_) AllReadyH.nil)
      rw [if_pos (by rfl)]
      obtain ⟨zo, hzo⟩ := hHeld.2.2.1
      refine wp_store_row 61 _ _ rfl (w.heap.size + 1 + 1) _ rfl rfl 61 _ hzo (by rw [size_span]; rfl) (by rfl) (all_oneSp ⟨bn, orS af bf, orS al bl⟩) ?_
      have hfs := hzo.laid ⟨bn, orS af bf, orS al bl⟩
      have hS2 : HSp (w6.setRow (w.heap.size + 1 + 1) (cellsSp ⟨bn, orS af bf, orS al bl⟩).toArray) w.heap.size ⟨false, af, al⟩ ∧ HSp (w6.setRow (w.heap.size + 1 + 1) (cellsSp ⟨bn, orS af bf, orS al bl⟩).toArray) (w.heap.size + 1) ⟨bn, bf, bl⟩ ∧ (∃ z, HSp (w6.setRow (w.heap.size + 1 + 1) (cellsSp ⟨bn, orS af bf, orS al bl⟩).toArray) (w.heap.size + 1 + 1) z) ∧ True := ⟨hHeld.1.row (by omega) _, hHeld.2.1.row (by omega) _, ⟨_, hfs⟩, trivial⟩
      have B6' := hHeld.2.2.2.1
      have G6' := hHeld.2.2.2.2
      have B7' := Lib.hid (B6'.row (k := w.heap.size + 1 + 1) (by omega) (cellsSp ⟨bn, orS af bf, orS al bl⟩).toArray)
      have G7' := Lib.hid (grown_row' G6' (b := w.heap.size + 1 + 1) (by omega) (cellsSp ⟨bn, orS af bf, orS al bl⟩).toArray)
      have F7 := Lib.hid hfs
      refine hK.out _ _ ⟨hS2.1, hS2.2.1, hS2.2.2.1, B7'.out, G7'.out⟩ (fun hHeld2 => ?_)
      clear hK K hHeld hHeld2 hS2 hfs hzo B6' G6'
      refine wpAnyH_done (by kernel_rfl) ?_ _
      go_wp2_with fail
      refine bodyPost_ret (v := encSp ⟨bn, orS af bf, orS al bl⟩) (results_cell_row rfl _ _ (w.heap.size + 1 + 1) 61 _ (0, 0) _ rfl F7.out Tryz.underlying61 rfl (by rw [size_span]; rfl)) rfl (post_is HQ ?_)
      rw [spanE, if_neg (by simp), if_neg (by simp), if_pos rfl, spanB, if_neg (by simp), if_neg (by simp), if_neg (by simp)]
      exact ⟨rfl, B7'.out, G7'.out⟩
    | true =>
      go_wp2_with fail
      refine wp_region_held_drew (S := fun W' => HSp W' w.heap.size ⟨true, af, al⟩ ∧ HSp W' (w.heap.size + 1) ⟨bn, bf, bl⟩ ∧ (∃ z, HSp W' (w.heap.size + 1 + 1) z) ∧ HB W' q N B ∧ w.grownBy W' (some q)) (by kernel_rfl) ⟨H6.out, H7.out, ⟨_, H8.out⟩, HB3.out, HG3.out.trans (grown_of_below (bl_drewN (Below.refl w3.heap.size w3) 1) (some q))⟩ (fun hHeld => ?_)
      try simp only [List.getElem_toArray, List.getElem_cons_zero, List.getElem_cons_succ, Act.put, List.setIfInBounds_toArray, List.set_cons_zero, List.set_cons_succ]
      refine wpAnyH_take (i := 0) (v := ?vzft0) rfl (by kernel_rfl) (by kernel_rfl) (by kernel_rfl) (fun _ _ _ h => h) (Or.inl ⟨by rfl, ?yzft0⟩) hHeld ?rzft0
      case yzft0 => (intro wS hSw; clear hSw; go_simp; try (with_reducible rfl))
      try simp only [List.getElem_toArray, List.getElem_cons_zero, List.getElem_cons_succ, Act.put, List.setIfInBounds_toArray, List.set_cons_zero, List.set_cons_succ]
      refine wpAnyH_take (i := 1) (v := ?vzft1) rfl (by kernel_rfl) (by kernel_rfl) (by kernel_rfl) (fun _ _ _ h => h) (Or.inl ⟨by rfl, ?yzft1⟩) hHeld ?rzft1
      case yzft1 => (intro wS hSw; have q1 := hSw.1.none; clear hSw; go_simp; try (with_reducible rfl))
      try simp only [List.getElem_toArray, List.getElem_cons_zero, List.getElem_cons_succ, Act.put, List.setIfInBounds_toArray, List.set_cons_zero, List.set_cons_succ]
      refine wpAnyH_take (i := 2) (v := ?vzft2) rfl (by kernel_rfl) (by kernel_rfl) (by kernel_rfl) (fun _ _ _ h => h) (Or.inl ⟨by rfl, ?yzft2⟩) hHeld ?rzft2
      case yzft2 => (intro wS hSw; clear hSw; go_simp; try (with_reducible rfl))
      try simp only [List.getElem_toArray, List.getElem_cons_zero, List.getElem_cons_succ, Act.put, List.setIfInBounds_toArray, List.set_cons_zero, List.set_cons_succ]
      refine wpAnyH_take (i := 3) (v := undef) rfl (by kernel_rfl) (by kernel_rfl) (by kernel_rfl) (fun _ _ _ h => h) (Or.inr ⟨by rfl, rfl⟩) hHeld ?_
      try simp only [List.getElem_toArray, List.getElem_cons_zero, List.getElem_cons_succ, Act.put, List.setIfInBounds_toArray, List.set_cons_zero, List.set_cons_succ]
      refine wpAnyH_take (i := 4) (v := undef) rfl (by kernel_rfl) (by kernel_rfl) (by kernel_rfl) (fun _ _ _ h => h) (Or.inr ⟨by rfl, rfl⟩) hHeld ?_
      try simp only [List.getElem_toArray, List.getElem_cons_zero, List.getElem_cons_succ, Act.put, List.setIfInBounds_toArray, List.set_cons_zero, List.set_cons_succ]
      refine wpAnyH_take (i := 5) (v := ?vzft5) rfl (by kernel_rfl) (by kernel_rfl) (by kernel_rfl) (fun _ _ _ h => h) (Or.inl ⟨by rfl, ?yzft5⟩) hHeld ?rzft5
      case yzft5 => (intro wS hSw; clear hSw; go_simp; try (with_reducible rfl))
      try simp only [List.getElem_toArray, List.getElem_cons_zero, List.getElem_cons_succ, Act.put, List.setIfInBounds_toArray, List.set_cons_zero, List.set_cons_succ]
      refine wpAnyH_take (i := 6) (v := ?vzft6) rfl (by kernel_rfl) (by kernel_rfl) (by kernel_rfl) (fun _ _ _ h => h) (Or.inl ⟨by rfl, ?yzft6⟩) hHeld ?rzft6
      case yzft6 => (intro wS hSw; clear hSw; go_simp; try (with_reducible rfl))
      try simp only [List.getElem_toArray, List.getElem_cons_zero, List.getElem_cons_succ, Act.put, List.setIfInBounds_toArray, List.set_cons_zero, List.set_cons_succ]
      refine wpAnyH_take (i := 7) (v := encS af) rfl (by kernel_rfl) (by kernel_rfl) (by kernel_rfl) (fun _ _ _ h => h) (yields_mid 59 4 (by rfl) (.tmp 76) rfl ⟨w.heap.size, 1, none⟩ rfl (setCells af) agg_set size_set rfl (fun w hw => hw.1.fir)) hHeld ?_
      try simp only [List.getElem_toArray, List.getElem_cons_zero, List.getElem_cons_succ, Act.put, List.setIfInBounds_toArray, List.set_cons_zero, List.set_cons_succ]
      refine wpAnyH_take (i := 8) (v := ?vzft8) rfl (by kernel_rfl) (by kernel_rfl) (by kernel_rfl) (fun _ _ _ h => h) (Or.inl ⟨by rfl, ?yzft8⟩) hHeld ?rzft8
      case yzft8 => (intro wS hSw; clear hSw; go_simp; try (with_reducible rfl))
      try simp only [List.getElem_toArray, List.getElem_cons_zero, List.getElem_cons_succ, Act.put, List.setIfInBounds_toArray, List.set_cons_zero, List.set_cons_succ]
      refine wpAnyH_take (i := 9) (v := encS bf) rfl (by kernel_rfl) (by kernel_rfl) (by kernel_rfl) (fun _ _ _ h => h) (yields_mid 59 4 (by rfl) (.tmp 78) rfl ⟨w.heap.size + 1, 1, none⟩ rfl (setCells bf) agg_set size_set rfl (fun w hw => hw.2.1.fir)) hHeld ?_
      try simp only [List.getElem_toArray, List.getElem_cons_zero, List.getElem_cons_succ, Act.put, List.setIfInBounds_toArray, List.set_cons_zero, List.set_cons_succ]
      refine wpAnyH_take (i := 11) (v := ?vzft11) rfl (by kernel_rfl) (by kernel_rfl) (by kernel_rfl) (fun _ _ _ h => h) (Or.inl ⟨by rfl, ?yzft11⟩) hHeld ?rzft11
      case yzft11 => (intro wS hSw; clear hSw; go_simp; try (with_reducible rfl))
      try simp only [List.getElem_toArray, List.getElem_cons_zero, List.getElem_cons_succ, Act.put, List.setIfInBounds_toArray, List.set_cons_zero, List.set_cons_succ]
      refine wpAnyH_take (i := 12) (v := encS al) rfl (by kernel_rfl) (by kernel_rfl) (by kernel_rfl) (fun _ _ _ h => h) (yields_mid 59 4 (by rfl) (.tmp 81) rfl ⟨w.heap.size, 5, none⟩ rfl (setCells al) agg_set size_set rfl (fun w hw => hw.1.las)) hHeld ?_
      try simp only [List.getElem_toArray, List.getElem_cons_zero, List.getElem_cons_succ, Act.put, List.setIfInBounds_toArray, List.set_cons_zero, List.set_cons_succ]
      refine wpAnyH_take (i := 13) (v := ?vzft13) rfl (by kernel_rfl) (by kernel_rfl) (by kernel_rfl) (fun _ _ _ h => h) (Or.inl ⟨by rfl, ?yzft13⟩) hHeld ?rzft13
      case yzft13 => (intro wS hSw; clear hSw; go_simp; try (with_reducible rfl))
      try simp only [List.getElem_toArray, List.getElem_cons_zero, List.getElem_cons_succ, Act.put, List.setIfInBounds_toArray, List.set_cons_zero, List.set_cons_succ]
      refine wpAnyH_take (i := 14) (v := encS bl) rfl (by kernel_rfl) (by kernel_rfl) (by kernel_rfl) (fun _ _ _ h => h) (yields_mid 59 4 (by rfl) (.tmp 83) rfl ⟨w.heap.size + 1, 5, none⟩ rfl (setCells bl) agg_set size_set rfl (fun w hw => hw.2.1.las)) hHeld ?_
      try simp only [List.getElem_toArray, List.getElem_cons_zero, List.getElem_cons_succ, Act.put, List.setIfInBounds_toArray, List.set_cons_zero, List.set_cons_succ]
      refine wpAnyH_ready (rs := [10]) (by kernel_rfl) (by simp) (AllReadyH.cons rfl (fun K hK => ?_) AllReadyH.nil)
      go_simp
      go_at_call 58
      refine (union_is af bf _).mono ?_
      rintro e w5 ⟨rfl, hb5⟩
      have hS1 : HSp w5 w.heap.size ⟨true, af, al⟩ ∧ HSp w5 (w.heap.size + 1) ⟨bn, bf, bl⟩ ∧ (∃ z, HSp w5 (w.heap.size + 1 + 1) z) ∧ HB w5 q N B ∧ w.grownBy w5 (some q) := ⟨hHeld.1.below hb5, hHeld.2.1.below hb5, ⟨_, hHeld.2.2.1.choose_spec.below hb5⟩, hHeld.2.2.2.1.below hb5, hHeld.2.2.2.2.trans (grown_of_below hb5 (some q))⟩
      clear hHeld hb5
      go_wp2_with fail
      refine hK.out _ _ hS1 (fun hHeld => ?_)
      clear hK K hS1
      try simp only [List.getElem_toArray, List.getElem_cons_zero, List.getElem_cons_succ, Act.put, List.setIfInBounds_toArray, List.set_cons_zero, List.set_cons_succ]
      refine wpAnyH_ready (rs := [15]) (by kernel_rfl) (by simp) (AllReadyH.cons rfl (fun K hK => ?_) AllReadyH.nil)
      go_simp
      go_at_call 58
      refine (union_is al bl _).mono ?_
      rintro e w6 ⟨rfl, hb6⟩
      have hS1 : HSp w6 w.heap.size ⟨true, af, al⟩ ∧ HSp w6 (w.heap.size + 1) ⟨bn, bf, bl⟩ ∧ (∃ z, HSp w6 (w.heap.size + 1 + 1) z) ∧ HB w6 q N B ∧ w.grownBy w6 (some q) := ⟨hHeld.1.below hb6, hHeld.2.1.below hb6, ⟨_, hHeld.2.2.1.choose_spec.below hb6⟩, hHeld.2.2.2.1.below hb6, hHeld.2.2.2.2.trans (grown_of_below hb6 (some q))⟩
      clear hHeld hb6
      go_wp2_with fail
      refine hK.out _ _ hS1 (fun hHeld => ?_)
      clear hK K hS1
      try simp only [List.getElem_toArray, List.getElem_cons_zero, List.getElem_cons_succ, Act.put, List.setIfInBounds_toArray, List.set_cons_zero, List.set_cons_succ]
      refine wpAnyH_ready (rs := [16]) (by kernel_rfl) (by simp) (AllReadyH.cons rfl (fun K hK => ?_) AllReadyH.nil)
      rw [if_pos (by rfl)]
      refine wp_span3 _ _ _ true (orS af bf) (orS al bl) rfl rfl rfl rfl ?_
      refine hK.out _ _ hHeld (fun hHeld => ?_)
      clear hK K
      try simp only [List.getElem_toArray, List.getElem_cons_zero, List.getElem_cons_succ, Act.put, List.setIfInBounds_toArray, List.set_cons_zero, List.set_cons_succ]
      refine wpAnyH_ready (rs := [17]) (by kernel_rfl) (by simp) (AllReadyH.cons rfl (fun K hK => ?_) AllReadyH.nil)
      rw [if_pos (by rfl)]
      obtain ⟨zo, hzo⟩ := hHeld.2.2.1
      refine wp_store_row 61 _ _ rfl (w.heap.size + 1 + 1) _ rfl rfl 61 _ hzo (by rw [size_span]; rfl) (by rfl) (all_oneSp ⟨true, orS af bf, orS al bl⟩) ?_
      have hfs := hzo.laid ⟨true, orS af bf, orS al bl⟩
      have hS2 : HSp (w6.setRow (w.heap.size + 1 + 1) (cellsSp ⟨true, orS af bf, orS al bl⟩).toArray) w.heap.size ⟨true, af, al⟩ ∧ HSp (w6.setRow (w.heap.size + 1 + 1) (cellsSp ⟨true, orS af bf, orS al bl⟩).toArray) (w.heap.size + 1) ⟨bn, bf, bl⟩ ∧ (∃ z, HSp (w6.setRow (w.heap.size + 1 + 1) (cellsSp ⟨true, orS af bf, orS al bl⟩).toArray) (w.heap.size + 1 + 1) z) ∧ True := ⟨hHeld.1.row (by omega) _, hHeld.2.1.row (by omega) _, ⟨_, hfs⟩, trivial⟩
      have B6' := hHeld.2.2.2.1
      have G6' := hHeld.2.2.2.2
      have B7' := Lib.hid (B6'.row (k := w.heap.size + 1 + 1) (by omega) (cellsSp ⟨true, orS af bf, orS al bl⟩).toArray)
      have G7' := Lib.hid (grown_row' G6' (b := w.heap.size + 1 + 1) (by omega) (cellsSp ⟨true, orS af bf, orS al bl⟩).toArray)
      have F7 := Lib.hid hfs
      refine hK.out _ _ ⟨hS2.1, hS2.2.1, hS2.2.2.1, B7'.out, G7'.out⟩ (fun hHeld2 => ?_)
      clear hK K hHeld hHeld2 hS2 hfs hzo B6' G6'
      refine wpAnyH_done (by kernel_rfl) ?_ _
      go_wp2_with fail
      refine bodyPost_ret (v := encSp ⟨true, orS af bf, orS al bl⟩) (results_cell_row rfl _ _ (w.heap.size + 1 + 1) 61 _ (0, 0) _ rfl F7.out Tryz.underlying61 rfl (by rw [size_span]; rfl)) rfl (post_is HQ ?_)
      rw [spanE, if_neg (by simp), if_neg (by simp), if_pos rfl, spanB, if_neg (by simp), if_neg (by simp), if_neg (by simp)]
      exact ⟨rfl, B7'.out, G7'.out⟩
  have e4 := int_ne k4
  have K4 := Lib.hid k4
  clear k4
  by_cases k5 : kd = 5
  · subst k5
    have c0 := H6.out.none
    have f0 := H6.out.free 0
    have h64 : HSp (w3.setCell ⟨w.heap.size, 0, none⟩ (.bool true)) w.heap.size ⟨true, a.fir, a.las⟩ := heap_setCell_same w3 w.heap.size 0 _ _ (.bool true) H6.out
    have gs := grown_set w3 w.heap.size 0 (.bool true)
    have h84 := H8.out.kept gs (by simp; omega)
    have hb4 := HB3.out.kept gs (by simp; omega)
    have hbl : Below w.heap.size w3 (w3.setCell ⟨w.heap.size, 0, none⟩ (.bool true)) := (Below.refl _ _).grown gs (by omega) (fun k e => by cases e; exact Nat.le_refl _)
    have ht4 : Tab (w3.setCell ⟨w.heap.size, 0, none⟩ (.bool true)) := fun j hj => (hbl.cell (p := ⟨0, j, none⟩) (by simp; omega)).trans (HT3.out j hj)
    have hcw : (w3.setCell ⟨w.heap.size, 0, none⟩ (.bool true)).cell? ⟨C, 10, none⟩ = some (.slice (some ⟨q, 0, none⟩) N N) := (hbl.cell (p := ⟨C, 10, none⟩) hC0).trans hc103
    have g4 : w.grownBy (w3.setCell ⟨w.heap.size, 0, none⟩ (.bool true)) (some q) := ⟨HG3.out.os, HG3.out.tape, HG3.out.output, by have := HG3.out.size; simpa using this, fun j hj hne => (Below.heap_setCell _ _ _ _ (by simp; omega)).trans (HG3.out.block j hj hne)⟩
    have H64 := Lib.hid h64
    have H84 := Lib.hid h84
    have HB4 := Lib.hid hb4
    have HTW := Lib.hid ht4
    have HCW := Lib.hid hcw
    have G4 := Lib.hid g4
    clear h64 gs h84 hb4 hbl ht4 hcw g4
    go_wp2_with (first
      | (refine wpList_load_agg 59 4 _ rfl rfl ⟨w.heap.size, 5, none⟩ rfl (setCells a.las) (agg_set _) (size_set _) rfl (H64.out.las) ?_)
      | (refine wpList_load_agg 59 4 _ rfl rfl ⟨w.heap.size, 1, none⟩ rfl (setCells a.fir) (agg_set _) (size_set _) rfl (H64.out.fir) ?_))
    refine (note_any C q N B a.las a.fir _ HTW.out hTq HCW.out hCq HB4.out hN HAL.out).mono ?_
    rintro e w5 ⟨rfl, hb5, g5⟩
    have h65 := H64.out.kept g5 (by simp; omega)
    have h85 := H84.out.kept g5 (by simp; omega)
    have g5' := G4.out.trans g5
    have H65 := Lib.hid h65
    have H85 := Lib.hid h85
    have B5 := Lib.hid hb5
    have G5 := Lib.hid g5'
    clear hb5 g5 h65 h85 g5'
    go_wp2_with (first
      | (refine wpList_load_agg 61 9 _ rfl rfl ⟨w.heap.size, 0, none⟩ rfl (cellsSp ⟨true, a.fir, a.las⟩) (agg_span _) (sz_span _) rfl (H65.out.whole) ?_)
      | (refine wpList_store_row rfl 61 _ _ rfl (w.heap.size + 1 + 1) _ rfl rfl 61 _ H85.out (by rw [size_span]; rfl) (by rfl) (all_oneSp _) ?_))
    refine bodyPost_ret (v := encSp ⟨true, a.fir, a.las⟩) (results_cell_row rfl _ _ (w.heap.size + 1 + 1) 61 _ (0, 0) _ rfl (HSp.laid H85.out ⟨true, a.fir, a.las⟩) Tryz.underlying61 rfl (by rw [size_span]; rfl)) rfl (post_is HQ ?_)
    rw [spanE, if_neg (by simp), if_neg (by simp), if_neg (by simp), if_pos rfl, spanB, if_neg (by simp), if_pos rfl]
    exact ⟨rfl, B5.out.row (by omega) _, grown_row' G5.out (by omega) _⟩
  have e5 := int_ne k5
  have K5 := Lib.hid k5
  clear k5
  by_cases k6 : kd = 6
  · subst k6
    have HTW : Hid (Tab w3) := HT3
    have HCW : Hid (w3.cell? ⟨C, 10, none⟩ = some (.slice (some ⟨q, 0, none⟩) N N)) := Lib.hid hc103
    go_wp2_with (first
      | (refine wpList_load_agg 59 4 _ rfl rfl ⟨w.heap.size, 5, none⟩ rfl (setCells a.las) (agg_set _) (size_set _) rfl (H6.out.las) ?_)
      | (refine wpList_load_agg 59 4 _ rfl rfl ⟨w.heap.size, 1, none⟩ rfl (setCells a.fir) (agg_set _) (size_set _) rfl (H6.out.fir) ?_))
    refine (note_any C q N B a.las a.fir _ HTW.out hTq HCW.out hCq HB3.out hN HAL.out).mono ?_
    rintro e w5 ⟨rfl, hb5, g5⟩
    have h65 := H6.out.kept g5 (by simp; omega)
    have h85 := H8.out.kept g5 (by simp; omega)
    have g5' := HG3.out.trans g5
    have H65 := Lib.hid h65
    have H85 := Lib.hid h85
    have B5 := Lib.hid hb5
    have G5 := Lib.hid g5'
    clear hb5 g5 h65 h85 g5'
    go_wp2_with (first
      | (refine wpList_load_agg 61 9 _ rfl rfl ⟨w.heap.size, 0, none⟩ rfl (cellsSp a) (agg_span _) (sz_span _) rfl (H65.out.whole) ?_)
      | (refine wpList_store_row rfl 61 _ _ rfl (w.heap.size + 1 + 1) _ rfl rfl 61 _ H85.out (by rw [size_span]; rfl) (by rfl) (all_oneSp _) ?_))
    refine bodyPost_ret (v := encSp a) (results_cell_row rfl _ _ (w.heap.size + 1 + 1) 61 _ (0, 0) _ rfl (HSp.laid H85.out a) Tryz.underlying61 rfl (by rw [size_span]; rfl)) rfl (post_is HQ ?_)
    rw [spanE, if_neg (by simp), if_neg (by simp), if_neg (by simp), if_neg (by simp), if_pos rfl, spanB, if_neg (by simp), if_neg (by simp), if_pos rfl]
    exact ⟨rfl, B5.out.row (by omega) _, grown_row' G5.out (by omega) _⟩
  have e6 := int_ne k6
  have K6 := Lib.hid k6
  clear k6
  go_wp2_with (first
    | (refine wpList_span1 _ true rfl rfl rfl ?_)
    | (refine wpList_store_row rfl 61 _ _ rfl (w.heap.size + 1 + 1) _ rfl rfl 61 _ H8.out (by rw [size_span]; rfl) (by rfl) (all_oneSp _) ?_))
  refine bodyPost_ret (v := encSp ⟨true, nilS, nilS⟩) (results_cell_row rfl _ _ (w.heap.size + 1 + 1) 61 _ (0, 0) _ rfl (HSp.laid H8.out ⟨true, nilS, nilS⟩) Tryz.underlying61 rfl (by rw [size_span]; rfl)) rfl (post_is HQ ?_)
  rw [spanE, if_neg K2.out, if_neg K3.out, if_neg K4.out, if_neg K5.out, if_neg K6.out, spanB, if_neg K3.out, if_neg K5.out, if_neg K6.out]
  exact ⟨rfl, HB3.out.row (by omega) _, grown_row' HG3.out (by omega) _⟩

end Go.Proofs.YtjibfffefppniaaGreatDoor
