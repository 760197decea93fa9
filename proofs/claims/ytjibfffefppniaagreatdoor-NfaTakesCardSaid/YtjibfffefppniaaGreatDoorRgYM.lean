/- chartOf, Takes, Nil. Under: math/bits' table as it was laid. -/
import Derived.Test.YtjibfffefppniaaGreatDoorRgXM
import Derived.Test.YtjibfffefppniaaGreatDoorRgNM
set_option linter.unusedVariables false
set_option linter.unusedSimpArgs false
namespace Go.Proofs.YtjibfffefppniaaGreatDoor
open Go.RowKit

/-- N spans in a row. -/
def rowSp (N : Nat) (f : Nat → Sp) : List Value := (List.range N).flatMap fun p => cellsSp (f p)
theorem cellsSp_len (a : Sp) : (cellsSp a).length = 9 := rfl
theorem rowSp_len (N : Nat) (f : Nat → Sp) : (rowSp N f).length = N * 9 := by
  unfold rowSp
  induction N with
  | zero => rfl
  | succ N ih => rw [List.range_succ, List.flatMap_append, List.length_append, ih]; simp [cellsSp_len]; omega
theorem rowSp_succ (N : Nat) (f : Nat → Sp) : rowSp (N + 1) f = rowSp N f ++ cellsSp (f N) := by
  unfold rowSp
  rw [List.range_succ, List.flatMap_append]
  simp
theorem rowSp_get : ∀ (N : Nat) (f : Nat → Sp) (p : Nat), p < N → ∀ j u, (cellsSp (f p))[j]? = some u → (rowSp N f)[p * 9 + j]? = some u
  | N + 1, f, p, hp, j, u, h => by
    have hj : j < 9 := (List.getElem?_eq_some_iff.1 h).1
    rw [rowSp_succ]
    by_cases hlt : p < N
    · rw [List.getElem?_append_left (by rw [rowSp_len]; omega)]
      exact rowSp_get N f p hlt j u h
    · obtain rfl : p = N := by omega
      rw [List.getElem?_append_right (by rw [rowSp_len]; omega), rowSp_len]
      have : p * 9 + j - p * 9 = j := by omega
      rw [this]
      exact h
def updP (f : Nat → Sp) (p : Nat) (s : Sp) : Nat → Sp := fun k => if k = p then s else f k
theorem rowSp_congr {N : Nat} {f f' : Nat → Sp} (h : ∀ p, p < N → f p = f' p) : rowSp N f = rowSp N f' := by
  unfold rowSp
  have : ∀ l : List Nat, (∀ p ∈ l, p < N) → l.flatMap (fun p => cellsSp (f p)) = l.flatMap (fun p => cellsSp (f' p)) := by
    intro l
    induction l with
    | nil => intro _; rfl
    | cons x l ih => intro hl; rw [List.flatMap_cons, List.flatMap_cons, h x (hl x (by simp)), ih (fun p hp => hl p (by simp [hp]))]
  exact this _ (fun p hp => List.mem_range.1 hp)
theorem rowSp_upd : ∀ (N : Nat) (f : Nat → Sp) (p : Nat) (s : Sp), p < N → splice (rowSp N f) (p * 9) (cellsSp s) = rowSp N (updP f p s)
  | N + 1, f, p, s, hp => by
    rw [rowSp_succ, rowSp_succ]
    by_cases hlt : p < N
    · have ih := rowSp_upd N f p s hlt
      have e : updP f p s N = f N := by unfold updP; rw [if_neg (by omega)]
      rw [e, ← ih]
      unfold splice
      rw [cellsSp_len, List.take_append_of_le_length (by rw [rowSp_len]; omega), List.drop_append_of_le_length (by rw [rowSp_len]; omega), List.append_assoc, List.append_assoc, List.append_assoc]
    · obtain rfl : p = N := by omega
      have e : updP f p s p = s := by unfold updP; rw [if_pos rfl]
      have e2 : rowSp p (updP f p s) = rowSp p f := rowSp_congr fun k hk => by unfold updP; rw [if_neg (by omega)]
      rw [e, e2]
      unfold splice
      rw [cellsSp_len, List.take_left' (by rw [rowSp_len]), List.drop_of_length_le (by rw [List.length_append, rowSp_len, cellsSp_len]; omega), List.append_nil]
def HSs (w : World) (g N : Nat) (f : Nat → Sp) : Prop := w.heap[g]? = some (.cells (rowSp N f).toArray 61 (0, 0))
theorem HSs.lt {w : World} {g N : Nat} {f : Nat → Sp} (h : HSs w g N f) : g < w.heap.size := (Array.getElem?_eq_some_iff.1 h).1
theorem HSs.cells {w : World} {g N : Nat} {f : Nat → Sp} (h : HSs w g N f) {p : Nat} (hp : p < N) : ∀ j u, (cellsSp (f p))[j]? = some u → w.cell? ((⟨g, p * 9, none⟩ : Addr).add j) = some u := fun j u hu => by
  rw [add_mk, cell_of_row w g _ _ _ _ h]
  simpa using rowSp_get N f p hp j u hu
theorem info_span3 : (Tryz.prog.info? 61).map (fun i => (i.zero, i.size, i.bytes)) = some (some (encSp nilSp), 9, 72) := by kernel_rfl
theorem info_set3 : (Tryz.prog.info? 59).map (fun i => (i.zero, i.size, i.bytes)) = some (some (encS nilS), 4, 32) := by kernel_rfl
theorem made_flat (cs : List Value) (k n : Nat) (hk : cs.length = k) (h0 : 0 < k) (L : List Value) (hL : L.length = n * k) (h : ∀ p, p < n → ∀ j u, cs[j]? = some u → L[p * k + j]? = some u) : madeCells cs.toArray (n * k) = L.toArray := by
  apply Array.ext
  · unfold madeCells; simp [hL]
  · intro i h1 h2
    have hi : i < n * k := by simpa [madeCells] using h1
    have hm : i % k < cs.length := by rw [hk]; exact Nat.mod_lt _ h0
    have hd : i / k < n := Nat.div_lt_of_lt_mul (by rwa [Nat.mul_comm] at hi)
    have e := h (i / k) hd (i % k) _ (List.getElem?_eq_getElem hm)
    rw [Nat.div_add_mod' i k] at e
    have e2 := List.getElem?_eq_some_iff.1 e
    obtain ⟨h3, e3⟩ := e2
    unfold madeCells
    simp [hk, e3]
    rw [List.getElem?_eq_getElem hm]
    rfl

/-! chart -/
theorem rowSp_make (n : Nat) : madeCells (cellsSp nilSp).toArray (n * 9) = (rowSp n fun _ => nilSp).toArray :=
  made_flat _ 9 n rfl (by omega) _ (rowSp_len _ _) fun p hp j u hu => rowSp_get n _ p hp j u hu
theorem rowBh_make (n : Nat) : madeCells (setCells nilS).toArray (n * 4) = (rowBh n fun _ => nilS).toArray :=
  made_flat _ 4 n rfl (by omega) _ (rowBh_len _ _) fun p hp j u hu => rowBh_get n _ p hp j u hu
theorem make_spans (n : Nat) (z : Int) (hz : (n : Int) = z) (hn : n ≤ 256) (W : World) :
    (Instr.makeSlice 97 (.int .i64 z) (.int .i64 z)).run Tryz.prog W = .ok (.slice (some ⟨W.heap.size, 0, none⟩) n n) (W.alloc (.cells (rowSp n fun _ => nilSp).toArray 61)) := by
  subst hz
  obtain ⟨i, hi, hz, hs, hb⟩ := info_parts info_span3
  rw [run_make (P := Tryz.prog) W 97 61 i (encSp nilSp) Tryz.underlying97 hi hz .i64 .i64 n n (by omega) (Int.le_refl _) (by rw [hb]; omega) (by omega), hs]
  have e : (encSp nilSp).cells = (cellsSp nilSp).toArray := rfl
  rw [e, Int.toNat_natCast, rowSp_make]
theorem make_sets (n : Nat) (z : Int) (hz : (n : Int) = z) (hn : n ≤ 256) (W : World) :
    (Instr.makeSlice 62 (.int .i64 z) (.int .i64 z)).run Tryz.prog W = .ok (.slice (some ⟨W.heap.size, 0, none⟩) n n) (W.alloc (.cells (rowBh n fun _ => nilS).toArray 59)) := by
  subst hz
  obtain ⟨i, hi, hz, hs, hb⟩ := info_parts info_set3
  rw [run_make (P := Tryz.prog) W 62 59 i (encS nilS) Tryz.underlying62 hi hz .i64 .i64 n n (by omega) (Int.le_refl _) (by rw [hb]; omega) (by omega), hs]
  have e : (encS nilS).cells = (setCells nilS).toArray := rfl
  rw [e, Int.toNat_natCast, rowBh_make]
def cellsCh (s : Sp) (A : Option Addr) (N c : Nat) (q : Option Addr) (M : Nat) : List Value := cellsSp s ++ [.slice A N c, .slice q M M]
theorem zero_chart (w : World) : (zeroValue 64).run Tryz.prog w = .ok (.agg (cellsCh nilSp none 0 0 none 0).toArray) w := by kernel_rfl
theorem built_chart (A : Option Addr) (N c : Nat) (q : Option Addr) (M : Nat) : Tryz.prog.built 64 [(1, Value.slice A N c), (2, Value.slice q M M)] = some (cellsCh nilSp A N c q M).toArray := by kernel_rfl
theorem wpList_chart {ops : Array Oper} {rest : List Oper} {o : Oper} {a : Act} {w : World} {Q : Exit → Act → World → Prop} (x y : Operand) (A : Option Addr) (N c : Nat) (q : Option Addr) (M : Nat) (hg : o.guard = none) (ho : o.op = .build 64 #[(1, x), (2, y)]) (hx : a.eval x = .slice A N c) (hy : a.eval y = .slice q M M)
    (h : wpList Tryz.prog ops Q rest (a.put o.dst (.agg (cellsCh nilSp A N c q M).toArray)) w) : wpList Tryz.prog ops Q (o :: rest) a w := by
  have hb := built_chart A N c q M
  refine wpList_build hg _ _ ho ?_ ?_
  · simp [hx, hy, hb]
  · simpa [hx, hy, hb] using h
theorem isCh_cells (s : Sp) (A : Option Addr) (N c q : Nat) : IsCh (cellsCh s A N c (some ⟨q, 0, none⟩) N).toArray s.none s.fir s.las A N c q := by
  refine ⟨rfl, rfl, fun j u hu => ?_, fun j u hu => ?_, rfl, rfl⟩
  · have hj : j < 4 := (List.getElem?_eq_some_iff.1 hu).1
    match j, hj with
    | 0, _ => exact hu
    | 1, _ => exact hu
    | 2, _ => exact hu
    | 3, _ => exact hu
  · have hj : j < 4 := (List.getElem?_eq_some_iff.1 hu).1
    match j, hj with
    | 0, _ => exact hu
    | 1, _ => exact hu
    | 2, _ => exact hu
    | 3, _ => exact hu
theorem oneCellsCh (s : Sp) (A : Option Addr) (N c : Nat) (q : Option Addr) (M : Nat) : (cellsCh s A N c q M).toArray.all (·.oneCell') = true := by simp [cellsCh, cellsSp, setCells, dv, Value.oneCell']
theorem splice_ch (s s' : Sp) (A : Option Addr) (N c : Nat) (q : Option Addr) (M : Nat) : splice (cellsCh s A N c q M) 0 (cellsSp s') = cellsCh s' A N c q M := rfl
theorem upd_snoc (sps : List Sp) (s : Sp) (i : Nat) (hi : sps.length = i) : updP (fun p => sps.getD p nilSp) i s = fun p => (sps ++ [s]).getD p nilSp := by
  subst hi
  funext p
  unfold updP
  by_cases h : p = sps.length
  · rw [if_pos h, h]; simp
  · rw [if_neg h]
    show sps.getD p nilSp = _
    by_cases h2 : p < sps.length
    · rw [List.getD_eq_getElem?_getD, List.getD_eq_getElem?_getD, List.getElem?_append_left h2]
    · rw [List.getD_eq_getElem?_getD, List.getD_eq_getElem?_getD, List.getElem?_eq_none (by omega), List.getElem?_eq_none (by simp; omega)]
def GotCh (w : World) (l : List RN) (A : Option Addr) (n c : Nat) (e : Ending) (w' : World) : Prop :=
  ∃ (cs : Array Value) (q : Nat), e = .returned (.agg cs) ∧ IsCh cs ((chartE [] (fun _ => nilS) l).1.getD (n - 1) nilSp).none ((chartE [] (fun _ => nilS) l).1.getD (n - 1) nilSp).fir ((chartE [] (fun _ => nilS) l).1.getD (n - 1) nilSp).las A n c q ∧
    HB w' q n (chartE [] (fun _ => nilS) l).2 ∧ Below w.heap.size w w'

set_option maxRecDepth 100000 in
set_option maxHeartbeats 4000000 in
theorem chart_of (l : List RN) (A : Option Addr) (n c : Nat) (hn : l.length = n) (w : World) (hT : Tab w) (hr : RdR w A l) (h1 : 1 ≤ n) (hl : n ≤ 256)
    (hab : ∀ nd ∈ l, 0 ≤ nd.a ∧ nd.a < (n : Int) ∧ 0 ≤ nd.b ∧ nd.b < (n : Int)) :
    Calls Tryz.prog 23 #[.slice A n c] w (GotCh w l A n c) := by
  generalize hQ : GotCh w l A n c = Q
  have HQ := Lib.hid hQ
  have HR := Lib.hid hr
  have HT := Lib.hid hT
  have HN := Lib.hid hn
  have HAB := Lib.hid hab
  have hTb : 0 < w.heap.size := World.block_lt_of_cell? w _ (hT 0 (by omega))
  clear hQ hr hn hT hab
  have hz := zero_chart
  have hm1 := make_sets n (n : Int) rfl hl
  have hm2 := make_spans n (n : Int) rfl hl
  have bA := bl_alloc (bl_alloc (bl_alloc (Below.refl w.heap.size w) (.cells (cellsCh nilSp none 0 0 none 0).toArray 64)) (.cells (rowBh n fun _ => nilS).toArray 59)) (.cells (cellsCh nilSp none 0 0 none 0).toArray 64)
  have hR1 : (((w.alloc (.cells (cellsCh nilSp none 0 0 none 0).toArray 64)).alloc (.cells (rowBh n fun _ => nilS).toArray 59)).alloc (.cells (cellsCh nilSp none 0 0 none 0).toArray 64)).heap[w.heap.size]? = some (.cells (cellsCh nilSp none 0 0 none 0).toArray 64 (0, 0)) := by
    rw [Below.heap_alloc _ _ _ (by simp; omega), Below.heap_alloc _ _ _ (by simp)]
    exact heap_alloc_new w _
  have hq1 : HB (((w.alloc (.cells (cellsCh nilSp none 0 0 none 0).toArray 64)).alloc (.cells (rowBh n fun _ => nilS).toArray 59)).alloc (.cells (cellsCh nilSp none 0 0 none 0).toArray 64)) (w.heap.size + 1) n (fun _ => nilS) := by
    unfold HB
    rw [Below.heap_alloc _ _ _ (by simp)]
    have := heap_alloc_new (w.alloc (.cells (cellsCh nilSp none 0 0 none 0).toArray 64)) (.cells (rowBh n fun _ => nilS).toArray 59)
    rwa [World.size_alloc] at this
  have hC1 : (((w.alloc (.cells (cellsCh nilSp none 0 0 none 0).toArray 64)).alloc (.cells (rowBh n fun _ => nilS).toArray 59)).alloc (.cells (cellsCh nilSp none 0 0 none 0).toArray 64)).heap[w.heap.size + 1 + 1]? = some (.cells (cellsCh nilSp none 0 0 none 0).toArray 64 (0, 0)) := by
    have := heap_alloc_new ((w.alloc (.cells (cellsCh nilSp none 0 0 none 0).toArray 64)).alloc (.cells (rowBh n fun _ => nilS).toArray 59)) (.cells (cellsCh nilSp none 0 0 none 0).toArray 64)
    rwa [World.size_alloc, World.size_alloc] at this
  have hsA : (((w.alloc (.cells (cellsCh nilSp none 0 0 none 0).toArray 64)).alloc (.cells (rowBh n fun _ => nilS).toArray 59)).alloc (.cells (cellsCh nilSp none 0 0 none 0).toArray 64)).heap.size = w.heap.size + 3 := by simp
  go_enter Tryz.func23, Tryz.ntmps23
  go_upto_region 2 with (first
    | (refine wpList_chart _ _ A n c (some ⟨w.heap.size + 1, 0, none⟩) n rfl rfl rfl rfl ?_)
    | (refine wpList_store_row rfl 64 _ _ rfl (w.heap.size + 1 + 1) _ rfl rfl 64 _ hC1 (by rw [size_chart]; rfl) (by rfl) (oneCellsCh _ _ _ _ _ _) ?_))
  have hR2 := (setRow_other _ (w.heap.size + 1 + 1) w.heap.size (cellsCh nilSp A n c (some ⟨w.heap.size + 1, 0, none⟩) n).toArray (by omega)).trans hR1
  have hq2 := hq1.row (k := w.heap.size + 1 + 1) (by omega) (cellsCh nilSp A n c (some ⟨w.heap.size + 1, 0, none⟩) n).toArray
  have hC2 := setRow_heap _ _ _ (cellsCh nilSp A n c (some ⟨w.heap.size + 1, 0, none⟩) n).toArray _ _ hC1
  have bB := bl_setRow bA (g := w.heap.size + 1 + 1) (by omega) (cellsCh nilSp A n c (some ⟨w.heap.size + 1, 0, none⟩) n).toArray
  have hsB := (setRow_size (((w.alloc (.cells (cellsCh nilSp none 0 0 none 0).toArray 64)).alloc (.cells (rowBh n fun _ => nilS).toArray 59)).alloc (.cells (cellsCh nilSp none 0 0 none 0).toArray 64)) (w.heap.size + 1 + 1) (cellsCh nilSp A n c (some ⟨w.heap.size + 1, 0, none⟩) n).toArray).trans hsA
  generalize (((w.alloc (.cells (cellsCh nilSp none 0 0 none 0).toArray 64)).alloc (.cells (rowBh n fun _ => nilS).toArray 59)).alloc (.cells (cellsCh nilSp none 0 0 none 0).toArray 64)).setRow (w.heap.size + 1 + 1) (cellsCh nilSp A n c (some ⟨w.heap.size + 1, 0, none⟩) n).toArray = wB at *
  clear hR1 hq1 hC1 bA hsA hm1 hz
  go_wp2_with fail
  clear hm2
  have bC := bl_alloc (Below.refl wB.heap.size wB) (.cells (rowSp n fun _ => nilSp).toArray 61)
  have hG3 : HSs (wB.alloc (.cells (rowSp n fun _ => nilSp).toArray 61)) wB.heap.size n (fun _ => nilSp) := heap_alloc_new wB _
  have hR3 := (bC.block w.heap.size (by omega)).trans hR2
  have hq3 := (bC.block (w.heap.size + 1) (by omega)).trans hq2
  have hC3 := (bC.block (w.heap.size + 1 + 1) (by omega)).trans hC2
  have bD := bl_trans bB bC
  have HG3 := Lib.hid hG3
  have HR3 := Lib.hid hR3
  have HQ3 := Lib.hid hq3
  have HC3 := Lib.hid hC3
  have HBD := Lib.hid bD
  clear hR2 hq2 hC2 bB bC hG3 hR3 hq3 hC3 bD
  generalize wB.heap.size = g at *
  subst hsB
  go_loopw [17] (fun v wr => ∃ (i : Nat), i ≤ n ∧ v = .int .i64 (i : Int) ∧ HSs wr (w.heap.size + 3) n (fun p => (chartE [] (fun _ => nilS) (l.take i)).1.getD p nilSp) ∧ HB wr (w.heap.size + 1) n (chartE [] (fun _ => nilS) (l.take i)).2 ∧ wr.heap[w.heap.size + 1 + 1]? = some (.cells (cellsCh nilSp A n c (some ⟨w.heap.size + 1, 0, none⟩) n).toArray 64 (0, 0)) ∧ wr.heap[w.heap.size]? = some (.cells (cellsCh nilSp none 0 0 none 0).toArray 64 (0, 0)) ∧ Below w.heap.size w wr) (fun v _ => n - (intOf v).toNat)
  case atStart => exact ⟨0, Nat.zero_le _, rfl, HG3.out, HQ3.out, HC3.out, HR3.out, HBD.out⟩
  case round =>
    clear HG3 HR3 HQ3 HC3 HBD
    obtain ⟨i, hi, rfl, h1, h2, h3, h4, hb1⟩ := hrel
    by_cases hlt : i < n
    · have hlt2 : i < l.length := by have := HN.out; omega
      have hgl := h1.lt
      obtain ⟨ad, rfl, hcs⟩ := (HR.out.below hb1) i hlt2
      have htk : l.take (i + 1) = l.take i ++ [l[i]] := by rw [List.take_add_one]; simp [hlt2]
      have hgd : l.getD i ⟨0, 0, 0, nilS⟩ = l[i] := by rw [List.getD_eq_getElem?_getD, List.getElem?_eq_getElem hlt2]; rfl
      have hmb := HAB.out _ (List.getElem_mem hlt2)
      generalize l[i] = nd at *
      obtain ⟨kd, a, b, z0, z1, z2, z3⟩ := nd
      obtain ⟨ha1, ha2, hbb1, hbb2⟩ := hmb
      simp only [] at ha1 ha2 hbb1 hbb2
      obtain ⟨a', rfl⟩ : ∃ a' : Nat, a = (a' : Int) := ⟨a.toNat, by omega⟩
      obtain ⟨b', rfl⟩ : ∃ b' : Nat, b = (b' : Int) := ⟨b.toNat, by omega⟩
      have han : a' < n := by omega
      have hbn : b' < n := by omega
      clear ha1 ha2 hbb1 hbb2
      have hclen : (chartE [] (fun _ => nilS) (l.take i)).1.length = i := by rw [chartE_len, List.length_take]; simp; omega
      have hcin := chartE_in (N := n) (l.take i) [] (fun _ => nilS) (by simp; omega) (by simp) (fun _ => InS.nil n)
      have hstep : chartE [] (fun _ => nilS) (l.take (i + 1)) = ((chartE [] (fun _ => nilS) (l.take i)).1 ++ [spanE ⟨kd, a', b', z0, z1, z2, z3⟩ i ((chartE [] (fun _ => nilS) (l.take i)).1.getD a' nilSp) ((chartE [] (fun _ => nilS) (l.take i)).1.getD b' nilSp)], spanB ⟨kd, a', b', z0, z1, z2, z3⟩ ((chartE [] (fun _ => nilS) (l.take i)).1.getD a' nilSp) ((chartE [] (fun _ => nilS) (l.take i)).1.getD b' nilSp) (chartE [] (fun _ => nilS) (l.take i)).2) := by
        rw [htk, chartE_app]
        simp only [chartE, hclen, Int.toNat_natCast]
      have HST := Lib.hid hstep
      have HGD := Lib.hid hgd
      clear hstep htk hgd
      generalize chartE [] (fun _ => nilS) (l.take i) = E at *
      obtain ⟨sps, B⟩ := E
      simp only [] at hclen hcin h1 h2
      have HCS := Lib.hid hcs
      have HIN := Lib.hid hcin
      have HLEN := Lib.hid hclen
      clear hcs hcin hclen
      have hnw := heap_alloc_new wr (.cells #[.int .i64 0, .int .u64 0, .int .u64 0, .int .u64 0, .int .u64 0, .int .i64 0, .int .i64 0] 74)
      go_wp2_with (first
        | (refine wpList_load_node _ rfl rfl _ rfl kd (a' : Int) (b' : Int) z0 z1 z2 z3 HCS.out ?_)
        | (refine wpList_store_row rfl 74 _ _ rfl wr.heap.size _ rfl rfl 74 _ hnw (by rw [size_rn]; rfl) (by rfl) (by simp [dv, Value.oneCell']) ?_))
      have hrow := setRow_heap _ _ _ #[.int .i64 kd, dv z0, dv z1, dv z2, dv z3, .int .i64 ((a' : Nat) : Int), .int .i64 ((b' : Nat) : Int)] _ _ hnw
      have hB2 : Below wr.heap.size wr ((wr.alloc (.cells #[.int .i64 0, .int .u64 0, .int .u64 0, .int .u64 0, .int .u64 0, .int .i64 0, .int .i64 0] 74)).setRow wr.heap.size #[.int .i64 kd, dv z0, dv z1, dv z2, dv z3, .int .i64 ((a' : Nat) : Int), .int .i64 ((b' : Nat) : Int)]) := bl_setRow (bl_alloc (Below.refl _ _) _) (Nat.le_refl _) _
      have hs2 : ((wr.alloc (.cells #[.int .i64 0, .int .u64 0, .int .u64 0, .int .u64 0, .int .u64 0, .int .i64 0, .int .i64 0] 74)).setRow wr.heap.size #[.int .i64 kd, dv z0, dv z1, dv z2, dv z3, .int .i64 ((a' : Nat) : Int), .int .i64 ((b' : Nat) : Int)]).heap.size = wr.heap.size + 1 := by simp
      generalize (wr.alloc (.cells #[.int .i64 0, .int .u64 0, .int .u64 0, .int .u64 0, .int .u64 0, .int .i64 0, .int .i64 0] 74)).setRow wr.heap.size #[.int .i64 kd, dv z0, dv z1, dv z2, dv z3, .int .i64 ((a' : Nat) : Int), .int .i64 ((b' : Nat) : Int)] = w2 at *
      try dsimp only [Act.put]
      clear hnw
      have h1' : HSs w2 (w.heap.size + 3) n (fun p => sps.getD p nilSp) := (hB2.block _ hgl).trans h1
      have h2' : HB w2 (w.heap.size + 1) n B := (hB2.block (w.heap.size + 1) h2.lt).trans h2
      have h3' := (hB2.block (w.heap.size + 1 + 1) (Array.getElem?_eq_some_iff.1 h3).1).trans h3
      have h4' := (hB2.block w.heap.size (Array.getElem?_eq_some_iff.1 h4).1).trans h4
      have hb2 := bl_trans hb1 hB2
      have hRd := HR.out.below hb2
      have hTd := HT.out.below hb2
      have hwl := hb2.size
      clear h1 h2 h3 h4 hb1 hB2
      generalize hk : wr.heap.size = k at *
      clear hk
      refine wp_region_held_drew (S := fun W' => W'.heap[k]? = some (.cells #[.int .i64 kd, dv z0, dv z1, dv z2, dv z3, .int .i64 ((a' : Nat) : Int), .int .i64 ((b' : Nat) : Int)] 74 (0, 0)) ∧ ∃ f, HSs W' (w.heap.size + 3) n f) (by kernel_rfl) ⟨hrow, _, h1'⟩ (fun hHeld => ?_)
      try simp only [List.getElem_toArray, List.getElem_cons_zero, List.getElem_cons_succ, Act.put, List.setIfInBounds_toArray, List.set_cons_zero, List.set_cons_succ]
      refine wpAnyH_take (i := 0) (v := ?vza0) rfl (by kernel_rfl) (by kernel_rfl) (by kernel_rfl) (fun _ _ _ h => h) (Or.inl ⟨by rfl, ?yza0⟩) hHeld ?rza0
      case yza0 => (intro wS hSw; clear hSw; go_simp; try (with_reducible rfl))
      try simp only [List.getElem_toArray, List.getElem_cons_zero, List.getElem_cons_succ, Act.put, List.setIfInBounds_toArray, List.set_cons_zero, List.set_cons_succ]
      refine wpAnyH_take (i := 1) (v := ?vza1) rfl (by kernel_rfl) (by kernel_rfl) (by kernel_rfl) (fun _ _ _ h => h) (Or.inl ⟨by rfl, ?yza1⟩) hHeld ?rza1
      case yza1 => (intro wS hSw; clear hSw; go_simp; try (with_reducible rfl))
      try simp only [List.getElem_toArray, List.getElem_cons_zero, List.getElem_cons_succ, Act.put, List.setIfInBounds_toArray, List.set_cons_zero, List.set_cons_succ]
      refine wpAnyH_take (i := 2) (v := ?vza2) rfl (by kernel_rfl) (by kernel_rfl) (by kernel_rfl) (fun _ _ _ h => h) (Or.inl ⟨by rfl, ?yza2⟩) hHeld ?rza2
      case yza2 => (intro wS hSw; clear hSw; go_simp; try (with_reducible rfl))
      try simp only [List.getElem_toArray, List.getElem_cons_zero, List.getElem_cons_succ, Act.put, List.setIfInBounds_toArray, List.set_cons_zero, List.set_cons_succ]
      refine wpAnyH_take (i := 3) (v := ?vza3) rfl (by kernel_rfl) (by kernel_rfl) (by kernel_rfl) (fun _ _ _ h => h) (Or.inl ⟨by rfl, ?yza3⟩) hHeld ?rza3
      case yza3 => (intro wS hSw; clear hSw; go_simp; try (with_reducible rfl))
      try simp only [List.getElem_toArray, List.getElem_cons_zero, List.getElem_cons_succ, Act.put, List.setIfInBounds_toArray, List.set_cons_zero, List.set_cons_succ]
      refine wpAnyH_take (i := 4) (v := ?vza4) rfl (by kernel_rfl) (by kernel_rfl) (by kernel_rfl) (fun _ _ _ h => h) (Or.inl ⟨by rfl, ?yza4⟩) hHeld ?rza4
      case yza4 => (intro wS hSw; clear hSw; go_simp; try (with_reducible rfl))
      try simp only [List.getElem_toArray, List.getElem_cons_zero, List.getElem_cons_succ, Act.put, List.setIfInBounds_toArray, List.set_cons_zero, List.set_cons_succ]
      refine wpAnyH_take (i := 5) (v := ?vza5) rfl (by kernel_rfl) (by kernel_rfl) (by kernel_rfl) (fun _ _ _ h => h) (Or.inl ⟨by rfl, ?yza5⟩) hHeld ?rza5
      case yza5 => (intro wS hSw; obtain ⟨q0, q1, q2, q3, q4, q5, q6⟩ := node_cells hSw.1; clear hSw; go_simp; try (with_reducible rfl))
      try simp only [List.getElem_toArray, List.getElem_cons_zero, List.getElem_cons_succ, Act.put, List.setIfInBounds_toArray, List.set_cons_zero, List.set_cons_succ]
      refine wpAnyH_take (i := 6) (v := ?vza6) rfl (by kernel_rfl) (by kernel_rfl) (by kernel_rfl) (fun _ _ _ h => h) (Or.inl ⟨by rfl, ?yza6⟩) hHeld ?rza6
      case yza6 => (intro wS hSw; clear hSw; go_simp; try (with_reducible rfl))
      try simp only [List.getElem_toArray, List.getElem_cons_zero, List.getElem_cons_succ, Act.put, List.setIfInBounds_toArray, List.set_cons_zero, List.set_cons_succ]
      refine wpAnyH_take (i := 8) (v := ?vza8) rfl (by kernel_rfl) (by kernel_rfl) (by kernel_rfl) (fun _ _ _ h => h) (Or.inl ⟨by rfl, ?yza8⟩) hHeld ?rza8
      case yza8 => (intro wS hSw; clear hSw; go_simp; try (with_reducible rfl))
      try simp only [List.getElem_toArray, List.getElem_cons_zero, List.getElem_cons_succ, Act.put, List.setIfInBounds_toArray, List.set_cons_zero, List.set_cons_succ]
      refine wpAnyH_take (i := 9) (v := ?vza9) rfl (by kernel_rfl) (by kernel_rfl) (by kernel_rfl) (fun _ _ _ h => h) (Or.inl ⟨by rfl, ?yza9⟩) hHeld ?rza9
      case yza9 => (intro wS hSw; clear hSw; go_simp; try (with_reducible rfl))
      try simp only [List.getElem_toArray, List.getElem_cons_zero, List.getElem_cons_succ, Act.put, List.setIfInBounds_toArray, List.set_cons_zero, List.set_cons_succ]
      refine wpAnyH_take (i := 10) (v := ?vza10) rfl (by kernel_rfl) (by kernel_rfl) (by kernel_rfl) (fun _ _ _ h => h) (Or.inl ⟨by rfl, ?yza10⟩) hHeld ?rza10
      case yza10 => (intro wS hSw; obtain ⟨q0, q1, q2, q3, q4, q5, q6⟩ := node_cells hSw.1; clear hSw; go_simp; try (with_reducible rfl))
      try simp only [List.getElem_toArray, List.getElem_cons_zero, List.getElem_cons_succ, Act.put, List.setIfInBounds_toArray, List.set_cons_zero, List.set_cons_succ]
      refine wpAnyH_take (i := 11) (v := ?vza11) rfl (by kernel_rfl) (by kernel_rfl) (by kernel_rfl) (fun _ _ _ h => h) (Or.inl ⟨by rfl, ?yza11⟩) hHeld ?rza11
      case yza11 => (intro wS hSw; clear hSw; go_simp; try (with_reducible rfl))
      try simp only [List.getElem_toArray, List.getElem_cons_zero, List.getElem_cons_succ, Act.put, List.setIfInBounds_toArray, List.set_cons_zero, List.set_cons_succ]
      refine wpAnyH_ready (rs := [7, 12]) (by kernel_rfl) (by simp) (AllReadyH.cons rfl (fun K hK => ?_) (AllReadyH.cons rfl (fun K hK => ?_) AllReadyH.nil))
      · rw [if_pos (by rfl)]
        refine wp_load_agg 61 9 _ rfl ⟨w.heap.size + 3, a' * 9, none⟩ rfl (cellsSp (sps.getD a' nilSp)) (agg_span _) (sz_span _) rfl (h1'.cells han) ?_
        refine hK.out _ _ hHeld (fun hHeld => ?_)
        clear hK K
        try simp only [List.getElem_toArray, List.getElem_cons_zero, List.getElem_cons_succ, Act.put, List.setIfInBounds_toArray, List.set_cons_zero, List.set_cons_succ]
        refine wpAnyH_ready (rs := [12]) (by kernel_rfl) (by simp) (AllReadyH.cons rfl (fun K hK => ?_) AllReadyH.nil)
        rw [if_pos (by rfl)]
        refine wp_load_agg 61 9 _ rfl ⟨w.heap.size + 3, b' * 9, none⟩ rfl (cellsSp (sps.getD b' nilSp)) (agg_span _) (sz_span _) rfl (h1'.cells hbn) ?_
        refine hK.out _ _ hHeld (fun hHeld => ?_)
        clear hK K
        try simp only [List.getElem_toArray, List.getElem_cons_zero, List.getElem_cons_succ, Act.put, List.setIfInBounds_toArray, List.set_cons_zero, List.set_cons_succ]
        refine wpAnyH_ready (rs := [13]) (by kernel_rfl) (by simp) (AllReadyH.cons rfl (fun K hK => ?_) AllReadyH.nil)
        rw [if_pos (by rfl)]
        go_simp
        go_at_call 43
        have hcall := span_of (w.heap.size + 1 + 1) (w.heap.size + 1) n c i l B (sps.getD a' nilSp) (sps.getD b' nilSp) w2.drew ⟨hTd, by omega, by omega, ⟨some ad, (cell_of_row w2 _ 9 _ _ _ h3').trans rfl, hRd⟩, (cell_of_row w2 _ 10 _ _ _ h3').trans rfl, h2', HN.out, hl, hlt⟩ (getD_in HIN.out.1 a').2
        rw [HGD.out] at hcall
        refine hcall.mono ?_
        clear hcall
        rintro e w5 ⟨rfl, hb5, g5⟩
        have k1 : w5.heap[k]? = _ := (g5.block k (Array.getElem?_eq_some_iff.1 hrow).1 (by simp; omega)).trans hrow
        have k2 : HSs w5 (w.heap.size + 3) n (fun p => sps.getD p nilSp) := (g5.block (w.heap.size + 3) h1'.lt (by simp)).trans h1'
        have k3 := (g5.block (w.heap.size + 1 + 1) (Array.getElem?_eq_some_iff.1 h3').1 (by simp)).trans h3'
        have k4 := (g5.block w.heap.size (Array.getElem?_eq_some_iff.1 h4').1 (by simp)).trans h4'
        have k5 := bl_grown (bl_drewN hb2 1) g5 (fun k e => by cases e; omega)
        generalize hs5 : spanE ⟨kd, a', b', z0, z1, z2, z3⟩ i (sps.getD a' nilSp) (sps.getD b' nilSp) = s5 at *
        generalize hB5 : spanB ⟨kd, a', b', z0, z1, z2, z3⟩ (sps.getD a' nilSp) (sps.getD b' nilSp) B = B5 at *
        clear hHeld g5 h1' h2' h3' h4' hb2 hRd hTd
        unfold encSp
        go_wp2_with fail
        refine hK.out _ _ ⟨k1, _, k2⟩ (fun hHeld => ?_)
        clear hK K
        try simp only [List.getElem_toArray, List.getElem_cons_zero, List.getElem_cons_succ, Act.put, List.setIfInBounds_toArray, List.set_cons_zero, List.set_cons_succ]
        refine wpAnyH_take (i := 14) (v := ?vzba14) rfl (by kernel_rfl) (by kernel_rfl) (by kernel_rfl) (fun _ _ _ h => h) (Or.inl ⟨by rfl, ?yzba14⟩) hHeld ?rzba14
        case yzba14 => (intro wS hSw; clear hSw; go_simp; try (with_reducible rfl))
        try simp only [List.getElem_toArray, List.getElem_cons_zero, List.getElem_cons_succ, Act.put, List.setIfInBounds_toArray, List.set_cons_zero, List.set_cons_succ]
        refine wpAnyH_ready (rs := [15]) (by kernel_rfl) (by simp) (AllReadyH.cons rfl (fun K hK => ?_) AllReadyH.nil)
        rw [if_pos (by rfl)]
        refine wp_store_mid 61 _ _ rfl (w.heap.size + 3) (i * 9) rfl (cellsSp s5) rfl 61 (rowSp n fun p => sps.getD p nilSp) k2 size_span (by rw [rowSp_len, cellsSp_len]; omega) (oneCellsSp _) ?_
        rw [rowSp_upd n _ i s5 hlt, upd_snoc sps s5 i HLEN.out]
        have m2 : HSs (w5.setRow (w.heap.size + 3) (rowSp n fun p => (sps ++ [s5]).getD p nilSp).toArray) (w.heap.size + 3) n (fun p => (sps ++ [s5]).getD p nilSp) := setRow_heap _ _ _ _ _ _ k2
        have m1 := (setRow_other w5 (w.heap.size + 3) k (rowSp n fun p => (sps ++ [s5]).getD p nilSp).toArray (by omega)).trans k1
        have m3 := (setRow_other w5 (w.heap.size + 3) (w.heap.size + 1 + 1) (rowSp n fun p => (sps ++ [s5]).getD p nilSp).toArray (by omega)).trans k3
        have m4 := (setRow_other w5 (w.heap.size + 3) w.heap.size (rowSp n fun p => (sps ++ [s5]).getD p nilSp).toArray (by omega)).trans k4
        have m5 := bl_setRow k5 (g := w.heap.size + 3) (by omega) (rowSp n fun p => (sps ++ [s5]).getD p nilSp).toArray
        have m6 := hb5.row (k := w.heap.size + 3) (by omega) (rowSp n fun p => (sps ++ [s5]).getD p nilSp).toArray
        refine hK.out _ _ ⟨m1, _, m2⟩ (fun hHeld => ?_)
        clear hK K hHeld
        refine wpAnyH_done (by kernel_rfl) ?_ _
        have M2 := Lib.hid m2
        have M3 := Lib.hid m3
        have M4 := Lib.hid m4
        have M5 := Lib.hid m5
        have M6 := Lib.hid m6
        clear m1 m2 m3 m4 m5 m6 k1 k2 k3 k4 k5 hb5
        go_wp2_with fail
        refine ⟨⟨i + 1, by omega, by go_num, ?_, ?_, M3.out, M4.out, M5.out⟩, by simp [intOf]; omega⟩
        · rw [HST.out]
          exact M2.out
        · rw [HST.out]
          exact M6.out
      · rw [if_pos (by rfl)]
        refine wp_load_agg 61 9 _ rfl ⟨w.heap.size + 3, b' * 9, none⟩ rfl (cellsSp (sps.getD b' nilSp)) (agg_span _) (sz_span _) rfl (h1'.cells hbn) ?_
        refine hK.out _ _ hHeld (fun hHeld => ?_)
        clear hK K
        try simp only [List.getElem_toArray, List.getElem_cons_zero, List.getElem_cons_succ, Act.put, List.setIfInBounds_toArray, List.set_cons_zero, List.set_cons_succ]
        refine wpAnyH_ready (rs := [7]) (by kernel_rfl) (by simp) (AllReadyH.cons rfl (fun K hK => ?_) AllReadyH.nil)
        rw [if_pos (by rfl)]
        refine wp_load_agg 61 9 _ rfl ⟨w.heap.size + 3, a' * 9, none⟩ rfl (cellsSp (sps.getD a' nilSp)) (agg_span _) (sz_span _) rfl (h1'.cells han) ?_
        refine hK.out _ _ hHeld (fun hHeld => ?_)
        clear hK K
        try simp only [List.getElem_toArray, List.getElem_cons_zero, List.getElem_cons_succ, Act.put, List.setIfInBounds_toArray, List.set_cons_zero, List.set_cons_succ]
        refine wpAnyH_ready (rs := [13]) (by kernel_rfl) (by simp) (AllReadyH.cons rfl (fun K hK => ?_) AllReadyH.nil)
        rw [if_pos (by rfl)]
        go_simp
        go_at_call 43
        have hcall := span_of (w.heap.size + 1 + 1) (w.heap.size + 1) n c i l B (sps.getD a' nilSp) (sps.getD b' nilSp) w2.drew ⟨hTd, by omega, by omega, ⟨some ad, (cell_of_row w2 _ 9 _ _ _ h3').trans rfl, hRd⟩, (cell_of_row w2 _ 10 _ _ _ h3').trans rfl, h2', HN.out, hl, hlt⟩ (getD_in HIN.out.1 a').2
        rw [HGD.out] at hcall
        refine hcall.mono ?_
        clear hcall
        rintro e w5 ⟨rfl, hb5, g5⟩
        have k1 : w5.heap[k]? = _ := (g5.block k (Array.getElem?_eq_some_iff.1 hrow).1 (by simp; omega)).trans hrow
        have k2 : HSs w5 (w.heap.size + 3) n (fun p => sps.getD p nilSp) := (g5.block (w.heap.size + 3) h1'.lt (by simp)).trans h1'
        have k3 := (g5.block (w.heap.size + 1 + 1) (Array.getElem?_eq_some_iff.1 h3').1 (by simp)).trans h3'
        have k4 := (g5.block w.heap.size (Array.getElem?_eq_some_iff.1 h4').1 (by simp)).trans h4'
        have k5 := bl_grown (bl_drewN hb2 1) g5 (fun k e => by cases e; omega)
        generalize hs5 : spanE ⟨kd, a', b', z0, z1, z2, z3⟩ i (sps.getD a' nilSp) (sps.getD b' nilSp) = s5 at *
        generalize hB5 : spanB ⟨kd, a', b', z0, z1, z2, z3⟩ (sps.getD a' nilSp) (sps.getD b' nilSp) B = B5 at *
        clear hHeld g5 h1' h2' h3' h4' hb2 hRd hTd
        unfold encSp
        go_wp2_with fail
        refine hK.out _ _ ⟨k1, _, k2⟩ (fun hHeld => ?_)
        clear hK K
        try simp only [List.getElem_toArray, List.getElem_cons_zero, List.getElem_cons_succ, Act.put, List.setIfInBounds_toArray, List.set_cons_zero, List.set_cons_succ]
        refine wpAnyH_take (i := 14) (v := ?vzbb14) rfl (by kernel_rfl) (by kernel_rfl) (by kernel_rfl) (fun _ _ _ h => h) (Or.inl ⟨by rfl, ?yzbb14⟩) hHeld ?rzbb14
        case yzbb14 => (intro wS hSw; clear hSw; go_simp; try (with_reducible rfl))
        try simp only [List.getElem_toArray, List.getElem_cons_zero, List.getElem_cons_succ, Act.put, List.setIfInBounds_toArray, List.set_cons_zero, List.set_cons_succ]
        refine wpAnyH_ready (rs := [15]) (by kernel_rfl) (by simp) (AllReadyH.cons rfl (fun K hK => ?_) AllReadyH.nil)
        rw [if_pos (by rfl)]
        refine wp_store_mid 61 _ _ rfl (w.heap.size + 3) (i * 9) rfl (cellsSp s5) rfl 61 (rowSp n fun p => sps.getD p nilSp) k2 size_span (by rw [rowSp_len, cellsSp_len]; omega) (oneCellsSp _) ?_
        rw [rowSp_upd n _ i s5 hlt, upd_snoc sps s5 i HLEN.out]
        have m2 : HSs (w5.setRow (w.heap.size + 3) (rowSp n fun p => (sps ++ [s5]).getD p nilSp).toArray) (w.heap.size + 3) n (fun p => (sps ++ [s5]).getD p nilSp) := setRow_heap _ _ _ _ _ _ k2
        have m1 := (setRow_other w5 (w.heap.size + 3) k (rowSp n fun p => (sps ++ [s5]).getD p nilSp).toArray (by omega)).trans k1
        have m3 := (setRow_other w5 (w.heap.size + 3) (w.heap.size + 1 + 1) (rowSp n fun p => (sps ++ [s5]).getD p nilSp).toArray (by omega)).trans k3
        have m4 := (setRow_other w5 (w.heap.size + 3) w.heap.size (rowSp n fun p => (sps ++ [s5]).getD p nilSp).toArray (by omega)).trans k4
        have m5 := bl_setRow k5 (g := w.heap.size + 3) (by omega) (rowSp n fun p => (sps ++ [s5]).getD p nilSp).toArray
        have m6 := hb5.row (k := w.heap.size + 3) (by omega) (rowSp n fun p => (sps ++ [s5]).getD p nilSp).toArray
        refine hK.out _ _ ⟨m1, _, m2⟩ (fun hHeld => ?_)
        clear hK K hHeld
        refine wpAnyH_done (by kernel_rfl) ?_ _
        have M2 := Lib.hid m2
        have M3 := Lib.hid m3
        have M4 := Lib.hid m4
        have M5 := Lib.hid m5
        have M6 := Lib.hid m6
        clear m1 m2 m3 m4 m5 m6 k1 k2 k3 k4 k5 hb5
        go_wp2_with fail
        refine ⟨⟨i + 1, by omega, by go_num, ?_, ?_, M3.out, M4.out, M5.out⟩, by simp [intOf]; omega⟩
        · rw [HST.out]
          exact M2.out
        · rw [HST.out]
          exact M6.out
    · obtain rfl : i = n := by omega
      have htk : l.take i = l := List.take_of_length_le (by have := HN.out; omega)
      rw [htk] at h1 h2
      have hgl := h1.lt
      have hx1 : (i : Int) - 1 = ((i - 1 : Nat) : Int) := by omega
      have hx2 : i - 1 < i := by omega
      unfold GotCh at HQ
      generalize chartE [] (fun _ => nilS) l = E at *
      obtain ⟨sps, B⟩ := E
      simp only [] at h1 h2 HQ
      have c5 := setRow_heap _ _ _ (cellsCh (sps.getD (i - 1) nilSp) A i c (some ⟨w.heap.size + 1, 0, none⟩) i).toArray _ _ h3
      have r5 := (setRow_other wr (w.heap.size + 1 + 1) w.heap.size (cellsCh (sps.getD (i - 1) nilSp) A i c (some ⟨w.heap.size + 1, 0, none⟩) i).toArray (by omega)).trans h4
      have b5 := h2.row (k := w.heap.size + 1 + 1) (by omega) (cellsCh (sps.getD (i - 1) nilSp) A i c (some ⟨w.heap.size + 1, 0, none⟩) i).toArray
      have w5 := bl_setRow hb1 (g := w.heap.size + 1 + 1) (by omega) (cellsCh (sps.getD (i - 1) nilSp) A i c (some ⟨w.heap.size + 1, 0, none⟩) i).toArray
      have H1 := Lib.hid h1
      have H3 := Lib.hid h3
      have C5 := Lib.hid c5
      have R5 := Lib.hid r5
      have B5 := Lib.hid b5
      have W5 := Lib.hid w5
      clear h1 h2 h3 h4 hb1 c5 r5 b5 w5
      go_wp2_with (first
        | (refine wpList_load_agg 61 9 _ rfl rfl ⟨w.heap.size + 3, (i - 1) * 9, none⟩ rfl (cellsSp (sps.getD (i - 1) nilSp)) (agg_span _) (sz_span _) rfl (H1.out.cells hx2) ?_)
        | (refine wpList_store_mid rfl 61 _ _ rfl (w.heap.size + 1 + 1) 0 rfl (cellsSp (sps.getD (i - 1) nilSp)) rfl 64 (cellsCh nilSp A i c (some ⟨w.heap.size + 1, 0, none⟩) i) H3.out size_span (by simp [cellsCh, cellsSp, setCells]) (oneCellsSp _) ?_; rw [splice_ch])
        | (refine wpList_load_row rfl 64 _ rfl (w.heap.size + 1 + 1) rfl 64 _ (0, 0) _ C5.out Tryz.underlying64 rfl (by rw [size_chart]; rfl) ?_)
        | (refine wpList_store_row rfl 64 _ _ rfl w.heap.size _ rfl rfl 64 _ R5.out (by rw [size_chart]; rfl) (by rfl) (oneCellsCh _ _ _ _ _ _) ?_))
      refine bodyPost_ret (v := .agg (cellsCh (sps.getD (i - 1) nilSp) A i c (some ⟨w.heap.size + 1, 0, none⟩) i).toArray) (results_cell_row rfl _ _ w.heap.size 64 _ (0, 0) _ rfl (setRow_heap _ _ _ _ _ _ R5.out) Tryz.underlying64 rfl (by rw [size_chart]; rfl)) rfl (post_is HQ ?_)
      exact ⟨_, w.heap.size + 1, rfl, isCh_cells _ _ _ _ _, B5.out.row (by omega) _, bl_setRow W5.out (Nat.le_refl _) _⟩

end Go.Proofs.YtjibfffefppniaaGreatDoor

/- Check, Takes, Nil. Under: math/bits' table as it was laid. -/
set_option linter.unusedVariables false
set_option linter.unusedSimpArgs false
namespace Go.Proofs.YtjibfffefppniaaGreatDoor
open Go.RowKit

/-- Whether a text is taken, by the nodes. -/
def takesL (l : List RN) (t : List UInt8) : Bool :=
  runS (labOf l) (chartE [] (fun _ => nilS) l).2 ((chartE [] (fun _ => nilS) l).1.getD (l.length - 1) nilSp).las ((chartE [] (fun _ => nilS) l).1.getD (l.length - 1) nilSp).none ((chartE [] (fun _ => nilS) l).1.getD (l.length - 1) nilSp).fir t
theorem takesL_flat (tr : Rx) (t : List UInt8) : takesL (flat 0 tr) t = takesS (labOf (flat 0 tr)) tr t := by
  obtain ⟨xs, hx, he⟩ := chart_all tr
  have hg : (xs ++ [spOf 0 tr]).getD ((flat 0 tr).length - 1) nilSp = spOf 0 tr := by
    have : (flat 0 tr).length - 1 = xs.length := by rw [flat_len]; omega
    rw [this]
    simp
  rw [takesL, he, takesS]
  simp only [hg]
  rfl
def takesE (l : List RN) (t : List UInt8) : Bool × Nat := if checkE l ≠ 0 then (false, checkE l) else if 8192 < t.length then (false, 5) else (takesL l t, 0)

set_option maxRecDepth 20000 in
set_option maxHeartbeats 2000000 in
theorem takes_all (l : List RN) (A : Option Addr) (n c : Nat) (At : Option Addr) (m ct : Nat) (t : List UInt8) (hn : l.length = n) (hm : t.length = m) (w : World) (hT : Tab w) (hr : RdR w A l) (ht : Rd w At t) (hc : n ≤ c) :
    Calls Tryz.prog 8 #[.agg #[.slice A n c], .slice At m ct] w (GotBE w (takesE l t)) := by
  generalize hQ : GotBE w (takesE l t) = Q
  have HQ := Lib.hid hQ
  have HR := Lib.hid hr
  have HN := Lib.hid hn
  have HT := Lib.hid hT
  have HM := Lib.hid hm
  have HTT := Lib.hid ht
  clear hQ hr hn hT hm ht
  have HB := Lib.hid (bl_alloc (Below.refl w.heap.size w) (.cells #[.slice A n c] 39))
  have hP : (w.alloc (.cells #[.slice A n c] 39)).heap[w.heap.size]? = some (.cells #[.slice A n c] 39 (0, 0)) := heap_alloc_new w _
  have HP := Lib.hid hP
  clear hP
  go_enter Tryz.func8, Tryz.ntmps8
  go_wp2_with fail
  refine (check_any l A n c HN.out _ (HR.out.below HB.out) hc).mono ?_
  rintro e w2 ⟨rfl, hb2⟩
  have HP2 := Lib.hid ((hb2.block w.heap.size (by simp)).trans HP.out)
  have HB2 := Lib.hid (bl_trans HB.out hb2)
  clear hb2 HP HB
  generalize hk : checkE l = k
  have HK := Lib.hid hk
  clear hk
  by_cases h0 : k = 0
  · subst h0
    by_cases hlong : 8192 < m
    · have h' : (8192 : Int) < (m : Int) := by omega
      go_wp2_with fail
      refine post_is HQ ⟨?_, HB2.out⟩
      rw [takesE, HK.out, HM.out, if_neg (by simp), if_pos hlong]
      rfl
    · have h' : ¬ (8192 : Int) < (m : Int) := by omega
      have hcell := cell_of_row w2 w.heap.size 0 _ _ _ HP2.out
      have hzz := check_zero HK.out
      have hn2 := HN.out
      obtain ⟨tr, htr⟩ := flat_of_tree l hzz.2
      have hsz : tr.size = n := by rw [← hn2, htr, flat_len]
      have hpos := tr.size_pos
      have hab : ∀ nd ∈ l, 0 ≤ nd.a ∧ nd.a < (n : Int) ∧ 0 ≤ nd.b ∧ nd.b < (n : Int) := fun nd hnd => by
        have := flat_ab tr 0 nd (by rw [← htr]; exact hnd)
        rw [Nat.zero_add, hsz] at this
        exact this
      have hle : n ≤ 256 := by omega
      have h1 : 1 ≤ n := by omega
      have hin := chartE_in (N := n) l [] (fun _ => nilS) (by simp; omega) (by simp) (fun _ => InS.nil n)
      have HIN := Lib.hid hin
      have HAB := Lib.hid hab
      clear hzz htr hsz hpos hab hin hn2
      go_wp2_with fail
      refine (chart_of l A n c HN.out _ (HT.out.below HB2.out) (HR.out.below HB2.out) h1 hle HAB.out).mono ?_
      rintro e w3 ⟨cs, q, rfl, hch, hbh, hb3⟩
      have HB3 := Lib.hid (bl_trans HB2.out hb3)
      clear hb3 hcell
      go_wp2_with fail
      refine (takes_any cs _ _ _ A n c q _ l At m ct t _ hch (HT.out.below HB3.out) HN.out (HR.out.below HB3.out) hbh hle (getD_in HIN.out.1 _).1 (fun p _ => HIN.out.2 p) HM.out (HTT.out.below HB3.out) (by unfold maxLen; omega)).mono ?_
      rintro e w4 ⟨rfl, hb4⟩
      have HB4 := Lib.hid (bl_trans HB3.out hb4)
      clear hb4 hch hbh
      go_wp2_with fail
      refine post_is HQ ⟨?_, HB4.out⟩
      rw [takesE, HK.out, HM.out, if_neg (by simp), if_neg hlong, takesL, HN.out]
      rfl
  · have h' : ((k : Int) == 0) = false := by simp; omega
    go_wp2_with fail
    refine post_is HQ ⟨?_, HB2.out⟩
    rw [takesE, HK.out, if_pos h0]
    rfl

end Go.Proofs.YtjibfffefppniaaGreatDoor
