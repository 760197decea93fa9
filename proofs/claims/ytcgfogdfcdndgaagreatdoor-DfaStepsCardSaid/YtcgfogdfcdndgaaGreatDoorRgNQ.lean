/- Check: whether a list of nodes is one tree. No condition. -/
import Derived.Test.YtcgfogdfcdndgaaGreatDoorRgJQ
import Derived.StillTailTactics
set_option linter.unusedVariables false
set_option linter.unusedSimpArgs false
namespace Go.Proofs.YtcgfogdfcdndgaaGreatDoor
open Go.RowKit

/-- Nodes in memory. -/
def RdR (w : World) (A : Option Addr) (l : List RN) : Prop := ∀ i (h : i < l.length), ∃ ad, A = some ad ∧ ∀ j u, (cellsR l[i])[j]? = some u → w.cell? ((ad.add (i * 7)).add j) = some u
theorem RdR.below {w w' : World} {A : Option Addr} {l : List RN} (h : RdR w A l) (hb : Below w.heap.size w w') : RdR w' A l := fun i hi => by
  obtain ⟨ad, e, hc⟩ := h i hi
  exact ⟨ad, e, fun j u hu => (hb.cell (World.block_lt_of_cell? w _ (hc j u hu))).trans (hc j u hu)⟩
/-- A number's cell. -/
def nv (n : Nat) : Value := .int .i64 (n : Int)
def upd (f : Nat → Nat) (i x : Nat) : Nat → Nat := fun j => if j = i then x else f j
def rowN (n : Nat) (f : Nat → Nat) : Array Value := (((List.range n).map f).map nv).toArray
theorem rowN_size (n : Nat) (f : Nat → Nat) : (rowN n f).size = n := by simp [rowN]
theorem rowN_get (n : Nat) (f : Nat → Nat) (j : Nat) (hj : j < n) : (rowN n f)[j]? = some (nv (f j)) := by simp [rowN, hj]
theorem rowN_ext (n : Nat) (f : Nat → Nat) (a : Array Value) (hs : a.size = n) (h : ∀ j, j < n → a[j]? = some (nv (f j))) : a = rowN n f := by
  apply Array.ext_getElem?
  intro j
  by_cases hj : j < n
  · rw [h j hj, rowN_get _ _ _ hj]
  · rw [Array.getElem?_eq_none (by omega), Array.getElem?_eq_none (by rw [rowN_size]; omega)]
theorem rowN_set (n : Nat) (f : Nat → Nat) (i : Nat) (x : Nat) : (rowN n f).setIfInBounds i (nv x) = rowN n (upd f i x) := by
  refine rowN_ext n _ _ (by simp [rowN_size]) fun j hj => ?_
  unfold upd
  by_cases e : i = j
  · subst e
    rw [Array.getElem?_setIfInBounds_self_of_lt (by rw [rowN_size]; exact hj), if_pos rfl]
  · rw [Array.getElem?_setIfInBounds_ne e, rowN_get _ _ _ hj, if_neg (fun h => e h.symm)]

/-- A block that holds n numbers. -/
def Hn (w : World) (g n : Nat) (f : Nat → Nat) : Prop := w.heap[g]? = some (.cells (rowN n f) 3 (0, 0))
theorem Hn.cell {w : World} {g n : Nat} {f : Nat → Nat} (h : Hn w g n f) {j : Nat} (hj : j < n) : w.cell? ⟨g, j, none⟩ = some (.int .i64 ((f j : Nat) : Int)) := by
  rw [cell_of_row w g j _ _ _ h, rowN_get _ _ _ hj]
  rfl
theorem Hn.free {w : World} {g n : Nat} {f : Nat → Nat} (h : Hn w g n f) (j : Nat) : w.frozen? ⟨g, j, none⟩ = false := frozen_of_row w g j _ _ h
theorem Hn.lt {w : World} {g n : Nat} {f : Nat → Nat} (h : Hn w g n f) : g < w.heap.size := (Array.getElem?_eq_some_iff.1 h).1
theorem Hn.set {w : World} {g n : Nat} {f : Nat → Nat} (h : Hn w g n f) (i x : Nat) : Hn (w.setCell ⟨g, i, none⟩ (.int .i64 (x : Int))) g n (upd f i x) := by
  unfold Hn
  rw [← rowN_set]
  exact heap_setCell_same w g i _ _ _ h
theorem info_int : (Tryz.prog.info? 3).map (fun i => (i.zero, i.size, i.bytes)) = some (some (.int .i64 0), 1, 8) := by kernel_rfl
/-- 'make([]int, n)'. -/
theorem make_ints (n : Nat) (z : Int) (hz : (n : Int) = z) (hn : n ≤ 1000000) (W : World) :
    (Instr.makeSlice 23 (.int .i64 z) (.int .i64 z)).run Tryz.prog W = .ok (.slice (some ⟨W.heap.size, 0, none⟩) n n) (W.alloc (.cells (rowN n (fun _ => 0)) 3)) := by
  subst hz
  obtain ⟨i, hi, hz, hs, hb⟩ := info_parts info_int
  rw [run_make (P := Tryz.prog) W 23 3 i (.int .i64 0) Tryz.underlying23 hi hz .i64 .i64 n n (by omega) (Int.le_refl _) (by rw [hb]; omega) (by omega), hs]
  have e : (Value.int .i64 0).cells = #[Value.int .i64 0] := rfl
  have e2 : madeCells #[Value.int .i64 0] n = rowN n (fun _ => 0) := by
    refine rowN_ext _ _ _ (by unfold madeCells; simp) fun j hj => ?_
    unfold madeCells
    simp [hj, Nat.mod_one, nv]
  rw [e, Int.toNat_natCast, Nat.mul_one, e2]

/-- A node, read whole, wherever it lies. -/
theorem run_load_node (w : World) (ad : Addr) (n : RN) (h : ∀ j u, (cellsR n)[j]? = some u → w.cell? (ad.add j) = some u) : (loadVar 147 ad).run Tryz.prog w = .ok (aggR n) w := by
  have hl := run_loadCells_list (P := Tryz.prog) w ad (cellsR n) h
  have hagg : (isAgg 147).run Tryz.prog w = .ok true w := by kernel_rfl
  have hsz : (sizeOf 147).run Tryz.prog w = .ok 7 w := by kernel_rfl
  have e7 : (cellsR n).length = 7 := rfl
  rw [e7] at hl
  simp [loadVar, Sem.run_bind, hagg, hsz, hl, aggR]
theorem wpList_load_node {ops : Array Oper} {rest : List Oper} {o : Oper} {a : Act} {w : World} {Q : Exit → Act → World → Prop} (x : Operand) (hgd : o.guard = none) (ho : o.op = .load 147 x)
    (ad : Addr) (hx : a.eval x = .pointer (some ad)) (kd p q : Int) (z0 z1 z2 z3 : BitVec 64) (hc : ∀ j u, (cellsR ⟨kd, p, q, z0, z1, z2, z3⟩)[j]? = some u → w.cell? (ad.add j) = some u)
    (h : wpList Tryz.prog ops Q rest (a.put o.dst (.agg #[.int .i64 kd, dv z0, dv z1, dv z2, dv z3, .int .i64 p, .int .i64 q])) w) : wpList Tryz.prog ops Q (o :: rest) a w :=
  wpList_plain hgd fun _ hK => by
    unfold Oper.wp execOp
    simp only [ho, hx, Instr.loadAt, Instr.sureAddr, Sem.run_bind, Sem.run_pure, Result.andThen_ok, run_load_node w ad _ hc]
    exact hK _ _ h

theorem begin_two (bs : List Nat) (n : RN) (A : Option Addr) (m c : Nat) (hm : bs.length = m) (w : World) (hr : RdZ w A bs) (hl : m ≤ 256) (hb : ∀ j (h : j < bs.length), bs[j] ≤ j) :
    Calls Tryz.prog 111 #[.slice A m c, aggR n] w fun e w' => ∃ (x : Int) (y : Bool), e = .returned (.tuple #[.int .i64 x, .bool y]) ∧ Hid (begin1 bs n = if y then some x.toNat else none) ∧ Hid (y = true → x = (x.toNat : Int)) ∧ Below w.heap.size w w' := by
  refine (begin_any bs n A m c hm w hr hl hb).mono ?_
  intro e w' h
  cases hb : begin1 bs n with
  | none =>
    rw [hb] at h
    obtain ⟨⟨z, rfl⟩, h2⟩ := h
    exact ⟨z, false, rfl, rfl, (fun h => by simp at h), h2⟩
  | some i =>
    rw [hb] at h
    obtain ⟨rfl, h2⟩ := h
    exact ⟨i, true, rfl, rfl, fun _ => rfl, h2⟩
theorem Hn.rdZ {w : World} {g n : Nat} {bs : List Nat} (h : Hn w g n (fun j => bs.getD j 0)) (hl : bs.length ≤ n) : RdZ w (some ⟨g, 0, none⟩) bs := fun k hk => by
  refine ⟨_, rfl, ?_⟩
  have hadd : (⟨g, 0, none⟩ : Addr).add k = ⟨g, k, none⟩ := by unfold Addr.add; split <;> simp_all
  rw [hadd, h.cell (by omega), List.getD_eq_getElem?_getD, List.getElem?_eq_getElem hk]
  rfl
theorem Hn.below {w w' : World} {g n : Nat} {f : Nat → Nat} (h : Hn w g n f) (hb : Below w.heap.size w w') : Hn w' g n f := (hb.block g h.lt).trans h
theorem node_cells {w : World} {B : Nat} {kd a b : Int} {z0 z1 z2 z3 : BitVec 64} (h : w.heap[B]? = some (.cells #[.int .i64 kd, dv z0, dv z1, dv z2, dv z3, .int .i64 a, .int .i64 b] 147 (0, 0))) :
    w.cell? ⟨B, 0, none⟩ = some (.int .i64 kd) ∧ w.cell? ⟨B, 1, none⟩ = some (dv z0) ∧ w.cell? ⟨B, 2, none⟩ = some (dv z1) ∧ w.cell? ⟨B, 3, none⟩ = some (dv z2) ∧ w.cell? ⟨B, 4, none⟩ = some (dv z3) ∧ w.cell? ⟨B, 5, none⟩ = some (.int .i64 a) ∧ w.cell? ⟨B, 6, none⟩ = some (.int .i64 b) := by
  refine ⟨?_, ?_, ?_, ?_, ?_, ?_, ?_⟩ <;> (rw [cell_of_row w B _ _ _ _ h]; rfl)
theorem set_same {z0 z1 z2 z3 : BitVec 64} (h : (⟨z0, z1, z2, z3⟩ : S4) = nilS) (W : World) : (Op.equalIn 10000 51 (.agg #[dv z0, dv z1, dv z2, dv z3]) (.agg #[.int .u64 0, .int .u64 0, .int .u64 0, .int .u64 0])).run Tryz.prog W = .ok true W := by
  have := same_sets (f := (⟨z0, z1, z2, z3⟩ : S4).f) (g := nilW) (by rw [h]; exact s4_f _) W
  exact this
theorem set_other {z0 z1 z2 z3 : BitVec 64} (h : ¬ (⟨z0, z1, z2, z3⟩ : S4) = nilS) (W : World) : (Op.equalIn 10000 51 (.agg #[dv z0, dv z1, dv z2, dv z3]) (.agg #[.int .u64 0, .int .u64 0, .int .u64 0, .int .u64 0])).run Tryz.prog W = .ok false W := by
  have := other_sets (f := (⟨z0, z1, z2, z3⟩ : S4).f) (g := nilW) (fun e => h (by rw [← f_s4 ⟨z0, z1, z2, z3⟩]; exact s4_congr e)) W
  exact this
theorem Hn.put {w : World} {g n : Nat} {bs : List Nat} (h : Hn w g n (fun j => bs.getD j 0)) {i : Nat} (hi : bs.length = i) (x : Nat) : Hn (w.setCell ⟨g, i, none⟩ (.int .i64 (x : Int))) g n (fun j => (bs ++ [x]).getD j 0) := by
  have e : upd (fun j => bs.getD j 0) i x = fun j => (bs ++ [x]).getD j 0 := by
    funext j
    unfold upd
    subst hi
    by_cases h1 : j = bs.length
    · subst h1; simp
    · rw [if_neg h1]
      by_cases h2 : j < bs.length
      · rw [getD_app _ _ _ _ h2]
      · show bs.getD j 0 = _
        rw [List.getD_eq_getElem?_getD, List.getD_eq_getElem?_getD, List.getElem?_eq_none (by omega), List.getElem?_eq_none (by simp; omega)]
  rw [← e]
  exact h.set i x
theorem begins_app : ∀ (l1 : List RN) (bs : List Nat) (l2 : List RN), begins bs (l1 ++ l2) = (match begins bs l1 with
    | some b => begins b l2
    | none => none)
  | [], bs, l2 => rfl
  | n :: l1, bs, l2 => by
    rw [List.cons_append, begins, begins]
    cases begin2 bs n with
    | none => rfl
    | some b => exact begins_app l1 _ l2

set_option maxRecDepth 20000 in
set_option maxHeartbeats 4000000 in
theorem tree_any (l : List RN) (A : Option Addr) (n c : Nat) (hn : l.length = n) (w : World) (hr : RdR w A l) (hl : n ≤ 256) (hc : n ≤ c) :
    Calls Tryz.prog 96 #[.slice A n c] w (GotB w (oneTree l)) := by
  generalize hQ : GotB w (oneTree l) = Q
  have HQ := Lib.hid hQ
  have HR := Lib.hid hr
  have HN := Lib.hid hn
  clear hQ hr hn
  have hmk := make_ints n (n : Int) rfl (by omega)
  go_enter Tryz.func96, Tryz.ntmps96
  go_wp2_with fail
  clear hmk
  have h0 : Hn (w.alloc (.cells (rowN n (fun _ => 0)) 3)) w.heap.size n (fun j => ([] : List Nat).getD j 0) := heap_alloc_new w _
  have b0 := bl_alloc (Below.refl w.heap.size w) (.cells (rowN n (fun _ => 0)) 3)
  have H0 := Lib.hid h0
  have B0 := Lib.hid b0
  clear h0 b0
  go_loopw [13] (fun v wr => ∃ (i : Nat) (bs : List Nat), i ≤ n ∧ v = .int .i64 (i : Int) ∧ Hid (bs.length = i) ∧ Hid (begins [] (l.take i) = some bs) ∧ Hn wr w.heap.size n (fun j => bs.getD j 0) ∧ Below w.heap.size w wr) (fun v _ => n - (intOf v).toNat)
  case atStart => exact ⟨0, [], Nat.zero_le _, rfl, rfl, by rw [List.take_zero]; rfl, H0.out, B0.out⟩
  case round =>
    clear H0 B0
    obtain ⟨i, bs, hi, rfl, HLB, HBG, h1, hb1⟩ := hrel
    have hq := h1.lt
    by_cases hlt : i < n
    · have hlt2 : i < l.length := by have := HN.out; omega
      obtain ⟨ad, rfl, hcs⟩ := (HR.out.below hb1) i hlt2
      have hel : (l.drop i) = l[i] :: l.drop (i + 1) := List.drop_eq_getElem_cons hlt2
      have htk : l.take (i + 1) = l.take i ++ [l[i]] := by rw [List.take_add_one]; simp [hlt2]
      generalize l[i] = nd at *
      obtain ⟨kd, a, b, z0, z1, z2, z3⟩ := nd
      have HCS := Lib.hid hcs
      have HEL := Lib.hid hel
      have HTK := Lib.hid htk
      clear hcs hel htk
      have H1 := Lib.hid h1
      have HB1 := Lib.hid hb1
      clear h1 hb1
      have hnw := heap_alloc_new wr (.cells #[.int .i64 0, .int .u64 0, .int .u64 0, .int .u64 0, .int .u64 0, .int .i64 0, .int .i64 0] 147)
      go_wp2_with (first
        | (refine wpList_load_node _ rfl rfl _ rfl kd a b z0 z1 z2 z3 HCS.out ?_)
        | (refine wpList_store_row rfl 147 _ _ rfl wr.heap.size _ rfl rfl 147 _ hnw (by rw [size_rn]; rfl) (by rfl) (by simp [dv, Value.oneCell']) ?_))
      have hrow := setRow_heap _ _ _ #[.int .i64 kd, dv z0, dv z1, dv z2, dv z3, .int .i64 a, .int .i64 b] _ _ hnw
      have hB2 : Below wr.heap.size wr ((wr.alloc (.cells #[.int .i64 0, .int .u64 0, .int .u64 0, .int .u64 0, .int .u64 0, .int .i64 0, .int .i64 0] 147)).setRow wr.heap.size #[.int .i64 kd, dv z0, dv z1, dv z2, dv z3, .int .i64 a, .int .i64 b]) := bl_setRow (bl_alloc (Below.refl _ _) _) (Nat.le_refl _) _
      generalize (wr.alloc (.cells #[.int .i64 0, .int .u64 0, .int .u64 0, .int .u64 0, .int .u64 0, .int .i64 0, .int .i64 0] 147)).setRow wr.heap.size #[.int .i64 kd, dv z0, dv z1, dv z2, dv z3, .int .i64 a, .int .i64 b] = w2 at *
      dsimp only [Act.put]
      have hTR := trees_begins (l.take i) [] [] bs trees_nil HBG.out
      rw [List.nil_append] at hTR
      have hble : ∀ j (h : j < bs.length), bs[j] ≤ j := fun j hj => by
        obtain ⟨t, h1, _⟩ := hTR.2 j (by rw [← hTR.1]; exact hj)
        rw [List.getD_eq_getElem?_getD, List.getElem?_eq_getElem hj] at h1
        have := t.size_pos
        simp at h1
        omega
      have HBLE := Lib.hid hble
      have hsl : ∀ W : World, (Instr.slice 23 (.slice (some ⟨w.heap.size, 0, none⟩) n n) none (some (.int .i64 (i : Int))) none).run Tryz.prog W = .ok (.slice (some ⟨w.heap.size, 0, none⟩) i n) W := fun W => by
        have he : Tryz.prog.elem 23 = 3 := by kernel_rfl
        obtain ⟨i1, hi1, _, hs1, _⟩ := info_parts info_int
        rw [run_slice_h W 23 (some ⟨w.heap.size, 0, none⟩) n n (by rw [he]; exact Tryz.underlying23) .i64 i (by omega) (by omega)]
        simp [sizeOf, typeInfo, he, hi1, hs1, sliced, Result.andThen]
        try (intro _; simp [Addr.add])
      refine wp_region_held_drew (S := fun w' => w'.heap[wr.heap.size]? = some (.cells #[.int .i64 kd, dv z0, dv z1, dv z2, dv z3, .int .i64 a, .int .i64 b] 147 (0, 0)) ∧ Below wr.heap.size wr w') (by kernel_rfl) ⟨hrow, bl_drewN hB2 1⟩ (fun hHeld => ?_)
      clear hrow hB2 hnw hTR hble
      try simp only [zzA, zzB, zzC, Act.put, zzD, zzE, zzF]
      refine wpAnyH_take (i := 0) (v := ?vzt0) rfl (by kernel_rfl) (by kernel_rfl) (by kernel_rfl) (fun _ _ _ h => h) (Or.inl ⟨by rfl, ?yzt0⟩) hHeld ?rzt0
      case yzt0 => (intro wS hSw; clear hSw; go_simp; try (with_reducible rfl))
      try simp only [zzA, zzB, zzC, Act.put, zzD, zzE, zzF]
      refine wpAnyH_take (i := 1) (v := ?vzt1) rfl (by kernel_rfl) (by kernel_rfl) (by kernel_rfl) (fun _ _ _ h => h) (Or.inl ⟨by rfl, ?yzt1⟩) hHeld ?rzt1
      case yzt1 => (intro wS hSw; clear hSw; go_simp; try (with_reducible rfl))
      try simp only [zzA, zzB, zzC, Act.put, zzD, zzE, zzF]
      refine wpAnyH_take (i := 2) (v := ?vzt2) rfl (by kernel_rfl) (by kernel_rfl) (by kernel_rfl) (fun _ _ _ h => h) (Or.inl ⟨by rfl, ?yzt2⟩) hHeld ?rzt2
      case yzt2 => (intro wS hSw; clear hSw; go_simp; try (with_reducible rfl))
      try simp only [zzA, zzB, zzC, Act.put, zzD, zzE, zzF]
      refine wpAnyH_take (i := 3) (v := ?vzt3) rfl (by kernel_rfl) (by kernel_rfl) (by kernel_rfl) (fun _ _ _ h => h) (Or.inl ⟨by rfl, ?yzt3⟩) hHeld ?rzt3
      case yzt3 => (intro wS hSw; obtain ⟨q0, q1, q2, q3, q4, q5, q6⟩ := node_cells hSw.1; clear hSw; go_simp; try (with_reducible rfl))
      try simp only [zzA, zzB, zzC, Act.put, zzD, zzE, zzF]
      refine wpAnyH_ready (rs := [4]) (by kernel_rfl) (by simp) (AllReadyH.cons rfl (fun K hK => ?_) AllReadyH.nil)
      go_simp
      go_at_call 111
      refine (begin_two bs ⟨kd, a, b, z0, z1, z2, z3⟩ (some ⟨w.heap.size, 0, none⟩) i n HLB.out _ ((H1.out.below hHeld.2).rdZ (by have := HLB.out; omega)) (by omega) HBLE.out).mono ?_
      rintro e w3 ⟨x, y, rfl, HX, HY, hb3⟩
      have hS1 := And.intro ((hb3.block wr.heap.size (Array.getElem?_eq_some_iff.1 hHeld.1).1).trans hHeld.1) (bl_trans hHeld.2 hb3)
      clear hHeld hb3
      go_wp2_with fail
      refine hK.out _ _ hS1 (fun hHeld => ?_)
      clear hK K hS1
      try simp only [zzA, zzB, zzC, Act.put, zzD, zzE, zzF]
      refine wpAnyH_take (i := 5) (v := ?vzt5) rfl (by kernel_rfl) (by kernel_rfl) (by kernel_rfl) (fun _ _ _ h => h) (Or.inl ⟨by rfl, ?yzt5⟩) hHeld ?rzt5
      case yzt5 => (intro wS hSw; clear hSw; go_simp; try (with_reducible rfl))
      try simp only [zzA, zzB, zzC, Act.put, zzD, zzE, zzF]
      refine wpAnyH_take (i := 6) (v := ?vzt6) rfl (by kernel_rfl) (by kernel_rfl) (by kernel_rfl) (fun _ _ _ h => h) (Or.inl ⟨by rfl, ?yzt6⟩) hHeld ?rzt6
      case yzt6 => (intro wS hSw; clear hSw; go_simp; try (with_reducible rfl))
      try simp only [zzA, zzB, zzC, Act.put, zzD, zzE, zzF]
      refine wpAnyH_take (i := 7) (v := ?vzt7) rfl (by kernel_rfl) (by kernel_rfl) (by kernel_rfl) (fun _ _ _ h => h) (Or.inl ⟨by rfl, ?yzt7⟩) hHeld ?rzt7
      case yzt7 => (intro wS hSw; clear hSw; go_simp; try (with_reducible rfl))
      try simp only [zzA, zzB, zzC, Act.put, zzD, zzE, zzF]
      refine wpAnyH_take (i := 8) (v := ?vzt8) rfl (by kernel_rfl) (by kernel_rfl) (by kernel_rfl) (fun _ _ _ h => h) (Or.inl ⟨by rfl, ?yzt8⟩) hHeld ?rzt8
      case yzt8 => (intro wS hSw; clear hSw; go_simp; try (with_reducible rfl))
      try simp only [zzA, zzB, zzC, Act.put, zzD, zzE, zzF]
      refine wpAnyH_take (i := 9) (v := ?vzt9) rfl (by kernel_rfl) (by kernel_rfl) (by kernel_rfl) (fun _ _ _ h => h) (Or.inl ⟨by rfl, ?yzt9⟩) hHeld ?rzt9
      case yzt9 => (intro wS hSw; clear hSw; go_simp; try (with_reducible rfl))
      try simp only [zzA, zzB, zzC, Act.put, zzD, zzE, zzF]
      refine wpAnyH_done (by kernel_rfl) ?_ _
      have hx1 := H1.out.below hHeld.2
      have hq3 := hx1.cell hlt
      have fq3 := hx1.free i
      obtain ⟨q0, q1, q2, q3, q4, q5, q6⟩ := node_cells hHeld.1
      have HB3 := Lib.hid (bl_trans HB1.out hHeld.2)
      have HX1 := Lib.hid hx1
      have hfin : ∀ r, begin2 bs ⟨kd, a, b, z0, z1, z2, z3⟩ = none → oneTree l = r → r = false := fun r h1 h2 => by
        rw [← h2, oneTree, ← List.take_append_drop i l, begins_app, HBG.out]
        simp only []
        rw [HEL.out, begins, h1]
      have HFIN := Lib.hid hfin
      clear hHeld hx1 hfin
      cases y with
      | false =>
        have hb2 : begin2 bs ⟨kd, a, b, z0, z1, z2, z3⟩ = none := by
          rw [begin2, HX.out]
          split <;> rfl
        have HB2 := Lib.hid hb2
        clear hb2
        go_wp2_with fail
        refine post_is HQ ?_
        rw [HFIN.out _ HB2.out rfl]
        exact ⟨rfl, HB3.out⟩
      | true =>
        obtain ⟨x, rfl⟩ : ∃ k : Nat, x = (k : Int) := ⟨_, HY.out rfl⟩
        by_cases hk : kd = 2
        · have hk2 : (kd != 2) = false := by simp [hk]
          have HK := Lib.hid hk
          clear hk
          have hb2 : begin2 bs ⟨kd, a, b, z0, z1, z2, z3⟩ = some x := by
            rw [begin2, if_neg (fun h => h.1 HK.out), HX.out]
            rfl
          have HB2 := Lib.hid hb2
          clear hb2
          go_wp2_with fail
          exact ⟨⟨i + 1, bs ++ [x], by omega, by go_num, by have := HLB.out; simp [Hid]; omega, by unfold Hid; rw [HTK.out, begins_app, HBG.out]; simp only [begins]; rw [HB2.out], HX1.out.put HLB.out x, HB3.out.setCell (p := ⟨w.heap.size, i, none⟩) (by simp) _⟩, by simp [intOf]; omega⟩
        · have hk2 : (kd != 2) = true := by simp [hk]
          have HK := Lib.hid hk
          clear hk
          by_cases hz : (⟨z0, z1, z2, z3⟩ : S4) = nilS
          · have hset := fun W => set_same hz W
            have hb2 : begin2 bs ⟨kd, a, b, z0, z1, z2, z3⟩ = some x := by
              rw [begin2, if_neg (fun h => h.2 hz), HX.out]
              rfl
            have HB2 := Lib.hid hb2
            clear hb2 hz
            go_wp2_with fail
            exact ⟨⟨i + 1, bs ++ [x], by omega, by go_num, by have := HLB.out; simp [Hid]; omega, by unfold Hid; rw [HTK.out, begins_app, HBG.out]; simp only [begins]; rw [HB2.out], HX1.out.put HLB.out x, HB3.out.setCell (p := ⟨w.heap.size, i, none⟩) (by simp) _⟩, by simp [intOf]; omega⟩
          · have hset := fun W => set_other hz W
            have hb2 : begin2 bs ⟨kd, a, b, z0, z1, z2, z3⟩ = none := by
              rw [begin2, if_pos ⟨HK.out, hz⟩]
            have HB2 := Lib.hid hb2
            clear hb2 hz
            go_wp2_with fail
            refine post_is HQ ?_
            rw [HFIN.out _ HB2.out rfl]
            exact ⟨rfl, HB3.out⟩
    · obtain rfl : i = n := by omega
      have hfull : begins [] l = some bs := by
        have := HBG.out
        rwa [List.take_of_length_le (by have := HN.out; omega)] at this
      have HF := Lib.hid hfull
      have HB1 := Lib.hid hb1
      clear hb1 hfull
      by_cases h0 : i = 0
      · subst h0
        have hr : oneTree l = false := by
          rw [oneTree, HF.out]
          have : bs = [] := List.length_eq_zero_iff.1 HLB.out
          rw [this]
          rfl
        have HRR := Lib.hid hr
        clear hr h1
        go_wp2_with (go_quiet (fail))
        refine post_is HQ ?_
        rw [HRR.out]
        exact ⟨rfl, by first | exact HB1.out | exact bl_drewN HB1.out _⟩
      · have hcell := h1.cell (j := i - 1) (by omega)
        have hr : oneTree l = (((bs.getD (i - 1) 0 : Nat) : Int) == 0) := by
          rw [oneTree, HF.out]
          simp only []
          rw [List.getLast?_eq_getElem?, HLB.out, List.getD_eq_getElem?_getD, List.getElem?_eq_getElem (by have := HLB.out; omega)]
          simp only [Option.getD_some]
          rw [Bool.eq_iff_iff]
          simp
          try omega
        have HRR := Lib.hid hr
        have hg : decide ((i : Int) > 0) = true := by simp; omega
        have hg2 : decide (0 < (i : Int)) = true := by simp; omega
        have hsub : wrap64 ((i : Int) - 1) = (i : Int) - 1 := IntWalk.wrap64_in _ ⟨by omega, by omega⟩
        have hp1 : (0 : Int) ≤ (i : Int) - 1 := by omega
        have hp2 : (i : Int) - 1 < (i : Int) := by omega
        have htn : ((i : Int) - 1).toNat = i - 1 := by omega
        clear hr h1
        generalize bs.getD (i - 1) 0 = v at *
        go_wp2_with (go_quiet (fail))
        refine post_is HQ ?_
        rw [HRR.out]
        exact ⟨rfl, by first | exact HB1.out | exact bl_drewN HB1.out _⟩

end Go.Proofs.YtcgfogdfcdndgaaGreatDoor

/- Check of patterns, as it is called. -/
set_option linter.unusedVariables false
set_option linter.unusedSimpArgs false
namespace Go.Proofs.YtcgfogdfcdndgaaGreatDoor
open Go.RowKit

def checkE (l : List RN) : Nat := if 256 < l.length then 5 else if oneTree l = true then 0 else 2
def GotE (w : World) (k : Nat) (e : Ending) (w' : World) : Prop := e = .returned (.int .i64 (k : Int)) ∧ Below w.heap.size w w'
set_option maxRecDepth 20000 in
set_option maxHeartbeats 1000000 in
theorem check_any (l : List RN) (A : Option Addr) (n c : Nat) (hn : l.length = n) (w : World) (hr : RdR w A l) (hc : n ≤ c) :
    Calls Tryz.prog 78 #[.agg #[.slice A n c]] w (GotE w (checkE l)) := by
  generalize hQ : GotE w (checkE l) = Q
  have HQ := Lib.hid hQ
  have HR := Lib.hid hr
  have HN := Lib.hid hn
  clear hQ hr hn
  have hb := bl_alloc (Below.refl w.heap.size w) (.cells #[.slice A n c] 88)
  have HB := Lib.hid hb
  clear hb
  go_enter Tryz.func78, Tryz.ntmps78
  by_cases h : 256 < n
  · have h' : (256 : Int) < (n : Int) := by omega
    go_wp2_with fail
    refine post_is HQ ⟨?_, HB.out⟩
    rw [checkE, HN.out, if_pos h]
    rfl
  · have h' : ¬ (256 : Int) < (n : Int) := by omega
    go_wp2_with fail
    refine (tree_any l A n c HN.out _ (HR.out.below HB.out) (by omega) hc).mono ?_
    rintro e w2 ⟨rfl, hb2⟩
    have HB2 := Lib.hid (bl_trans HB.out hb2)
    clear hb2
    cases ht : oneTree l with
    | true =>
      clear HR
      go_wp2_with fail
      refine post_is HQ ⟨?_, HB2.out⟩
      rw [checkE, HN.out, if_neg h, if_pos ht]
      rfl
    | false =>
      clear HR
      go_wp2_with fail
      refine post_is HQ ⟨?_, HB2.out⟩
      rw [checkE, HN.out, if_neg h, if_neg (by rw [ht]; simp)]
      rfl

theorem flat_ab (t : Rx) : ∀ (k : Nat) (nd : RN), nd ∈ flat k t → 0 ≤ nd.a ∧ nd.a < ((k + t.size : Nat) : Int) ∧ 0 ≤ nd.b ∧ nd.b < ((k + t.size : Nat) : Int) := by
  induction t with
  | nil => intro k nd h; rw [flat, List.mem_singleton] at h; subst h; simp only [Rx.size]; omega
  | set s => intro k nd h; rw [flat, List.mem_singleton] at h; subst h; simp only [Rx.size]; omega
  | seq a b iha ihb =>
    intro k nd h
    have h1 := a.size_pos
    have h2 := b.size_pos
    rw [flat, List.mem_append, List.mem_append, List.mem_singleton] at h
    simp only [Rx.size]
    rcases h with (h | h) | h
    · have := iha k nd h; omega
    · have := ihb _ nd h; omega
    · subst h; simp only []; omega
  | alt a b iha ihb =>
    intro k nd h
    have h1 := a.size_pos
    have h2 := b.size_pos
    rw [flat, List.mem_append, List.mem_append, List.mem_singleton] at h
    simp only [Rx.size]
    rcases h with (h | h) | h
    · have := iha k nd h; omega
    · have := ihb _ nd h; omega
    · subst h; simp only []; omega
  | star a iha =>
    intro k nd h
    have h1 := a.size_pos
    rw [flat, List.mem_append, List.mem_singleton] at h
    simp only [Rx.size]
    rcases h with h | h
    · have := iha k nd h; omega
    · subst h; simp only []; omega
  | plus a iha =>
    intro k nd h
    have h1 := a.size_pos
    rw [flat, List.mem_append, List.mem_singleton] at h
    simp only [Rx.size]
    rcases h with h | h
    · have := iha k nd h; omega
    · subst h; simp only []; omega

theorem check_zero {l : List RN} (h : checkE l = 0) : l.length ≤ 256 ∧ oneTree l = true := by
  unfold checkE at h
  split at h
  · simp at h
  · split at h
    · exact ⟨by omega, by assumption⟩
    · simp at h

end Go.Proofs.YtcgfogdfcdndgaaGreatDoor
