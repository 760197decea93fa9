/- Iterators over bytes (slices.Values, Span's own), and the set that is gathered of what one tells: Of, Span. No condition, but that the bytes can be read. -/
import Derived.RangeFuncNested
import Derived.RangeFuncBound
import Derived.RangeFuncCalls
import Derived.RangeFuncLeaves
import Derived.Shelf.Abstract
import Derived.Shelf.RegionOpen
import Derived.WalkKit
import Derived.OwnWalkIn
import Derived.TacticsInMore
import Derived.LoopNIn
import Derived.LoopIn
import Derived.Test.YtcgfogdfcdndgaaGreatDoorSetAQ
set_option linter.unusedVariables false
set_option linter.unusedSimpArgs false
namespace Go.Proofs.YtcgfogdfcdndgaaGreatDoor
open Go.RowKit Go.Shelf
attribute [local go_sem] Oper.semAt_some

/-- A whole array out of a block of its own, inside a fence. -/
theorem wpListIn_load_row {F : Fence} {n : Nat} {P : Program} {ops : Array Oper} {rest : List Oper} {o : Oper} {a : Act} {w : World} {Q : Exit → Act → World → Prop} (hgd : o.guard = none) (ty : TypeId) (x : Operand) (ho : o.op = .load ty x)
    (g : Nat) (hx : a.eval x = .pointer (some ⟨g, 0, none⟩)) (t : TypeId) (cs : Array Value) (fr : Nat × Nat) (d : TypeDesc) (hg : w.heap[g]? = some (.cells cs t fr))
    (hu : P.underlying ty = some d) (hd : (match d with | .struct _ | .array _ _ => true | _ => false) = true) (hi : (P.info? ty).map (·.size) = some cs.size)
    (h : wpListIn F n P ops Q rest (a.put o.dst (.agg cs)) w) : wpListIn F n P ops Q (o :: rest) a w := by
  refine wpListIn_plain hgd fun K hK => ?_
  unfold Oper.wpIn
  refine ⟨?_, ?_⟩
  · simp [Oper.about, ho]
  · rw [Oper.semAt_plain F _ _ (by rw [ho]; intro c hc'; cases hc')]
    unfold execOp
    simp only [ho, hx, Instr.loadAt, Instr.sureAddr, Sem.run_bind, Sem.run_pure, Result.andThen_ok, run_loadVar_row w g t ty cs fr d hg hu hd hi]
    exact hK _ _ h
/-- A whole array into a block of its own, inside a fence. -/
theorem wpListIn_store_row {F : Fence} {n : Nat} {P : Program} {ops : Array Oper} {rest : List Oper} {o : Oper} {a : Act} {w : World} {Q : Exit → Act → World → Prop} (hgd : o.guard = none) (ty : TypeId) (x y : Operand) (ho : o.op = .store ty x y)
    (g : Nat) (cells : Array Value) (hx : a.eval x = .pointer (some ⟨g, 0, none⟩)) (hy : a.eval y = .agg cells)
    (t : TypeId) (old : Array Value) (hg : w.heap[g]? = some (.cells old t (0, 0))) (hi : (P.info? ty).map (·.size) = some cells.size)
    (hold : old.size = cells.size) (h1 : cells.all (·.oneCell') = true)
    (h : wpListIn F n P ops Q rest (a.put o.dst undef) (w.setRow g cells)) : wpListIn F n P ops Q (o :: rest) a w := by
  refine wpListIn_plain hgd fun K hK => ?_
  unfold Oper.wpIn
  refine ⟨?_, ?_⟩
  · simp [Oper.about, ho]
  · rw [Oper.semAt_plain F _ _ (by rw [ho]; intro c hc'; cases hc')]
    unfold execOp
    simp only [ho, hx, hy, Instr.storeAt, Instr.sureAddr, Sem.run_bind, Sem.run_pure, Result.andThen_ok, run_storeVar_row w g t ty old cells hg hi hold h1]
    exact hK _ _ h

/-- A byte; the bytes of a list. -/
def encB (x : Fin 256) : Array Value := #[.int .u8 (x.1 : Int)]
def finB (c : Nat) : Fin 256 := ⟨c % 256, Nat.mod_lt _ (by decide)⟩
def finL (l : List Nat) : List (Fin 256) := l.map finB
theorem finL_val (l : List Nat) (h : ∀ c ∈ l, c < 256) : (finL l).map (·.1) = l := by
  unfold finL
  rw [List.map_map]
  conv => rhs; rw [← List.map_id l]
  apply List.map_congr_left
  intro c hc
  exact Nat.mod_eq_of_lt (h c hc)
/-- An iterator that tells the bytes of L, and turns nothing below n0. -/
def Tells (d : Nat) (gf : Nat) (lb : Array Value) (n0 : Nat) (L : List (Fin 256)) (w : World) : Prop :=
  SeqStopsK Fence.wide d Tryz.prog gf lb encB (Below n0) (fun xs => xs = L) (fun pre => ∃ k, pre = L.take k) L.length w

theorem take_next {α : Type} (L : List α) (k : Nat) (h : k < L.length) : L.take k ++ [L[k]] = L.take (k + 1) := by
  rw [List.take_add_one]
  simp [h]

/-- What a slice of bytes reads as, byte by byte. -/
def natL (l : List UInt8) : List Nat := l.map (·.toNat)
theorem natL_lt (l : List UInt8) : ∀ c ∈ natL l, c < 256 := by
  intro c hc
  obtain ⟨b, _, rfl⟩ := List.mem_map.1 hc
  exact b.toNat_lt
theorem finL_len (l : List Nat) : (finL l).length = l.length := by simp [finL]
theorem natL_len (l : List UInt8) : (natL l).length = l.length := by simp [natL]
theorem finL_at (l : List UInt8) (k : Nat) (h : k < (finL (natL l)).length) (h2 : k < l.length) : (((finL (natL l))[k]).1 : Int) = (l[k].toNat : Int) := by
  simp only [finL, natL, finB, List.getElem_map]
  congr 1
  exact Nat.mod_eq_of_lt (UInt8.toNat_lt _)

set_option maxRecDepth 100000 in
set_option maxHeartbeats 2000000 in
theorem values_loop (d l Bx n0 n c : Nat) (A : Option Addr) (s : List UInt8) (hd : 2 ≤ d) (hs : s.length = n) (hn : n ≤ 140737488351232) (J Jx : List (Fin 256) → World → Prop)
    (hY : ∀ pre x W, J pre W → pre.length < (finL (natL s)).length → YieldAt Fence.wide (d - 1) Tryz.prog l (encB x) W fun e W' =>
      (e = .returned (.bool true) ∧ J (pre ++ [x]) W' ∧ Below n0 W W') ∨ (e = .returned (.bool false) ∧ Jx (pre ++ [x]) W'))
    (W : World) (hB : W.cell? ⟨Bx, 0, none⟩ = some (.slice A n c)) (hr : Rd W A s) (hA : 0 < n → ∀ ad, A = some ad → ad.block < n0) (h0 : J [] W) :
    CallsIn Fence.wide d Tryz.prog 161 #[.func (.yield l) #[] #[], .pointer (some ⟨Bx, 0, none⟩)] W fun e W' => (∃ v, e = .returned v) ∧
      ((∃ xs, xs = finL (natL s) ∧ J xs W') ∨ (∃ pre, (∃ k, pre = (finL (natL s)).take k) ∧ Jx pre W')) := by
  have hm1 : 1 ≤ d := by omega
  have hlen : (finL (natL s)).length = n := by rw [finL_len, natL_len, hs]
  refine callsIn_of_wp Tryz.func161 rfl trivial ?_ rfl
  simp only [Tryz.ntmps161, List.size_toArray, List.length_cons, List.length_nil, Nat.reduceAdd, Nat.reduceSub, Array.replicate_succ, Array.replicate_zero, List.push_toArray, List.append_toArray, List.nil_append, List.cons_append]
  gi_wp2
  gi_loopw [7] (fun p wr => ∃ k : Nat, k ≤ n ∧ p = .int .i64 (k : Int) ∧ J ((finL (natL s)).take k) wr ∧ Below n0 W wr) (fun p _ => n - (intOf p).toNat)
  case atStart => exact ⟨0, by omega, rfl, by simpa using h0, Below.refl _ _⟩
  case round =>
    obtain ⟨k, hk, rfl, hJ, hb⟩ := hrel
    by_cases hlt : k < n
    · have hks : k < s.length := by omega
      have hkL : k < (finL (natL s)).length := by omega
      obtain ⟨ad, rfl, hc⟩ := hr.cell hks
      have hcr := (hb.cell (p := ad.add k) (by rw [add_block]; exact hA (by omega) ad rfl)).trans hc
      obtain ⟨fn, tmps, assign, body, hy, hR⟩ := hY _ (finL (natL s))[k] wr hJ (by simp; omega)
      dsimp only [encB] at hy
      rw [finL_at s k hkL hks] at hy
      rw [take_next _ k hkL] at hR
      have HC := Lib.hid hc
      have HB := Lib.hid hb
      have HS := Lib.hid hs
      have HL := Lib.hid hlen
      clear hc hb hs hlen hkL
      gi_wp2
      refine hR.mono ?_
      rintro e W3 (⟨rfl, hJ3, hk3⟩ | ⟨rfl, hJx3⟩)
      · gi_wp2
        go_roundw
        case rel => exact ⟨k + 1, by omega, by go_num, hJ3, HB.out.trans hk3⟩
        case measure => simp [intOf]; omega
      · gi_wp2
        refine bodyPost_ret (results_none rfl _ _ _) rfl ?_
        exact ⟨⟨_, rfl⟩, .inr ⟨_, ⟨k + 1, rfl⟩, hJx3⟩⟩
    · obtain rfl : k = n := by omega
      rw [List.take_of_length_le (by omega)] at hJ
      gi_wp2
      go_end0
      exact ⟨⟨_, rfl⟩, .inl ⟨_, rfl, hJ⟩⟩

theorem values_tell (d Bx n0 n c : Nat) (A : Option Addr) (s : List UInt8) (hd : 2 ≤ d) (hs : s.length = n) (hn : n ≤ 140737488351232) (w : World) (hBx : Bx < w.heap.size)
    (hB : w.cell? ⟨Bx, 0, none⟩ = some (.slice A n c)) (hr : Rd w A s) (hA : 0 < n → ∀ ad, A = some ad → ad.block < n0) :
    Tells d 161 #[.pointer (some ⟨Bx, 0, none⟩)] n0 (finL (natL s)) w := fun l J Jx W hW _ _ hY h0 =>
  values_loop d l Bx n0 n c A s hd hs hn J Jx hY W ((hW.cell (p := ⟨Bx, 0, none⟩) hBx).trans hB) (hr.below hW) hA h0

/-- The bytes from one on, so many. -/
def spanL (a m : Nat) : List Nat := (List.range m).map (a + ·)

set_option maxRecDepth 100000 in
set_option maxHeartbeats 2000000 in
theorem span_loop (d l B1 B2 n0 a b m : Nat) (hd : 2 ≤ d) (ha : a < 256) (hb : b < 256) (hm : m = b + 1 - a) (hB1 : B1 < n0) (hB2 : B2 < n0) (J Jx : List (Fin 256) → World → Prop)
    (hY : ∀ pre x W, J pre W → pre.length < (finL (spanL a m)).length → YieldAt Fence.wide (d - 1) Tryz.prog l (encB x) W fun e W' =>
      (e = .returned (.bool true) ∧ J (pre ++ [x]) W' ∧ Below n0 W W') ∨ (e = .returned (.bool false) ∧ Jx (pre ++ [x]) W'))
    (W : World) (h1 : W.cell? ⟨B1, 0, none⟩ = some (.int .u8 (a : Int))) (h2 : W.cell? ⟨B2, 0, none⟩ = some (.int .u8 (b : Int))) (h0 : J [] W) :
    CallsIn Fence.wide d Tryz.prog 101 #[.func (.yield l) #[] #[], .pointer (some ⟨B1, 0, none⟩), .pointer (some ⟨B2, 0, none⟩)] W fun e W' => (∃ v, e = .returned v) ∧
      ((∃ xs, xs = finL (spanL a m) ∧ J xs W') ∨ (∃ pre, (∃ k, pre = (finL (spanL a m)).take k) ∧ Jx pre W')) := by
  have hm1 : 1 ≤ d := by omega
  have hlen : (finL (spanL a m)).length = m := by simp [finL, spanL]
  refine callsIn_of_wp Tryz.func101 rfl trivial ?_ rfl
  simp only [Tryz.ntmps101, List.size_toArray, List.length_cons, List.length_nil, Nat.reduceAdd, Nat.reduceSub, Array.replicate_succ, Array.replicate_zero, List.push_toArray, List.append_toArray, List.nil_append, List.cons_append]
  gi_wp2
  gi_loopw [4] (fun p wr => ∃ k : Nat, k ≤ m ∧ p = .int .i64 ((a + k : Nat) : Int) ∧ J ((finL (spanL a m)).take k) wr ∧ Below n0 W wr) (fun p _ => 256 - (intOf p).toNat)
  case atStart => exact ⟨0, by omega, rfl, by simpa using h0, Below.refl _ _⟩
  case round =>
    obtain ⟨k, hk, rfl, hJ, hb3⟩ := hrel
    have h2r := (hb3.cell (p := ⟨B2, 0, none⟩) hB2).trans h2
    obtain ⟨z, hz⟩ : ∃ z, a + k = z := ⟨_, rfl⟩
    rw [hz]
    by_cases hlt : k < m
    · have hkL : k < (finL (spanL a m)).length := by omega
      have hx : (((finL (spanL a m))[k]).1 : Int) = (z : Int) := by
        simp only [finL, finB, spanL, List.getElem_map, List.getElem_range]
        omega
      obtain ⟨fn, tmps, assign, body, hy, hR⟩ := hY _ (finL (spanL a m))[k] wr hJ (by simp; omega)
      dsimp only [encB] at hy
      rw [hx] at hy
      rw [take_next _ k hkL] at hR
      have hzb : z ≤ b := by omega
      have hz1 : z + 1 = a + (k + 1) := by omega
      have HZ := Lib.hid hz1
      have HB := Lib.hid hb3
      have HL := Lib.hid hlen
      have HM := Lib.hid hm
      clear hz hz1 hb3 hlen hm hx h1 h2
      gi_wp2
      refine hR.mono ?_
      rintro e W3 (⟨rfl, hJ3, hk3⟩ | ⟨rfl, hJx3⟩)
      · gi_wp2
        go_roundw
        case rel => exact ⟨k + 1, by omega, by rw [← HZ.out]; go_num, hJ3, HB.out.trans hk3⟩
        case measure => simp [intOf]; omega
      · gi_wp2
        refine bodyPost_ret (results_none rfl _ _ _) rfl ?_
        exact ⟨⟨_, rfl⟩, .inr ⟨_, ⟨k + 1, rfl⟩, hJx3⟩⟩
    · obtain rfl : k = m := by omega
      rw [List.take_of_length_le (by omega)] at hJ
      have hzb : ¬ z ≤ b := by omega
      have HZ := Lib.hid hz
      have HM := Lib.hid hm
      clear hz hm h1 h2 hlen
      gi_wp2
      go_end0
      exact ⟨⟨_, rfl⟩, .inl ⟨_, rfl, hJ⟩⟩

theorem span_tell (d B1 B2 n0 a b m : Nat) (hd : 2 ≤ d) (ha : a < 256) (hb : b < 256) (hm : m = b + 1 - a) (hB1 : B1 < n0) (hB2 : B2 < n0) (w : World) (hw1 : B1 < w.heap.size) (hw2 : B2 < w.heap.size)
    (h1 : w.cell? ⟨B1, 0, none⟩ = some (.int .u8 (a : Int))) (h2 : w.cell? ⟨B2, 0, none⟩ = some (.int .u8 (b : Int))) :
    Tells d 101 #[.pointer (some ⟨B1, 0, none⟩), .pointer (some ⟨B2, 0, none⟩)] n0 (finL (spanL a m)) w := fun l J Jx W hW _ _ hY h0 =>
  span_loop d l B1 B2 n0 a b m hd ha hb hm hB1 hB2 J Jx hY W ((hW.cell (p := ⟨B1, 0, none⟩) hw1).trans h1) ((hW.cell (p := ⟨B2, 0, none⟩) hw2).trans h2) h0

end Go.Proofs.YtcgfogdfcdndgaaGreatDoor

/- The set that is gathered of what an iterator tells: Of, Span. No condition, but that the bytes can be read. -/
set_option linter.unusedVariables false
set_option linter.unusedSimpArgs false
namespace Go.Proofs.YtcgfogdfcdndgaaGreatDoor
open Go.RowKit Go.Shelf
attribute [local go_sem] Oper.semAt_some

theorem h4_kept {W W' : World} {row : Option Nat} {i : Nat} {f : Nat → BitVec 64} (h : H4 W i f) (hg : W.grownBy W' row)
    (hr : ∀ r, row = some r → ∃ o : Obj, W.heap[r]? = some o ∧ o.isCells = false) : H4 W' i f := by
  have hlt : i < W.heap.size := h.lt
  unfold H4 at *
  rw [hg.block i hlt]
  · exact h
  · intro e
    obtain ⟨o, ho, hc⟩ := hr i e.symm
    rw [h] at ho
    cases ho
    cases hc

def valL (L : List (Fin 256)) : List Nat := L.map (·.1)
def setL (L : List (Fin 256)) : Nat → BitVec 64 := allW nilW (valL L)
theorem setL_snoc (L : List (Fin 256)) (x : Fin 256) : setL (L ++ [x]) = putW (setL L) x.1 := by
  unfold setL valL
  rw [List.map_append]
  exact allW_snoc _ _ _

set_option maxRecDepth 100000 in
set_option maxHeartbeats 2000000 in
theorem gathered_any (gf : Nat) (fn : Func) (hfn : Tryz.prog.funcs[gf]? = some fn) (lb : Array Value) (eg : ∀ args w, (callFunc gf args).run Tryz.prog w = .ok (.enter gf args) w) (L : List (Fin 256)) (w : World) (hs : ∀ w', Below w.heap.size w w' → Tells 3 gf lb w.heap.size L w') :
    Calls Tryz.prog 100 #[.func (.func gf) #[] lb] w (Got4 w (setL L)) := by
  refine (callsIn_wide (n := 4)).1 ?_
  refine callsIn_of_wp_marks Tryz.func100 rfl trivial ?_ rfl
  simp only [Tryz.ntmps100, List.size_toArray, List.length_cons, List.length_nil, Nat.reduceAdd, Nat.reduceSub, Array.replicate_succ, Array.replicate_zero, List.push_toArray, List.append_toArray, List.nil_append, List.cons_append]
  have hz := zero4
  rw [tab4_row] at hz
  gi_wp2
  clear hz
  have hA := (H4.new w nilW).alloc (.cells (row4 nilW) 51)
  have hC := H4.new1 w (.cells (row4 nilW) 51) nilW
  have hL : Below w.heap.size w ((w.alloc (.cells (row4 nilW) 51)).alloc (.cells (row4 nilW) 51)) := bl_alloc (bl_alloc (Below.refl _ _) _) _
  have hsz : ((w.alloc (.cells (row4 nilW) 51)).alloc (.cells (row4 nilW) 51)).heap.size = w.heap.size + 2 := by simp
  generalize (w.alloc (.cells (row4 nilW) 51)).alloc (.cells (row4 nilW) 51) = W0 at *
  refine wpIn_rangeFunc_ownF rfl (by omega) (gf := gf) (lb := lb) rfl trivial eg
    (hs W0 hL) belowK_t (belowK_b (by omega)) (Below.refl _ _) (fun _ => rfl)
    (fun pre W => (H4 W w.heap.size nilW ∧ H4 W (w.heap.size + 1) (setL pre)) ∧ Below w.heap.size w W)
    (fun _ _ _ => False)
    (OwnFrom.and (Own.from (fun s A B row hs hg hr => ⟨h4_kept hs.1 hg hr, h4_kept hs.2 hg hr⟩) _) (ownFrom_below (Nat.le_refl _) (by omega)))
    (fun _ _ _ _ _ hs _ _ => hs)
    ⟨⟨hA, hC⟩, hL⟩
    (fun x => { tmps := #[.func (.func gf) #[] lb, undef, .pointer (some ⟨w.heap.size, 0, none⟩), .pointer (some ⟨w.heap.size + 1, 0, none⟩), .int .u8 (x.1 : Int), .func (.func gf) #[] lb, .int .u8 (x.1 : Int), undef, undef, undef, undef, undef, undef, undef, undef, undef, undef], defers := [] }) ?assign ?body ?done ?stop
  case assign =>
    intro l x W K hK
    unfold encB
    gi_wp2
    exact hK
  case body =>
    rintro l pre x W ⟨⟨h1, h2⟩, hB⟩ _
    have hx : x.1 < 256 := x.2
    generalize hc : x.1 = c at hx ⊢
    obtain ⟨q, hq⟩ : ∃ q, c / 64 = q := ⟨_, rfl⟩
    obtain ⟨r, hr⟩ : ∃ r, c % 64 = r := ⟨_, rfl⟩
    have hq4 : q < 4 := by omega
    have hr4 : r < 64 := by omega
    have eq1 : (c : Int) / 64 = (q : Int) := by omega
    have er1 : (c : Int) % 64 = (r : Int) := by omega
    have hput := put_at (setL pre) c q r hq hr
    have hset := setL_snoc pre x
    rw [hc] at hset
    have hb := bit_at r
    obtain ⟨m, hm⟩ : ∃ m, 1#64 <<< r = m := ⟨_, rfl⟩
    have ho := or64 (setL pre q) m
    have hc1 := h2.cell hq4
    have hf1 := h2.free q
    obtain ⟨g, hg⟩ : ∃ g, setL pre q = g := ⟨_, rfl⟩
    obtain ⟨y, hy⟩ : ∃ y, g ||| m = y := ⟨_, rfl⟩
    rw [hm] at hb hput
    rw [hg] at ho hput hc1
    rw [hy] at ho hput
    have H1 := Lib.hid h1
    have H2 := Lib.hid h2
    have HP := Lib.hid hput
    have HS := Lib.hid hset
    clear hm hy hg hput hset h1 h2 hq hr hc
    gi_wp2
    refine ⟨KeepsOthers.setCell _ _ _, (Below.refl w.heap.size W).setCell (p := ⟨w.heap.size + 1, q, none⟩) (by dsimp only; omega) _, ⟨H1.out.other (by dsimp only; omega) _, ?_⟩, hB.setCell (p := ⟨w.heap.size + 1, q, none⟩) (by dsimp only; omega) _⟩
    rw [HS.out]
    exact H2.out.set q y (fun j _ => HP.out j)
  case done =>
    rintro D xs W hD rfl ⟨⟨h1, h2⟩, hB⟩ hK
    have HK := Lib.hid hK
    have H1 := Lib.hid h1
    have H2 := Lib.hid h2
    clear hK h1 h2
    gi_wp2_with (first
      | (refine wpListIn_load_row rfl 51 _ rfl (w.heap.size + 1) rfl _ _ (0, 0) _ H2.out Tryz.underlying51 rfl (by rw [size4, row4_size]) ?_)
      | (refine wpListIn_store_row rfl 51 _ _ rfl w.heap.size _ rfl rfl _ _ H1.out (by rw [size4, row4_size]) (by rw [row4_size, row4_size]) (row4_one _) ?_))
    have hsr : (W.setRow w.heap.size (row4 (setL xs))).heap[w.heap.size]? = some (.cells (row4 (setL xs)) 51 (0, 0)) := setRow_heap _ _ _ _ _ _ H1.out
    have hD2 : D ≠ w.heap.size := by omega
    have hKs : (W.setRow w.heap.size (row4 (setL xs))).heap[D]? = some (.deferred (some [])) := by rw [setRow_other _ _ _ _ hD2]; exact HK.out
    refine ⟨by simp, .inl ⟨_, _, rfl, run_takeDeferred hKs, ?_⟩⟩
    refine ⟨.agg (row4 (setL xs)), ?_, rfl, ?_⟩
    · refine results_cell_row rfl _ _ w.heap.size 51 _ (0, 0) _ rfl ?_ Tryz.underlying51 rfl (by rw [size4, row4_size])
      rw [World.putObj_heap_other (by omega)]
      exact hsr
    · exact (bl_setRow hB (Nat.le_refl _) _).trans (belowK_b (w := w) (Nat.le_refl _) _ D _ _ (by omega) hKs rfl rfl)
  case stop =>
    rintro D c pre W _ _ h _
    exact h.elim

theorem valL_fin (l : List Nat) (h : ∀ c ∈ l, c < 256) : valL (finL l) = l := finL_val l h

set_option maxRecDepth 20000 in
theorem values_make (A : Option Addr) (n c : Nat) (w : World) : Calls Tryz.prog 157 #[.slice A n c] w fun e w' =>
    e = .returned (.func (.func 161) #[] #[.pointer (some ⟨w.heap.size, 0, none⟩)]) ∧ w' = w.alloc (.cells #[.slice A n c] 44) := by
  go_enter Tryz.func157, Tryz.ntmps157
  go_wp2
  go_ret
  exact ⟨rfl, rfl⟩

theorem gath_values (Bx n c : Nat) (A : Option Addr) (s : List UInt8) (hs : s.length = n) (hn : n ≤ 140737488351232) (w : World) (hBx : Bx < w.heap.size)
    (hB : w.cell? ⟨Bx, 0, none⟩ = some (.slice A n c)) (hr : Rd w A s) :
    Calls Tryz.prog 100 #[.func (.func 161) #[] #[.pointer (some ⟨Bx, 0, none⟩)]] w (Got4 w (allW nilW (natL s))) := by
  have h := gathered_any 161 _ Tryz.func161 #[.pointer (some ⟨Bx, 0, none⟩)] (enters_of Tryz.func161 (by kernel_rfl) rfl) (finL (natL s)) w
    (fun w' hb => values_tell 3 Bx w.heap.size n c A s (by omega) hs hn w' (Nat.lt_of_lt_of_le hBx hb.size) ((hb.cell (p := ⟨Bx, 0, none⟩) hBx).trans hB) (hr.below hb) (fun h0 ad e => by
      obtain ⟨ad', e', hc⟩ := hr.cell (k := 0) (by omega)
      rw [e] at e'
      cases e'
      have := World.block_lt_of_cell? w _ hc
      rwa [add_block] at this))
  unfold setL at h
  rw [valL_fin _ (natL_lt s)] at h
  exact h
theorem gath_span (B1 B2 a b : Nat) (ha : a < 256) (hb : b < 256) (w : World) (hw1 : B1 < w.heap.size) (hw2 : B2 < w.heap.size)
    (h1 : w.cell? ⟨B1, 0, none⟩ = some (.int .u8 (a : Int))) (h2 : w.cell? ⟨B2, 0, none⟩ = some (.int .u8 (b : Int))) :
    Calls Tryz.prog 100 #[.func (.func 101) #[] #[.pointer (some ⟨B1, 0, none⟩), .pointer (some ⟨B2, 0, none⟩)]] w (Got4 w (allW nilW (spanL a (b + 1 - a)))) := by
  have h := gathered_any 101 _ Tryz.func101 #[.pointer (some ⟨B1, 0, none⟩), .pointer (some ⟨B2, 0, none⟩)] (enters_of Tryz.func101 (by kernel_rfl) rfl) (finL (spanL a (b + 1 - a))) w
    (fun w' hb2 => span_tell 3 B1 B2 w.heap.size a b (b + 1 - a) (by omega) ha hb rfl hw1 hw2 w' (Nat.lt_of_lt_of_le hw1 hb2.size) (Nat.lt_of_lt_of_le hw2 hb2.size) ((hb2.cell (p := ⟨B1, 0, none⟩) hw1).trans h1) ((hb2.cell (p := ⟨B2, 0, none⟩) hw2).trans h2))
  unfold setL at h
  rw [valL_fin _ (fun c hc => by
    obtain ⟨i, hi, rfl⟩ := List.mem_map.1 hc
    have := List.mem_range.1 hi
    omega)] at h
  exact h

set_option maxHeartbeats 2000000 in
set_option maxRecDepth 20000 in
theorem of_any (A : Option Addr) (n c : Nat) (s : List UInt8) (hs : s.length = n) (hn : n ≤ 140737488351232) (w : World) (hr : Rd w A s) :
    Calls Tryz.prog 152 #[.slice A n c] w (Got4 w (allW nilW (natL s))) := by
  have hz := zero4
  rw [tab4_row] at hz
  have HS := Lib.hid hs
  have HR := Lib.hid hr
  clear hs hr
  go_enter Tryz.func152, Tryz.ntmps152
  go_wp2_with fail
  clear hz
  have h0 := H4.new w nilW
  have b0 := bl_alloc (Below.refl w.heap.size w) (.cells (row4 nilW) 51)
  generalize w.alloc (.cells (row4 nilW) 51) = w0 at *
  refine (values_make A n c _).mono ?_
  rintro e w1 ⟨rfl, rfl⟩
  have h1 := h0.alloc (.cells #[.slice A n c] 44)
  have b1 := bl_alloc b0 (.cells #[.slice A n c] 44)
  have c1 := cell_of_row (w0.alloc (.cells #[.slice A n c] 44)) w0.heap.size 0 #[.slice A n c] 44 (0, 0) (heap_alloc_new w0 _)
  have l1 : w0.heap.size < (w0.alloc (.cells #[.slice A n c] 44)).heap.size := by simp
  generalize hX : w0.heap.size = X at *
  generalize w0.alloc (.cells #[.slice A n c] 44) = w1 at *
  have H1 := Lib.hid h1
  have B1 := Lib.hid b1
  have C1 := Lib.hid c1
  clear hX h0 b0 h1 b1 c1
  go_wp2_with fail
  refine (gath_values X n c A s HS.out hn _ l1 C1.out (HR.out.below B1.out)).mono ?_
  rintro e w2 ⟨rfl, b2⟩
  have H2 := Lib.hid (H1.out.below b2)
  have B2 := Lib.hid (bl_trans B1.out b2)
  clear H1 B1 b2 C1
  go_wp2_with (refine wpList_store_row rfl 51 _ _ rfl w.heap.size _ rfl rfl 51 _ H2.out (by rw [size4, row4_size]) (by rw [row4_size, row4_size]) (row4_one _) ?_)
  refine bodyPost_ret (v := .agg (row4 (allW nilW (natL s)))) (results_cell_row rfl _ _ w.heap.size 51 _ (0, 0) _ rfl (setRow_heap _ _ _ _ _ _ H2.out) Tryz.underlying51 rfl (by rw [size4, row4_size])) rfl ⟨rfl, ?_⟩
  exact bl_setRow B2.out (by omega) _

set_option maxHeartbeats 2000000 in
set_option maxRecDepth 20000 in
theorem span_any (a b : Nat) (ha : a < 256) (hb : b < 256) (w : World) :
    Calls Tryz.prog 80 #[.int .u8 (a : Int), .int .u8 (b : Int)] w (Got4 w (allW nilW (spanL a (b + 1 - a)))) := by
  have hz := zero4
  rw [tab4_row] at hz
  have HA := Lib.hid ha
  have HB := Lib.hid hb
  clear ha hb
  go_enter Tryz.func80, Tryz.ntmps80
  go_wp2_with fail
  clear hz
  have h0 := H4.new2 w (.cells #[.int .u8 (a : Int)] 5) (.cells #[.int .u8 (b : Int)] 5) nilW
  have b0 := bl_alloc (bl_alloc (bl_alloc (Below.refl w.heap.size w) (.cells #[.int .u8 (a : Int)] 5)) (.cells #[.int .u8 (b : Int)] 5)) (.cells (row4 nilW) 51)
  have c1 : (((w.alloc (.cells #[.int .u8 (a : Int)] 5)).alloc (.cells #[.int .u8 (b : Int)] 5)).alloc (.cells (row4 nilW) 51)).cell? ⟨w.heap.size, 0, none⟩ = some (.int .u8 (a : Int)) := by simp [go_sem]
  have c2 : (((w.alloc (.cells #[.int .u8 (a : Int)] 5)).alloc (.cells #[.int .u8 (b : Int)] 5)).alloc (.cells (row4 nilW) 51)).cell? ⟨w.heap.size + 1, 0, none⟩ = some (.int .u8 (b : Int)) := by simp [go_sem]
  have l1 : w.heap.size < (((w.alloc (.cells #[.int .u8 (a : Int)] 5)).alloc (.cells #[.int .u8 (b : Int)] 5)).alloc (.cells (row4 nilW) 51)).heap.size := by simp; omega
  have l2 : w.heap.size + 1 < (((w.alloc (.cells #[.int .u8 (a : Int)] 5)).alloc (.cells #[.int .u8 (b : Int)] 5)).alloc (.cells (row4 nilW) 51)).heap.size := by simp
  generalize ((w.alloc (.cells #[.int .u8 (a : Int)] 5)).alloc (.cells #[.int .u8 (b : Int)] 5)).alloc (.cells (row4 nilW) 51) = w1 at *
  have H1 := Lib.hid h0
  have B1 := Lib.hid b0
  have C1 := Lib.hid c1
  have C2 := Lib.hid c2
  clear h0 b0 c1 c2
  refine (gath_span w.heap.size (w.heap.size + 1) a b HA.out HB.out _ l1 l2 C1.out C2.out).mono ?_
  rintro e w2 ⟨rfl, b2⟩
  have H2 := Lib.hid (H1.out.below b2)
  have B2 := Lib.hid (bl_trans B1.out b2)
  clear H1 B1 b2 C1 C2
  go_wp2_with (refine wpList_store_row rfl 51 _ _ rfl (w.heap.size + 1 + 1) _ rfl rfl 51 _ H2.out (by rw [size4, row4_size]) (by rw [row4_size, row4_size]) (row4_one _) ?_)
  refine bodyPost_ret (v := .agg (row4 (allW nilW (spanL a (b + 1 - a))))) (results_cell_row rfl _ _ (w.heap.size + 1 + 1) 51 _ (0, 0) _ rfl (setRow_heap _ _ _ _ _ _ H2.out) Tryz.underlying51 rfl (by rw [size4, row4_size])) rfl ⟨rfl, ?_⟩
  exact bl_setRow B2.out (by omega) _

end Go.Proofs.YtcgfogdfcdndgaaGreatDoor
