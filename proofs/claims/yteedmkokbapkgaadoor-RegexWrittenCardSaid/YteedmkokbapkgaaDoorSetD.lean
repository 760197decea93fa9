/- Iterators over bytes (slices.Values, Span's own), and the set that is gathered of what one tells: Of, Span. No condition, but that the bytes can be read. -/
import Derived.RangeFuncNested
import Derived.RangeFuncBound
import Derived.RangeFuncCalls
import Derived.RangeFuncLeaves
import Derived.Shelf.Abstract
import Derived.Shelf.RegionOpen
import Derived.WalkKit
import Derived.OwnWalkIn
import Derived.TacticsInMore
import Derived.LoopNIn
import Derived.LoopIn
import Derived.Test.YteedmkokbapkgaaDoorSetC
set_option linter.unusedVariables false
set_option linter.unusedSimpArgs false
namespace Go.Proofs.YteedmkokbapkgaaDoor
open Go.RowKit Go.Shelf
attribute [local go_sem] Oper.semAt_some

/-- A whole array out of a block of its own, inside a fence. -/
theorem wpListIn_load_row {F : Fence} {n : Nat} {P : Program} {ops : Array Oper} {rest : List Oper} {o : Oper} {a : Act} {w : World} {Q : Exit → Act → World → Prop} (hgd : o.guard = none) (ty : TypeId) (x : Operand) (ho : o.op = .load ty x)
    (g : Nat) (hx : a.eval x = .pointer (some ⟨g, 0, none⟩)) (t : TypeId) (cs : Array Value) (fr : Nat × Nat) (d : TypeDesc) (hg : w.heap[g]? = some (.cells cs t fr))
    (hu : P.underlying ty = some d) (hd : (match d with | .struct _ | .array _ _ => true | _ => false) = true) (hi : (P.info? ty).map (·.size) = some cs.size)
    (h : wpListIn F n P ops Q rest (a.put o.dst (.agg cs)) w) : wpListIn F n P ops Q (o :: rest) a w := by
  refine wpListIn_plain hgd fun K hK => ?_
  unfold Oper.wpIn
  refine ⟨?_, ?_⟩
  · simp [Oper.about, ho]
  · rw [Oper.semAt_plain F _ _ (by rw [ho]; intro c hc'; cases hc')]
    unfold execOp
    simp only [ho, hx, Instr.loadAt, Instr.sureAddr, Sem.run_bind, Sem.run_pure, Result.andThen_ok, run_loadVar_row w g t ty cs fr d hg hu hd hi]
    exact hK _ _ h
/-- A whole array into a block of its own, inside a fence. -/
theorem wpListIn_store_row {F : Fence} {n : Nat} {P : Program} {ops : Array Oper} {rest : List Oper} {o : Oper} {a : Act} {w : World} {Q : Exit → Act → World → Prop} (hgd : o.guard = none) (ty : TypeId) (x y : Operand) (ho : o.op = .store ty x y)
    (g : Nat) (cells : Array Value) (hx : a.eval x = .pointer (some ⟨g, 0, none⟩)) (hy : a.eval y = .agg cells)
    (t : TypeId) (old : Array Value) (hg : w.heap[g]? = some (.cells old t (0, 0))) (hi : (P.info? ty).map (·.size) = some cells.size)
    (hold : old.size = cells.size) (h1 : cells.all (·.oneCell') = true)
    (h : wpListIn F n P ops Q rest (a.put o.dst undef) (w.setRow g cells)) : wpListIn F n P ops Q (o :: rest) a w := by
  refine wpListIn_plain hgd fun K hK => ?_
  unfold Oper.wpIn
  refine ⟨?_, ?_⟩
  · simp [Oper.about, ho]
  · rw [Oper.semAt_plain F _ _ (by rw [ho]; intro c hc'; cases hc')]
    unfold execOp
    simp only [ho, hx, hy, Instr.storeAt, Instr.sureAddr, Sem.run_bind, Sem.run_pure, Result.andThen_ok, run_storeVar_row w g t ty old cells hg hi hold h1]
    exact hK _ _ h

/-- A byte; the bytes of a list. -/
def encB (x : Fin 256) : Array Value := #[.int .u8 (x.1 : Int)]
def finB (c : Nat) : Fin 256 := ⟨c % 256, Nat.mod_lt _ (by decide)⟩
def finL (l : List Nat) : List (Fin 256) := l.map finB
theorem finL_val (l : List Nat) (h : ∀ c ∈ l, c < 256) : (finL l).map (·.1) = l := by
  unfold finL
  rw [List.map_map]
  conv => rhs; rw [← List.map_id l]
  apply List.map_congr_left
  intro c hc
  exact Nat.mod_eq_of_lt (h c hc)
/-- An iterator that tells the bytes of L, and turns nothing below n0. -/
def Tells (d : Nat) (gf : Nat) (lb : Array Value) (n0 : Nat) (L : List (Fin 256)) (w : World) : Prop :=
  SeqStopsK Fence.wide d Tryd.prog gf lb encB (Below n0) (fun xs => xs = L) (fun pre => ∃ k, pre = L.take k) L.length w

theorem take_next {α : Type} (L : List α) (k : Nat) (h : k < L.length) : L.take k ++ [L[k]] = L.take (k + 1) := by
  rw [List.take_add_one]
  simp [h]

/-- What a slice of bytes reads as, byte by byte. -/
def natL (l : List UInt8) : List Nat := l.map (·.toNat)
theorem natL_lt (l : List UInt8) : ∀ c ∈ natL l, c < 256 := by
  intro c hc
  obtain ⟨b, _, rfl⟩ := List.mem_map.1 hc
  exact b.toNat_lt
theorem finL_len (l : List Nat) : (finL l).length = l.length := by simp [finL]
theorem natL_len (l : List UInt8) : (natL l).length = l.length := by simp [natL]
theorem finL_at (l : List UInt8) (k : Nat) (h : k < (finL (natL l)).length) (h2 : k < l.length) : (((finL (natL l))[k]).1 : Int) = (l[k].toNat : Int) := by
  simp only [finL, natL, finB, List.getElem_map]
  congr 1
  exact Nat.mod_eq_of_lt (UInt8.toNat_lt _)

set_option maxRecDepth 100000 in
set_option maxHeartbeats 2000000 in
theorem values_loop (d l Bx n0 n c : Nat) (A : Option Addr) (s : List UInt8) (hd : 2 ≤ d) (hs : s.length = n) (hn : n ≤ 140737488351232) (J Jx : List (Fin 256) → World → Prop)
    (hY : ∀ pre x W, J pre W → pre.length < (finL (natL s)).length → YieldAt Fence.wide (d - 1) Tryd.prog l (encB x) W fun e W' =>
      (e = .returned (.bool true) ∧ J (pre ++ [x]) W' ∧ Below n0 W W') ∨ (e = .returned (.bool false) ∧ Jx (pre ++ [x]) W'))
    (W : World) (hB : W.cell? ⟨Bx, 0, none⟩ = some (.slice A n c)) (hr : Rd W A s) (hA : 0 < n → ∀ ad, A = some ad → ad.block < n0) (h0 : J [] W) :
    CallsIn Fence.wide d Tryd.prog 66 #[.func (.yield l) #[] #[], .pointer (some ⟨Bx, 0, none⟩)] W fun e W' => (∃ v, e = .returned v) ∧
      ((∃ xs, xs = finL (natL s) ∧ J xs W') ∨ (∃ pre, (∃ k, pre = (finL (natL s)).take k) ∧ Jx pre W')) := by
  have hm1 : 1 ≤ d := by omega
  have hlen : (finL (natL s)).length = n := by rw [finL_len, natL_len, hs]
  refine callsIn_of_wp Tryd.func66 rfl trivial ?_ rfl
  simp only [Tryd.ntmps66, List.size_toArray, List.length_cons, List.length_nil, Nat.reduceAdd, Nat.reduceSub, Array.replicate_succ, Array.replicate_zero, List.push_toArray, List.append_toArray, List.nil_append, List.cons_append]
  gi_wp2
  gi_loopw [7] (fun p wr => ∃ k : Nat, k ≤ n ∧ p = .int .i64 (k : Int) ∧ J ((finL (natL s)).take k) wr ∧ Below n0 W wr) (fun p _ => n - (intOf p).toNat)
  case atStart => exact ⟨0, by omega, rfl, by simpa using h0, Below.refl _ _⟩
  case round =>
    obtain ⟨k, hk, rfl, hJ, hb⟩ := hrel
    by_cases hlt : k < n
    · have hks : k < s.length := by omega
      have hkL : k < (finL (natL s)).length := by omega
      obtain ⟨ad, rfl, hc⟩ := hr.cell hks
      have hcr := (hb.cell (p := ad.add k) (by rw [add_block]; exact hA (by omega) ad rfl)).trans hc
      obtain ⟨fn, tmps, assign, body, hy, hR⟩ := hY _ (finL (natL s))[k] wr hJ (by simp; omega)
      dsimp only [encB] at hy
      rw [finL_at s k hkL hks] at hy
      rw [take_next _ k hkL] at hR
      have HC := Lib.hid hc
      have HB := Lib.hid hb
      have HS := Lib.hid hs
      have HL := Lib.hid hlen
      clear hc hb hs hlen hkL
      gi_wp2
      refine hR.mono ?_
      rintro e W3 (⟨rfl, hJ3, hk3⟩ | ⟨rfl, hJx3⟩)
      · gi_wp2
        go_roundw
        case rel => exact ⟨k + 1, by omega, by go_num, hJ3, HB.out.trans hk3⟩
        case measure => simp [intOf]; omega
      · gi_wp2
        refine bodyPost_ret (results_none rfl _ _ _) rfl ?_
        exact ⟨⟨_, rfl⟩, .inr ⟨_, ⟨k + 1, rfl⟩, hJx3⟩⟩
    · obtain rfl : k = n := by omega
      rw [List.take_of_length_le (by omega)] at hJ
      gi_wp2
      go_end0
      exact ⟨⟨_, rfl⟩, .inl ⟨_, rfl, hJ⟩⟩

theorem values_tell (d Bx n0 n c : Nat) (A : Option Addr) (s : List UInt8) (hd : 2 ≤ d) (hs : s.length = n) (hn : n ≤ 140737488351232) (w : World) (hBx : Bx < w.heap.size)
    (hB : w.cell? ⟨Bx, 0, none⟩ = some (.slice A n c)) (hr : Rd w A s) (hA : 0 < n → ∀ ad, A = some ad → ad.block < n0) :
    Tells d 66 #[.pointer (some ⟨Bx, 0, none⟩)] n0 (finL (natL s)) w := fun l J Jx W hW _ _ hY h0 =>
  values_loop d l Bx n0 n c A s hd hs hn J Jx hY W ((hW.cell (p := ⟨Bx, 0, none⟩) hBx).trans hB) (hr.below hW) hA h0

/-- The bytes from one on, so many. -/
def spanL (a m : Nat) : List Nat := (List.range m).map (a + ·)

set_option maxRecDepth 100000 in
set_option maxHeartbeats 2000000 in
theorem span_loop (d l B1 B2 n0 a b m : Nat) (hd : 2 ≤ d) (ha : a < 256) (hb : b < 256) (hm : m = b + 1 - a) (hB1 : B1 < n0) (hB2 : B2 < n0) (J Jx : List (Fin 256) → World → Prop)
    (hY : ∀ pre x W, J pre W → pre.length < (finL (spanL a m)).length → YieldAt Fence.wide (d - 1) Tryd.prog l (encB x) W fun e W' =>
      (e = .returned (.bool true) ∧ J (pre ++ [x]) W' ∧ Below n0 W W') ∨ (e = .returned (.bool false) ∧ Jx (pre ++ [x]) W'))
    (W : World) (h1 : W.cell? ⟨B1, 0, none⟩ = some (.int .u8 (a : Int))) (h2 : W.cell? ⟨B2, 0, none⟩ = some (.int .u8 (b : Int))) (h0 : J [] W) :
    CallsIn Fence.wide d Tryd.prog 50 #[.func (.yield l) #[] #[], .pointer (some ⟨B1, 0, none⟩), .pointer (some ⟨B2, 0, none⟩)] W fun e W' => (∃ v, e = .returned v) ∧
      ((∃ xs, xs = finL (spanL a m) ∧ J xs W') ∨ (∃ pre, (∃ k, pre = (finL (spanL a m)).take k) ∧ Jx pre W')) := by
  have hm1 : 1 ≤ d := by omega
  have hlen : (finL (spanL a m)).length = m := by simp [finL, spanL]
  refine callsIn_of_wp Tryd.func50 rfl trivial ?_ rfl
  simp only [Tryd.ntmps50, List.size_toArray, List.length_cons, List.length_nil, Nat.reduceAdd, Nat.reduceSub, Array.replicate_succ, Array.replicate_zero, List.push_toArray, List.append_toArray, List.nil_append, List.cons_append]
  gi_wp2
  gi_loopw [4] (fun p wr => ∃ k : Nat, k ≤ m ∧ p = .int .i64 ((a + k : Nat) : Int) ∧ J ((finL (spanL a m)).take k) wr ∧ Below n0 W wr) (fun p _ => 256 - (intOf p).toNat)
  case atStart => exact ⟨0, by omega, rfl, by simpa using h0, Below.refl _ _⟩
  case round =>
    obtain ⟨k, hk, rfl, hJ, hb3⟩ := hrel
    have h2r := (hb3.cell (p := ⟨B2, 0, none⟩) hB2).trans h2
    obtain ⟨z, hz⟩ : ∃ z, a + k = z := ⟨_, rfl⟩
    rw [hz]
    by_cases hlt : k < m
    · have hkL : k < (finL (spanL a m)).length := by omega
      have hx : (((finL (spanL a m))[k]).1 : Int) = (z : Int) := by
        simp only [finL, finB, spanL, List.getElem_map, List.getElem_range]
        omega
      obtain ⟨fn, tmps, assign, body, hy, hR⟩ := hY _ (finL (spanL a m))[k] wr hJ (by simp; omega)
      dsimp only [encB] at hy
      rw [hx] at hy
      rw [take_next _ k hkL] at hR
      have hzb : z ≤ b := by omega
      have hz1 : z + 1 = a + (k + 1) := by omega
      have HZ := Lib.hid hz1
      have HB := Lib.hid hb3
      have HL := Lib.hid hlen
      have HM := Lib.hid hm
      clear hz hz1 hb3 hlen hm hx h1 h2
      gi_wp2
      refine hR.mono ?_
      rintro e W3 (⟨rfl, hJ3, hk3⟩ | ⟨rfl, hJx3⟩)
      · gi_wp2
        go_roundw
        case rel => exact ⟨k + 1, by omega, by rw [← HZ.out]; go_num, hJ3, HB.out.trans hk3⟩
        case measure => simp [intOf]; omega
      · gi_wp2
        refine bodyPost_ret (results_none rfl _ _ _) rfl ?_
        exact ⟨⟨_, rfl⟩, .inr ⟨_, ⟨k + 1, rfl⟩, hJx3⟩⟩
    · obtain rfl : k = m := by omega
      rw [List.take_of_length_le (by omega)] at hJ
      have hzb : ¬ z ≤ b := by omega
      have HZ := Lib.hid hz
      have HM := Lib.hid hm
      clear hz hm h1 h2 hlen
      gi_wp2
      go_end0
      exact ⟨⟨_, rfl⟩, .inl ⟨_, rfl, hJ⟩⟩

theorem span_tell (d B1 B2 n0 a b m : Nat) (hd : 2 ≤ d) (ha : a < 256) (hb : b < 256) (hm : m = b + 1 - a) (hB1 : B1 < n0) (hB2 : B2 < n0) (w : World) (hw1 : B1 < w.heap.size) (hw2 : B2 < w.heap.size)
    (h1 : w.cell? ⟨B1, 0, none⟩ = some (.int .u8 (a : Int))) (h2 : w.cell? ⟨B2, 0, none⟩ = some (.int .u8 (b : Int))) :
    Tells d 50 #[.pointer (some ⟨B1, 0, none⟩), .pointer (some ⟨B2, 0, none⟩)] n0 (finL (spanL a m)) w := fun l J Jx W hW _ _ hY h0 =>
  span_loop d l B1 B2 n0 a b m hd ha hb hm hB1 hB2 J Jx hY W ((hW.cell (p := ⟨B1, 0, none⟩) hw1).trans h1) ((hW.cell (p := ⟨B2, 0, none⟩) hw2).trans h2) h0

end Go.Proofs.YteedmkokbapkgaaDoor
