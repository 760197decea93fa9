/- The program's iterator over the first primes, and the words that are made of it: Begin, roundWords. No condition. -/
import Derived.RangeFuncNested
import Derived.RangeFuncBound
import Derived.RangeFuncCalls
import Derived.RangeFuncLeaves
import Derived.Shelf.Abstract
import Derived.Shelf.RegionOpen
import Derived.WalkKit
import Derived.OwnWalkIn
import Derived.TacticsInMore
import Derived.LoopNIn
import Derived.LoopIn
import Derived.Deep.WholeRow
import Derived.Test.YthpcmceomamadaaShaS
set_option linter.unusedVariables false
namespace Go.Proofs.Ythpcmceomamadaa
open Go.RowKit Go.Shelf
attribute [local go_sem] Oper.semAt_some

/-- A whole array out of a block of its own, inside a fence. -/
theorem wpListIn_load_row {F : Fence} {n : Nat} {P : Program} {ops : Array Oper} {rest : List Oper} {o : Oper} {a : Act} {w : World} {Q : Exit → Act → World → Prop} (hgd : o.guard = none) (ty : TypeId) (x : Operand) (ho : o.op = .load ty x)
    (g : Nat) (hx : a.eval x = .pointer (some ⟨g, 0, none⟩)) (t : TypeId) (cs : Array Value) (fr : Nat × Nat) (d : TypeDesc) (hg : w.heap[g]? = some (.cells cs t fr))
    (hu : P.underlying ty = some d) (hd : (match d with | .struct _ | .array _ _ => true | _ => false) = true) (hi : (P.info? ty).map (·.size) = some cs.size)
    (h : wpListIn F n P ops Q rest (a.put o.dst (.agg cs)) w) : wpListIn F n P ops Q (o :: rest) a w := by
  refine wpListIn_plain hgd fun K hK => ?_
  unfold Oper.wpIn
  refine ⟨?_, ?_⟩
  · simp [Oper.about, ho]
  · rw [Oper.semAt_plain F _ _ (by rw [ho]; intro c hc'; cases hc')]
    unfold execOp
    simp only [ho, hx, Instr.loadAt, Instr.sureAddr, Sem.run_bind, Sem.run_pure, Result.andThen_ok, run_loadVar_row w g t ty cs fr d hg hu hd hi]
    exact hK _ _ h
/-- A whole array into a block of its own, inside a fence. -/
theorem wpListIn_store_row {F : Fence} {n : Nat} {P : Program} {ops : Array Oper} {rest : List Oper} {o : Oper} {a : Act} {w : World} {Q : Exit → Act → World → Prop} (hgd : o.guard = none) (ty : TypeId) (x y : Operand) (ho : o.op = .store ty x y)
    (g : Nat) (cells : Array Value) (hx : a.eval x = .pointer (some ⟨g, 0, none⟩)) (hy : a.eval y = .agg cells)
    (t : TypeId) (old : Array Value) (hg : w.heap[g]? = some (.cells old t (0, 0))) (hi : (P.info? ty).map (·.size) = some cells.size)
    (hold : old.size = cells.size) (h1 : cells.all (·.oneCell') = true)
    (h : wpListIn F n P ops Q rest (a.put o.dst undef) (w.setRow g cells)) : wpListIn F n P ops Q (o :: rest) a w := by
  refine wpListIn_plain hgd fun K hK => ?_
  unfold Oper.wpIn
  refine ⟨?_, ?_⟩
  · simp [Oper.about, ho]
  · rw [Oper.semAt_plain F _ _ (by rw [ho]; intro c hc'; cases hc')]
    unfold execOp
    simp only [ho, hx, hy, Instr.storeAt, Instr.sureAddr, Sem.run_bind, Sem.run_pure, Result.andThen_ok, run_storeVar_row w g t ty old cells hg hi hold h1]
    exact hK _ _ h
theorem bl_setRow {w a : World} (h : Below w.heap.size w a) {g : Nat} (hg : w.heap.size ≤ g) (cs : Array Value) : Below w.heap.size w (a.setRow g cs) :=
  bl_grown h (row := some g) ⟨rfl, rfl, rfl, by simp, fun k hk hne => setRow_other _ _ _ _ (fun e => hne (by rw [e]))⟩ (fun k e => by cases e; exact hg)

/-- What lay below n1 lies as it lay, but for one block. -/
def KpX (n1 hB : Nat) (W W' : World) : Prop := ∀ i, i < n1 → i ≠ hB → W'.heap[i]? = W.heap[i]?
theorem kpX_t {n1 hB : Nat} {A B C : World} (h : KpX n1 hB A B) (k : KpX n1 hB B C) : KpX n1 hB A C := fun i h1 h2 => (k i h1 h2).trans (h i h1 h2)
theorem kpX_b {n1 hB : Nat} {w : World} (hn : n1 ≤ w.heap.size) (W : World) (l : Nat) (o o' : Obj) (hl : w.heap.size ≤ l) (_ : W.heap[l]? = some o) (_ : o.isCells = false) (_ : o.isWalk = false) : KpX n1 hB W (W.putObj l o') :=
  fun i h1 _ => World.putObj_heap_other (by omega)
theorem kpX_refl (n1 hB : Nat) (W : World) : KpX n1 hB W W := fun _ _ _ => rfl
theorem kpX_set (n1 hB k : Nat) (W : World) (v : Value) : KpX n1 hB W (W.setCell ⟨hB, k, none⟩ v) := fun i _ h2 => Below.heap_setCell _ _ _ _ h2
theorem KpX.cell {n1 hB : Nat} {W W' : World} (h : KpX n1 hB W W') {p : Addr} (h1 : p.block < n1) (h2 : p.block ≠ hB) : W'.cell? p = W.cell? p := World.cell?_of_block (h _ h1 h2)

/-- A place, and the prime there. -/
def encP {c : Nat} (x : Fin c) : Array Value := #[.int .i64 (x.1 : Int), .int .i64 (prime x.1 : Int)]

set_option maxRecDepth 100000 in
set_option maxHeartbeats 2000000 in
theorem first_loop (m c l Bn n1 hB : Nat) (hc : c ≤ 64) (hm : 2 ≤ m) (h1 : Bn < n1) (h2 : Bn ≠ hB) (J Jx : List (Fin c) → World → Prop)
    (hY : ∀ pre x W, J pre W → pre.length < c → YieldAt Fence.wide (m - 1) Try.prog l (encP x) W fun e W' =>
      (e = .returned (.bool true) ∧ J (pre ++ [x]) W' ∧ KpX n1 hB W W') ∨ (e = .returned (.bool false) ∧ Jx (pre ++ [x]) W'))
    (W : World) (hBn : W.cell? ⟨Bn, 0, none⟩ = some (.int .i64 (c : Int))) (h0 : J [] W) :
    CallsIn Fence.wide m Try.prog 52 #[.func (.yield l) #[] #[], .pointer (some ⟨Bn, 0, none⟩)] W fun e W' => (∃ v, e = .returned v) ∧
      ((∃ xs, xs = List.finRange c ∧ J xs W') ∨ (∃ pre, (∃ k, k ≤ c ∧ pre = (List.finRange c).take k) ∧ Jx pre W')) := by
  have hm1 : 1 ≤ m := by omega
  refine callsIn_of_wp Try.func52 rfl trivial ?_ rfl
  simp only [Try.ntmps52, List.size_toArray, List.length_cons, List.length_nil, Nat.reduceAdd, Nat.reduceSub, Array.replicate_succ, Array.replicate_zero, List.push_toArray, List.append_toArray, List.nil_append, List.cons_append]
  gi_wp2
  gi_loopw [3, 4] (fun p q wr => ∃ k n : Nat, k ≤ c ∧ 2 ≤ n ∧ n ≤ 312 ∧ Hid (cnt n = k) ∧ p = .int .i64 (k : Int) ∧ q = .int .i64 (n : Int) ∧ J ((List.finRange c).take k) wr ∧ wr.cell? ⟨Bn, 0, none⟩ = some (.int .i64 (c : Int)))
    (fun _ q _ => 312 - (intOf q).toNat)
  case atStart => exact ⟨0, 2, by omega, by omega, by omega, cnt_two, rfl, rfl, by simpa using h0, hBn⟩
  case round =>
    obtain ⟨k, n, hk, hn1, hn2, HC, rfl, rfl, hJ, hBr⟩ := hrel
    by_cases hlt : k < c
    · have hn3 : n ≤ 311 := by
        rcases Nat.lt_or_ge n 312 with h | h
        · omega
        · obtain rfl : n = 312 := by omega
          have := HC.out
          rw [cnt_all] at this
          omega
      cases hp : prB n
      · have hcn := cnt_no n (by omega) hp
        have HN := Lib.hid hcn
        have HP := Lib.hid hp
        clear hcn hp
        gi_wp2_with (refine ⟨trivial, ?_⟩; gi_at_call 53; refine (callsIn_wide.2 (isPrime_any n hn1 hn3 _)).mono ?_; rintro e w' ⟨rfl, rfl⟩; rw [HP.out])
        go_roundw
        case rel => exact ⟨k, n + 1, hk, by omega, by omega, by rw [HN.out]; exact HC, rfl, by go_num, hJ, hBr⟩
        case measure => simp [intOf]; omega
      · obtain ⟨hcn, hpr⟩ := cnt_yes n (by omega) hp
        rw [HC.out] at hcn hpr
        obtain ⟨fn, tmps, assign, body, hy, hR⟩ := hY _ ⟨k, hlt⟩ wr hJ (by simp; omega)
        have HN := Lib.hid hcn
        have HP := Lib.hid hp
        dsimp only [encP] at hy
        rw [hpr] at hy
        rw [← finTake c k hlt] at hR
        clear hcn hp hpr
        gi_wp2_with (refine ⟨trivial, ?_⟩; gi_at_call 53; refine (callsIn_wide.2 (isPrime_any n hn1 hn3 _)).mono ?_; rintro e w' ⟨rfl, rfl⟩; rw [HP.out])
        refine hR.mono ?_
        rintro e W3 (⟨rfl, hJ3, hk3⟩ | ⟨rfl, hJx3⟩)
        · have hB3 := (hk3.cell (p := ⟨Bn, 0, none⟩) h1 h2).trans hBr
          gi_wp2
          go_roundw
          case rel => exact ⟨k + 1, n + 1, by omega, by omega, by omega, HN, by go_num, by go_num, hJ3, hB3⟩
          case measure => simp [intOf]; omega
        · gi_wp2
          refine bodyPost_ret (results_none rfl _ _ _) rfl ?_
          exact ⟨⟨_, rfl⟩, .inr ⟨_, ⟨k + 1, by omega, rfl⟩, hJx3⟩⟩
    · obtain rfl : k = c := by omega
      gi_wp2
      go_end0
      exact ⟨⟨_, rfl⟩, .inl ⟨_, finAll _, hJ⟩⟩

theorem first_stops (m c Bn n1 hB : Nat) (hc : c ≤ 64) (hm : 2 ≤ m) (h1 : Bn < n1) (h2 : Bn ≠ hB) (w : World) (h3 : Bn < w.heap.size) (hBn : w.cell? ⟨Bn, 0, none⟩ = some (.int .i64 (c : Int))) :
    SeqStopsK Fence.wide m Try.prog 52 #[.pointer (some ⟨Bn, 0, none⟩)] (encP (c := c)) (KpX n1 hB) (fun xs => xs = List.finRange c) (fun pre => ∃ k, k ≤ c ∧ pre = (List.finRange c).take k) c w := fun l J Jx W hW _ _ hY h0 =>
  first_loop m c l Bn n1 hB hc hm h1 h2 J Jx hY W ((hW.cell (p := ⟨Bn, 0, none⟩) h3).trans hBn) h0

set_option maxRecDepth 20000 in
theorem firstPrimes_any (c : Nat) (w : World) : Calls Try.prog 33 #[.int .i64 (c : Int)] w fun e w' =>
    e = .returned (.func (.func 52) #[] #[.pointer (some ⟨w.heap.size, 0, none⟩)]) ∧ w' = w.alloc (.cells #[.int .i64 (c : Int)] 3) := by
  go_enter Try.func33, Try.ntmps33
  go_wp2
  go_ret
  exact ⟨rfl, rfl⟩

/-- A word's cell. -/
def wv (x : BitVec 32) : Value := .int .u32 (x.toNat : Int)
/-- Words, laid into an array one by one. -/
def putW {c : Nat} (f : Nat → BitVec 32) (xs : List (Fin c)) (a : Array Value) : Array Value := xs.foldl (fun a x => a.setIfInBounds x.1 (wv (f x.1))) a
theorem putW_snoc {c : Nat} (f : Nat → BitVec 32) (xs : List (Fin c)) (x : Fin c) (a : Array Value) : putW f (xs ++ [x]) a = (putW f xs a).setIfInBounds x.1 (wv (f x.1)) := by
  unfold putW
  rw [List.foldl_append]
  rfl
theorem putW_size {c : Nat} (f : Nat → BitVec 32) (xs : List (Fin c)) : ∀ a : Array Value, (putW f xs a).size = a.size := by
  induction xs with
  | nil => intro a; rfl
  | cons x xs ih => intro a; show (putW f xs _).size = _; rw [ih]; simp
theorem putW_get {c : Nat} (f : Nat → BitVec 32) (xs : List (Fin c)) (i : Nat) : ∀ a : Array Value, a.size = c → i < c → (putW f xs a)[i]? = if ∃ x ∈ xs, x.1 = i then some (wv (f i)) else a[i]? := by
  induction xs with
  | nil => intro a _ _; simp [putW]
  | cons x xs ih =>
    intro a ha hi
    show (putW f xs (a.setIfInBounds x.1 (wv (f x.1))))[i]? = _
    rw [ih _ (by simpa using ha) hi]
    by_cases h1 : ∃ y ∈ xs, y.1 = i
    · rw [if_pos h1, if_pos]
      obtain ⟨y, hy, e⟩ := h1
      exact ⟨y, List.mem_cons_of_mem _ hy, e⟩
    · rw [if_neg h1]
      by_cases h2 : x.1 = i
      · rw [if_pos ⟨x, by simp, h2⟩, ← h2, Array.getElem?_setIfInBounds_self_of_lt (by omega)]
      · rw [if_neg, Array.getElem?_setIfInBounds_ne h2]
        rintro ⟨y, hy, e⟩
        rcases List.mem_cons.1 hy with rfl | hy
        · exact h2 e
        · exact h1 ⟨y, hy, e⟩
theorem putW_all (c : Nat) (f : Nat → BitVec 32) (a : Array Value) (ha : a.size = c) : putW f (List.finRange c) a = (((List.range c).map f).map wv).toArray := by
  apply Array.ext_getElem?
  intro i
  by_cases hi : i < c
  · rw [putW_get f _ i a ha hi, if_pos ⟨⟨i, hi⟩, by simp, rfl⟩]
    simp [hi]
  · rw [Array.getElem?_eq_none (by rw [putW_size]; omega), Array.getElem?_eq_none (by simp; omega)]

end Go.Proofs.Ythpcmceomamadaa
