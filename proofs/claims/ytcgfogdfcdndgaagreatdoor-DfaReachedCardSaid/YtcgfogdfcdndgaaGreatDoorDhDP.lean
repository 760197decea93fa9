/- Machines: nets in boxes, beginnings of texts (as in NfCm). -/
import Derived.Test.YtcgfogdfcdndgaaGreatDoorDhCP
set_option linter.unusedVariables false
set_option linter.unusedSimpArgs false
namespace Go.Proofs.YtcgfogdfcdndgaaGreatDoor
open Go.RowKit
attribute [local go_sem] Oper.semAt_some

structure NetB (W : World) (g : Nat) (S : Int) (E : List Ed) (X : List Int) (A A2 : Option Addr) (n c n2 c2 : Nat) (w : World) : Prop where
  net : w.heap[g]? = some (.cells #[.int .i64 S, .slice A n c, .slice A2 n2 c2] 25 (0, 0))
  re : RdE w A E
  rx : RdW w A2 X
  low : Below W.heap.size W w
  ln : E.length = n
  lx : X.length = n2
  cn : n ≤ c
  cx : n2 ≤ c2
  bn : n ≤ 140737488355328
  bx : n2 ≤ 140737488355328
section
variable {W : World} {g : Nat} {S : Int} {E : List Ed} {X : List Int} {A A2 : Option Addr} {n c n2 c2 : Nat} {w w' : World}
theorem NetB.then (h : NetB W g S E X A A2 n c n2 c2 w) (hb : Below w.heap.size w w') : NetB W g S E X A A2 n c n2 c2 w' :=
  ⟨(hb.block _ (Array.getElem?_eq_some_iff.1 h.net).1).trans h.net, h.re.below hb, h.rx.below hb, bl_trans h.low hb, h.ln, h.lx, h.cn, h.cx, h.bn, h.bx⟩
theorem NetB.load (h : NetB W g S E X A A2 n c n2 c2 w) : ∀ t u, [Value.int .i64 S, .slice A n c, .slice A2 n2 c2][t]? = some u → w.cell? ((⟨g, 0, none⟩ : Addr).add t) = some u := load_net w h.net
theorem NetB.q1 (h : NetB W g S E X A A2 n c n2 c2 w) : w.cell? ⟨g, 1, none⟩ = some (.slice A n c) := cell_of_row w g 1 _ _ _ h.net
theorem NetB.check (h : NetB W g S E X A A2 n c n2 c2 w) : Calls Tryz.prog 25 #[.agg #[.int .i64 S, .slice A n c, .slice A2 n2 c2]] w (GotEr w (checkN S E X)) :=
  ncheck_any S E X A A2 n c n2 c2 h.ln h.lx h.cn h.cx h.bn h.bx w h.re h.rx
theorem NetB.run (h : NetB W g S E X A A2 n c n2 c2 w) (ts : List UInt8) (B : Option Addr) (m k : Nat) (hm : ts.length = m) (hm2 : m ≤ 100000) (hk : k ≤ 9223372036854775807) (hmk : m ≤ k) (hr : Rd w B ts) :
    Calls Tryz.prog 26 #[.agg #[.int .i64 S, .slice A n c, .slice A2 n2 c2], .slice B m k] w (GotRn w (runE S E X ts)) :=
  run_any S E X ts A A2 B n c n2 c2 m k h.ln h.lx hm h.cn h.cx h.bn h.bx (by omega) w h.re h.rx hr
end
theorem cut_t (A : Option Addr) (n c k : Nat) (hk : k ≤ n) (hnc : n ≤ c) (W : World) : (Instr.slice 44 (.slice A n c) none (some (.int .i64 (k : Int))) none).run Tryz.prog W = .ok (.slice A k c) W := by
  obtain ⟨i, hi, _, hs1, _⟩ := info_parts info_u8
  have he : Tryz.prog.elem 44 = 5 := by kernel_rfl
  rw [run_slice_h W 44 A n c (by rw [he]; exact Tryz.underlying44) .i64 k (by omega) (by omega)]
  simp [sizeOf, typeInfo, he, hi, hs1, sliced, Result.andThen]
  intro _
  cases A <;> simp [Addr.add]
theorem min_litN (m k : Nat) (z : Int) (hz : (k : Int) = z) : ∃ j : Nat, Hid (j = min m k) ∧ j ≤ m ∧ j ≤ k ∧ ∀ (ts : Array TypeId) (t : TypeId) (W : World), (Builtin.min_ ts t #[.int .i64 (m : Int), .int .i64 z]).run Tryz.prog W = .ok (.int .i64 (j : Int)) W := by
  subst hz
  refine ⟨min m k, rfl, by omega, by omega, fun ts t W => ?_⟩
  rw [run_min_int2]
  have e : (if (k : Int) < m then (k : Int) else m) = ((min m k : Nat) : Int) := by split <;> omega
  rw [e]
/-- A value of many cells, loaded by an operation that is guarded. -/
theorem wpList_load_partG {ops : Array Oper} {rest : List Oper} {o : Oper} {a : Act} {w : World} {Q : Exit → Act → World → Prop} (ty : TypeId) (k : Nat) (x : Operand) (hgd : Region.wanted o (yielded ops a.tmps) = true) (ho : o.op = .load ty x) (ad : Addr) (hx : a.eval x = .pointer (some ad)) (vs : List Value)
    (hagg : (isAgg ty).run Tryz.prog w = .ok true w) (hsz : (sizeOf ty).run Tryz.prog w = .ok k w) (hk : vs.length = k) (hc : ∀ j u, vs[j]? = some u → w.cell? (ad.add j) = some u)
    (h : wpList Tryz.prog ops Q rest (a.put o.dst (.agg vs.toArray)) w) : wpList Tryz.prog ops Q (o :: rest) a w := by
  refine wpList_step fun K hK => ?_
  rw [if_pos hgd]
  exact wp_load_part ty k x ho ad hx vs hagg hsz hk hc (hK _ _ h)

end Go.Proofs.YtcgfogdfcdndgaaGreatDoor
