/- What the laws on nets share: a net in a box, cuts, Bring, few. -/
import Derived.Test.YtjibfffefppniaaGreatNfRowM
import Derived.Test.YtjibfffefppniaaGreatNfTkM
import Derived.StillTailTactics
set_option linter.unusedVariables false
set_option linter.unusedSimpArgs false
namespace Go.Proofs.YtjibfffefppniaaGreat
open Go.RowKit
attribute [local go_sem] Oper.semAt_some

/-- A net in a box, while a law goes on. -/
structure NetB (W : World) (g : Nat) (S : Int) (E : List Ed) (X : List Int) (A A2 : Option Addr) (n c n2 c2 : Nat) (w : World) : Prop where
  net : w.heap[g]? = some (.cells #[.int .i64 S, .slice A n c, .slice A2 n2 c2] 29 (0, 0))
  re : RdE w A E
  rx : RdW w A2 X
  low : Below W.heap.size W w
  ln : E.length = n
  lx : X.length = n2
  cn : n ≤ c
  cx : n2 ≤ c2
  bn : n ≤ 140737488355328
  bx : n2 ≤ 140737488355328
section
variable {W : World} {g : Nat} {S : Int} {E : List Ed} {X : List Int} {A A2 : Option Addr} {n c n2 c2 : Nat} {w w' : World}
theorem NetB.then (h : NetB W g S E X A A2 n c n2 c2 w) (hb : Below w.heap.size w w') : NetB W g S E X A A2 n c n2 c2 w' :=
  ⟨(hb.block _ (Array.getElem?_eq_some_iff.1 h.net).1).trans h.net, h.re.below hb, h.rx.below hb, bl_trans h.low hb, h.ln, h.lx, h.cn, h.cx, h.bn, h.bx⟩
theorem NetB.load (h : NetB W g S E X A A2 n c n2 c2 w) : ∀ t u, [Value.int .i64 S, .slice A n c, .slice A2 n2 c2][t]? = some u → w.cell? ((⟨g, 0, none⟩ : Addr).add t) = some u := load_net w h.net
theorem NetB.q0 (h : NetB W g S E X A A2 n c n2 c2 w) : w.cell? ⟨g, 0, none⟩ = some (.int .i64 S) := cell_of_row w g 0 _ _ _ h.net
theorem NetB.q1 (h : NetB W g S E X A A2 n c n2 c2 w) : w.cell? ⟨g, 1, none⟩ = some (.slice A n c) := cell_of_row w g 1 _ _ _ h.net
theorem NetB.q2 (h : NetB W g S E X A A2 n c n2 c2 w) : w.cell? ⟨g, 2, none⟩ = some (.slice A2 n2 c2) := cell_of_row w g 2 _ _ _ h.net
theorem NetB.check (h : NetB W g S E X A A2 n c n2 c2 w) : Calls Tryz.prog 8 #[.agg #[.int .i64 S, .slice A n c, .slice A2 n2 c2]] w (GotEr w (checkN S E X)) :=
  ncheck_any S E X A A2 n c n2 c2 h.ln h.lx h.cn h.cx h.bn h.bx w h.re h.rx
theorem NetB.close (h : NetB W g S E X A A2 n c n2 c2 w) (xs : List Int) (B : Option Addr) (m k : Nat) (hm : xs.length = m) (hm2 : m ≤ 140737488355328) (hr : RdW w B xs) :
    Calls Tryz.prog 14 #[.agg #[.int .i64 S, .slice A n c, .slice A2 n2 c2], .slice B m k] w (GotLE w (askE S E X xs (fun S ys => closeL S E ys))) :=
  close_any S E X xs A A2 B n c n2 c2 m k h.ln h.lx hm h.cn h.cx h.bn h.bx hm2 w h.re h.rx hr
theorem NetB.step (h : NetB W g S E X A A2 n c n2 c2 w) (ch : Nat) (hch : ch < 256) (xs : List Int) (B : Option Addr) (m k : Nat) (hm : xs.length = m) (hm2 : m ≤ 140737488355328) (hr : RdW w B xs) :
    Calls Tryz.prog 16 #[.agg #[.int .i64 S, .slice A n c, .slice A2 n2 c2], .slice B m k, .int .u8 (ch : Int)] w (GotLE w (askE S E X xs (fun S ys => stepL S E ch ys))) :=
  step_any ch hch S E X xs A A2 B n c n2 c2 m k h.ln h.lx hm h.cn h.cx h.bn h.bx hm2 w h.re h.rx hr
theorem NetB.run (h : NetB W g S E X A A2 n c n2 c2 w) (ts : List UInt8) (B : Option Addr) (m k : Nat) (hm : ts.length = m) (hm2 : m ≤ 100000) (hk : k ≤ 9223372036854775807) (hmk : m ≤ k) (hr : Rd w B ts) :
    Calls Tryz.prog 46 #[.agg #[.int .i64 S, .slice A n c, .slice A2 n2 c2], .slice B m k] w (GotRn w (runE S E X ts)) :=
  run_any S E X ts A A2 B n c n2 c2 m k h.ln h.lx hm h.cn h.cx h.bn h.bx (by omega) w h.re h.rx hr
end
theorem ask_good {S : Nat} {E : List Ed} {X : List Int} (h : checkN (S : Int) E X = 0) {l : List Nat} (hl : InN S l) (f : Nat → List Nat → List Nat) : askE (S : Int) E X (zl l) f = (f S l, 0) := by
  have hz : (zl l).all (okSt (S : Int)) = true := by
    rw [List.all_eq_true]
    intro x hx
    unfold zl at hx
    obtain ⟨y, hy, rfl⟩ := List.mem_map.1 hx
    have := hl y hy
    unfold okSt
    simp
    omega
  have hn : natsL (zl l) = l := by
    unfold natsL zl
    rw [List.map_map]
    conv => rhs; rw [← List.map_id l]
    exact List.map_congr_left fun x _ => by simp
  unfold askE
  rw [if_neg (by rw [h]; simp), if_neg (by rw [hz]; simp), hn]
  rfl
theorem cut_t (A : Option Addr) (n c k : Nat) (hk : k ≤ n) (hnc : n ≤ c) (W : World) : (Instr.slice 86 (.slice A n c) none (some (.int .i64 (k : Int))) none).run Tryz.prog W = .ok (.slice A k c) W := by
  obtain ⟨i, hi, _, hs1, _⟩ := info_parts info_u8
  have he : Tryz.prog.elem 86 = 5 := by kernel_rfl
  rw [run_slice_h W 86 A n c (by rw [he]; exact Tryz.underlying86) .i64 k (by omega) (by omega)]
  simp [sizeOf, typeInfo, he, hi, hs1, sliced, Result.andThen]
  intro _
  cases A <;> simp [Addr.add]
theorem min_litN (m k : Nat) (z : Int) (hz : (k : Int) = z) : ∃ j : Nat, Hid (j = min m k) ∧ j ≤ m ∧ j ≤ k ∧ ∀ (ts : Array TypeId) (t : TypeId) (W : World), (Builtin.min_ ts t #[.int .i64 (m : Int), .int .i64 z]).run Tryz.prog W = .ok (.int .i64 (j : Int)) W := by
  subst hz
  refine ⟨min m k, rfl, by omega, by omega, fun ts t W => ?_⟩
  rw [run_min_int2]
  have e : (if (k : Int) < m then (k : Int) else m) = ((min m k : Nat) : Int) := by split <;> omega
  rw [e]
/-- 'l[s:s+1]'. -/
theorem cut_one (A : Option Addr) (n c s : Nat) (l : List Int) (w : World) (hl : l.length = n) (hr : RdW w A l) (hs : s < n) (hnc : n ≤ c) (h : s < l.length) (zt : Int) (et : ((s + 1 : Nat) : Int) = zt) :
    ∃ A', (∀ W : World, (Instr.slice 27 (.slice A n c) (some (.int .i64 (s : Int))) (some (.int .i64 zt)) none).run Tryz.prog W = .ok (.slice A' 1 (c - s)) W) ∧ RdW w A' [l[s]] := by
  subst et
  obtain ⟨i, hi, _, hs1, _⟩ := info_parts info_int
  have he : Tryz.prog.elem 27 = 3 := by kernel_rfl
  obtain ⟨ad, rfl, hc⟩ := hr s h
  refine ⟨some (ad.add s), fun W => ?_, fun k hk => ⟨_, rfl, ?_⟩⟩
  · rw [run_slice_lh W 27 (some ad) n c (by rw [he]; exact Tryz.underlying27) .i64 .i64 s (s + 1 : Nat) (by omega) (by omega) (by omega)]
    simp [sizeOf, typeInfo, he, hi, hs1, sliced, Result.andThen]
    omega
  · have hk0 : k = 0 := by simpa using hk
    subst hk0
    rw [show (ad.add s).add 0 = ad.add s from by cases ad; unfold Addr.add; split <;> simp_all]
    exact hc

end Go.Proofs.YtjibfffefppniaaGreat

/- Bring: a number brought into a range. -/
set_option linter.unusedVariables false
namespace Go.Proofs.YtjibfffefppniaaGreat
open Go.RowKit

end Go.Proofs.YtjibfffefppniaaGreat
