/- What the laws on nets share: a net in a box, cuts, Bring, few. -/
import Derived.Test.YtjibfffefppniaaNfRowM
import Derived.Test.YtjibfffefppniaaNfTkM
import Derived.StillTailTactics
set_option linter.unusedVariables false
set_option linter.unusedSimpArgs false
namespace Go.Proofs.Ytjibfffefppniaa
open Go.RowKit
attribute [local go_sem] Oper.semAt_some

/-- A net in a box, while a law goes on. -/
structure NetB (W : World) (g : Nat) (S : Int) (E : List Ed) (X : List Int) (A A2 : Option Addr) (n c n2 c2 : Nat) (w : World) : Prop where
  net : w.heap[g]? = some (.cells #[.int .i64 S, .slice A n c, .slice A2 n2 c2] 25 (0, 0))
  re : RdE w A E
  rx : RdW w A2 X
  low : Below W.heap.size W w
  ln : E.length = n
  lx : X.length = n2
  cn : n ≤ c
  cx : n2 ≤ c2
  bn : n ≤ 140737488355328
  bx : n2 ≤ 140737488355328
section
variable {W : World} {g : Nat} {S : Int} {E : List Ed} {X : List Int} {A A2 : Option Addr} {n c n2 c2 : Nat} {w w' : World}
theorem NetB.then (h : NetB W g S E X A A2 n c n2 c2 w) (hb : Below w.heap.size w w') : NetB W g S E X A A2 n c n2 c2 w' :=
  ⟨(hb.block _ (Array.getElem?_eq_some_iff.1 h.net).1).trans h.net, h.re.below hb, h.rx.below hb, bl_trans h.low hb, h.ln, h.lx, h.cn, h.cx, h.bn, h.bx⟩
theorem NetB.load (h : NetB W g S E X A A2 n c n2 c2 w) : ∀ t u, [Value.int .i64 S, .slice A n c, .slice A2 n2 c2][t]? = some u → w.cell? ((⟨g, 0, none⟩ : Addr).add t) = some u := load_net w h.net
theorem NetB.q0 (h : NetB W g S E X A A2 n c n2 c2 w) : w.cell? ⟨g, 0, none⟩ = some (.int .i64 S) := cell_of_row w g 0 _ _ _ h.net
theorem NetB.q1 (h : NetB W g S E X A A2 n c n2 c2 w) : w.cell? ⟨g, 1, none⟩ = some (.slice A n c) := cell_of_row w g 1 _ _ _ h.net
theorem NetB.q2 (h : NetB W g S E X A A2 n c n2 c2 w) : w.cell? ⟨g, 2, none⟩ = some (.slice A2 n2 c2) := cell_of_row w g 2 _ _ _ h.net
theorem NetB.check (h : NetB W g S E X A A2 n c n2 c2 w) : Calls Try.prog 10 #[.agg #[.int .i64 S, .slice A n c, .slice A2 n2 c2]] w (GotEr w (checkN S E X)) :=
  ncheck_any S E X A A2 n c n2 c2 h.ln h.lx h.cn h.cx h.bn h.bx w h.re h.rx
theorem NetB.close (h : NetB W g S E X A A2 n c n2 c2 w) (xs : List Int) (B : Option Addr) (m k : Nat) (hm : xs.length = m) (hm2 : m ≤ 140737488355328) (hr : RdW w B xs) :
    Calls Try.prog 12 #[.agg #[.int .i64 S, .slice A n c, .slice A2 n2 c2], .slice B m k] w (GotLE w (askE S E X xs (fun S ys => closeL S E ys))) :=
  close_any S E X xs A A2 B n c n2 c2 m k h.ln h.lx hm h.cn h.cx h.bn h.bx hm2 w h.re h.rx hr
theorem NetB.step (h : NetB W g S E X A A2 n c n2 c2 w) (ch : Nat) (hch : ch < 256) (xs : List Int) (B : Option Addr) (m k : Nat) (hm : xs.length = m) (hm2 : m ≤ 140737488355328) (hr : RdW w B xs) :
    Calls Try.prog 16 #[.agg #[.int .i64 S, .slice A n c, .slice A2 n2 c2], .slice B m k, .int .u8 (ch : Int)] w (GotLE w (askE S E X xs (fun S ys => stepL S E ch ys))) :=
  step_any ch hch S E X xs A A2 B n c n2 c2 m k h.ln h.lx hm h.cn h.cx h.bn h.bx hm2 w h.re h.rx hr
theorem NetB.run (h : NetB W g S E X A A2 n c n2 c2 w) (ts : List UInt8) (B : Option Addr) (m k : Nat) (hm : ts.length = m) (hm2 : m ≤ 100000) (hk : k ≤ 9223372036854775807) (hmk : m ≤ k) (hr : Rd w B ts) :
    Calls Try.prog 7 #[.agg #[.int .i64 S, .slice A n c, .slice A2 n2 c2], .slice B m k] w (GotRn w (runE S E X ts)) :=
  run_any S E X ts A A2 B n c n2 c2 m k h.ln h.lx hm h.cn h.cx h.bn h.bx (by omega) w h.re h.rx hr
end
theorem ask_good {S : Nat} {E : List Ed} {X : List Int} (h : checkN (S : Int) E X = 0) {l : List Nat} (hl : InN S l) (f : Nat → List Nat → List Nat) : askE (S : Int) E X (zl l) f = (f S l, 0) := by
  have hz : (zl l).all (okSt (S : Int)) = true := by
    rw [List.all_eq_true]
    intro x hx
    unfold zl at hx
    obtain ⟨y, hy, rfl⟩ := List.mem_map.1 hx
    have := hl y hy
    unfold okSt
    simp
    omega
  have hn : natsL (zl l) = l := by
    unfold natsL zl
    rw [List.map_map]
    conv => rhs; rw [← List.map_id l]
    exact List.map_congr_left fun x _ => by simp
  unfold askE
  rw [if_neg (by rw [h]; simp), if_neg (by rw [hz]; simp), hn]
  rfl
theorem cut_t (A : Option Addr) (n c k : Nat) (hk : k ≤ n) (hnc : n ≤ c) (W : World) : (Instr.slice 26 (.slice A n c) none (some (.int .i64 (k : Int))) none).run Try.prog W = .ok (.slice A k c) W := by
  obtain ⟨i, hi, _, hs1, _⟩ := info_parts info_u8
  have he : Try.prog.elem 26 = 5 := by kernel_rfl
  rw [run_slice_h W 26 A n c (by rw [he]; exact Try.underlying26) .i64 k (by omega) (by omega)]
  simp [sizeOf, typeInfo, he, hi, hs1, sliced, Result.andThen]
  intro _
  cases A <;> simp [Addr.add]
theorem min_litN (m k : Nat) (z : Int) (hz : (k : Int) = z) : ∃ j : Nat, Hid (j = min m k) ∧ j ≤ m ∧ j ≤ k ∧ ∀ (ts : Array TypeId) (t : TypeId) (W : World), (Builtin.min_ ts t #[.int .i64 (m : Int), .int .i64 z]).run Try.prog W = .ok (.int .i64 (j : Int)) W := by
  subst hz
  refine ⟨min m k, rfl, by omega, by omega, fun ts t W => ?_⟩
  rw [run_min_int2]
  have e : (if (k : Int) < m then (k : Int) else m) = ((min m k : Nat) : Int) := by split <;> omega
  rw [e]
/-- 'l[s:s+1]'. -/
theorem cut_one (A : Option Addr) (n c s : Nat) (l : List Int) (w : World) (hl : l.length = n) (hr : RdW w A l) (hs : s < n) (hnc : n ≤ c) (h : s < l.length) (zt : Int) (et : ((s + 1 : Nat) : Int) = zt) :
    ∃ A', (∀ W : World, (Instr.slice 23 (.slice A n c) (some (.int .i64 (s : Int))) (some (.int .i64 zt)) none).run Try.prog W = .ok (.slice A' 1 (c - s)) W) ∧ RdW w A' [l[s]] := by
  subst et
  obtain ⟨i, hi, _, hs1, _⟩ := info_parts info_int
  have he : Try.prog.elem 23 = 3 := by kernel_rfl
  obtain ⟨ad, rfl, hc⟩ := hr s h
  refine ⟨some (ad.add s), fun W => ?_, fun k hk => ⟨_, rfl, ?_⟩⟩
  · rw [run_slice_lh W 23 (some ad) n c (by rw [he]; exact Try.underlying23) .i64 .i64 s (s + 1 : Nat) (by omega) (by omega) (by omega)]
    simp [sizeOf, typeInfo, he, hi, hs1, sliced, Result.andThen]
    omega
  · have hk0 : k = 0 := by simpa using hk
    subst hk0
    rw [show (ad.add s).add 0 = ad.add s from by cases ad; unfold Addr.add; split <;> simp_all]
    exact hc

end Go.Proofs.Ytjibfffefppniaa

/- Bring: a number brought into a range. -/
set_option linter.unusedVariables false
namespace Go.Proofs.Ytjibfffefppniaa
open Go.RowKit

set_option maxHeartbeats 1000000 in
set_option maxRecDepth 20000 in
theorem bring_any (i : Int) (n : Nat) (w : World) (h1 : -9223372036854775808 ≤ i) (h2 : i ≤ 9223372036854775807) (hn : 0 < n) (hn2 : n ≤ 9223372036854775807) :
    Calls Try.prog 11 #[.int .i64 i, .int .i64 n] w fun e w' => e = .returned (.int .i64 (i % n)) ∧ w = w' := by
  by_cases hi : 0 ≤ i
  · have hm0 : 0 ≤ i % (n : Int) := Int.emod_nonneg _ (by omega)
    go_enter Try.func11, Try.ntmps11
    go_wp2_with fail
    go_ret
    exact ⟨rfl, rfl⟩
  · have hneg : i.tmod n = -((-i) % (n : Int)) := by
      have e := Int.neg_tmod (a := -i) (b := (n : Int))
      rw [Int.neg_neg] at e
      rw [e, Int.tmod_eq_emod_of_nonneg (a := -i) (by omega)]
    have g1 : 0 ≤ (-i) % (n : Int) := Int.emod_nonneg _ (by omega)
    have g2 : (-i) % (n : Int) < n := Int.emod_lt_of_pos _ (by omega)
    have g3 : i % (n : Int) = if (-i) % (n : Int) = 0 then 0 else n - (-i) % (n : Int) := by
      have d := Int.mul_ediv_add_emod (-i) n
      generalize (-i) % (n : Int) = r at *
      generalize (-i) / (n : Int) = q at *
      by_cases hr : r = 0
      · rw [if_pos hr]
        have e : i = (n : Int) * (-q) := by rw [Int.mul_neg]; omega
        rw [e, Int.mul_emod_right]
      · rw [if_neg hr]
        have e : i = (n - r) + (n : Int) * (-q - 1) := by rw [Int.mul_sub, Int.mul_neg, Int.mul_one]; omega
        rw [e, Int.add_mul_emod_self_left]
        exact Int.emod_eq_of_lt (by omega) (by omega)
    have HN := Lib.hid hneg
    have H3 := Lib.hid g3
    clear hneg g3
    by_cases hz : (-i) % (n : Int) = 0
    · have b1 : decide (i.tmod n < 0) = false := by rw [HN.out]; simp; omega
      have HZ := Lib.hid hz
      clear hz
      go_enter Try.func11, Try.ntmps11
      go_wp2_with fail
      go_ret
      refine ⟨?_, rfl⟩
      rw [H3.out, if_pos HZ.out]
      show Ending.returned (Value.int IntKind.i64 (i.tmod n)) = _
      rw [HN.out, HZ.out]; rfl
    · have b1 : decide (i.tmod n < 0) = true := by rw [HN.out]; simp; omega
      have b2 : i.tmod n < 0 := by rw [HN.out]; omega
      have b3 : -(n : Int) < i.tmod n := by rw [HN.out]; omega
      go_enter Try.func11, Try.ntmps11
      go_wp2_with fail
      go_ret
      refine ⟨?_, rfl⟩
      rw [H3.out, if_neg hz]
      show Ending.returned (Value.int IntKind.i64 (i.tmod n + n)) = _
      rw [HN.out]
      congr 2
      omega

/-- 'Bring', the place under a name. -/
theorem bring_nat (i : Int) (n : Nat) (h1 : -9223372036854775808 ≤ i) (h2 : i ≤ 9223372036854775807) (hn : 0 < n) (hn2 : n ≤ 9223372036854775807) :
    ∃ j : Nat, j < n ∧ Hid ((j : Int) = i % n) ∧ Hid (∀ w : World, Calls Try.prog 11 #[.int .i64 i, .int .i64 n] w fun e w' => e = .returned (.int .i64 (j : Int)) ∧ w = w') := by
  have g1 : 0 ≤ i % (n : Int) := Int.emod_nonneg _ (by omega)
  have g2 : i % (n : Int) < n := Int.emod_lt_of_pos _ (by omega)
  refine ⟨(i % (n : Int)).toNat, by omega, Int.toNat_of_nonneg g1, fun w => ?_⟩
  rw [Int.toNat_of_nonneg g1]
  exact bring_any i n w h1 h2 hn hn2


end Go.Proofs.Ytjibfffefppniaa
