/- The document's words of a block. No condition but that 64 bytes can be read. -/
import Derived.Test.YthpcmceomamadaaShaRt
import Derived.Deep.RegionHeldLaw
import Derived.StillTailTactics
set_option linter.unusedVariables false
set_option linter.unusedSimpArgs false
namespace Go.Proofs.Ythpcmceomamadaa
open Go.RowKit

theorem run_append_word (w : World) (ty : TypeId) (base : Nat) (v : Value) (k : Nat) (f : Nat → BitVec 32) (hown : OwnW w base v k f) (ad : Addr) (c : Nat) (x : BitVec 32) (hn : ∀ (j : Nat) (u : Value), [wv x][j]? = some u → w.cell? (ad.add j) = some u)
    (hk : k ≤ 1000) (hx : f k = x) (hbase : base ≤ w.heap.size) :
    ∃ v' w', (Builtin.append_ #[55, 55] ty #[v, .slice (some ad) 1 c]).run Try.prog w = .ok v' w' ∧ OwnW w' base v' (k + 1) f ∧ w.grownBy w' v.ownBlock := by
  obtain ⟨i, hi, hz, hs, hb⟩ := info_parts info_u32
  obtain ⟨v', w', h1, h2, h3, _⟩ := run_append_own (P := Try.prog) w base 55 ty 22 i (.int .u32 0) 1 4 Try.underlying55 hi hz hs hb rfl (by omega) v k _ hown ad 1 c [wv x] rfl hn (one_word x) (by simp only [maxLen]; omega) (by omega) hbase
  exact ⟨v', w', h1, OwnW.next h2 hx, h3⟩
/-- append of a word, as one step of a region that draws. -/
theorem step_append_word {ops : Array Oper} {o : Oper} {a : Act} {K : Act → World → Prop} {Q : Exit → Act → World → Prop} {E : Prop} (w : World) (hgd : Region.wanted o (yielded ops a.tmps) = true) (s x : Operand)
    (ho : o.op = .call { callee := .builtin .append, args := #[s, x], argTypes := #[55, 55] })
    (base : Nat) (v : Value) (k : Nat) (f : Nat → BitVec 32) (hs : a.eval s = v) (hown : OwnW w base v k f) (ad : Addr) (c : Nat) (y : BitVec 32) (hx : a.eval x = .slice (some ad) 1 c)
    (hn : ∀ (j : Nat) (u : Value), [wv y][j]? = some u → w.cell? (ad.add j) = some u) (hk : k ≤ 1000) (hy : f k = y) (hbase : base ≤ w.heap.size)
    (h : ∀ v' w', OwnW w' base v' (k + 1) f → w.grownBy w' v.ownBlock → K (a.put o.dst v') w') :
    if Region.wanted o (yielded ops a.tmps) = true then Oper.wp Try.prog o a w K Q else E := by
  rw [if_pos hgd]
  obtain ⟨v', w', hr, h2, h3⟩ := run_append_word w o.type base v k f hown ad c y hn hk hy hbase
  unfold Oper.wp execOp
  simp only [ho, resolve, invoke, builtin, Sem.run_bind, Sem.run_pure, Result.andThen_ok, List.map_toArray, List.map_cons, List.map_nil, hs, hx, hr]
  exact h v' w' h2 h3

theorem wrap_shl (z : BitVec 32) (n : Nat) (m : Int) (hm : (2 : Int) ^ n = m) : IntKind.u32.wrap ((z.toNat : Int) * m) = ((z <<< n).toNat : Int) := by
  rw [twice32, hm]
  rw [IntKind.wrap_u32]

theorem wrap_add (a b : BitVec 32) : IntKind.u32.wrap ((a.toNat : Int) + (b.toNat : Int)) = ((a + b).toNat : Int) := by
  rw [add32, IntKind.wrap_u32]

set_option maxHeartbeats 1000000 in
set_option maxRecDepth 100000 in
theorem words_any (ad : Addr) (c : Nat) (l : List UInt8) (w : World) (hl : l.length = 64) (hr : Rd w (some ad) l) (hadl : ad.block < w.heap.size) :
    Calls Try.prog 38 #[.slice (some ad) 64 c] w (GotWs w 64 (schW l)) := by
  have HL := Lib.hid hl
  have HR := Lib.hid hr
  clear hl hr
  go_enter Try.func38, Try.ntmps38
  go_wp2
  go_loopw [3, 4] (fun v i wr => ∃ k : Nat, k ≤ 16 ∧ i = .int .i64 (k : Int) ∧ Hid (OwnW wr w.heap.size v k (schW l)) ∧ Hid (Below w.heap.size w wr)) (fun _ i _ => 16 - (intOf i).toNat)
  case atStart => exact ⟨0, by omega, rfl, OwnW.nil _ _ _, Below.refl _ _⟩
  case round =>
    obtain ⟨k, hk, rfl, HO, HB⟩ := hrel
    obtain ⟨A, ca, rfl, hkc⟩ := HO.out.form
    by_cases hlt : k < 16
    · obtain ⟨t0, h0⟩ : ∃ t, 4 * k = t := ⟨_, rfl⟩
      obtain ⟨t1, h1⟩ : ∃ t, t0 + 1 = t := ⟨_, rfl⟩
      obtain ⟨t2, h2⟩ : ∃ t, t0 + 2 = t := ⟨_, rfl⟩
      obtain ⟨t3, h3⟩ : ∃ t, t0 + 3 = t := ⟨_, rfl⟩
      have hrd := HR.out.below HB.out
      have cell : ∀ t, t < 64 → wr.cell? (ad.add t) = some (.int .u8 (((BitVec.ofNat 32 (l.getD t 0).toNat).toNat : Nat) : Int)) := by
        intro t ht
        have ht' : t < l.length := by have := HL.out; omega
        obtain ⟨ad', e, hc⟩ := hrd.cell ht'
        cases e
        rw [hc, List.getD_eq_getElem?_getD, List.getElem?_eq_getElem ht']
        have := l[t].toNat_lt
        have e2 : (BitVec.ofNat 32 l[t].toNat).toNat = l[t].toNat := by rw [BitVec.toNat_ofNat]; omega
        rw [Option.getD_some, e2]
      have m0 : t0 < 64 := by omega
      have m1 : t1 < 64 := by omega
      have m2 : t2 < 64 := by omega
      have m3 : t3 < 64 := by omega
      have c0 := cell t0 m0
      have c1 := cell t1 m1
      have c2 := cell t2 m2
      have c3 := cell t3 m3
      have hacc : schW l k = acc4 l t0 4 := by rw [← h0]; exact schW_low l k hlt
      have hacc2 : schW l k = ((BitVec.ofNat 32 (l.getD t0 0).toNat <<< 24 ||| BitVec.ofNat 32 (l.getD t1 0).toNat <<< 16) ||| BitVec.ofNat 32 (l.getD t2 0).toNat <<< 8) ||| BitVec.ofNat 32 (l.getD t3 0).toNat := by
        rw [hacc, ← h1, ← h2, ← h3]
        simp only [acc4, Nat.add_zero, BitVec.shiftLeft_or_distrib, BitVec.zero_or, BitVec.zero_shiftLeft, ← BitVec.shiftLeft_add]
        simp [BitVec.or_assoc]
      have z0lt : (BitVec.ofNat 32 (l.getD t0 0).toNat).toNat < 256 := by have := (l.getD t0 0).toNat_lt; rw [BitVec.toNat_ofNat]; omega
      have z1lt : (BitVec.ofNat 32 (l.getD t1 0).toNat).toNat < 256 := by have := (l.getD t1 0).toNat_lt; rw [BitVec.toNat_ofNat]; omega
      have z2lt : (BitVec.ofNat 32 (l.getD t2 0).toNat).toNat < 256 := by have := (l.getD t2 0).toNat_lt; rw [BitVec.toNat_ofNat]; omega
      have z3lt : (BitVec.ofNat 32 (l.getD t3 0).toNat).toNat < 256 := by have := (l.getD t3 0).toNat_lt; rw [BitVec.toNat_ofNat]; omega
      generalize BitVec.ofNat 32 (l.getD t0 0).toNat = z0 at *
      generalize BitVec.ofNat 32 (l.getD t1 0).toNat = z1 at *
      generalize BitVec.ofNat 32 (l.getD t2 0).toNat = z2 at *
      generalize BitVec.ofNat 32 (l.getD t3 0).toNat = z3 at *
      have HA := Lib.hid hacc2
      have e0 : 4 * (k : Int) = (t0 : Int) := by omega
      have e1 : (t0 : Int) + 1 = (t1 : Int) := by omega
      have e2 : (t0 : Int) + 2 = (t2 : Int) := by omega
      have e3 : (t0 : Int) + 3 = (t3 : Int) := by omega
      have w0 : IntKind.i64.wrap (t0 : Int) = (t0 : Int) := IntWalk.i64_in _ (by omega)
      have w1 : IntKind.i64.wrap (t1 : Int) = (t1 : Int) := IntWalk.i64_in _ (by omega)
      have w2 : IntKind.i64.wrap (t2 : Int) = (t2 : Int) := IntWalk.i64_in _ (by omega)
      have w3 : IntKind.i64.wrap (t3 : Int) = (t3 : Int) := IntWalk.i64_in _ (by omega)
      have m0' : (t0 : Int) < 64 := by omega
      have m1' : (t1 : Int) < 64 := by omega
      have m2' : (t2 : Int) < 64 := by omega
      have m3' : (t3 : Int) < 64 := by omega
      clear cell hrd hacc hacc2 h0 h1 h2 h3
      have f0 : IntKind.u32.wrap (z0.toNat : Int) = (z0.toNat : Int) := IntWalk.u32_in _ (by omega)
      have f1 : IntKind.u32.wrap (z1.toNat : Int) = (z1.toNat : Int) := IntWalk.u32_in _ (by omega)
      have f2 : IntKind.u32.wrap (z2.toNat : Int) = (z2.toNat : Int) := IntWalk.u32_in _ (by omega)
      have f3 : IntKind.u32.wrap (z3.toNat : Int) = (z3.toNat : Int) := IntWalk.u32_in _ (by omega)
      have g0 := wrap_shl z0 24 16777216 (by decide)
      have g1 := wrap_shl z1 16 65536 (by decide)
      have g2 := wrap_shl z2 8 256 (by decide)
      have o1 := or32 (z0 <<< 24) (z1 <<< 16)
      have o2 := or32 (z0 <<< 24 ||| z1 <<< 16) (z2 <<< 8)
      have o3 := or32 (z0 <<< 24 ||| z1 <<< 16 ||| z2 <<< 8) z3
      rw [← HA.out] at o3
      generalize z0 <<< 24 ||| z1 <<< 16 ||| z2 <<< 8 = y3 at *
      generalize z0 <<< 24 ||| z1 <<< 16 = y2 at *
      generalize z0 <<< 24 = y0 at *
      generalize z1 <<< 16 = y1 at *
      generalize z2 <<< 8 = y4 at *
      obtain ⟨x, hx⟩ : ∃ x, schW l k = x := ⟨_, rfl⟩
      rw [hx] at o3
      have HX := Lib.hid hx
      clear hx HA
      have HD := Lib.hid (bl_alloc (Below.drew (Below.refl wr.heap.size wr)) (.cells #[.int .u32 (x.toNat : Int)] 22))
      have HO2 := Lib.hid (HO.out.below HD.out)
      have HLit := Lib.hid (lit_word wr.drew x)
      have hsz : w.heap.size ≤ wr.heap.size := HB.out.size
      have HS : Hid (w.heap.size ≤ (wr.drew.alloc (.cells #[.int .u32 (x.toNat : Int)] 22)).heap.size) := by show _ ≤ _; simp; omega
      clear hsz
      go_wp2
      have hadlt : ad.block < w.heap.size := hadl
      have hwr : w.heap.size ≤ wr.heap.size := HB.out.size
      have x0 : wr.drew.cell? (ad.add t0) = some (.int .u8 (z0.toNat : Int)) := c0
      have x1 : wr.drew.cell? (ad.add t1) = some (.int .u8 (z1.toNat : Int)) := c1
      have x2 : wr.drew.cell? (ad.add t2) = some (.int .u8 (z2.toNat : Int)) := c2
      have x3 : wr.drew.cell? (ad.add t3) = some (.int .u8 (z3.toNat : Int)) := c3
      have hfar : ∀ t, (ad.add t).block < wr.drew.heap.size := fun t => by rw [add_block]; show ad.block < wr.heap.size; omega
      have y0 := (World.cell?_alloc_lt wr.drew (.cells #[.int .u32 (x.toNat : Int)] 22) (ad.add t0) (hfar t0)).trans x0
      have y1' := (World.cell?_alloc_lt wr.drew (.cells #[.int .u32 (x.toNat : Int)] 22) (ad.add t1) (hfar t1)).trans x1
      have y2' := (World.cell?_alloc_lt wr.drew (.cells #[.int .u32 (x.toNat : Int)] 22) (ad.add t2) (hfar t2)).trans x2
      have y3' := (World.cell?_alloc_lt wr.drew (.cells #[.int .u32 (x.toNat : Int)] 22) (ad.add t3) (hfar t3)).trans x3
      have hkeep : ∀ (v : Value) (w4 : World), (wr.drew.alloc (.cells #[.int .u32 (x.toNat : Int)] 22)).grownBy w4 (Value.slice A k ca).ownBlock →
          w4.cell? (ad.add t0) = some (.int .u8 (z0.toNat : Int)) ∧ w4.cell? (ad.add t1) = some (.int .u8 (z1.toNat : Int)) ∧ w4.cell? (ad.add t2) = some (.int .u8 (z2.toNat : Int)) ∧ w4.cell? (ad.add t3) = some (.int .u8 (z3.toNat : Int)) := by
        intro v w4 hg
        have far : ∀ t, w4.cell? (ad.add t) = (wr.drew.alloc (.cells #[.int .u32 (x.toNat : Int)] 22)).cell? (ad.add t) := fun t =>
          hg.cell_far (ad.add t) (by have := hfar t; simp at this ⊢; omega) (fun e => by have h := (HO.out.lt _ e.symm).1; rw [add_block] at h; omega)
        exact ⟨(far t0).trans y0, (far t1).trans y1', (far t2).trans y2', (far t3).trans y3'⟩
      have HKp := Lib.hid hkeep
      clear hkeep hfar c0 c1 c2 c3
      go_region_held_law (fun w' => w'.cell? (ad.add t0) = some (.int .u8 (z0.toNat : Int)) ∧ w'.cell? (ad.add t1) = some (.int .u8 (z1.toNat : Int)) ∧ w'.cell? (ad.add t2) = some (.int .u8 (z2.toNat : Int)) ∧ w'.cell? (ad.add t3) = some (.int .u8 (z3.toNat : Int)))
        (first | (refine ⟨?_, ?_, ?_, ?_⟩ <;> assumption) | go_keep)
        ((refine step_append_word _ (by rfl) _ _ (by rfl) w.heap.size _ k (schW l) (by rfl) HO2.out ⟨wr.heap.size, 0, none⟩ 1 x (by rfl) HLit.out (by omega) HX.out HS.out ?_; intro v3 w4 ho3 hg3; obtain ⟨q0, q1, q2, q3⟩ := HKp.out v3 w4 hg3))
      all_goals
        clear e0 e1 e2 e3 w0 w1 w2 w3 f0 f1 f2 f3 g0 g1 g2 o1 o2 o3 q0 q1 q2 q3 x0 x1 x2 x3 y0 y1' y2' y3'
        go_wp2
        exact ⟨⟨k + 1, by omega, by go_num, ho3, Lib.hid (bl_grown (bl_trans HB.out HD.out) hg3 (fun j hj => (HO.out.lt j hj).1))⟩, by simp [intOf]; omega⟩
    · obtain rfl : k = 16 := by omega
      go_wp2
      go_loopw [3, 5] (fun v i wr => ∃ k : Nat, 16 ≤ k ∧ k ≤ 64 ∧ i = .int .i64 (k : Int) ∧ Hid (OwnW wr w.heap.size v k (schW l)) ∧ Hid (Below w.heap.size w wr)) (fun _ i _ => 64 - (intOf i).toNat)
      case atStart => exact ⟨16, by omega, by omega, rfl, HO, HB⟩
      case round =>
        clear HO HB hkc
        obtain ⟨k, hk1, hk2, rfl, HO, HB⟩ := hrel
        obtain ⟨g, cg, rfl, hg, hgc, hrw⟩ := HO.out.words (by omega)
        by_cases hlt : k < 64
        · obtain ⟨p15, hp15⟩ : ∃ q, k = q + 15 := ⟨k - 15, by omega⟩
          obtain ⟨p2, hp2⟩ : ∃ q, k = q + 2 := ⟨k - 2, by omega⟩
          obtain ⟨p16, hp16⟩ : ∃ q, k = q + 16 := ⟨k - 16, by omega⟩
          obtain ⟨p7, hp7⟩ : ∃ q, k = q + 7 := ⟨k - 7, by omega⟩
          have hn := schW_at l hk1 hp15 hp2 hp16 hp7
          have k15 : p15 < k := by omega
          have k2 : p2 < k := by omega
          have k16 : p16 < k := by omega
          have k7 : p7 < k := by omega
          have c15 := hrw.2 p15 k15
          have c2 := hrw.2 p2 k2
          have e15 : IntKind.i64.wrap ((k : Int) - 15) = (p15 : Int) := sub_in hk2 hp15
          have e2 : IntKind.i64.wrap ((k : Int) - 2) = (p2 : Int) := sub_in hk2 hp2
          have e16 : IntKind.i64.wrap ((k : Int) - 16) = (p16 : Int) := sub_in hk2 hp16
          have e7 : IntKind.i64.wrap ((k : Int) - 7) = (p7 : Int) := sub_in hk2 hp7
          have s0 := sm0_of (schW l p15)
          have s1 := sm1_of (schW l p2)
          obtain ⟨x, hx⟩ : ∃ x, schW l k = x := ⟨_, rfl⟩
          rw [hx] at hn
          have HN := Lib.hid hn
          have HX := Lib.hid hx
          have HRW := Lib.hid hrw
          clear hn hx hrw hp15 hp2 hp16 hp7
          generalize schW l p15 = y15 at *
          generalize schW l p2 = y2 at *
          go_wp2
          go_quiet (fail)
          have HRq := Lib.hid (HRW.out.below (bl_drewN (Below.refl _ _) nq))
          have HOq := Lib.hid (HO.out.below (bl_drewN (Below.refl _ _) nq))
          have HBq := Lib.hid (bl_drewN HB.out nq)
          clear c15 c2 HRW HO HB
          generalize wr.drewN nq = wq at *
          have T7 := Lib.hid (fun W => (show Calls Try.prog 57 #[.int .u32 (y15.toNat : Int), .int .i64 7] W (Quiet32 W (rr y15 7)) from refTurn_any y15 7 W (by omega) (by omega)))
          have T18 := Lib.hid (fun W => (show Calls Try.prog 57 #[.int .u32 (y15.toNat : Int), .int .i64 18] W (Quiet32 W (rr y15 18)) from refTurn_any y15 18 W (by omega) (by omega)))
          have T17 := Lib.hid (fun W => (show Calls Try.prog 57 #[.int .u32 (y2.toNat : Int), .int .i64 17] W (Quiet32 W (rr y2 17)) from refTurn_any y2 17 W (by omega) (by omega)))
          have T19 := Lib.hid (fun W => (show Calls Try.prog 57 #[.int .u32 (y2.toNat : Int), .int .i64 19] W (Quiet32 W (rr y2 19)) from refTurn_any y2 19 W (by omega) (by omega)))
          go_wp2_with fail
          (with_reducible refine (T7.out _).mono ?_)
          rintro e u1 ⟨rfl, n1, rfl⟩
          go_wp2_with fail
          (with_reducible refine (T18.out _).mono ?_)
          rintro e u1 ⟨rfl, n2, rfl⟩
          go_wp2_with fail
          (with_reducible refine (T17.out _).mono ?_)
          rintro e u1 ⟨rfl, n3, rfl⟩
          go_wp2_with fail
          (with_reducible refine (T19.out _).mono ?_)
          rintro e u1 ⟨rfl, n4, rfl⟩
          go_wp2_with fail
          have HB5 := Lib.hid (bl_drewN (Below.refl wq.heap.size wq) (n1 + n2 + n3 + n4))
          generalize wq.drewN (n1 + n2 + n3 + n4) = wt at *
          have HRt := Lib.hid (HRq.out.below HB5.out)
          have HOt := Lib.hid (HOq.out.below HB5.out)
          have HBt := Lib.hid (bl_trans HBq.out HB5.out)
          have c16 := HRt.out.2 p16 k16
          have c7 := HRt.out.2 p7 k7
          clear HRq HOq HBq HB5 T7 T18 T17 T19
          generalize schW l p16 = y16 at *
          generalize schW l p7 = y7 at *
          have a1 := wrap_add y16 (sm0 y15)
          have a2 := wrap_add (y16 + sm0 y15) y7
          have a3 := wrap_add (y16 + sm0 y15 + y7) (sm1 y2)
          rw [← HN.out] at a3
          generalize y16 + sm0 y15 + y7 = r2 at *
          generalize y16 + sm0 y15 = r1 at *
          generalize sm0 y15 = r3 at *
          generalize sm1 y2 = r4 at *
          have HD := Lib.hid (bl_alloc (Below.drew (Below.refl wt.heap.size wt)) (.cells #[.int .u32 (x.toNat : Int)] 22))
          have HO2 := Lib.hid (HOt.out.below HD.out)
          have HLit := Lib.hid (lit_word wt.drew x)
          have hsz : w.heap.size ≤ wt.heap.size := HBt.out.size
          have HS : Hid (w.heap.size ≤ (wt.drew.alloc (.cells #[.int .u32 (x.toNat : Int)] 22)).heap.size) := by show _ ≤ _; simp; omega
          have gl := HRt.out.1
          have x0 : wt.drew.cell? ⟨g, p16, none⟩ = some (.int .u32 (y16.toNat : Int)) := c16
          have x1 : wt.drew.cell? ⟨g, p7, none⟩ = some (.int .u32 (y7.toNat : Int)) := c7
          have y0 := (World.cell?_alloc_lt wt.drew (.cells #[.int .u32 (x.toNat : Int)] 22) ⟨g, p16, none⟩ gl).trans x0
          have y1 := (World.cell?_alloc_lt wt.drew (.cells #[.int .u32 (x.toNat : Int)] 22) ⟨g, p7, none⟩ gl).trans x1
          clear c16 c7 hsz gl
          go_region_law ((refine step_append_word _ (by rfl) _ _ (by rfl) w.heap.size _ k (schW l) (by rfl) HO2.out ⟨wt.heap.size, 0, none⟩ 1 x (by rfl) HLit.out (by omega) HX.out HS.out ?_; intro v3 w4 ho3 hg3))
          all_goals
            clear e15 e2 e16 e7 s0 s1 a1 a2 a3 x0 x1 y0 y1
            go_wp2
            go_roundw
            case rel =>
              repeat apply Exists.intro
              refine ⟨?_, rfl⟩
              exact ⟨k + 1, by omega, by omega, by go_num, ho3, Lib.hid (bl_grown (bl_trans HBt.out HD.out) hg3 (fun j hj => (HOt.out.lt j hj).1))⟩
            all_goals (simp [intOf]; omega)
        · obtain rfl : k = 64 := by omega
          have HRW := Lib.hid hrw
          clear hrw
          go_wp2
          go_ret
          exact ⟨g, cg, rfl, hg, hgc, HRW.out, HB.out⟩

end Go.Proofs.Ythpcmceomamadaa
