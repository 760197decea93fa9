/- The document's copies of nets and numbers; two nets compared; marks as numbers and numbers as marks. -/
import Derived.Test.YtjibfffefppniaaGreatRfHM
import Derived.Laws.StructEq
set_option linter.unusedVariables false
set_option linter.unusedSimpArgs false
namespace Go.Proofs.YtjibfffefppniaaGreat
open Go.RowKit
attribute [local go_sem] Oper.semAt_some

set_option maxRecDepth 20000 in
theorem equal_words9 (xs ys : List (BitVec 64)) (hx : xs.length = 4) (hy : ys.length = 4) (w : World) : (Op.equalIn 9999 37 (.agg (xs.map dv).toArray) (.agg (ys.map dv).toArray)).run Tryz.prog w = .ok (xs == ys) w := by
  have ht := Tryz.underlying37
  have he := Tryz.underlying35
  have hsz : ∀ w, (sizeOf 35).run Tryz.prog w = .ok 1 w := fun w => by kernel_rfl
  rw [← all_range_eq64 xs ys (hx.trans hy.symm), hx, List.range_eq_range', Op.equalIn]
  simp only [Sem.run_bind, run_underlying ht, Result.andThen_ok, hsz, Std.Legacy.Range.forIn_eq_forIn_range', Std.Legacy.Range.size, Nat.sub_zero, Nat.add_sub_cancel, Nat.div_one]
  have hl : ∀ i ∈ List.range' 0 4 1, i < 4 := fun i hi => by simpa using (List.mem_range'_1.1 hi).2
  generalize List.range' 0 4 1 = l at hl ⊢
  induction l with
  | nil => simp
  | cons i l ih =>
    have hi : i < 4 := hl i (by simp)
    have px : (part 35 (xs.map dv).toArray (i * 1)).run Tryz.prog w = .ok (dv (xs.getD i 0)) w := by
      simp [part, isAgg, run_underlying he, List.getD, List.getElem?_eq_getElem (show i < xs.length by omega)]
    have py : (part 35 (ys.map dv).toArray (i * 1)).run Tryz.prog w = .ok (dv (ys.getD i 0)) w := by
      simp [part, isAgg, run_underlying he, List.getD, List.getElem?_eq_getElem (show i < ys.length by omega)]
    have pe : (Op.equalIn 9998 35 (dv (xs.getD i 0)) (dv (ys.getD i 0))).run Tryz.prog w = .ok (xs.getD i 0 == ys.getD i 0) w := by
      rw [dv, dv, run_equalIn_int w 9997 35 .u64 .u64 _ _ he]
      congr 1
      rw [Bool.eq_iff_iff]
      simp [← BitVec.toNat_inj]
      omega
    simp only [List.forIn_cons, Sem.run_bind, px, py, pe, Result.andThen_ok, List.all_cons]
    cases hb : (xs.getD i 0 == ys.getD i 0)
    · simp
    · simp only [Bool.not_true, Bool.false_eq_true, if_false, Sem.run_pure, Result.andThen_ok, Bool.true_and]
      exact ih fun j hj => hl j (by simp [hj])
theorem eq_set9 (s t : S4) (w : World) : (Op.equalIn 9999 37 (.agg #[dv s.w0, dv s.w1, dv s.w2, dv s.w3]) (.agg #[dv t.w0, dv t.w1, dv t.w2, dv t.w3])).run Tryz.prog w = .ok (decide (s = t)) w := by
  have := equal_words9 [s.w0, s.w1, s.w2, s.w3] [t.w0, t.w1, t.w2, t.w3] rfl rfl w
  rw [show (decide (s = t)) = ([s.w0, s.w1, s.w2, s.w3] == [t.w0, t.w1, t.w2, t.w3]) from ?_]
  · exact this
  · obtain ⟨a, b, c, d⟩ := s
    obtain ⟨e, f, g, h⟩ := t
    rw [Bool.eq_iff_iff]
    simp
theorem fields_step {d : Nat} {xs ys : Array Value} {f : Field} {fs : List Field} {x y : Value} {r : Bool} {w : World} (hn : (f.name == "_") = false) (hx : (part f.type xs f.offset).run Tryz.prog w = .ok x w) (hy : (part f.type ys f.offset).run Tryz.prog w = .ok y w) (he : (Op.equalIn d f.type x y).run Tryz.prog w = .ok r w) :
    (Op.eqFields d xs ys (f :: fs)).run Tryz.prog w = if r = true then (Op.eqFields d xs ys fs).run Tryz.prog w else .ok false w := by
  have hn' : f.name ≠ "_" := by simpa using hn
  rw [Op.eqFields, if_pos hn']
  simp only [Sem.run_bind, hx, hy, he, Result.andThen_ok]
  cases r <;> simp

def edV (e : Ed) : Value := .agg #[.int .i64 e.fr, .int .i64 e.to, .int .u64 (e.set.w0.toNat : Int), .int .u64 (e.set.w1.toNat : Int), .int .u64 (e.set.w2.toNat : Int), .int .u64 (e.set.w3.toNat : Int), .bool e.free]
set_option maxRecDepth 20000 in
theorem eq_edge (x : Ed) (w : World) : (Op.equalIn 10000 39 (edV x) (edV x)).run Tryz.prog w = .ok true w := by
  obtain ⟨a, b, s, f⟩ := x
  unfold edV
  rw [run_equalIn_struct w 9999 39 _ _ (by kernel_rfl) (by kernel_rfl)]
  have hi := Tryz.underlying3
  have hbo := Tryz.underlying4
  have hf : (Tryz.prog.fieldsOf 39).toList.map (fun f => (f.name == "_", f.type, f.offset)) = [(false, 3, 0), (false, 3, 1), (false, 37, 2), (false, 4, 6)] := by kernel_rfl
  generalize (Tryz.prog.fieldsOf 39).toList = fs at hf
  obtain ⟨f0, fs, rfl, g0, hf⟩ := List.map_eq_cons_iff.1 hf
  obtain ⟨f1, fs, rfl, g1, hf⟩ := List.map_eq_cons_iff.1 hf
  obtain ⟨f2, fs, rfl, g2, hf⟩ := List.map_eq_cons_iff.1 hf
  obtain ⟨f3, fs, rfl, g3, hf⟩ := List.map_eq_cons_iff.1 hf
  obtain rfl := List.map_eq_nil_iff.1 hf
  simp only [Prod.mk.injEq] at g0 g1 g2 g3
  obtain ⟨n0, t0, o0⟩ := g0
  obtain ⟨n1, t1, o1⟩ := g1
  obtain ⟨n2, t2, o2⟩ := g2
  obtain ⟨n3, t3, o3⟩ := g3
  dsimp only
  rw [fields_step n0 (x := .int .i64 a) (y := .int .i64 a) (r := a == a) (by rw [t0, o0]; kernel_rfl) (by rw [t0, o0]; kernel_rfl) (by rw [t0]; exact run_equalIn_int w 9998 3 .i64 .i64 _ _ hi),
    fields_step n1 (x := .int .i64 b) (y := .int .i64 b) (r := b == b) (by rw [t1, o1]; kernel_rfl) (by rw [t1, o1]; kernel_rfl) (by rw [t1]; exact run_equalIn_int w 9998 3 .i64 .i64 _ _ hi),
    fields_step n2 (x := .agg #[dv s.w0, dv s.w1, dv s.w2, dv s.w3]) (y := .agg #[dv s.w0, dv s.w1, dv s.w2, dv s.w3]) (r := decide (s = s)) (by rw [t2, o2]; kernel_rfl) (by rw [t2, o2]; kernel_rfl) (by rw [t2]; exact eq_set9 s s w),
    fields_step n3 (x := .bool f) (y := .bool f) (r := f == f) (by rw [t3, o3]; kernel_rfl) (by rw [t3, o3]; kernel_rfl) (by rw [t3]; exact run_equalIn_bool w 9998 4 f f hbo)]
  simp [Op.eqFields]

/-- Whole numbers that a call made. -/
def OwnW (w : World) (base : Nat) (v : Value) (l : List Int) : Prop := w.ownsRow base 3 1 v l.length (l.map (Value.int .i64))
theorem OwnW.form {w : World} {base : Nat} {v : Value} {l : List Int} (h : OwnW w base v l) : ∃ A n c, v = .slice A n c ∧ Hid (l.length = n) ∧ n ≤ c ∧ RdW w A l := by
  rcases h.2 with ⟨rfl, hn⟩ | ⟨g, cap, cur, rfl, _, hg, hnc, hcm, hcs, ht⟩
  · exact ⟨none, 0, 0, rfl, hn, Nat.le_refl _, fun i hi => by omega⟩
  · refine ⟨some ⟨g, 0, none⟩, _, cap, rfl, rfl, hnc, fun i hi => ⟨_, rfl, ?_⟩⟩
    exact World.ownsRow.cells h (g := g) rfl i _ (by simp [hi])
theorem rdw_src {w : World} {A : Option Addr} {l : List Int} (h : RdW w A l) : (l.map (Value.int .i64) = [] ∧ A = none) ∨ ∃ ad, A = some ad ∧ ∀ j u, (l.map (Value.int .i64))[j]? = some u → w.cell? (ad.add j) = some u := by
  cases A with
  | none =>
    left
    refine ⟨?_, rfl⟩
    cases l with
    | nil => rfl
    | cons x l => obtain ⟨ad, e, _⟩ := h 0 (by simp); cases e
  | some ad =>
    right
    refine ⟨ad, rfl, fun j u hu => ?_⟩
    rw [List.getElem?_map] at hu
    obtain ⟨x, hx, rfl⟩ := Option.map_eq_some_iff.1 hu
    obtain ⟨hj, rfl⟩ := List.getElem?_eq_some_iff.1 hx
    obtain ⟨ad', e, hc⟩ := h j hj
    obtain rfl := Option.some.inj e
    exact hc
theorem int_one (l : List Int) : ∀ u ∈ l.map (Value.int .i64), u.oneCell' = true := fun u hu => by
  obtain ⟨x, _, rfl⟩ := List.mem_map.1 hu
  rfl
theorem rde_src {w : World} {A : Option Addr} {l : List Ed} (h : RdE w A l) : (cellsEs l = [] ∧ A = none) ∨ ∃ ad, A = some ad ∧ ∀ j u, (cellsEs l)[j]? = some u → w.cell? (ad.add j) = some u := by
  cases A with
  | none =>
    left
    refine ⟨?_, rfl⟩
    cases l with
    | nil => rfl
    | cons x l => obtain ⟨ad, e, _⟩ := h 0 (by simp); cases e
  | some ad => exact Or.inr ⟨ad, rfl, h.cells⟩
theorem wp_append_rowsN {o : Oper} {a : Act} {K : Act → World → Prop} {Q : Exit → Act → World → Prop} (w : World) (s x : Operand) (t : TypeId)
    (ho : o.op = .call { callee := .builtin .append, args := #[s, x], argTypes := #[t, t] })
    (base : Nat) (e : TypeId) (i : TypeInfo) (z : Value) (size bytes : Nat) (ht : Tryz.prog.underlying t = some (.slice e)) (hi : Tryz.prog.info? e = some i) (hz : i.zero = some z)
    (hsize : i.size = size) (hby : i.bytes = bytes) (hzs : z.cells.size = size) (hsz : 0 < size)
    (v : Value) (n : Nat) (xs : List Value) (hs : a.eval s = v) (hown : w.ownsRow base e size v n xs) (A : Option Addr) (m c : Nat) (news : List Value) (hx : a.eval x = .slice A m c) (hl : news.length = m * size)
    (hsrc : (news = [] ∧ A = none) ∨ ∃ ad, A = some ad ∧ ∀ j u, news[j]? = some u → w.cell? (ad.add j) = some u) (h1 : ∀ u ∈ news, u.oneCell' = true)
    (h63 : n + m ≤ maxLen) (hbytes : (n + m) * bytes ≤ 140737488355328) (hbase : base ≤ w.heap.size)
    (h : ∀ v' w', w'.ownsRow base e size v' (n + m) (xs ++ news) → w.grownBy w' v.ownBlock → (v'.ownBlock = v.ownBlock ∨ v'.ownBlock = some w.heap.size) → K (a.put o.dst v') w') :
    Oper.wp Tryz.prog o a w K Q := by
  obtain ⟨v', w', hr, h2, h3, h5⟩ := run_append_rows w t o.type base e i z size bytes ht hi hz hsize hby hzs hsz v n xs hown A m c news hl hsrc h1 h63 hbytes hbase
  unfold Oper.wp execOp
  simp only [ho, resolve, invoke, builtin, Sem.run_bind, Sem.run_pure, Result.andThen_ok, List.map_toArray, List.map_cons, List.map_nil, hs, hx, hr]
  exact h v' w' h2 h3 h5
def GotCw (W : World) (l : List Int) (e : Ending) (W' : World) : Prop := ∃ A n c, e = .returned (.slice A n c) ∧ Hid (l.length = n) ∧ n ≤ c ∧ RdW W' A l ∧ Below W.heap.size W W'
set_option maxRecDepth 20000 in
theorem copyints_any (l : List Int) (A : Option Addr) (n c : Nat) (hn : l.length = n) (hn2 : n * 8 ≤ 140737488355328) (W : World) (hr : RdW W A l) :
    Calls Tryz.prog 13 #[.slice A n c] W (GotCw W l) := by
  generalize hQ : GotCw W l = Q
  have HQ := Lib.hid hQ
  have HN := Lib.hid hn
  have HR := Lib.hid hr
  obtain ⟨i0, hi0, hz0, hz1, hz2⟩ := info_parts info_int
  clear hQ hn hr
  go_enter Tryz.func13, Tryz.ntmps13
  go_wp2_with (at_builtin; refine wpList_append_rowsN _ rfl _ _ 27 rfl W.heap.size 3 i0 (.int .i64 0) 1 8 Tryz.underlying27 hi0 hz0 hz1 hz2 rfl (by decide) (.slice none 0 0) 0 [] rfl (World.ownsRow_nil _ _ _ _) A n c (l.map (Value.int .i64)) rfl (by rw [List.length_map, HN.out, Nat.mul_one]) (rdw_src HR.out) (int_one l) (by simp only [maxLen]; omega) (by omega) (Nat.le_refl _) ?_; intro v1 w1 ho1 hg1 hat1)
  have ho2 : OwnW w1 W.heap.size v1 l := by
    unfold OwnW
    rw [HN.out]
    rw [Nat.zero_add, List.nil_append] at ho1
    exact ho1
  have B1 := Lib.hid (bl_grown (Below.refl W.heap.size W) hg1 (fun i e => by cases e))
  obtain ⟨A1, n1, c1, rfl, h1, h2, h3⟩ := ho2.form
  have R1 := Lib.hid h3
  clear ho1 ho2 hg1 hat1 hi0 hz0 hz1 hz2 h3
  go_wp2_with fail
  exact post_is HQ ⟨_, _, _, rfl, h1, h2, R1.out, B1.out⟩

/-! Marks as numbers. -/
theorem trues_next {l : List Bool} {k : Nat} (hk : k < l.length) : trues (l.take (k + 1)) = if l[k] = true then trues (l.take k) ++ [k] else trues (l.take k) := by
  unfold trues
  have h1 : (l.take (k + 1)).length = k + 1 := by rw [List.length_take]; omega
  have h2 : (l.take k).length = k := by rw [List.length_take]; omega
  rw [h1, h2, List.range_succ, List.filter_append]
  have e1 : (List.range k).filter (fun i => (l.take (k + 1)).getD i false) = (List.range k).filter (fun i => (l.take k).getD i false) := by
    apply List.filter_congr
    intro i hi
    have hi := List.mem_range.1 hi
    have q1 : i < l.length := by omega
    have q2 : i < k + 1 := by omega
    simp [List.getD, List.getElem?_take, hi, q2]
  rw [e1]
  have e2 : (l.take (k + 1)).getD k false = l[k] := by simp [List.getD, hk]
  by_cases h : l[k] = true
  · rw [if_pos h, List.filter_cons, e2, if_pos h]
    rfl
  · rw [if_neg h, List.filter_cons, e2, if_neg h]
    simp
def GotTl (W : World) (l : List Nat) (e : Ending) (W' : World) : Prop := ∃ v, e = .returned v ∧ OwnI W' W.heap.size v l ∧ Below W.heap.size W W'
set_option maxRecDepth 20000 in
set_option maxHeartbeats 4000000 in
theorem rlist_any (cs : List Bool) (A : Option Addr) (n c : Nat) (hn : cs.length = n) (hn2 : n ≤ 2048) (W : World) (hr : RdQ W A cs) :
    Calls Tryz.prog 32 #[.slice A n c] W (GotTl W (trues cs)) := by
  generalize hQ : GotTl W (trues cs) = Q
  have HQ := Lib.hid hQ
  have HN := Lib.hid hn
  have HR := Lib.hid hr
  clear hQ hn hr
  go_enter Tryz.func32, Tryz.ntmps32
  go_wp2_with fail
  go_loopw [3, 4] (fun lv iv wr => ∃ (k m d : Nat) (B : Option Addr), k ≤ n ∧ m ≤ k ∧ iv = .int .i64 (k : Int) ∧ lv = .slice B m d ∧ Hid ((trues (cs.take k)).length = m) ∧ Hid (OwnI wr W.heap.size (.slice B m d) (trues (cs.take k))) ∧ Hid (Below W.heap.size W wr)) (fun _ iv _ => n - (intOf iv).toNat)
  case atStart => exact ⟨0, 0, 0, none, Nat.zero_le _, Nat.zero_le _, rfl, rfl, rfl, OwnI.nil _ _, Below.refl _ _⟩
  case round =>
    obtain ⟨k, m, d, B, hk, hm, rfl, rfl, HL, OI, BC⟩ := hrel
    by_cases hlt : k < n
    · have hkl : k < cs.length := by rw [HN.out]; exact hlt
      obtain ⟨ad, hA, hc⟩ := (HR.out.below BC.out) k hkl
      subst hA
      have HTN := Lib.hid (trues_next hkl)
      generalize trues (cs.take k) = l at *
      generalize cs[k] = t at *
      obtain ⟨i0, hi0, hz0, hz1, hz2⟩ := info_parts info_int
      have hkn : (k : Int) < (n : Int) := by omega
      clear hkl
      cases t with
      | false =>
        have HT2 := Lib.hid (show trues (cs.take (k + 1)) = l from by rw [HTN.out, if_neg (by simp)])
        clear hi0 hz0 hz1 hz2
        go_wp2_with fail
        exact ⟨⟨k + 1, m, d, B, by omega, by omega, by go_num, rfl, by rw [HT2.out]; exact HL, by rw [HT2.out]; exact OI, BC⟩, by simp [intOf]; omega⟩
      | true =>
        have HT2 := Lib.hid (show trues (cs.take (k + 1)) = l ++ [k] from by rw [HTN.out, if_pos rfl])
        have ka := heap_alloc_new wr (.cells #[.int .i64 (k : Int)] 3)
        have BA := Lib.hid (bl_alloc BC.out (.cells #[.int .i64 (k : Int)] 3))
        have OA := Lib.hid (show OwnI (wr.alloc (.cells #[.int .i64 (k : Int)] 3)) W.heap.size (.slice B m d) l from World.ownsRow.alloc OI.out _)
        have KA := Lib.hid ka
        have hll := HL.out
        clear ka
        go_wp2_with (at_builtin; refine wpList_append_lies _ rfl _ _ 27 rfl W.heap.size 3 i0 (.int .i64 0) 1 8 Tryz.underlying27 hi0 hz0 hz1 hz2 rfl (by decide) (.slice B m d) l.length (l.map nv) rfl OA.out ⟨wr.heap.size, 0, none⟩ 1 1 [.int .i64 (k : Int)] rfl rfl (fun t u hu => by rw [addr_mk, Nat.zero_add, cell_of_row _ wr.heap.size t _ _ _ KA.out]; simpa using hu) (by simp [Value.oneCell']) (by omega) (by simp only [maxLen]; omega) (by omega) BA.out.size _ rfl ?_; intro q cap w3 ho3 hg3 hat3 hlt3)
        have O3 : OwnI w3 W.heap.size (.slice (some ⟨q, 0, none⟩) (l.length + 1) cap) (l ++ [k]) := by
          unfold OwnI
          rw [List.length_append, List.length_singleton, List.map_append]
          exact ho3
        refine ⟨⟨k + 1, m + 1, cap, some ⟨q, 0, none⟩, by omega, by omega, by go_num, by first | rfl | rw [hll], ?_, ?_, bl_grown BA.out hg3 (fun i e => (World.ownsRow.lt OA.out i e).1)⟩, by simp [intOf]; omega⟩
        · rw [HT2.out]
          exact Lib.hid (by rw [List.length_append, List.length_singleton, hll])
        · rw [HT2.out, ← hll]
          exact O3
    · obtain rfl : k = n := by omega
      rw [List.take_of_length_le (by rw [HN.out]; exact Nat.le_refl _)] at OI
      go_wp2_with fail
      exact post_is HQ ⟨_, rfl, OI.out, BC.out⟩

theorem cell_same {w w' : World} {p : Addr} (h : w'.heap[p.block]? = w.heap[p.block]?) : w'.cell? p = w.cell? p := by
  unfold World.cell?
  rw [h]
theorem rde_keep {w : World} {base b n c : Nat} {A : Option Addr} {E : List Ed} (h : OwnE w base (.slice A n c) E) (hb : b < base) (cs : Array Value) : RdE (w.setRow b cs) A E := fun i hi => by
  obtain ⟨A', n', c', e, _, _, _, hr⟩ := h.form
  injection e with e1 _ _
  subst e1
  obtain ⟨ad, hA, hc⟩ := hr i hi
  subst hA
  rcases h.2 with ⟨e, _⟩ | ⟨q, cap, cur, e, hq, _⟩
  · cases e
  · injection e with e1 _ _
    obtain rfl := Option.some.inj e1
    refine ⟨_, rfl, fun j u hu => ?_⟩
    rw [← hc j u hu]
    refine cell_same ?_
    rw [addr_mk, addr_mk]
    exact setRow_other w b q cs (by omega)
theorem rdw_keep {w : World} {base b n c : Nat} {A : Option Addr} {E : List Int} (h : OwnW w base (.slice A n c) E) (hb : b < base) (cs : Array Value) : RdW (w.setRow b cs) A E := fun i hi => by
  obtain ⟨A', n', c', e, _, _, hr⟩ := h.form
  injection e with e1 _ _
  subst e1
  obtain ⟨ad, hA, hc⟩ := hr i hi
  subst hA
  rcases h.2 with ⟨e, _⟩ | ⟨q, cap, cur, e, hq, _⟩
  · cases e
  · injection e with e1 _ _
    obtain rfl := Option.some.inj e1
    refine ⟨_, rfl, ?_⟩
    rw [← hc]
    refine cell_same ?_
    rw [addr_mk]
    exact setRow_other w b q cs (by omega)
/-- A net in memory of its own. -/
def GotCn (W : World) (S : Int) (E : List Ed) (X : List Int) (e : Ending) (W' : World) : Prop :=
  ∃ A n c A2 n2 c2, e = .returned (.agg #[.int .i64 S, .slice A n c, .slice A2 n2 c2]) ∧ RdE W' A E ∧ RdW W' A2 X ∧ Hid (E.length = n) ∧ Hid (X.length = n2) ∧ n ≤ c ∧ n2 ≤ c2 ∧ Below W.heap.size W W'
theorem built_net (k : Int) (A X : Option Addr) (n c x y : Nat) : Tryz.prog.built 29 [(0, Value.int .i64 k), (1, Value.slice A n c), (2, Value.slice X x y)] = some #[.int .i64 k, .slice A n c, .slice X x y] := by kernel_rfl
set_option maxRecDepth 100000 in
set_option maxHeartbeats 8000000 in
theorem rcopy_any (S : Int) (E : List Ed) (X : List Int) (Ae Ax : Option Addr) (ne ce nx cx : Nat) (hne : E.length = ne) (hnx : X.length = nx) (hm1 : ne * 56 ≤ 140737488355328) (hm2 : nx * 8 ≤ 140737488355328) (W : World) (hr : RdE W Ae E) (hx : RdW W Ax X) :
    Calls Tryz.prog 12 #[.agg #[.int .i64 S, .slice Ae ne ce, .slice Ax nx cx]] W (GotCn W S E X) := by
  generalize hQ : GotCn W S E X = Q
  have HQ := Lib.hid hQ
  have bu := built_net
  have b0 := bl_alloc (Below.refl W.heap.size W) (.cells #[.int .i64 S, .slice Ae ne ce, .slice Ax nx cx] 29)
  have k0 := heap_alloc_new W (.cells #[.int .i64 S, .slice Ae ne ce, .slice Ax nx cx] 29)
  have b1 := bl_alloc b0 (.cells #[.int .i64 0, .slice none 0 0, .slice none 0 0] 29)
  have k1 := heap_alloc_new (W.alloc (.cells #[.int .i64 S, .slice Ae ne ce, .slice Ax nx cx] 29)) (.cells #[.int .i64 0, .slice none 0 0, .slice none 0 0] 29)
  rw [World.size_alloc] at k1
  have k0' := (Below.heap_alloc (W.alloc (.cells #[.int .i64 S, .slice Ae ne ce, .slice Ax nx cx] 29)) (.cells #[.int .i64 0, .slice none 0 0, .slice none 0 0] 29) W.heap.size (by simp)).trans k0
  have HE := Lib.hid (hr.below b1)
  have HX := Lib.hid (hx.below b1)
  have HNE := Lib.hid hne
  have HNX := Lib.hid hnx
  have B1 := Lib.hid b1
  obtain ⟨i0, hi0, hz0, hz1, hz2⟩ := info_parts info_int
  obtain ⟨i1, hi1, hy0, hy1, hy2⟩ := info_parts info_edge
  clear hQ hr hx hne hnx b0 b1 k0
  go_enter Tryz.func12, Tryz.ntmps12
  go_upto_region 1 with fail
  generalize (W.alloc (.cells #[.int .i64 S, .slice Ae ne ce, .slice Ax nx cx] 29)).alloc (.cells #[.int .i64 0, .slice none 0 0, .slice none 0 0] 29) = w0 at *
  generalize hg : W.heap.size = g at *
  have HG := Lib.hid hg
  clear hg
  refine wp_region_held_drew (S := fun W' => W'.heap[g]? = some (.cells #[.int .i64 S, .slice Ae ne ce, .slice Ax nx cx] 29 (0, 0))) (by kernel_rfl) k0' (fun hHeld => ?_)
  have hszw : g + 1 < w0.heap.size := (Array.getElem?_eq_some_iff.1 k1).1
  have K1 := Lib.hid (show w0.drew.heap[g + 1]? = some (.cells #[.int .i64 0, .slice none 0 0, .slice none 0 0] 29 (0, 0)) from k1)
  have BD := Lib.hid (show Below g W w0.drew from bl_drewN' B1.out 1)
  have ED := Lib.hid (HE.out.below (Below.drew (Below.refl w0.heap.size w0)))
  have XD := Lib.hid (HX.out.below (Below.drew (Below.refl w0.heap.size w0)))
  have hszd : g + 1 < w0.drew.heap.size := hszw
  clear k0' k1 B1 HE HX hszw
  generalize w0.drew = wd at *
  try simp only [List.getElem_toArray, List.getElem_cons_zero, List.getElem_cons_succ, Act.put, List.setIfInBounds_toArray, List.set_cons_zero, List.set_cons_succ]
  refine wpAnyH_take (i := 0) (v := ?vzc0) rfl (by kernel_rfl) (by kernel_rfl) (by kernel_rfl) (fun _ _ _ h => h) (Or.inl ⟨by rfl, ?yzc0⟩) hHeld ?rzc0
  case yzc0 => (intro wS hSw; clear hSw; go_simp; try (with_reducible rfl))
  try simp only [List.getElem_toArray, List.getElem_cons_zero, List.getElem_cons_succ, Act.put, List.setIfInBounds_toArray, List.set_cons_zero, List.set_cons_succ]
  refine wpAnyH_take (i := 1) (v := ?vzc1) rfl (by kernel_rfl) (by kernel_rfl) (by kernel_rfl) (fun _ _ _ h => h) (Or.inl ⟨by rfl, ?yzc1⟩) hHeld ?rzc1
  case yzc1 => (intro wS hSw; have q1 := cell_of_row wS g 0 _ _ _ hSw; clear hSw; go_simp; try (with_reducible rfl))
  try simp only [List.getElem_toArray, List.getElem_cons_zero, List.getElem_cons_succ, Act.put, List.setIfInBounds_toArray, List.set_cons_zero, List.set_cons_succ]
  refine wpAnyH_take (i := 2) (v := ?vzc2) rfl (by kernel_rfl) (by kernel_rfl) (by kernel_rfl) (fun _ _ _ h => h) (Or.inl ⟨by rfl, ?yzc2⟩) hHeld ?rzc2
  case yzc2 => (intro wS hSw; clear hSw; go_simp; try (with_reducible rfl))
  try simp only [List.getElem_toArray, List.getElem_cons_zero, List.getElem_cons_succ, Act.put, List.setIfInBounds_toArray, List.set_cons_zero, List.set_cons_succ]
  refine wpAnyH_take (i := 3) (v := ?vzc3) rfl (by kernel_rfl) (by kernel_rfl) (by kernel_rfl) (fun _ _ _ h => h) (Or.inl ⟨by rfl, ?yzc3⟩) hHeld ?rzc3
  case yzc3 => (intro wS hSw; have q1 := cell_of_row wS g 1 _ _ _ hSw; clear hSw; go_simp; try (with_reducible rfl))
  try simp only [List.getElem_toArray, List.getElem_cons_zero, List.getElem_cons_succ, Act.put, List.setIfInBounds_toArray, List.set_cons_zero, List.set_cons_succ]
  refine wpAnyH_take (i := 5) (v := ?vzc5) rfl (by kernel_rfl) (by kernel_rfl) (by kernel_rfl) (fun _ _ _ h => h) (Or.inl ⟨by rfl, ?yzc5⟩) hHeld ?rzc5
  case yzc5 => (intro wS hSw; clear hSw; go_simp; try (with_reducible rfl))
  try simp only [List.getElem_toArray, List.getElem_cons_zero, List.getElem_cons_succ, Act.put, List.setIfInBounds_toArray, List.set_cons_zero, List.set_cons_succ]
  refine wpAnyH_take (i := 6) (v := ?vzc6) rfl (by kernel_rfl) (by kernel_rfl) (by kernel_rfl) (fun _ _ _ h => h) (Or.inl ⟨by rfl, ?yzc6⟩) hHeld ?rzc6
  case yzc6 => (intro wS hSw; have q1 := cell_of_row wS g 2 _ _ _ hSw; clear hSw; go_simp; try (with_reducible rfl))
  try simp only [List.getElem_toArray, List.getElem_cons_zero, List.getElem_cons_succ, Act.put, List.setIfInBounds_toArray, List.set_cons_zero, List.set_cons_succ]
  refine wpAnyH_ready (rs := [4]) (by kernel_rfl) (by simp) (AllReadyH.cons rfl (fun K hK => ?_) AllReadyH.nil)
  rw [if_pos (by rfl)]
  refine wp_append_rowsN wd _ _ 26 rfl wd.heap.size 39 i1 zeroEd 7 56 Tryz.underlying26 hi1 hy0 hy1 hy2 rfl (by decide) (.slice none 0 0) 0 [] rfl (World.ownsRow_nil _ _ _ _) Ae ne ce (cellsEs E) rfl (by rw [cellsEs_len, HNE.out]) (rde_src ED.out) (cellsEs_one _) (by simp only [maxLen]; omega) (by omega) (Nat.le_refl _) ?_
  intro v4 w4 ho4 hg4 hat4
  have ho4' : OwnE w4 wd.heap.size v4 E := by
    unfold OwnE
    rw [HNE.out]
    rw [Nat.zero_add, List.nil_append] at ho4
    exact ho4
  obtain ⟨A4, n4, c4, rfl, hl4, hc4, hm4, hr4⟩ := ho4'.form
  have hb4 := bl_grown (Below.refl wd.heap.size wd) hg4 (fun i e => by cases e)
  have HSZ := Lib.hid hb4.size
  have B4 := Lib.hid (bl_trans' HG.out BD.out hb4)
  have E4 := Lib.hid ho4'
  have HGD := Lib.hid hszd
  have X4 := Lib.hid (XD.out.below hb4)
  have K4 := Lib.hid ((hb4.block (g + 1) hszd).trans K1.out)
  have hS1 := (hb4.block g (by omega)).trans hHeld
  clear hHeld
  refine hK.out _ _ hS1 (fun hHeld => ?_)
  clear hK K hS1 ho4 ho4' hg4 hat4 hr4 hm4 hb4 ED XD K1 BD
  try simp only [List.getElem_toArray, List.getElem_cons_zero, List.getElem_cons_succ, Act.put, List.setIfInBounds_toArray, List.set_cons_zero, List.set_cons_succ]
  refine wpAnyH_ready (rs := [7]) (by kernel_rfl) (by simp) (AllReadyH.cons rfl (fun K hK => ?_) AllReadyH.nil)
  rw [if_pos (by rfl)]
  refine wp_append_rowsN w4 _ _ 27 rfl w4.heap.size 3 i0 (.int .i64 0) 1 8 Tryz.underlying27 hi0 hz0 hz1 hz2 rfl (by decide) (.slice none 0 0) 0 [] rfl (World.ownsRow_nil _ _ _ _) Ax nx cx (X.map (Value.int .i64)) rfl (by rw [List.length_map, HNX.out, Nat.mul_one]) (rdw_src X4.out) (int_one X) (by simp only [maxLen]; omega) (by omega) (Nat.le_refl _) ?_
  intro v7 w7 ho7 hg7 hat7
  have ho7' : OwnW w7 w4.heap.size v7 X := by
    unfold OwnW
    rw [HNX.out]
    rw [Nat.zero_add, List.nil_append] at ho7
    exact ho7
  obtain ⟨A7, n7, c7, rfl, hl7, hc7, hr7⟩ := ho7'.form
  have hb7 := bl_grown (Below.refl w4.heap.size w4) hg7 (fun i e => by cases e)
  have B7 := Lib.hid (bl_trans' HG.out B4.out hb7)
  have E7 := Lib.hid (show OwnE w7 wd.heap.size (.slice A4 n4 c4) E from World.ownsRow.kept E4.out (grown_of_below hb7 none) (by cases (Value.slice A4 n4 c4).ownBlock <;> simp))
  have X7 := Lib.hid ho7'
  have hlt7 : g < w4.heap.size := (Array.getElem?_eq_some_iff.1 hHeld).1
  have k7 := (hb7.block (g + 1) (Array.getElem?_eq_some_iff.1 K4.out).1).trans K4.out
  have hS1 := (hb7.block g hlt7).trans hHeld
  clear hHeld
  refine hK.out _ _ hS1 (fun hHeld => ?_)
  clear hK K hS1 ho7 ho7' hg7 hat7 hr7 hb7 E4 X4 K4 B4 hlt7
  try simp only [List.getElem_toArray, List.getElem_cons_zero, List.getElem_cons_succ, Act.put, List.setIfInBounds_toArray, List.set_cons_zero, List.set_cons_succ]
  refine wpAnyH_take (i := 8) (v := ?vzc8) rfl (by kernel_rfl) (by kernel_rfl) (by kernel_rfl) (fun _ _ _ h => h) (Or.inl ⟨by rfl, ?yzc8⟩) hHeld ?rzc8
  case yzc8 => (intro wS hSw; clear hSw; go_simp; try (with_reducible rfl))
  try simp only [List.getElem_toArray, List.getElem_cons_zero, List.getElem_cons_succ, Act.put, List.setIfInBounds_toArray, List.set_cons_zero, List.set_cons_succ]
  refine wpAnyH_ready (rs := [9]) (by kernel_rfl) (by simp) (AllReadyH.cons rfl (fun K hK => ?_) AllReadyH.nil)
  rw [if_pos (by rfl)]
  refine wp_store_row 29 _ _ rfl (g + 1) #[.int .i64 S, .slice A4 n4 c4, .slice A7 n7 c7] rfl rfl 29 _ k7 (by rw [size_net]; rfl) rfl (by simp [Value.oneCell']) ?_
  have k8 := setRow_heap _ _ _ #[.int .i64 S, .slice A4 n4 c4, .slice A7 n7 c7] _ _ k7
  have hS1 := (setRow_other w7 (g + 1) g #[.int .i64 S, .slice A4 n4 c4, .slice A7 n7 c7] (by omega)).trans hHeld
  have hgw : W.heap.size = g := HG.out
  have B8 := Lib.hid (show Below g W (w7.setRow (g + 1) #[.int .i64 S, .slice A4 n4 c4, .slice A7 n7 c7]) from by have h := B7.out; rw [← HG.out] at h ⊢; exact bl_setRow h (by omega) _)
  have E8 := Lib.hid (show RdE (w7.setRow (g + 1) #[.int .i64 S, .slice A4 n4 c4, .slice A7 n7 c7]) A4 E from rde_keep E7.out HGD.out _)
  have X8 := Lib.hid (show RdW (w7.setRow (g + 1) #[.int .i64 S, .slice A4 n4 c4, .slice A7 n7 c7]) A7 X from rdw_keep X7.out (by have h1 := HGD.out; have h2 := HSZ.out; omega) _)
  clear hHeld
  refine hK.out _ _ hS1 (fun hHeld => ?_)
  clear hK K hS1 k7 E7 X7 B7 hgw
  generalize w7.setRow (g + 1) #[.int .i64 S, .slice A4 n4 c4, .slice A7 n7 c7] = w8 at *
  try simp only [List.getElem_toArray, List.getElem_cons_zero, List.getElem_cons_succ, Act.put, List.setIfInBounds_toArray, List.set_cons_zero, List.set_cons_succ]
  refine wpAnyH_done (by kernel_rfl) ?_ _
  go_wp2_with fail
  refine bodyPost_ret (v := .agg #[.int .i64 S, .slice A4 n4 c4, .slice A7 n7 c7]) (results_cell_row rfl _ _ (g + 1) 29 _ (0, 0) _ rfl k8 Tryz.underlying29 rfl (by rw [size_net]; rfl)) rfl (post_is HQ ?_)
  exact ⟨_, _, _, _, _, _, rfl, E8.out, X8.out, hl4, hl7, hc4, hc7, by rw [HG.out]; exact B8.out⟩

end Go.Proofs.YtjibfffefppniaaGreat
