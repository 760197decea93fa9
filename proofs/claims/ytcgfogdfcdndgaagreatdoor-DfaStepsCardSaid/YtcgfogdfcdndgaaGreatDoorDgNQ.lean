/- The maker of machines: makerOf: what its first statement makes, in whatever order. -/
import Derived.Test.YtcgfogdfcdndgaaGreatDoorDgMQ
set_option linter.unusedVariables false
set_option linter.unusedSimpArgs false
namespace Go.Proofs.YtcgfogdfcdndgaaGreatDoor
open Go.RowKit Go.Shelf
attribute [local go_sem] Oper.semAt_some

/-- The body's end, with marks; no panic. -/
def bodyQ (fn : Func) (R : Ending → World → Prop) : Exit → Act → World → Prop
  | .normal, a, w | .ret, a, w => LeavesInM Fence.wide 4 Tryz.prog fn a.tmps R a.defers .returning w
  | _, _, _ => False
theorem bodyQ_ok {fn : Func} {R : Ending → World → Prop} : ∀ (e : Exit) (a : Act) (w : World), bodyQ fn R e a w → bodyPostM Fence.wide 4 Tryz.prog fn R e a w
  | .normal, _, _, h => h
  | .ret, _, _, h => h
  | .exit _, _, _, h => h.elim
  | .goto _, _, _, h => h.elim
  | .panic _, _, _, h => h.elim
  | .outgrown, _, _, h => h.elim

section
variable {P : Program} {ops : Array Oper} {Q : Exit → Act → World → Prop} {md : Region.Mode} {S : World → Prop}
/-- A region in whatever order, by what holds between two of its operations. -/
theorem wpAnyH_inv (I : Nat → Array Bool → Act → World → Prop)
    (h : ∀ fuel listed a w, I (fuel + 1) listed a w → Region.ready md ops listed ≠ [] ∧ ∀ i ∈ Region.ready md ops listed, wpOp P ops Q i (fun a' w' => S w' ∧ I fuel (listed.setIfInBounds i true) a' w') a w)
    (h0 : ∀ listed a w, I 0 listed a w → Region.ready md ops listed = [] ∧ Q .normal a w) : ∀ fuel listed a w, I fuel listed a w → wpAnyH P md ops Q S fuel listed a w
  | 0, _, _, _, hi => h0 _ _ _ hi
  | fuel + 1, _, _, _, hi => by
    obtain ⟨h1, h2⟩ := h _ _ _ _ hi
    exact ⟨fun e => absurd e h1, fun i hm => wpOp_mono (fun a' w' hw => ⟨hw.1, wpAnyH_inv I h h0 fuel _ _ _ hw.2⟩) (h2 i hm)⟩
theorem wpOp_one {i : Nat} {o : Oper} {a : Act} {w : World} {N : Act → World → Prop} (ho : ops[i]? = some o)
    (h : ∀ K' : Act → World → Prop, Hid (∀ a w, N a w → K' a w) → if Region.wanted o (yielded ops a.tmps) = true then Oper.wp P o a w K' Q else K' (a.put o.dst undef) w) : wpOp P ops Q i N a w := wpOp_step ho fun K' hK => h K' (Lib.hid hK)
end

/-- An empty map, and what is put into it first. -/
theorem map_first {W : World} {gm : Nat} (ho : W.ownsMap (H := Unit) Tryz.prog 9 (plainElem Tryz.prog 3) gm 0 (.map [])) :
    ∃ W', (Instr.mapUpdate 61 (.map (some gm)) (.string ⟨(textN []).toArray⟩) (.int .i64 (-1))).run Tryz.prog W = .ok () W' ∧ MapD W' gm [] ∧ W.grownBy W' (some gm) := by
  obtain ⟨W', hrun, ho', hg⟩ := ho.update keyedS Tryz.underlying61 (by simp [maxLen]) (key_text [] (by simp)) (plainElem_int Tryz.underlying3 (a := -1) (by decide))
  have hm : Maps.IsMap (H := Unit) (.map []) := Maps.isMap_empty
  refine ⟨W', hrun, ⟨1, _, by simp, hm.put _ _, ho', fun t ht => ?_⟩, hg⟩
  have hkl : WideAt.IsKeyLit (keyD []) := by exact trivial
  by_cases htl : t = []
  · subst htl
    rw [Maps.has_put_same hm hkl, Maps.atKey_put_same hm hkl]
    refine ⟨by simp, ?_⟩
    rw [if_pos (Or.inl rfl), valD, if_pos rfl]
  · have hk : keyD t ≠ keyD [] := fun e => htl (textN_inj t [] ht (by simp) (by unfold keyD at e; injection e))
    rw [Maps.has_put_other hk, Maps.atKey_put_other hk]
    simp [htl, Maps.has, DataW.atKey]
set_option maxRecDepth 20000 in
theorem build_mk (w : World) (Ax Af Ae Ar : Option Addr) (nx cx nf cf ne ce nr cr : Nat) (gm : Option Nat) : (Instr.build 63 #[(1, .slice Ax nx cx), (2, .slice Af nf cf), (3, .slice Ae ne ce), (6, .map gm), (7, .slice Ar nr cr)]).run Tryz.prog w =
    .ok (.agg (mkT (fun _ => 0) [.slice none 0 0, .slice none 0 0, .slice Ax nx cx, .slice Af nf cf, .slice Ae ne ce, .slice none 0 0, .slice none 0 0, .map gm, .slice Ar nr cr, .int .i64 0])) w := by kernel_rfl

theorem ne_typ {w : World} {a b : Nat} {c1 c2 : Array Value} {t1 t2 : TypeId} {z1 z2 : Nat × Nat} (h1 : w.heap[a]? = some (.cells c1 t1 z1)) (h2 : w.heap[b]? = some (.cells c2 t2 z2)) (h : t1 ≠ t2) : a ≠ b := fun e => by
  rw [e, h2] at h1
  injection h1 with h1
  injection h1 with _ h1 _
  exact h h1.symm
def RowF (w : World) (b0 : Nat) (t : TypeId) (S : Nat) (v : Value) : Prop := ∃ b, v = .slice (some ⟨b, 0, none⟩) S S ∧ HV w b t S (fun _ => .slice none 0 0) ∧ b0 ≤ b
def RowM (w : World) (b0 : Nat) (S : Nat) (v : Value) : Prop := ∃ b, v = .slice (some ⟨b, 0, none⟩) S S ∧ Hn w b S (fun _ => 0) ∧ b0 ≤ b
def MapQ (w : World) (b0 : Nat) (v : Value) (q : Bool) : Prop := ∃ gm, v = .map (some gm) ∧ b0 ≤ gm ∧ (∃ es c, w.heap[gm]? = some (.map es c)) ∧ (q = false → w.ownsMap (H := Unit) Tryz.prog 9 (plainElem Tryz.prog 3) gm 0 (.map [])) ∧ (q = true → MapD w gm [])
def mk0 (vX v13 v16 v17 v22 : Value) : Array Value := mkT (fun _ => 0) [.slice none 0 0, .slice none 0 0, vX, v13, v16, .slice none 0 0, .slice none 0 0, v17, v22, .int .i64 0]
def MkF (w : World) (b0 : Nat) (cs : Array Value) (v : Value) : Prop := ∃ g, v = .pointer (some ⟨g, 0, none⟩) ∧ b0 ≤ g ∧ w.heap[g]? = some (.cells cs 63 (0, 0))
def VarF (w : World) (b0 : Nat) (v x : Value) : Prop := ∃ b, v = .pointer (some ⟨b, 0, none⟩) ∧ b0 ≤ b ∧ w.heap[b]? = some (.cells #[x] 57 (0, 0))
theorem RowF.keep {w w' : World} {b0 S : Nat} {t : TypeId} {v : Value} (h : RowF w b0 t S v) (hk : ∀ (i : Nat) (cs : Array Value), w.heap[i]? = some (.cells cs t (0, 0)) → w'.heap[i]? = w.heap[i]?) : RowF w' b0 t S v := by
  obtain ⟨b, e, hv, hb⟩ := h
  exact ⟨b, e, hv.keep (hk b _ hv), hb⟩
theorem RowM.keep {w w' : World} {b0 S : Nat} {v : Value} (h : RowM w b0 S v) (hk : ∀ (i : Nat) (cs : Array Value), w.heap[i]? = some (.cells cs 3 (0, 0)) → w'.heap[i]? = w.heap[i]?) : RowM w' b0 S v := by
  obtain ⟨b, e, hv, hb⟩ := h
  exact ⟨b, e, (hk b _ hv).trans hv, hb⟩
theorem MapQ.keep {w w' : World} {b0 : Nat} {v : Value} {q : Bool} (h : MapQ w b0 v q) (hk : ∀ (i : Nat) es c, w.heap[i]? = some (.map es c) → w'.heap[i]? = w.heap[i]?) : MapQ w' b0 v q := by
  obtain ⟨gm, e, hb, ⟨es, c, hm⟩, h1, h2⟩ := h
  have hk1 := hk gm es c hm
  refine ⟨gm, e, hb, ⟨es, c, hk1.trans hm⟩, fun e => ?_, fun e => (h2 e).keep hk1⟩
  obtain ⟨es, clock, hb, r⟩ := h1 e
  exact ⟨es, clock, hk1.trans hb, r⟩
theorem MkF.keep {w w' : World} {b0 : Nat} {cs : Array Value} {v : Value} (h : MkF w b0 cs v) (hk : ∀ (i : Nat) (cs : Array Value), w.heap[i]? = some (.cells cs 63 (0, 0)) → w'.heap[i]? = w.heap[i]?) : MkF w' b0 cs v := by
  obtain ⟨b, e, hb, hv⟩ := h
  exact ⟨b, e, hb, (hk b _ hv).trans hv⟩
theorem VarF.keep {w w' : World} {b0 : Nat} {v x : Value} (h : VarF w b0 v x) (hk : ∀ (i : Nat) (cs : Array Value), w.heap[i]? = some (.cells cs 57 (0, 0)) → w'.heap[i]? = w.heap[i]?) : VarF w' b0 v x := by
  obtain ⟨b, e, hb, hv⟩ := h
  exact ⟨b, e, hb, (hk b _ hv).trans hv⟩
/-- What holds between two operations. -/
structure Fr1 (W : World) (S : Nat) (nf : Array Value) (vX : Value) (d4 d7 d8 d9 d10 d11 d14 d15 d16 d17 d18 : Bool) (v13 v16 v17 v18 v19 v22 v23 v24 v3 : Value) (w : World) : Prop where
  bl : Below W.heap.size W w
  k0 : w.heap[W.heap.size]? = some (.cells nf 25 (0, 0))
  f4 : d4 = true → RowF w W.heap.size 23 S v13
  f7 : d7 = true → RowF w W.heap.size 22 S v16
  f8 : d8 = true → MapQ w W.heap.size v17 d10
  f9 : d9 = true → v18 = .string ⟨(textN []).toArray⟩
  o10 : d10 = true → d8 = true ∧ d9 = true
  o11 : d11 = true → d10 = true ∧ v19 = v17
  f14 : d14 = true → RowM w W.heap.size S v22
  o15 : d15 = true → d4 = true ∧ d7 = true ∧ d11 = true ∧ d14 = true ∧ v23 = .agg (mk0 vX v13 v16 v17 v22)
  o16 : d16 = true → d15 = true ∧ MkF w W.heap.size (mk0 vX v13 v16 v17 v22) v24
  f17 : d17 = true → VarF w W.heap.size v3 (if d18 = true then v24 else .pointer none)
  o18 : d18 = true → d16 = true ∧ d17 = true
section
variable {W w w' : World} {S : Nat} {nf : Array Value} {vX : Value} {d4 d7 d8 d9 d10 d11 d14 d15 d16 d17 d18 : Bool} {v13 v16 v17 v18 v19 v22 v23 v24 v3 : Value}
theorem Fr1.keep (h : Fr1 W S nf vX d4 d7 d8 d9 d10 d11 d14 d15 d16 d17 d18 v13 v16 v17 v18 v19 v22 v23 v24 v3 w) (hb : Below w.heap.size w w') : Fr1 W S nf vX d4 d7 d8 d9 d10 d11 d14 d15 d16 d17 d18 v13 v16 v17 v18 v19 v22 v23 v24 v3 w' := by
  have hk : ∀ (i : Nat) (o : Obj), w.heap[i]? = some o → w'.heap[i]? = w.heap[i]? := fun i o e => hb.block i (Array.getElem?_eq_some_iff.1 e).1
  exact ⟨bl_trans h.bl hb, (hk _ _ h.k0).trans h.k0, fun e => (h.f4 e).keep (fun i cs e => hk i _ e), fun e => (h.f7 e).keep (fun i cs e => hk i _ e), fun e => (h.f8 e).keep (fun i es c e => hk i _ e), h.f9, h.o10, h.o11, fun e => (h.f14 e).keep (fun i cs e => hk i _ e), h.o15, fun e => ⟨(h.o16 e).1, (h.o16 e).2.keep (fun i cs e => hk i _ e)⟩, fun e => (h.f17 e).keep (fun i cs e => hk i _ e), h.o18⟩
theorem no_tf {p : Prop} (h : false = true) : p := by cases h
theorem Fr1.s4 {u : Value} (h : Fr1 W S nf vX false d7 d8 d9 d10 d11 d14 d15 d16 d17 d18 v13 v16 v17 v18 v19 v22 v23 v24 v3 w) (hb : Below w.heap.size w w') (hn : RowF w' W.heap.size 23 S u) : Fr1 W S nf vX true d7 d8 d9 d10 d11 d14 d15 d16 d17 d18 u v16 v17 v18 v19 v22 v23 v24 v3 w' := by
  have k := h.keep hb
  exact ⟨k.bl, k.k0, fun _ => hn, k.f7, k.f8, k.f9, k.o10, k.o11, k.f14, fun e => no_tf (k.o15 e).1, fun e => no_tf (k.o15 (k.o16 e).1).1, k.f17, k.o18⟩
theorem Fr1.s7 {u : Value} (h : Fr1 W S nf vX d4 false d8 d9 d10 d11 d14 d15 d16 d17 d18 v13 v16 v17 v18 v19 v22 v23 v24 v3 w) (hb : Below w.heap.size w w') (hn : RowF w' W.heap.size 22 S u) : Fr1 W S nf vX d4 true d8 d9 d10 d11 d14 d15 d16 d17 d18 v13 u v17 v18 v19 v22 v23 v24 v3 w' := by
  have k := h.keep hb
  exact ⟨k.bl, k.k0, k.f4, fun _ => hn, k.f8, k.f9, k.o10, k.o11, k.f14, fun e => no_tf (k.o15 e).2.1, fun e => no_tf (k.o15 (k.o16 e).1).2.1, k.f17, k.o18⟩
theorem Fr1.s8 {u : Value} (h : Fr1 W S nf vX d4 d7 false d9 d10 d11 d14 d15 d16 d17 d18 v13 v16 v17 v18 v19 v22 v23 v24 v3 w) (hb : Below w.heap.size w w') (hn : MapQ w' W.heap.size u false) : Fr1 W S nf vX d4 d7 true d9 d10 d11 d14 d15 d16 d17 d18 v13 v16 u v18 v19 v22 v23 v24 v3 w' := by
  have k := h.keep hb
  have h10 : d10 = false := by cases hd : d10 with
    | false => rfl
    | true => exact no_tf (k.o10 hd).1
  subst h10
  exact ⟨k.bl, k.k0, k.f4, k.f7, fun _ => hn, k.f9, fun e => no_tf e, fun e => no_tf (k.o11 e).1, k.f14, fun e => no_tf (k.o11 (k.o15 e).2.2.1).1, fun e => no_tf (k.o11 (k.o15 (k.o16 e).1).2.2.1).1, k.f17, k.o18⟩
theorem Fr1.s9 (h : Fr1 W S nf vX d4 d7 d8 false d10 d11 d14 d15 d16 d17 d18 v13 v16 v17 v18 v19 v22 v23 v24 v3 w) (hb : Below w.heap.size w w') : Fr1 W S nf vX d4 d7 d8 true d10 d11 d14 d15 d16 d17 d18 v13 v16 v17 (.string ⟨(textN []).toArray⟩) v19 v22 v23 v24 v3 w' := by
  have k := h.keep hb
  exact ⟨k.bl, k.k0, k.f4, k.f7, k.f8, fun _ => rfl, fun e => ⟨(k.o10 e).1, rfl⟩, k.o11, k.f14, k.o15, k.o16, k.f17, k.o18⟩
theorem Fr1.s10 (h : Fr1 W S nf vX d4 d7 true true false d11 d14 d15 d16 d17 d18 v13 v16 v17 v18 v19 v22 v23 v24 v3 w) {gm : Nat} (hg0 : v17 = .map (some gm)) (hg : w.grownBy w' (some gm)) (hm : MapD w' gm []) : Fr1 W S nf vX d4 d7 true true true d11 d14 d15 d16 d17 d18 v13 v16 v17 v18 v19 v22 v23 v24 v3 w' := by
  obtain ⟨gm', e, hb, ⟨es, c, hmb⟩, _, _⟩ := h.f8 rfl
  rw [hg0] at e
  obtain rfl : gm = gm' := by injection e with e; exact Option.some.inj e
  have hk : ∀ (i : Nat) (cs : Array Value) t z, w.heap[i]? = some (.cells cs t z) → w'.heap[i]? = w.heap[i]? := fun i cs t z hw => hg.block i (Array.getElem?_eq_some_iff.1 hw).1 (fun e2 => by
    obtain rfl := Option.some.inj e2
    rw [hmb] at hw
    cases hw)
  have hm2 := hm
  obtain ⟨_, _, _, _, ⟨es2, c2, hb2, _⟩, _⟩ := hm2
  exact ⟨bl_grown h.bl hg (fun i e => by obtain rfl := Option.some.inj e; exact hb), (hk _ _ _ _ h.k0).trans h.k0, fun e => (h.f4 e).keep (fun i cs e => hk i _ _ _ e), fun e => (h.f7 e).keep (fun i cs e => hk i _ _ _ e), fun _ => ⟨gm, hg0, hb, ⟨es2, c2, hb2⟩, fun e => (by cases e), fun _ => hm⟩, h.f9, fun _ => ⟨rfl, rfl⟩, fun e => ⟨rfl, (h.o11 e).2⟩, fun e => (h.f14 e).keep (fun i cs e => hk i _ _ _ e), h.o15, fun e => ⟨(h.o16 e).1, (h.o16 e).2.keep (fun i cs e => hk i _ _ _ e)⟩, fun e => (h.f17 e).keep (fun i cs e => hk i _ _ _ e), h.o18⟩
theorem Fr1.s11 (h : Fr1 W S nf vX d4 d7 d8 d9 true false d14 d15 d16 d17 d18 v13 v16 v17 v18 v19 v22 v23 v24 v3 w) : Fr1 W S nf vX d4 d7 d8 d9 true true d14 d15 d16 d17 d18 v13 v16 v17 v18 v17 v22 v23 v24 v3 w :=
  ⟨h.bl, h.k0, h.f4, h.f7, h.f8, h.f9, h.o10, fun _ => ⟨rfl, rfl⟩, h.f14, fun e => no_tf (h.o15 e).2.2.1, fun e => no_tf (h.o15 (h.o16 e).1).2.2.1, h.f17, h.o18⟩
theorem Fr1.s14 {u : Value} (h : Fr1 W S nf vX d4 d7 d8 d9 d10 d11 false d15 d16 d17 d18 v13 v16 v17 v18 v19 v22 v23 v24 v3 w) (hb : Below w.heap.size w w') (hn : RowM w' W.heap.size S u) : Fr1 W S nf vX d4 d7 d8 d9 d10 d11 true d15 d16 d17 d18 v13 v16 v17 v18 v19 u v23 v24 v3 w' := by
  have k := h.keep hb
  exact ⟨k.bl, k.k0, k.f4, k.f7, k.f8, k.f9, k.o10, k.o11, fun _ => hn, fun e => no_tf (k.o15 e).2.2.2.1, fun e => no_tf (k.o15 (k.o16 e).1).2.2.2.1, k.f17, k.o18⟩
theorem Fr1.s15 {u : Value} (h : Fr1 W S nf vX true true d8 d9 d10 true true false d16 d17 d18 v13 v16 v17 v18 v19 v22 v23 v24 v3 w) (hu : u = .agg (mk0 vX v13 v16 v17 v22)) : Fr1 W S nf vX true true d8 d9 d10 true true true d16 d17 d18 v13 v16 v17 v18 v19 v22 u v24 v3 w :=
  ⟨h.bl, h.k0, h.f4, h.f7, h.f8, h.f9, h.o10, h.o11, h.f14, fun _ => ⟨rfl, rfl, rfl, rfl, hu⟩, fun e => no_tf (h.o16 e).1, h.f17, h.o18⟩
theorem Fr1.s16 {u : Value} (h : Fr1 W S nf vX d4 d7 d8 d9 d10 d11 d14 true false d17 d18 v13 v16 v17 v18 v19 v22 v23 v24 v3 w) (hb : Below w.heap.size w w') (hn : MkF w' W.heap.size (mk0 vX v13 v16 v17 v22) u) : Fr1 W S nf vX d4 d7 d8 d9 d10 d11 d14 true true d17 d18 v13 v16 v17 v18 v19 v22 v23 u v3 w' := by
  have k := h.keep hb
  have h18 : d18 = false := by cases hd : d18 with
    | false => rfl
    | true => exact no_tf (k.o18 hd).1
  subst h18
  exact ⟨k.bl, k.k0, k.f4, k.f7, k.f8, k.f9, k.o10, k.o11, k.f14, k.o15, fun _ => ⟨rfl, hn⟩, k.f17, fun e => no_tf e⟩
theorem Fr1.s17 {u : Value} (h : Fr1 W S nf vX d4 d7 d8 d9 d10 d11 d14 d15 d16 false d18 v13 v16 v17 v18 v19 v22 v23 v24 v3 w) (hb : Below w.heap.size w w') (hn : VarF w' W.heap.size u (.pointer none)) : Fr1 W S nf vX d4 d7 d8 d9 d10 d11 d14 d15 d16 true d18 v13 v16 v17 v18 v19 v22 v23 v24 u w' := by
  have k := h.keep hb
  have h18 : d18 = false := by cases hd : d18 with
    | false => rfl
    | true => exact no_tf (k.o18 hd).2
  subst h18
  exact ⟨k.bl, k.k0, k.f4, k.f7, k.f8, k.f9, k.o10, k.o11, k.f14, k.o15, k.o16, fun _ => hn, fun e => no_tf e⟩
theorem Fr1.s18 (h : Fr1 W S nf vX d4 d7 d8 d9 d10 d11 d14 d15 true true false v13 v16 v17 v18 v19 v22 v23 v24 v3 w) {b : Nat} (hv : v3 = .pointer (some ⟨b, 0, none⟩)) : Fr1 W S nf vX d4 d7 d8 d9 d10 d11 d14 d15 true true true v13 v16 v17 v18 v19 v22 v23 v24 v3 (w.setCell ⟨b, 0, none⟩ v24) := by
  obtain ⟨b', e, hb, hvb⟩ := h.f17 rfl
  rw [hv] at e
  obtain rfl : b = b' := by injection e with e; injection e with e; injection e
  have hk : ∀ (i : Nat) (o : Obj), w.heap[i]? = some o → (∀ cs, o ≠ .cells cs 57 (0, 0)) → (w.setCell ⟨b, 0, none⟩ v24).heap[i]? = w.heap[i]? := fun i o hw hn => set_keep w b 0 v24 i (fun e2 => by
    subst e2
    rw [hvb] at hw
    exact hn _ (Option.some.inj hw).symm)
  have ht : ∀ (t : TypeId), t ≠ 57 → ∀ (i : Nat) (cs : Array Value), w.heap[i]? = some (.cells cs t (0, 0)) → (w.setCell ⟨b, 0, none⟩ v24).heap[i]? = w.heap[i]? := fun t hne i cs e => hk i _ e (fun cs2 e2 => by injection e2 with _ e2 _; exact hne e2)
  have hnew := heap_setCell_same w b 0 _ _ v24 hvb
  exact ⟨bl_grown h.bl (grown_set w b 0 v24) (fun i e => by obtain rfl := Option.some.inj e; exact hb), (ht _ (by decide) _ _ h.k0).trans h.k0, fun e => (h.f4 e).keep (ht _ (by decide)), fun e => (h.f7 e).keep (ht _ (by decide)), fun e => (h.f8 e).keep (fun i es c e => hk i _ e (fun cs e2 => by cases e2)), h.f9, h.o10, h.o11, fun e => (h.f14 e).keep (ht _ (by decide)), h.o15, fun e => ⟨(h.o16 e).1, (h.o16 e).2.keep (ht _ (by decide))⟩, fun _ => ⟨b, hv, hb, by rw [if_pos rfl]; exact hnew⟩, fun _ => ⟨rfl, rfl⟩⟩
end

/-- All but the two tables stays, below b0. -/
structure KpL (W w : World) (b0 gf ge : Nat) (W' : World) : Prop where
  low : Below W.heap.size W W'
  size : b0 ≤ W'.heap.size
  keep : ∀ i, i < b0 → i ≠ gf → i ≠ ge → W'.heap[i]? = w.heap[i]?
theorem KpL.below {W w W' W'' : World} {b0 gf ge : Nat} (h : KpL W w b0 gf ge W') (hb : Below W'.heap.size W' W'') : KpL W w b0 gf ge W'' :=
  ⟨bl_trans h.low hb, Nat.le_trans h.size hb.size, fun i hi h1 h2 => (hb.block i (by have := h.size; omega)).trans (h.keep i hi h1 h2)⟩
theorem KpL.grown {W w W' W'' : World} {b0 gf ge : Nat} {r : Option Nat} (h : KpL W w b0 gf ge W') (hw : W.heap.size ≤ b0) (hg : W'.grownBy W'' r) (hr : ∀ i, r = some i → b0 ≤ i) : KpL W w b0 gf ge W'' :=
  ⟨bl_grown h.low hg (fun i e => Nat.le_trans hw (hr i e)), Nat.le_trans h.size hg.size, fun i hi h1 h2 => (hg.block i (by have := h.size; omega) (fun e => by have := hr i e.symm; omega)).trans (h.keep i hi h1 h2)⟩
theorem KpL.set {W w W' : World} {b0 gf ge q j : Nat} {v : Value} (h : KpL W w b0 gf ge W') (hq : W.heap.size ≤ q) (h2 : q = gf ∨ q = ge) : KpL W w b0 gf ge (W'.setCell ⟨q, j, none⟩ v) :=
  ⟨bl_grown h.low (grown_set W' q j v) (fun i e => by obtain rfl := Option.some.inj e; exact hq), Nat.le_trans h.size (grown_set W' q j v).size, fun i hi h3 h4 => (set_keep W' q j v i (fun e => by subst e; exact h2.elim h3 h4)).trans (h.keep i hi h3 h4)⟩
theorem cellsEs_snoc (l : List Ed) (e : Ed) : cellsEs (l ++ [e]) = cellsEs l ++ cellsE e := by simp [cellsEs]
theorem yields_agg {ops : Array Oper} {S : World → Prop} {op : Oper} {a : Act} (hw : Region.wanted op (yielded ops a.tmps) = true) (ty : TypeId) (k : Nat) (x : Operand) (ho : op.op = .load ty x) (ad : Addr) (hx : a.eval x = .pointer (some ad)) (vs : List Value)
    (hagg : ∀ w, (isAgg ty).run Tryz.prog w = .ok true w) (hsz : ∀ w, (sizeOf ty).run Tryz.prog w = .ok k w) (hk : vs.length = k) (hS : ∀ w, S w → ∀ j u, vs[j]? = some u → w.cell? (ad.add j) = some u) : YieldsIf Tryz.prog ops S op (.agg vs.toArray) a :=
  .inl ⟨hw, fun w hw' => by
    unfold execOp
    simp only [ho, hx, Instr.loadAt, Instr.sureAddr, Sem.run_bind, Sem.run_pure, Result.andThen_ok, run_load_part ty k w ad vs (hagg w) (hsz w) hk (hS w hw')]⟩
theorem wp_bs_of_run {o : Oper} {a : Act} {w : World} {K : Act → World → Prop} {Q : Exit → Act → World → Prop} (t : TypeId) (n : Nat) (ps : Array (Nat × Operand)) (ho : o.op = .buildSlice t n ps) {qs : Array (Nat × Value)} (hq : ps.map (fun (i, x) => (i, a.eval x)) = qs) {v' : Value} {w' : World}
    (hrun : (Instr.buildSlice t n qs).run Tryz.prog w = .ok v' w') (h : K (a.put o.dst v') w') : o.wp Tryz.prog a w K Q := by
  unfold Oper.wp execOp
  simp only [ho, hq, Sem.run_bind, Sem.run_pure, Result.andThen_ok, hrun]
  exact h
theorem one_edge (w : World) (a b : Int) (c d e f : Int) (q : Bool) : (Instr.buildSlice 22 1 #[(0, .agg #[.int .i64 a, .int .i64 b, .int .u64 c, .int .u64 d, .int .u64 e, .int .u64 f, .bool q])]).run Tryz.prog w =
    .ok (.slice (some ⟨w.heap.size, 0, none⟩) 1 1) (w.alloc (.cells #[.int .i64 a, .int .i64 b, .int .u64 c, .int .u64 d, .int .u64 e, .int .u64 f, .bool q] 53)) := by kernel_rfl
/-- What holds between two classes. -/
structure Lo2 (W w2 : World) (g : Nat) (wr : World) (vl : Value) (ds : List Nat) (cs : Array Value) (us : List Value) : Prop where
  low : Below W.heap.size W wr
  size : w2.heap.size ≤ wr.heap.size
  keep : ∀ i, i < w2.heap.size → i ≠ g → wr.heap[i]? = w2.heap[i]?
  mkb : wr.heap[g]? = some (.cells cs 63 (0, 0))
  own : wr.ownsRow w2.heap.size 5 1 vl us.length us
  nd : ds.Nodup
  df : ∀ D ∈ ds, w2.heap.size ≤ D ∧ wr.heap[D]? = some (.deferred (some []))
theorem Lo2.below {W w2 : World} {g : Nat} {wr w' : World} {vl : Value} {ds : List Nat} {cs : Array Value} {us : List Value} (h : Lo2 W w2 g wr vl ds cs us) (hb : Below wr.heap.size wr w') : Lo2 W w2 g w' vl ds cs us :=
  ⟨bl_trans h.low hb, Nat.le_trans h.size hb.size, fun i hi hne => (hb.block i (by have := h.size; omega)).trans (h.keep i hi hne), (hb.block g (Array.getElem?_eq_some_iff.1 h.mkb).1).trans h.mkb, owns_keep h.own (fun i hi => hb.block i (World.ownsRow.lt h.own i hi).2), h.nd,
    fun D hD => ⟨(h.df D hD).1, (hb.block D (Array.getElem?_eq_some_iff.1 (h.df D hD).2).1).trans (h.df D hD).2⟩⟩
theorem H4.part {w : World} {g : Nat} {c : S4} (h : H4 w g c.f) : ∀ (j : Nat) u, [Value.int .u64 (c.w0.toNat : Int), .int .u64 (c.w1.toNat : Int), .int .u64 (c.w2.toNat : Int), .int .u64 (c.w3.toNat : Int)][j]? = some u → w.cell? ((⟨g, 0, none⟩ : Addr).add j) = some u := fun j u hu => by
  rw [addr_mk, cell_of_row w g _ _ _ _ h]
  match j, hu with
  | 0, hu => exact hu
  | 1, hu => exact hu
  | 2, hu => exact hu
  | 3, hu => exact hu
  | n + 4, hu => simp at hu
theorem Lo2.mkd {W w2 : World} {g : Nat} {wr w' : World} {vl : Value} {ds : List Nat} {cs cs' : Array Value} {us : List Value} (h : Lo2 W w2 g wr vl ds cs us) (hg : wr.grownBy w' (some g)) (hgb : W.heap.size ≤ g) (hlt : g < w2.heap.size) (hm : w'.heap[g]? = some (.cells cs' 63 (0, 0))) : Lo2 W w2 g w' vl ds cs' us := by
  have kp : ∀ i, i < wr.heap.size → i ≠ g → w'.heap[i]? = wr.heap[i]? := fun i hi hne => hg.block i hi (fun e => hne (Option.some.inj e))
  refine ⟨bl_grown h.low hg (fun i e => by obtain rfl := Option.some.inj e; exact hgb), Nat.le_trans h.size hg.size, fun i hi hne => (kp i (by have := h.size; omega) hne).trans (h.keep i hi hne), hm, owns_keep h.own (fun i hi => ?_), h.nd, fun D hD => ?_⟩
  · have h1 := World.ownsRow.lt h.own i hi
    exact kp i h1.2 (by omega)
  · have h1 := h.df D hD
    exact ⟨h1.1, (kp D (Array.getElem?_eq_some_iff.1 h1.2).1 (by omega)).trans h1.2⟩
theorem Lo2.mark {W w2 : World} {g : Nat} {wr : World} {vl : Value} {ds : List Nat} {cs : Array Value} {us : List Value} (h : Lo2 W w2 g wr vl ds cs us) {D : Nat} (hD : w2.heap.size ≤ D) (hn : D ∉ ds) (hf : wr.heap[D]? = some (.deferred (some []))) : Lo2 W w2 g wr vl (D :: ds) cs us :=
  ⟨h.low, h.size, h.keep, h.mkb, h.own, List.nodup_cons.2 ⟨hn, h.nd⟩, fun D' hD' => by
    rcases List.mem_cons.1 hD' with rfl | h2
    · exact ⟨hD, hf⟩
    · exact h.df D' h2⟩
theorem Lo2.app {W w2 : World} {g : Nat} {wr w' : World} {vl v' : Value} {ds : List Nat} {cs : Array Value} {us : List Value} {x : Value} (h : Lo2 W w2 g wr vl ds cs us) (hw : W.heap.size ≤ w2.heap.size) (hlt : g < w2.heap.size) (hg : wr.grownBy w' vl.ownBlock) (ho : w'.ownsRow w2.heap.size 5 1 v' (us.length + 1) (us ++ [x])) : Lo2 W w2 g w' v' ds cs (us ++ [x]) := by
  have hb : ∀ i, vl.ownBlock = some i → w2.heap.size ≤ i ∧ i < wr.heap.size := World.ownsRow.lt h.own
  have kp : ∀ i, i < w2.heap.size → w'.heap[i]? = wr.heap[i]? := fun i hi => hg.block i (by have := h.size; omega) (fun e => by have := (hb i e.symm).1; omega)
  refine ⟨bl_grown h.low hg (fun i e => Nat.le_trans hw (hb i e).1), Nat.le_trans h.size hg.size, fun i hi hne => (kp i hi).trans (h.keep i hi hne), (kp g hlt).trans h.mkb, by rw [List.length_append, List.length_singleton]; exact ho, h.nd, fun D hD => ?_⟩
  have h1 := h.df D hD
  refine ⟨h1.1, (hg.block D (Array.getElem?_eq_some_iff.1 h1.2).1 (fun e => ?_)).trans h1.2⟩
  rcases h.own.2 with ⟨e4, _⟩ | ⟨g4, cap4, cur4, e4, _, hg4, _⟩
  · rw [e4] at e; exact own_none D e.symm
  · rw [e4] at e
    obtain rfl : g4 = D := (Option.some.inj e).symm
    rw [h1.2] at hg4
    cases hg4
theorem Lo2.typ {W w2 : World} {g : Nat} {wr : World} {vl : Value} {ds : List Nat} {cs : Array Value} {us : List Value} (h : Lo2 W w2 g wr vl ds cs us) {q : Nat} (e : vl.ownBlock = some q) : ∃ cs, wr.heap[q]? = some (.cells cs 5 (0, 0)) := by
  rcases h.own.2 with ⟨e4, _⟩ | ⟨g4, cap4, cur4, e4, _, hg4, _⟩
  · rw [e4] at e; exact absurd e (own_none q)
  · rw [e4] at e
    obtain rfl : g4 = q := Option.some.inj e
    exact ⟨cur4, hg4⟩
theorem info_byte : (Tryz.prog.info? 5).map (fun i => (i.zero, i.size, i.bytes)) = some (some (.int .u8 0), 1, 1) := by kernel_rfl
theorem info_edges : (Tryz.prog.info? 22).map (fun i => (i.zero, i.size, i.bytes)) = some (some (.slice none 0 0), 1, 24) := by kernel_rfl
theorem wp_make_of_run {o : Oper} {a : Act} {w : World} {K : Act → World → Prop} {Q : Exit → Act → World → Prop} (t : TypeId) (l c : Operand) (ho : o.op = .makeSlice t l c) {x y : Value} (hl : a.eval l = x) (hc : a.eval c = y) {v' : Value} {w' : World}
    (hrun : (Instr.makeSlice t x y).run Tryz.prog w = .ok v' w') (h : K (a.put o.dst v') w') : o.wp Tryz.prog a w K Q := by
  unfold Oper.wp execOp
  simp only [ho, hl, hc, Sem.run_bind, Sem.run_pure, Result.andThen_ok, hrun]
  exact h
theorem wp_build_of_run {o : Oper} {a : Act} {w : World} {K : Act → World → Prop} {Q : Exit → Act → World → Prop} (t : TypeId) (ps : Array (Nat × Operand)) (ho : o.op = .build t ps) {qs : Array (Nat × Value)} (hq : ps.map (fun (i, x) => (i, a.eval x)) = qs) {v' : Value} {w' : World}
    (hrun : (Instr.build t qs).run Tryz.prog w = .ok v' w') (h : K (a.put o.dst v') w') : o.wp Tryz.prog a w K Q := by
  unfold Oper.wp execOp
  simp only [ho, hq, Sem.run_bind, Sem.run_pure, Result.andThen_ok, hrun]
  exact h
theorem wp_box_of_run {o : Oper} {a : Act} {w : World} {K : Act → World → Prop} {Q : Exit → Act → World → Prop} (t : TypeId) (x : Operand) (ho : o.op = .box t x) {y : Value} (hx : a.eval x = y) {v' : Value} {w' : World}
    (hrun : (Instr.box t y).run Tryz.prog w = .ok v' w') (h : K (a.put o.dst v') w') : o.wp Tryz.prog a w K Q := by
  unfold Oper.wp execOp
  simp only [ho, hx, Sem.run_bind, Sem.run_pure, Result.andThen_ok, hrun]
  exact h
theorem box_agg (t : TypeId) (cs : Array Value) (w : World) : (Instr.box t (.agg cs)).run Tryz.prog w = .ok (.pointer (some ⟨w.heap.size, 0, none⟩)) (w.alloc (.cells cs t)) := rfl
theorem wp_insert_of_run {o : Oper} {a : Act} {w : World} {K : Act → World → Prop} {Q : Exit → Act → World → Prop} (t : TypeId) (m k x : Operand) (ho : o.op = .insert t m k x) {vm vk vx : Value} (hm : a.eval m = vm) (hk : a.eval k = vk) (hx : a.eval x = vx) {w' : World}
    (hrun : (Instr.mapUpdate t vm vk vx).run Tryz.prog w = .ok () w') (h : K (a.put o.dst undef) w') : o.wp Tryz.prog a w K Q := by
  unfold Oper.wp execOp
  simp only [ho, hm, hk, hx, Sem.run_bind, Sem.run_pure, Result.andThen_ok, hrun]
  exact h
set_option maxRecDepth 100000 in
set_option maxHeartbeats 4000000 in
theorem maker_any (S : Nat) (E : List Ed) (X : List Int) (Ae Ax : Option Addr) (ne ce nx cx : Nat) (hne : E.length = ne) (hce : ne ≤ ce) (hs1 : 1 ≤ S) (hs2 : S ≤ 2048) (hed : EdN S E) (hne2 : ne ≤ 8192) (W : World) (hr : RdE W Ae E) (hT : Tab W) :
    Calls Tryz.prog 29 #[.agg #[.int .i64 (S : Int), .slice Ae ne ce, .slice Ax nx cx]] W (GotMk W S E X Ax nx cx) := by
  generalize hQ : GotMk W S E X Ax nx cx = R
  have HQ := Lib.hid hQ
  clear hQ
  have HR := Lib.hid hr
  have HED := Lib.hid hed
  have HN := Lib.hid hne
  have HT := Lib.hid hT
  clear hr hed hne hT
  refine (callsIn_wide (n := 4)).1 ?_
  refine callsIn_of_wp_marks Tryz.func29 rfl trivial (wpIn_wide.2 (Code.wp_mono bodyQ_ok ?_)) rfl
  simp only [Tryz.ntmps29, List.size_toArray, List.length_cons, List.length_nil, Nat.reduceAdd, Nat.reduceSub, Array.replicate_succ, Array.replicate_zero, List.push_toArray, List.append_toArray, List.nil_append, List.cons_append]
  go_wp2_with fail
  have KB := heap_alloc_new W (.cells #[.int .i64 (S : Int), .slice Ae ne ce, .slice Ax nx cx] 25)
  refine wp_region_held_drew (S := fun wS => wS.heap[W.heap.size]? = some (.cells #[.int .i64 (S : Int), .slice Ae ne ce, .slice Ax nx cx] 25 (0, 0))) (by kernel_rfl) KB (fun hHeld => ?_)
  try simp only [zzA, zzB, zzC, Act.put, zzD, zzE, zzF]
  refine wpAnyH_take (i := 0) (v := ?vza0) rfl (by kernel_rfl) (by kernel_rfl) (by kernel_rfl) (fun _ _ _ h => h) (Or.inl ⟨by rfl, ?yza0⟩) hHeld ?rza0
  case yza0 => (intro wS hSw; clear hSw; go_simp; try (with_reducible rfl))
  try simp only [zzA, zzB, zzC, Act.put, zzD, zzE, zzF]
  refine wpAnyH_take (i := 1) (v := ?vza1) rfl (by kernel_rfl) (by kernel_rfl) (by kernel_rfl) (fun _ _ _ h => h) (Or.inl ⟨by rfl, ?yza1⟩) hHeld ?rza1
  case yza1 => (intro wS hSw; have q := cell_of_row wS W.heap.size 2 _ _ _ hSw; clear hSw; go_simp; try (with_reducible rfl))
  try simp only [zzA, zzB, zzC, Act.put, zzD, zzE, zzF]
  refine wpAnyH_take (i := 2) (v := ?vza2) rfl (by kernel_rfl) (by kernel_rfl) (by kernel_rfl) (fun _ _ _ h => h) (Or.inl ⟨by rfl, ?yza2⟩) hHeld ?rza2
  case yza2 => (intro wS hSw; clear hSw; go_simp; try (with_reducible rfl))
  try simp only [zzA, zzB, zzC, Act.put, zzD, zzE, zzF]
  refine wpAnyH_take (i := 3) (v := ?vza3) rfl (by kernel_rfl) (by kernel_rfl) (by kernel_rfl) (fun _ _ _ h => h) (Or.inl ⟨by rfl, ?yza3⟩) hHeld ?rza3
  case yza3 => (intro wS hSw; have q := cell_of_row wS W.heap.size 0 _ _ _ hSw; clear hSw; go_simp; try (with_reducible rfl))
  try simp only [zzA, zzB, zzC, Act.put, zzD, zzE, zzF]
  refine wpAnyH_take (i := 5) (v := ?vza5) rfl (by kernel_rfl) (by kernel_rfl) (by kernel_rfl) (fun _ _ _ h => h) (Or.inl ⟨by rfl, ?yza5⟩) hHeld ?rza5
  case yza5 => (intro wS hSw; clear hSw; go_simp; try (with_reducible rfl))
  try simp only [zzA, zzB, zzC, Act.put, zzD, zzE, zzF]
  refine wpAnyH_take (i := 6) (v := ?vza6) rfl (by kernel_rfl) (by kernel_rfl) (by kernel_rfl) (fun _ _ _ h => h) (Or.inl ⟨by rfl, ?yza6⟩) hHeld ?rza6
  case yza6 => (intro wS hSw; have q := cell_of_row wS W.heap.size 0 _ _ _ hSw; clear hSw; go_simp; try (with_reducible rfl))
  try simp only [zzA, zzB, zzC, Act.put, zzD, zzE, zzF]
  refine wpAnyH_take (i := 12) (v := ?vza12) rfl (by kernel_rfl) (by kernel_rfl) (by kernel_rfl) (fun _ _ _ h => h) (Or.inl ⟨by rfl, ?yza12⟩) hHeld ?rza12
  case yza12 => (intro wS hSw; clear hSw; go_simp; try (with_reducible rfl))
  try simp only [zzA, zzB, zzC, Act.put, zzD, zzE, zzF]
  refine wpAnyH_take (i := 13) (v := ?vza13) rfl (by kernel_rfl) (by kernel_rfl) (by kernel_rfl) (fun _ _ _ h => h) (Or.inl ⟨by rfl, ?yza13⟩) hHeld ?rza13
  case yza13 => (intro wS hSw; have q := cell_of_row wS W.heap.size 0 _ _ _ hSw; clear hSw; go_simp; try (with_reducible rfl))
  try simp only [zzA, zzB, zzC, Act.put, zzD, zzE, zzF]
  refine wpAnyH_inv (I := fun fuel listed a w => ∃ (d4 d7 d8 d9 d10 d11 d14 d15 d16 d17 d18 : Bool) (v13 v16 v17 v18 v19 v22 v23 v24 v3 : Value), fuel = (!d4).toNat + (!d7).toNat + (!d8).toNat + (!d9).toNat + (!d10).toNat + (!d11).toNat + (!d14).toNat + (!d15).toNat + (!d16).toNat + (!d17).toNat + (!d18).toNat ∧ listed = #[true, true, true, true, d4, true, true, d7, d8, d9, d10, d11, true, true, d14, d15, d16, d17, d18] ∧ a = { tmps := #[.agg #[.int .i64 (S : Int), .slice Ae ne ce, .slice Ax nx cx], .pointer (some ⟨W.heap.size, 0, none⟩), .pointer none, v3, undef, undef, undef, undef, undef, .pointer (some ⟨W.heap.size, 2, none⟩), .slice Ax nx cx, .pointer (some ⟨W.heap.size, 0, none⟩), .int .i64 (S : Int), v13, .pointer (some ⟨W.heap.size, 0, none⟩), .int .i64 (S : Int), v16, v17, v18, v19, .pointer (some ⟨W.heap.size, 0, none⟩), .int .i64 (S : Int), v22, v23, v24, undef, undef, undef, undef, undef, undef, undef, undef, undef, undef, undef, undef, undef, undef, undef, undef, undef, undef, undef, undef, undef, undef, undef, undef, undef, undef, undef, undef, undef, undef, undef, undef, undef, undef, undef, undef, undef, undef, undef, undef, undef, undef, undef, undef, undef, undef, undef, undef, undef, undef, undef, undef, undef, undef, undef, undef, undef, undef, undef, undef, undef, undef, undef, undef, undef, undef, undef, undef, undef, undef, undef, undef, undef, undef, undef, undef, undef, undef, undef], defers := [] } ∧ Fr1 W S #[.int .i64 (S : Int), .slice Ae ne ce, .slice Ax nx cx] (.slice Ax nx cx) d4 d7 d8 d9 d10 d11 d14 d15 d16 d17 d18 v13 v16 v17 v18 v19 v22 v23 v24 v3 w) ?step ?fin _ _ _ _ ?beg
  case beg =>
    refine ⟨false, false, false, false, false, false, false, false, false, false, false, undef, undef, undef, undef, undef, undef, undef, undef, undef, rfl, rfl, rfl, ?_⟩
    exact ⟨bl_drewN (bl_alloc (Below.refl W.heap.size W) _) 1, KB, fun e => no_tf e, fun e => no_tf e, fun e => no_tf e, fun e => no_tf e, fun e => no_tf e, fun e => no_tf e, fun e => no_tf e, fun e => no_tf e, fun e => no_tf e, fun e => no_tf e, fun e => no_tf e⟩
  case step =>
    rintro fuel listed a w ⟨d4, d7, d8, d9, d10, d11, d14, d15, d16, d17, d18, v13, v16, v17, v18, v19, v22, v23, v24, v3, hc, rfl, rfl, F⟩
    refine ⟨?_, fun i hi => ?_⟩
    · have h0 : (!d4).toNat + (!d7).toNat + (!d8).toNat + (!d9).toNat + (!d10).toNat + (!d11).toNat + (!d14).toNat + (!d15).toNat + (!d16).toNat + (!d17).toNat + (!d18).toNat ≠ 0 := by omega
      clear hc F
      revert h0
      revert d4 d7 d8 d9 d10 d11 d14 d15 d16 d17 d18
      decide +kernel
    · obtain ⟨h1, h2⟩ := List.mem_filter.1 (show i ∈ List.filter _ (List.range _) from hi)
      have h1 : i < 19 := List.mem_range.1 h1
      clear hi
      match i, h1, h2 with
      | 0, _, h2 => exact no_tf h2
      | 1, _, h2 => exact no_tf h2
      | 2, _, h2 => exact no_tf h2
      | 3, _, h2 => exact no_tf h2
      | 4, _, h2 =>
        cases d4 with
        | true => (refine no_tf (Eq.trans ?_ h2); kernel_rfl)
        | false =>
        clear h2
        refine wpOp_one rfl (fun K HK => ?_)
        rw [if_pos (by rfl)]
        refine wp_make_of_run 31 (.tmp 12) (.tmp 12) rfl rfl rfl (make_rows 31 23 Tryz.underlying31 info_ints S (S : Int) rfl (by omega) w) ?_
        have F2 := F.s4 (bl_alloc (Below.refl w.heap.size w) (.cells (rowV S (fun _ => .slice none 0 0)) 23)) ⟨w.heap.size, rfl, heap_alloc_new w _, F.bl.size⟩
        exact HK.out _ _ ⟨F2.k0, true, d7, d8, d9, d10, d11, d14, d15, d16, d17, d18, _, v16, v17, v18, v19, v22, v23, v24, v3, (by simp only [Bool.not_false, Bool.not_true, Bool.toNat_true, Bool.toNat_false] at hc ⊢; omega), rfl, rfl, F2⟩
      | 5, _, h2 => exact no_tf h2
      | 6, _, h2 => exact no_tf h2
      | 7, _, h2 =>
        cases d7 with
        | true => (refine no_tf (Eq.trans ?_ h2); kernel_rfl)
        | false =>
        clear h2
        refine wpOp_one rfl (fun K HK => ?_)
        rw [if_pos (by rfl)]
        refine wp_make_of_run 60 (.tmp 15) (.tmp 15) rfl rfl rfl (make_rows 60 22 Tryz.underlying60 info_edges S (S : Int) rfl (by omega) w) ?_
        have F2 := F.s7 (bl_alloc (Below.refl w.heap.size w) (.cells (rowV S (fun _ => .slice none 0 0)) 22)) ⟨w.heap.size, rfl, heap_alloc_new w _, F.bl.size⟩
        exact HK.out _ _ ⟨F2.k0, d4, true, d8, d9, d10, d11, d14, d15, d16, d17, d18, v13, _, v17, v18, v19, v22, v23, v24, v3, (by simp only [Bool.not_false, Bool.not_true, Bool.toNat_true, Bool.toNat_false] at hc ⊢; omega), rfl, rfl, F2⟩
      | 8, _, h2 =>
        cases d8 with
        | true => (refine no_tf (Eq.trans ?_ h2); kernel_rfl)
        | false =>
        clear h2
        refine wpOp_one rfl (fun K HK => ?_)
        rw [if_pos (by rfl)]
        go_simp
        have F2 := F.s8 (bl_alloc (Below.refl w.heap.size w) (.map #[] 0)) ⟨w.heap.size, rfl, F.bl.size, ⟨_, _, World.alloc_heap_new w _⟩, fun _ => World.ownsMap_made w Tryz.prog 9 (plainElem Tryz.prog 3), fun e => (by cases e)⟩
        exact HK.out _ _ ⟨F2.k0, d4, d7, true, d9, d10, d11, d14, d15, d16, d17, d18, v13, v16, _, v18, v19, v22, v23, v24, v3, (by simp only [Bool.not_false, Bool.not_true, Bool.toNat_true, Bool.toNat_false] at hc ⊢; omega), rfl, rfl, F2⟩
      | 9, _, h2 =>
        cases d9 with
        | true => (refine no_tf (Eq.trans ?_ h2); kernel_rfl)
        | false =>
        clear h2
        refine wpOp_one rfl (fun K HK => ?_)
        rw [if_pos (by rfl)]
        go_simp
        go_at_call 52
        refine (text_any [] none 0 0 rfl (by omega) w (fun i hi => absurd hi (by simp))).mono ?_
        rintro e w2 ⟨rfl, hb⟩
        have F2 := F.s9 hb
        exact HK.out _ _ ⟨F2.k0, d4, d7, d8, true, d10, d11, d14, d15, d16, d17, d18, v13, v16, v17, _, v19, v22, v23, v24, v3, (by simp only [Bool.not_false, Bool.not_true, Bool.toNat_true, Bool.toNat_false] at hc ⊢; omega), rfl, rfl, F2⟩
      | 10, _, h2 =>
        cases d10 with
        | true => (refine no_tf (Eq.trans ?_ h2); kernel_rfl)
        | false =>
        cases d8 with
        | false => (refine no_tf (Eq.trans ?_ h2); kernel_rfl)
        | true =>
        cases d9 with
        | false => (refine no_tf (Eq.trans ?_ h2); kernel_rfl)
        | true =>
        clear h2
        refine wpOp_one rfl (fun K HK => ?_)
        rw [if_pos (by rfl)]
        have h9 := F.f9 rfl
        subst h9
        obtain ⟨gm, e, hb, _, hm, _⟩ := F.f8 rfl
        subst e
        obtain ⟨w2, hrun, hmd, hg⟩ := map_first (hm rfl)
        refine wp_insert_of_run 61 (.tmp 17) (.tmp 18) _ rfl rfl rfl rfl hrun ?_
        have F2 := F.s10 rfl hg hmd
        exact HK.out _ _ ⟨F2.k0, d4, d7, true, true, true, d11, d14, d15, d16, d17, d18, v13, v16, _, _, v19, v22, v23, v24, v3, (by simp only [Bool.not_false, Bool.not_true, Bool.toNat_true, Bool.toNat_false] at hc ⊢; omega), rfl, rfl, F2⟩
      | 11, _, h2 =>
        cases d11 with
        | true => (refine no_tf (Eq.trans ?_ h2); kernel_rfl)
        | false =>
        cases d8 with
        | false => (refine no_tf (Eq.trans ?_ h2); kernel_rfl)
        | true =>
        cases d9 with
        | false => (refine no_tf (Eq.trans ?_ h2); kernel_rfl)
        | true =>
        cases d10 with
        | false => (refine no_tf (Eq.trans ?_ h2); kernel_rfl)
        | true =>
        clear h2
        refine wpOp_one rfl (fun K HK => ?_)
        rw [if_pos (by rfl)]
        go_simp
        have F2 := F.s11
        exact HK.out _ _ ⟨F2.k0, d4, d7, true, true, true, true, d14, d15, d16, d17, d18, v13, v16, v17, v18, _, v22, v23, v24, v3, (by simp only [Bool.not_false, Bool.not_true, Bool.toNat_true, Bool.toNat_false] at hc ⊢; omega), rfl, rfl, F2⟩
      | 12, _, h2 => exact no_tf h2
      | 13, _, h2 => exact no_tf h2
      | 14, _, h2 =>
        cases d14 with
        | true => (refine no_tf (Eq.trans ?_ h2); kernel_rfl)
        | false =>
        clear h2
        refine wpOp_one rfl (fun K HK => ?_)
        rw [if_pos (by rfl)]
        refine wp_make_of_run 23 (.tmp 21) (.tmp 21) rfl rfl rfl (make_ints S (S : Int) rfl (by omega) w) ?_
        have F2 := F.s14 (bl_alloc (Below.refl w.heap.size w) (.cells (rowN S (fun _ => 0)) 3)) ⟨w.heap.size, rfl, heap_alloc_new w _, F.bl.size⟩
        exact HK.out _ _ ⟨F2.k0, d4, d7, d8, d9, d10, d11, true, d15, d16, d17, d18, v13, v16, v17, v18, v19, _, v23, v24, v3, (by simp only [Bool.not_false, Bool.not_true, Bool.toNat_true, Bool.toNat_false] at hc ⊢; omega), rfl, rfl, F2⟩
      | 15, _, h2 =>
        cases d15 with
        | true => (refine no_tf (Eq.trans ?_ h2); kernel_rfl)
        | false =>
        cases d4 with
        | false => (refine no_tf (Eq.trans ?_ h2); kernel_rfl)
        | true =>
        cases d7 with
        | false => (refine no_tf (Eq.trans ?_ h2); kernel_rfl)
        | true =>
        cases d11 with
        | false => (refine no_tf (Eq.trans ?_ h2); kernel_rfl)
        | true =>
        cases d14 with
        | false => (refine no_tf (Eq.trans ?_ h2); kernel_rfl)
        | true =>
        clear h2
        obtain rfl := (F.o11 rfl).1
        refine wpOp_one rfl (fun K HK => ?_)
        rw [if_pos (by rfl)]
        have e19 := (F.o11 rfl).2
        have e8 := (F.o10 rfl).1
        obtain ⟨b4, e4, _⟩ := F.f4 rfl
        obtain ⟨b7, e7, _⟩ := F.f7 rfl
        obtain ⟨b14, e14, _⟩ := F.f14 rfl
        obtain ⟨gm, e17, _⟩ := F.f8 e8
        clear e8
        subst e19 e4 e7 e14 e17
        refine wp_build_of_run 63 _ rfl (qs := #[(1, .slice Ax nx cx), (2, .slice (some ⟨b4, 0, none⟩) S S), (3, .slice (some ⟨b7, 0, none⟩) S S), (6, .map (some gm)), (7, .slice (some ⟨b14, 0, none⟩) S S)]) (by kernel_rfl) (build_mk w Ax (some ⟨b4, 0, none⟩) (some ⟨b7, 0, none⟩) (some ⟨b14, 0, none⟩) nx cx S S S S S S (some gm)) ?_
        have F2 := F.s15 (u := .agg (mk0 _ _ _ _ _)) rfl
        exact HK.out _ _ ⟨F2.k0, true, true, d8, d9, true, true, true, true, d16, d17, d18, _, _, _, v18, _, _, _, v24, v3, (by simp only [Bool.not_false, Bool.not_true, Bool.toNat_true, Bool.toNat_false] at hc ⊢; omega), rfl, rfl, F2⟩
      | 16, _, h2 =>
        cases d16 with
        | true => (refine no_tf (Eq.trans ?_ h2); kernel_rfl)
        | false =>
        cases d15 with
        | false => (refine no_tf (Eq.trans ?_ h2); kernel_rfl)
        | true =>
        clear h2
        refine wpOp_one rfl (fun K HK => ?_)
        rw [if_pos (by rfl)]
        have e23 := (F.o15 rfl).2.2.2.2
        subst e23
        refine wp_box_of_run 63 (.tmp 23) rfl rfl (box_agg 63 (mk0 (.slice Ax nx cx) v13 v16 v17 v22) w) ?_
        have F2 := F.s16 (bl_alloc (Below.refl w.heap.size w) (.cells (mk0 (.slice Ax nx cx) v13 v16 v17 v22) 63)) ⟨w.heap.size, rfl, F.bl.size, heap_alloc_new w _⟩
        exact HK.out _ _ ⟨F2.k0, d4, d7, d8, d9, d10, d11, d14, true, true, d17, d18, v13, v16, v17, v18, v19, v22, _, _, v3, (by simp only [Bool.not_false, Bool.not_true, Bool.toNat_true, Bool.toNat_false] at hc ⊢; omega), rfl, rfl, F2⟩
      | 17, _, h2 =>
        cases d17 with
        | true => (refine no_tf (Eq.trans ?_ h2); kernel_rfl)
        | false =>
        clear h2
        refine wpOp_one rfl (fun K HK => ?_)
        rw [if_pos (by rfl)]
        go_simp
        have F2 := F.s17 (bl_alloc (Below.refl w.heap.size w) (.cells #[.pointer none] 57)) ⟨w.heap.size, rfl, F.bl.size, heap_alloc_new w _⟩
        exact HK.out _ _ ⟨F2.k0, d4, d7, d8, d9, d10, d11, d14, d15, d16, true, d18, v13, v16, v17, v18, v19, v22, v23, v24, _, (by simp only [Bool.not_false, Bool.not_true, Bool.toNat_true, Bool.toNat_false] at hc ⊢; omega), rfl, rfl, F2⟩
      | 18, _, h2 =>
        cases d18 with
        | true => (refine no_tf (Eq.trans ?_ h2); kernel_rfl)
        | false =>
        cases d17 with
        | false => (refine no_tf (Eq.trans ?_ h2); kernel_rfl)
        | true =>
        cases d16 with
        | false => (refine no_tf (Eq.trans ?_ h2); kernel_rfl)
        | true =>
        clear h2
        refine wpOp_one rfl (fun K HK => ?_)
        rw [if_pos (by rfl)]
        obtain ⟨b3, e3, hb3, hv3⟩ := F.f17 rfl
        obtain ⟨g3, eg3, _⟩ := (F.o16 rfl).2
        subst e3 eg3
        have q1 := cell_of_row w b3 0 _ _ _ hv3
        have q2 := frozen_of_row w b3 0 _ _ hv3
        go_simp
        have F2 := F.s18 rfl
        exact HK.out _ _ ⟨F2.k0, d4, d7, d8, d9, d10, d11, d14, d15, true, true, true, v13, v16, v17, v18, v19, v22, v23, _, _, (by simp only [Bool.not_false, Bool.not_true, Bool.toNat_true, Bool.toNat_false] at hc ⊢; omega), rfl, rfl, F2⟩
      | q + 19, h1, _ => exact absurd h1 (by omega)
  case fin =>
    rintro listed a w ⟨d4, d7, d8, d9, d10, d11, d14, d15, d16, d17, d18, v13, v16, v17, v18, v19, v22, v23, v24, v3, hc, rfl, rfl, F⟩
    cases d4 with
    | false => (exfalso; simp only [Bool.not_false, Bool.toNat_true] at hc; omega)
    | true =>
    cases d7 with
    | false => (exfalso; simp only [Bool.not_false, Bool.toNat_true] at hc; omega)
    | true =>
    cases d8 with
    | false => (exfalso; simp only [Bool.not_false, Bool.toNat_true] at hc; omega)
    | true =>
    cases d9 with
    | false => (exfalso; simp only [Bool.not_false, Bool.toNat_true] at hc; omega)
    | true =>
    cases d10 with
    | false => (exfalso; simp only [Bool.not_false, Bool.toNat_true] at hc; omega)
    | true =>
    cases d11 with
    | false => (exfalso; simp only [Bool.not_false, Bool.toNat_true] at hc; omega)
    | true =>
    cases d14 with
    | false => (exfalso; simp only [Bool.not_false, Bool.toNat_true] at hc; omega)
    | true =>
    cases d15 with
    | false => (exfalso; simp only [Bool.not_false, Bool.toNat_true] at hc; omega)
    | true =>
    cases d16 with
    | false => (exfalso; simp only [Bool.not_false, Bool.toNat_true] at hc; omega)
    | true =>
    cases d17 with
    | false => (exfalso; simp only [Bool.not_false, Bool.toNat_true] at hc; omega)
    | true =>
    cases d18 with
    | false => (exfalso; simp only [Bool.not_false, Bool.toNat_true] at hc; omega)
    | true =>
    refine ⟨by kernel_rfl, ?_⟩
    clear hc hHeld KB
    obtain ⟨gf, e1, hvf, hgf⟩ := F.f4 rfl
    obtain ⟨ge, e2, hve, hge⟩ := F.f7 rfl
    obtain ⟨gr, e3, hgr, hgrb⟩ := F.f14 rfl
    obtain ⟨gm, e4, hgm, ⟨es0, c0, hmb⟩, _, hmd⟩ := F.f8 rfl
    have e5 := (F.o11 rfl).2
    obtain ⟨_, g, e6, hgb, hmk⟩ := F.o16 rfl
    obtain ⟨gv, e7, hgvb, hvar⟩ := F.f17 rfl
    rw [if_pos rfl] at hvar
    have hmd := hmd rfl
    have KB1 := F.k0
    have BL := F.bl
    have n1 : gf ≠ ge := ne_typ hvf hve (by decide)
    have n2 : gf ≠ g := ne_typ hvf hmk (by decide)
    have n3 : ge ≠ g := ne_typ hve hmk (by decide)
    have n4 : gf ≠ gv := ne_typ hvf hvar (by decide)
    have n5 : ge ≠ gv := ne_typ hve hvar (by decide)
    have n6 : gf ≠ gr := ne_typ hvf hgr (by decide)
    have n7 : ge ≠ gr := ne_typ hve hgr (by decide)
    have n8 : gr ≠ g := ne_typ hgr hmk (by decide)
    have n9 : gr ≠ gv := ne_typ hgr hvar (by decide)
    have n10 : g ≠ gv := ne_typ hmk hvar (by decide)
    have ncm : ∀ (i : Nat) cs t z, w.heap[i]? = some (.cells cs t z) → i ≠ gm := fun i cs t z h e => by
      rw [e, hmb] at h
      cases h
    have m1 : gf ≠ gm := ncm _ _ _ _ hvf
    have m2 : ge ≠ gm := ncm _ _ _ _ hve
    have m3 : gr ≠ gm := ncm _ _ _ _ hgr
    have m4 : g ≠ gm := ncm _ _ _ _ hmk
    have m5 : gv ≠ gm := ncm _ _ _ _ hvar
    have m6 : W.heap.size ≠ gf := ne_typ KB1 hvf (by decide)
    have m7 : W.heap.size ≠ ge := ne_typ KB1 hve (by decide)
    have kl : W.heap.size ≤ w.heap.size := BL.size
    have lg : g < w.heap.size := (Array.getElem?_eq_some_iff.1 hmk).1
    have lv : gv < w.heap.size := (Array.getElem?_eq_some_iff.1 hvar).1
    have lm : gm < w.heap.size := (Array.getElem?_eq_some_iff.1 hmb).1
    have lr : gr < w.heap.size := (Array.getElem?_eq_some_iff.1 hgr).1
    have lk : W.heap.size < w.heap.size := (Array.getElem?_eq_some_iff.1 KB1).1
    clear ncm hmb
    subst e5
    subst e1 e2 e3 e4 e6 e7
    clear F
    have GF := Lib.hid (show GrR w w.heap.size gf 23 3 1 S (fun _ => .slice none 0 0) (fun s => (freesD (E.take 0) s).length) (fun s => (freesD (E.take 0) s).map nv) from ⟨hvf, hvf.lt, fun k hk => by rw [frees_zero]; exact World.ownsRow_nil _ _ _ _, fun k k' q _ _ _ e => absurd e (own_none q)⟩)
    have GE := Lib.hid (show GrR w w.heap.size ge 22 53 7 S (fun _ => .slice none 0 0) (fun s => (edgesD (E.take 0) s).length) (fun s => cellsEs (edgesD (E.take 0) s)) from ⟨hve, hve.lt, fun k hk => by rw [edges_zero]; exact World.ownsRow_nil _ _ _ _, fun k k' q _ _ _ e => absurd e (own_none q)⟩)
    have KL := Lib.hid (show KpL W w w.heap.size gf ge w from ⟨BL, Nat.le_refl _, fun _ _ _ _ => rfl⟩)
    have HMK := Lib.hid hmk
    have HVAR := Lib.hid hvar
    have HMD := Lib.hid hmd
    have HGR := Lib.hid hgr
    have HKB := Lib.hid KB1
    clear hvf hve hmk hvar hmd hgr KB1 BL
    have hE1 : w.cell? ⟨W.heap.size, 1, none⟩ = some (.slice Ae ne ce) := cell_of_row w W.heap.size 1 _ _ _ HKB.out
    go_wp2_with fail
    clear hE1
    go_loopw [28] (fun vi wr => ∃ (i : Nat) (sf se : Nat → Value), i ≤ ne ∧ vi = .int .i64 (i : Int) ∧ Hid (GrR wr w.heap.size gf 23 3 1 S sf (fun s => (freesD (E.take i) s).length) (fun s => (freesD (E.take i) s).map nv)) ∧ Hid (GrR wr w.heap.size ge 22 53 7 S se (fun s => (edgesD (E.take i) s).length) (fun s => cellsEs (edgesD (E.take i) s))) ∧ Hid (KpL W w w.heap.size gf ge wr)) (fun vi _ => ne - (intOf vi).toNat)
    case atStart => exact ⟨0, _, _, Nat.zero_le _, rfl, GF.out, GE.out, KL.out⟩
    case round =>
      obtain ⟨i, sf, se, hi, rfl, GFi, GEi, KLi⟩ := hrel
      clear GF GE KL
      by_cases hlt : i < ne
      · have hil : i < E.length := by rw [HN.out]; exact hlt
        have hce1 := HR.out.below KLi.out.low
        obtain ⟨ad, hA, hce⟩ := hce1 i hil
        obtain ⟨hfn, hfs⟩ := fr_fn HED.out (List.getElem_mem hil)
        have hd := HED.out _ (List.getElem_mem hil)
        have htn : E[i].to = (E[i].tn : Int) := by have := hd.2.2.1; unfold Ed.tn; omega
        have FY := Lib.hid (frees_yes E i hil hd.1)
        have FN := Lib.hid (frees_no E i hil hd.1)
        have EY := Lib.hid (edges_yes E i hil hd.1)
        have EN := Lib.hid (edges_no E i hil hd.1)
        have LF := Lib.hid (show ∀ s, (freesD (E.take i) s).length ≤ 8192 from fun s => Nat.le_trans (frees_len _ s) (by rw [List.length_take, HN.out]; omega))
        have LE := Lib.hid (show ∀ s, (edgesD (E.take i) s).length ≤ 8192 from fun s => Nat.le_trans (edges_lenD _ s) (by rw [List.length_take, HN.out]; omega))
        generalize E[i] = e at *
        obtain ⟨q, hq⟩ : ∃ q, e.free = q := ⟨_, rfl⟩
        have HCE := Lib.hid (show ∀ t u, [.int .i64 (e.fn : Int), .int .i64 (e.tn : Int), .int .u64 (e.set.w0.toNat : Int), .int .u64 (e.set.w1.toNat : Int), .int .u64 (e.set.w2.toNat : Int), .int .u64 (e.set.w3.toNat : Int), .bool q][t]? = some u → wr.cell? ((ad.add (i * 7)).add t) = some u from by rw [← hfn, ← htn, ← hq]; exact hce)
        have HCL := Lib.hid (show cellsE e = [.int .i64 (e.fn : Int), .int .i64 (e.tn : Int), .int .u64 (e.set.w0.toNat : Int), .int .u64 (e.set.w1.toNat : Int), .int .u64 (e.set.w2.toNat : Int), .int .u64 (e.set.w3.toNat : Int), .bool q] from by rw [← hfn, ← htn, ← hq]; rfl)
        rw [hq] at FY FN EY EN
        clear hce hfn htn hq hd hil
        subst hA
        have bA := bl_alloc (Below.refl wr.heap.size wr) (.cells #[.int .i64 (e.fn : Int), .int .i64 (e.tn : Int), .int .u64 (e.set.w0.toNat : Int), .int .u64 (e.set.w1.toNat : Int), .int .u64 (e.set.w2.toNat : Int), .int .u64 (e.set.w3.toNat : Int), .bool q] 53)
        have GF2 := Lib.hid (GFi.out.below bA)
        have GE2 := Lib.hid (GEi.out.below bA)
        have KL2 := Lib.hid (KLi.out.below bA)
        have K9 := Lib.hid (heap_alloc_new wr (.cells #[.int .i64 (e.fn : Int), .int .i64 (e.tn : Int), .int .u64 (e.set.w0.toNat : Int), .int .u64 (e.set.w1.toNat : Int), .int .u64 (e.set.w2.toNat : Int), .int .u64 (e.set.w3.toNat : Int), .bool q] 53))
        have L9 := KLi.out.size
        have HB9 := Lib.hid (show ∀ k q, k < S → (se k).ownBlock = some q → q < wr.heap.size from fun k q hk e => (GEi.out.blk hk q e).2)
        clear bA GFi GEi KLi
        go_upto_region 5 with (refine wpList_load_part 53 7 _ rfl rfl (ad.add (i * 7)) rfl [.int .i64 (e.fn : Int), .int .i64 (e.tn : Int), .int .u64 (e.set.w0.toNat : Int), .int .u64 (e.set.w1.toNat : Int), .int .u64 (e.set.w2.toNat : Int), .int .u64 (e.set.w3.toNat : Int), .bool q] (by kernel_rfl) (by kernel_rfl) rfl HCE.out ?_)
        generalize wr.alloc (.cells #[.int .i64 (e.fn : Int), .int .i64 (e.tn : Int), .int .u64 (e.set.w0.toNat : Int), .int .u64 (e.set.w1.toNat : Int), .int .u64 (e.set.w2.toNat : Int), .int .u64 (e.set.w3.toNat : Int), .bool q] 53) = wA at *
        generalize wr.heap.size = b9 at *
        clear HCE
        have h6 : wA.cell? ⟨b9, 6, none⟩ = some (.bool q) := cell_of_row wA b9 6 _ _ _ K9.out
        cases q with
        | true =>
          go_wp2_with fail
          have hSof : ∀ wS : World, KpL W w w.heap.size gf ge wS → wS.heap[b9]? = some (.cells #[.int .i64 (e.fn : Int), .int .i64 (e.tn : Int), .int .u64 (e.set.w0.toNat : Int), .int .u64 (e.set.w1.toNat : Int), .int .u64 (e.set.w2.toNat : Int), .int .u64 (e.set.w3.toNat : Int), .bool true] 53 (0, 0)) → wS.cell? ⟨gv, 0, none⟩ = some (.pointer (some ⟨g, 0, none⟩)) ∧ wS.cell? ⟨g, 259, none⟩ = some (.slice (some ⟨gf, 0, none⟩) S S) ∧ wS.cell? ⟨b9, 0, none⟩ = some (.int .i64 (e.fn : Int)) ∧ wS.cell? ⟨b9, 1, none⟩ = some (.int .i64 (e.tn : Int)) := fun wS hk h9 =>
            ⟨cell_of_row wS gv 0 _ _ _ ((hk.keep gv lv (fun e => n4 e.symm) (fun e => n5 e.symm)).trans HVAR.out), (cell_of_row wS g 259 _ _ _ ((hk.keep g lg (fun e => n2 e.symm) (fun e => n3 e.symm)).trans HMK.out)).trans (mkT_at _ _ 3), cell_of_row wS b9 0 _ _ _ h9, cell_of_row wS b9 1 _ _ _ h9⟩
          have hSof := Lib.hid hSof
          have hi1 : (e.fn : Int) < (S : Int) := by omega
          refine wp_region_held_drew (S := fun wS => wS.cell? ⟨gv, 0, none⟩ = some (.pointer (some ⟨g, 0, none⟩)) ∧ wS.cell? ⟨g, 259, none⟩ = some (.slice (some ⟨gf, 0, none⟩) S S) ∧ wS.cell? ⟨b9, 0, none⟩ = some (.int .i64 (e.fn : Int)) ∧ wS.cell? ⟨b9, 1, none⟩ = some (.int .i64 (e.tn : Int))) (by kernel_rfl) (hSof.out wA.drew (KL2.out.below (bl_drewN (Below.refl wA.heap.size wA) 1)) K9.out) (fun hHeld => ?_)
          have GF3 := Lib.hid (GF2.out.below (W' := wA.drew) (bl_drewN (Below.refl wA.heap.size wA) 1))
          have GE3 := Lib.hid (GE2.out.below (W' := wA.drew) (bl_drewN (Below.refl wA.heap.size wA) 1))
          have KL3 := Lib.hid (KL2.out.below (W'' := wA.drew) (bl_drewN (Below.refl wA.heap.size wA) 1))
          have K93 := Lib.hid (show wA.drew.heap[b9]? = _ from K9.out)
          clear GF2 GE2 KL2 K9
          generalize wA.drew = wB at *
          try simp only [zzA, zzB, zzC, Act.put, zzD, zzE, zzF]
          refine wpAnyH_take (i := 0) (v := ?vzf0) rfl (by kernel_rfl) (by kernel_rfl) (by kernel_rfl) (fun _ _ _ h => h) (Or.inl ⟨by rfl, ?yzf0⟩) hHeld ?rzf0
          case yzf0 => (intro wS hSw; have q := hSw.1; clear hSw; go_simp; try (with_reducible rfl))
          try simp only [zzA, zzB, zzC, Act.put, zzD, zzE, zzF]
          refine wpAnyH_take (i := 1) (v := ?vzf1) rfl (by kernel_rfl) (by kernel_rfl) (by kernel_rfl) (fun _ _ _ h => h) (Or.inl ⟨by rfl, ?yzf1⟩) hHeld ?rzf1
          case yzf1 => (intro wS hSw; clear hSw; go_simp; try (with_reducible rfl))
          try simp only [zzA, zzB, zzC, Act.put, zzD, zzE, zzF]
          refine wpAnyH_take (i := 2) (v := ?vzf2) rfl (by kernel_rfl) (by kernel_rfl) (by kernel_rfl) (fun _ _ _ h => h) (Or.inl ⟨by rfl, ?yzf2⟩) hHeld ?rzf2
          case yzf2 => (intro wS hSw; clear hSw; go_simp; try (with_reducible rfl))
          try simp only [zzA, zzB, zzC, Act.put, zzD, zzE, zzF]
          refine wpAnyH_take (i := 3) (v := ?vzf3) rfl (by kernel_rfl) (by kernel_rfl) (by kernel_rfl) (fun _ _ _ h => h) (Or.inl ⟨by rfl, ?yzf3⟩) hHeld ?rzf3
          case yzf3 => (intro wS hSw; have q := hSw.2.1; clear hSw; go_simp; try (with_reducible rfl))
          try simp only [zzA, zzB, zzC, Act.put, zzD, zzE, zzF]
          refine wpAnyH_take (i := 4) (v := ?vzf4) rfl (by kernel_rfl) (by kernel_rfl) (by kernel_rfl) (fun _ _ _ h => h) (Or.inl ⟨by rfl, ?yzf4⟩) hHeld ?rzf4
          case yzf4 => (intro wS hSw; clear hSw; go_simp; try (with_reducible rfl))
          try simp only [zzA, zzB, zzC, Act.put, zzD, zzE, zzF]
          refine wpAnyH_take (i := 5) (v := ?vzf5) rfl (by kernel_rfl) (by kernel_rfl) (by kernel_rfl) (fun _ _ _ h => h) (Or.inl ⟨by rfl, ?yzf5⟩) hHeld ?rzf5
          case yzf5 => (intro wS hSw; have q := hSw.2.2.1; clear hSw; go_simp; try (with_reducible rfl))
          try simp only [zzA, zzB, zzC, Act.put, zzD, zzE, zzF]
          refine wpAnyH_take (i := 6) (v := ?vzf6) rfl (by kernel_rfl) (by kernel_rfl) (by kernel_rfl) (fun _ _ _ h => h) (Or.inl ⟨by rfl, ?yzf6⟩) hHeld ?rzf6
          case yzf6 => (intro wS hSw; have q := hSw.1; clear hSw; go_simp; try (with_reducible rfl))
          try simp only [zzA, zzB, zzC, Act.put, zzD, zzE, zzF]
          refine wpAnyH_take (i := 7) (v := ?vzf7) rfl (by kernel_rfl) (by kernel_rfl) (by kernel_rfl) (fun _ _ _ h => h) (Or.inl ⟨by rfl, ?yzf7⟩) hHeld ?rzf7
          case yzf7 => (intro wS hSw; clear hSw; go_simp; try (with_reducible rfl))
          try simp only [zzA, zzB, zzC, Act.put, zzD, zzE, zzF]
          refine wpAnyH_take (i := 8) (v := ?vzf8) rfl (by kernel_rfl) (by kernel_rfl) (by kernel_rfl) (fun _ _ _ h => h) (Or.inl ⟨by rfl, ?yzf8⟩) hHeld ?rzf8
          case yzf8 => (intro wS hSw; clear hSw; go_simp; try (with_reducible rfl))
          try simp only [zzA, zzB, zzC, Act.put, zzD, zzE, zzF]
          refine wpAnyH_take (i := 9) (v := ?vzf9) rfl (by kernel_rfl) (by kernel_rfl) (by kernel_rfl) (fun _ _ _ h => h) (Or.inl ⟨by rfl, ?yzf9⟩) hHeld ?rzf9
          case yzf9 => (intro wS hSw; have q := hSw.2.1; clear hSw; go_simp; try (with_reducible rfl))
          try simp only [zzA, zzB, zzC, Act.put, zzD, zzE, zzF]
          refine wpAnyH_take (i := 10) (v := ?vzf10) rfl (by kernel_rfl) (by kernel_rfl) (by kernel_rfl) (fun _ _ _ h => h) (Or.inl ⟨by rfl, ?yzf10⟩) hHeld ?rzf10
          case yzf10 => (intro wS hSw; clear hSw; go_simp; try (with_reducible rfl))
          try simp only [zzA, zzB, zzC, Act.put, zzD, zzE, zzF]
          refine wpAnyH_take (i := 11) (v := ?vzf11) rfl (by kernel_rfl) (by kernel_rfl) (by kernel_rfl) (fun _ _ _ h => h) (Or.inl ⟨by rfl, ?yzf11⟩) hHeld ?rzf11
          case yzf11 => (intro wS hSw; have q := hSw.2.2.1; clear hSw; go_simp; try (with_reducible rfl))
          try simp only [zzA, zzB, zzC, Act.put, zzD, zzE, zzF]
          refine wpAnyH_take (i := 12) (v := ?vzf12) rfl (by kernel_rfl) (by kernel_rfl) (by kernel_rfl) (fun _ _ _ h => h) (Or.inl ⟨by rfl, ?yzf12⟩) hHeld ?rzf12
          case yzf12 => (intro wS hSw; clear hSw; go_simp; try (with_reducible rfl))
          try simp only [zzA, zzB, zzC, Act.put, zzD, zzE, zzF]
          refine wpAnyH_take (i := 14) (v := ?vzf14) rfl (by kernel_rfl) (by kernel_rfl) (by kernel_rfl) (fun _ _ _ h => h) (Or.inl ⟨by rfl, ?yzf14⟩) hHeld ?rzf14
          case yzf14 => (intro wS hSw; clear hSw; go_simp; try (with_reducible rfl))
          try simp only [zzA, zzB, zzC, Act.put, zzD, zzE, zzF]
          refine wpAnyH_take (i := 15) (v := ?vzf15) rfl (by kernel_rfl) (by kernel_rfl) (by kernel_rfl) (fun _ _ _ h => h) (Or.inl ⟨by rfl, ?yzf15⟩) hHeld ?rzf15
          case yzf15 => (intro wS hSw; have q := hSw.2.2.2; clear hSw; go_simp; try (with_reducible rfl))
          try simp only [zzA, zzB, zzC, Act.put, zzD, zzE, zzF]
          refine wpAnyH_ready (rs := [13, 16]) (by kernel_rfl) (by simp) (AllReadyH.cons rfl (fun K hK => ?_) (AllReadyH.cons rfl (fun K hK => ?_) AllReadyH.nil))
          · skip
            have hcl := (GF3.out.row).cell hfs
            go_simp
            refine hK.out _ _ hHeld (fun hHeld => ?_)
            clear hK K hcl
            try simp only [zzA, zzB, zzC, Act.put, zzD, zzE, zzF]
            refine wpAnyH_ready (rs := [16]) (by kernel_rfl) (by simp) (AllReadyH.cons rfl (fun K hK => ?_) AllReadyH.nil)
            have bL := bl_alloc (Below.refl wB.heap.size wB) (.cells #[.int .i64 (e.tn : Int)] 3)
            have kL := cell_of_row _ wB.heap.size 0 _ _ _ (heap_alloc_new wB (.cells #[.int .i64 (e.tn : Int)] 3))
            have GF4 := Lib.hid (GF3.out.below bL)
            have GE4 := Lib.hid (GE3.out.below bL)
            have KL4 := Lib.hid (KL3.out.below bL)
            have K94 := Lib.hid ((bL.block b9 (Array.getElem?_eq_some_iff.1 K93.out).1).trans K93.out)
            go_simp
            refine hK.out _ _ (hSof.out _ KL4.out K94.out) (fun hHeld => ?_)
            clear hK K bL GF3 GE3 KL3 K93
            generalize wB.alloc (.cells #[.int .i64 (e.tn : Int)] 3) = wC at *
            generalize wB.heap.size = pL at *
            have KL0 := Lib.hid kL
            clear kL
            try simp only [zzA, zzB, zzC, Act.put, zzD, zzE, zzF]
            refine wpAnyH_ready (rs := [17]) (by kernel_rfl) (by simp) (AllReadyH.cons rfl (fun K hK => ?_) AllReadyH.nil)
            rw [if_pos (by rfl)]
            obtain ⟨i0, hi0, hz0, hz1, hz2⟩ := info_parts info_int
            have hlf := LF.out e.fn
            obtain ⟨g8, c8, w8, hrun, hc8, hz8, hg8, hgr8⟩ := GF4.out.put KL4.out.size 23 23 i0 (.int .i64 0) 8 Tryz.underlying23 hi0 hz0 hz1 hz2 rfl (by omega) hfs pL [.int .i64 (e.tn : Int)] rfl (fun j u hu => by
              match j, hu with
              | 0, hu =>
                simp at hu
                subst hu
                exact KL0.out) (by simp [Value.oneCell']) (by simp only [maxLen]; omega) (by omega)
            refine wp_append_of_run _ _ 23 rfl (sf e.fn) (.slice (some ⟨pL, 0, none⟩) 1 1) rfl rfl hrun ?_
            have hbk := fun i h => (GF4.out.blk hfs i h).1
            have KL5 := Lib.hid (KL4.out.grown kl hg8 hbk)
            have K95 := Lib.hid ((hg8.block b9 (Array.getElem?_eq_some_iff.1 K94.out).1 (fun e2 => by
              obtain ⟨cs2, hcs2⟩ := GF4.out.typ hfs e2.symm
              exact ne_typ K94.out hcs2 (by decide) rfl)).trans K94.out)
            have hgo := GE4.out.other GF4.out (by decide) (fun e => n1 e.symm) hfs (v := .slice (some ⟨g8, 0, none⟩) ((freesD (E.take i) e.fn).length + 1) c8) hg8
            refine hK.out _ _ (hSof.out _ KL5.out K95.out) (fun hHeld => ?_)
            clear hK K hrun hbk
            try simp only [zzA, zzB, zzC, Act.put, zzD, zzE, zzF]
            refine wpAnyH_take (i := 18) (v := ?vzg18) rfl (by kernel_rfl) (by kernel_rfl) (by kernel_rfl) (fun _ _ _ h => h) (Or.inl ⟨by rfl, ?yzg18⟩) hHeld ?rzg18
            case yzg18 => (intro wS hSw; clear hSw; go_simp; try (with_reducible rfl))
            try simp only [zzA, zzB, zzC, Act.put, zzD, zzE, zzF]
            refine wpAnyH_ready (rs := [19]) (by kernel_rfl) (by simp) (AllReadyH.cons rfl (fun K hK => ?_) AllReadyH.nil)
            go_simp
            have KL6 := Lib.hid (KL5.out.set (q := gf) (j := e.fn) (v := .slice (some ⟨g8, 0, none⟩) ((freesD (E.take i) e.fn).length + 1) c8) hgf (Or.inl rfl))
            have K96 := Lib.hid ((set_keep w8 gf e.fn (.slice (some ⟨g8, 0, none⟩) ((freesD (E.take i) e.fn).length + 1) c8) b9 (fun e2 => by have := GF4.out.lg; omega)).trans K95.out)
            refine hK.out _ _ (hSof.out _ KL6.out K96.out) (fun hHeld => ?_)
            clear hK K
            try simp only [zzA, zzB, zzC, Act.put, zzD, zzE, zzF]
            refine wpAnyH_done (by kernel_rfl) ?_ _
            go_wp2_with fail
            exact ⟨⟨i + 1, _, _, by omega, by go_num, hgr8.congr (fun s _ => by
              rw [FY.out (by trivial) s]
              by_cases e3 : s = e.fn
              · rw [if_pos e3, if_pos e3, List.length_append, e3]; rfl
              · rw [if_neg e3, if_neg e3]) (fun s _ => by
              rw [FY.out (by trivial) s]
              by_cases e3 : s = e.fn
              · rw [if_pos e3, if_pos e3, List.map_append, e3]; rfl
              · rw [if_neg e3, if_neg e3]), hgo.congr (fun s _ => by rw [EN.out (by trivial) s]) (fun s _ => by rw [EN.out (by trivial) s]), KL6.out⟩, by simp [intOf]; omega⟩
          · skip
            have bL := bl_alloc (Below.refl wB.heap.size wB) (.cells #[.int .i64 (e.tn : Int)] 3)
            have kL := cell_of_row _ wB.heap.size 0 _ _ _ (heap_alloc_new wB (.cells #[.int .i64 (e.tn : Int)] 3))
            have GF4 := Lib.hid (GF3.out.below bL)
            have GE4 := Lib.hid (GE3.out.below bL)
            have KL4 := Lib.hid (KL3.out.below bL)
            have K94 := Lib.hid ((bL.block b9 (Array.getElem?_eq_some_iff.1 K93.out).1).trans K93.out)
            go_simp
            refine hK.out _ _ (hSof.out _ KL4.out K94.out) (fun hHeld => ?_)
            clear hK K bL GF3 GE3 KL3 K93
            generalize wB.alloc (.cells #[.int .i64 (e.tn : Int)] 3) = wC at *
            generalize wB.heap.size = pL at *
            have KL0 := Lib.hid kL
            clear kL
            try simp only [zzA, zzB, zzC, Act.put, zzD, zzE, zzF]
            refine wpAnyH_ready (rs := [13]) (by kernel_rfl) (by simp) (AllReadyH.cons rfl (fun K hK => ?_) AllReadyH.nil)
            have hcl := (GF4.out.row).cell hfs
            go_simp
            refine hK.out _ _ hHeld (fun hHeld => ?_)
            clear hK K hcl
            try simp only [zzA, zzB, zzC, Act.put, zzD, zzE, zzF]
            refine wpAnyH_ready (rs := [17]) (by kernel_rfl) (by simp) (AllReadyH.cons rfl (fun K hK => ?_) AllReadyH.nil)
            rw [if_pos (by rfl)]
            obtain ⟨i0, hi0, hz0, hz1, hz2⟩ := info_parts info_int
            have hlf := LF.out e.fn
            obtain ⟨g8, c8, w8, hrun, hc8, hz8, hg8, hgr8⟩ := GF4.out.put KL4.out.size 23 23 i0 (.int .i64 0) 8 Tryz.underlying23 hi0 hz0 hz1 hz2 rfl (by omega) hfs pL [.int .i64 (e.tn : Int)] rfl (fun j u hu => by
              match j, hu with
              | 0, hu =>
                simp at hu
                subst hu
                exact KL0.out) (by simp [Value.oneCell']) (by simp only [maxLen]; omega) (by omega)
            refine wp_append_of_run _ _ 23 rfl (sf e.fn) (.slice (some ⟨pL, 0, none⟩) 1 1) rfl rfl hrun ?_
            have hbk := fun i h => (GF4.out.blk hfs i h).1
            have KL5 := Lib.hid (KL4.out.grown kl hg8 hbk)
            have K95 := Lib.hid ((hg8.block b9 (Array.getElem?_eq_some_iff.1 K94.out).1 (fun e2 => by
              obtain ⟨cs2, hcs2⟩ := GF4.out.typ hfs e2.symm
              exact ne_typ K94.out hcs2 (by decide) rfl)).trans K94.out)
            have hgo := GE4.out.other GF4.out (by decide) (fun e => n1 e.symm) hfs (v := .slice (some ⟨g8, 0, none⟩) ((freesD (E.take i) e.fn).length + 1) c8) hg8
            refine hK.out _ _ (hSof.out _ KL5.out K95.out) (fun hHeld => ?_)
            clear hK K hrun hbk
            try simp only [zzA, zzB, zzC, Act.put, zzD, zzE, zzF]
            refine wpAnyH_take (i := 18) (v := ?vzh18) rfl (by kernel_rfl) (by kernel_rfl) (by kernel_rfl) (fun _ _ _ h => h) (Or.inl ⟨by rfl, ?yzh18⟩) hHeld ?rzh18
            case yzh18 => (intro wS hSw; clear hSw; go_simp; try (with_reducible rfl))
            try simp only [zzA, zzB, zzC, Act.put, zzD, zzE, zzF]
            refine wpAnyH_ready (rs := [19]) (by kernel_rfl) (by simp) (AllReadyH.cons rfl (fun K hK => ?_) AllReadyH.nil)
            go_simp
            have KL6 := Lib.hid (KL5.out.set (q := gf) (j := e.fn) (v := .slice (some ⟨g8, 0, none⟩) ((freesD (E.take i) e.fn).length + 1) c8) hgf (Or.inl rfl))
            have K96 := Lib.hid ((set_keep w8 gf e.fn (.slice (some ⟨g8, 0, none⟩) ((freesD (E.take i) e.fn).length + 1) c8) b9 (fun e2 => by have := GF4.out.lg; omega)).trans K95.out)
            refine hK.out _ _ (hSof.out _ KL6.out K96.out) (fun hHeld => ?_)
            clear hK K
            try simp only [zzA, zzB, zzC, Act.put, zzD, zzE, zzF]
            refine wpAnyH_done (by kernel_rfl) ?_ _
            go_wp2_with fail
            exact ⟨⟨i + 1, _, _, by omega, by go_num, hgr8.congr (fun s _ => by
              rw [FY.out (by trivial) s]
              by_cases e3 : s = e.fn
              · rw [if_pos e3, if_pos e3, List.length_append, e3]; rfl
              · rw [if_neg e3, if_neg e3]) (fun s _ => by
              rw [FY.out (by trivial) s]
              by_cases e3 : s = e.fn
              · rw [if_pos e3, if_pos e3, List.map_append, e3]; rfl
              · rw [if_neg e3, if_neg e3]), hgo.congr (fun s _ => by rw [EN.out (by trivial) s]) (fun s _ => by rw [EN.out (by trivial) s]), KL6.out⟩, by simp [intOf]; omega⟩
        | false =>
          go_wp2_with fail
          have hSof : ∀ wS : World, KpL W w w.heap.size gf ge wS → wS.heap[b9]? = some (.cells #[.int .i64 (e.fn : Int), .int .i64 (e.tn : Int), .int .u64 (e.set.w0.toNat : Int), .int .u64 (e.set.w1.toNat : Int), .int .u64 (e.set.w2.toNat : Int), .int .u64 (e.set.w3.toNat : Int), .bool false] 53 (0, 0)) → wS.cell? ⟨gv, 0, none⟩ = some (.pointer (some ⟨g, 0, none⟩)) ∧ wS.cell? ⟨g, 260, none⟩ = some (.slice (some ⟨ge, 0, none⟩) S S) ∧ wS.heap[b9]? = some (.cells #[.int .i64 (e.fn : Int), .int .i64 (e.tn : Int), .int .u64 (e.set.w0.toNat : Int), .int .u64 (e.set.w1.toNat : Int), .int .u64 (e.set.w2.toNat : Int), .int .u64 (e.set.w3.toNat : Int), .bool false] 53 (0, 0)) := fun wS hk h9 =>
            ⟨cell_of_row wS gv 0 _ _ _ ((hk.keep gv lv (fun e => n4 e.symm) (fun e => n5 e.symm)).trans HVAR.out), (cell_of_row wS g 260 _ _ _ ((hk.keep g lg (fun e => n2 e.symm) (fun e => n3 e.symm)).trans HMK.out)).trans (mkT_at _ _ 4), h9⟩
          have hSof := Lib.hid hSof
          have hi1 : (e.fn : Int) < (S : Int) := by omega
          refine wp_region_held_drew (S := fun wS => wS.cell? ⟨gv, 0, none⟩ = some (.pointer (some ⟨g, 0, none⟩)) ∧ wS.cell? ⟨g, 260, none⟩ = some (.slice (some ⟨ge, 0, none⟩) S S) ∧ wS.heap[b9]? = some (.cells #[.int .i64 (e.fn : Int), .int .i64 (e.tn : Int), .int .u64 (e.set.w0.toNat : Int), .int .u64 (e.set.w1.toNat : Int), .int .u64 (e.set.w2.toNat : Int), .int .u64 (e.set.w3.toNat : Int), .bool false] 53 (0, 0))) (by kernel_rfl) (hSof.out wA.drew (KL2.out.below (bl_drewN (Below.refl wA.heap.size wA) 1)) K9.out) (fun hHeld => ?_)
          have GF3 := Lib.hid (GF2.out.below (W' := wA.drew) (bl_drewN (Below.refl wA.heap.size wA) 1))
          have GE3 := Lib.hid (GE2.out.below (W' := wA.drew) (bl_drewN (Below.refl wA.heap.size wA) 1))
          have KL3 := Lib.hid (KL2.out.below (W'' := wA.drew) (bl_drewN (Below.refl wA.heap.size wA) 1))
          have K93 := Lib.hid (show wA.drew.heap[b9]? = _ from K9.out)
          clear GF2 GE2 KL2 K9
          generalize wA.drew = wB at *
          try simp only [zzA, zzB, zzC, Act.put, zzD, zzE, zzF]
          refine wpAnyH_take (i := 0) (v := ?vzp0) rfl (by kernel_rfl) (by kernel_rfl) (by kernel_rfl) (fun _ _ _ h => h) (Or.inl ⟨by rfl, ?yzp0⟩) hHeld ?rzp0
          case yzp0 => (intro wS hSw; have q := hSw.1; clear hSw; go_simp; try (with_reducible rfl))
          try simp only [zzA, zzB, zzC, Act.put, zzD, zzE, zzF]
          refine wpAnyH_take (i := 1) (v := ?vzp1) rfl (by kernel_rfl) (by kernel_rfl) (by kernel_rfl) (fun _ _ _ h => h) (Or.inl ⟨by rfl, ?yzp1⟩) hHeld ?rzp1
          case yzp1 => (intro wS hSw; clear hSw; go_simp; try (with_reducible rfl))
          try simp only [zzA, zzB, zzC, Act.put, zzD, zzE, zzF]
          refine wpAnyH_take (i := 2) (v := ?vzp2) rfl (by kernel_rfl) (by kernel_rfl) (by kernel_rfl) (fun _ _ _ h => h) (Or.inl ⟨by rfl, ?yzp2⟩) hHeld ?rzp2
          case yzp2 => (intro wS hSw; clear hSw; go_simp; try (with_reducible rfl))
          try simp only [zzA, zzB, zzC, Act.put, zzD, zzE, zzF]
          refine wpAnyH_take (i := 3) (v := ?vzp3) rfl (by kernel_rfl) (by kernel_rfl) (by kernel_rfl) (fun _ _ _ h => h) (Or.inl ⟨by rfl, ?yzp3⟩) hHeld ?rzp3
          case yzp3 => (intro wS hSw; have q := hSw.2.1; clear hSw; go_simp; try (with_reducible rfl))
          try simp only [zzA, zzB, zzC, Act.put, zzD, zzE, zzF]
          refine wpAnyH_take (i := 4) (v := ?vzp4) rfl (by kernel_rfl) (by kernel_rfl) (by kernel_rfl) (fun _ _ _ h => h) (Or.inl ⟨by rfl, ?yzp4⟩) hHeld ?rzp4
          case yzp4 => (intro wS hSw; clear hSw; go_simp; try (with_reducible rfl))
          try simp only [zzA, zzB, zzC, Act.put, zzD, zzE, zzF]
          refine wpAnyH_take (i := 5) (v := ?vzp5) rfl (by kernel_rfl) (by kernel_rfl) (by kernel_rfl) (fun _ _ _ h => h) (Or.inl ⟨by rfl, ?yzp5⟩) hHeld ?rzp5
          case yzp5 => (intro wS hSw; have q := cell_of_row wS b9 0 _ _ _ hSw.2.2; clear hSw; go_simp; try (with_reducible rfl))
          try simp only [zzA, zzB, zzC, Act.put, zzD, zzE, zzF]
          refine wpAnyH_take (i := 6) (v := ?vzp6) rfl (by kernel_rfl) (by kernel_rfl) (by kernel_rfl) (fun _ _ _ h => h) (Or.inl ⟨by rfl, ?yzp6⟩) hHeld ?rzp6
          case yzp6 => (intro wS hSw; have q := hSw.1; clear hSw; go_simp; try (with_reducible rfl))
          try simp only [zzA, zzB, zzC, Act.put, zzD, zzE, zzF]
          refine wpAnyH_take (i := 7) (v := ?vzp7) rfl (by kernel_rfl) (by kernel_rfl) (by kernel_rfl) (fun _ _ _ h => h) (Or.inl ⟨by rfl, ?yzp7⟩) hHeld ?rzp7
          case yzp7 => (intro wS hSw; clear hSw; go_simp; try (with_reducible rfl))
          try simp only [zzA, zzB, zzC, Act.put, zzD, zzE, zzF]
          refine wpAnyH_take (i := 8) (v := ?vzp8) rfl (by kernel_rfl) (by kernel_rfl) (by kernel_rfl) (fun _ _ _ h => h) (Or.inl ⟨by rfl, ?yzp8⟩) hHeld ?rzp8
          case yzp8 => (intro wS hSw; clear hSw; go_simp; try (with_reducible rfl))
          try simp only [zzA, zzB, zzC, Act.put, zzD, zzE, zzF]
          refine wpAnyH_take (i := 9) (v := ?vzp9) rfl (by kernel_rfl) (by kernel_rfl) (by kernel_rfl) (fun _ _ _ h => h) (Or.inl ⟨by rfl, ?yzp9⟩) hHeld ?rzp9
          case yzp9 => (intro wS hSw; have q := hSw.2.1; clear hSw; go_simp; try (with_reducible rfl))
          try simp only [zzA, zzB, zzC, Act.put, zzD, zzE, zzF]
          refine wpAnyH_take (i := 10) (v := ?vzp10) rfl (by kernel_rfl) (by kernel_rfl) (by kernel_rfl) (fun _ _ _ h => h) (Or.inl ⟨by rfl, ?yzp10⟩) hHeld ?rzp10
          case yzp10 => (intro wS hSw; clear hSw; go_simp; try (with_reducible rfl))
          try simp only [zzA, zzB, zzC, Act.put, zzD, zzE, zzF]
          refine wpAnyH_take (i := 11) (v := ?vzp11) rfl (by kernel_rfl) (by kernel_rfl) (by kernel_rfl) (fun _ _ _ h => h) (Or.inl ⟨by rfl, ?yzp11⟩) hHeld ?rzp11
          case yzp11 => (intro wS hSw; have q := cell_of_row wS b9 0 _ _ _ hSw.2.2; clear hSw; go_simp; try (with_reducible rfl))
          try simp only [zzA, zzB, zzC, Act.put, zzD, zzE, zzF]
          refine wpAnyH_take (i := 12) (v := ?vzp12) rfl (by kernel_rfl) (by kernel_rfl) (by kernel_rfl) (fun _ _ _ h => h) (Or.inl ⟨by rfl, ?yzp12⟩) hHeld ?rzp12
          case yzp12 => (intro wS hSw; clear hSw; go_simp; try (with_reducible rfl))
          try simp only [zzA, zzB, zzC, Act.put, zzD, zzE, zzF]
          refine wpAnyH_take (i := 14) (v := .agg #[.int .i64 (e.fn : Int), .int .i64 (e.tn : Int), .int .u64 (e.set.w0.toNat : Int), .int .u64 (e.set.w1.toNat : Int), .int .u64 (e.set.w2.toNat : Int), .int .u64 (e.set.w3.toNat : Int), .bool false]) rfl (by kernel_rfl) (by kernel_rfl) (by kernel_rfl) (fun _ _ _ h => h) (yields_agg (by rfl) 53 7 (.tmp 5) rfl ⟨b9, 0, none⟩ rfl [.int .i64 (e.fn : Int), .int .i64 (e.tn : Int), .int .u64 (e.set.w0.toNat : Int), .int .u64 (e.set.w1.toNat : Int), .int .u64 (e.set.w2.toNat : Int), .int .u64 (e.set.w3.toNat : Int), .bool false] agg_edge sz_edge rfl (fun wS hSw j u hu => by rw [addr_mk, cell_of_row wS b9 _ _ _ _ hSw.2.2, Nat.zero_add]; simpa using hu)) hHeld ?rzp14
          try simp only [zzA, zzB, zzC, Act.put, zzD, zzE, zzF]
          refine wpAnyH_ready (rs := [13, 15]) (by kernel_rfl) (by simp) (AllReadyH.cons rfl (fun K hK => ?_) (AllReadyH.cons rfl (fun K hK => ?_) AllReadyH.nil))
          · skip
            have hcl := (GE3.out.row).cell hfs
            go_simp
            refine hK.out _ _ hHeld (fun hHeld => ?_)
            clear hK K hcl
            try simp only [zzA, zzB, zzC, Act.put, zzD, zzE, zzF]
            refine wpAnyH_ready (rs := [15]) (by kernel_rfl) (by simp) (AllReadyH.cons rfl (fun K hK => ?_) AllReadyH.nil)
            rw [if_pos (by rfl)]
            have bL := bl_alloc (Below.refl wB.heap.size wB) (.cells #[.int .i64 (e.fn : Int), .int .i64 (e.tn : Int), .int .u64 (e.set.w0.toNat : Int), .int .u64 (e.set.w1.toNat : Int), .int .u64 (e.set.w2.toNat : Int), .int .u64 (e.set.w3.toNat : Int), .bool false] 53)
            have kL := heap_alloc_new wB (.cells #[.int .i64 (e.fn : Int), .int .i64 (e.tn : Int), .int .u64 (e.set.w0.toNat : Int), .int .u64 (e.set.w1.toNat : Int), .int .u64 (e.set.w2.toNat : Int), .int .u64 (e.set.w3.toNat : Int), .bool false] 53)
            have GF4 := Lib.hid (GF3.out.below bL)
            have GE4 := Lib.hid (GE3.out.below bL)
            have KL4 := Lib.hid (KL3.out.below bL)
            have K94 := Lib.hid ((bL.block b9 (Array.getElem?_eq_some_iff.1 K93.out).1).trans K93.out)
            refine wp_bs_of_run 22 1 _ rfl (qs := #[(0, .agg #[.int .i64 (e.fn : Int), .int .i64 (e.tn : Int), .int .u64 (e.set.w0.toNat : Int), .int .u64 (e.set.w1.toNat : Int), .int .u64 (e.set.w2.toNat : Int), .int .u64 (e.set.w3.toNat : Int), .bool false])]) (by kernel_rfl) (one_edge wB _ _ _ _ _ _ _) ?_
            refine hK.out _ _ (hSof.out _ KL4.out K94.out) (fun hHeld => ?_)
            clear hK K bL GF3 GE3 KL3 K93
            generalize wB.alloc (.cells #[.int .i64 (e.fn : Int), .int .i64 (e.tn : Int), .int .u64 (e.set.w0.toNat : Int), .int .u64 (e.set.w1.toNat : Int), .int .u64 (e.set.w2.toNat : Int), .int .u64 (e.set.w3.toNat : Int), .bool false] 53) = wC at *
            generalize wB.heap.size = pL at *
            have KL0 := Lib.hid kL
            clear kL
            try simp only [zzA, zzB, zzC, Act.put, zzD, zzE, zzF]
            refine wpAnyH_ready (rs := [16]) (by kernel_rfl) (by simp) (AllReadyH.cons rfl (fun K hK => ?_) AllReadyH.nil)
            rw [if_pos (by rfl)]
            obtain ⟨i0, hi0, hz0, hz1, hz2⟩ := info_parts info_edge
            have hlf := LE.out e.fn
            obtain ⟨g8, c8, w8, hrun, hc8, hz8, hg8, hgr8⟩ := GE4.out.put KL4.out.size 22 22 i0 zeroEd 56 Tryz.underlying22 hi0 hz0 hz1 hz2 (by kernel_rfl) (by omega) hfs pL [.int .i64 (e.fn : Int), .int .i64 (e.tn : Int), .int .u64 (e.set.w0.toNat : Int), .int .u64 (e.set.w1.toNat : Int), .int .u64 (e.set.w2.toNat : Int), .int .u64 (e.set.w3.toNat : Int), .bool false] rfl (fun j u hu => by
              rw [addr_mk, cell_of_row wC pL _ _ _ _ KL0.out, Nat.zero_add]
              simpa using hu) (by simp [Value.oneCell']) (by simp only [maxLen]; omega) (by omega)
            refine wp_append_of_run _ _ 22 rfl (se e.fn) (.slice (some ⟨pL, 0, none⟩) 1 1) rfl rfl hrun ?_
            have hbk := fun i h => (GE4.out.blk hfs i h).1
            have KL5 := Lib.hid (KL4.out.grown kl hg8 hbk)
            have K95 := Lib.hid ((hg8.block b9 (Array.getElem?_eq_some_iff.1 K94.out).1 (fun e2 => by
              have := HB9.out _ _ hfs e2.symm
              omega)).trans K94.out)
            have hgo := GF4.out.other GE4.out (by decide) n1 hfs (v := .slice (some ⟨g8, 0, none⟩) ((edgesD (E.take i) e.fn).length + 1) c8) hg8
            refine hK.out _ _ (hSof.out _ KL5.out K95.out) (fun hHeld => ?_)
            clear hK K hrun hbk
            try simp only [zzA, zzB, zzC, Act.put, zzD, zzE, zzF]
            refine wpAnyH_take (i := 17) (v := ?vzr17) rfl (by kernel_rfl) (by kernel_rfl) (by kernel_rfl) (fun _ _ _ h => h) (Or.inl ⟨by rfl, ?yzr17⟩) hHeld ?rzr17
            case yzr17 => (intro wS hSw; clear hSw; go_simp; try (with_reducible rfl))
            try simp only [zzA, zzB, zzC, Act.put, zzD, zzE, zzF]
            refine wpAnyH_ready (rs := [18]) (by kernel_rfl) (by simp) (AllReadyH.cons rfl (fun K hK => ?_) AllReadyH.nil)
            go_simp
            have KL6 := Lib.hid (KL5.out.set (q := ge) (j := e.fn) (v := .slice (some ⟨g8, 0, none⟩) ((edgesD (E.take i) e.fn).length + 1) c8) hge (Or.inr rfl))
            have K96 := Lib.hid ((set_keep w8 ge e.fn (.slice (some ⟨g8, 0, none⟩) ((edgesD (E.take i) e.fn).length + 1) c8) b9 (fun e2 => by have := GE4.out.lg; omega)).trans K95.out)
            refine hK.out _ _ (hSof.out _ KL6.out K96.out) (fun hHeld => ?_)
            clear hK K
            try simp only [zzA, zzB, zzC, Act.put, zzD, zzE, zzF]
            refine wpAnyH_done (by kernel_rfl) ?_ _
            go_wp2_with fail
            exact ⟨⟨i + 1, _, _, by omega, by go_num, hgo.congr (fun s _ => by rw [FN.out (by trivial) s]) (fun s _ => by rw [FN.out (by trivial) s]), hgr8.congr (fun s _ => by
              rw [EY.out (by trivial) s]
              by_cases e3 : s = e.fn
              · rw [if_pos e3, if_pos e3, List.length_append, e3]; rfl
              · rw [if_neg e3, if_neg e3]) (fun s _ => by
              rw [EY.out (by trivial) s]
              by_cases e3 : s = e.fn
              · rw [if_pos e3, if_pos e3, cellsEs_snoc, HCL.out, e3]
              · rw [if_neg e3, if_neg e3]), KL6.out⟩, by simp [intOf]; omega⟩
          · skip
            rw [if_pos (by rfl)]
            have bL := bl_alloc (Below.refl wB.heap.size wB) (.cells #[.int .i64 (e.fn : Int), .int .i64 (e.tn : Int), .int .u64 (e.set.w0.toNat : Int), .int .u64 (e.set.w1.toNat : Int), .int .u64 (e.set.w2.toNat : Int), .int .u64 (e.set.w3.toNat : Int), .bool false] 53)
            have kL := heap_alloc_new wB (.cells #[.int .i64 (e.fn : Int), .int .i64 (e.tn : Int), .int .u64 (e.set.w0.toNat : Int), .int .u64 (e.set.w1.toNat : Int), .int .u64 (e.set.w2.toNat : Int), .int .u64 (e.set.w3.toNat : Int), .bool false] 53)
            have GF4 := Lib.hid (GF3.out.below bL)
            have GE4 := Lib.hid (GE3.out.below bL)
            have KL4 := Lib.hid (KL3.out.below bL)
            have K94 := Lib.hid ((bL.block b9 (Array.getElem?_eq_some_iff.1 K93.out).1).trans K93.out)
            refine wp_bs_of_run 22 1 _ rfl (qs := #[(0, .agg #[.int .i64 (e.fn : Int), .int .i64 (e.tn : Int), .int .u64 (e.set.w0.toNat : Int), .int .u64 (e.set.w1.toNat : Int), .int .u64 (e.set.w2.toNat : Int), .int .u64 (e.set.w3.toNat : Int), .bool false])]) (by kernel_rfl) (one_edge wB _ _ _ _ _ _ _) ?_
            refine hK.out _ _ (hSof.out _ KL4.out K94.out) (fun hHeld => ?_)
            clear hK K bL GF3 GE3 KL3 K93
            generalize wB.alloc (.cells #[.int .i64 (e.fn : Int), .int .i64 (e.tn : Int), .int .u64 (e.set.w0.toNat : Int), .int .u64 (e.set.w1.toNat : Int), .int .u64 (e.set.w2.toNat : Int), .int .u64 (e.set.w3.toNat : Int), .bool false] 53) = wC at *
            generalize wB.heap.size = pL at *
            have KL0 := Lib.hid kL
            clear kL
            try simp only [zzA, zzB, zzC, Act.put, zzD, zzE, zzF]
            refine wpAnyH_ready (rs := [13]) (by kernel_rfl) (by simp) (AllReadyH.cons rfl (fun K hK => ?_) AllReadyH.nil)
            have hcl := (GE4.out.row).cell hfs
            go_simp
            refine hK.out _ _ hHeld (fun hHeld => ?_)
            clear hK K hcl
            try simp only [zzA, zzB, zzC, Act.put, zzD, zzE, zzF]
            refine wpAnyH_ready (rs := [16]) (by kernel_rfl) (by simp) (AllReadyH.cons rfl (fun K hK => ?_) AllReadyH.nil)
            rw [if_pos (by rfl)]
            obtain ⟨i0, hi0, hz0, hz1, hz2⟩ := info_parts info_edge
            have hlf := LE.out e.fn
            obtain ⟨g8, c8, w8, hrun, hc8, hz8, hg8, hgr8⟩ := GE4.out.put KL4.out.size 22 22 i0 zeroEd 56 Tryz.underlying22 hi0 hz0 hz1 hz2 (by kernel_rfl) (by omega) hfs pL [.int .i64 (e.fn : Int), .int .i64 (e.tn : Int), .int .u64 (e.set.w0.toNat : Int), .int .u64 (e.set.w1.toNat : Int), .int .u64 (e.set.w2.toNat : Int), .int .u64 (e.set.w3.toNat : Int), .bool false] rfl (fun j u hu => by
              rw [addr_mk, cell_of_row wC pL _ _ _ _ KL0.out, Nat.zero_add]
              simpa using hu) (by simp [Value.oneCell']) (by simp only [maxLen]; omega) (by omega)
            refine wp_append_of_run _ _ 22 rfl (se e.fn) (.slice (some ⟨pL, 0, none⟩) 1 1) rfl rfl hrun ?_
            have hbk := fun i h => (GE4.out.blk hfs i h).1
            have KL5 := Lib.hid (KL4.out.grown kl hg8 hbk)
            have K95 := Lib.hid ((hg8.block b9 (Array.getElem?_eq_some_iff.1 K94.out).1 (fun e2 => by
              have := HB9.out _ _ hfs e2.symm
              omega)).trans K94.out)
            have hgo := GF4.out.other GE4.out (by decide) n1 hfs (v := .slice (some ⟨g8, 0, none⟩) ((edgesD (E.take i) e.fn).length + 1) c8) hg8
            refine hK.out _ _ (hSof.out _ KL5.out K95.out) (fun hHeld => ?_)
            clear hK K hrun hbk
            try simp only [zzA, zzB, zzC, Act.put, zzD, zzE, zzF]
            refine wpAnyH_take (i := 17) (v := ?vzs17) rfl (by kernel_rfl) (by kernel_rfl) (by kernel_rfl) (fun _ _ _ h => h) (Or.inl ⟨by rfl, ?yzs17⟩) hHeld ?rzs17
            case yzs17 => (intro wS hSw; clear hSw; go_simp; try (with_reducible rfl))
            try simp only [zzA, zzB, zzC, Act.put, zzD, zzE, zzF]
            refine wpAnyH_ready (rs := [18]) (by kernel_rfl) (by simp) (AllReadyH.cons rfl (fun K hK => ?_) AllReadyH.nil)
            go_simp
            have KL6 := Lib.hid (KL5.out.set (q := ge) (j := e.fn) (v := .slice (some ⟨g8, 0, none⟩) ((edgesD (E.take i) e.fn).length + 1) c8) hge (Or.inr rfl))
            have K96 := Lib.hid ((set_keep w8 ge e.fn (.slice (some ⟨g8, 0, none⟩) ((edgesD (E.take i) e.fn).length + 1) c8) b9 (fun e2 => by have := GE4.out.lg; omega)).trans K95.out)
            refine hK.out _ _ (hSof.out _ KL6.out K96.out) (fun hHeld => ?_)
            clear hK K
            try simp only [zzA, zzB, zzC, Act.put, zzD, zzE, zzF]
            refine wpAnyH_done (by kernel_rfl) ?_ _
            go_wp2_with fail
            exact ⟨⟨i + 1, _, _, by omega, by go_num, hgo.congr (fun s _ => by rw [FN.out (by trivial) s]) (fun s _ => by rw [FN.out (by trivial) s]), hgr8.congr (fun s _ => by
              rw [EY.out (by trivial) s]
              by_cases e3 : s = e.fn
              · rw [if_pos e3, if_pos e3, List.length_append, e3]; rfl
              · rw [if_neg e3, if_neg e3]) (fun s _ => by
              rw [EY.out (by trivial) s]
              by_cases e3 : s = e.fn
              · rw [if_pos e3, if_pos e3, cellsEs_snoc, HCL.out, e3]
              · rw [if_neg e3, if_neg e3]), KL6.out⟩, by simp [intOf]; omega⟩
      · obtain rfl : i = ne := by omega
        obtain ⟨wz, hwz⟩ : ∃ x, x = wr := ⟨_, rfl⟩
        subst hwz
        rw [show E.take i = E from List.take_of_length_le (by rw [HN.out]; exact Nat.le_refl _)] at GFi GEi
        have hE1 : wz.cell? ⟨W.heap.size, 1, none⟩ = some (.slice Ae i ce) := cell_of_row wz W.heap.size 1 _ _ _ ((KLi.out.keep W.heap.size lk m6 m7).trans HKB.out)
        have HCC := Lib.hid (classes_any E Ae i ce HN.out hce (by omega) wz (HR.out.below KLi.out.low) (HT.out.below KLi.out.low))
        go_wp2_with fail
        refine HCC.out.mono ?_
        rintro e w2 ⟨C, hC, hCs, gc, nc, capc, rfl, hln, hown, hb2⟩
        have GFd := Lib.hid (GFi.out.below hb2)
        have GEd := Lib.hid (GEi.out.below hb2)
        have KLd := Lib.hid (KLi.out.below hb2)
        have OC := Lib.hid hown
        have HPC := Lib.hid hC
        have HPS := Lib.hid hCs
        have HLN := Lib.hid hln
        have hz2 : w.heap.size ≤ wz.heap.size := KLi.out.size
        have hz3 : wz.heap.size ≤ w2.heap.size := hb2.size
        clear HCC hE1 hb2 hown hC hCs hln GFi GEi KLi
        go_wp2_with fail
        have hnl : (leastsE E).length = nc := by rw [← HPC.out.leasts HPS.out, List.length_map]; exact HLN.out
        have HNL := Lib.hid hnl
        have hn256 : nc ≤ 256 := by rw [← hnl]; exact (leasts_len E).2
        have kgw : w2.heap[g]? = w.heap[g]? := KLd.out.keep g lg (fun e => n2 e.symm) (fun e => n3 e.symm)
        have kvw : w2.heap[gv]? = w.heap[gv]? := KLd.out.keep gv lv (fun e => n4 e.symm) (fun e => n5 e.symm)
        have M0 := Lib.hid (show Lo2 W w2 g w2 (.slice none 0 0) [] (mkT (clF E 0) [.slice none 0 0, .slice none 0 0, .slice Ax nx cx, .slice (some ⟨gf, 0, none⟩) S S, .slice (some ⟨ge, 0, none⟩) S S, .slice none 0 0, .slice none 0 0, .map (some gm), .slice (some ⟨gr, 0, none⟩) S S, .int .i64 0]) (((leastsE E).take 0).map (fun n : Nat => Value.int .u8 (n : Int))) from
          ⟨KLd.out.low, Nat.le_refl _, fun _ _ _ => rfl, by rw [kgw, HMK.out]; unfold mk0; rw [mkT_congr (f := fun _ => 0) _ (fun c _ => (clF_zero E c).symm)], by rw [List.take_zero]; exact World.ownsRow_nil _ _ _ _, List.nodup_nil, fun D h => absurd h (by simp)⟩)
        refine wp_loop (I := fun a' wr => ∃ (k : Nat) (u6 u7 u8 x77 x78 x79 x80 x81 x82 x83 x84 x85 x86 x87 x88 x89 x90 x91 x92 x93 x94 x95 x96 x97 x98 x99 x100 x101 x102 vl : Value) (ds : List Nat), k ≤ nc ∧ a' = { tmps := #[.agg #[.int .i64 (S : Int), .slice Ae i ce, .slice Ax nx cx], .pointer (some ⟨W.heap.size, 0, none⟩), .pointer none, .pointer (some ⟨gv, 0, none⟩), undef, u5, u6, u7, u8, .pointer (some ⟨W.heap.size, 2, none⟩), .slice Ax nx cx, .pointer (some ⟨W.heap.size, 0, none⟩), .int .i64 (S : Int), .slice (some ⟨gf, 0, none⟩) S S, .pointer (some ⟨W.heap.size, 0, none⟩), .int .i64 (S : Int), .slice (some ⟨ge, 0, none⟩) S S, .map (some gm), v18, .map (some gm), .pointer (some ⟨W.heap.size, 0, none⟩), .int .i64 (S : Int), .slice (some ⟨gr, 0, none⟩) S S, v23, .pointer (some ⟨g, 0, none⟩), .pointer (some ⟨W.heap.size, 1, none⟩), .slice Ae i ce, .int .i64 (i : Int), .int .i64 (i : Int), .bool false, u30, u31, u32, u33, u34, u35, u36, u37, u38, u39, u40, u41, u42, u43, u44, u45, u46, u47, u48, u49, u50, u51, u52, u53, u54, u55, u56, u57, u58, u59, u60, u61, u62, u63, u64, u65, u66, u67, u68, u69, u70, u71, .pointer (some ⟨W.heap.size, 1, none⟩), .slice Ae i ce, .slice (some ⟨gc, 0, none⟩) nc capc, .int .i64 (nc : Int), .int .i64 (k : Int), x77, x78, x79, x80, x81, x82, x83, x84, x85, x86, x87, x88, x89, x90, x91, x92, x93, x94, x95, x96, x97, x98, x99, x100, x101, x102, undef], defers := marksD ds } ∧ Hid (Lo2 W w2 g wr vl ds (mkT (clF E k) [.slice none 0 0, .slice none 0 0, .slice Ax nx cx, .slice (some ⟨gf, 0, none⟩) S S, .slice (some ⟨ge, 0, none⟩) S S, vl, .slice none 0 0, .map (some gm), .slice (some ⟨gr, 0, none⟩) S S, .int .i64 0]) (((leastsE E).take k).map (fun n : Nat => Value.int .u8 (n : Int))))) (μ := fun a' _ => nc - (intOf (a'.tmps.getD 76 undef)).toNat) ?beg2 ?rnd2
        case beg2 => exact ⟨0, _, _, _, _, _, _, _, _, _, _, _, _, _, _, _, _, _, _, _, _, _, _, _, _, _, _, _, _, _,  _, _, Nat.zero_le _, rfl, M0.out⟩
        case rnd2 =>
          rintro a' wr ⟨k, u6, u7, u8, x77, x78, x79, x80, x81, x82, x83, x84, x85, x86, x87, x88, x89, x90, x91, x92, x93, x94, x95, x96, x97, x98, x99, x100, x101, x102, vl, ds, hk, rfl, LK⟩
          clear M0
          by_cases hlk : k < nc
          · have hkC : k < C.length := by rw [HLN.out]; exact hlk
            have hgc := World.ownsRow.lt OC.out gc rfl
            have kgc := LK.out.keep gc hgc.2 (by omega)
            have hcs := OC.out.cells hkC
            have HAT := Lib.hid (fun x hx h => HPC.out.class_at HPS.out hkC (c := x) hx h)
            have HJA := Lib.hid (fun x hx => clJ_all HPC.out HPS.out hkC (c := x) hx)
            have HLE := Lib.hid (show (leastsE E).take (k + 1) = (leastsE E).take k ++ [leS C[k]] from by
              have h0 : k < (leastsE E).length := by rw [HNL.out]; exact hlk
              rw [List.take_succ_eq_append_getElem h0]
              congr 2
              simp only [← HPC.out.leasts HPS.out, List.getElem_map])
            generalize C[k] = c at *
            have HCK := Lib.hid (show ∀ j u, [Value.int .u64 (c.w0.toNat : Int), .int .u64 (c.w1.toNat : Int), .int .u64 (c.w2.toNat : Int), .int .u64 (c.w3.toNat : Int)][j]? = some u → wr.cell? ((⟨gc, k * 4, none⟩ : Addr).add j) = some u from fun j u hu => cell_keep (by rw [add_block]; exact kgc) (hcs j u hu))
            clear hcs kgc hkC
            go_upto_region 12 with (refine wpList_load_part 51 4 _ rfl rfl ⟨gc, k * 4, none⟩ rfl [.int .u64 (c.w0.toNat : Int), .int .u64 (c.w1.toNat : Int), .int .u64 (c.w2.toNat : Int), .int .u64 (c.w3.toNat : Int)] (by kernel_rfl) (by kernel_rfl) rfl HCK.out ?_)
            clear HCK
            have b1 := bl_alloc (bl_alloc (Below.refl wr.heap.size wr) (.cells #[.int .i64 (k : Int)] 3)) (.cells (row4 c.f) 51)
            have h7 := H4.new1 wr (.cells #[.int .i64 (k : Int)] 3) c.f
            have k6 : ((wr.alloc (.cells #[.int .i64 (k : Int)] 3)).alloc (.cells (row4 c.f) 51)).heap[wr.heap.size]? = some (.cells #[.int .i64 (k : Int)] 3 (0, 0)) := by
              rw [Below.heap_alloc _ _ _ (by simp)]
              exact heap_alloc_new wr _
            have sA : ((wr.alloc (.cells #[.int .i64 (k : Int)] 3)).alloc (.cells (row4 c.f) 51)).heap.size = wr.heap.size + 2 := by simp
            have LA := LK.out.below b1
            change Code.wp _ _ _ _ ((wr.alloc (.cells #[.int .i64 (k : Int)] 3)).alloc (.cells (row4 c.f) 51))
            generalize ((wr.alloc (.cells #[.int .i64 (k : Int)] 3)).alloc (.cells (row4 c.f) 51)) = wA at *
            clear b1
            go_wp2_with (refine wpList_load_part 51 4 _ rfl rfl ⟨wr.heap.size + 1, 0, none⟩ rfl [.int .u64 (c.w0.toNat : Int), .int .u64 (c.w1.toNat : Int), .int .u64 (c.w2.toNat : Int), .int .u64 (c.w3.toNat : Int)] (by kernel_rfl) (by kernel_rfl) rfl (H4.part h7) ?_)
            refine (all_make c.f wA).mono ?_
            rintro e w3 ⟨rfl, rfl⟩
            have hX := H4.new wA c.f
            have h74 := h7.alloc (.cells (row4 c.f) 51)
            have bB := bl_alloc (Below.refl wA.heap.size wA) (.cells (row4 c.f) 51)
            have k64 := (bB.block wr.heap.size (by omega)).trans k6
            have LB := LA.below bB
            have s4 : (wA.alloc (.cells (row4 c.f) 51)).heap.size = wr.heap.size + 3 := by simp [sA]
            rw [sA] at hX
            have hwr := LK.out.size
            generalize wA.alloc (.cells (row4 c.f) 51) = W4 at *
            rw [sA]
            clear h7 k6 LA bB LK
            generalize wr.heap.size = b6 at *
            have HLB := Lib.hid LB
            have HX := Lib.hid hX
            have H74 := Lib.hid h74
            have K64 := Lib.hid k64
            have T4 := Lib.hid (HT.out.below LB.low)
            have hTb : 0 < W.heap.size := World.block_lt_of_cell? W _ (HT.out 0 (by omega))
            have kv4 := (LB.keep gv (by omega) (fun e => n10 e.symm)).trans (kvw.trans HVAR.out)
            clear LB hX h74 k64
            go_wp2_with fail
            refine wpIn_wide.1 (wp_told (n := 4) (by omega) (gf := 86) (lb := #[.pointer (some ⟨b6 + 1 + 1, 0, none⟩)]) rfl (enters_of Tryz.func86 (by kernel_rfl) rfl)
              (all_tell 3 (b6 + 1 + 1) W.heap.size c.f (by omega) W4 (by omega) HX.out T4.out hTb) (Below.refl _ _) (by omega) rfl
              (fun j Wj => Wj.heap[g]? = some (.cells (mkT (clJ E k ((elems c.f).take j)) [.slice none 0 0, .slice none 0 0, .slice Ax nx cx, .slice (some ⟨gf, 0, none⟩) S S, .slice (some ⟨ge, 0, none⟩) S S, vl, .slice none 0 0, .map (some gm), .slice (some ⟨gr, 0, none⟩) S S, .int .i64 0]) 63 (0, 0)) ∧ W4.grownBy Wj (some g)) (fun _ _ _ => False)
              (AbT.and (abT_block (X := fun j => .cells (mkT (clJ E k ((elems c.f).take j)) [.slice none 0 0, .slice none 0 0, .slice Ax nx cx, .slice (some ⟨gf, 0, none⟩) S S, .slice (some ⟨ge, 0, none⟩) S S, vl, .slice none 0 0, .map (some gm), .slice (some ⟨gr, 0, none⟩) S S, .int .i64 0]) 63 (0, 0)) (by omega)) (abT_grown rfl)) (fun _ _ _ _ _ hs _ _ => hs)
              ⟨by rw [HLB.out.mkb, List.take_zero, mkT_congr (f := clF E k) _ (fun c' _ => (clJ_nil E k c').symm)], ⟨rfl, rfl, rfl, Nat.le_refl _, fun i _ _ => rfl⟩⟩
              (fun x => { tmps := #[.agg #[.int .i64 (S : Int), .slice Ae i ce, .slice Ax nx cx], .pointer (some ⟨W.heap.size, 0, none⟩), .pointer none, .pointer (some ⟨gv, 0, none⟩), undef, u5, .pointer (some ⟨b6, 0, none⟩), .pointer (some ⟨b6 + 1, 0, none⟩), .int .u8 (x.1 : Int), .pointer (some ⟨W.heap.size, 2, none⟩), .slice Ax nx cx, .pointer (some ⟨W.heap.size, 0, none⟩), .int .i64 (S : Int), .slice (some ⟨gf, 0, none⟩) S S, .pointer (some ⟨W.heap.size, 0, none⟩), .int .i64 (S : Int), .slice (some ⟨ge, 0, none⟩) S S, .map (some gm), v18, .map (some gm), .pointer (some ⟨W.heap.size, 0, none⟩), .int .i64 (S : Int), .slice (some ⟨gr, 0, none⟩) S S, v23, .pointer (some ⟨g, 0, none⟩), .pointer (some ⟨W.heap.size, 1, none⟩), .slice Ae i ce, .int .i64 (i : Int), .int .i64 (i : Int), .bool false, u30, u31, u32, u33, u34, u35, u36, u37, u38, u39, u40, u41, u42, u43, u44, u45, u46, u47, u48, u49, u50, u51, u52, u53, u54, u55, u56, u57, u58, u59, u60, u61, u62, u63, u64, u65, u66, u67, u68, u69, u70, u71, .pointer (some ⟨W.heap.size, 1, none⟩), .slice Ae i ce, .slice (some ⟨gc, 0, none⟩) nc capc, .int .i64 (nc : Int), .int .i64 (k : Int), .bool true, .int .i64 (k : Int), .pointer (some ⟨gc, k * 4, none⟩), .agg #[.int .u64 (c.w0.toNat : Int), .int .u64 (c.w1.toNat : Int), .int .u64 (c.w2.toNat : Int), .int .u64 (c.w3.toNat : Int)], .agg #[.int .u64 (c.w0.toNat : Int), .int .u64 (c.w1.toNat : Int), .int .u64 (c.w2.toNat : Int), .int .u64 (c.w3.toNat : Int)], .func (.func 86) #[] #[.pointer (some ⟨b6 + 1 + 1, 0, none⟩)], .int .u8 (x.1 : Int), x84, x85, x86, x87, x88, x89, x90, x91, x92, x93, x94, x95, x96, x97, x98, x99, x100, x101, x102, undef], defers := [] }) ?assign ?body ?done ?stop)
            case assign =>
              intro l x W' K hK
              unfold encB
              gi_wp2
              exact hK
            case body =>
              rintro l j hj Wj ⟨hMj, hGj⟩
              obtain ⟨p, hp, hp256, hps, htk⟩ := elems_at c j hj
              rw [hp]
              have hkv := (hGj.block gv (by omega) (fun e => n10 (Option.some.inj e).symm)).trans kv4
              have hk6 := (hGj.block b6 (by omega) (fun e => by have := Option.some.inj e; omega)).trans K64.out
              have HTK := Lib.hid htk
              have HMJ := Lib.hid hMj
              have HGJ := Lib.hid hGj
              have hWj := hGj.size
              clear htk hMj hGj hp
              gi_wp2_with fail
              refine region_round (S := fun wS => wS.cell? ⟨gv, 0, none⟩ = some (.pointer (some ⟨g, 0, none⟩)) ∧ wS.cell? ⟨b6, 0, none⟩ = some (.int .i64 (k : Int))) (by kernel_rfl) (by kernel_rfl) (fun ⟨a, w, h⟩ => h.elim) ⟨cell_of_row Wj.drew gv 0 _ _ _ hkv, cell_of_row Wj.drew b6 0 _ _ _ hk6⟩ (fun hHeld => ?_)
              have hp' : (p : Int) < 256 := by omega
              have q1 : Wj.drew.cell? ⟨g, p, none⟩ = some (.int .i64 (clJ E k ((elems c.f).take j) p)) := by
                rw [cell_of_row Wj.drew g p _ _ _ HMJ.out]
                exact mkT_cl _ _ hp256
              have q2 : Wj.drew.frozen? ⟨g, p, none⟩ = false := frozen_of_row Wj.drew g p _ _ HMJ.out
              have hGd : Wj.grownBy Wj.drew (some g) := grown_of_below (bl_drewN (Below.refl Wj.heap.size Wj) 1) (some g)
              have hMd : Wj.drew.heap[g]? = _ := HMJ.out
              generalize Wj.drew = Wd at *
              try simp only [zzA, zzB, zzC, Act.put, zzD, zzE, zzF]
              refine wpAnyH_take (i := 0) (v := ?vzu0) rfl (by kernel_rfl) (by kernel_rfl) (by kernel_rfl) (fun _ _ _ h => h) (Or.inl ⟨by rfl, ?yzu0⟩) hHeld ?rzu0
              case yzu0 => (intro wS hSw; have q := hSw.1; clear hSw; go_simp; try (with_reducible rfl))
              try simp only [zzA, zzB, zzC, Act.put, zzD, zzE, zzF]
              refine wpAnyH_take (i := 1) (v := ?vzu1) rfl (by kernel_rfl) (by kernel_rfl) (by kernel_rfl) (fun _ _ _ h => h) (Or.inl ⟨by rfl, ?yzu1⟩) hHeld ?rzu1
              case yzu1 => (intro wS hSw; clear hSw; go_simp; try (with_reducible rfl))
              try simp only [zzA, zzB, zzC, Act.put, zzD, zzE, zzF]
              refine wpAnyH_take (i := 2) (v := ?vzu2) rfl (by kernel_rfl) (by kernel_rfl) (by kernel_rfl) (fun _ _ _ h => h) (Or.inl ⟨by rfl, ?yzu2⟩) hHeld ?rzu2
              case yzu2 => (intro wS hSw; have q := hSw.2; clear hSw; go_simp; try (with_reducible rfl))
              try simp only [zzA, zzB, zzC, Act.put, zzD, zzE, zzF]
              refine wpAnyH_take (i := 3) (v := ?vzu3) rfl (by kernel_rfl) (by kernel_rfl) (by kernel_rfl) (fun _ _ _ h => h) (Or.inl ⟨by rfl, ?yzu3⟩) hHeld ?rzu3
              case yzu3 => (intro wS hSw; clear hSw; go_simp; try (with_reducible rfl))
              try simp only [zzA, zzB, zzC, Act.put, zzD, zzE, zzF]
              refine wpAnyH_take (i := 4) (v := ?vzu4) rfl (by kernel_rfl) (by kernel_rfl) (by kernel_rfl) (fun _ _ _ h => h) (Or.inl ⟨by rfl, ?yzu4⟩) hHeld ?rzu4
              case yzu4 => (intro wS hSw; clear hSw; go_simp; try (with_reducible rfl))
              try simp only [zzA, zzB, zzC, Act.put, zzD, zzE, zzF]
              refine wpAnyH_take (i := 5) (v := ?vzu5) rfl (by kernel_rfl) (by kernel_rfl) (by kernel_rfl) (fun _ _ _ h => h) (Or.inl ⟨by rfl, ?yzu5⟩) hHeld ?rzu5
              case yzu5 => (intro wS hSw; clear hSw; go_simp; try (with_reducible rfl))
              try simp only [zzA, zzB, zzC, Act.put, zzD, zzE, zzF]
              refine wpAnyH_take (i := 6) (v := ?vzu6) rfl (by kernel_rfl) (by kernel_rfl) (by kernel_rfl) (fun _ _ _ h => h) (Or.inl ⟨by rfl, ?yzu6⟩) hHeld ?rzu6
              case yzu6 => (intro wS hSw; clear hSw; go_simp; try (with_reducible rfl))
              try simp only [zzA, zzB, zzC, Act.put, zzD, zzE, zzF]
              refine wpAnyH_ready (rs := [7]) (by kernel_rfl) (by simp) (AllReadyH.cons rfl (fun K hK => ?_) AllReadyH.nil)
              go_simp
              refine hK.out _ _ ⟨cell_keep (p := ⟨gv, 0, none⟩) (set_keep Wd g p (.int .i64 (k : Int)) gv (fun e => n10 e.symm)) hHeld.1, cell_keep (p := ⟨b6, 0, none⟩) (set_keep Wd g p (.int .i64 (k : Int)) b6 (fun e => by omega)) hHeld.2⟩ (fun hHeld => ?_)
              clear hK K
              try simp only [zzA, zzB, zzC, Act.put, zzD, zzE, zzF]
              refine wpAnyH_done (by kernel_rfl) ?_ _
              have hge : Wj.grownBy (Wd.setCell ⟨g, p, none⟩ (.int .i64 (k : Int))) (some g) := World.grownBy.trans hGd (grown_set Wd g p (.int .i64 (k : Int)))
              have hend := body_end hge HMJ.out (by decide) hgb (by omega)
              refine ⟨hend.1, hend.2, ?_, World.grownBy.trans HGJ.out hge⟩
              refine (heap_setCell_same Wd g p _ _ _ hMd).trans ?_
              rw [mkT_put _ _ hp256, HTK.out]
              congr 3
              funext d
              exact (clJ_next E k _ p d).symm
            case done =>
              rintro D Wd hD ⟨hMd, hGd⟩ hDf
              rw [show (finL (elems c.f)).length = (elems c.f).length from finL_len _, List.take_length] at hMd
              have hM2 : Wd.heap[g]? = some (.cells (mkT (clF E (k + 1)) [.slice none 0 0, .slice none 0 0, .slice Ax nx cx, .slice (some ⟨gf, 0, none⟩) S S, .slice (some ⟨ge, 0, none⟩) S S, vl, .slice none 0 0, .map (some gm), .slice (some ⟨gr, 0, none⟩) S S, .int .i64 0]) 63 (0, 0)) := by rw [hMd, mkT_congr (g := clF E (k + 1)) _ (fun c' h => HJA.out c' h)]
              have lgw : g < w2.heap.size := by omega
              have LO := Lib.hid ((HLB.out.mkd hGd hgb lgw hM2).mark (D := D) (by omega) (fun h => by
                have h1 := (Array.getElem?_eq_some_iff.1 (HLB.out.df D h).2).1
                omega) hDf)
              have H7 := Lib.hid (show H4 Wd (b6 + 1) c.f from (hGd.block (b6 + 1) (by omega) (fun e => by have := Option.some.inj e; omega)).trans H74.out)
              clear hMd hM2 hGd hDf HLB H74 HX K64 T4
              go_wp2_with fail
              have hSof : ∀ wS vl' ds' cs' us', Lo2 W w2 g wS vl' ds' cs' us' → H4 wS (b6 + 1) c.f → wS.cell? ⟨gv, 0, none⟩ = some (.pointer (some ⟨g, 0, none⟩)) ∧ H4 wS (b6 + 1) c.f := fun wS vl' ds' cs' us' h1 h2 =>
                ⟨cell_of_row wS gv 0 _ _ _ ((h1.keep gv (by omega) (fun e => n10 e.symm)).trans (kvw.trans HVAR.out)), h2⟩
              have hSof := Lib.hid hSof
              have LO0 := Lib.hid (LO.out.below (w' := Wd.drew) (bl_drewN (Below.refl Wd.heap.size Wd) 1))
              have H70 := Lib.hid (show H4 Wd.drew (b6 + 1) c.f from H7.out)
              refine wp_region_held_drew (S := fun wS => wS.cell? ⟨gv, 0, none⟩ = some (.pointer (some ⟨g, 0, none⟩)) ∧ H4 wS (b6 + 1) c.f) (by kernel_rfl) (hSof.out _ _ _ _ _ LO0.out H70.out) (fun hHeld => ?_)
              clear LO H7
              generalize Wd.drew = Y0 at *
              try simp only [zzA, zzB, zzC, Act.put, zzD, zzE, zzF]
              refine wpAnyH_take (i := 0) (v := ?vzv0) rfl (by kernel_rfl) (by kernel_rfl) (by kernel_rfl) (fun _ _ _ h => h) (Or.inl ⟨by rfl, ?yzv0⟩) hHeld ?rzv0
              case yzv0 => (intro wS hSw; have q := hSw.1; clear hSw; go_simp; try (with_reducible rfl))
              try simp only [zzA, zzB, zzC, Act.put, zzD, zzE, zzF]
              refine wpAnyH_take (i := 1) (v := ?vzv1) rfl (by kernel_rfl) (by kernel_rfl) (by kernel_rfl) (fun _ _ _ h => h) (Or.inl ⟨by rfl, ?yzv1⟩) hHeld ?rzv1
              case yzv1 => (intro wS hSw; have q := hSw.1; clear hSw; go_simp; try (with_reducible rfl))
              try simp only [zzA, zzB, zzC, Act.put, zzD, zzE, zzF]
              refine wpAnyH_take (i := 2) (v := ?vzv2) rfl (by kernel_rfl) (by kernel_rfl) (by kernel_rfl) (fun _ _ _ h => h) (Or.inl ⟨by rfl, ?yzv2⟩) hHeld ?rzv2
              case yzv2 => (intro wS hSw; clear hSw; go_simp; try (with_reducible rfl))
              try simp only [zzA, zzB, zzC, Act.put, zzD, zzE, zzF]
              refine wpAnyH_take (i := 3) (v := ?vzv3) rfl (by kernel_rfl) (by kernel_rfl) (by kernel_rfl) (fun _ _ _ h => h) (Or.inl ⟨by rfl, ?yzv3⟩) hHeld ?rzv3
              case yzv3 => (intro wS hSw; clear hSw; go_simp; try (with_reducible rfl))
              try simp only [zzA, zzB, zzC, Act.put, zzD, zzE, zzF]
              refine wpAnyH_take (i := 5) (v := .agg (row4 c.f)) rfl (by kernel_rfl) (by kernel_rfl) (by kernel_rfl) (fun _ _ _ h => h) (yields_set (by rfl) (.tmp 7) rfl (b6 + 1) rfl c.f (fun wS h => h.2)) hHeld ?rzv5
              try simp only [zzA, zzB, zzC, Act.put, zzD, zzE, zzF]
              refine wpAnyH_ready (rs := [4, 6]) (by kernel_rfl) (by simp) (AllReadyH.cons rfl (fun K hK => ?_) (AllReadyH.cons rfl (fun K hK => ?_) AllReadyH.nil))
              · skip
                have hcl : Y0.cell? ⟨g, 261, none⟩ = some vl := (cell_of_row Y0 g 261 _ _ _ LO0.out.mkb).trans (mkT_at _ _ 5)
                go_simp
                refine hK.out _ _ hHeld (fun hHeld => ?_)
                clear hK K hcl
                try simp only [zzA, zzB, zzC, Act.put, zzD, zzE, zzF]
                refine wpAnyH_ready (rs := [6]) (by kernel_rfl) (by simp) (AllReadyH.cons rfl (fun K hK => ?_) AllReadyH.nil)
                rw [if_pos (by rfl)]
                go_simp
                go_at_call 55
                refine (show Calls _ _ _ _ (GotU Y0 (leS c)) from dleast_any c.f Y0 (HT.out.below LO0.out.low)).mono ?_
                rintro e Y1 ⟨rfl, hbg⟩
                have LO1 := Lib.hid (LO0.out.below hbg.1)
                have H71 := Lib.hid (H70.out.below hbg.1)
                refine hK.out _ _ (hSof.out _ _ _ _ _ LO1.out H71.out) (fun hHeld => ?_)
                clear hK K hbg LO0 H70
                try simp only [zzA, zzB, zzC, Act.put, zzD, zzE, zzF]
                refine wpAnyH_ready (rs := [7]) (by kernel_rfl) (by simp) (AllReadyH.cons rfl (fun K hK => ?_) AllReadyH.nil)
                have bL := bl_alloc (Below.refl Y1.heap.size Y1) (.cells #[.int .u8 (leS c : Int)] 5)
                have kL := cell_of_row _ Y1.heap.size 0 _ _ _ (heap_alloc_new Y1 (.cells #[.int .u8 (leS c : Int)] 5))
                have LO2 := Lib.hid (LO1.out.below bL)
                have H72 := Lib.hid (H71.out.below bL)
                go_simp
                refine hK.out _ _ (hSof.out _ _ _ _ _ LO2.out H72.out) (fun hHeld => ?_)
                clear hK K bL LO1 H71
                change wpAnyH _ _ _ _ _ _ _ _ (Y1.alloc (.cells #[.int .u8 (leS c : Int)] 5))
                generalize Y1.alloc (.cells #[.int .u8 (leS c : Int)] 5) = Y2 at *
                generalize Y1.heap.size = pL at *
                have KL0 := Lib.hid kL
                clear kL
                try simp only [zzA, zzB, zzC, Act.put, zzD, zzE, zzF]
                refine wpAnyH_ready (rs := [8]) (by kernel_rfl) (by simp) (AllReadyH.cons rfl (fun K hK => ?_) AllReadyH.nil)
                rw [if_pos (by rfl)]
                obtain ⟨i0, hi0, hz0, hz1, hz2⟩ := info_parts info_byte
                have hul : (((leastsE E).take k).map (fun n : Nat => Value.int .u8 (n : Int))).length = k := by rw [List.length_map, List.length_take, HNL.out]; omega
                have hown := LO2.out.own
                rw [hul] at hown
                obtain ⟨g8, c8, w8, hrun, ho8, hg8, _, _⟩ := run_append_lies (P := Tryz.prog) Y2 44 44 w2.heap.size 5 i0 (.int .u8 0) 1 1 Tryz.underlying44 hi0 hz0 hz1 hz2 rfl (by omega) vl k _ hown ⟨pL, 0, none⟩ 1 1 [.int .u8 (leS c : Int)] rfl (fun j u hu => by
                  match j, hu with
                  | 0, hu =>
                    simp at hu
                    subst hu
                    exact KL0.out) (by simp [Value.oneCell']) (by omega) (by simp only [maxLen]; omega) (by omega) LO2.out.size _ rfl
                clear hown
                refine wp_append_of_run _ _ 44 rfl vl (.slice (some ⟨pL, 0, none⟩) 1 1) rfl rfl hrun ?_
                have LOa := Lib.hid (LO2.out.app (x := .int .u8 (leS c : Int)) (by omega) lgw hg8 (by rw [hul]; exact ho8))
                have H7a := Lib.hid (show H4 w8 (b6 + 1) c.f from (hg8.block (b6 + 1) (Array.getElem?_eq_some_iff.1 H72.out).1 (fun e2 => by
                  obtain ⟨cs2, hcs2⟩ := LO2.out.typ e2.symm
                  exact ne_typ H72.out hcs2 (by decide) rfl)).trans H72.out)
                refine hK.out _ _ (hSof.out _ _ _ _ _ LOa.out H7a.out) (fun hHeld => ?_)
                clear hK K hrun
                try simp only [zzA, zzB, zzC, Act.put, zzD, zzE, zzF]
                refine wpAnyH_take (i := 9) (v := ?vzw9) rfl (by kernel_rfl) (by kernel_rfl) (by kernel_rfl) (fun _ _ _ h => h) (Or.inl ⟨by rfl, ?yzw9⟩) hHeld ?rzw9
                case yzw9 => (intro wS hSw; clear hSw; go_simp; try (with_reducible rfl))
                try simp only [zzA, zzB, zzC, Act.put, zzD, zzE, zzF]
                refine wpAnyH_take (i := 10) (v := ?vzw10) rfl (by kernel_rfl) (by kernel_rfl) (by kernel_rfl) (fun _ _ _ h => h) (Or.inl ⟨by rfl, ?yzw10⟩) hHeld ?rzw10
                case yzw10 => (intro wS hSw; clear hSw; go_simp; try (with_reducible rfl))
                try simp only [zzA, zzB, zzC, Act.put, zzD, zzE, zzF]
                refine wpAnyH_ready (rs := [11]) (by kernel_rfl) (by simp) (AllReadyH.cons rfl (fun K hK => ?_) AllReadyH.nil)
                have q1 : w8.cell? ⟨g, 261, none⟩ = some vl := (cell_of_row w8 g 261 _ _ _ LOa.out.mkb).trans (mkT_at _ _ 5)
                have q2 : w8.frozen? ⟨g, 261, none⟩ = false := frozen_of_row w8 g 261 _ _ LOa.out.mkb
                have hmk9 := heap_setCell_same w8 g 261 _ _ (.slice (some ⟨g8, 0, none⟩) (k + 1) c8) LOa.out.mkb
                rw [show (261 : Nat) = 256 + 5 from rfl, mkT_set] at hmk9
                have LOb := Lib.hid (LOa.out.mkd (grown_set w8 g 261 (.slice (some ⟨g8, 0, none⟩) (k + 1) c8)) hgb lgw hmk9)
                have H7b := Lib.hid (show H4 (w8.setCell ⟨g, 261, none⟩ (.slice (some ⟨g8, 0, none⟩) (k + 1) c8)) (b6 + 1) c.f from (set_keep w8 g 261 _ (b6 + 1) (by omega)).trans H7a.out)
                go_simp
                refine hK.out _ _ (hSof.out _ _ _ _ _ LOb.out H7b.out) (fun hHeld => ?_)
                clear hK K q1 q2
                try simp only [zzA, zzB, zzC, Act.put, zzD, zzE, zzF]
                refine wpAnyH_done (by kernel_rfl) ?_ _
                go_wp2_with fail
                rw [show (k : Int) + 1 = ((k + 1 : Nat) : Int) from by omega]
                refine ⟨⟨k + 1, _, _, _, _, _, _, _, _, _, _, _, _, _, _, _, _, _, _, _, _, _, _, _, _, _, _, _, _, _, .slice (some ⟨g8, 0, none⟩) (k + 1) c8, D :: ds, by omega, rfl, ?_⟩, by simp [intOf]; omega⟩
                refine Lib.hid ?_
                rw [HLE.out, List.map_append]
                exact LOb.out
              · skip
                rw [if_pos (by rfl)]
                go_simp
                go_at_call 55
                refine (show Calls _ _ _ _ (GotU Y0 (leS c)) from dleast_any c.f Y0 (HT.out.below LO0.out.low)).mono ?_
                rintro e Y1 ⟨rfl, hbg⟩
                have LO1 := Lib.hid (LO0.out.below hbg.1)
                have H71 := Lib.hid (H70.out.below hbg.1)
                refine hK.out _ _ (hSof.out _ _ _ _ _ LO1.out H71.out) (fun hHeld => ?_)
                clear hK K hbg LO0 H70
                try simp only [zzA, zzB, zzC, Act.put, zzD, zzE, zzF]
                refine wpAnyH_ready (rs := [4, 7]) (by kernel_rfl) (by simp) (AllReadyH.cons rfl (fun K hK => ?_) (AllReadyH.cons rfl (fun K hK => ?_) AllReadyH.nil))
                · skip
                  have hcl : Y1.cell? ⟨g, 261, none⟩ = some vl := (cell_of_row Y1 g 261 _ _ _ LO1.out.mkb).trans (mkT_at _ _ 5)
                  go_simp
                  refine hK.out _ _ hHeld (fun hHeld => ?_)
                  clear hK K hcl
                  try simp only [zzA, zzB, zzC, Act.put, zzD, zzE, zzF]
                  refine wpAnyH_ready (rs := [7]) (by kernel_rfl) (by simp) (AllReadyH.cons rfl (fun K hK => ?_) AllReadyH.nil)
                  have bL := bl_alloc (Below.refl Y1.heap.size Y1) (.cells #[.int .u8 (leS c : Int)] 5)
                  have kL := cell_of_row _ Y1.heap.size 0 _ _ _ (heap_alloc_new Y1 (.cells #[.int .u8 (leS c : Int)] 5))
                  have LO2 := Lib.hid (LO1.out.below bL)
                  have H72 := Lib.hid (H71.out.below bL)
                  go_simp
                  refine hK.out _ _ (hSof.out _ _ _ _ _ LO2.out H72.out) (fun hHeld => ?_)
                  clear hK K bL LO1 H71
                  change wpAnyH _ _ _ _ _ _ _ _ (Y1.alloc (.cells #[.int .u8 (leS c : Int)] 5))
                  generalize Y1.alloc (.cells #[.int .u8 (leS c : Int)] 5) = Y2 at *
                  generalize Y1.heap.size = pL at *
                  have KL0 := Lib.hid kL
                  clear kL
                  try simp only [zzA, zzB, zzC, Act.put, zzD, zzE, zzF]
                  refine wpAnyH_ready (rs := [8]) (by kernel_rfl) (by simp) (AllReadyH.cons rfl (fun K hK => ?_) AllReadyH.nil)
                  rw [if_pos (by rfl)]
                  obtain ⟨i0, hi0, hz0, hz1, hz2⟩ := info_parts info_byte
                  have hul : (((leastsE E).take k).map (fun n : Nat => Value.int .u8 (n : Int))).length = k := by rw [List.length_map, List.length_take, HNL.out]; omega
                  have hown := LO2.out.own
                  rw [hul] at hown
                  obtain ⟨g8, c8, w8, hrun, ho8, hg8, _, _⟩ := run_append_lies (P := Tryz.prog) Y2 44 44 w2.heap.size 5 i0 (.int .u8 0) 1 1 Tryz.underlying44 hi0 hz0 hz1 hz2 rfl (by omega) vl k _ hown ⟨pL, 0, none⟩ 1 1 [.int .u8 (leS c : Int)] rfl (fun j u hu => by
                    match j, hu with
                    | 0, hu =>
                      simp at hu
                      subst hu
                      exact KL0.out) (by simp [Value.oneCell']) (by omega) (by simp only [maxLen]; omega) (by omega) LO2.out.size _ rfl
                  clear hown
                  refine wp_append_of_run _ _ 44 rfl vl (.slice (some ⟨pL, 0, none⟩) 1 1) rfl rfl hrun ?_
                  have LOa := Lib.hid (LO2.out.app (x := .int .u8 (leS c : Int)) (by omega) lgw hg8 (by rw [hul]; exact ho8))
                  have H7a := Lib.hid (show H4 w8 (b6 + 1) c.f from (hg8.block (b6 + 1) (Array.getElem?_eq_some_iff.1 H72.out).1 (fun e2 => by
                    obtain ⟨cs2, hcs2⟩ := LO2.out.typ e2.symm
                    exact ne_typ H72.out hcs2 (by decide) rfl)).trans H72.out)
                  refine hK.out _ _ (hSof.out _ _ _ _ _ LOa.out H7a.out) (fun hHeld => ?_)
                  clear hK K hrun
                  try simp only [zzA, zzB, zzC, Act.put, zzD, zzE, zzF]
                  refine wpAnyH_take (i := 9) (v := ?vzy9) rfl (by kernel_rfl) (by kernel_rfl) (by kernel_rfl) (fun _ _ _ h => h) (Or.inl ⟨by rfl, ?yzy9⟩) hHeld ?rzy9
                  case yzy9 => (intro wS hSw; clear hSw; go_simp; try (with_reducible rfl))
                  try simp only [zzA, zzB, zzC, Act.put, zzD, zzE, zzF]
                  refine wpAnyH_take (i := 10) (v := ?vzy10) rfl (by kernel_rfl) (by kernel_rfl) (by kernel_rfl) (fun _ _ _ h => h) (Or.inl ⟨by rfl, ?yzy10⟩) hHeld ?rzy10
                  case yzy10 => (intro wS hSw; clear hSw; go_simp; try (with_reducible rfl))
                  try simp only [zzA, zzB, zzC, Act.put, zzD, zzE, zzF]
                  refine wpAnyH_ready (rs := [11]) (by kernel_rfl) (by simp) (AllReadyH.cons rfl (fun K hK => ?_) AllReadyH.nil)
                  have q1 : w8.cell? ⟨g, 261, none⟩ = some vl := (cell_of_row w8 g 261 _ _ _ LOa.out.mkb).trans (mkT_at _ _ 5)
                  have q2 : w8.frozen? ⟨g, 261, none⟩ = false := frozen_of_row w8 g 261 _ _ LOa.out.mkb
                  have hmk9 := heap_setCell_same w8 g 261 _ _ (.slice (some ⟨g8, 0, none⟩) (k + 1) c8) LOa.out.mkb
                  rw [show (261 : Nat) = 256 + 5 from rfl, mkT_set] at hmk9
                  have LOb := Lib.hid (LOa.out.mkd (grown_set w8 g 261 (.slice (some ⟨g8, 0, none⟩) (k + 1) c8)) hgb lgw hmk9)
                  have H7b := Lib.hid (show H4 (w8.setCell ⟨g, 261, none⟩ (.slice (some ⟨g8, 0, none⟩) (k + 1) c8)) (b6 + 1) c.f from (set_keep w8 g 261 _ (b6 + 1) (by omega)).trans H7a.out)
                  go_simp
                  refine hK.out _ _ (hSof.out _ _ _ _ _ LOb.out H7b.out) (fun hHeld => ?_)
                  clear hK K q1 q2
                  try simp only [zzA, zzB, zzC, Act.put, zzD, zzE, zzF]
                  refine wpAnyH_done (by kernel_rfl) ?_ _
                  go_wp2_with fail
                  rw [show (k : Int) + 1 = ((k + 1 : Nat) : Int) from by omega]
                  refine ⟨⟨k + 1, _, _, _, _, _, _, _, _, _, _, _, _, _, _, _, _, _, _, _, _, _, _, _, _, _, _, _, _, _, .slice (some ⟨g8, 0, none⟩) (k + 1) c8, D :: ds, by omega, rfl, ?_⟩, by simp [intOf]; omega⟩
                  refine Lib.hid ?_
                  rw [HLE.out, List.map_append]
                  exact LOb.out
                · skip
                  have bL := bl_alloc (Below.refl Y1.heap.size Y1) (.cells #[.int .u8 (leS c : Int)] 5)
                  have kL := cell_of_row _ Y1.heap.size 0 _ _ _ (heap_alloc_new Y1 (.cells #[.int .u8 (leS c : Int)] 5))
                  have LO2 := Lib.hid (LO1.out.below bL)
                  have H72 := Lib.hid (H71.out.below bL)
                  go_simp
                  refine hK.out _ _ (hSof.out _ _ _ _ _ LO2.out H72.out) (fun hHeld => ?_)
                  clear hK K bL LO1 H71
                  change wpAnyH _ _ _ _ _ _ _ _ (Y1.alloc (.cells #[.int .u8 (leS c : Int)] 5))
                  generalize Y1.alloc (.cells #[.int .u8 (leS c : Int)] 5) = Y2 at *
                  generalize Y1.heap.size = pL at *
                  have KL0 := Lib.hid kL
                  clear kL
                  try simp only [zzA, zzB, zzC, Act.put, zzD, zzE, zzF]
                  refine wpAnyH_ready (rs := [4]) (by kernel_rfl) (by simp) (AllReadyH.cons rfl (fun K hK => ?_) AllReadyH.nil)
                  have hcl : Y2.cell? ⟨g, 261, none⟩ = some vl := (cell_of_row Y2 g 261 _ _ _ LO2.out.mkb).trans (mkT_at _ _ 5)
                  go_simp
                  refine hK.out _ _ hHeld (fun hHeld => ?_)
                  clear hK K hcl
                  try simp only [zzA, zzB, zzC, Act.put, zzD, zzE, zzF]
                  refine wpAnyH_ready (rs := [8]) (by kernel_rfl) (by simp) (AllReadyH.cons rfl (fun K hK => ?_) AllReadyH.nil)
                  rw [if_pos (by rfl)]
                  obtain ⟨i0, hi0, hz0, hz1, hz2⟩ := info_parts info_byte
                  have hul : (((leastsE E).take k).map (fun n : Nat => Value.int .u8 (n : Int))).length = k := by rw [List.length_map, List.length_take, HNL.out]; omega
                  have hown := LO2.out.own
                  rw [hul] at hown
                  obtain ⟨g8, c8, w8, hrun, ho8, hg8, _, _⟩ := run_append_lies (P := Tryz.prog) Y2 44 44 w2.heap.size 5 i0 (.int .u8 0) 1 1 Tryz.underlying44 hi0 hz0 hz1 hz2 rfl (by omega) vl k _ hown ⟨pL, 0, none⟩ 1 1 [.int .u8 (leS c : Int)] rfl (fun j u hu => by
                    match j, hu with
                    | 0, hu =>
                      simp at hu
                      subst hu
                      exact KL0.out) (by simp [Value.oneCell']) (by omega) (by simp only [maxLen]; omega) (by omega) LO2.out.size _ rfl
                  clear hown
                  refine wp_append_of_run _ _ 44 rfl vl (.slice (some ⟨pL, 0, none⟩) 1 1) rfl rfl hrun ?_
                  have LOa := Lib.hid (LO2.out.app (x := .int .u8 (leS c : Int)) (by omega) lgw hg8 (by rw [hul]; exact ho8))
                  have H7a := Lib.hid (show H4 w8 (b6 + 1) c.f from (hg8.block (b6 + 1) (Array.getElem?_eq_some_iff.1 H72.out).1 (fun e2 => by
                    obtain ⟨cs2, hcs2⟩ := LO2.out.typ e2.symm
                    exact ne_typ H72.out hcs2 (by decide) rfl)).trans H72.out)
                  refine hK.out _ _ (hSof.out _ _ _ _ _ LOa.out H7a.out) (fun hHeld => ?_)
                  clear hK K hrun
                  try simp only [zzA, zzB, zzC, Act.put, zzD, zzE, zzF]
                  refine wpAnyH_take (i := 9) (v := ?vzz9) rfl (by kernel_rfl) (by kernel_rfl) (by kernel_rfl) (fun _ _ _ h => h) (Or.inl ⟨by rfl, ?yzz9⟩) hHeld ?rzz9
                  case yzz9 => (intro wS hSw; clear hSw; go_simp; try (with_reducible rfl))
                  try simp only [zzA, zzB, zzC, Act.put, zzD, zzE, zzF]
                  refine wpAnyH_take (i := 10) (v := ?vzz10) rfl (by kernel_rfl) (by kernel_rfl) (by kernel_rfl) (fun _ _ _ h => h) (Or.inl ⟨by rfl, ?yzz10⟩) hHeld ?rzz10
                  case yzz10 => (intro wS hSw; clear hSw; go_simp; try (with_reducible rfl))
                  try simp only [zzA, zzB, zzC, Act.put, zzD, zzE, zzF]
                  refine wpAnyH_ready (rs := [11]) (by kernel_rfl) (by simp) (AllReadyH.cons rfl (fun K hK => ?_) AllReadyH.nil)
                  have q1 : w8.cell? ⟨g, 261, none⟩ = some vl := (cell_of_row w8 g 261 _ _ _ LOa.out.mkb).trans (mkT_at _ _ 5)
                  have q2 : w8.frozen? ⟨g, 261, none⟩ = false := frozen_of_row w8 g 261 _ _ LOa.out.mkb
                  have hmk9 := heap_setCell_same w8 g 261 _ _ (.slice (some ⟨g8, 0, none⟩) (k + 1) c8) LOa.out.mkb
                  rw [show (261 : Nat) = 256 + 5 from rfl, mkT_set] at hmk9
                  have LOb := Lib.hid (LOa.out.mkd (grown_set w8 g 261 (.slice (some ⟨g8, 0, none⟩) (k + 1) c8)) hgb lgw hmk9)
                  have H7b := Lib.hid (show H4 (w8.setCell ⟨g, 261, none⟩ (.slice (some ⟨g8, 0, none⟩) (k + 1) c8)) (b6 + 1) c.f from (set_keep w8 g 261 _ (b6 + 1) (by omega)).trans H7a.out)
                  go_simp
                  refine hK.out _ _ (hSof.out _ _ _ _ _ LOb.out H7b.out) (fun hHeld => ?_)
                  clear hK K q1 q2
                  try simp only [zzA, zzB, zzC, Act.put, zzD, zzE, zzF]
                  refine wpAnyH_done (by kernel_rfl) ?_ _
                  go_wp2_with fail
                  rw [show (k : Int) + 1 = ((k + 1 : Nat) : Int) from by omega]
                  refine ⟨⟨k + 1, _, _, _, _, _, _, _, _, _, _, _, _, _, _, _, _, _, _, _, _, _, _, _, _, _, _, _, _, _, .slice (some ⟨g8, 0, none⟩) (k + 1) c8, D :: ds, by omega, rfl, ?_⟩, by simp [intOf]; omega⟩
                  refine Lib.hid ?_
                  rw [HLE.out, List.map_append]
                  exact LOb.out
            case stop =>
              rintro D c k W' _ _ h _
              exact h.elim
          · obtain rfl : k = nc := by omega
            have hv3 : wr.cell? ⟨gv, 0, none⟩ = some (.pointer (some ⟨g, 0, none⟩)) := cell_of_row wr gv 0 _ _ _ ((LK.out.keep gv (by omega) (fun e => n10 e.symm)).trans (kvw.trans HVAR.out))
            go_wp2_with fail
            show LeavesInM Fence.wide 4 _ _ _ _ (marksD ds) .returning wr
            refine leaves_marks ds wr LK.out.nd (fun D h => (LK.out.df D h).2) (fun w' hw => ⟨_, results_tmp rfl _ _ _, ?_⟩)
            show R (.returned (.pointer (some ⟨g, 0, none⟩))) w'
            rw [← HQ.out]
            have lgw : g < w2.heap.size := by omega
            have kp : ∀ i, i < w2.heap.size → w'.heap[i]? = wr.heap[i]? := fun i hi => hw.same i (fun h => by have := (LK.out.df i h).1; omega)
            have kpr : ∀ i, i < w2.heap.size → i ≠ g → w'.heap[i]? = w2.heap[i]? := fun i hi hne => (kp i hi).trans (LK.out.keep i hi hne)
            have hus : (leastsE E).take k = leastsE E := List.take_of_length_le (by rw [HNL.out]; exact Nat.le_refl _)
            have hown := LK.out.own
            rw [hus] at hown
            refine made (b0 := w.heap.size) (n2 := w2.heap.size) (sf := sf) (se := se) (vl := vl) hs1 hs2 HED.out (by rw [HN.out]; omega) ?_ ?_ ?_ ?_ ?_ ?_ ?_ (by omega) ?_ lg lm lr hgb hgm hgrb n2 m1 n6 n3 m2 n7 m4 n8 m3
            · refine (kp g lgw).trans (LK.out.mkb.trans ?_)
              rw [mkT_congr (g := fun c => (classE E c : Int)) _ (fun c' h => by have := clF_all HPC.out HPS.out h; rwa [HLN.out] at this)]
            · exact (kpr gr (by omega) n8).trans ((KLd.out.keep gr lr (fun e => n6 e.symm) (fun e => n7 e.symm)).trans HGR.out)
            · exact HMD.out.keep ((kpr gm (by omega) (fun e => m4 e.symm)).trans (KLd.out.keep gm lm (fun e => m1 e.symm) (fun e => m2 e.symm)))
            · exact GFd.out.keep (kpr gf GFd.out.row.lt n2) (fun s q hs e => kpr q (GFd.out.blk hs q e).2 (by have := (GFd.out.blk hs q e).1; omega))
            · exact GEd.out.keep (kpr ge GEd.out.row.lt n3) (fun s q hs e => kpr q (GEd.out.blk hs q e).2 (by have := (GEd.out.blk hs q e).1; omega))
            · exact LK.out.low.trans (hw.below W.heap.size LK.out.low.size (fun D h => by have := (LK.out.df D h).1; omega))
            · refine owns_keep hown (fun q e => hw.same q (fun h => ?_))
              obtain ⟨cs2, h2⟩ := LK.out.typ e
              rw [(LK.out.df q h).2] at h2
              cases h2
            · rw [hw.size]
              exact LK.out.size
