/- A loop over an iterator that has a set of its own, turned between two rounds; All. The iterator All wants math/bits' table as it was laid. -/
import Derived.Test.YtcgfogdfcdndgaaGreatDoorSetDQ
set_option linter.unusedVariables false
set_option linter.unusedSimpArgs false
namespace Go.Proofs.YtcgfogdfcdndgaaGreatDoor
open Go.RowKit Go.Shelf
attribute [local go_sem] Oper.semAt_some

/-- A block is a set. -/
def IsSet (A : World) (i : Nat) : Prop := ∃ cs, A.heap[i]? = some (.cells cs 51 (0, 0))
/-- A step of the iterator: new blocks, and one set of its own is turned. -/
def StepS (n : Nat) (A B : World) : Prop := ∃ row, A.grownBy B row ∧ ∀ r, row = some r → n ≤ r ∧ IsSet A r
/-- What an iterator's steps, and the loop's own book-keeping, leave as it was. -/
def AbT (n : Nat) (I : Nat → World → Prop) : Prop :=
  ∀ k A B row, I k A → A.grownBy B row → (∀ r, row = some r → n ≤ r ∧ ∃ o : Obj, A.heap[r]? = some o ∧ (o.isCells = false ∨ IsSet A r)) → I k B
theorem AbT.and {n : Nat} {I J : Nat → World → Prop} (h : AbT n I) (i : AbT n J) : AbT n (fun k W => I k W ∧ J k W) := fun k A B row hs hg hr => ⟨h k A B row hs.1 hg hr, i k A B row hs.2 hg hr⟩
theorem AbT.put {n : Nat} {I : Nat → World → Prop} (h : AbT n I) {k : Nat} {W : World} {l : Nat} {o : Obj} (o' : Obj) (hs : I k W) (hn : n ≤ l) (hl : W.heap[l]? = some o) (ho : o.isCells = false) : I k (W.putObj l o') :=
  h k W _ (some l) hs (grownBy_putObj' W l o') (fun r e => by cases e; exact ⟨hn, o, hl, .inl ho⟩)
theorem AbT.alloc {n : Nat} {I : Nat → World → Prop} (h : AbT n I) {k : Nat} {W : World} (o : Obj) (hs : I k W) : I k (W.alloc o) :=
  h k W _ none hs (World.grownBy_alloc W o none) (fun r e => by cases e)
/-- What a round keeps: all below n0, and each set. -/
def KpT (n0 : Nat) (A B : World) : Prop := Below n0 A B ∧ ∀ i, IsSet A i → B.heap[i]? = A.heap[i]?
theorem KpT.trans {n0 : Nat} {A B C : World} (h : KpT n0 A B) (k : KpT n0 B C) : KpT n0 A C :=
  ⟨h.1.trans k.1, fun i hi => by
    have h1 := h.2 i hi
    have hB : IsSet B i := by obtain ⟨cs, e⟩ := hi; exact ⟨cs, h1.trans e⟩
    exact (k.2 i hB).trans h1⟩
theorem KpT.put {n0 : Nat} {W : World} {l : Nat} {o : Obj} (o' : Obj) (hn : n0 ≤ l) (hl : W.heap[l]? = some o) (ho : o.isCells = false) : KpT n0 W (W.putObj l o') := by
  refine ⟨(Below.refl n0 W).grown (grownBy_putObj' W l o') (by have := (Array.getElem?_eq_some_iff.1 hl).1; omega) (fun k e => by cases e; exact hn), fun i hi => World.putObj_heap_other ?_⟩
  rintro rfl
  obtain ⟨cs, e⟩ := hi
  rw [hl] at e
  cases e
  cases ho
/-- How a round's body may be left. -/
def postT (n0 : Nat) (I : Nat → World → Prop) (Ix : Code → Nat → World → Prop) (k : Nat) (W : World) : Exit → Act → World → Prop
  | .normal, _, W' => KeepsOthers W W' ∧ KpT n0 W W' ∧ I k W'
  | .ret, _, W' => KeepsOthers W W' ∧ Ix .ret k W'
  | .exit id, _, W' => KeepsOthers W W' ∧ Ix (.exit id) k W'
  | .goto t, _, W' => KeepsOthers W W' ∧ Ix (.goto t) k W'
  | _, _, _ => False
/-- An iterator that tells the bytes of L. -/
def TellsT (d gf : Nat) (lb : Array Value) (n0 : Nat) (L : List (Fin 256)) (w : World) : Prop :=
  ∀ (l : Nat) (J Jx : Nat → World → Prop) (W : World), Below w.heap.size w W → (∀ k A B, J k A → StepS W.heap.size A B → J k B) → (∀ k A B, Jx k A → StepS W.heap.size A B → Jx k B) →
    (∀ k (h : k < L.length) W1, J k W1 → YieldAt Fence.wide (d - 1) Tryz.prog l (encB L[k]) W1 fun e W' =>
      (e = .returned (.bool true) ∧ J (k + 1) W' ∧ KpT n0 W1 W') ∨ (e = .returned (.bool false) ∧ Jx (k + 1) W')) →
    J 0 W → CallsIn Fence.wide d Tryz.prog gf (#[.func (.yield l) #[] #[]] ++ lb) W fun e W' => (∃ v, e = .returned v) ∧ (J L.length W' ∨ ∃ k, k < L.length ∧ Jx (k + 1) W')

theorem stepS_keeps {n : Nat} {A B : World} (h : StepS n A B) {i : Nat} {o : Obj} (hi : A.heap[i]? = some o) (ho : o.isCells = false) : B.heap[i]? = some o := by
  obtain ⟨row, hg, hr⟩ := h
  refine (hg.block i (Array.getElem?_eq_some_iff.1 hi).1 fun e => ?_).trans hi
  obtain ⟨_, cs, hc⟩ := hr i e.symm
  rw [hi] at hc
  cases hc
  cases ho
theorem stepS_ab {n m : Nat} {A B : World} {I : Nat → World → Prop} {k : Nat} (hI : AbT n I) (hnm : n ≤ m) (h : StepS m A B) (hs : I k A) : I k B := by
  obtain ⟨row, hg, hr⟩ := h
  exact hI k A B row hs hg fun r e => by
    obtain ⟨h1, cs, hc⟩ := hr r e
    exact ⟨by omega, _, hc, .inr ⟨cs, hc⟩⟩

/-- A loop over such an iterator. -/
theorem wp_told {n : Nat} {g : Operand} {ps : Array Tmp} {assign body : Code} {Q : Exit → Act → World → Prop} {a : Act} {w : World} (h1 : 1 ≤ n) {gf : Nat} {lb : Array Value}
    (hg : a.eval g = .func (.func gf) #[] lb) (eg : ∀ args w, (callFunc gf args).run Tryz.prog w = .ok (.enter gf args) w) {n0 : Nat} {L : List (Fin 256)} {w0 : World}
    (hseq : TellsT (n - 1) gf lb n0 L w0) (hb0 : Below w0.heap.size w0 w) (hn0 : n0 ≤ w.heap.size) (hps : ps.size = 1)
    (I : Nat → World → Prop) (Ix : Code → Nat → World → Prop) (hI : AbT w.heap.size I) (hIx : ∀ c, AbT w.heap.size (Ix c)) (h0 : I 0 w) (a1 : Fin 256 → Act)
    (hassign : ∀ (l : Nat) (x : Fin 256) (W : World) (K : Act → World → Prop), K (a1 x) W →
      assign.wpIn (Fence.wide.inRound l) (n - 1 - 1) Tryz.prog (Exit.then K (fun _ _ _ => False)) { tmps := (ps.zip (encB x)).foldl (fun t (p, v) => t.setIfInBounds p v) a.tmps, defers := [] } W)
    (hbody : ∀ (l k : Nat) (h : k < L.length) (W : World), I k W → body.wpIn (Fence.wide.inRound l) (n - 1 - 1) Tryz.prog (postT n0 I Ix (k + 1) W) (a1 L[k]) W)
    (hdone : ∀ (D : Nat) (W : World), w.heap.size ≤ D → I L.length W → W.heap[D]? = some (.deferred (some [])) → Q .normal { a with defers := { target := .collected D, args := #[] } :: a.defers } W)
    (hstop : ∀ (D : Nat) (c : Code) (k : Nat) (W : World), w.heap.size ≤ D → k < L.length → Ix c (k + 1) W → W.heap[D]? = some (.deferred (some [])) →
      c.wpIn Fence.wide n Tryz.prog Q { a with defers := { target := .collected D, args := #[] } :: a.defers } W) :
    (Code.rangeFunc g ps assign body).wpIn Fence.wide n Tryz.prog Q a w := by
  refine wpIn_rangeFunc fun fn _ => ?_
  obtain ⟨rec, hrec⟩ : ∃ rec : LoopState → Option Code → Loop, rec = fun st pe => { state := st, pending := pe, fn, tmps := a.tmps, params := ps, assign, body, defers := w.heap.size } := ⟨_, rfl⟩
  have hW := run_enterLoop_outer (P := Tryz.prog) (w := w) fn a.tmps ps assign body
  have hb1 : Below w0.heap.size w0 ((w.alloc (.deferred (some []))).alloc (.loop (rec .ready none))) := bl_alloc (bl_alloc hb0 _) _
  have hi1 : I 0 ((w.alloc (.deferred (some []))).alloc (.loop (rec .ready none))) := hI.alloc _ (hI.alloc _ h0)
  have hd1 : ((w.alloc (.deferred (some []))).alloc (.loop (rec .ready none))).heap[w.heap.size]? = some (.deferred (some [])) := (Below.heap_alloc _ _ _ (by simp)).trans (World.alloc_heap_new w _)
  have hl1 : ((w.alloc (.deferred (some []))).alloc (.loop (rec .ready none))).heap[w.heap.size + 1]? = some (.loop (rec .ready none)) := by
    have := World.alloc_heap_new (w.alloc (.deferred (some []))) (.loop (rec .ready none))
    rwa [World.size_alloc] at this
  have hs1 : ((w.alloc (.deferred (some []))).alloc (.loop (rec .ready none))).heap.size = w.heap.size + 2 := by simp
  rw [show (Loop.mk .ready none fn a.tmps ps assign body w.heap.size) = rec .ready none by rw [hrec]] at hW
  generalize (w.alloc (.deferred (some []))).alloc (.loop (rec .ready none)) = W1 at *
  refine ⟨w.heap.size + 1, [{ target := .collected w.heap.size, args := #[] }], W1, { target := .fn (.func gf) lb, args := #[.func (.yield (w.heap.size + 1)) #[] #[]] }, W1, gf,
    #[.func (.yield (w.heap.size + 1)) #[] #[]] ++ lb, W1, hW, ?_, fun _ _ => trivial, ?_, fun _ => h1, ?_⟩
  · simp only [resolve, hg]
    simp [go_sem]
  · simp [invoke, go_sem, eg]
  refine (hseq (w.heap.size + 1)
    (fun k W => I k W ∧ W.heap[w.heap.size + 1]? = some (.loop (rec .ready none)) ∧ W.heap[w.heap.size]? = some (.deferred (some [])))
    (fun k W => ∃ c, Ix c k W ∧ W.heap[w.heap.size + 1]? = some (.loop (rec .done (some c))) ∧ W.heap[w.heap.size]? = some (.deferred (some [])))
    W1 hb1 (fun k A B hs h => ⟨stepS_ab hI (by omega) h hs.1, stepS_keeps h hs.2.1 rfl, stepS_keeps h hs.2.2 rfl⟩)
    (fun k A B ⟨c, hc, e1, e2⟩ h => ⟨c, stepS_ab (hIx c) (by omega) h hc, stepS_keeps h e1 rfl, stepS_keeps h e2 rfl⟩) ?_ ⟨hi1, hl1, hd1⟩).mono ?_
  · rintro k hk W ⟨hi, hl, hd⟩
    have hlt : w.heap.size + 1 < W.heap.size := (Array.getElem?_eq_some_iff.1 hl).1
    have hy := run_yield (P := Tryz.prog) (args := encB L[k]) hl (by rw [hrec]; exact hps.symm)
    obtain ⟨busy, hbusy⟩ : ∃ o : Loop, o = { rec .ready none with state := .busy } := ⟨_, rfl⟩
    have hbg := run_beginRound (P := Tryz.prog) hl (by rw [hrec])
    rw [← hbusy] at hbg
    rw [hrec] at hy
    refine ⟨fn, _, assign, body, hy, roundIn_of_wpIn trivial (hassign _ L[k] W _ ⟨_, hbg, ?_⟩)⟩
    have hl2 : (W.putObj (w.heap.size + 1) (.loop busy)).heap[w.heap.size + 1]? = some (.loop busy) := World.putObj_heap_same hlt
    have hd2 : (W.putObj (w.heap.size + 1) (.loop busy)).heap[w.heap.size]? = some (.deferred (some [])) := (World.putObj_heap_other (by omega)).trans hd
    have hk2 : KpT n0 W (W.putObj (w.heap.size + 1) (.loop busy)) := KpT.put _ (by omega) hl rfl
    refine wpIn_mono (hbody _ k hk _ (hI.put _ hi (by omega) hl rfl)) ?_
    generalize W.putObj (w.heap.size + 1) (.loop busy) = W2 at *
    have fin : ∀ (jump : Option Code) (W3 : World), KeepsOthers W2 W3 → ∃ o W4, (Instr.endRound (w.heap.size + 1) jump).run Tryz.prog W3 = .ok (.bool jump.isNone) W4 ∧ W4 = W3.putObj (w.heap.size + 1) o ∧
        W3.heap[w.heap.size + 1]? = some (.loop busy) ∧ W4.heap[w.heap.size + 1]? = some (.loop (rec (if jump.isNone then .ready else .done) jump)) ∧ W4.heap[w.heap.size]? = some (.deferred (some [])) := by
      intro jump W3 h3
      have hl3 := h3.same _ _ hl2 rfl
      have hd3 := h3.same _ _ hd2 rfl
      have he := run_endRound (P := Tryz.prog) jump hl3
      refine ⟨_, _, he, rfl, hl3, ?_, (World.putObj_heap_other (by omega)).trans hd3⟩
      rw [World.putObj_heap_same (Array.getElem?_eq_some_iff.1 hl3).1, hbusy, hrec]
    have out : ∀ (c : Code) (W3 : World), KeepsOthers W2 W3 → Ix c (k + 1) W3 → ∃ v W4, (Instr.endRound (w.heap.size + 1) (some c)).run Tryz.prog W3 = .ok v W4 ∧ ((Ending.returned v = .returned (.bool true) ∧ (I (k + 1) W4 ∧ W4.heap[w.heap.size + 1]? = some (.loop (rec .ready none)) ∧ W4.heap[w.heap.size]? = some (.deferred (some []))) ∧ KpT n0 W W4) ∨
        (Ending.returned v = .returned (.bool false) ∧ ∃ c, Ix c (k + 1) W4 ∧ W4.heap[w.heap.size + 1]? = some (.loop (rec .done (some c))) ∧ W4.heap[w.heap.size]? = some (.deferred (some [])))) := by
      intro c W3 h3 hx
      obtain ⟨o, W4, he, rfl, hl3, hl4, hd4⟩ := fin (some c) W3 h3
      exact ⟨_, _, he, .inr ⟨rfl, c, (hIx c).put _ hx (by omega) hl3 rfl, hl4, hd4⟩⟩
    rintro e a3 W3 hp
    cases e with
    | normal =>
      obtain ⟨h3, k3, i3⟩ := hp
      obtain ⟨o, W4, he, rfl, hl3, hl4, hd4⟩ := fin none W3 h3
      exact ⟨_, _, he, .inl ⟨rfl, ⟨hI.put _ i3 (by omega) hl3 rfl, hl4, hd4⟩, (hk2.trans k3).trans (KpT.put _ (by omega) hl3 rfl)⟩⟩
    | ret => exact out .ret W3 hp.1 hp.2
    | exit id => exact out (.exit id) W3 hp.1 hp.2
    | goto t => exact out (.goto t) W3 hp.1 hp.2
    | panic ch => exact hp.elim
    | outgrown => exact hp.elim
  · rintro e W2 ⟨⟨v, rfl⟩, (⟨hi, hl, hd⟩ | ⟨k, hk, c, hi, hl, hd⟩)⟩
    · have he := run_endLoop (P := Tryz.prog) hl (by rw [hrec]; simp)
      rw [show (rec .ready none).pending = none by rw [hrec]] at he
      exact ⟨none, _, he, hdone _ _ (Nat.le_refl _) (hI.put _ hi (by omega) hl rfl) ((World.putObj_heap_other (by omega)).trans hd)⟩
    · have he := run_endLoop (P := Tryz.prog) hl (by rw [hrec]; simp)
      rw [show (rec .done (some c)).pending = some c by rw [hrec]] at he
      exact ⟨some c, _, he, hstop _ c k _ (Nat.le_refl _) hk ((hIx c).put _ hi (by omega) hl rfl) ((World.putObj_heap_other (by omega)).trans hd)⟩

end Go.Proofs.YtcgfogdfcdndgaaGreatDoor

/- All, over the translated program: it tells the bytes of a set, rising. It wants math/bits' table as it was laid. -/
set_option linter.unusedVariables false
set_option linter.unusedSimpArgs false
namespace Go.Proofs.YtcgfogdfcdndgaaGreatDoor
open Go.RowKit Go.Shelf
attribute [local go_sem] Oper.semAt_some

theorem off64 (x y : BitVec 64) : bits .andNot .u64 (x.toNat : Int) (y.toNat : Int) = ((x &&& ~~~ y).toNat : Int) := by
  show IntKind.u64.wrap ((BitVec.ofInt 64 (x.toNat : Int) &&& ~~~ BitVec.ofInt 64 (y.toNat : Int)).toNat : Int) = _
  rw [ofInt64, ofInt64, IntKind.wrap_u64]
  have := (x &&& ~~~ y).isLt
  omega
theorem off_at (f : Nat → BitVec 64) (c q r : Nat) (hq : c / 64 = q) (hr : c % 64 = r) (j : Nat) : offW f c j = if j = q then f q &&& ~~~ (1#64 <<< r) else f j := by
  unfold offW
  rw [hq, hr]
  by_cases h : j = q
  · subst h; simp
  · simp [h]

/-- The first one taken off. -/
theorem elems_off (f : Nat → BitVec 64) (c : Nat) (l : List Nat) (h : elems f = c :: l) : elems (offW f c) = l := by
  have h1 : elems (offW f c) = (elems f).filter (fun d => !decide (d = c)) := by
    unfold elems
    rw [List.filter_filter]
    apply List.filter_congr
    intro d _
    rw [has_off, Bool.and_comm]
  have hr := elems_rise f
  rw [h] at hr h1
  rw [h1, List.filter_cons]
  simp only [decide_true, Bool.not_true, Bool.false_eq_true, if_false]
  apply List.filter_eq_self.2
  intro d hd
  have := (List.pairwise_cons.1 hr).1 d hd
  simp
  omega
theorem elems_lt (f : Nat → BitVec 64) : ∀ c ∈ elems f, c < 256 := fun c hc => ((mem_elems f c).1 hc).1

def hdV : List Nat → Value
  | [] => .int .u8 0
  | c :: _ => .int .u8 (c : Int)
def isV : List Nat → Value
  | [] => .bool false
  | _ :: _ => .bool true
theorem leastV_eq (l : List Nat) : leastV l = .tuple #[hdV l, isV l] := by cases l <;> rfl

theorem isSet_h4 {W : World} {g : Nat} {f : Nat → BitVec 64} (h : H4 W g f) : IsSet W g := ⟨_, h⟩
theorem stepS_none {n : Nat} {A B : World} (h : A.grownBy B none) : StepS n A B := ⟨none, h, fun r e => by cases e⟩
theorem stepS_below {n : Nat} {A B : World} (h : Below A.heap.size A B) : StepS n A B := stepS_none (grown_of_below h none)
theorem grown_cell (W : World) (b i : Nat) (v : Value) : W.grownBy (W.setCell ⟨b, i, none⟩ v) (some b) :=
  ⟨rfl, rfl, rfl, (KeepsWalks.setCell W _ v).size, fun k _ hk => Below.heap_setCell _ _ _ k (fun e => hk (by rw [e]))⟩
theorem grown_row (W : World) (b : Nat) (cs : Array Value) : W.grownBy (W.setRow b cs) (some b) :=
  ⟨rfl, rfl, rfl, by simp, fun k _ hk => setRow_other _ _ _ _ (fun e => hk (by rw [e]))⟩
theorem stepS_cell {n : Nat} {W : World} {g i : Nat} {f : Nat → BitVec 64} (h : H4 W g f) (hn : n ≤ g) (v : Value) : StepS n W (W.setCell ⟨g, i, none⟩ v) :=
  ⟨some g, grown_cell W g i v, fun r e => by cases e; exact ⟨hn, isSet_h4 h⟩⟩
theorem stepS_row {n : Nat} {W : World} {g : Nat} {f : Nat → BitVec 64} (h : H4 W g f) (hn : n ≤ g) (cs : Array Value) : StepS n W (W.setRow g cs) :=
  ⟨some g, grown_row W g cs, fun r e => by cases e; exact ⟨hn, isSet_h4 h⟩⟩

set_option maxRecDepth 20000 in
theorem all_make (f : Nat → BitVec 64) (w : World) : Calls Tryz.prog 54 #[.agg (row4 f)] w fun e w' =>
    e = .returned (.func (.func 86) #[] #[.pointer (some ⟨w.heap.size, 0, none⟩)]) ∧ w' = w.alloc (.cells (row4 f) 51) := by
  go_enter Tryz.func54, Tryz.ntmps54
  go_wp2
  go_ret
  exact ⟨rfl, rfl⟩

set_option maxRecDepth 100000 in
set_option maxHeartbeats 4000000 in
theorem all_loop (d l B n0 : Nat) (f : Nat → BitVec 64) (hd : 2 ≤ d) (J Jx : Nat → World → Prop) (W : World)
    (hJ : ∀ k A C, J k A → StepS W.heap.size A C → J k C) (hJx : ∀ k A C, Jx k A → StepS W.heap.size A C → Jx k C)
    (hY : ∀ k (h : k < (finL (elems f)).length) W1, J k W1 → YieldAt Fence.wide (d - 1) Tryz.prog l (encB (finL (elems f))[k]) W1 fun e W' =>
      (e = .returned (.bool true) ∧ J (k + 1) W' ∧ KpT n0 W1 W') ∨ (e = .returned (.bool false) ∧ Jx (k + 1) W'))
    (hn0 : n0 ≤ W.heap.size) (hB : H4 W B f) (hT : Tab W) (hTb : 0 < n0) (h0 : J 0 W) :
    CallsIn Fence.wide d Tryz.prog 86 #[.func (.yield l) #[] #[], .pointer (some ⟨B, 0, none⟩)] W fun e W' => (∃ v, e = .returned v) ∧
      (J (finL (elems f)).length W' ∨ ∃ k, k < (finL (elems f)).length ∧ Jx (k + 1) W') := by
  have hm1 : 1 ≤ d := by omega
  have hz := zero4
  rw [tab4_row] at hz
  refine callsIn_of_wp Tryz.func86 rfl trivial ?_ rfl
  simp only [Tryz.ntmps86, List.size_toArray, List.length_cons, List.length_nil, Nat.reduceAdd, Nat.reduceSub, Array.replicate_succ, Array.replicate_zero, List.push_toArray, List.append_toArray, List.nil_append, List.cons_append]
  have hC := H4.new W nilW
  have hD := hC.laid (f' := f)
  gi_wp2_with (first
    | (refine wpListIn_load_row rfl 51 _ rfl B rfl _ _ (0, 0) _ hB Tryz.underlying51 rfl (by rw [size4, row4_size]) ?_)
    | (refine wpListIn_store_row rfl 51 _ _ rfl W.heap.size _ rfl rfl _ _ hC (by rw [size4, row4_size]) (by rw [row4_size, row4_size]) (row4_one _) ?_)
    | (refine wpListIn_load_row rfl 51 _ rfl W.heap.size rfl _ _ (0, 0) _ hD Tryz.underlying51 rfl (by rw [size4, row4_size]) ?_)
    | (refine ⟨trivial, ?_⟩; gi_at_call 87))
  have b1 : Below n0 W ((W.alloc (.cells (row4 nilW) 51)).setRow W.heap.size (row4 f)) := (bl_setRow (bl_alloc (Below.refl W.heap.size W) (.cells (row4 nilW) 51)) (Nat.le_refl _) (row4 f)).mono hn0
  have j1 : J 0 ((W.alloc (.cells (row4 nilW) 51)).setRow W.heap.size (row4 f)) := hJ _ _ _ (hJ _ _ _ h0 (stepS_none (World.grownBy_alloc W _ none))) (stepS_row hC (Nat.le_refl _) _)
  have tab : ∀ w', Below n0 W w' → Tab w' := fun w' hb j hj => (hb.cell (p := ⟨0, j, none⟩) hTb).trans (hT j hj)
  have TAB := Lib.hid tab
  have HJ := Lib.hid hJ
  have HJX := Lib.hid hJx
  have HN := Lib.hid hn0
  clear hC tab hJ hJx hn0 hT h0
  generalize (W.alloc (.cells (row4 nilW) 51)).setRow W.heap.size (row4 f) = W1 at *
  refine (callsIn_wide.2 (least_any f W1 (TAB.out _ b1))).mono ?_
  rintro e w1 ⟨rfl, hb1⟩
  rw [leastV_eq]
  have j2 := HJ.out _ _ _ j1 (stepS_below (n := W.heap.size) hb1)
  have d2 := hD.below hb1
  have b2 := b1.trans (hb1.mono (Nat.le_trans HN.out b1.size))
  have J2 := Lib.hid j2
  have D2 := Lib.hid d2
  have B2 := Lib.hid b2
  obtain ⟨p0, hp0⟩ : ∃ p0, hdV (elems f) = p0 := ⟨_, rfl⟩
  obtain ⟨q0, hq0⟩ : ∃ q0, isV (elems f) = q0 := ⟨_, rfl⟩
  rw [hp0, hq0]
  have P0 := Lib.hid hp0
  have Q0 := Lib.hid hq0
  clear j1 hD b1 hb1 j2 d2 b2 hB hz hp0 hq0
  gi_wp2_with fail
  gi_loopw [4, 5] (fun p q wr => ∃ (k : Nat) (g : Nat → BitVec 64), k ≤ (elems f).length ∧ Hid (elems g = (elems f).drop k) ∧ p = hdV ((elems f).drop k) ∧ q = isV ((elems f).drop k) ∧ J k wr ∧ H4 wr W.heap.size g ∧ Below n0 W wr)
    (fun p q _ => match q with | .bool true => 256 - (intOf p).toNat | _ => 0)
  case atStart => exact ⟨0, f, by omega, Lib.hid rfl, P0.out.symm, Q0.out.symm, J2.out, D2.out, B2.out⟩
  case round =>
    clear J2 D2 B2
    obtain ⟨k, g, hk, HG, rfl, rfl, hj, h4, hb⟩ := hrel
    have hlen : (finL (elems f)).length = (elems f).length := finL_len _
    cases hl : (elems f).drop k with
    | nil =>
      have hkl : k = (elems f).length := by
        have := List.drop_eq_nil_iff.1 hl
        omega
      subst hkl
      simp only [hdV, isV]
      gi_wp2_with fail
      refine ⟨fun _ h => (by cases h), ?_⟩
      gi_wp2
      go_end0
      exact ⟨⟨_, rfl⟩, .inl (by rw [hlen]; exact hj)⟩
    | cons c r =>
      have hkl : k < (elems f).length := by
        rcases Nat.lt_or_ge k (elems f).length with h | h
        · exact h
        · rw [List.drop_eq_nil_iff.2 h] at hl
          cases hl
      have hkL : k < (finL (elems f)).length := by omega
      have hc : (elems f)[k] = c ∧ (elems f).drop (k + 1) = r := by
        rw [List.drop_eq_getElem_cons hkl] at hl
        exact List.cons.inj hl
      have hc256 : c < 256 := by rw [← hc.1]; exact elems_lt f _ (List.getElem_mem hkl)
      have hx : (((finL (elems f))[k]).1 : Int) = (c : Int) := by
        simp only [finL, finB, List.getElem_map, hc.1]
        omega
      obtain ⟨fn, tmps, assign, body, hy, hR⟩ := hY k hkL wr hj
      dsimp only [encB] at hy
      rw [hx] at hy
      have hoff := elems_off g c r (HG.out.trans hl)
      have hr2 : elems (offW g c) = (elems f).drop (k + 1) := hoff.trans hc.2.symm
      have HR := Lib.hid hr2
      have HC := Lib.hid hc
      have HL := Lib.hid hlen
      have H256 := Lib.hid hc256
      clear hoff hr2 hc hlen hx hY
      simp only [hdV, isV]
      gi_wp2
      refine hR.mono ?_
      rintro e W3 (⟨rfl, hJ3, hK3⟩ | ⟨rfl, hJx3⟩)
      · have h43 : H4 W3 W.heap.size g := (hK3.2 _ (isSet_h4 h4)).trans h4
        have hb3 := hb.trans hK3.1
        obtain ⟨q, hq⟩ : ∃ q, c / 64 = q := ⟨_, rfl⟩
        obtain ⟨r2, hr2⟩ : ∃ r2, c % 64 = r2 := ⟨_, rfl⟩
        have hq4 : q < 4 := by omega
        have hr4 : r2 < 64 := by omega
        have eq1 : (c : Int) / 64 = (q : Int) := by omega
        have er1 : (c : Int) % 64 = (r2 : Int) := by omega
        have hput := off_at g c q r2 hq hr2
        have hbit := bit_at r2
        obtain ⟨m, hm⟩ : ∃ m, 1#64 <<< r2 = m := ⟨_, rfl⟩
        have ho := off64 (g q) m
        have hc1 := h43.cell hq4
        have hf1 := h43.free q
        obtain ⟨u, hu⟩ : ∃ u, g q = u := ⟨_, rfl⟩
        obtain ⟨y, hy2⟩ : ∃ y, u &&& ~~~ m = y := ⟨_, rfl⟩
        rw [hm] at hbit hput
        rw [hu] at ho hput hc1
        rw [hy2] at ho hput
        have H4b := h43.set (f' := offW g c) q y (fun j _ => hput j)
        have J4 := HJ.out _ _ _ hJ3 (stepS_cell (i := q) h43 (Nat.le_refl _) (.int .u64 (y.toNat : Int)))
        have B4 := hb3.setCell (p := ⟨W.heap.size, q, none⟩) HN.out (.int .u64 (y.toNat : Int))
        have HH4 := Lib.hid H4b
        have HJ4 := Lib.hid J4
        have HB4 := Lib.hid B4
        clear hm hu hy2 hput hq hr2 H4b J4 B4 hJ3 hK3 hb3 h43 hR hy h4 hb hj
        gi_wp2_with (first
          | (refine wpListIn_load_row rfl 51 _ rfl W.heap.size rfl _ _ (0, 0) _ HH4.out Tryz.underlying51 rfl (by rw [size4, row4_size]) ?_)
          | (refine ⟨trivial, ?_⟩; gi_at_call 87))
        have hgr := HR.out
        refine (callsIn_wide.2 (least_any (offW g c) _ (TAB.out _ HB4.out))).mono ?_
        rintro e w5 ⟨rfl, hb5⟩
        rw [leastV_eq, hgr]
        have J5 := HJ.out _ _ _ HJ4.out (stepS_below (n := W.heap.size) hb5)
        have D5 := HH4.out.below hb5
        have B5 := HB4.out.trans (hb5.mono (Nat.le_trans HN.out HB4.out.size))
        obtain ⟨p5, hp5⟩ : ∃ p5, hdV ((elems f).drop (k + 1)) = p5 := ⟨_, rfl⟩
        obtain ⟨q5, hq5⟩ : ∃ q5, isV ((elems f).drop (k + 1)) = q5 := ⟨_, rfl⟩
        rw [hp5, hq5]
        have P5 := Lib.hid hp5
        have Q5 := Lib.hid hq5
        have JJ5 := Lib.hid J5
        have DD5 := Lib.hid D5
        have BB5 := Lib.hid B5
        clear J5 D5 B5 hp5 hq5 hb5
        gi_wp2_with fail
        go_roundw
        case rel => exact ⟨k + 1, offW g c, by omega, HR, P5.out.symm, Q5.out.symm, JJ5.out, DD5.out, BB5.out⟩
        case measure =>
          rw [← P5.out, ← Q5.out]
          cases hl2 : (elems f).drop (k + 1) with
          | nil => simp [isV, intOf]; omega
          | cons c2 r3 =>
            have h2 : k + 1 < (elems f).length := by
              rcases Nat.lt_or_ge (k + 1) (elems f).length with h | h
              · exact h
              · rw [List.drop_eq_nil_iff.2 h] at hl2
                cases hl2
            have e2 : (elems f)[k + 1] = c2 := by
              rw [List.drop_eq_getElem_cons h2] at hl2
              exact (List.cons.inj hl2).1
            have hlt := List.pairwise_iff_getElem.1 (elems_rise f) k (k + 1) hkl h2 (by omega)
            rw [HC.out.1, e2] at hlt
            simp [hdV, isV, intOf]
            omega
      · gi_wp2
        go_end0
        exact ⟨⟨_, rfl⟩, .inr ⟨k, by rw [HL.out]; exact hkl, hJx3⟩⟩

theorem all_tell (d B n0 : Nat) (f : Nat → BitVec 64) (hd : 2 ≤ d) (w : World) (hn0 : n0 ≤ w.heap.size) (hB : H4 w B f) (hT : Tab w) (hTb : 0 < n0) :
    TellsT d 86 #[.pointer (some ⟨B, 0, none⟩)] n0 (finL (elems f)) w := fun l J Jx W hW hJ hJx hY h0 =>
  all_loop d l B n0 f hd J Jx W hJ hJx hY (Nat.le_trans hn0 hW.size) (hB.below hW) (hT.below hW) hTb h0

end Go.Proofs.YtcgfogdfcdndgaaGreatDoor
