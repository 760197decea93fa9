/- A loop over an iterator that has a set of its own, turned between two rounds; All. The iterator All wants math/bits' table as it was laid. -/
import Derived.Test.YteedmkokbapkgaaDoorSetE
set_option linter.unusedVariables false
set_option linter.unusedSimpArgs false
namespace Go.Proofs.YteedmkokbapkgaaDoor
open Go.RowKit Go.Shelf
attribute [local go_sem] Oper.semAt_some

/-- A block is a set. -/
def IsSet (A : World) (i : Nat) : Prop := ∃ cs, A.heap[i]? = some (.cells cs 57 (0, 0))
/-- A step of the iterator: new blocks, and one set of its own is turned. -/
def StepS (n : Nat) (A B : World) : Prop := ∃ row, A.grownBy B row ∧ ∀ r, row = some r → n ≤ r ∧ IsSet A r
/-- What an iterator's steps, and the loop's own book-keeping, leave as it was. -/
def AbT (n : Nat) (I : Nat → World → Prop) : Prop :=
  ∀ k A B row, I k A → A.grownBy B row → (∀ r, row = some r → n ≤ r ∧ ∃ o : Obj, A.heap[r]? = some o ∧ (o.isCells = false ∨ IsSet A r)) → I k B
theorem AbT.and {n : Nat} {I J : Nat → World → Prop} (h : AbT n I) (i : AbT n J) : AbT n (fun k W => I k W ∧ J k W) := fun k A B row hs hg hr => ⟨h k A B row hs.1 hg hr, i k A B row hs.2 hg hr⟩
theorem AbT.put {n : Nat} {I : Nat → World → Prop} (h : AbT n I) {k : Nat} {W : World} {l : Nat} {o : Obj} (o' : Obj) (hs : I k W) (hn : n ≤ l) (hl : W.heap[l]? = some o) (ho : o.isCells = false) : I k (W.putObj l o') :=
  h k W _ (some l) hs (grownBy_putObj' W l o') (fun r e => by cases e; exact ⟨hn, o, hl, .inl ho⟩)
theorem AbT.alloc {n : Nat} {I : Nat → World → Prop} (h : AbT n I) {k : Nat} {W : World} (o : Obj) (hs : I k W) : I k (W.alloc o) :=
  h k W _ none hs (World.grownBy_alloc W o none) (fun r e => by cases e)
theorem abT_below {n n0 : Nat} {w : World} (h0 : n0 ≤ w.heap.size) (hn : n0 ≤ n) : AbT n (fun _ W => Below n0 w W) :=
  fun _ _ _ _ hs hg hr => hs.grown hg (Nat.le_trans h0 hs.size) (fun k e => Nat.le_trans hn (hr k e).1)
/-- What a round keeps: all below n0, and each set. -/
def KpT (n0 m : Nat) (A B : World) : Prop := Below n0 A B ∧ ∀ i, m ≤ i → IsSet A i → B.heap[i]? = A.heap[i]?
theorem KpT.trans {n0 m : Nat} {A B C : World} (h : KpT n0 m A B) (k : KpT n0 m B C) : KpT n0 m A C :=
  ⟨h.1.trans k.1, fun i hm hi => by
    have h1 := h.2 i hm hi
    have hB : IsSet B i := by obtain ⟨cs, e⟩ := hi; exact ⟨cs, h1.trans e⟩
    exact (k.2 i hm hB).trans h1⟩
theorem KpT.put {n0 m : Nat} {W : World} {l : Nat} {o : Obj} (o' : Obj) (hn : n0 ≤ l) (hl : W.heap[l]? = some o) (ho : o.isCells = false) : KpT n0 m W (W.putObj l o') := by
  refine ⟨(Below.refl n0 W).grown (grownBy_putObj' W l o') (by have := (Array.getElem?_eq_some_iff.1 hl).1; omega) (fun k e => by cases e; exact hn), fun i _ hi => World.putObj_heap_other ?_⟩
  rintro rfl
  obtain ⟨cs, e⟩ := hi
  rw [hl] at e
  cases e
  cases ho
/-- How a round's body may be left. -/
def postT (n0 m : Nat) (I : Nat → World → Prop) (Ix : Code → Nat → World → Prop) (k : Nat) (W : World) : Exit → Act → World → Prop
  | .normal, _, W' => KeepsOthers W W' ∧ KpT n0 m W W' ∧ I k W'
  | .ret, _, W' => KeepsOthers W W' ∧ Ix .ret k W'
  | .exit id, _, W' => KeepsOthers W W' ∧ Ix (.exit id) k W'
  | .goto t, _, W' => KeepsOthers W W' ∧ Ix (.goto t) k W'
  | _, _, _ => False
/-- An iterator that tells the bytes of L. -/
def TellsT (d gf : Nat) (lb : Array Value) (n0 : Nat) (L : List (Fin 256)) (w : World) : Prop :=
  ∀ (l : Nat) (J Jx : Nat → World → Prop) (W : World), Below w.heap.size w W → (∀ k A B, J k A → StepS W.heap.size A B → J k B) → (∀ k A B, Jx k A → StepS W.heap.size A B → Jx k B) →
    (∀ k (h : k < L.length) W1, J k W1 → YieldAt Fence.wide (d - 1) Tryd.prog l (encB L[k]) W1 fun e W' =>
      (e = .returned (.bool true) ∧ J (k + 1) W' ∧ KpT n0 w.heap.size W1 W') ∨ (e = .returned (.bool false) ∧ Jx (k + 1) W')) →
    J 0 W → CallsIn Fence.wide d Tryd.prog gf (#[.func (.yield l) #[] #[]] ++ lb) W fun e W' => (∃ v, e = .returned v) ∧ (J L.length W' ∨ ∃ k, k < L.length ∧ Jx (k + 1) W')

theorem stepS_keeps {n : Nat} {A B : World} (h : StepS n A B) {i : Nat} {o : Obj} (hi : A.heap[i]? = some o) (ho : o.isCells = false) : B.heap[i]? = some o := by
  obtain ⟨row, hg, hr⟩ := h
  refine (hg.block i (Array.getElem?_eq_some_iff.1 hi).1 fun e => ?_).trans hi
  obtain ⟨_, cs, hc⟩ := hr i e.symm
  rw [hi] at hc
  cases hc
  cases ho
theorem stepS_ab {n m : Nat} {A B : World} {I : Nat → World → Prop} {k : Nat} (hI : AbT n I) (hnm : n ≤ m) (h : StepS m A B) (hs : I k A) : I k B := by
  obtain ⟨row, hg, hr⟩ := h
  exact hI k A B row hs hg fun r e => by
    obtain ⟨h1, cs, hc⟩ := hr r e
    exact ⟨by omega, _, hc, .inr ⟨cs, hc⟩⟩

/-- A loop over such an iterator. -/
theorem wp_told {n : Nat} {g : Operand} {ps : Array Tmp} {assign body : Code} {Q : Exit → Act → World → Prop} {a : Act} {w : World} (h1 : 1 ≤ n) {gf : Nat} {lb : Array Value}
    (hg : a.eval g = .func (.func gf) #[] lb) (eg : ∀ args w, (callFunc gf args).run Tryd.prog w = .ok (.enter gf args) w) {n0 : Nat} {L : List (Fin 256)} {w0 : World}
    (hseq : TellsT (n - 1) gf lb n0 L w0) (hb0 : Below w0.heap.size w0 w) (hn0 : n0 ≤ w.heap.size) (hps : ps.size = 1)
    (I : Nat → World → Prop) (Ix : Code → Nat → World → Prop) (hI : AbT w.heap.size I) (hIx : ∀ c, AbT w.heap.size (Ix c)) (h0 : I 0 w) (a1 : Fin 256 → Act)
    (hassign : ∀ (l : Nat) (x : Fin 256) (W : World) (K : Act → World → Prop), K (a1 x) W →
      assign.wpIn (Fence.wide.inRound l) (n - 1 - 1) Tryd.prog (Exit.then K (fun _ _ _ => False)) { tmps := (ps.zip (encB x)).foldl (fun t (p, v) => t.setIfInBounds p v) a.tmps, defers := [] } W)
    (hbody : ∀ (l k : Nat) (h : k < L.length) (W : World), I k W → body.wpIn (Fence.wide.inRound l) (n - 1 - 1) Tryd.prog (postT n0 w0.heap.size I Ix (k + 1) W) (a1 L[k]) W)
    (hdone : ∀ (D : Nat) (W : World), w.heap.size ≤ D → I L.length W → W.heap[D]? = some (.deferred (some [])) → Q .normal { a with defers := { target := .collected D, args := #[] } :: a.defers } W)
    (hstop : ∀ (D : Nat) (c : Code) (k : Nat) (W : World), w.heap.size ≤ D → k < L.length → Ix c (k + 1) W → W.heap[D]? = some (.deferred (some [])) →
      c.wpIn Fence.wide n Tryd.prog Q { a with defers := { target := .collected D, args := #[] } :: a.defers } W) :
    (Code.rangeFunc g ps assign body).wpIn Fence.wide n Tryd.prog Q a w := by
  refine wpIn_rangeFunc fun fn _ => ?_
  obtain ⟨rec, hrec⟩ : ∃ rec : LoopState → Option Code → Loop, rec = fun st pe => { state := st, pending := pe, fn, tmps := a.tmps, params := ps, assign, body, defers := w.heap.size } := ⟨_, rfl⟩
  have hW := run_enterLoop_outer (P := Tryd.prog) (w := w) fn a.tmps ps assign body
  have hb1 : Below w0.heap.size w0 ((w.alloc (.deferred (some []))).alloc (.loop (rec .ready none))) := bl_alloc (bl_alloc hb0 _) _
  have hi1 : I 0 ((w.alloc (.deferred (some []))).alloc (.loop (rec .ready none))) := hI.alloc _ (hI.alloc _ h0)
  have hd1 : ((w.alloc (.deferred (some []))).alloc (.loop (rec .ready none))).heap[w.heap.size]? = some (.deferred (some [])) := (Below.heap_alloc _ _ _ (by simp)).trans (World.alloc_heap_new w _)
  have hl1 : ((w.alloc (.deferred (some []))).alloc (.loop (rec .ready none))).heap[w.heap.size + 1]? = some (.loop (rec .ready none)) := by
    have := World.alloc_heap_new (w.alloc (.deferred (some []))) (.loop (rec .ready none))
    rwa [World.size_alloc] at this
  have hs1 : ((w.alloc (.deferred (some []))).alloc (.loop (rec .ready none))).heap.size = w.heap.size + 2 := by simp
  rw [show (Loop.mk .ready none fn a.tmps ps assign body w.heap.size) = rec .ready none by rw [hrec]] at hW
  generalize (w.alloc (.deferred (some []))).alloc (.loop (rec .ready none)) = W1 at *
  refine ⟨w.heap.size + 1, [{ target := .collected w.heap.size, args := #[] }], W1, { target := .fn (.func gf) lb, args := #[.func (.yield (w.heap.size + 1)) #[] #[]] }, W1, gf,
    #[.func (.yield (w.heap.size + 1)) #[] #[]] ++ lb, W1, hW, ?_, fun _ _ => trivial, ?_, fun _ => h1, ?_⟩
  · simp only [resolve, hg]
    simp [go_sem]
  · simp [invoke, go_sem, eg]
  refine (hseq (w.heap.size + 1)
    (fun k W => I k W ∧ W.heap[w.heap.size + 1]? = some (.loop (rec .ready none)) ∧ W.heap[w.heap.size]? = some (.deferred (some [])))
    (fun k W => ∃ c, Ix c k W ∧ W.heap[w.heap.size + 1]? = some (.loop (rec .done (some c))) ∧ W.heap[w.heap.size]? = some (.deferred (some [])))
    W1 hb1 (fun k A B hs h => ⟨stepS_ab hI (by omega) h hs.1, stepS_keeps h hs.2.1 rfl, stepS_keeps h hs.2.2 rfl⟩)
    (fun k A B ⟨c, hc, e1, e2⟩ h => ⟨c, stepS_ab (hIx c) (by omega) h hc, stepS_keeps h e1 rfl, stepS_keeps h e2 rfl⟩) ?_ ⟨hi1, hl1, hd1⟩).mono ?_
  · rintro k hk W ⟨hi, hl, hd⟩
    have hlt : w.heap.size + 1 < W.heap.size := (Array.getElem?_eq_some_iff.1 hl).1
    have hy := run_yield (P := Tryd.prog) (args := encB L[k]) hl (by rw [hrec]; exact hps.symm)
    obtain ⟨busy, hbusy⟩ : ∃ o : Loop, o = { rec .ready none with state := .busy } := ⟨_, rfl⟩
    have hbg := run_beginRound (P := Tryd.prog) hl (by rw [hrec])
    rw [← hbusy] at hbg
    rw [hrec] at hy
    refine ⟨fn, _, assign, body, hy, roundIn_of_wpIn trivial (hassign _ L[k] W _ ⟨_, hbg, ?_⟩)⟩
    have hl2 : (W.putObj (w.heap.size + 1) (.loop busy)).heap[w.heap.size + 1]? = some (.loop busy) := World.putObj_heap_same hlt
    have hd2 : (W.putObj (w.heap.size + 1) (.loop busy)).heap[w.heap.size]? = some (.deferred (some [])) := (World.putObj_heap_other (by omega)).trans hd
    have hk2 : KpT n0 w0.heap.size W (W.putObj (w.heap.size + 1) (.loop busy)) := KpT.put _ (by omega) hl rfl
    refine wpIn_mono (hbody _ k hk _ (hI.put _ hi (by omega) hl rfl)) ?_
    generalize W.putObj (w.heap.size + 1) (.loop busy) = W2 at *
    have fin : ∀ (jump : Option Code) (W3 : World), KeepsOthers W2 W3 → ∃ o W4, (Instr.endRound (w.heap.size + 1) jump).run Tryd.prog W3 = .ok (.bool jump.isNone) W4 ∧ W4 = W3.putObj (w.heap.size + 1) o ∧
        W3.heap[w.heap.size + 1]? = some (.loop busy) ∧ W4.heap[w.heap.size + 1]? = some (.loop (rec (if jump.isNone then .ready else .done) jump)) ∧ W4.heap[w.heap.size]? = some (.deferred (some [])) := by
      intro jump W3 h3
      have hl3 := h3.same _ _ hl2 rfl
      have hd3 := h3.same _ _ hd2 rfl
      have he := run_endRound (P := Tryd.prog) jump hl3
      refine ⟨_, _, he, rfl, hl3, ?_, (World.putObj_heap_other (by omega)).trans hd3⟩
      rw [World.putObj_heap_same (Array.getElem?_eq_some_iff.1 hl3).1, hbusy, hrec]
    have out : ∀ (c : Code) (W3 : World), KeepsOthers W2 W3 → Ix c (k + 1) W3 → ∃ v W4, (Instr.endRound (w.heap.size + 1) (some c)).run Tryd.prog W3 = .ok v W4 ∧ ((Ending.returned v = .returned (.bool true) ∧ (I (k + 1) W4 ∧ W4.heap[w.heap.size + 1]? = some (.loop (rec .ready none)) ∧ W4.heap[w.heap.size]? = some (.deferred (some []))) ∧ KpT n0 w0.heap.size W W4) ∨
        (Ending.returned v = .returned (.bool false) ∧ ∃ c, Ix c (k + 1) W4 ∧ W4.heap[w.heap.size + 1]? = some (.loop (rec .done (some c))) ∧ W4.heap[w.heap.size]? = some (.deferred (some [])))) := by
      intro c W3 h3 hx
      obtain ⟨o, W4, he, rfl, hl3, hl4, hd4⟩ := fin (some c) W3 h3
      exact ⟨_, _, he, .inr ⟨rfl, c, (hIx c).put _ hx (by omega) hl3 rfl, hl4, hd4⟩⟩
    rintro e a3 W3 hp
    cases e with
    | normal =>
      obtain ⟨h3, k3, i3⟩ := hp
      obtain ⟨o, W4, he, rfl, hl3, hl4, hd4⟩ := fin none W3 h3
      exact ⟨_, _, he, .inl ⟨rfl, ⟨hI.put _ i3 (by omega) hl3 rfl, hl4, hd4⟩, (hk2.trans k3).trans (KpT.put _ (by omega) hl3 rfl)⟩⟩
    | ret => exact out .ret W3 hp.1 hp.2
    | exit id => exact out (.exit id) W3 hp.1 hp.2
    | goto t => exact out (.goto t) W3 hp.1 hp.2
    | panic ch => exact hp.elim
    | outgrown => exact hp.elim
  · rintro e W2 ⟨⟨v, rfl⟩, (⟨hi, hl, hd⟩ | ⟨k, hk, c, hi, hl, hd⟩)⟩
    · have he := run_endLoop (P := Tryd.prog) hl (by rw [hrec]; simp)
      rw [show (rec .ready none).pending = none by rw [hrec]] at he
      exact ⟨none, _, he, hdone _ _ (Nat.le_refl _) (hI.put _ hi (by omega) hl rfl) ((World.putObj_heap_other (by omega)).trans hd)⟩
    · have he := run_endLoop (P := Tryd.prog) hl (by rw [hrec]; simp)
      rw [show (rec .done (some c)).pending = some c by rw [hrec]] at he
      exact ⟨some c, _, he, hstop _ c k _ (Nat.le_refl _) hk ((hIx c).put _ hi (by omega) hl rfl) ((World.putObj_heap_other (by omega)).trans hd)⟩

end Go.Proofs.YteedmkokbapkgaaDoor
