/- Loops over All in a round of a loop: what they keep; a region that draws, in such a round. -/
import Derived.Test.YtcgfogdfcdndgaaGreatDoorDgLQ
import Derived.Test.YtcgfogdfcdndgaaGreatDoorSetIQ
import Derived.Deep.RegionHeld3
set_option linter.unusedVariables false
set_option linter.unusedSimpArgs false
namespace Go.Proofs.YtcgfogdfcdndgaaGreatDoor
open Go.RowKit Go.Shelf

theorem upon_round {P : Program} {o : Oper} {a : Act} {next : Act → World → Prop} {Q : Exit → Act → World → Prop} (n l : Nat) : ∀ r : Result Next, o.upon P a next Q r → o.uponIn (Fence.wide.inRound l) n P a next Q r
  | .ok (.value v) w, h => h
  | .ok .skip w, h => h
  | .ok (.defer d) w, h => h
  | .ok (.enter f args) w, h => ⟨fun h => (by cases h), show CallsIn Fence.wide (n - 1) P f args w _ from callsIn_wide.2 h⟩
  | .ok (.row row args) w, h => ⟨fun h => (by cases h), fun c cs _ => by
      obtain ⟨v, w', r, s⟩ := h c cs
      exact ⟨v, w', r, show StepsIn (Machine.fenced P Fence.wide) P _ _ from stepsIn_wide.2 s⟩⟩
  | .ok (.round l f tmps assign body) w, h => h.elim
  | .halt (.panic v) w, h => h
  | .halt h' w, h => by
    cases h' <;> first | exact h | exact h.elim

theorem wpOps_round {P : Program} {ops : Array Oper} {Q : Exit → Act → World → Prop} (n l : Nat) (hd : ∀ (i : Nat) (o : Oper), ops[i]? = some o → ∀ c, o.op ≠ .defer c) (hQ : ¬ LetsOut Q) :
    ∀ (li : List Nat) (a : Act) (w : World), wpOps P ops Q li a w → wpOpsIn (Fence.wide.inRound l) n P ops Q li a w
  | [], a, w, h => h
  | i :: rest, a, w, h => by
    rw [wpOps] at h
    rw [wpOpsIn]
    cases ho : ops[i]? with
    | none =>
      rw [ho] at h
      exact wpOps_round n l hd hQ rest a w h
    | some o =>
      rw [ho] at h
      simp only [] at h ⊢
      by_cases hw : Region.wanted o (yielded ops a.tmps) = true
      · rw [if_pos hw] at h ⊢
        refine ⟨fun _ _ => trivial, ?_⟩
        rcases h with h | ⟨_, h⟩
        · have h2 := Oper.wp_mono (fun a w h => wpOps_round n l hd hQ rest a w h) h
          rw [Oper.semAt_eq _ _ _ (hd i o ho)]
          exact upon_round n l _ h2
        · exact absurd h hQ
      · rw [if_neg hw] at h ⊢
        exact ⟨fun _ _ => trivial, wpOps_round n l hd hQ rest _ w h⟩

theorem region_round {P : Program} {ops : Array Oper} {Q : Exit → Act → World → Prop} {S : World → Prop} {n l id : Nat} {a : Act} {w : World} (hm : P.follows .mixedOrders = true) (hd : (ops.all fun o => match o.op with
      | .defer _ => false
      | _ => true) = true) (hQ : ¬ LetsOut Q) (hS : S w.drew)
    (h : S w.drew → wpAnyH P .any ops Q S ops.size (Array.replicate ops.size false) a w.drew) : (Code.region id ops true).wpIn (Fence.wide.inRound l) n P Q a w := by
  refine wpIn_region_draw fun t => wpOps_round n l (fun i o ho c hc => ?_) hQ _ _ _ ?_
  · have := Array.all_eq_true.1 hd i (Array.getElem?_eq_some_iff.1 ho).1
    rw [(Array.getElem?_eq_some_iff.1 ho).2, hc] at this
    cases this
  · simp only [Region.schedule, hm, Bool.true_or, if_true]
    exact wpAny_sound ops.size t _ a _ (wpAny_of_held _ _ _ _ (h hS))
/-- What a step of the loop's iterator leaves of a world that is known but for one block. -/
theorem abT_grown {n q : Nat} {w0 : World} (h0 : n = w0.heap.size) : AbT n (fun _ W => w0.grownBy W (some q)) := fun k A B row h hg hr => by
  refine ⟨hg.os.trans h.os, hg.tape.trans h.tape, hg.output.trans h.output, Nat.le_trans h.size hg.size, fun i hi hne => ?_⟩
  have hiA : i < A.heap.size := Nat.lt_of_lt_of_le hi h.size
  refine (hg.block i hiA (fun e => ?_)).trans (h.block i hi hne)
  have := (hr i e.symm).1
  omega
theorem abT_block {n q : Nat} {X : Nat → Obj} (hq : q < n) : AbT n (fun k W => W.heap[q]? = some (X k)) := fun k A B row h hg hr => by
  refine (hg.block q (Array.getElem?_eq_some_iff.1 h).1 (fun e => ?_)).trans h
  have := (hr q e.symm).1
  omega
theorem body_end {n0 r : Nat} {W W' : World} {cs : Array Value} {ty : TypeId} (hg : W.grownBy W' (some r)) (hc : W.heap[r]? = some (.cells cs ty (0, 0))) (ht : ty ≠ 51) (h1 : n0 ≤ r) (h3 : n0 ≤ W.heap.size) : KeepsOthers W W' ∧ KpT n0 W W' := by
  refine ⟨KeepsOthers.of_grownBy hg (fun j o e ho => ?_), ⟨(Below.refl n0 W).grown hg h3 (fun k e => by cases e; exact h1), fun i hs => ?_⟩⟩
  · cases e
    rw [hc] at ho
    cases ho
    rfl
  · obtain ⟨cs2, e⟩ := hs
    exact hg.block i (Array.getElem?_eq_some_iff.1 e).1 (fun e2 => by
      cases e2
      rw [hc] at e
      injection e with e
      injection e with _ e _
      exact ht e)
theorem elems_at (s : S4) (k : Nat) (h : k < (finL (elems s.f)).length) : ∃ p, (((finL (elems s.f))[k]).1 : Nat) = p ∧ p < 256 ∧ hasS s p = true ∧ (elems s.f).take (k + 1) = (elems s.f).take k ++ [p] := by
  have h2 : k < (elems s.f).length := by rw [← finL_len]; exact h
  have hm := List.getElem_mem h2
  have hlt := elems_lt s.f _ hm
  refine ⟨(elems s.f)[k], ?_, hlt, ((mem_elems s.f _).1 hm).2, ?_⟩
  · simp only [finL, finB, List.getElem_map]
    omega
  · rw [List.take_add_one]
    simp [h2]

/-- What makerOf answers. -/
def sA : Value → Option Addr
  | .slice A _ _ => A
  | _ => none
def sC : Value → Nat
  | .slice _ _ c => c
  | _ => 0
def GotMk (W0 : World) (S : Nat) (E : List Ed) (X : List Int) (Ax : Option Addr) (nx cx : Nat) (e : Ending) (W1 : World) : Prop :=
  ∃ n1 g gm gr gf ge Af Ae cf ce Al nl cls, e = .returned (.pointer (some ⟨g, 0, none⟩)) ∧ StD W0 W1 n1 g gm gr S E gf ge Af Ae cf ce ∧ (leastsE E).length = nl ∧
    (∀ W', Kp n1 g gm gr W1 W' → ∀ k (h : k < (leastsE E).length), ∃ ad, Al = some ad ∧ W'.cell? (ad.add k) = some (.int .u8 (((leastsE E)[k] : Nat) : Int))) ∧
    MkW W0 W1 n1 g gm gr S (fun c => (classE E c : Int)) X (fun _ => False) ⟨.slice none 0 0, .slice none 0 0, .slice Ax nx cx, .slice (some ⟨gf, 0, none⟩) S S, .slice (some ⟨ge, 0, none⟩) S S, .slice Al nl cls, .slice none 0 0⟩ 0 [] [] [] [] W1
theorem made {W W1 : World} {S : Nat} {E : List Ed} {X : List Int} {Ax : Option Addr} {nx cx b0 n2 g gm gr gf ge : Nat} {sf se : Nat → Value} {vl : Value} (hs1 : 1 ≤ S) (hs2 : S ≤ 2048) (hed : EdN S E) (he2 : E.length ≤ 8192)
    (h1 : W1.heap[g]? = some (.cells (mkT (fun c => (classE E c : Int)) [.slice none 0 0, .slice none 0 0, .slice Ax nx cx, .slice (some ⟨gf, 0, none⟩) S S, .slice (some ⟨ge, 0, none⟩) S S, vl, .slice none 0 0, .map (some gm), .slice (some ⟨gr, 0, none⟩) S S, .int .i64 0]) 63 (0, 0)))
    (h2 : Hn W1 gr S (fun _ => 0)) (h3 : MapD W1 gm []) (h4 : GrR W1 b0 gf 23 3 1 S sf (fun s => (freesD E s).length) (fun s => (freesD E s).map nv)) (h5 : GrR W1 b0 ge 22 53 7 S se (fun s => (edgesD E s).length) (fun s => cellsEs (edgesD E s)))
    (h6 : Below W.heap.size W W1) (h7 : W1.ownsRow n2 5 1 vl ((leastsE E).map (fun n : Nat => Value.int .u8 (n : Int))).length ((leastsE E).map (fun n : Nat => Value.int .u8 (n : Int)))) (hb0 : b0 ≤ n2) (hb1 : n2 ≤ W1.heap.size)
    (lg : g < b0) (lm : gm < b0) (lr : gr < b0) (ug : W.heap.size ≤ g) (um : W.heap.size ≤ gm) (ur : W.heap.size ≤ gr) (d1 : gf ≠ g) (d2 : gf ≠ gm) (d3 : gf ≠ gr) (d4 : ge ≠ g) (d5 : ge ≠ gm) (d6 : ge ≠ gr) (d7 : g ≠ gm) (d8 : gr ≠ g) (d9 : gr ≠ gm) :
    GotMk W S E X Ax nx cx (.returned (.pointer (some ⟨g, 0, none⟩))) W1 := by
  have hf := h4.row.lt
  have he := h5.row.lt
  have hlen := (leasts_len E).1
  rw [List.length_map] at h7
  obtain ⟨gl, cap, rfl, hgl, hgl2⟩ := h7.form (by omega)
  have pl : Pl W W1.heap.size g gm gr S := ⟨hs1, hs2, ug, um, ur, by omega, by omega, by omega, d7, fun e => d8 e.symm, fun e => d9 e.symm⟩
  have kf : ∀ W', Kp W1.heap.size g gm gr W1 W' → ∀ i, i < W1.heap.size → (b0 ≤ i ∨ i = gf ∨ i = ge) → W'.heap[i]? = W1.heap[i]? := fun W' kp i hi h => by
    refine kp.keep i hi ?_ ?_ ?_ <;> rcases h with h | rfl | rfl <;> omega
  refine ⟨W1.heap.size, g, gm, gr, gf, ge, fun s => sA (sf s), fun s => sA (se s), fun s => sC (sf s), fun s => sC (se s), some ⟨gl, 0, none⟩, _, cap, rfl, ⟨pl, hed, he2, fun W' kp s hs => ?_, fun W' kp s hs => ?_⟩, rfl, fun W' kp k hk => ⟨_, rfl, ?_⟩, ?_⟩
  · have h4' : GrR W' b0 gf 23 3 1 S sf (fun s => (freesD E s).length) (fun s => (freesD E s).map nv) := h4.keep (kf W' kp gf hf (Or.inr (Or.inl rfl))) (fun k q hk e => kf W' kp q (h4.blk hk q e).2 (Or.inl (h4.blk hk q e).1))
    obtain ⟨A, n, c, e, hn, _, _, hr⟩ := OwnI.form (l := freesD E s) (h4'.own s hs)
    have hc := h4'.row.cell hs
    rw [e] at hc
    have hn2 : (freesD E s).length = n := hn.out
    rw [e]
    subst hn2
    exact ⟨hc, hr⟩
  · have h5' : GrR W' b0 ge 22 53 7 S se (fun s => (edgesD E s).length) (fun s => cellsEs (edgesD E s)) := h5.keep (kf W' kp ge he (Or.inr (Or.inr rfl))) (fun k q hk e => kf W' kp q (h5.blk hk q e).2 (Or.inl (h5.blk hk q e).1))
    obtain ⟨A, n, c, e, hn, _, _, hr⟩ := OwnE.form (l := edgesD E s) (h5'.own s hs)
    have hc := h5'.row.cell hs
    rw [e] at hc
    have hn2 : (edgesD E s).length = n := hn.out
    rw [e]
    subst hn2
    exact ⟨hc, hr⟩
  · have hq := World.ownsRow.cells h7 (g := gl) rfl k (.int .u8 (((leastsE E)[k] : Nat) : Int)) (by rw [List.getElem?_map, List.getElem?_eq_getElem hk]; rfl)
    refine cell_keep ?_ hq
    rw [add_block]
    exact kf W' kp gl hgl2 (Or.inl (by omega))
  · refine ⟨⟨fun _ => 0, ⟨h1, h2, ⟨Nat.le_refl _, fun _ _ _ _ _ => rfl⟩, h6⟩, fun s _ => Nat.le_refl _⟩, h3, ⟨[], World.ownsRow_nil _ _ _ _, rfl, fun i hi => absurd hi (by simp)⟩, World.ownsRow_nil _ _ _ _, ⟨[], World.ownsRow_nil _ _ _ _, rfl, fun i hi => absurd hi (by simp)⟩, fun i e => absurd e (own_none i)⟩

end Go.Proofs.YtcgfogdfcdndgaaGreatDoor
