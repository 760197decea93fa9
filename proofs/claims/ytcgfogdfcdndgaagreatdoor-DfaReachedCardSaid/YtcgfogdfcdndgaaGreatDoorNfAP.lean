/- A walk over a net: how it lies; reach puts a state behind others, unless this round has reached it. -/
import Derived.Test.YtcgfogdfcdndgaaGreatDoorRgNP
import Derived.Test.YtcgfogdfcdndgaaGreatDoorSetMP
import Derived.Maps.OwnOps
import Derived.Maps.OwnSet
import Derived.Maps.Views
import Derived.Maps.Keyed
import Derived.BigQuiet
set_option linter.unusedVariables false
set_option linter.unusedSimpArgs false
namespace Go.Proofs.YtcgfogdfcdndgaaGreatDoor
open Go.RowKit

def cellsE (e : Ed) : List Value := [.int .i64 e.fr, .int .i64 e.to, dv e.set.w0, dv e.set.w1, dv e.set.w2, dv e.set.w3, .bool e.free]
/-- A slice reads as edges. -/
def RdE (w : World) (A : Option Addr) (l : List Ed) : Prop := ∀ i (h : i < l.length), ∃ ad, A = some ad ∧ ∀ j u, (cellsE l[i])[j]? = some u → w.cell? ((ad.add (i * 7)).add j) = some u
theorem RdE.below {w w' : World} {A : Option Addr} {l : List Ed} (h : RdE w A l) (hb : Below w.heap.size w w') : RdE w' A l := fun i hi => by
  obtain ⟨ad, e, hc⟩ := h i hi
  exact ⟨ad, e, fun j u hu => (hb.cell (World.block_lt_of_cell? w _ (hc j u hu))).trans (hc j u hu)⟩
/-- Numbers that a call made. -/
def OwnI (w : World) (base : Nat) (v : Value) (l : List Nat) : Prop := w.ownsRow base 3 1 v l.length (l.map nv)
theorem OwnI.nil (w : World) (base : Nat) : OwnI w base (.slice none 0 0) [] := World.ownsRow_nil _ _ _ _
theorem OwnI.form {w : World} {base : Nat} {v : Value} {l : List Nat} (h : OwnI w base v l) :
    ∃ A n c, v = .slice A n c ∧ Hid (l.length = n) ∧ n ≤ c ∧ c ≤ maxLen ∧ RdZ w A l := by
  rcases h.2 with ⟨rfl, hn⟩ | ⟨g, cap, cur, rfl, _, hg, hnc, hcm, hcs, ht⟩
  · exact ⟨none, 0, 0, rfl, hn, Nat.le_refl _, by simp [maxLen], fun i hi => by omega⟩
  · refine ⟨some ⟨g, 0, none⟩, _, cap, rfl, rfl, hnc, hcm, fun i hi => ⟨_, rfl, ?_⟩⟩
    have := World.ownsRow.cells h (g := g) rfl i (nv l[i]) (by rw [List.getElem?_map, List.getElem?_eq_getElem hi]; rfl)
    exact this
theorem OwnI.more {w : World} {base base' : Nat} {v : Value} {l : List Nat} (h : OwnI w base v l) (hb : base' ≤ base) : OwnI w base' v l := by
  refine ⟨h.1, ?_⟩
  rcases h.2 with h | ⟨g, cap, cur, e, hg, r⟩
  · exact Or.inl h
  · exact Or.inr ⟨g, cap, cur, e, Nat.le_trans hb hg, r⟩
/-- What is neither the walk's, nor the list's, stays. -/
structure Fr (g gm : Nat) (v : Value) (W W' : World) : Prop where
  size : W.heap.size ≤ W'.heap.size
  keep : ∀ i, i < W.heap.size → i ≠ g → i ≠ gm → v.ownBlock ≠ some i → W'.heap[i]? = W.heap[i]?
theorem Fr.refl (g gm : Nat) (v : Value) (W : World) : Fr g gm v W W := ⟨Nat.le_refl _, fun _ _ _ _ _ => rfl⟩
theorem Fr.trans {g gm : Nat} {v v' : Value} {W W' W'' : World} (h : Fr g gm v W W') (h' : Fr g gm v' W' W'') (hv : ∀ i, v'.ownBlock = some i → v.ownBlock = some i ∨ W.heap.size ≤ i) : Fr g gm v W W'' := by
  refine ⟨Nat.le_trans h.size h'.size, fun i hi h1 h2 h3 => ?_⟩
  rw [h'.keep i (Nat.lt_of_lt_of_le hi h.size) h1 h2 (fun e => by rcases hv i e with e | e; exact h3 e; omega), h.keep i hi h1 h2 h3]
theorem Fr.own {g gm : Nat} {v : Value} {W W' : World} (h : Fr g gm v W W') {base : Nat} {u : Value} {l : List Nat} (ho : OwnI W base u l) (hg : g < base) (hgm : gm < base) (huv : ∀ i, u.ownBlock = some i → v.ownBlock ≠ some i) : OwnI W' base u l := by
  refine ⟨ho.1, ?_⟩
  rcases ho.2 with h0 | ⟨b, cap, cur, e, hb, hgb, r⟩
  · exact Or.inl h0
  · refine Or.inr ⟨b, cap, cur, e, hb, ?_, r⟩
    rw [h.keep b (Array.getElem?_eq_some_iff.1 hgb).1 (by omega) (by omega) (huv b (by rw [e]; rfl))]
    exact hgb

/-- What does not turn: the net, and where the walk lies. -/
structure Sta (W0 : World) (n1 g gm gb gp : Nat) (S : Nat) (Ae : Option Addr) (ne ce : Nat) (E : List Ed) (fb fp : Nat → Nat) : Prop where
  s1 : 1 ≤ S
  s2 : S ≤ 2048
  en : E.length = ne
  e2 : ne ≤ 8192
  ec : ne ≤ ce
  ed : EdN S E
  re : RdE W0 Ae E
  bg : ∀ s, s < S → fb s ≤ fb (s + 1) ∧ fb (s + 1) ≤ ne ∧ (outsE E s).length = fb (s + 1) - fb s ∧ ∀ j (h : j < (outsE E s).length), ∃ (h' : fp (fb s + j) < E.length), E[fp (fb s + j)] = (outsE E s)[j]
  lg : W0.heap.size ≤ g
  lm : W0.heap.size ≤ gm
  lb : W0.heap.size ≤ gb
  lp : W0.heap.size ≤ gp
  ug : g < n1
  um : gm < n1
  ub : gb < n1
  up : gp < n1
  gm_ne : g ≠ gm
  gb_ne : gb ≠ g ∧ gb ≠ gm
  gp_ne : gp ≠ g ∧ gp ≠ gm
def MapF (W : World) (gm B : Nat) (S : Nat) (f : Nat → Nat) : Prop := ∃ n D, n ≤ B ∧ Maps.IsMap D ∧ W.ownsMap (H := Unit) Tryz.prog 3 (plainElem Tryz.prog 3) gm n D ∧ ∀ s : Nat, s < S → D.atKey (.int .i64 (s : Int)) (.lit (.int .i64 0)) = .lit (.int .i64 ((f s : Nat) : Int))
/-- The walk in a round. -/
structure WkS (W0 : World) (n1 g gm gb gp : Nat) (S : Nat) (Ae : Option Addr) (ne ce : Nat) (Xv : Value) (fb fp : Nat → Nat) (rd : Nat) (f : Nat → Nat) (l : List Nat) (W : World) : Prop where
  cells : W.heap[g]? = some (.cells #[.int .i64 (S : Int), .slice Ae ne ce, Xv, .slice (some ⟨gb, 0, none⟩) (S + 1) (S + 1), .slice (some ⟨gp, 0, none⟩) ne ne, .int .i64 (rd : Int), .map (some gm)] 118 (0, 0))
  map : MapF W gm (2048 * rd + l.length) S f
  now : ∀ s, s < S → f s ≤ rd ∧ (f s = rd ↔ s ∈ l)
  hb : Hn W gb (S + 1) fb
  hp : Hn W gp ne fp
  below : Below W0.heap.size W0 W
  nd : l.Nodup
  inn : InN S l
  sz : n1 ≤ W.heap.size

theorem keyed_int : Maps.Keyed Tryz.prog 3 := Maps.int_keyed Tryz.underlying3
theorem key_of (s : Nat) (hs : s < 100000) : keyOf Tryz.prog 3 (.int .i64 (s : Int)) = some (.int .i64 (s : Int)) := by
  have hu := Tryz.underlying3
  have hw : (Lit.int .i64 (s : Int)).wf = true := by simp [Lit.wf, IntKind.min, IntKind.max, IntKind.signed, IntKind.bits]; omega
  simp [keyOf, mapKey, hu, hw]
set_option maxRecDepth 20000 in
theorem zero_int (w : World) : (zeroValue 3).run Tryz.prog w = .ok (.int .i64 0) w := by kernel_rfl
set_option maxRecDepth 20000 in
theorem MapF.look {W : World} {gm B S : Nat} {f : Nat → Nat} (h : MapF W gm B S f) {s : Nat} (hs : s < S) (hS : S ≤ 2048) : (Instr.lookup 116 (.map (some gm)) (.int .i64 (s : Int)) false).run Tryz.prog W = .ok (.int .i64 ((f s : Nat) : Int)) W := by
  obtain ⟨n, D, _, _, ho, hf⟩ := h
  obtain ⟨c, hrun, hat, _⟩ := ho.lookup_int keyed_int Tryz.underlying116 Tryz.underlying3 (zero_int W) (key_of s (by omega))
  rw [hf s hs] at hat
  injection hat with hat
  injection hat with _ hat
  rw [hrun, hat]
set_option maxRecDepth 20000 in
theorem MapF.put {W : World} {gm B S : Nat} {f : Nat → Nat} (h : MapF W gm B S f) {s r : Nat} (hs : s < S) (hS : S ≤ 2048) (hB : B < maxLen) (hr : r < 100000000) :
    ∃ W', (Instr.mapUpdate 116 (.map (some gm)) (.int .i64 (s : Int)) (.int .i64 (r : Int))).run Tryz.prog W = .ok () W' ∧ MapF W' gm (B + 1) S (upd f s r) ∧ W.grownBy W' (some gm) := by
  obtain ⟨n, D, hn, hm, ho, hf⟩ := h
  have hw : (Lit.int .i64 (r : Int)).wf = true := by simp [Lit.wf, IntKind.min, IntKind.max, IntKind.signed, IntKind.bits]; omega
  obtain ⟨W', hrun, ho', hg⟩ := ho.update keyed_int Tryz.underlying116 (by omega) (key_of s (by omega)) (plainElem_int Tryz.underlying3 hw)
  refine ⟨W', hrun, ⟨n + 1, _, by omega, hm.put _ _, ho', fun t ht => ?_⟩, hg⟩
  unfold upd
  by_cases hts : t = s
  · subst hts
    rw [if_pos rfl]
    exact Maps.atKey_put_same hm (by exact trivial) _ _
  · rw [if_neg hts, ← hf t ht]
    exact Maps.atKey_put_other (fun e => hts (by injection e with _ e; exact Int.ofNat.inj e)) _ _

section
variable {W0 W W' : World} {n1 g gm gb gp S : Nat} {Ae : Option Addr} {ne ce : Nat} {E : List Ed} {Xv : Value} {fb fp : Nat → Nat} {rd : Nat} {f : Nat → Nat} {l : List Nat}
theorem WkS.c5 (h : WkS W0 n1 g gm gb gp S Ae ne ce Xv fb fp rd f l W) : W.cell? ⟨g, 5, none⟩ = some (.int .i64 (rd : Int)) := cell_of_row W g 5 _ _ _ h.cells
theorem WkS.c6 (h : WkS W0 n1 g gm gb gp S Ae ne ce Xv fb fp rd f l W) : W.cell? ⟨g, 6, none⟩ = some (.map (some gm)) := cell_of_row W g 6 _ _ _ h.cells
theorem WkS.c1 (h : WkS W0 n1 g gm gb gp S Ae ne ce Xv fb fp rd f l W) : W.cell? ⟨g, 1, none⟩ = some (.slice Ae ne ce) := cell_of_row W g 1 _ _ _ h.cells
theorem WkS.c3 (h : WkS W0 n1 g gm gb gp S Ae ne ce Xv fb fp rd f l W) : W.cell? ⟨g, 3, none⟩ = some (.slice (some ⟨gb, 0, none⟩) (S + 1) (S + 1)) := cell_of_row W g 3 _ _ _ h.cells
theorem WkS.c4 (h : WkS W0 n1 g gm gb gp S Ae ne ce Xv fb fp rd f l W) : W.cell? ⟨g, 4, none⟩ = some (.slice (some ⟨gp, 0, none⟩) ne ne) := cell_of_row W g 4 _ _ _ h.cells
theorem WkS.drew (h : WkS W0 n1 g gm gb gp S Ae ne ce Xv fb fp rd f l W) : WkS W0 n1 g gm gb gp S Ae ne ce Xv fb fp rd f l W.drew :=
  ⟨h.cells, h.map, h.now, h.hb, h.hp, bl_drewN h.below 1, h.nd, h.inn, h.sz⟩
theorem WkS.len (h : WkS W0 n1 g gm gb gp S Ae ne ce Xv fb fp rd f l W) (hS : S ≤ 2048) : l.length ≤ 2048 := Nat.le_trans (len_le h.nd h.inn) hS
theorem MapF.grown {W W' : World} {gm B S : Nat} {f : Nat → Nat} {r : Option Nat} (h : MapF W gm B S f) (hg : W.grownBy W' r) (hr : some gm ≠ r) : MapF W' gm B S f := by
  obtain ⟨n, D, h1, h2, h3, h4⟩ := h
  exact ⟨n, D, h1, h2, h3.kept hg hr, h4⟩
/-- All of it stays where other memory is made, or another block turns. -/
theorem WkS.grown (h : WkS W0 n1 g gm gb gp S Ae ne ce Xv fb fp rd f l W) (st : Sta W0 n1 g gm gb gp S Ae ne ce E fb fp) {r : Option Nat} (hg : W.grownBy W' r) (hr : ∀ i, r = some i → n1 ≤ i) : WkS W0 n1 g gm gb gp S Ae ne ce Xv fb fp rd f l W' := by
  have ne_of : ∀ b, b < n1 → some b ≠ r := fun b hb e => by have := hr b e.symm; omega
  have kp : ∀ b, b < n1 → W'.heap[b]? = W.heap[b]? := fun b hb => hg.block b (by have := h.sz; omega) (ne_of b hb)
  refine ⟨(kp g st.ug).trans h.cells, h.map.grown hg (ne_of gm st.um), h.now, (kp gb st.ub).trans h.hb, (kp gp st.up).trans h.hp, bl_grown h.below hg (fun i e => by have := hr i e; have := st.lg; have := st.ug; omega), h.nd, h.inn, Nat.le_trans h.sz hg.size⟩
end
def GotLs (st : Value → List Nat → World → Prop) (g gm : Nat) (v : Value) (W : World) (l : List Nat) (e : Ending) (W' : World) : Prop :=
  ∃ v', e = .returned v' ∧ st v' l W' ∧ Fr g gm v W W' ∧ ∀ i, v'.ownBlock = some i → v.ownBlock = some i ∨ W.heap.size ≤ i
theorem Fr.of_grown {g gm : Nat} {v : Value} {W W' : World} {r : Option Nat} (hg : W.grownBy W' r) (hr : ∀ i, r = some i → i = g ∨ i = gm ∨ v.ownBlock = some i) : Fr g gm v W W' :=
  ⟨hg.size, fun i hi h1 h2 h3 => hg.block i hi (fun e => by rcases hr i e.symm with h | h | h; exact h1 h; exact h2 h; exact h3 h)⟩
theorem one_row (w : World) (v : Value) (t : TypeId) : ∀ j u, [v][j]? = some u → (w.alloc (.cells #[v] t)).cell? ((⟨w.heap.size, 0, none⟩ : Addr).add j) = some u := by
  intro j u hj
  match j, hj with
  | 0, hj =>
    simp at hj
    subst hj
    have := heap_alloc_new w (.cells #[v] t)
    exact cell_of_row _ _ 0 _ _ _ this

set_option maxRecDepth 100000 in
set_option maxHeartbeats 4000000 in
theorem reach_any {W0 : World} {n1 g gm gb gp S : Nat} {Ae : Option Addr} {ne ce : Nat} {E : List Ed} {Xv : Value} {fb fp : Nat → Nat} (st : Sta W0 n1 g gm gb gp S Ae ne ce E fb fp)
    (rd : Nat) (hrd : rd < 100000) (f : Nat → Nat) (l : List Nat) (v : Value) (s : Nat) (hs : s < S) (W : World) (h : WkS W0 n1 g gm gb gp S Ae ne ce Xv fb fp rd f l W) (ho : OwnI W n1 v l) :
    Calls Tryz.prog 94 #[.pointer (some ⟨g, 0, none⟩), v, .int .i64 (s : Int)] W
      (GotLs (fun v' l' W' => OwnI W' n1 v' l' ∧ ∃ f', WkS W0 n1 g gm gb gp S Ae ne ce Xv fb fp rd f' l' W') g gm v W (reachE l s)) := by
  generalize hQ : GotLs (fun v' l' W' => OwnI W' n1 v' l' ∧ ∃ f', WkS W0 n1 g gm gb gp S Ae ne ce Xv fb fp rd f' l' W') g gm v W (reachE l s) = Q
  have HQ := Lib.hid hQ
  have H0 := Lib.hid h
  have HO := Lib.hid ho
  clear hQ h ho
  obtain ⟨A, n, c, rfl, HL, hnc, hcm, _⟩ := HO.out.form
  go_enter Tryz.func94, Tryz.ntmps94
  go_wp2_with fail
  refine wp_region_held_drew (S := WkS W0 n1 g gm gb gp S Ae ne ce Xv fb fp rd f l) (by kernel_rfl) H0.out.drew (fun hHeld => ?_)
  try simp only [zzA, zzB, zzC, Act.put, zzD, zzE, zzF]
  refine wpAnyH_take (i := 0) (v := ?vza0) rfl (by kernel_rfl) (by kernel_rfl) (by kernel_rfl) (fun _ _ _ h => h) (Or.inl ⟨by rfl, ?yza0⟩) hHeld ?rza0
  case yza0 => (intro wS hSw; clear hSw; go_simp; try (with_reducible rfl))
  try simp only [zzA, zzB, zzC, Act.put, zzD, zzE, zzF]
  refine wpAnyH_take (i := 1) (v := ?vza1) rfl (by kernel_rfl) (by kernel_rfl) (by kernel_rfl) (fun _ _ _ h => h) (Or.inl ⟨by rfl, ?yza1⟩) hHeld ?rza1
  case yza1 => (intro wS hSw; clear hSw; go_simp; try (with_reducible rfl))
  try simp only [zzA, zzB, zzC, Act.put, zzD, zzE, zzF]
  refine wpAnyH_take (i := 2) (v := ?vza2) rfl (by kernel_rfl) (by kernel_rfl) (by kernel_rfl) (fun _ _ _ h => h) (Or.inl ⟨by rfl, ?yza2⟩) hHeld ?rza2
  case yza2 => (intro wS hSw; clear hSw; go_simp; try (with_reducible rfl))
  try simp only [zzA, zzB, zzC, Act.put, zzD, zzE, zzF]
  refine wpAnyH_take (i := 3) (v := ?vza3) rfl (by kernel_rfl) (by kernel_rfl) (by kernel_rfl) (fun _ _ _ h => h) (Or.inl ⟨by rfl, ?yza3⟩) hHeld ?rza3
  case yza3 => (intro wS hSw; have q := hSw.c6; clear hSw; go_simp; try (with_reducible rfl))
  try simp only [zzA, zzB, zzC, Act.put, zzD, zzE, zzF]
  refine wpAnyH_take (i := 4) (v := ?vza4) rfl (by kernel_rfl) (by kernel_rfl) (by kernel_rfl) (fun _ _ _ h => h) (Or.inl ⟨by rfl, ?yza4⟩) hHeld ?rza4
  case yza4 => (intro wS hSw; clear hSw; go_simp; try (with_reducible rfl))
  try simp only [zzA, zzB, zzC, Act.put, zzD, zzE, zzF]
  refine wpAnyH_take (i := 5) (v := ?vza5) rfl (by kernel_rfl) (by kernel_rfl) (by kernel_rfl) (fun _ _ _ h => h) (Or.inl ⟨by rfl, ?yza5⟩) hHeld ?rza5
  case yza5 => (intro wS hSw; have q := hSw.map.look hs st.s2; clear hSw; go_simp; try (with_reducible rfl))
  try simp only [zzA, zzB, zzC, Act.put, zzD, zzE, zzF]
  refine wpAnyH_take (i := 6) (v := ?vza6) rfl (by kernel_rfl) (by kernel_rfl) (by kernel_rfl) (fun _ _ _ h => h) (Or.inl ⟨by rfl, ?yza6⟩) hHeld ?rza6
  case yza6 => (intro wS hSw; clear hSw; go_simp; try (with_reducible rfl))
  try simp only [zzA, zzB, zzC, Act.put, zzD, zzE, zzF]
  refine wpAnyH_take (i := 7) (v := ?vza7) rfl (by kernel_rfl) (by kernel_rfl) (by kernel_rfl) (fun _ _ _ h => h) (Or.inl ⟨by rfl, ?yza7⟩) hHeld ?rza7
  case yza7 => (intro wS hSw; clear hSw; go_simp; try (with_reducible rfl))
  try simp only [zzA, zzB, zzC, Act.put, zzD, zzE, zzF]
  refine wpAnyH_take (i := 8) (v := ?vza8) rfl (by kernel_rfl) (by kernel_rfl) (by kernel_rfl) (fun _ _ _ h => h) (Or.inl ⟨by rfl, ?yza8⟩) hHeld ?rza8
  case yza8 => (intro wS hSw; clear hSw; go_simp; try (with_reducible rfl))
  try simp only [zzA, zzB, zzC, Act.put, zzD, zzE, zzF]
  refine wpAnyH_take (i := 9) (v := ?vza9) rfl (by kernel_rfl) (by kernel_rfl) (by kernel_rfl) (fun _ _ _ h => h) (Or.inl ⟨by rfl, ?yza9⟩) hHeld ?rza9
  case yza9 => (intro wS hSw; have q := hSw.c5; clear hSw; go_simp; try (with_reducible rfl))
  try simp only [zzA, zzB, zzC, Act.put, zzD, zzE, zzF]
  refine wpAnyH_take (i := 10) (v := ?vza10) rfl (by kernel_rfl) (by kernel_rfl) (by kernel_rfl) (fun _ _ _ h => h) (Or.inl ⟨by rfl, ?yza10⟩) hHeld ?rza10
  case yza10 => (intro wS hSw; clear hSw; go_simp; try (with_reducible rfl))
  try simp only [zzA, zzB, zzC, Act.put, zzD, zzE, zzF]
  refine wpAnyH_done (by kernel_rfl) ?_ _
  have H1 := Lib.hid hHeld
  have HO1 := Lib.hid (show OwnI W.drew n1 (.slice A n c) l from HO.out)
  have FR1 := Lib.hid (show Fr g gm (.slice A n c) W W.drew from ⟨Nat.le_refl _, fun _ _ _ _ _ => rfl⟩)
  clear hHeld H0 HO
  generalize W.drew = W1 at *
  obtain ⟨hle, hiff⟩ := H1.out.now s hs
  by_cases hin : s ∈ l
  · have hfe := hiff.2 hin
    have e1 : (((f s : Nat) : Int) == (rd : Int)) = true := by rw [hfe]; simp
    have hre : reachE l s = l := by rw [reachE, if_pos hin]
    clear hfe hle hiff
    go_wp2_with fail
    refine post_is HQ ?_
    rw [hre]
    exact ⟨_, rfl, ⟨HO1.out, f, H1.out⟩, FR1.out, fun i hi => Or.inl hi⟩
  · have hfe : f s ≠ rd := fun e => hin (hiff.1 e)
    have e1 : (((f s : Nat) : Int) == (rd : Int)) = false := by simp; omega
    have hre : reachE l s = l ++ [s] := by rw [reachE, if_neg hin]
    clear hfe hle hiff
    go_wp2_with fail
    refine wp_region_held_drew (S := fun W => W.cell? ⟨g, 5, none⟩ = some (.int .i64 (rd : Int)) ∧ W.cell? ⟨g, 6, none⟩ = some (.map (some gm))) (by kernel_rfl) ⟨H1.out.drew.c5, H1.out.drew.c6⟩ (fun hHeld => ?_)
    have H1d := Lib.hid H1.out.drew
    have HO1d := Lib.hid (show OwnI W1.drew n1 (.slice A n c) l from HO1.out)
    have FR1d := Lib.hid (show Fr g gm (.slice A n c) W W1.drew from ⟨FR1.out.size, FR1.out.keep⟩)
    clear H1 HO1 FR1
    generalize W1.drew = Wd at *
    try simp only [zzA, zzB, zzC, Act.put, zzD, zzE, zzF]
    refine wpAnyH_take (i := 0) (v := ?vzb0) rfl (by kernel_rfl) (by kernel_rfl) (by kernel_rfl) (fun _ _ _ h => h) (Or.inl ⟨by rfl, ?yzb0⟩) hHeld ?rzb0
    case yzb0 => (intro wS hSw; clear hSw; go_simp; try (with_reducible rfl))
    try simp only [zzA, zzB, zzC, Act.put, zzD, zzE, zzF]
    refine wpAnyH_take (i := 1) (v := ?vzb1) rfl (by kernel_rfl) (by kernel_rfl) (by kernel_rfl) (fun _ _ _ h => h) (Or.inl ⟨by rfl, ?yzb1⟩) hHeld ?rzb1
    case yzb1 => (intro wS hSw; clear hSw; go_simp; try (with_reducible rfl))
    try simp only [zzA, zzB, zzC, Act.put, zzD, zzE, zzF]
    refine wpAnyH_take (i := 2) (v := ?vzb2) rfl (by kernel_rfl) (by kernel_rfl) (by kernel_rfl) (fun _ _ _ h => h) (Or.inl ⟨by rfl, ?yzb2⟩) hHeld ?rzb2
    case yzb2 => (intro wS hSw; clear hSw; go_simp; try (with_reducible rfl))
    try simp only [zzA, zzB, zzC, Act.put, zzD, zzE, zzF]
    refine wpAnyH_take (i := 3) (v := ?vzb3) rfl (by kernel_rfl) (by kernel_rfl) (by kernel_rfl) (fun _ _ _ h => h) (Or.inl ⟨by rfl, ?yzb3⟩) hHeld ?rzb3
    case yzb3 => (intro wS hSw; have q := hSw.2; clear hSw; go_simp; try (with_reducible rfl))
    try simp only [zzA, zzB, zzC, Act.put, zzD, zzE, zzF]
    refine wpAnyH_take (i := 4) (v := ?vzb4) rfl (by kernel_rfl) (by kernel_rfl) (by kernel_rfl) (fun _ _ _ h => h) (Or.inl ⟨by rfl, ?yzb4⟩) hHeld ?rzb4
    case yzb4 => (intro wS hSw; clear hSw; go_simp; try (with_reducible rfl))
    try simp only [zzA, zzB, zzC, Act.put, zzD, zzE, zzF]
    refine wpAnyH_take (i := 5) (v := ?vzb5) rfl (by kernel_rfl) (by kernel_rfl) (by kernel_rfl) (fun _ _ _ h => h) (Or.inl ⟨by rfl, ?yzb5⟩) hHeld ?rzb5
    case yzb5 => (intro wS hSw; clear hSw; go_simp; try (with_reducible rfl))
    try simp only [zzA, zzB, zzC, Act.put, zzD, zzE, zzF]
    refine wpAnyH_take (i := 6) (v := ?vzb6) rfl (by kernel_rfl) (by kernel_rfl) (by kernel_rfl) (fun _ _ _ h => h) (Or.inl ⟨by rfl, ?yzb6⟩) hHeld ?rzb6
    case yzb6 => (intro wS hSw; clear hSw; go_simp; try (with_reducible rfl))
    try simp only [zzA, zzB, zzC, Act.put, zzD, zzE, zzF]
    refine wpAnyH_take (i := 7) (v := ?vzb7) rfl (by kernel_rfl) (by kernel_rfl) (by kernel_rfl) (fun _ _ _ h => h) (Or.inl ⟨by rfl, ?yzb7⟩) hHeld ?rzb7
    case yzb7 => (intro wS hSw; clear hSw; go_simp; try (with_reducible rfl))
    try simp only [zzA, zzB, zzC, Act.put, zzD, zzE, zzF]
    refine wpAnyH_take (i := 8) (v := ?vzb8) rfl (by kernel_rfl) (by kernel_rfl) (by kernel_rfl) (fun _ _ _ h => h) (Or.inl ⟨by rfl, ?yzb8⟩) hHeld ?rzb8
    case yzb8 => (intro wS hSw; have q := hSw.1; clear hSw; go_simp; try (with_reducible rfl))
    try simp only [zzA, zzB, zzC, Act.put, zzD, zzE, zzF]
    refine wpAnyH_ready (rs := [9]) (by kernel_rfl) (by simp) (AllReadyH.cons rfl (fun K hK => ?_) AllReadyH.nil)
    obtain ⟨W2, hrun, hmap2, hg2⟩ := H1d.out.map.put (r := rd) hs st.s2 (by have := H1d.out.len st.s2; simp only [maxLen]; omega) (by omega)
    have kp : ∀ b, b < n1 → b ≠ gm → W2.heap[b]? = Wd.heap[b]? := fun b hb hne => (hg2.block b (by have := H1d.out.sz; show b < Wd.heap.size; omega) (fun e => hne (Option.some.inj e)))
    have k5 : W2.cell? ⟨g, 5, none⟩ = some (.int .i64 (rd : Int)) := cell_of_row W2 g 5 _ _ _ ((kp g st.ug st.gm_ne).trans H1d.out.cells)
    have k6 : W2.cell? ⟨g, 6, none⟩ = some (.map (some gm)) := cell_of_row W2 g 6 _ _ _ ((kp g st.ug st.gm_ne).trans H1d.out.cells)
    go_simp
    refine hK.out _ _ ⟨k5, k6⟩ (fun hHeld => ?_)
    clear hK K hHeld hrun
    try simp only [zzA, zzB, zzC, Act.put, zzD, zzE, zzF]
    refine wpAnyH_done (by kernel_rfl) ?_ _
    have hfr2 : Fr g gm (.slice A n c) W W2 := FR1d.out.trans (show Fr g gm (.slice A n c) Wd W2 from Fr.of_grown (show Wd.grownBy W2 (some gm) from hg2) (fun i e => Or.inr (Or.inl (Option.some.inj e).symm))) (fun i hi => Or.inl hi)
    have FR2 := Lib.hid hfr2
    have ho2 : OwnI W2 n1 (.slice A n c) l := World.ownsRow.kept HO1d.out (show Wd.grownBy W2 (some gm) from hg2) (Or.inr (fun e => by have := (World.ownsRow.lt HO1d.out _ e).1; have := st.um; omega))
    have HO2 := Lib.hid ho2
    have hsz2 : n1 ≤ W2.heap.size := Nat.le_trans H1d.out.sz hg2.size
    have KP := Lib.hid kp
    have MP := Lib.hid hmap2
    have GR := Lib.hid (show Wd.grownBy W2 (some gm) from hg2)
    have SZ2 := Lib.hid hsz2
    obtain ⟨i0, hi, hz0, hz1, hz2⟩ := info_parts info_int
    have HLB := Lib.hid (H1d.out.len st.s2)
    clear hfr2 ho2 hsz2 kp hmap2 hg2 k5 k6 FR1d HO1d
    go_wp2_with (at_builtin; refine wpList_append_lies _ rfl _ _ 23 rfl n1 3 i0 (.int .i64 0) 1 8 Tryz.underlying23 hi hz0 hz1 hz2 rfl (by decide) (.slice A n c) l.length (l.map nv) rfl (World.ownsRow.alloc HO2.out (.cells #[.int .i64 (s : Int)] 3)) ⟨W2.heap.size, 0, none⟩ 1 1 [.int .i64 (s : Int)] rfl rfl (one_row _ _ _) (by simp [Value.oneCell']) (by omega) (by have := HLB.out; simp only [maxLen]; omega) (by have := HLB.out; omega) (by have := SZ2.out; simp; omega) _ rfl ?_; intro g3 c3 W3 ho3 hg3 hat3 hlt3)
    have hw2 : WkS W0 n1 g gm gb gp S Ae ne ce Xv fb fp rd (upd f s rd) (l ++ [s]) W2 := by
      have h1 := H1d.out
      refine ⟨(KP.out g st.ug st.gm_ne).trans h1.cells, ?_, fun t ht => ?_, (KP.out gb st.ub st.gb_ne.2).trans h1.hb, (KP.out gp st.up st.gp_ne.2).trans h1.hp, bl_grown h1.below GR.out (fun i e => by cases e; exact st.lm), ?_, ?_, SZ2.out⟩
      · rw [List.length_append, List.length_singleton, ← Nat.add_assoc]
        exact MP.out
      · unfold upd
        by_cases hts : t = s
        · rw [if_pos hts]
          exact ⟨Nat.le_refl _, fun _ => by rw [hts]; simp, fun _ => rfl⟩
        · rw [if_neg hts]
          have := h1.now t ht
          exact ⟨this.1, fun e => List.mem_append.2 (Or.inl (this.2.1 e)), fun e => by
            rcases List.mem_append.1 e with e | e
            · exact this.2.2 e
            · exact absurd (List.mem_singleton.1 e) hts⟩
      · have := nodup_reach (s := s) h1.nd
        rwa [hre] at this
      · have := in_reach h1.inn hs
        rwa [hre] at this
    have hob : ∀ i, (Value.slice A n c).ownBlock = some i → n1 ≤ i := fun i e => (World.ownsRow.lt HO2.out i e).1
    have hw3 := (hw2.grown st (World.grownBy_alloc W2 (.cells #[.int .i64 (s : Int)] 3) none) (fun i e => by cases e)).grown st hg3 hob
    have hfr3 := (FR2.out.trans (Fr.of_grown (g := g) (gm := gm) (v := .slice A n c) (World.grownBy_alloc W2 (.cells #[.int .i64 (s : Int)] 3) none) (fun i e => by cases e)) (fun i e => Or.inl e)).trans (Fr.of_grown (g := g) (gm := gm) (v := .slice A n c) hg3 (fun i e => Or.inr (Or.inr e))) (fun i e => Or.inl e)
    have ho4 : OwnI W3 n1 (.slice (some ⟨g3, 0, none⟩) (l.length + 1) c3) (l ++ [s]) := by
      unfold OwnI
      rw [List.length_append, List.length_singleton, List.map_append]
      exact ho3
    have hnew : ∀ i, (Value.slice (some ⟨g3, 0, none⟩) (l.length + 1) c3).ownBlock = some i → (Value.slice A n c).ownBlock = some i ∨ W.heap.size ≤ i := fun i e => by
      obtain rfl : g3 = i := Option.some.inj e
      rcases hat3 with h | h
      · exact Or.inl h
      · right
        have := FR2.out.size
        rw [h]
        simp
        omega
    go_wp2_with fail
    refine post_is HQ ?_
    rw [hre]
    exact ⟨_, rfl, ⟨ho4, _, hw3⟩, hfr3, hnew⟩

end Go.Proofs.YtcgfogdfcdndgaaGreatDoor

/- A walk over a net: states once; those behind an edge that is asked for. -/
set_option linter.unusedVariables false
set_option linter.unusedSimpArgs false
namespace Go.Proofs.YtcgfogdfcdndgaaGreatDoor
open Go.RowKit

/-- A list of states, and the walk, where the round has reached just these. -/
def Now (W0 : World) (n1 g gm gb gp S : Nat) (Ae : Option Addr) (ne ce : Nat) (Xv : Value) (fb fp : Nat → Nat) (rd : Nat) (v : Value) (l : List Nat) (W : World) : Prop :=
  OwnI W n1 v l ∧ ∃ f, WkS W0 n1 g gm gb gp S Ae ne ce Xv fb fp rd f l W
/-- A list of numbers reads so, whatever the walk does. -/
def Stays (g gm : Nat) (W : World) (A : Option Addr) (xs : List Nat) : Prop := ∀ W', Fr g gm (.slice none 0 0) W W' → RdZ W' A xs
theorem Fr.wide {g gm : Nat} {v : Value} {W W' W2 : World} (h : Fr g gm (.slice none 0 0) W W') (h2 : Fr g gm v W' W2) (hv : ∀ i, v.ownBlock = some i → W.heap.size ≤ i) : Fr g gm (.slice none 0 0) W W2 :=
  h.trans h2 (fun i e => Or.inr (hv i e))
theorem own_none (i : Nat) : (Value.slice none 0 0).ownBlock ≠ some i := by simp [Value.ownBlock]

set_option maxRecDepth 100000 in
set_option maxHeartbeats 4000000 in
theorem once_any {W0 : World} {n1 g gm gb gp S : Nat} {Ae : Option Addr} {ne ce : Nat} {E : List Ed} {Xv : Value} {fb fp : Nat → Nat} (st : Sta W0 n1 g gm gb gp S Ae ne ce E fb fp)
    (rd : Nat) (hrd : rd + 1 < 100000) (l0 : List Nat) (A : Option Addr) (n c : Nat) (xs : List Nat) (hn : xs.length = n) (hn2 : n ≤ 140737488355328) (hxs : InN S xs) (W : World) (h : ∃ f, WkS W0 n1 g gm gb gp S Ae ne ce Xv fb fp rd f l0 W) (hst : Stays g gm W A xs) :
    Calls Tryz.prog 71 #[.pointer (some ⟨g, 0, none⟩), .slice A n c] W
      (GotLs (Now W0 n1 g gm gb gp S Ae ne ce Xv fb fp (rd + 1)) g gm (.slice none 0 0) W (onceE xs)) := by
  obtain ⟨r1, hr1⟩ : ∃ r, rd + 1 = r := ⟨_, rfl⟩
  rw [hr1] at hrd ⊢
  generalize hQ : GotLs (Now W0 n1 g gm gb gp S Ae ne ce Xv fb fp r1) g gm (.slice none 0 0) W (onceE xs) = Q
  have HQ := Lib.hid hQ
  obtain ⟨f, h⟩ := h
  have k5 := h.c5
  have fz := frozen_of_row W g 5 _ _ h.cells
  have hg1 : W.grownBy (W.setCell ⟨g, 5, none⟩ (.int .i64 (r1 : Int))) (some g) := grown_set W g 5 _
  have kp : ∀ b, b ≠ g → (W.setCell ⟨g, 5, none⟩ (.int .i64 (r1 : Int))).heap[b]? = W.heap[b]? := fun b hb => Below.heap_setCell _ _ _ _ (fun e => hb e)
  have h1 : WkS W0 n1 g gm gb gp S Ae ne ce Xv fb fp r1 f [] (W.setCell ⟨g, 5, none⟩ (.int .i64 (r1 : Int))) := by
    refine ⟨heap_setCell_same W g 5 _ _ _ h.cells, ?_, fun s hs => ⟨by have := (h.now s hs).1; omega, fun e => by have := (h.now s hs).1; omega, fun e => absurd e (by simp)⟩, (kp gb st.gb_ne.1).trans h.hb, (kp gp st.gp_ne.1).trans h.hp, bl_grown h.below hg1 (fun i e => by cases e; exact st.lg), List.nodup_nil, fun x hx => absurd hx (by simp), by have := h.sz; simpa using this⟩
    obtain ⟨nm, D, b1, b2, b3, b4⟩ := h.map.grown hg1 (fun e => st.gm_ne (Option.some.inj e).symm)
    exact ⟨nm, D, by have := h.len st.s2; simp only [List.length_nil]; omega, b2, b3, b4⟩
  have fr1 : Fr g gm (.slice none 0 0) W (W.setCell ⟨g, 5, none⟩ (.int .i64 (r1 : Int))) := Fr.of_grown hg1 (fun i e => Or.inl (Option.some.inj e).symm)
  have e1 : (rd : Int) + 1 = (r1 : Int) := by omega
  have H1 := Lib.hid h1
  have FR1 := Lib.hid fr1
  have HST := Lib.hid hst
  have HX := Lib.hid hxs
  have HN := Lib.hid hn
  have SZ := Lib.hid h.sz
  clear hQ h hg1 kp h1 fr1 hst hxs hn
  go_enter Tryz.func71, Tryz.ntmps71
  go_upto_region 2 with fail
  generalize W.setCell ⟨g, 5, none⟩ (.int .i64 (r1 : Int)) = W1 at *
  clear k5 fz e1
  go_wp2_with fail
  go_loopw [5, 17] (fun vl vi wr => ∃ k : Nat, k ≤ n ∧ vi = .int .i64 (k : Int) ∧ Hid (Now W0 n1 g gm gb gp S Ae ne ce Xv fb fp r1 vl ((xs.take k).foldl reachE []) wr) ∧ Hid (Fr g gm (.slice none 0 0) W wr) ∧ Hid (∀ i, vl.ownBlock = some i → W.heap.size ≤ i)) (fun _ vi _ => n - (intOf vi).toNat)
  case atStart => exact ⟨0, Nat.zero_le _, rfl, ⟨OwnI.nil _ _, f, H1.out⟩, FR1.out, fun i e => absurd e (own_none i)⟩
  case round =>
    obtain ⟨k, hk, rfl, NW, FRk, NEW⟩ := hrel
    clear H1 FR1
    by_cases hlt : k < n
    · have hkl : k < xs.length := by rw [HN.out]; exact hlt
      obtain ⟨ad, hA, hc1⟩ := HST.out wr FRk.out k hkl
      subst hA
      have hsx : xs[k] < S := HX.out _ (List.getElem_mem hkl)
      have TK := Lib.hid (show (xs.take (k + 1)).foldl reachE [] = reachE ((xs.take k).foldl reachE []) xs[k] by rw [List.take_succ_eq_append_getElem hkl, List.foldl_append]; rfl)
      generalize xs[k] = s at *
      generalize (xs.take k).foldl reachE [] = lk at *
      obtain ⟨ho, f', hw⟩ := NW.out
      have HCON := Lib.hid (reach_any st r1 (by omega) f' lk u5 s hsx wr hw ho)
      clear hkl ho hw NW
      go_wp2_with fail
      refine HCON.out.mono ?_
      rintro e w2 ⟨v', rfl, nw', fr', new'⟩
      have N2 := Lib.hid nw'
      have F2 := Lib.hid (FRk.out.wide fr' NEW.out)
      have NE2 := Lib.hid (fun i e => (new' i e).elim (fun h => NEW.out i h) (fun h => Nat.le_trans FRk.out.size h))
      clear nw' fr' new' HCON FRk NEW hc1
      go_wp2_with fail
      refine ⟨⟨k + 1, by omega, by go_num, ?_, F2.out, NE2.out⟩, by simp [intOf]; omega⟩
      unfold Hid
      rw [TK.out]
      exact N2.out
    · obtain rfl : k = n := by omega
      have hall : (xs.take k).foldl reachE [] = onceE xs := by rw [List.take_of_length_le (by rw [HN.out]; omega)]; rfl
      rw [hall] at NW
      go_wp2_with fail
      refine post_is HQ ?_
      exact ⟨_, rfl, NW.out, FRk.out, fun i e => Or.inr (NEW.out i e)⟩

end Go.Proofs.YtcgfogdfcdndgaaGreatDoor
